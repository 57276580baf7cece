/-
  Slices of rows that a call has made itself: what they are, an append to one, a store into one.
-/
import Derived.Test.YtpckdjapkngpgaaDoorSs
import Derived.Deep.AppendLies
namespace Go.Proofs.YtpckdjapkngpgaaDoor
open Go.RowKit

/-- The row u has no cell in a block that is not of bytes, unless that is below base. -/
def Rb (base : Nat) (w : World) (u : Value) : Prop := ∀ a n c, u = .slice (some a) n c → 0 < n → a.block < base ∨ ∃ cur, w.heap[a.block]? = some (.cells cur 5 (0, 0))
/-- v is a slice of rows in memory from base on, and reads as L in w. -/
def Rws (base : Nat) (w : World) (v : Value) (L : List (List Int)) : Prop :=
  ∃ us, w.ownsRow base 22 1 v L.length us ∧ ∀ i, i < L.length → Bs w (us.getD i undef) (L.getD i []) ∧ Rb base w (us.getD i undef)
theorem Rws.nil (base : Nat) (w : World) : Rws base w (.slice none 0 0) [] := ⟨[], World.ownsRow_nil w base 22 1, fun i hi => absurd hi (by simp)⟩
theorem ownsRow_cell {w : World} {base : Nat} {e : TypeId} {v : Value} {n : Nat} {us : List Value} (h : w.ownsRow base e 1 v n us) (hn : 0 < n) :
    ∃ g c, v = .slice (some ⟨g, 0, none⟩) n c ∧ n ≤ c ∧ c ≤ maxLen ∧ base ≤ g ∧ us.length = n ∧ ∀ i, i < n → w.cell? ⟨g, i, none⟩ = some (us.getD i undef) := by
  obtain ⟨hl, ⟨_, h0⟩ | ⟨g, c, cur, rfl, hb, hg, h1, h2, h3, h4⟩⟩ := h
  · omega
  · refine ⟨g, c, rfl, h1, h2, hb, by omega, fun i hi => ?_⟩
    rw [cell_of_row w g i _ _ _ hg, ← h4]
    rw [Nat.mul_one] at h3 ⊢
    have hi2 : i < cur.toList.length := by simp; omega
    rw [List.getD_eq_getElem?_getD, List.getElem?_take_of_lt hi]
    simp [show i < cur.size by omega]
theorem Rws.bss {base : Nat} {w : World} {v : Value} {L : List (List Int)} (h : Rws base w v L) : Bss w v L := by
  obtain ⟨us, ho, hr⟩ := h
  by_cases h0 : 0 < L.length
  · obtain ⟨g, c, rfl, h1, h2, _, _, h3⟩ := ownsRow_cell ho h0
    refine ⟨some ⟨g, 0, none⟩, c, rfl, h1, by unfold maxLen at h2; omega, (fun h => by cases h), fun a ha i hi => ?_⟩
    cases ha
    rw [Addr.add_mid, Nat.zero_add]
    exact ⟨_, h3 i hi, (hr i hi).1⟩
  · obtain rfl : L = [] := List.eq_nil_of_length_eq_zero (by omega)
    obtain ⟨_, ⟨rfl, _⟩ | ⟨g, c, cur, rfl, hb, hg, h1, h2, h3, h4⟩⟩ := ho
    · exact Bss.nil w
    · exact ⟨some ⟨g, 0, none⟩, c, rfl, h1, by unfold maxLen at h2; omega, (fun h => by cases h), fun a ha i hi => by simp at hi⟩
/-- Where all but one block is as it was, and that one holds no bytes and lies from base on, rows are as they were. -/
theorem Rb.kept {base : Nat} {w w' : World} {u : Value} {l : List Int} {row : Option Nat} (hb : Bs w u l) (hr : Rb base w u)
    (hk : ∀ k, k < w.heap.size → some k ≠ row → w'.heap[k]? = w.heap[k]?) (hrow : ∀ g, row = some g → base ≤ g ∧ ∀ cur, w.heap[g]? ≠ some (.cells cur 5 (0, 0))) : Bs w' u l ∧ Rb base w' u := by
  have far : ∀ a n c, u = .slice (some a) n c → 0 < n → a.block < w.heap.size → w'.heap[a.block]? = w.heap[a.block]? := by
    intro a n c hu hn hlt
    refine hk _ hlt fun e => ?_
    obtain ⟨h1, h2⟩ := hrow a.block e.symm
    rcases hr a n c hu hn with h | ⟨cur, h⟩
    · omega
    · exact h2 cur h
  obtain ⟨h0, oa, c, rfl, h2, h3, h4, h5⟩ := hb
  refine ⟨⟨h0, oa, c, rfl, h2, h3, h4, fun a ha i hi => ?_⟩, fun a n c' hu hn => ?_⟩
  · have hc := h5 a ha i hi
    subst ha
    have hlt := World.block_lt_of_cell? w _ hc
    have hbl : (a.add i).block = a.block := by unfold Addr.add; split <;> rfl
    rw [hbl] at hlt
    rw [World.cell?_of_block (w := w) (w' := w') (a := a.add i) (by rw [hbl]; exact far a _ _ rfl (by omega) hlt)]
    exact hc
  · rcases hr a n c' hu hn with h | ⟨cur, h⟩
    · exact .inl h
    · refine .inr ⟨cur, ?_⟩
      have hlt : a.block < w.heap.size := by
        rcases Nat.lt_or_ge a.block w.heap.size with hlt | hge
        · exact hlt
        · rw [Array.getElem?_eq_none hge] at h
          cases h
      rw [far a n c' hu hn hlt, h]
theorem Rb.gr {base : Nat} {w w' : World} {u : Value} {l : List Int} (hb : Bs w u l) (hr : Rb base w u) (hg : Gr w w') : Bs w' u l ∧ Rb base w' u :=
  Rb.kept (row := none) hb hr (fun k hk _ => hg.2.2.2.2 k hk) (fun g h => by cases h)
theorem ownsRow_not_bytes {w : World} {base : Nat} {v : Value} {n : Nat} {us : List Value} (h : w.ownsRow base 22 1 v n us) : ∀ g, v.ownBlock = some g → base ≤ g ∧ ∀ cur, w.heap[g]? ≠ some (.cells cur 5 (0, 0)) := by
  intro g hg
  obtain ⟨_, ⟨rfl, _⟩ | ⟨g', c, cur, rfl, hb, hgg, _⟩⟩ := h
  · cases hg
  · simp [Value.ownBlock] at hg
    subst hg
    refine ⟨hb, fun cur' => ?_⟩
    rw [hgg]
    simp
/-- Behind an append of one row. -/
theorem Rws.append {base : Nat} {w w' : World} {v v' u : Value} {L : List (List Int)} {l : List Int} {us : List Value} (ho : w.ownsRow base 22 1 v L.length us) (hr : ∀ i, i < L.length → Bs w (us.getD i undef) (L.getD i []) ∧ Rb base w (us.getD i undef))
    (hb : Bs w u l) (hrb : Rb base w u) (hown : w'.ownsRow base 22 1 v' (L.length + 1) (us ++ [u])) (hg : w.grownBy w' v.ownBlock) : Rws base w' v' (L ++ [l]) := by
  have hlen : us.length = L.length := by have := ho.1; omega
  have hrow := ownsRow_not_bytes ho
  refine ⟨us ++ [u], by rw [List.length_append]; exact hown, fun i hi => ?_⟩
  rw [List.length_append, List.length_singleton] at hi
  by_cases e : i < L.length
  · rw [List.getD_eq_getElem?_getD, List.getD_eq_getElem?_getD, List.getElem?_append_left (by omega), List.getElem?_append_left e, ← List.getD_eq_getElem?_getD, ← List.getD_eq_getElem?_getD]
    exact Rb.kept (hr i e).1 (hr i e).2 hg.block hrow
  · obtain rfl : i = L.length := by omega
    have e1 : (us ++ [u]).getD L.length undef = u := by rw [List.getD_eq_getElem?_getD, List.getElem?_append_right (by omega), hlen]; simp
    have e2 : (L ++ [l]).getD L.length [] = l := by rw [List.getD_eq_getElem?_getD, List.getElem?_append_right (by omega)]; simp
    rw [e1, e2]
    exact Rb.kept hb hrb hg.block hrow
/-- The row lies in memory of bytes, from base on. -/
def Rn (base : Nat) (w : World) (u : Value) : Prop := ∀ a n c, u = .slice (some a) n c → 0 < n → base ≤ a.block ∧ ∃ cur, w.heap[a.block]? = some (.cells cur 5 (0, 0))
/-- v is a slice of rows, all of it in memory from base on, and reads as L in w. -/
def RwsN (base : Nat) (w : World) (v : Value) (L : List (List Int)) : Prop :=
  ∃ us, w.ownsRow base 22 1 v L.length us ∧ ∀ i, i < L.length → Bs w (us.getD i undef) (L.getD i []) ∧ Rn base w (us.getD i undef)
theorem RwsN.rws {base : Nat} {w : World} {v : Value} {L : List (List Int)} (h : RwsN base w v L) : Rws base w v L := by
  obtain ⟨us, h1, h2⟩ := h
  exact ⟨us, h1, fun i hi => ⟨(h2 i hi).1, fun a n c e hn => .inr ((h2 i hi).2 a n c e hn).2⟩⟩
theorem RwsN.bss {base : Nat} {w : World} {v : Value} {L : List (List Int)} (h : RwsN base w v L) : Bss w v L := h.rws.bss
theorem info22 : (Tryd.prog.info? 22).map (fun i => (i.zero, i.size, i.bytes)) = some (some (.slice none 0 0), 1, 24) := by kernel_rfl
end Go.Proofs.YtpckdjapkngpgaaDoor
