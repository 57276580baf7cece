/-
  The verifier's copies of rows, each in memory of its own.
-/
import Derived.Test.YtocigdcbfbnfoaaMs
namespace Go.Proofs.Ytocigdcbfbnfoaa
open Go.RowKit

def blkOf : Value → Option Nat
  | .slice (some a) _ _ => some a.block
  | _ => none
/-- Each row lies in a block of its own, from base on. -/
def Own (base : Nat) (w : World) (us : List Value) : Prop :=
  (∀ i, i < us.length → ∃ g m c, us.getD i undef = .slice (some ⟨g, 0, none⟩) m c ∧ base ≤ g ∧ g < w.heap.size) ∧
  ∀ i j, i < j → j < us.length → blkOf (us.getD i undef) ≠ blkOf (us.getD j undef)
theorem Own.nil (base : Nat) (w : World) : Own base w [] := ⟨fun i hi => by simp at hi, fun i j _ hj => by simp at hj⟩
theorem getD_append_left' {us : List Value} {u : Value} {i : Nat} (h : i < us.length) : (us ++ [u]).getD i undef = us.getD i undef := by
  rw [List.getD_eq_getElem?_getD, List.getElem?_append_left h, ← List.getD_eq_getElem?_getD]
theorem getD_append_last' (us : List Value) (u : Value) : (us ++ [u]).getD us.length undef = u := by
  rw [List.getD_eq_getElem?_getD, List.getElem?_append_right (Nat.le_refl _)]
  simp
theorem Own.append {base g m c : Nat} {w w1 w2 : World} {us : List Value} (h : Own base w us) (hg : w.heap.size ≤ g) (hg2 : g < w1.heap.size) (hb : base ≤ g) (_ : w.heap.size ≤ w1.heap.size) (h2 : w1.heap.size ≤ w2.heap.size) :
    Own base w2 (us ++ [.slice (some ⟨g, 0, none⟩) m c]) := by
  obtain ⟨ha, hd⟩ := h
  refine ⟨fun i hi => ?_, fun i j hij hj => ?_⟩
  · rw [List.length_append, List.length_singleton] at hi
    by_cases e : i < us.length
    · obtain ⟨g', m', c', q1, q2, q3⟩ := ha i e
      exact ⟨g', m', c', by rw [getD_append_left' e]; exact q1, q2, by omega⟩
    · obtain rfl : i = us.length := by omega
      exact ⟨g, m, c, getD_append_last' _ _, hb, by omega⟩
  · rw [List.length_append, List.length_singleton] at hj
    by_cases e : j < us.length
    · rw [getD_append_left' e, getD_append_left' (by omega)]
      exact hd i j hij e
    · obtain rfl : j = us.length := by omega
      rw [getD_append_last', getD_append_left' hij]
      obtain ⟨g', m', c', q1, q2, q3⟩ := ha i hij
      rw [q1]
      simp [blkOf]
      omega
def RwsO (base : Nat) (w : World) (v : Value) (L : List (List Int)) : Prop :=
  ∃ us, w.ownsRow base 33 1 v L.length us ∧ (∀ i, i < L.length → Bs w (us.getD i undef) (L.getD i []) ∧ Rb base w (us.getD i undef)) ∧ Own base w us
theorem RwsO.nil (base : Nat) (w : World) : RwsO base w (.slice none 0 0) [] := ⟨[], World.ownsRow_nil w base 33 1, fun i hi => absurd hi (by simp), Own.nil _ _⟩
theorem RwsO.rws {base : Nat} {w : World} {v : Value} {L : List (List Int)} (h : RwsO base w v L) : Rws base w v L := by
  obtain ⟨us, h1, h2, _⟩ := h
  exact ⟨us, h1, h2⟩
theorem Rws.append' {base : Nat} {w w' : World} {v v' u : Value} {L : List (List Int)} {l : List Int} {us : List Value} (ho : w.ownsRow base 33 1 v L.length us) (hr : ∀ i, i < L.length → Bs w (us.getD i undef) (L.getD i []) ∧ Rb base w (us.getD i undef))
    (hb : Bs w u l) (hrb : Rb base w u) (hown : w'.ownsRow base 33 1 v' (L.length + 1) (us ++ [u])) (hg : w.grownBy w' v.ownBlock) :
    w'.ownsRow base 33 1 v' (L ++ [l]).length (us ++ [u]) ∧ ∀ i, i < (L ++ [l]).length → Bs w' ((us ++ [u]).getD i undef) ((L ++ [l]).getD i []) ∧ Rb base w' ((us ++ [u]).getD i undef) := by
  have hlen : us.length = L.length := by have := ho.1; omega
  have hrow := ownsRow_not_bytes ho
  refine ⟨by rw [List.length_append]; exact hown, fun i hi => ?_⟩
  rw [List.length_append, List.length_singleton] at hi
  by_cases e : i < L.length
  · rw [List.getD_eq_getElem?_getD, List.getD_eq_getElem?_getD, List.getElem?_append_left (by omega), List.getElem?_append_left e, ← List.getD_eq_getElem?_getD, ← List.getD_eq_getElem?_getD]
    exact Rb.kept (hr i e).1 (hr i e).2 hg.block hrow
  · obtain rfl : i = L.length := by omega
    have e1 : (us ++ [u]).getD L.length undef = u := by rw [List.getD_eq_getElem?_getD, List.getElem?_append_right (by omega), hlen]; simp
    have e2 : (L ++ [l]).getD L.length [] = l := by rw [List.getD_eq_getElem?_getD, List.getElem?_append_right (by omega)]; simp
    rw [e1, e2]
    exact Rb.kept hb hrb hg.block hrow
/-- A store of one byte of the first row. -/
theorem RwsO.poke {base : Nat} {w : World} {v : Value} {L : List (List Int)} (h : RwsO base w v L) (h0 : 0 < L.length) (h1 : 0 < (L.getD 0 []).length) :
    ∃ gv cv g c, v = .slice (some ⟨gv, 0, none⟩) L.length cv ∧ w.cell? ⟨gv, 0, none⟩ = some (.slice (some ⟨g, 0, none⟩) (L.getD 0 []).length c) ∧ w.cell? ⟨g, 0, none⟩ = some (.int .u8 ((L.getD 0 []).getD 0 0)) ∧ w.frozen? ⟨g, 0, none⟩ = false ∧ base ≤ g ∧ L.length ≤ cv ∧ (L.getD 0 []).length ≤ c ∧
      ∀ z, Byt z → Bss (w.setCell ⟨g, 0, none⟩ (.int .u8 z)) v (L.set 0 ((L.getD 0 []).set 0 z)) := by
  obtain ⟨us, ho, hr, ho1, ho2⟩ := h
  obtain ⟨gv, cv, rfl, c1, c2, c3, c4, c5⟩ := ownsRow_cell ho h0
  obtain ⟨g, m, c, e0, e1, e2⟩ := ho1 0 (by omega)
  obtain ⟨r1, r2⟩ := hr 0 h0
  rw [e0] at r1 r2
  obtain ⟨b1, oa, c', he, b2, b3, b4, b5⟩ := r1
  obtain ⟨rfl, rfl, rfl⟩ : some (⟨g, 0, none⟩ : Addr) = oa ∧ m = (L.getD 0 []).length ∧ c = c' := by simpa using he
  obtain ⟨cur, hcur⟩ : ∃ cur, w.heap[g]? = some (.cells cur 5 (0, 0)) := by
    rcases r2 _ _ _ rfl h1 with h | h
    · exact absurd h (by simp; omega)
    · exact h
  have hgv : gv ≠ g := fun e => by
    have := (ownsRow_not_bytes ho gv rfl).2 cur
    rw [e] at this
    exact this hcur
  have hb0 := b5 _ rfl 0 h1
  refine ⟨gv, cv, g, c, rfl, by rw [c5 0 h0, e0], by have := hb0; rw [Addr.add_mid] at this; exact this, frozen_of_row w g 0 _ _ hcur, e1, c1, b2, fun z hz => ⟨some ⟨gv, 0, none⟩, cv, by rw [List.length_set], by rw [List.length_set]; exact c1, by unfold maxLen at c2; omega, (fun h => by cases h), fun a ha i hi => ?_⟩⟩
  cases ha
  rw [List.length_set] at hi
  rw [Addr.add_mid, Nat.zero_add]
  refine ⟨us.getD i undef, ?_, ?_⟩
  · have := c5 i hi
    rw [← this]
    exact World.cell?_setCell_other _ _ _ _ (fun e => hgv (by cases e; rfl))
  · by_cases e : i = 0
    · subst e
      rw [e0, List.getD_eq_getElem?_getD (l := L.set 0 _), List.getElem?_set_self h0]
      have hl : ((L.getD 0 []).set 0 z).length = (L.getD 0 []).length := List.length_set
      refine ⟨fun x hx => ?_, some ⟨g, 0, none⟩, c, by simp only [Option.getD_some]; rw [hl], by simp only [Option.getD_some]; rw [hl]; exact b2, b3, (fun h => by cases h), fun a ha j hj => ?_⟩
      · rcases List.mem_or_eq_of_mem_set hx with hx | rfl
        · exact b1 x hx
        · exact hz
      · cases ha
        simp only [Option.getD_some] at hj ⊢
        rw [hl] at hj
        by_cases ej : j = 0
        · subst ej
          rw [Addr.add_mid, cell_of_row _ g _ _ _ _ (heap_setCell_same _ _ _ _ _ _ hcur), List.getD_eq_getElem?_getD, List.getElem?_set_self h1]
          have : 0 < cur.size := by
            have hc := hb0
            rw [Addr.add_mid, cell_of_row _ g _ _ _ _ hcur] at hc
            have := (Array.getElem?_eq_some_iff.1 hc).1
            simpa using this
          simp [this]
        · have hcj := b5 _ rfl j hj
          rw [Addr.add_mid, Nat.zero_add] at hcj ⊢
          rw [List.getD_eq_getElem?_getD, List.getElem?_set_ne (fun h => ej h.symm), ← List.getD_eq_getElem?_getD, ← hcj]
          exact World.cell?_setCell_other _ _ _ _ (fun h => ej (by cases h; rfl))
    · rw [List.getD_eq_getElem?_getD (l := L.set 0 _), List.getElem?_set_ne (fun h => e h.symm), ← List.getD_eq_getElem?_getD]
      obtain ⟨g', m', c', q0, q1, q2⟩ := ho1 i (by omega)
      have hne := ho2 0 i (by omega) (by omega)
      rw [e0, q0] at hne
      have hne' : g' ≠ g := fun h => hne (by simp [blkOf, h])
      obtain ⟨s1, s2⟩ := hr i hi
      rw [q0] at s1 ⊢
      obtain ⟨t1, oa, c'', he', t2, t3, t4, t5⟩ := s1
      refine ⟨t1, oa, c'', he', t2, t3, t4, fun a ha j hj => ?_⟩
      have hae : a = ⟨g', 0, none⟩ := by
        have : some (⟨g', 0, none⟩ : Addr) = oa := (by simpa using he' : _ ∧ _).1
        rw [ha] at this
        cases this
        rfl
      rw [← t5 a ha j hj]
      subst hae
      exact World.cell?_setCell_other _ _ _ _ (fun h => hne' (by have := congrArg Addr.block h; simpa [Addr.add_mid] using this.symm))
end Go.Proofs.Ytocigdcbfbnfoaa
