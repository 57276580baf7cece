/-
  Texts laid behind one another: Rl Cp Ss So Ev My Cs Lin Lim.
-/
import Derived.Test.YtbbglejdfbkjlaaGreatMpac
import Derived.Deep.QuietTactic
import Derived.BigQuiet
import Derived.Test.YtbbglejdfbkjlaaGreatMpab
import Derived.Deep.AppendLies
import Derived.Test.YtbbglejdfbkjlaaGreatMpaa
namespace Go.Proofs.YtbbglejdfbkjlaaGreat
open Go.RowKit
theorem Bs.slice {w : World} {a : Addr} {m cap : Nat} {t : List Int} (h : Bs w (.slice (some a) m cap) t) (hm : t.length = m) (lo hi : Nat) (h1 : lo ≤ hi) (h2 : hi ≤ m) :
  Bs w (.slice (if cap = lo then some a else some (a.add lo)) (hi - lo) (cap - lo)) ((t.drop lo).take (hi - lo)) := by
 obtain ⟨hb, oa, c, he, h3, h4, h5, h6⟩ := h
 cases he
 have hlen : ((t.drop lo).take (hi - lo)).length = hi - lo := by simp; omega
 refine ⟨fun x hx => hb x (List.mem_of_mem_drop (List.mem_of_mem_take hx)), _, cap - lo, by rw [hlen], by rw [hlen]; omega, by omega, ?_, ?_⟩
 ·intro hn
  split at hn <;> cases hn
 ·intro a' ha i hi2
  rw [hlen] at hi2
  rw [if_neg (by omega)] at ha
  cases ha
  rw [Addr.add_add', h6 a rfl (lo + i) (by omega)]
  congr 2
  rw [List.getD_eq_getElem?_getD, List.getD_eq_getElem?_getD, List.getElem?_take_of_lt hi2, List.getElem?_drop]
theorem ext_getD {x y : List Int} (hl : x.length = y.length) (h : ∀ i, i < x.length → x.getD i 0 = y.getD i 0) : x = y := eq_of_getD hl.symm h
theorem sumL_getD (x y : List Int) (i : Nat) (h : i < x.length) : (sumL x y).getD i 0 = addZ (x.getD i 0) (y.getD i 0) := lst_getD _ _ i h
theorem scaleL_getD (c : Int) (x : List Int) (i : Nat) (h : i < x.length) : (scaleL c x).getD i 0 = mulZ c (x.getD i 0) := lst_getD _ _ i h
theorem axL_getD (c : Int) (x y : List Int) (i : Nat) (h : i < x.length) : (axL c x y).getD i 0 = addZ (y.getD i 0) (mulZ c (x.getD i 0)) := lst_getD _ _ i h
theorem addZ_zero (a : Int) (ha : Byt a) : addZ a 0 = a := by rw [addZ_comm, addZ_zero_left a ha]
end Go.Proofs.YtbbglejdfbkjlaaGreat
namespace Go.Proofs.YtbbglejdfbkjlaaGreat
open Go.RowKit
theorem New.of_owns {w0 w : World} {g cap : Nat} {l : List Int} (hg : Gr w0 w) (hb : ∀ x ∈ l, Byt x) (h : w.ownsRow w0.heap.size 5 1 (.slice (some ⟨g, 0, none⟩) l.length cap) l.length (l.map (Value.int .u8))) : w0.heap.size ≤ g ∧ New w0 w (.slice (some ⟨g, 0, none⟩) l.length cap) l := by
 obtain ⟨_, h | h⟩ := h
 ·simp at h
 ·obtain ⟨g', cap', cur, he, h1, h2, h3, h4, _, h5⟩ := h
  simp only [Value.slice.injEq, Option.some.injEq, Addr.mk.injEq, and_true, true_and] at he
  obtain ⟨rfl, rfl⟩ := he
  refine ⟨h1, hg, hb, Or.inr ⟨g, cap, cur, rfl, h1, h2, h3, by unfold maxLen at h4; omega, fun i hi => ?_⟩⟩
  rw [Nat.mul_one] at h5
  have : (cur.toList.take l.length)[i]? = (l.map (Value.int .u8))[i]? := by rw [h5]
  rw [List.getElem?_take_of_lt hi] at this
  simpa [hi] using this
end Go.Proofs.YtbbglejdfbkjlaaGreat
namespace Go.Proofs.YtbbglejdfbkjlaaGreat
open Go.RowKit
def Bss (w : World) (v : Value) (L : List (List Int)) : Prop :=
 ∃ oa c, v = .slice oa L.length c ∧ L.length ≤ c ∧ c ≤ 9223372036854775807 ∧ (oa = none → c = 0) ∧ ∀ a, oa = some a → ∀ i, i < L.length → ∃ u, w.cell? (a.add i) = some u ∧ Bs w u (L.getD i [])
theorem Bss.nil (w : World) : Bss w (.slice none 0 0) [] := ⟨none, 0, rfl, by simp, by omega, fun _ => rfl, fun a h => by cases h⟩
theorem Bss.grown {w w' : World} {v : Value} {L : List (List Int)} (h : Bss w v L) (hg : Gr w w') : Bss w' v L := by
 obtain ⟨oa, c, h1, h2, h3, h4, h5⟩ := h
 refine ⟨oa, c, h1, h2, h3, h4, fun a ha i hi => ?_⟩
 obtain ⟨u, hu, hb⟩ := h5 a ha i hi
 exact ⟨u, cell_grown hg hu, Bs.grown hb hg⟩
theorem Bss.at {w : World} {v : Value} {L : List (List Int)} (h : Bss w v L) (hl : 0 < L.length) :
  ∃ a c, v = .slice (some a) L.length c ∧ L.length ≤ c ∧ c ≤ 9223372036854775807 ∧ ∀ i, i < L.length → ∃ u, w.cell? (a.add i) = some u ∧ Bs w u (L.getD i []) := by
 obtain ⟨oa, c, h1, h2, h3, h4, h5⟩ := h
 cases oa with
 | none => exact absurd (h4 rfl) (by omega)
 | some a => exact ⟨a, c, h1, h2, h3, h5 a rfl⟩
end Go.Proofs.YtbbglejdfbkjlaaGreat
namespace Go.Proofs.YtbbglejdfbkjlaaGreat
open Go.RowKit
def Rb (base : Nat) (w : World) (u : Value) : Prop := ∀ a n c, u = .slice (some a) n c → 0 < n → a.block < base ∨ ∃ cur, w.heap[a.block]? = some (.cells cur 5 (0, 0))
def Rws (base : Nat) (w : World) (v : Value) (L : List (List Int)) : Prop :=
 ∃ us, w.ownsRow base 25 1 v L.length us ∧ ∀ i, i < L.length → Bs w (us.getD i undef) (L.getD i []) ∧ Rb base w (us.getD i undef)
theorem Rws.nil (base : Nat) (w : World) : Rws base w (.slice none 0 0) [] := ⟨[], World.ownsRow_nil w base 25 1, fun i hi => absurd hi (by simp)⟩
theorem ownsRow_cell {w : World} {base : Nat} {e : TypeId} {v : Value} {n : Nat} {us : List Value} (h : w.ownsRow base e 1 v n us) (hn : 0 < n) :
  ∃ g c, v = .slice (some ⟨g, 0, none⟩) n c ∧ n ≤ c ∧ c ≤ maxLen ∧ base ≤ g ∧ us.length = n ∧ ∀ i, i < n → w.cell? ⟨g, i, none⟩ = some (us.getD i undef) := by
 obtain ⟨hl, ⟨_, h0⟩ | ⟨g, c, cur, rfl, hb, hg, h1, h2, h3, h4⟩⟩ := h
 ·omega
 ·refine ⟨g, c, rfl, h1, h2, hb, by omega, fun i hi => ?_⟩
  rw [cell_of_row w g i _ _ _ hg, ← h4]
  rw [Nat.mul_one] at h3 ⊢
  have hi2 : i < cur.toList.length := by simp; omega
  rw [List.getD_eq_getElem?_getD, List.getElem?_take_of_lt hi]
  simp [show i < cur.size by omega]
theorem Rws.bss {base : Nat} {w : World} {v : Value} {L : List (List Int)} (h : Rws base w v L) : Bss w v L := by
 obtain ⟨us, ho, hr⟩ := h
 by_cases h0 : 0 < L.length
 ·obtain ⟨g, c, rfl, h1, h2, _, _, h3⟩ := ownsRow_cell ho h0
  refine ⟨some ⟨g, 0, none⟩, c, rfl, h1, by unfold maxLen at h2; omega, (fun h => by cases h), fun a ha i hi => ?_⟩
  cases ha
  rw [Addr.add_mid, Nat.zero_add]
  exact ⟨_, h3 i hi, (hr i hi).1⟩
 ·obtain rfl : L = [] := List.eq_nil_of_length_eq_zero (by omega)
  obtain ⟨_, ⟨rfl, _⟩ | ⟨g, c, cur, rfl, hb, hg, h1, h2, h3, h4⟩⟩ := ho
  ·exact Bss.nil w
  ·exact ⟨some ⟨g, 0, none⟩, c, rfl, h1, by unfold maxLen at h2; omega, (fun h => by cases h), fun a ha i hi => by simp at hi⟩
theorem Rb.kept {base : Nat} {w w' : World} {u : Value} {l : List Int} {row : Option Nat} (hb : Bs w u l) (hr : Rb base w u)
  (hk : ∀ k, k < w.heap.size → some k ≠ row → w'.heap[k]? = w.heap[k]?) (hrow : ∀ g, row = some g → base ≤ g ∧ ∀ cur, w.heap[g]? ≠ some (.cells cur 5 (0, 0))) : Bs w' u l ∧ Rb base w' u := by
 have far : ∀ a n c, u = .slice (some a) n c → 0 < n → a.block < w.heap.size → w'.heap[a.block]? = w.heap[a.block]? := by
  intro a n c hu hn hlt
  refine hk _ hlt fun e => ?_
  obtain ⟨h1, h2⟩ := hrow a.block e.symm
  rcases hr a n c hu hn with h | ⟨cur, h⟩
  ·omega
  ·exact h2 cur h
 obtain ⟨h0, oa, c, rfl, h2, h3, h4, h5⟩ := hb
 refine ⟨⟨h0, oa, c, rfl, h2, h3, h4, fun a ha i hi => ?_⟩, fun a n c' hu hn => ?_⟩
 ·have hc := h5 a ha i hi
  subst ha
  have hlt := World.block_lt_of_cell? w _ hc
  have hbl : (a.add i).block = a.block := by unfold Addr.add; split <;> rfl
  rw [hbl] at hlt
  rw [World.cell?_of_block (w := w) (w' := w') (a := a.add i) (by rw [hbl]; exact far a _ _ rfl (by omega) hlt)]
  exact hc
 ·rcases hr a n c' hu hn with h | ⟨cur, h⟩
  ·exact .inl h
  ·refine .inr ⟨cur, ?_⟩
   have hlt : a.block < w.heap.size := by
    rcases Nat.lt_or_ge a.block w.heap.size with hlt | hge
    ·exact hlt
    ·rw [Array.getElem?_eq_none hge] at h
     cases h
   rw [far a n c' hu hn hlt, h]
theorem Rb.gr {base : Nat} {w w' : World} {u : Value} {l : List Int} (hb : Bs w u l) (hr : Rb base w u) (hg : Gr w w') : Bs w' u l ∧ Rb base w' u :=
 Rb.kept (row := none) hb hr (fun k hk _ => hg.2.2.2.2 k hk) (fun g h => by cases h)
theorem ownsRow_not_bytes {w : World} {base : Nat} {v : Value} {n : Nat} {us : List Value} (h : w.ownsRow base 25 1 v n us) : ∀ g, v.ownBlock = some g → base ≤ g ∧ ∀ cur, w.heap[g]? ≠ some (.cells cur 5 (0, 0)) := by
 intro g hg
 obtain ⟨_, ⟨rfl, _⟩ | ⟨g', c, cur, rfl, hb, hgg, _⟩⟩ := h
 ·cases hg
 ·simp [Value.ownBlock] at hg
  subst hg
  refine ⟨hb, fun cur' => ?_⟩
  rw [hgg]
  simp
theorem Rws.append {base : Nat} {w w' : World} {v v' u : Value} {L : List (List Int)} {l : List Int} {us : List Value} (ho : w.ownsRow base 25 1 v L.length us) (hr : ∀ i, i < L.length → Bs w (us.getD i undef) (L.getD i []) ∧ Rb base w (us.getD i undef))
  (hb : Bs w u l) (hrb : Rb base w u) (hown : w'.ownsRow base 25 1 v' (L.length + 1) (us ++ [u])) (hg : w.grownBy w' v.ownBlock) : Rws base w' v' (L ++ [l]) := by
 have hlen : us.length = L.length := by have := ho.1; omega
 have hrow := ownsRow_not_bytes ho
 refine ⟨us ++ [u], by rw [List.length_append]; exact hown, fun i hi => ?_⟩
 rw [List.length_append, List.length_singleton] at hi
 by_cases e : i < L.length
 ·rw [List.getD_eq_getElem?_getD, List.getD_eq_getElem?_getD, List.getElem?_append_left (by omega), List.getElem?_append_left e, ← List.getD_eq_getElem?_getD, ← List.getD_eq_getElem?_getD]
  exact Rb.kept (hr i e).1 (hr i e).2 hg.block hrow
 ·obtain rfl : i = L.length := by omega
  have e1 : (us ++ [u]).getD L.length undef = u := by rw [List.getD_eq_getElem?_getD, List.getElem?_append_right (by omega), hlen]; simp
  have e2 : (L ++ [l]).getD L.length [] = l := by rw [List.getD_eq_getElem?_getD, List.getElem?_append_right (by omega)]; simp
  rw [e1, e2]
  exact Rb.kept hb hrb hg.block hrow
def Rn (base : Nat) (w : World) (u : Value) : Prop := ∀ a n c, u = .slice (some a) n c → 0 < n → base ≤ a.block ∧ ∃ cur, w.heap[a.block]? = some (.cells cur 5 (0, 0))
def RwsN (base : Nat) (w : World) (v : Value) (L : List (List Int)) : Prop :=
 ∃ us, w.ownsRow base 25 1 v L.length us ∧ ∀ i, i < L.length → Bs w (us.getD i undef) (L.getD i []) ∧ Rn base w (us.getD i undef)
theorem RwsN.rws {base : Nat} {w : World} {v : Value} {L : List (List Int)} (h : RwsN base w v L) : Rws base w v L := by
 obtain ⟨us, h1, h2⟩ := h
 exact ⟨us, h1, fun i hi => ⟨(h2 i hi).1, fun a n c e hn => .inr ((h2 i hi).2 a n c e hn).2⟩⟩
theorem RwsN.bss {base : Nat} {w : World} {v : Value} {L : List (List Int)} (h : RwsN base w v L) : Bss w v L := h.rws.bss
theorem info22 : (Tryz.prog.info? 25).map (fun i => (i.zero, i.size, i.bytes)) = some (some (.slice none 0 0), 1, 24) := by kernel_rfl
end Go.Proofs.YtbbglejdfbkjlaaGreat
namespace Go.Proofs.YtbbglejdfbkjlaaGreat
open Go.RowKit
theorem ownsRow_form {w : World} {base : Nat} {e : TypeId} {v : Value} {n : Nat} {us : List Value} (h : w.ownsRow base e 1 v n us) : ∃ oa c, v = .slice oa n c := by
 obtain ⟨_, ⟨rfl, rfl⟩ | ⟨g, c, cur, rfl, _⟩⟩ := h
 ·exact ⟨_, _, rfl⟩
 ·exact ⟨_, _, rfl⟩
theorem Bs.form {w : World} {v : Value} {l : List Int} (h : Bs w v l) : ∃ oa c, v = .slice oa l.length c := by
 obtain ⟨_, oa, c, h, _⟩ := h
 exact ⟨oa, c, h⟩
end Go.Proofs.YtbbglejdfbkjlaaGreat
namespace Go.Proofs.YtbbglejdfbkjlaaGreat
open Go.RowKit
def mayL (L : List (List Int)) : Bool := L.all fun r => r.length == (L.getD 0 []).length && decide (r.length ≤ 64)
theorem mayL_false {L : List (List Int)} (i : Nat) (hi : i < L.length) (h : ¬ ((L.getD i []).length = (L.getD 0 []).length ∧ (L.getD i []).length ≤ 64)) : mayL L = false := by
 rw [← Bool.not_eq_true]
 intro c
 unfold mayL at c
 rw [List.all_eq_true] at c
 have := c (L.getD i []) (by rw [List.getD_eq_getElem?_getD, List.getElem?_eq_getElem hi]; exact List.getElem_mem hi)
 simp at this
 exact h (by simpa using this)
theorem mayL_true {L : List (List Int)} (h : ∀ i, i < L.length → (L.getD i []).length = (L.getD 0 []).length ∧ (L.getD i []).length ≤ 64) : mayL L = true := by
 unfold mayL
 rw [List.all_eq_true]
 intro r hr
 obtain ⟨i, hi, rfl⟩ := List.getElem_of_mem hr
 have := h i hi
 rw [List.getD_eq_getElem?_getD, List.getElem?_eq_getElem hi] at this
 simpa using this
theorem mayL_at {L : List (List Int)} (h : mayL L = true) (i : Nat) (hi : i < L.length) : (L.getD i []).length = (L.getD 0 []).length ∧ (L.getD i []).length ≤ 64 := by
 unfold mayL at h
 rw [List.all_eq_true] at h
 have := h (L.getD i []) (by rw [List.getD_eq_getElem?_getD, List.getElem?_eq_getElem hi]; exact List.getElem_mem hi)
 simpa using this
set_option maxHeartbeats 400000 in
theorem mayMat_core (a : Addr) (n c : Nat) (L : List (List Int)) (w : World) (hn : L.length = n) (h0 : 0 < n) (hnb : n ≤ 1000000)
  (hc : ∀ i, i < n → ∃ u, w.cell? (a.add i) = some u ∧ Bs w u (L.getD i [])) :
  Calls Tryz.prog 70 #[.slice (some a) n c] w fun e w' => e = .returned (.bool (mayL L)) ∧ Gr w w' := by
 have HC := Lib.hid hc
 have HN := Lib.hid hn
 clear hc hn
 go_enter Tryz.func70, Tryz.ntmps70
 go_wp2
 go_loopw [6] (fun i wr => ∃ k : Nat, k ≤ n ∧ i = .int .i64 k ∧ Gr w wr ∧ ∀ j, j < k → (L.getD j []).length = (L.getD 0 []).length ∧ (L.getD j []).length ≤ 64) (fun i _ => n - (intOf i).toNat)
 case atStart => exact ⟨0, by omega, rfl, Gr.refl _, by omega⟩
 case round =>
  obtain ⟨k, hk, rfl, hg, hs⟩ := hrel
  have HS := Lib.hid hs
  have G := Lib.hid hg
  clear hs hg
  by_cases hlt : k < n
  ·obtain ⟨u, h1, hu⟩ := HC.out k hlt
   obtain ⟨v, h2, hv⟩ := HC.out 0 h0
   have q1 := cell_grown G.out h1
   have q2 := cell_grown G.out h2
   rw [show a.add 0 = a from by simp [Addr.add]] at q2
   obtain ⟨ou, cu, rfl⟩ := hu.form
   obtain ⟨ov, cv, rfl⟩ := hv.form
   obtain ⟨p, hp⟩ : ∃ p, (L.getD k []).length = p := ⟨_, rfl⟩
   obtain ⟨q, hq⟩ : ∃ q, (L.getD 0 []).length = q := ⟨_, rfl⟩
   rw [hp] at q1
   rw [hq] at q2
   have HP := Lib.hid hp
   have HQ := Lib.hid hq
   clear hp hq h1 h2 hu hv
   by_cases e1 : p = q
   ·by_cases e2 : p ≤ 64
    ·subst e1
     go_wp2
     go_quiet (fail)
     have hZ : Hid (Gr wr wr.drew) := Lib.hid (Gr.drew (Gr.refl _))
     go_wp2
     refine ⟨⟨k + 1, by omega, by go_num, Gr.trans G.out hZ.out, fun j hj => ?_⟩, by simp [intOf]; omega⟩
     by_cases e : j = k
     ·rw [e, HP.out, HQ.out]
      exact ⟨rfl, e2⟩
     ·exact HS.out j (by omega)
    ·subst e1
     go_wp2
     go_quiet (fail)
     have hZ : Hid (Gr wr wr.drew) := Lib.hid (Gr.drew (Gr.refl _))
     go_wp2
     go_ret
     exact ⟨by rw [mayL_false k (by rw [HN.out]; exact hlt) (fun c => e2 (by rw [← HP.out]; exact c.2))]; rfl, Gr.trans G.out hZ.out⟩
   ·have hne : ((p : Int) != q) = true := by simp; omega
    go_wp2
    go_quiet (fail)
    have hZ : Hid (Gr wr wr.drew) := Lib.hid (Gr.drew (Gr.refl _))
    go_wp2
    go_ret
    exact ⟨by rw [mayL_false k (by rw [HN.out]; exact hlt) (fun c => e1 (by rw [← HP.out, ← HQ.out]; exact c.1))]; rfl, Gr.trans G.out hZ.out⟩
  ·obtain rfl : k = n := by omega
   go_wp2
   go_ret
   exact ⟨by rw [mayL_true (fun i hi => HS.out i (by rw [HN.out] at hi; exact hi))]; rfl, G.out⟩
set_option maxHeartbeats 400000 in
theorem mayMat_any (v : Value) (L : List (List Int)) (w : World) (h : Bss w v L) (hn : L.length ≤ 1000000) :
  Calls Tryz.prog 70 #[v] w fun e w' => e = .returned (.bool (mayL L)) ∧ Gr w w' := by
 by_cases h0 : 0 < L.length
 ·obtain ⟨a, c, rfl, _, _, h3⟩ := Bss.at h h0
  exact mayMat_core a L.length c L w rfl h0 hn h3
 ·obtain rfl : L = [] := List.eq_nil_of_length_eq_zero (by omega)
  obtain ⟨oa, c, rfl, _, _, _, _⟩ := h
  go_enter Tryz.func70, Tryz.ntmps70
  go_wp2
  go_loopw [6] (fun i wr => i = .int .i64 0 ∧ wr = w) (fun _ _ => 0)
  case atStart => exact ⟨rfl, rfl⟩
  case round =>
   obtain ⟨rfl, rfl⟩ := hrel
   go_wp2
   go_ret
   exact ⟨rfl, Gr.refl _⟩
end Go.Proofs.YtbbglejdfbkjlaaGreat
namespace Go.Proofs.YtbbglejdfbkjlaaGreat
open Go.RowKit
theorem New.rb {w w' : World} {v : Value} {l : List Int} (h : New w w' v l) (base : Nat) : Rb base w' v := by
 intro a n c hv hn
 obtain ⟨_, _, ⟨rfl, oa, c', rfl, _⟩ | ⟨g, c', cur, rfl, _, h2, _⟩⟩ := h
 ·cases hv
  omega
 ·cases hv
  exact .inr ⟨cur, h2⟩
end Go.Proofs.YtbbglejdfbkjlaaGreat
namespace Go.Proofs.YtbbglejdfbkjlaaGreat.L
open M
structure Fb where
 n : Nat
 lt : n < 256
theorem Fb.ext {a b : Fb} (h : a.n = b.n) : a = b := by
 cases a
 cases b
 simp at h
 subst h
 rfl
def zero : Fb := ⟨0, by decide⟩
def one : Fb := ⟨1, by decide⟩
def add (a b : Fb) : Fb := ⟨a.n ^^^ b.n, xor_lt a.lt b.lt⟩
def mul (a b : Fb) : Fb := ⟨mulN a.n b.n, mulN_lt _ _⟩
def inv (a : Fb) : Fb := ⟨invN a.n, invN_lt _⟩
theorem add_comm (a b : Fb) : add a b = add b a := Fb.ext (Nat.xor_comm _ _)
theorem add_assoc (a b c : Fb) : add (add a b) c = add a (add b c) := Fb.ext (Nat.xor_assoc _ _ _)
theorem add_zero (a : Fb) : add a zero = a := Fb.ext (Nat.xor_zero _)
theorem zero_add (a : Fb) : add zero a = a := Fb.ext (Nat.zero_xor _)
theorem add_self (a : Fb) : add a a = zero := Fb.ext (Nat.xor_self _)
theorem add_left_comm (a b c : Fb) : add a (add b c) = add b (add a c) := by rw [← add_assoc, add_comm a, add_assoc]
theorem mul_comm (a b : Fb) : mul a b = mul b a := Fb.ext (mulN_comm _ _)
theorem mul_assoc (a b c : Fb) : mul (mul a b) c = mul a (mul b c) := Fb.ext (mulN_assoc _ _ _)
theorem mul_one (a : Fb) : mul a one = a := Fb.ext (M.mulN_one a.n a.lt)
theorem one_mul (a : Fb) : mul one a = a := by rw [mul_comm, mul_one]
theorem mul_zero (a : Fb) : mul a zero = zero := Fb.ext (M.mulN_zero_right a.n)
theorem zero_mul (a : Fb) : mul zero a = zero := Fb.ext (M.mulN_zero_left a.n)
theorem mul_add (a b c : Fb) : mul a (add b c) = add (mul a b) (mul a c) := Fb.ext (mulN_xor _ _ _ b.lt c.lt)
theorem add_mul (a b c : Fb) : mul (add a b) c = add (mul a c) (mul b c) := by rw [mul_comm, mul_add, mul_comm c, mul_comm c]
theorem mul_inv (a : Fb) (h : a ≠ zero) : mul a (inv a) = one := Fb.ext (M.mulN_inv a.n a.lt (fun c => h (Fb.ext c)))
theorem inv_mul (a : Fb) (h : a ≠ zero) : mul (inv a) a = one := by rw [mul_comm, mul_inv a h]
theorem one_ne : one ≠ zero := by
 intro h
 have := congrArg Fb.n h
 exact absurd this (by decide)
theorem inv_ne (a : Fb) (h : a ≠ zero) : inv a ≠ zero := by
 intro c
 have := mul_inv a h
 rw [c, mul_zero] at this
 exact one_ne this.symm
theorem eq_of_add {a b : Fb} (h : add a b = zero) : a = b := by
 have : add (add a b) b = b := by rw [h, zero_add]
 rw [add_assoc, add_self, add_zero] at this
 exact this
/-! ### Rows as functions of the place -/
abbrev V : Type := Nat → Fb
def vzero : V := fun _ => zero
def vadd (x y : V) : V := fun i => add (x i) (y i)
def smul (c : Fb) (x : V) : V := fun i => mul c (x i)
theorem vadd_comm (x y : V) : vadd x y = vadd y x := funext fun _ => add_comm _ _
theorem vadd_assoc (x y z : V) : vadd (vadd x y) z = vadd x (vadd y z) := funext fun _ => add_assoc _ _ _
theorem vadd_left_comm (x y z : V) : vadd x (vadd y z) = vadd y (vadd x z) := funext fun _ => add_left_comm _ _ _
theorem vadd_zero (x : V) : vadd x vzero = x := funext fun _ => add_zero _
theorem vzero_add (x : V) : vadd vzero x = x := funext fun _ => zero_add _
theorem vadd_self (x : V) : vadd x x = vzero := funext fun _ => add_self _
theorem smul_add (c : Fb) (x y : V) : smul c (vadd x y) = vadd (smul c x) (smul c y) := funext fun _ => mul_add _ _ _
theorem add_smul (c d : Fb) (x : V) : smul (add c d) x = vadd (smul c x) (smul d x) := funext fun _ => add_mul _ _ _
theorem smul_smul (c d : Fb) (x : V) : smul c (smul d x) = smul (mul c d) x := funext fun _ => (mul_assoc _ _ _).symm
theorem one_smul (x : V) : smul one x = x := funext fun _ => one_mul _
theorem zero_smul (x : V) : smul zero x = vzero := funext fun _ => zero_mul _
theorem smul_zero (c : Fb) : smul c vzero = vzero := funext fun _ => mul_zero _
inductive Sp (A : List V) : V → Prop
 | zero : Sp A vzero
 | step (c : Fb) (x : V) (v : V) (hx : x ∈ A) (hv : Sp A v) : Sp A (vadd (smul c x) v)
theorem Sp.mem {A : List V} {x : V} (h : x ∈ A) : Sp A x := by
 have := Sp.step one x vzero h Sp.zero
 rwa [one_smul, vadd_zero] at this
theorem Sp.add {A : List V} {x y : V} (h : Sp A x) (h' : Sp A y) : Sp A (vadd x y) := by
 induction h with
 | zero => rwa [vzero_add]
 | step c x v hx _ ih => rw [vadd_assoc]; exact Sp.step c x _ hx ih
theorem Sp.smul {A : List V} {x : V} (c : Fb) (h : Sp A x) : Sp A (L.smul c x) := by
 induction h with
 | zero => rw [smul_zero]; exact Sp.zero
 | step d x v hx _ ih => rw [smul_add, smul_smul]; exact Sp.step _ x _ hx ih
theorem Sp.trans {A B : List V} (h : ∀ x ∈ A, Sp B x) {v : V} (hv : Sp A v) : Sp B v := by
 induction hv with
 | zero => exact Sp.zero
 | step c x v hx _ ih => exact Sp.add (Sp.smul c (h x hx)) ih
theorem Sp.mono {A B : List V} (h : ∀ x ∈ A, x ∈ B) {v : V} (hv : Sp A v) : Sp B v := Sp.trans (fun x hx => Sp.mem (h x hx)) hv
def Same (A B : List V) : Prop := ∀ v, Sp A v ↔ Sp B v
theorem Same.of {A B : List V} (h : ∀ x ∈ A, Sp B x) (h' : ∀ x ∈ B, Sp A x) : Same A B := fun _ => ⟨Sp.trans h, Sp.trans h'⟩
theorem Same.refl (A : List V) : Same A A := fun _ => Iff.rfl
theorem Same.symm {A B : List V} (h : Same A B) : Same B A := fun v => (h v).symm
theorem Same.trans {A B C : List V} (h : Same A B) (h' : Same B C) : Same A C := fun v => (h v).trans (h' v)
theorem Same.of_mem {A B : List V} (h : ∀ x, x ∈ A ↔ x ∈ B) : Same A B := Same.of (fun x hx => Sp.mem ((h x).1 hx)) (fun x hx => Sp.mem ((h x).2 hx))
/-! ### Reduced rows: each with the place where it begins -/
structure Rref (R : List (Nat × V)) : Prop where
 sorted : R.Pairwise fun a b => a.1 < b.1
 lead : ∀ p x, (p, x) ∈ R → x p = one
 ahead : ∀ p x, (p, x) ∈ R → ∀ k, k < p → x k = zero
 apart : ∀ p x q y, (p, x) ∈ R → (q, y) ∈ R → p ≠ q → x q = zero
def rows (R : List (Nat × V)) : List V := R.map (·.2)
def pick (v : V) : List (Nat × V) → V
 | [] => vzero
 | (p, x) :: R => vadd (smul (v p) x) (pick v R)
theorem pick_add (v w : V) : ∀ R, pick (vadd v w) R = vadd (pick v R) (pick w R)
 | [] => (vadd_zero _).symm
 | (p, x) :: R => by
  simp only [pick]
  rw [pick_add v w R, show vadd v w p = add (v p) (w p) from rfl, add_smul, vadd_assoc, vadd_assoc, vadd_left_comm (smul (w p) x)]
theorem pick_smul (c : Fb) (v : V) : ∀ R, pick (smul c v) R = smul c (pick v R)
 | [] => (smul_zero c).symm
 | (p, x) :: R => by
  simp only [pick]
  rw [pick_smul c v R, smul_add, smul_smul]
  rfl
theorem pick_none (v : V) : ∀ R, (∀ p x, (p, x) ∈ R → v p = zero) → pick v R = vzero
 | [], _ => rfl
 | (p, x) :: R, h => by
  simp only [pick]
  rw [h p x (by simp), zero_smul, vzero_add, pick_none v R (fun q y hq => h q y (by simp [hq]))]
theorem Rref.tail {a : Nat × V} {R : List (Nat × V)} (h : Rref (a :: R)) : Rref R :=
 ⟨(List.pairwise_cons.1 h.sorted).2, fun p x hx => h.lead p x (by simp [hx]), fun p x hx => h.ahead p x (by simp [hx]), fun p x q y hx hy => h.apart p x q y (by simp [hx]) (by simp [hy])⟩
theorem Rref.uniq_place {R : List (Nat × V)} (h : Rref R) {p : Nat} {x y : V} (hx : (p, x) ∈ R) (hy : (p, y) ∈ R) : x = y := by
 induction R with
 | nil => cases hx
 | cons a R ih =>
  have hs := (List.pairwise_cons.1 h.sorted).1
  rcases List.mem_cons.1 hx with rfl | hx'
  ·rcases List.mem_cons.1 hy with e | hy'
   ·exact (Prod.mk.inj e).2.symm
   ·exact absurd (hs _ hy') (Nat.lt_irrefl _)
  ·rcases List.mem_cons.1 hy with rfl | hy'
   ·exact absurd (hs _ hx') (Nat.lt_irrefl _)
   ·exact ih h.tail hx' hy'
theorem pick_row {R : List (Nat × V)} (h : Rref R) {p : Nat} {x : V} (hx : (p, x) ∈ R) : pick x R = x := by
 have key : ∀ S : List (Nat × V), (∀ a ∈ S, a ∈ R) → S.Pairwise (fun a b => a.1 < b.1) → ((p, x) ∈ S → pick x S = x) ∧ ((p, x) ∉ S → pick x S = vzero) := by
  intro S
  induction S with
  | nil => intro _ _; exact ⟨fun c => absurd c (by simp), fun _ => rfl⟩
  | cons a S ih =>
   obtain ⟨q, y⟩ := a
   intro hS hP
   have hP' := List.pairwise_cons.1 hP
   have i := ih (fun a ha => hS a (by simp [ha])) hP'.2
   have hy := hS (q, y) (by simp)
   simp only [pick]
   by_cases e : q = p
   ·subst e
    obtain rfl := h.uniq_place hy hx
    have hn : (q, y) ∉ S := fun c => absurd (hP'.1 _ c) (Nat.lt_irrefl _)
    rw [i.2 hn, h.lead q y hy, one_smul, vadd_zero]
    exact ⟨fun _ => rfl, fun c => absurd (by simp) c⟩
   ·rw [h.apart p x q y hx hy (fun c => e c.symm), zero_smul, vzero_add]
    have hne : (p, x) ≠ (q, y) := fun c => e (Prod.mk.inj c).1.symm
    refine ⟨fun c => i.1 ?_, fun c => i.2 fun c' => c (List.mem_cons_of_mem _ c')⟩
    rcases List.mem_cons.1 c with c | c
    ·exact absurd c hne
    ·exact c
 exact (key R (fun _ h => h) h.sorted).1 hx
theorem pick_span {R : List (Nat × V)} (h : Rref R) {v : V} (hv : Sp (rows R) v) : pick v R = v := by
 induction hv with
 | zero => exact pick_none _ _ fun _ _ _ => rfl
 | step c x v hx _ ih =>
  obtain ⟨⟨p, x'⟩, hm, rfl⟩ := List.mem_map.1 hx
  rw [pick_add, pick_smul, pick_row h hm, ih]
theorem span_zero {R : List (Nat × V)} (h : Rref R) {v : V} (hv : Sp (rows R) v) (h0 : ∀ p x, (p, x) ∈ R → v p = zero) : v = vzero := by
 rw [← pick_span h hv, pick_none v R h0]
def Begins (v : V) (k : Nat) : Prop := v k ≠ zero ∧ ∀ j, j < k → v j = zero
theorem begins_at {R : List (Nat × V)} (h : Rref R) {v : V} (hv : Sp (rows R) v) {k : Nat} (hk : Begins v k) : ∃ x, (k, x) ∈ R := by
 have key : ∀ S : List (Nat × V), (∀ a ∈ S, a ∈ R) → S.Pairwise (fun a b => a.1 < b.1) → (∀ q y, (q, y) ∈ R → (q, y) ∉ S → v q = zero) → ∃ x, (k, x) ∈ R := by
  intro S
  induction S with
  | nil =>
   intro _ _ h0
   have := span_zero h hv (fun p x hx => h0 p x hx (by simp))
   rw [this] at hk
   exact absurd rfl hk.1
  | cons a S ih =>
   obtain ⟨q, y⟩ := a
   intro hS hP h0
   have hP' := List.pairwise_cons.1 hP
   have hy := hS (q, y) (by simp)
   by_cases hz : v q = zero
   ·refine ih (fun a ha => hS a (by simp [ha])) hP'.2 (fun p x hx hn => ?_)
    by_cases e : (p, x) = (q, y)
    ·obtain ⟨rfl, rfl⟩ := Prod.mk.inj e
     exact hz
    ·exact h0 p x hx (by simp [e, hn])
   ·have hkq : k ≤ q := by
     by_cases c : q < k
     ·exact absurd (hk.2 q c) hz
     ·omega
    by_cases e : k = q
    ·subst e
     exact ⟨y, hy⟩
    ·exfalso
     have hv2 := pick_span h hv
     have : v k = zero := by
      have hall : ∀ T : List (Nat × V), (∀ a ∈ T, a ∈ R) → pick v T k = zero := by
       intro T
       induction T with
       | nil => intro _; rfl
       | cons b T ihT =>
        obtain ⟨p, x⟩ := b
        intro hT
        have hx := hT (p, x) (by simp)
        show add (mul (v p) (x k)) (pick v T k) = zero
        rw [ihT (fun a ha => hT a (by simp [ha])), add_zero]
        by_cases c : k < p
        ·rw [h.ahead p x hx k c, mul_zero]
        ·by_cases c2 : p = k
         ·subst c2
          have hm : (p, x) ∉ (q, y) :: S := by
           intro c3
           rcases List.mem_cons.1 c3 with c4 | c4
           ·exact e (Prod.mk.inj c4).1
           ·have := hP'.1 _ c4
            simp at this
            omega
          rw [h0 p x hx hm, zero_mul]
         ·have : v p = zero := hk.2 p (by omega)
          rw [this, zero_mul]
      rw [← hv2]
      exact hall R (fun _ h => h)
     exact hk.1 this
 exact key R (fun _ h => h) h.sorted (fun q y hq hn => absurd hq hn)
theorem lead_begins {R : List (Nat × V)} (h : Rref R) {p : Nat} {x : V} (hx : (p, x) ∈ R) : Begins x p :=
 ⟨by rw [h.lead p x hx]; exact one_ne, h.ahead p x hx⟩
theorem sorted_ext : ∀ (a b : List (Nat × V)), a.Pairwise (fun x y => x.1 < y.1) → b.Pairwise (fun x y => x.1 < y.1) → (∀ p x, (p, x) ∈ a ↔ (p, x) ∈ b) → a = b
 | [], [], _, _, _ => rfl
 | [], (p, x) :: b, _, _, h => absurd ((h p x).2 (by simp)) (by simp)
 | (p, x) :: a, [], _, _, h => absurd ((h p x).1 (by simp)) (by simp)
 | (p, x) :: a, (q, y) :: b, ha, hb, h => by
  have ha' := List.pairwise_cons.1 ha
  have hb' := List.pairwise_cons.1 hb
  have e : (p, x) = (q, y) := by
   rcases List.mem_cons.1 ((h p x).1 (by simp)) with c | c
   ·exact c
   ·rcases List.mem_cons.1 ((h q y).2 (by simp)) with c2 | c2
    ·exact c2.symm
    ·have h1 := hb'.1 _ c
     have h2 := ha'.1 _ c2
     simp at h1 h2
     omega
  obtain ⟨rfl, rfl⟩ := Prod.mk.inj e
  rw [sorted_ext a b ha'.2 hb'.2 fun r z => by
    constructor
    · intro hr
      rcases List.mem_cons.1 ((h r z).1 (by simp [hr])) with c | c
      · obtain ⟨rfl, rfl⟩ := Prod.mk.inj c
        exact absurd (ha'.1 _ hr) (Nat.lt_irrefl _)
      · exact c
    · intro hr
      rcases List.mem_cons.1 ((h r z).2 (by simp [hr])) with c | c
      · obtain ⟨rfl, rfl⟩ := Prod.mk.inj c
        exact absurd (hb'.1 _ hr) (Nat.lt_irrefl _)
      · exact c]
theorem rref_unique {R S : List (Nat × V)} (hR : Rref R) (hS : Rref S) (h : Same (rows R) (rows S)) : R = S := by
 have one_way : ∀ {R S : List (Nat × V)}, Rref R → Rref S → Same (rows R) (rows S) → ∀ p x, (p, x) ∈ R → (p, x) ∈ S := by
  intro R S hR hS h p x hx
  have hxs : Sp (rows R) x := Sp.mem (List.mem_map.2 ⟨(p, x), hx, rfl⟩)
  obtain ⟨y, hy⟩ := begins_at hS ((h x).1 hxs) (lead_begins hR hx)
  have hys : Sp (rows R) y := (h y).2 (Sp.mem (List.mem_map.2 ⟨(p, y), hy, rfl⟩))
  have hd : vadd x y = vzero := by
   refine span_zero hR (Sp.add hxs hys) fun q z hz => ?_
   show add (x q) (y q) = zero
   by_cases e : p = q
   ·subst e
    rw [hR.lead p x hx, hS.lead p y hy, add_self]
   ·rw [hR.apart p x q z hx hz e]
    obtain ⟨z', hz'⟩ := begins_at hS ((h z).1 (Sp.mem (List.mem_map.2 ⟨(q, z), hz, rfl⟩))) (lead_begins hR hz)
    rw [hS.apart p y q z' hy hz' e, add_self]
  have : x = y := funext fun i => eq_of_add (congrFun hd i)
  rw [this]
  exact hy
 exact sorted_ext R S hR.sorted hS.sorted fun p x => ⟨one_way hR hS h p x, one_way hS hR h.symm p x⟩
end Go.Proofs.YtbbglejdfbkjlaaGreat.L
namespace Go.Proofs.YtbbglejdfbkjlaaGreat.L
def Supp (n : Nat) (v : V) : Prop := ∀ k, n ≤ k → v k = zero
theorem Supp.zero (n : Nat) : Supp n vzero := fun _ _ => rfl
theorem Supp.add {n : Nat} {x y : V} (h : Supp n x) (h' : Supp n y) : Supp n (vadd x y) := fun k hk => by
 show L.add (x k) (y k) = L.zero
 rw [h k hk, h' k hk, add_zero]
theorem Supp.smul {n : Nat} {x : V} (c : Fb) (h : Supp n x) : Supp n (L.smul c x) := fun k hk => by
 show L.mul c (x k) = L.zero
 rw [h k hk, mul_zero]
theorem Sp.supp {n : Nat} {A : List V} (h : ∀ x ∈ A, Supp n x) {v : V} (hv : Sp A v) : Supp n v := by
 induction hv with
 | zero => exact Supp.zero n
 | step c x v hx _ ih => exact Supp.add (Supp.smul c (h x hx)) ih
theorem begins_exists {n : Nat} {v : V} (hs : Supp n v) (h : v ≠ vzero) : ∃ k, k < n ∧ Begins v k := by
 have key : ∀ m, (∀ j, j < m → v j = zero) ∨ ∃ k, k < m ∧ Begins v k := by
  intro m
  induction m with
  | zero => exact .inl fun j hj => absurd hj (Nat.not_lt_zero _)
  | succ m ih =>
   rcases ih with ih | ⟨k, hk, hb⟩
   ·by_cases e : v m = zero
    ·refine .inl fun j hj => ?_
     rcases Nat.lt_succ_iff_lt_or_eq.1 hj with c | c
     ·exact ih j c
     ·rw [c, e]
    ·exact .inr ⟨m, Nat.lt_succ_self _, e, ih⟩
   ·exact .inr ⟨k, Nat.lt_succ_of_lt hk, hb⟩
 rcases key n with h0 | h1
 ·refine absurd (funext fun i => ?_) h
  by_cases c : i < n
  ·exact h0 i c
  ·exact hs i (by omega)
 ·exact h1
theorem Begins.uniq {v : V} {j k : Nat} (hj : Begins v j) (hk : Begins v k) : j = k := by
 rcases Nat.lt_trichotomy j k with c | c | c
 ·exact absurd (hk.2 j c) hj.1
 ·exact c
 ·exact absurd (hj.2 k c) hk.1
/-! ### One more row -/
def insAt (a : Nat × V) : List (Nat × V) → List (Nat × V)
 | [] => [a]
 | b :: R => if a.1 < b.1 then a :: b :: R else b :: insAt a R
theorem mem_insAt (a : Nat × V) : ∀ (R : List (Nat × V)) (x : Nat × V), x ∈ insAt a R ↔ x = a ∨ x ∈ R
 | [], x => by simp [insAt]
 | b :: R, x => by
  simp only [insAt]
  split
  ·simp
  ·simp only [List.mem_cons, mem_insAt a R x]
   constructor
   ·rintro (h | h | h)
    ·exact .inr (.inl h)
    ·exact .inl h
    ·exact .inr (.inr h)
   ·rintro (h | h | h)
    ·exact .inr (.inl h)
    ·exact .inl h
    ·exact .inr (.inr h)
theorem insAt_sorted (a : Nat × V) : ∀ (R : List (Nat × V)), R.Pairwise (fun x y => x.1 < y.1) → (∀ b ∈ R, b.1 ≠ a.1) → (insAt a R).Pairwise (fun x y => x.1 < y.1)
 | [], _, _ => by simp [insAt]
 | b :: R, h, hn => by
  have h' := List.pairwise_cons.1 h
  simp only [insAt]
  split
  ·rename_i c
   refine List.pairwise_cons.2 ⟨fun x hx => ?_, h⟩
   rcases List.mem_cons.1 hx with rfl | hx
   ·exact c
   ·exact Nat.lt_trans c (h'.1 x hx)
  ·rename_i c
   have hb := hn b (by simp)
   refine List.pairwise_cons.2 ⟨fun x hx => ?_, insAt_sorted a R h'.2 fun b' hb' => hn b' (by simp [hb'])⟩
   rcases (mem_insAt a R x).1 hx with rfl | hx
   ·omega
   ·exact h'.1 x hx
theorem insAt_length (a : Nat × V) : ∀ R : List (Nat × V), (insAt a R).length = R.length + 1
 | [] => rfl
 | b :: R => by
  simp only [insAt]
  split
  ·rfl
  ·simp [insAt_length a R]
theorem pick_at {R : List (Nat × V)} (h : Rref R) (v : V) {q : Nat} {y : V} (hy : (q, y) ∈ R) : pick v R q = v q := by
 have key : ∀ S : List (Nat × V), (∀ a ∈ S, a ∈ R) → S.Pairwise (fun a b => a.1 < b.1) → ((q, y) ∈ S → pick v S q = v q) ∧ ((q, y) ∉ S → pick v S q = zero) := by
  intro S
  induction S with
  | nil => intro _ _; exact ⟨fun c => absurd c (by simp), fun _ => rfl⟩
  | cons a S ih =>
   obtain ⟨p, x⟩ := a
   intro hS hP
   have hP' := List.pairwise_cons.1 hP
   have i := ih (fun a ha => hS a (by simp [ha])) hP'.2
   have hx := hS (p, x) (by simp)
   have e1 : pick v ((p, x) :: S) q = add (mul (v p) (x q)) (pick v S q) := rfl
   rw [e1]
   by_cases e : p = q
   ·subst e
    obtain rfl := h.uniq_place hx hy
    have hn : (p, x) ∉ S := fun c => absurd (hP'.1 _ c) (Nat.lt_irrefl _)
    rw [i.2 hn, h.lead p x hx, mul_one, add_zero]
    exact ⟨fun _ => rfl, fun c => absurd (by simp) c⟩
   ·rw [h.apart p x q y hx hy e, mul_zero, zero_add]
    have hne : (q, y) ≠ (p, x) := fun c => e (Prod.mk.inj c).1.symm
    refine ⟨fun c => i.1 ?_, fun c => i.2 fun c' => c (List.mem_cons_of_mem _ c')⟩
    rcases List.mem_cons.1 c with c | c
    ·exact absurd c hne
    ·exact c
 exact (key R (fun _ h => h) h.sorted).1 hy
theorem pick_in (v : V) : ∀ R : List (Nat × V), Sp (rows R) (pick v R)
 | [] => Sp.zero
 | (p, x) :: R => Sp.step _ x _ (by simp [rows]) (Sp.mono (fun y hy => by simp [rows] at hy ⊢; exact .inr hy) (pick_in v R))
def left (v : V) (R : List (Nat × V)) : V := vadd v (pick v R)
theorem left_at {R : List (Nat × V)} (h : Rref R) (v : V) {q : Nat} {y : V} (hy : (q, y) ∈ R) : left v R q = zero := by
 show add (v q) (pick v R q) = zero
 rw [pick_at h v hy, add_self]
theorem left_back (v : V) (R : List (Nat × V)) : vadd (left v R) (pick v R) = v := by
 unfold left
 rw [vadd_assoc, vadd_self, vadd_zero]
theorem left_zero {R : List (Nat × V)} (h : Rref R) (v : V) : left v R = vzero ↔ Sp (rows R) v := by
 constructor
 ·intro c
  have := left_back v R
  rw [c, vzero_add] at this
  rw [← this]
  exact pick_in v R
 ·intro hv
  unfold left
  rw [pick_span h hv, vadd_self]
theorem mem_cons_same {A : List V} {v : V} (h : Sp A v) : Same (v :: A) A :=
 Same.of (fun x hx => by
   rcases List.mem_cons.1 hx with rfl | hx
   · exact h
   · exact Sp.mem hx) fun x hx => Sp.mem (by simp [hx])
def grow (R : List (Nat × V)) (u : V) (k : Nat) : List (Nat × V) := insAt (k, u) (R.map fun a => (a.1, vadd a.2 (smul (a.2 k) u)))
theorem grow_rref {R : List (Nat × V)} (h : Rref R) {u : V} {k : Nat} (h1 : u k = one) (hb : ∀ j, j < k → u j = zero) (h0 : ∀ p x, (p, x) ∈ R → u p = zero) : Rref (grow R u k) := by
 have hk : ∀ p x, (p, x) ∈ R → p ≠ k := by
  rintro p x hx rfl
  rw [h0 p x hx] at h1
  exact one_ne h1.symm
 have mem : ∀ p y, (p, y) ∈ grow R u k → (p = k ∧ y = u) ∨ ∃ x, (p, x) ∈ R ∧ y = vadd x (smul (x k) u) := by
  intro p y hm
  rcases (mem_insAt _ _ _).1 hm with c | c
  ·exact .inl (Prod.mk.inj c)
  ·obtain ⟨⟨q, x⟩, hx, e⟩ := List.mem_map.1 c
   obtain ⟨rfl, rfl⟩ := Prod.mk.inj e
   exact .inr ⟨x, hx, rfl⟩
 have at' : ∀ (x : V) (j : Nat), (vadd x (smul (x k) u)) j = add (x j) (mul (x k) (u j)) := fun _ _ => rfl
 refine ⟨?_, ?_, ?_, ?_⟩
 ·refine insAt_sorted _ _ (List.pairwise_map.2 h.sorted) fun b hb' => ?_
  obtain ⟨⟨q, x⟩, hx, rfl⟩ := List.mem_map.1 hb'
  exact hk q x hx
 ·intro p y hm
  rcases mem p y hm with ⟨rfl, rfl⟩ | ⟨x, hx, rfl⟩
  ·exact h1
  ·rw [at', h.lead p x hx, h0 p x hx, mul_zero, add_zero]
 ·intro p y hm j hj
  rcases mem p y hm with ⟨rfl, rfl⟩ | ⟨x, hx, rfl⟩
  ·exact hb j hj
  ·rw [at', h.ahead p x hx j hj, zero_add]
   by_cases c : k < p
   ·rw [h.ahead p x hx k c, zero_mul]
   ·rw [hb j (by have := hk p x hx; omega), mul_zero]
 ·intro p y q z hm hm' hne
  rcases mem p y hm with ⟨rfl, rfl⟩ | ⟨x, hx, rfl⟩
  ·rcases mem q z hm' with ⟨rfl, rfl⟩ | ⟨x', hx', rfl⟩
   ·exact absurd rfl hne
   ·exact h0 q x' hx'
  ·rcases mem q z hm' with ⟨rfl, rfl⟩ | ⟨x', hx', rfl⟩
   ·rw [at', h1, mul_one, add_self]
   ·rw [at', h0 q x' hx', mul_zero, add_zero]
    exact h.apart p x q x' hx hx' hne
theorem grow_rows (R : List (Nat × V)) (u : V) (k : Nat) (y : V) : y ∈ rows (grow R u k) ↔ y = u ∨ ∃ x ∈ rows R, y = vadd x (smul (x k) u) := by
 constructor
 ·intro hy
  obtain ⟨⟨p, y'⟩, hm, rfl⟩ := List.mem_map.1 hy
  rcases (mem_insAt _ _ _).1 hm with c | c
  ·exact .inl (Prod.mk.inj c).2
  ·obtain ⟨⟨q, x⟩, hx, e⟩ := List.mem_map.1 c
   exact .inr ⟨x, List.mem_map.2 ⟨(q, x), hx, rfl⟩, (Prod.mk.inj e).2.symm⟩
 ·rintro (rfl | ⟨x, hx, rfl⟩)
  ·exact List.mem_map.2 ⟨(k, y), (mem_insAt _ _ _).2 (.inl rfl), rfl⟩
  ·obtain ⟨⟨q, x'⟩, hm, rfl⟩ := List.mem_map.1 hx
   exact List.mem_map.2 ⟨(q, _), (mem_insAt _ _ _).2 (.inr (List.mem_map.2 ⟨(q, x'), hm, rfl⟩)), rfl⟩
theorem grow_same (R : List (Nat × V)) (u : V) (k : Nat) : Same (rows (grow R u k)) (u :: rows R) := by
 refine Same.of (fun y hy => ?_) fun y hy => ?_
 ·rcases (grow_rows R u k y).1 hy with rfl | ⟨x, hx, rfl⟩
  ·exact Sp.mem (by simp)
  ·exact Sp.add (Sp.mem (by simp [hx])) (Sp.smul _ (Sp.mem (by simp)))
 ·have hu : Sp (rows (grow R u k)) u := Sp.mem ((grow_rows R u k u).2 (.inl rfl))
  rcases List.mem_cons.1 hy with rfl | hx
  ·exact hu
  ·have h1 := Sp.add (Sp.mem ((grow_rows R u k _).2 (.inr ⟨y, hx, rfl⟩))) (Sp.smul (y k) hu)
   rwa [vadd_assoc, vadd_self, vadd_zero] at h1
theorem Same.cons {A B : List V} (h : Same A B) (v : V) : Same (v :: A) (v :: B) :=
 Same.of (fun x hx => by
   rcases List.mem_cons.1 hx with rfl | hx
   · exact Sp.mem (by simp)
   · exact Sp.mono (fun y hy => by simp [hy]) ((h x).1 (Sp.mem hx))) fun x hx => by
  rcases List.mem_cons.1 hx with rfl | hx
  ·exact Sp.mem (by simp)
  ·exact Sp.mono (fun y hy => by simp [hy]) ((h x).2 (Sp.mem hx))
theorem left_same (R : List (Nat × V)) (v : V) {c : Fb} (hc : c ≠ zero) : Same (smul c (left v R) :: rows R) (v :: rows R) := by
 refine Same.of (fun x hx => ?_) fun x hx => ?_
 ·rcases List.mem_cons.1 hx with rfl | hx
  ·exact Sp.smul _ (Sp.add (Sp.mem (by simp)) (Sp.mono (fun y hy => by simp [hy]) (pick_in v R)))
  ·exact Sp.mem (by simp [hx])
 ·rcases List.mem_cons.1 hx with rfl | hx
  ·have h1 : Sp (smul c (left x R) :: rows R) (left x R) := by
    have := Sp.smul (inv c) (Sp.mem (A := smul c (left x R) :: rows R) (x := smul c (left x R)) (by simp))
    rwa [smul_smul, inv_mul c hc, one_smul] at this
   have h2 := Sp.add h1 (Sp.mono (B := smul c (left x R) :: rows R) (fun y hy => by simp [hy]) (pick_in x R))
   rwa [left_back] at h2
  ·exact Sp.mem (by simp [hx])
theorem rref_more {n : Nat} {R : List (Nat × V)} (h : Rref R) (hR : ∀ x ∈ rows R, Supp n x) {v : V} (hv : Supp n v) :
  ∃ S, Rref S ∧ Same (rows S) (v :: rows R) ∧ (Sp (rows R) v → S = R) ∧ (¬ Sp (rows R) v → S.length = R.length + 1) := by
 by_cases c : left v R = vzero
 ·have hin := (left_zero h v).1 c
  exact ⟨R, h, (mem_cons_same hin).symm, fun _ => rfl, fun c' => absurd hin c'⟩
 ·have hin : ¬ Sp (rows R) v := fun c' => c ((left_zero h v).2 c')
  obtain ⟨k, -, hk⟩ := begins_exists (v := left v R) (Supp.add hv (Sp.supp hR (pick_in v R))) c
  refine ⟨grow R (smul (inv (left v R k)) (left v R)) k, grow_rref h (inv_mul _ hk.1) (fun j hj => ?_) (fun p x hx => ?_), (grow_same _ _ _).trans (left_same R v (inv_ne _ hk.1)), fun c' => absurd c' hin, fun _ => ?_⟩
  ·show mul _ (left v R j) = zero
   rw [hk.2 j hj, mul_zero]
  ·show mul _ (left v R p) = zero
   rw [left_at h v hx, mul_zero]
  ·simp [grow, insAt_length]
theorem Rref.nil : Rref [] := ⟨List.Pairwise.nil, fun _ _ h => absurd h (by simp), fun _ _ h => absurd h (by simp), fun _ _ _ _ h => absurd h (by simp)⟩
theorem rref_exists {n : Nat} : ∀ A : List V, (∀ x ∈ A, Supp n x) → ∃ R, Rref R ∧ Same (rows R) A ∧ R.length ≤ A.length
 | [], _ => ⟨[], Rref.nil, Same.refl _, Nat.le_refl _⟩
 | v :: A, h => by
  obtain ⟨R, hR, hs, hl⟩ := rref_exists A fun x hx => h x (by simp [hx])
  have hsup : ∀ x ∈ rows R, Supp n x := fun x hx => Sp.supp (fun y hy => h y (by simp [hy])) ((hs x).1 (Sp.mem hx))
  obtain ⟨S, hS, hs', h1, h2⟩ := rref_more hR hsup (h v (by simp))
  refine ⟨S, hS, hs'.trans (hs.cons v), ?_⟩
  by_cases c : Sp (rows R) v
  ·rw [h1 c]
   exact Nat.le_succ_of_le hl
  ·rw [h2 c]
   exact Nat.succ_le_succ hl
/-! ### Ranks -/
def Red (A : List V) (R : List (Nat × V)) : Prop := Rref R ∧ Same (rows R) A
open Classical in
noncomputable def rk (A : List V) : Nat := if h : ∃ R, Red A R then h.choose.length else 0
theorem rk_eq {A : List V} {R : List (Nat × V)} (h : Red A R) : rk A = R.length := by
 have he : ∃ R, Red A R := ⟨R, h⟩
 unfold rk
 rw [dif_pos he]
 have := he.choose_spec
 rw [rref_unique this.1 h.1 (this.2.trans h.2.symm)]
theorem rk_same {A B : List V} (h : Same A B) : rk A = rk B := by
 have : Red A = Red B := funext fun R => propext ⟨fun c => ⟨c.1, c.2.trans h⟩, fun c => ⟨c.1, c.2.trans h.symm⟩⟩
 unfold rk
 rw [this]
theorem red_exists {n : Nat} {A : List V} (h : ∀ x ∈ A, Supp n x) : ∃ R, Red A R ∧ rk A = R.length := by
 obtain ⟨R, h1, h2, -⟩ := rref_exists A h
 exact ⟨R, ⟨h1, h2⟩, rk_eq ⟨h1, h2⟩⟩
theorem rk_le_len {n : Nat} {A : List V} (h : ∀ x ∈ A, Supp n x) : rk A ≤ A.length := by
 obtain ⟨R, h1, h2, h3⟩ := rref_exists A h
 rw [rk_eq ⟨h1, h2⟩]
 exact h3
theorem red_supp {n : Nat} {A : List V} {R : List (Nat × V)} (hr : Red A R) (h : ∀ x ∈ A, Supp n x) : ∀ x ∈ rows R, Supp n x :=
 fun x hx => Sp.supp h ((hr.2 x).1 (Sp.mem hx))
theorem places_le : ∀ (R : List (Nat × V)) (b n : Nat), R.Pairwise (fun x y => x.1 < y.1) → (∀ a ∈ R, b ≤ a.1 ∧ a.1 < n) → R.length ≤ n - b
 | [], _, _, _, _ => Nat.zero_le _
 | a :: R, b, n, h, hb => by
  have h' := List.pairwise_cons.1 h
  have ha := hb a (by simp)
  have := places_le R (a.1 + 1) n h'.2 fun c hc => ⟨h'.1 c hc, (hb c (by simp [hc])).2⟩
  simp only [List.length_cons]
  omega
theorem rref_place_lt {n : Nat} {R : List (Nat × V)} (h : Rref R) (hs : ∀ x ∈ rows R, Supp n x) {p : Nat} {x : V} (hx : (p, x) ∈ R) : p < n := by
 by_cases c : p < n
 ·exact c
 ·have := hs x (List.mem_map.2 ⟨(p, x), hx, rfl⟩) p (by omega)
  rw [h.lead p x hx] at this
  exact absurd this one_ne
theorem rk_le_cols {n : Nat} {A : List V} (h : ∀ x ∈ A, Supp n x) : rk A ≤ n := by
 obtain ⟨R, hr, e⟩ := red_exists h
 rw [e]
 have := places_le R 0 n hr.1.sorted fun a ha => ⟨Nat.zero_le _, rref_place_lt hr.1 (red_supp hr h) (x := a.2) ha⟩
 omega
theorem places_sub : ∀ (R S : List (Nat × V)), R.Pairwise (fun x y => x.1 < y.1) → S.Pairwise (fun x y => x.1 < y.1) → (∀ a ∈ R, ∃ b ∈ S, b.1 = a.1) → R.length ≤ S.length
 | [], _, _, _, _ => Nat.zero_le _
 | a :: R, [], _, _, h => by
  obtain ⟨b, hb, -⟩ := h a (by simp)
  cases hb
 | a :: R, b :: S, hR, hS, h => by
  have hR' := List.pairwise_cons.1 hR
  have hS' := List.pairwise_cons.1 hS
  obtain ⟨c, hc, ec⟩ := h a (by simp)
  have hba : b.1 ≤ a.1 := by
   rcases List.mem_cons.1 hc with rfl | hc
   ·omega
   ·have := hS'.1 c hc
    omega
  refine Nat.succ_le_succ (places_sub R S hR'.2 hS'.2 fun d hd => ?_)
  obtain ⟨e, he, ee⟩ := h d (by simp [hd])
  rcases List.mem_cons.1 he with rfl | he
  ·have := hR'.1 d hd
   omega
  ·exact ⟨e, he, ee⟩
theorem rk_mono {n : Nat} {A B : List V} (hA : ∀ x ∈ A, Supp n x) (hB : ∀ x ∈ B, Supp n x) (h : ∀ x ∈ A, Sp B x) : rk A ≤ rk B := by
 obtain ⟨R, hr, e⟩ := red_exists hA
 obtain ⟨S, hs, e'⟩ := red_exists hB
 rw [e, e']
 refine places_sub R S hr.1.sorted hs.1.sorted fun a ha => ?_
 obtain ⟨p, x⟩ := a
 have hx : Sp (rows R) x := Sp.mem (List.mem_map.2 ⟨(p, x), ha, rfl⟩)
 have hxs : Sp (rows S) x := (hs.2 x).2 (Sp.trans h ((hr.2 x).1 hx))
 obtain ⟨y, hy⟩ := begins_at hs.1 hxs (lead_begins hr.1 ha)
 exact ⟨(p, y), hy, rfl⟩
theorem rk_cons {n : Nat} {A : List V} (hA : ∀ x ∈ A, Supp n x) {v : V} (hv : Supp n v) : (Sp A v → rk (v :: A) = rk A) ∧ (¬ Sp A v → rk (v :: A) = rk A + 1) := by
 obtain ⟨R, hr, e⟩ := red_exists hA
 obtain ⟨S, hS, hs, h1, h2⟩ := rref_more hr.1 (red_supp hr hA) hv
 have hrS : Red (v :: A) S := ⟨hS, hs.trans (hr.2.cons v)⟩
 rw [e, rk_eq hrS]
 refine ⟨fun c => by rw [h1 ((hr.2 v).2 c)], fun c => h2 fun c' => c ((hr.2 v).1 c')⟩
theorem full_span {n : Nat} {A : List V} (hA : ∀ x ∈ A, Supp n x) (h : rk A = n) {v : V} (hv : Supp n v) : Sp A v := by
 by_cases c : Sp A v
 ·exact c
 ·have h1 := (rk_cons hA hv).2 c
  have h2 := rk_le_cols (A := v :: A) (n := n) fun x hx => by
   rcases List.mem_cons.1 hx with rfl | hx
   ·exact hv
   ·exact hA x hx
  omega
/-! ### Columns -/
def rowAt (A : List V) (i : Nat) : V := (A[i]?).getD vzero
def col (A : List V) (j : Nat) : V := fun i => rowAt A i j
theorem rowAt_mem {A : List V} {i : Nat} (h : i < A.length) : rowAt A i ∈ A := by
 unfold rowAt
 rw [List.getElem?_eq_getElem h]
 exact List.getElem_mem h
theorem rowAt_out {A : List V} {i : Nat} (h : A.length ≤ i) : rowAt A i = vzero := by
 unfold rowAt
 rw [List.getElem?_eq_none h]
 rfl
/-! ### Products -/
def lc (c : V) : List V → V
 | [] => vzero
 | x :: X => vadd (smul (c 0) x) (lc (fun i => c (i + 1)) X)
theorem lc_in (c : V) : ∀ X, Sp X (lc c X)
 | [] => Sp.zero
 | x :: X => Sp.step _ x _ (by simp) (Sp.mono (fun y hy => by simp [hy]) (lc_in _ X))
theorem lc_zero : ∀ X, lc vzero X = vzero
 | [] => rfl
 | x :: X => by
  show vadd (smul zero x) (lc vzero X) = vzero
  rw [lc_zero X, zero_smul, vadd_zero]
theorem lc_add : ∀ (X : List V) (c d : V), lc (vadd c d) X = vadd (lc c X) (lc d X)
 | [], _, _ => (vadd_zero _).symm
 | x :: X, c, d => by
  show vadd (smul (add (c 0) (d 0)) x) (lc (vadd (fun i => c (i + 1)) (fun i => d (i + 1))) X) = vadd (vadd (smul (c 0) x) (lc (fun i => c (i + 1)) X)) (vadd (smul (d 0) x) (lc (fun i => d (i + 1)) X))
  rw [lc_add X, add_smul, vadd_assoc, vadd_assoc, vadd_left_comm (smul (d 0) x)]
theorem lc_smul : ∀ (X : List V) (k : Fb) (c : V), lc (smul k c) X = smul k (lc c X)
 | [], k, _ => (smul_zero k).symm
 | x :: X, k, c => by
  show vadd (smul (mul k (c 0)) x) (lc (smul k fun i => c (i + 1)) X) = smul k (vadd (smul (c 0) x) (lc (fun i => c (i + 1)) X))
  rw [lc_smul X, smul_add, smul_smul]
theorem lc_supp {n : Nat} {X : List V} (h : ∀ x ∈ X, Supp n x) (c : V) : Supp n (lc c X) := Sp.supp h (lc_in c X)
def mulM (A X : List V) : List V := A.map fun a => lc a X
theorem mulM_supp {n : Nat} {A X : List V} (h : ∀ x ∈ X, Supp n x) : ∀ x ∈ mulM A X, Supp n x := by
 intro x hx
 obtain ⟨a, -, rfl⟩ := List.mem_map.1 hx
 exact lc_supp h a
theorem Sp.lc {A : List V} (X : List V) {v : V} (hv : Sp A v) : Sp (mulM A X) (L.lc v X) := by
 induction hv with
 | zero => rw [lc_zero]; exact Sp.zero
 | step c x v hx _ ih =>
  rw [lc_add, lc_smul]
  exact Sp.step c _ _ (List.mem_map.2 ⟨x, hx, rfl⟩) ih
theorem rk_mul_right {n : Nat} {A X : List V} (h : ∀ x ∈ X, Supp n x) : rk (mulM A X) ≤ rk X :=
 rk_mono (mulM_supp h) h fun x hx => by
  obtain ⟨a, -, rfl⟩ := List.mem_map.1 hx
  exact lc_in a X
theorem rk_mul_left {n m : Nat} {A X : List V} (hA : ∀ x ∈ A, Supp m x) (h : ∀ x ∈ X, Supp n x) : rk (mulM A X) ≤ rk A := by
 obtain ⟨R, hr, e⟩ := red_exists hA
 have h1 : rk (mulM A X) ≤ rk (mulM (rows R) X) := rk_mono (mulM_supp h) (mulM_supp h) fun x hx => by
  obtain ⟨a, ha, rfl⟩ := List.mem_map.1 hx
  exact Sp.lc X ((hr.2 a).2 (Sp.mem ha))
 have h2 := rk_le_len (mulM_supp (A := rows R) h)
 have h3 : (mulM (rows R) X).length = R.length := by simp [mulM, rows]
 omega
def unit (i : Nat) : V := fun j => if j = i then one else zero
theorem unit_supp {n i : Nat} (h : i < n) : Supp n (unit i) := fun k hk => by
 unfold unit
 rw [if_neg (by omega)]
theorem lc_unit : ∀ (X : List V) (i : Nat), lc (unit i) X = rowAt X i
 | [], i => by simp [lc, rowAt]
 | x :: X, 0 => by
  have : (fun i => unit 0 (i + 1)) = vzero := funext fun i => by simp [unit, vzero]
  show vadd (smul (unit 0 0) x) (lc (fun i => unit 0 (i + 1)) X) = _
  rw [this, lc_zero, vadd_zero]
  simp [unit, one_smul, rowAt]
 | x :: X, i + 1 => by
  have : (fun j => unit (i + 1) (j + 1)) = unit i := funext fun j => by simp [unit]
  show vadd (smul (unit (i + 1) 0) x) (lc (fun j => unit (i + 1) (j + 1)) X) = _
  rw [this, lc_unit X i]
  simp [unit, zero_smul, vzero_add, rowAt]
theorem lc_span_eq {A : List V} {X Y : List V} (h : ∀ a ∈ A, lc a X = lc a Y) {v : V} (hv : Sp A v) : lc v X = lc v Y := by
 induction hv with
 | zero => rw [lc_zero, lc_zero]
 | step c x v hx _ ih => rw [lc_add, lc_add, lc_smul, lc_smul, ih, h x hx]
theorem mul_unique {n : Nat} {A X Y : List V} (hA : ∀ x ∈ A, Supp n x) (hr : rk A = n) (hX : X.length = n) (hY : Y.length = n) (h : mulM A X = mulM A Y) : X = Y := by
 have h' : ∀ a ∈ A, lc a X = lc a Y := List.map_inj_left.1 h
 apply List.ext_getElem (by rw [hX, hY])
 intro i h1 h2
 have := lc_span_eq h' (full_span hA hr (unit_supp (by omega : i < n)))
 rw [lc_unit, lc_unit] at this
 unfold rowAt at this
 rwa [List.getElem?_eq_getElem h1, List.getElem?_eq_getElem h2] at this
end Go.Proofs.YtbbglejdfbkjlaaGreat.L
