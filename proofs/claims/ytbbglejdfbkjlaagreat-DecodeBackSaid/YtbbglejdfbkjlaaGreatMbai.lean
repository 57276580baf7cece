/-
  Texts laid behind one another: Rm Mg Pd Dg Qa Qb Ne.
-/
import Derived.Test.YtbbglejdfbkjlaaGreatMbab
import Derived.Test.YtbbglejdfbkjlaaGreatMbah
import Derived.Test.YtbbglejdfbkjlaaGreatMbad
import Derived.Test.YtbbglejdfbkjlaaGreatMbae
import Derived.Test.YtbbglejdfbkjlaaGreatProg
import Derived.Test.YtbbglejdfbkjlaaGreatMbaa
import Derived.Test.YtbbglejdfbkjlaaGreatMbag
import Derived.Test.YtbbglejdfbkjlaaGreatMbaf
namespace Go.Proofs.YtbbglejdfbkjlaaGreat
open Go.RowKit
theorem Rn.keptM {base : Nat} {w w' : World} {u : Value} {row : Option Nat} (hr : Rn base w u)
  (hk : ∀ k, k < w.heap.size → some k ≠ row → w'.heap[k]? = w.heap[k]?) (hrow : ∀ g, row = some g → ∀ cur, w.heap[g]? ≠ some (.cells cur 5 (0, 0))) : Rn base w' u := fun a n c hu hn => by
 obtain ⟨h1, cur, h2⟩ := hr a n c hu hn
 refine ⟨h1, cur, ?_⟩
 rw [hk _ (Array.getElem?_eq_some_iff.1 h2).1 (fun e => hrow a.block e.symm cur h2)]
 exact h2
theorem Rn.grM {base : Nat} {w w' : World} {u : Value} (hr : Rn base w u) (hg : Gr w w') : Rn base w' u :=
 Rn.keptM (row := none) hr (fun k hk _ => hg.2.2.2.2 k hk) (fun g h => by cases h)
theorem Rn.lowM {base base' : Nat} {w : World} {u : Value} (hr : Rn base' w u) (hb : base ≤ base') : Rn base w u := fun a n c e hn => ⟨Nat.le_trans hb (hr a n c e hn).1, (hr a n c e hn).2⟩
theorem Rn.setM {base base' n c : Nat} {w : World} {u : Value} {us : List Value} {g : Nat} (hr : Rn base w u) (ho : w.ownsRow base' 25 1 (.slice (some ⟨g, 0, none⟩) n c) n us) (i : Nat) (x : Value) : Rn base (w.setCell ⟨g, i, none⟩ x) u :=
 hr.keptM (row := some g) (fun k _ hk => Below.heap_setCell _ _ _ k (fun e => hk (by rw [e]))) (fun g' e cur => by cases e; exact (ownsRow_not_bytes ho g rfl).2 cur)
theorem New.rnM {w w' : World} {v : Value} {l : List Int} {base : Nat} (h : New w w' v l) (hb : base ≤ w.heap.size) : Rn base w' v := by
 intro a n c hv hn
 obtain ⟨_, _, ⟨rfl, oa, c', rfl, _⟩ | ⟨g, c', cur, rfl, q, h2, _⟩⟩ := h
 ·cases hv
  omega
 ·cases hv
  exact ⟨Nat.le_trans hb q, cur, h2⟩
theorem ownsRow_lowM {base base' : Nat} {w : World} {e : TypeId} {size k : Nat} {v : Value} {xs : List Value} (h : w.ownsRow base' e size v k xs) (hb : base ≤ base') : w.ownsRow base e size v k xs := by
 obtain ⟨h1, h2 | ⟨g, c, cur, q1, q2, q3⟩⟩ := h
 ·exact ⟨h1, .inl h2⟩
 ·exact ⟨h1, .inr ⟨g, c, cur, q1, Nat.le_trans hb q2, q3⟩⟩
theorem RwsN.lowM {base base' : Nat} {w : World} {v : Value} {L : List (List Int)} (h : RwsN base' w v L) (hb : base ≤ base') : RwsN base w v L := by
 obtain ⟨us, h1, h2⟩ := h
 exact ⟨us, ownsRow_lowM h1 hb, fun i hi => ⟨(h2 i hi).1, (h2 i hi).2.lowM hb⟩⟩
theorem RwsN.nilM (base : Nat) (w : World) : RwsN base w (.slice none 0 0) [] := ⟨[], World.ownsRow_nil w base 25 1, fun i hi => absurd hi (by simp)⟩
theorem RwsN.grM {base : Nat} {w w' : World} {v : Value} {L : List (List Int)} (h : RwsN base w v L) (hg : Gr w w') : RwsN base w' v L := by
 obtain ⟨us, h1, h2⟩ := h
 exact ⟨us, h1.of_gr hg, fun i hi => ⟨Bs.grown (h2 i hi).1 hg, (h2 i hi).2.grM hg⟩⟩
def Nr (base : Nat) (w : World) (v : Value) (l : List Int) : Prop :=
 (∀ x ∈ l, Byt x) ∧ ((l = [] ∧ ∃ oa c, v = .slice oa 0 c ∧ (oa = none → c = 0) ∧ c ≤ 9223372036854775807) ∨
   ∃ g c cur, v = .slice (some ⟨g, 0, none⟩) l.length c ∧ base ≤ g ∧ w.heap[g]? = some (.cells cur 5 (0, 0)) ∧ l.length ≤ c ∧ c ≤ 9223372036854775807 ∧ ∀ i, i < l.length → cur[i]? = some (.int .u8 (l.getD i 0)))
theorem New.nr {w w' : World} {v : Value} {l : List Int} (h : New w w' v l) : Nr w.heap.size w' v l := h.2
theorem Nr.new {w w' : World} {v : Value} {l : List Int} (h : Nr w.heap.size w' v l) (hg : Gr w w') : New w w' v l := ⟨hg, h⟩
theorem Nr.low {base base' : Nat} {w : World} {v : Value} {l : List Int} (h : Nr base' w v l) (hb : base ≤ base') : Nr base w v l := by
 obtain ⟨h1, h2 | ⟨g, c, cur, e, h2, h3⟩⟩ := h
 ·exact ⟨h1, .inl h2⟩
 ·exact ⟨h1, .inr ⟨g, c, cur, e, Nat.le_trans hb h2, h3⟩⟩
theorem Nr.keptM {base : Nat} {w w' : World} {v : Value} {l : List Int} {row : Option Nat} (h : Nr base w v l)
  (hk : ∀ k, k < w.heap.size → some k ≠ row → w'.heap[k]? = w.heap[k]?) (hrow : ∀ g, row = some g → ∀ cur, w.heap[g]? ≠ some (.cells cur 5 (0, 0))) : Nr base w' v l := by
 obtain ⟨h1, h2 | ⟨g, c, cur, e, h2, h3, h4⟩⟩ := h
 ·exact ⟨h1, .inl h2⟩
 ·refine ⟨h1, .inr ⟨g, c, cur, e, h2, ?_, h4⟩⟩
  rw [hk _ (Array.getElem?_eq_some_iff.1 h3).1 (fun e => hrow g e.symm cur h3)]
  exact h3
theorem Nr.grM {base : Nat} {w w' : World} {v : Value} {l : List Int} (h : Nr base w v l) (hg : Gr w w') : Nr base w' v l :=
 Nr.keptM (row := none) h (fun k hk _ => hg.2.2.2.2 k hk) (fun g h => by cases h)
theorem Nr.setM {base base' n c : Nat} {w : World} {u : Value} {l : List Int} {us : List Value} {g : Nat} (hr : Nr base w u l) (ho : w.ownsRow base' 25 1 (.slice (some ⟨g, 0, none⟩) n c) n us) (i : Nat) (x : Value) : Nr base (w.setCell ⟨g, i, none⟩ x) u l :=
 hr.keptM (row := some g) (fun k _ hk => Below.heap_setCell _ _ _ k (fun e => hk (by rw [e]))) (fun g' e cur => by cases e; exact (ownsRow_not_bytes ho g rfl).2 cur)
end Go.Proofs.YtbbglejdfbkjlaaGreat
namespace Go.Proofs.YtbbglejdfbkjlaaGreat
open Go.RowKit
structure Fill (w0 W : World) (g n : Nat) (P : Nat → List Int → Prop) (j : Nat) (us : List Value) (L : List (List Int)) : Prop where
 own : W.ownsRow w0.heap.size 25 1 (.slice (some ⟨g, 0, none⟩) n n) n us
 row : ∀ i, i < n → Bs W (us.getD i undef) (L.getD i []) ∧ Rb w0.heap.size W (us.getD i undef)
 len : L.length = n
 is : ∀ i, i < j → P i (L.getD i [])
 gr : Gr w0 W
section
variable {w0 W : World} {g n : Nat} {P : Nat → List Int → Prop} {j : Nat} {us : List Value} {L : List (List Int)}
theorem Fill.start (w : World) (n : Nat) (hn : n ≤ 1000000) (P : Nat → List Int → Prop) : Fill w (w.alloc (.cells (nils n) 25)) w.heap.size n P 0 (List.replicate n (.slice none 0 0)) (List.replicate n []) := by
 refine ⟨⟨by simp, .inr ⟨w.heap.size, n, nils n, rfl, Nat.le_refl _, heap_alloc_new _ _, Nat.le_refl _, by unfold maxLen; omega, by simp [nils], by simp [nils]⟩⟩, fun i hi => ?_, by simp, by omega, Gr.alloc (Gr.refl _) _ _⟩
 have e1 : (List.replicate n (Value.slice none 0 0)).getD i undef = .slice none 0 0 := by rw [List.getD_eq_getElem?_getD, List.getElem?_replicate, if_pos hi]; rfl
 have e2 : (List.replicate n ([] : List Int)).getD i [] = [] := by rw [List.getD_eq_getElem?_getD, List.getElem?_replicate, if_pos hi]; rfl
 rw [e1, e2]
 exact ⟨Bs.nil _, fun a n c e _ => by cases e⟩
theorem Fill.cell (h : Fill w0 W g n P j us L) (i : Nat) (hi : i < n) : W.cell? ⟨g, i, none⟩ = some (us.getD i undef) := by
 obtain ⟨g', c', he, _, _, _, _, hc⟩ := ownsRow_cell h.own (by omega)
 cases he
 exact hc i hi
theorem Fill.frozen (h : Fill w0 W g n P j us L) (i : Nat) : W.frozen? ⟨g, i, none⟩ = false := by
 obtain ⟨_, ⟨he, _⟩ | ⟨g', c', cur, he, _, hg, _⟩⟩ := h.own
 ·cases he
 ·cases he
  exact frozen_of_row W g i _ _ hg
theorem Fill.base (h : Fill w0 W g n P j us L) : w0.heap.size ≤ g := (ownsRow_not_bytes h.own g rfl).1
theorem Fill.grow {W' : World} (h : Fill w0 W g n P j us L) (hg : Gr W W') : Fill w0 W' g n P j us L :=
 ⟨h.own.of_gr hg, fun i hi => Rb.gr (h.row i hi).1 (h.row i hi).2 hg, h.len, h.is, Gr.trans h.gr hg⟩
theorem Fill.put {u : Value} {l : List Int} (h : Fill w0 W g n P j us L) (hj : j < n) (hb : Bs W u l) (hrb : Rb w0.heap.size W u) (hp : P j l) :
  Fill w0 (W.setCell ⟨g, j, none⟩ u) g n P (j + 1) (us.set j u) (L.set j l) := by
 obtain ⟨h1, h2⟩ := Rws.set h.own h.len h.row j hj hb hrb
 refine ⟨h1, h2, by rw [List.length_set]; exact h.len, fun i hi => ?_, Gr.setCell h.gr h.base u⟩
 by_cases e : i = j
 ·subst e
  rw [getD_set_self _ _ _ (by rw [h.len]; exact hj)]
  exact hp
 ·rw [getD_set_ne _ _ _ _ (fun c => e c.symm)]
  exact h.is i (by omega)
theorem Fill.bss (h : Fill w0 W g n P j us L) : Bss W (.slice (some ⟨g, 0, none⟩) n n) L := owns_bss h.own h.len fun i hi => (h.row i (by rw [← h.len]; exact hi)).1
end
theorem L.lc_snoc : ∀ (X : List L.V) (c y : L.V), L.lc c (X ++ [y]) = L.vadd (L.lc c X) (L.smul (c X.length) y)
 | [], c, y => by
  show L.vadd (L.smul (c 0) y) L.vzero = L.vadd L.vzero (L.smul (c 0) y)
  rw [L.vadd_zero, L.vzero_add]
 | x :: X, c, y => by
  show L.vadd (L.smul (c 0) x) (L.lc (fun i => c (i + 1)) (X ++ [y])) = L.vadd (L.vadd (L.smul (c 0) x) (L.lc (fun i => c (i + 1)) X)) (L.smul (c (X.length + 1)) y)
  rw [L.lc_snoc X, L.vadd_assoc]
theorem axL_byt {c : Int} {x y : List Int} (hy : ∀ z ∈ y, Byt z) : ∀ z ∈ axL c x y, Byt z := by
 rw [← lst_eq_ax]
 exact axF_byt fun i => getD_byt hy i
def IsW (m : Nat) (r : List Int) (X : List (List Int)) (l : List Int) : Prop := l.length = m ∧ (∀ x ∈ l, Byt x) ∧ vec l = L.lc (vec r) (X.map vec)
theorem IsW.start (m : Nat) (r : List Int) : IsW m r [] (List.replicate m 0) := by
 refine ⟨by simp, fun x hx => ?_, ?_⟩
 ·rw [(List.mem_replicate.1 hx).2]
  unfold Byt
  omega
 ·funext i
  show fb ((List.replicate m 0).getD i 0) = L.zero
  rw [replicate_getD, fb_zero]
theorem IsW.next {m j : Nat} {r l : List Int} {X : List (List Int)} (h : IsW m r (X.take j) l) (hr : ∀ x ∈ r, Byt x) (hX : Wide m X) (hj : j < X.length) : IsW m r (X.take (j + 1)) (axL (r.getD j 0) (X.getD j []) l) := by
 obtain ⟨h1, h2, h3⟩ := h
 have hx := hX.at j hj
 have hlen : ((X.take j).map vec).length = j := by rw [List.length_map, List.length_take]; omega
 refine ⟨by rw [axL_length]; exact hx.1, axL_byt h2, ?_⟩
 rw [vec_ax (getD_byt hr j) hx.2 h2 (by rw [hx.1, h1]), h3, List.take_add_one, List.getElem?_eq_getElem hj]
 show _ = L.lc (vec r) ((X.take j ++ [X[j]]).map vec)
 rw [List.map_append, List.map_singleton, L.lc_snoc, hlen, List.getD_eq_getElem?_getD (l := X), List.getElem?_eq_getElem hj]
 rfl
set_option maxRecDepth 100000 in
set_option maxHeartbeats 800000 in
theorem weighted_any (f vr vx : Value) (r : List Int) (X : List (List Int)) (w : World) (hf : IsF w f) (hr : Bs w vr r) (hx : Bss w vx X) (hl : X.length ≤ 1000) (hrl : r.length = X.length) (hX : Wide (wd X) X) (hm : wd X ≤ 64) :
  Calls Tryz.prog 86 #[f, vr, vx] w fun e w' => ∃ v l, e = .returned v ∧ New w w' v l ∧ IsW (wd X) r X l := by
 have HS := Lib.hid hx
 have HF := Lib.hid hf
 have HRB := Lib.hid hr.1
 have HXW := Lib.hid hX
 obtain ⟨_, oar, cr, rfl, r1, r2, r3, r4⟩ := hr
 obtain ⟨oa, c0, rfl, h1, h2, h3, h4⟩ := hx
 obtain ⟨n, hn⟩ : ∃ n, X.length = n := ⟨_, rfl⟩
 obtain ⟨m, hmm⟩ : ∃ m, wd X = m := ⟨_, rfl⟩
 rw [hrl] at r1 r4 ⊢
 rw [hn] at HS h1 h4 hl r1 r4 hrl ⊢
 rw [hmm] at HXW hm ⊢
 have HA := Lib.hid h4
 have HR := Lib.hid r4
 have HN := Lib.hid hn
 have HMM := Lib.hid hmm
 have hoa : n = 0 ∨ ∃ a, oa = some a := by
  cases oa with
  | none => exact .inl (by have := h3 rfl; omega)
  | some a => exact .inr ⟨a, rfl⟩
 have hor : n = 0 ∨ ∃ a, oar = some a := by
  cases oar with
  | none => exact .inl (by have := r3 rfl; omega)
  | some a => exact .inr ⟨a, rfl⟩
 have hmk := make22 m m (by omega) (by omega)
 have hR : ∃ cur, cur = rowB (List.replicate m 0) := ⟨_, rfl⟩
 obtain ⟨cur, hcur⟩ := hR
 rw [← hcur] at hmk
 have HC := Lib.hid hcur
 have HRL := Lib.hid hrl
 clear hf hX hn hmm h3 h4 r3 r4 hcur hrl
 go_enter Tryz.func86, Tryz.ntmps86
 go_wp2_with (first | (go_at_call 56; refine (columns_any _ X _ HS.out).mono ?_; rw [HMM.out]; rintro e w1 ⟨rfl, hg1⟩; have G1 := Lib.hid hg1; clear hg1))
 clear hmk
 have HB : Hid (New w (w1.alloc (.cells cur 5)) (.slice (some ⟨w1.heap.size, 0, none⟩) m m) (List.replicate m 0)) := Lib.hid (New.of_blk (Gr.alloc G1.out _ _) (IsW.start m r).2.1 G1.out.size (by rw [HC.out]; exact heap_alloc_new _ _) (by simp) (by omega))
 clear HC
 generalize hW : w1.alloc (.cells cur 5) = W at *
 generalize hG : w1.heap.size = g at *
 go_loopw [7, 15] (fun sv i wr => ∃ (j : Nat) (l : List Int), j ≤ n ∧ i = .int .i64 j ∧ New w wr sv l ∧ IsW m r (X.take j) l) (fun _ i _ => n - (intOf i).toNat)
 case atStart => exact ⟨0, _, by omega, rfl, HB.out, by rw [List.take_zero]; exact IsW.start m r⟩
 case round =>
  clear HB
  obtain ⟨j, l, hj, rfl, hnw, hw⟩ := hrel
  obtain ⟨o2, m2, c2, rfl⟩ := New.form3 hnw
  by_cases hlt : j < n
  ·obtain ⟨a, rfl⟩ : ∃ a, oa = some a := by
    rcases hoa with c1 | c1
    ·omega
    ·exact c1
   obtain ⟨ar, rfl⟩ : ∃ a, oar = some a := by
    rcases hor with c1 | c1
    ·omega
    ·exact c1
   obtain ⟨u, q0, hu⟩ := HA.out a rfl j hlt
   have q1 := cell_grown hnw.1 q0
   have q2 := cell_grown hnw.1 (HR.out ar rfl j hlt)
   have hzb := getD_byt HRB.out j
   have HU := Lib.hid (Bs.grown hu hnw.1)
   obtain ⟨ou, cu, rfl⟩ := hu.form
   have hxw := HXW.out.at j (by rw [HN.out]; exact hlt)
   have HW := Lib.hid hw
   have HNW := Lib.hid hnw
   have HXL := Lib.hid hxw.1
   obtain ⟨z, hz⟩ : ∃ z, r.getD j 0 = z := ⟨_, rfl⟩
   rw [hz] at q2 hzb
   have HZ := Lib.hid hz
   rw [hxw.1] at HU q1
   clear hz q0 hu hxw hw hnw
   go_wp2_with (first | (go_at_call 107; refine (ok_axpy f _ _ z (X.getD j []) l _ (IsF.grown HF.out HNW.out.1) hzb HU.out HNW.out.bs (by rw [HXL.out]; omega) (by rw [HXL.out]; exact HW.out.1)).mono ?_; rintro e w2 ⟨v2, rfl, hnw2⟩; have HN2 := Lib.hid hnw2; clear hnw2))
   refine ⟨⟨j + 1, _, by omega, by go_num, New.under HNW.out.1 HN2.out, ?_⟩, by simp [intOf]; omega⟩
   rw [← HZ.out]
   exact HW.out.next HRB.out HXW.out (by rw [HN.out]; exact hlt)
  ·obtain rfl : j = n := by omega
   rw [List.take_of_length_le (by rw [HN.out]; omega)] at hw
   have HW := Lib.hid hw
   have HNW := Lib.hid hnw
   clear hw hnw
   go_wp2
   go_ret
   exact ⟨_, l, rfl, HNW.out, HW.out⟩
theorem isMul_of {m : Nat} {A X o : List (List Int)} (hl : o.length = A.length) (h : ∀ i, i < A.length → IsW m (A.getD i []) X (o.getD i [])) : IsMul m A X o := by
 refine ⟨fun r hr => ?_, ?_⟩
 ·obtain ⟨i, hi, rfl⟩ := List.getElem_of_mem hr
  have := h i (by omega)
  rw [List.getD_eq_getElem?_getD (l := o), List.getElem?_eq_getElem hi] at this
  exact ⟨this.1, this.2.1⟩
 ·apply List.ext_getElem
  ·simp [L.mulM, hl]
  intro i h1 h2
  rw [List.length_map] at h1
  have := (h i (by omega)).2.2
  rw [List.getD_eq_getElem?_getD (l := o), List.getElem?_eq_getElem h1, List.getD_eq_getElem?_getD (l := A), List.getElem?_eq_getElem (by omega)] at this
  simpa [L.mulM] using this
theorem own_lowM {w : World} {base base' n : Nat} {e : TypeId} {size : Nat} {v : Value} {us : List Value} (h : w.ownsRow base e size v n us) (hb : base' ≤ base) : w.ownsRow base' e size v n us := by
 obtain ⟨h0, h1 | ⟨g', c, cur, h1, h2, h3⟩⟩ := h
 ·exact ⟨h0, .inl h1⟩
 ·exact ⟨h0, .inr ⟨g', c, cur, h1, Nat.le_trans hb h2, h3⟩⟩
set_option maxRecDepth 100000 in
set_option maxHeartbeats 1600000 in
theorem mul_own (f va vx : Value) (A X : List (List Int)) (w : World) (hf : IsF w f) (ha : Bss w va A) (hx : Bss w vx X) (hl : A.length ≤ 1000) (hlx : X.length ≤ 1000) (hma : mayL A = true) (hmx : mayL X = true) (h0 : 0 < A.length) (he : wd A = X.length) :
  Calls Tryz.prog 46 #[f, va, vx] w fun e w' => ∃ v out, e = .returned (.tuple #[v, .bool true]) ∧ Bss w' v out ∧ Gr w w' ∧ IsMul (wd X) A X out ∧ ∃ (g : Nat) (us : List Value), v = .slice (some ⟨g, 0, none⟩) A.length A.length ∧ (∀ i, i < A.length → w'.cell? ⟨g, i, none⟩ = some (us.getD i undef) ∧ Nr w.heap.size w' (us.getD i undef) (out.getD i [])) ∧ w'.ownsRow w.heap.size 25 1 v A.length us := by
 have WA := Lib.hid (Wide.of_bss ha hma)
 have WX := Lib.hid (Wide.of_bss hx hmx)
 have HM := Lib.hid hma
 have HMX := Lib.hid hmx
 have HS := Lib.hid ha
 have HSX := Lib.hid hx
 have HF := Lib.hid hf
 have hm64 : wd X ≤ 64 := by
  by_cases hx0 : 0 < X.length
  ·exact (mayL_at hmx 0 hx0).2
  ·have : X = [] := List.eq_nil_of_length_eq_zero (by omega)
   subst this
   exact Nat.zero_le _
 have HM64 := Lib.hid hm64
 obtain ⟨a, c0, rfl, h1, h2, h3⟩ := Bss.at ha h0
 obtain ⟨ox, cx, rfl, x1, x2, x3, x4⟩ := hx
 have HA := Lib.hid h3
 obtain ⟨n, hn⟩ : ∃ n, A.length = n := ⟨_, rfl⟩
 obtain ⟨p, hp⟩ : ∃ p, X.length = p := ⟨_, rfl⟩
 rw [hn] at HS h1 hl h0 HA ⊢
 rw [hp] at HSX x1 hlx he ⊢
 have HN := Lib.hid hn
 have HP := Lib.hid hp
 have HE := Lib.hid he
 have hmk := make24 n n (by omega) (by omega)
 have hR : ∃ cur, cur = nils n := ⟨_, rfl⟩
 obtain ⟨cur, hcur⟩ := hR
 rw [← hcur] at hmk
 have HC := Lib.hid hcur
 clear hf ha hma hmx hm64 h3 x3 x4 hn hp he hcur
 go_enter Tryz.func46, Tryz.ntmps46
 go_wp2_with fail
 refine (may_any _ A w HS.out (by rw [HN.out]; omega)).mono ?_
 rintro e w1 ⟨rfl, hg1⟩
 rw [HM.out]
 have G1 := Lib.hid hg1
 clear hg1
 go_wp2_with fail
 refine (may_any _ X w1 (Bss.grown HSX.out G1.out) (by rw [HP.out]; omega)).mono ?_
 rintro e w2 ⟨rfl, hg2⟩
 rw [HMX.out]
 have G2 := Lib.hid (Gr.trans G1.out hg2)
 clear hg2
 go_wp2_with fail
 refine (columns_any _ A w2 (Bss.grown HS.out G2.out)).mono ?_
 rw [HE.out]
 rintro e w3 ⟨rfl, hg3⟩
 have G3 := Lib.hid (Gr.trans G2.out hg3)
 clear hg3
 go_wp2_with fail
 refine (mtabled_any f _ (IsF.grown HF.out G3.out)).mono ?_
 rintro e w4 ⟨b, rfl, hfb, hg4⟩
 have HFB := Lib.hid hfb
 have G4 := Lib.hid (Gr.trans G3.out hg4)
 clear hfb hg4
 go_wp2_with fail
 have HB : Hid (Fill w4 (w4.alloc (.cells cur 25)) w4.heap.size n (fun i l => IsW (wd X) (A.getD i []) X l) 0 (List.replicate n (.slice none 0 0)) (List.replicate n [])) := Lib.hid (by rw [HC.out]; exact Fill.start w4 n (by omega) _)
 clear HC hmk
 generalize hW : w4.alloc (.cells cur 25) = W at *
 generalize hG : w4.heap.size = g at *
 go_loopw [38] (fun i wr => ∃ (j : Nat) (us : List Value) (L : List (List Int)), j ≤ n ∧ i = .int .i64 j ∧ Fill w4 wr g n (fun i l => IsW (wd X) (A.getD i []) X l) j us L ∧ ∀ t, t < j → Nr w.heap.size wr (us.getD t undef) (L.getD t [])) (fun i _ => n - (intOf i).toNat)
 case atStart => exact ⟨0, _, _, by omega, rfl, HB.out, fun t ht => by omega⟩
 case round =>
  clear HB
  obtain ⟨j, us, Lx, hj, rfl, hfl, hnr⟩ := hrel
  have FL := Lib.hid hfl
  have NR := Lib.hid hnr
  clear hfl hnr
  by_cases hlt : j < n
  ·obtain ⟨u, q0, hu⟩ := HA.out j hlt
   have q1 := cell_grown (Gr.trans G4.out FL.out.gr) q0
   have HU := Lib.hid (Bs.grown hu (Gr.trans G4.out FL.out.gr))
   obtain ⟨ou, cu, rfl⟩ := hu.form
   have qc := FL.out.cell j hlt
   have qf := FL.out.frozen j
   have HAL := Lib.hid (WA.out.at j (by rw [HN.out]; exact hlt)).1
   rw [HAL.out, HE.out] at q1 HU
   clear q0 hu
   go_wp2_with (first | (go_at_call 86; refine (weighted_any _ _ _ (A.getD j []) X _ (Or.inr ⟨b, rfl, FieldAt.grown HFB.out FL.out.gr⟩) HU.out (Bss.grown HSX.out (Gr.trans G4.out FL.out.gr)) (by rw [HP.out]; exact hlx) (by rw [HAL.out, HE.out, HP.out]) WX.out HM64.out).mono ?_; rintro e w5 ⟨v5, l5, rfl, hnw, hw5⟩; obtain ⟨o5, m5, c5, rfl⟩ := New.form3 hnw; have hc5 := cell_grown hnw.1 qc; have hf5 := frozen_grown hnw.1 qc qf; have HN5 := Lib.hid hnw; have HW5 := Lib.hid hw5; clear hnw hw5))
   have hgs : w.heap.size ≤ wr.heap.size := (Gr.trans G4.out FL.out.gr).size
   have hus : us.length = n := by have := FL.out.own.1; omega
   refine ⟨⟨j + 1, _, _, by omega, by go_num, (FL.out.grow HN5.out.1).put hlt (New.bs HN5.out) (New.rb HN5.out _) HW5.out, fun t ht => ?_⟩, by simp [intOf]; omega⟩
   by_cases e : t = j
   ·subst e
    rw [List.getD_eq_getElem?_getD, List.getElem?_set_self (by omega), getD_set_self _ _ _ (by rw [FL.out.len]; exact hlt)]
    exact (HN5.out.nr.low hgs).setM (FL.out.own.of_gr HN5.out.1) _ _
   ·rw [List.getD_eq_getElem?_getD, List.getElem?_set_ne (fun c => e c.symm), ← List.getD_eq_getElem?_getD, getD_set_ne _ _ _ _ (fun c => e c.symm)]
    exact ((NR.out t (by omega)).grM HN5.out.1).setM (FL.out.own.of_gr HN5.out.1) _ _
  ·obtain rfl : j = n := by omega
   go_wp2
   go_ret2
   exact ⟨_, Lx, rfl, FL.out.bss, Gr.trans G4.out FL.out.gr, isMul_of (by rw [FL.out.len, HN.out]) (fun i hi => FL.out.is i (by rw [← HN.out]; exact hi)), g, us, rfl, fun i hi => ⟨FL.out.cell i hi, NR.out i hi⟩, own_lowM FL.out.own G4.out.size⟩
theorem mul_pos (f va vx : Value) (A X : List (List Int)) (w : World) (hf : IsF w f) (ha : Bss w va A) (hx : Bss w vx X) (hl : A.length ≤ 1000) (hlx : X.length ≤ 1000) (hma : mayL A = true) (hmx : mayL X = true) (h0 : 0 < A.length) (he : wd A = X.length) :
  Calls Tryz.prog 46 #[f, va, vx] w fun e w' => ∃ v out, e = .returned (.tuple #[v, .bool true]) ∧ Bss w' v out ∧ Gr w w' ∧ IsMul (wd X) A X out ∧ ∃ (g : Nat) (us : List Value), v = .slice (some ⟨g, 0, none⟩) A.length A.length ∧ ∀ i, i < A.length → w'.cell? ⟨g, i, none⟩ = some (us.getD i undef) ∧ Nr w.heap.size w' (us.getD i undef) (out.getD i []) := (mul_own f va vx A X w hf ha hx hl hlx hma hmx h0 he).mono fun _ _ ⟨v, out, h1, h2, h3, h4, g, us, h5, h6, _⟩ => ⟨v, out, h1, h2, h3, h4, g, us, h5, h6⟩
set_option maxRecDepth 100000 in
set_option maxHeartbeats 1600000 in
theorem mul_none (f vx : Value) (oa : Option Addr) (ca : Nat) (X : List (List Int)) (w : World) (hf : IsF w f) (ha : Bss w (.slice oa 0 ca) []) (hx : Bss w vx X) (hlx : X.length ≤ 1000) (hmx : mayL X = true) :
  Calls Tryz.prog 46 #[f, .slice oa 0 ca, vx] w fun e w' => ∃ v out, e = .returned (.tuple #[v, .bool true]) ∧ Bss w' v out ∧ Gr w w' ∧ IsMul (wd X) [] X out := by
 have HMX := Lib.hid hmx
 have HS := Lib.hid ha
 have HSX := Lib.hid hx
 have HF := Lib.hid hf
 have hmk : ∀ w, (Instr.makeSlice 65 (.int .i64 0) (.int .i64 0)).run Tryz.prog w = .ok (.slice (some ⟨w.heap.size, 0, none⟩) 0 0) (w.alloc (.cells (nils 0) 25)) := fun w => make24 0 0 (by omega) (by omega) w
 have hR : ∃ cur, cur = nils 0 := ⟨_, rfl⟩
 obtain ⟨cur, hcur⟩ := hR
 rw [← hcur] at hmk
 have HC := Lib.hid hcur
 clear hf ha hx hmx hcur
 go_enter Tryz.func46, Tryz.ntmps46
 go_wp2_with fail
 refine (may_any _ [] w HS.out (by simp)).mono ?_
 rintro e w1 ⟨rfl, hg1⟩
 rw [show mayL [] = true from rfl]
 have G1 := Lib.hid hg1
 clear hg1
 go_wp2_with fail
 refine (may_any _ X w1 (Bss.grown HSX.out G1.out) (by omega)).mono ?_
 rintro e w2 ⟨rfl, hg2⟩
 rw [HMX.out]
 have G2 := Lib.hid (Gr.trans G1.out hg2)
 clear hg2
 go_wp2_with fail
 refine (mtabled_any f _ (IsF.grown HF.out G2.out)).mono ?_
 rintro e w4 ⟨b, rfl, hfb, hg4⟩
 have G4 := Lib.hid (Gr.trans G2.out hg4)
 clear hfb hg4
 go_wp2_with fail
 have HB : Hid (Fill w4 (w4.alloc (.cells cur 25)) w4.heap.size 0 (fun _ _ => True) 0 (List.replicate 0 (.slice none 0 0)) (List.replicate 0 [])) := Lib.hid (by rw [HC.out]; exact Fill.start w4 0 (by omega) _)
 clear HC hmk
 generalize hW : w4.alloc (.cells cur 25) = W at *
 generalize hG : w4.heap.size = g at *
 go_loopw [38] (fun i wr => i = .int .i64 0 ∧ wr = W) (fun _ _ => 0)
 case atStart => exact ⟨rfl, rfl⟩
 case round =>
  obtain ⟨rfl, rfl⟩ := hrel
  go_wp2
  go_ret2
  exact ⟨_, [], rfl, HB.out.bss, Gr.trans G4.out HB.out.gr, isMul_of rfl (fun i hi => by simp at hi)⟩
theorem ok_mul : ∀ (f va vx : Value) (A X : List (List Int)) (w : World), IsF w f → Bss w va A → Bss w vx X → A.length ≤ 1000 → X.length ≤ 1000 → mayL A = true → mayL X = true → (A = [] ∨ wd A = X.length) →
  Calls Tryz.prog 46 #[f, va, vx] w fun e w' => ∃ v out, e = .returned (.tuple #[v, .bool true]) ∧ Bss w' v out ∧ Gr w w' ∧ IsMul (wd X) A X out :=
 fun f va vx A X w hf ha hx hl hlx hma hmx he => by
  by_cases h0 : 0 < A.length
  ·refine (mul_pos f va vx A X w hf ha hx hl hlx hma hmx h0 ?_).mono fun _ _ ⟨v, o, h1, h2, h3, h4, _⟩ => ⟨v, o, h1, h2, h3, h4⟩
   rcases he with rfl | he
   ·simp at h0
   ·exact he
  ·obtain rfl : A = [] := List.eq_nil_of_length_eq_zero (by omega)
   have hs := ha
   obtain ⟨oa, c, rfl, _, _, _, _⟩ := ha
   exact mul_none f vx oa c X w hf hs hx hlx hmx
end Go.Proofs.YtbbglejdfbkjlaaGreat
namespace Go.Proofs.YtbbglejdfbkjlaaGreat
open Go.RowKit
def midF (K h j : Nat) : Nat → Int := fun i => if i < K ∧ j ≤ i then 0 else aheadF K h i
theorem midF_zero (K H h : Nat) : lst (K + H) (midF K h 0) = unitL (K + H) (K + h) := by
 apply lst_congr
 intro i _
 unfold midF aheadF
 by_cases c : i < K
 ·rw [if_pos ⟨c, by omega⟩, if_neg (by omega)]
 ·rw [if_neg (by omega), if_neg c]
theorem midF_all (K H h : Nat) : lst (K + H) (midF K h K) = aheadRow K H h := by
 apply lst_congr
 intro i _
 unfold midF
 rw [if_neg (by omega)]
structure Mid (w W : World) (g N c : Nat) (K h j : Nat) : Prop where
 gr : Gr w W
 le : w.heap.size ≤ g
 cap : N ≤ c ∧ c ≤ 9223372036854775807
 blk : ∃ cur, W.heap[g]? = some (.cells cur 5 (0, 0)) ∧ ∀ i, i < N → cur[i]? = some (.int .u8 (midF K h j i))
theorem Mid.frozen {w W : World} {g N c K h j : Nat} (m : Mid w W g N c K h j) (i : Nat) : W.frozen? ⟨g, i, none⟩ = false := by
 obtain ⟨cur, h1, _⟩ := m.blk
 exact frozen_of_row W g i _ _ h1
theorem Mid.cell {w W : World} {g N c K h j : Nat} (m : Mid w W g N c K h j) (i : Nat) (hi : i < N) : W.cell? ⟨g, i, none⟩ = some (.int .u8 (midF K h j i)) := by
 obtain ⟨cur, h1, h2⟩ := m.blk
 rw [cell_of_row W g i _ _ _ h1, h2 i hi]
theorem Mid.more {w W W' : World} {g N c K h j : Nat} (m : Mid w W g N c K h j) (hg : Gr W W') : Mid w W' g N c K h j := by
 obtain ⟨cur, h1, h2⟩ := m.blk
 exact ⟨Gr.trans m.gr hg, m.le, m.cap, cur, keptRow hg h1, h2⟩
theorem Mid.put {w W : World} {g N c K h j : Nat} (m : Mid w W g N c K h j) (hj : j < K) (hN : K ≤ N) : Mid w (W.setCell ⟨g, j, none⟩ (.int .u8 (aheadF K h j))) g N c K h (j + 1) := by
 obtain ⟨cur, h1, h2⟩ := m.blk
 refine ⟨Gr.setCell m.gr m.le _, m.le, m.cap, _, heap_setCell_same _ _ _ _ _ _ h1, fun i hi => ?_⟩
 rw [Array.getElem?_setIfInBounds]
 have hs : j < cur.size := (Array.getElem?_eq_some_iff.1 (h2 j (by omega))).1
 unfold midF
 by_cases e : j = i
 ·subst e
  rw [if_pos rfl, if_pos hs, if_neg (by omega)]
 ·rw [if_neg e, h2 i hi]
  unfold midF
  by_cases c : i < K ∧ j ≤ i
  ·rw [if_pos c, if_pos (by omega)]
  ·rw [if_neg c, if_neg (by omega)]
theorem Mid.start {w W : World} {K H h : Nat} {v : Value} (hn : New w W v (unitL (K + H) (K + h))) (h0 : 0 < K + H) : ∃ g c, v = .slice (some ⟨g, 0, none⟩) ((K + H : Nat) : Nat) c ∧ Mid w W g (K + H) c K h 0 := by
 have hl : (unitL (K + H) (K + h)).length = K + H := lst_length _ _
 obtain ⟨hg, _, ⟨h1, _⟩ | ⟨g, c, cur, rfl, q1, q2, q3, q4, q5⟩⟩ := hn
 ·rw [h1] at hl
  simp at hl
  omega
 ·rw [hl] at q3 q5
  refine ⟨g, c, by rw [hl], hg, q1, ⟨q3, q4⟩, cur, q2, fun i hi => ?_⟩
  rw [q5 i hi, ← midF_zero, lst_getD _ _ _ hi]
theorem Mid.done {w W : World} {g N c K H h : Nat} (m : Mid w W g N c K h K) (hN : K + H = N) : New w W (.slice (some ⟨g, 0, none⟩) N c) (aheadRow K H h) := by
 subst hN
 obtain ⟨cur, h1, h2⟩ := m.blk
 refine ⟨m.gr, lst_byt fun i _ => aheadF_byt K h i, .inr ⟨g, c, cur, by rw [aheadRow_length], m.le, h1, by rw [aheadRow_length]; exact m.cap.1, m.cap.2, fun i hi => ?_⟩⟩
 rw [aheadRow_length] at hi
 rw [h2 i hi, ← midF_all, lst_getD _ _ _ hi]
set_option maxRecDepth 100000 in
set_option maxHeartbeats 800000 in
theorem precode_any (f : Value) (K H h : Nat) (S : Int) (w : World) (hf : IsF w f) (hm : MayP K H S) (hh : h < H) :
  Calls Tryz.prog 96 #[f, par K H S, .int .i64 (h : Int)] w fun e w' => ∃ v, e = .returned v ∧ New w w' v (aheadRow K H h) := by
 have HF := Lib.hid hf
 have hc : colsP K H S = ((K + H : Nat) : Int) := by unfold colsP; rw [if_pos hm]; omega
 have HC := Lib.hid hc
 obtain ⟨b1, b2, b3, b4, _, _⟩ := hm
 clear hf hc
 obtain ⟨N, hN⟩ : ∃ N, K + H = N := ⟨_, rfl⟩
 have hN64 : N ≤ 20 := by omega
 have HN := Lib.hid hN
 obtain ⟨q, hq⟩ : ∃ q : Nat, K + h = q := ⟨_, rfl⟩
 have hq' : (K : Int) + (h : Int) = (q : Int) := by omega
 have hwq : IntKind.i64.wrap (q : Int) = (q : Int) := by simp [IntKind.wrap, IntKind.bits, IntKind.signed]; omega
 have HQ := Lib.hid hq
 have P0 : Hid (Par (w.alloc (.cells #[.int .i64 (K : Int), .int .i64 (H : Int), .int .i64 S] 23)) w.heap.size K H S) := Lib.hid (heap_alloc_new _ _)
 have HG0 : Hid (Gr w (w.alloc (.cells #[.int .i64 (K : Int), .int .i64 (H : Int), .int .i64 S] 23))) := Lib.hid (Gr.alloc (Gr.refl _) _ _)
 go_enter Tryz.func96, Tryz.ntmps96
 go_wp2_with fail
 generalize w.alloc (.cells #[.int .i64 (K : Int), .int .i64 (H : Int), .int .i64 S] 23) = W0 at *
 generalize w.heap.size = gp at *
 have c0 := P0.out.cell0
 have c1 := P0.out.cell1
 have c2 := P0.out.cell2
 go_region_held3 (fun W => W.cell? ⟨gp, 0, none⟩ = some (.int .i64 (K : Int)) ∧ W.cell? ⟨gp, 1, none⟩ = some (.int .i64 (H : Int)) ∧ W.cell? ⟨gp, 2, none⟩ = some (.int .i64 S)) (first | exact ⟨k20, k21, k22⟩ | exact ⟨k10, k11, k12⟩ | go_keep)
  (first
    | (go_at_call 121; refine (ok_unit N q _ (by omega) (by omega) (by omega)).mono ?_; rintro e v2 ⟨y2, rfl, hn2⟩; have k20 := cell_grown hn2.1 (by exact k10); have k21 := cell_grown hn2.1 (by exact k11); have k22 := cell_grown hn2.1 (by exact k12); have N2 := Lib.hid hn2; clear hn2)
    | (go_at_call 27; refine (cols_pre K H S _).mono ?_; rw [HC.out, HN.out]; rintro e v1 ⟨rfl, hg1⟩; have k10 := cell_grown hg1 (by exact c0); have k11 := cell_grown hg1 (by exact c1); have k12 := cell_grown hg1 (by exact c2); have V1 : Hid (Gr W0 v1) := Lib.hid (by exact hg1); clear hg1))
 have P1 := Lib.hid (P0.out.grown V1.out)
 have G1 := Lib.hid (Gr.trans HG0.out V1.out)
 have hn : New v1 v2 y2 (unitL N q) := N2.out
 rw [← HN.out, ← HQ.out] at hn
 obtain ⟨g, c, rfl, hmid⟩ := Mid.start hn (by omega)
 rw [HN.out] at hmid ⊢
 have MK := Lib.hid hmid
 have P2 := Lib.hid (P1.out.grown hmid.gr)
 have c0 := P2.out.cell0
 clear hn hmid
 go_wp2_with fail
 go_loopw [18] (fun i W => ∃ j : Nat, j ≤ K ∧ i = .int .i64 j ∧ Mid v1 W g N c K h j) (fun i _ => K - (intOf i).toNat)
 case atStart => exact ⟨0, by omega, rfl, MK.out⟩
 case round =>
  clear MK P2
  obtain ⟨j, hj, rfl, hmm⟩ := hrel
  have HM := Lib.hid hmm
  have P3 := P1.out.grown hmm.gr
  have c0 := P3.cell0
  clear hmm P3
  by_cases hlj : j < K
  ·have q3 := HM.out.cell j (by omega)
   have q4 := HM.out.frozen j
   have hE : ((h : Int) + 1) * ((j : Int) + 1) = (((h + 1) * (j + 1) : Nat) : Int) := by simp
   have hF : expZ (((h + 1) * (j + 1) : Nat) : Int) = aheadF K h j := by unfold aheadF; rw [if_pos hlj]
   have hle : (h + 1) * (j + 1) ≤ 64 := Nat.le_trans (Nat.mul_le_mul (by omega : h + 1 ≤ 4) (by omega : j + 1 ≤ 16)) (by omega)
   have hjN : (j : Int) < N := by omega
   obtain ⟨e, he⟩ : ∃ e : Nat, (h + 1) * (j + 1) = e := ⟨_, rfl⟩
   rw [he] at hE hF hle
   clear he
   go_wp2_with (first | (go_at_call 122; refine (exp_any f (e : Int) _ (IsF.grown HF.out (Gr.trans G1.out HM.out.gr))).mono ?_; rw [hF]; rintro e' w5 ⟨rfl, hg5⟩; have q3 := cell_grown hg5 q3; have q4 := (HM.out.more hg5).frozen j; have H5 := Lib.hid hg5; clear hg5))
   exact ⟨⟨j + 1, by omega, by go_num, (HM.out.more H5.out).put hlj (by omega)⟩, by simp [intOf]; omega⟩
  ·obtain rfl : j = K := by omega
   go_wp2_with fail
   go_ret
   exact ⟨_, rfl, New.under G1.out (HM.out.done HN.out)⟩
theorem own_base8 {w : World} {base base' : Nat} {e : TypeId} {size : Nat} {v : Value} {n : Nat} {us : List Value} (h : w.ownsRow base' e size v n us) (hb : base ≤ base') : w.ownsRow base e size v n us := by
 obtain ⟨h0, h | ⟨g, c, cur, hv, h1, h2⟩⟩ := h
 ·exact ⟨h0, .inl h⟩
 ·exact ⟨h0, .inr ⟨g, c, cur, hv, Nat.le_trans hb h1, h2⟩⟩
structure FillN (w0 W : World) (g n K j : Nat) (us : List Value) (L : List (List Int)) : Prop where
 own : W.ownsRow w0.heap.size 25 1 (.slice (some ⟨g, 0, none⟩) n n) n us
 row : ∀ i, i < n → Bs W (us.getD i undef) (L.getD i []) ∧ Rn w0.heap.size W (us.getD i undef)
 len : L.length = n
 is : ∀ i, i < j → L.getD i [] = aheadRow K n i
 gr : Gr w0 W
theorem Rn.stay8 {base : Nat} {w w' : World} {u : Value} {row : Option Nat} (hr : Rn base w u)
  (hk : ∀ k, k < w.heap.size → some k ≠ row → w'.heap[k]? = w.heap[k]?) (hrow : ∀ g, row = some g → base ≤ g ∧ ∀ cur, w.heap[g]? ≠ some (.cells cur 5 (0, 0))) : Rn base w' u := fun a n c hu hn => by
 obtain ⟨h1, cur, h2⟩ := hr a n c hu hn
 refine ⟨h1, cur, ?_⟩
 rw [hk _ (Array.getElem?_eq_some_iff.1 h2).1 (fun e => (hrow a.block e.symm).2 cur h2)]
 exact h2
theorem Rn.rb8 {base : Nat} {w : World} {u : Value} (h : Rn base w u) : Rb base w u := fun a n c e hn => .inr (h a n c e hn).2
theorem Rn.gr8 {base : Nat} {w w' : World} {u : Value} (hr : Rn base w u) (hg : Gr w w') : Rn base w' u :=
 Rn.stay8 (row := none) hr (fun k hk _ => hg.2.2.2.2 k hk) (fun g h => by cases h)
theorem New.rn8 {w w' : World} {v : Value} {l : List Int} {base : Nat} (h : New w w' v l) (hb : base ≤ w.heap.size) : Rn base w' v := by
 intro a n c hv hn
 obtain ⟨_, _, ⟨rfl, oa, c', rfl, _⟩ | ⟨g, c', cur, rfl, q, h2, _⟩⟩ := h
 ·cases hv
  omega
 ·cases hv
  exact ⟨Nat.le_trans hb q, cur, h2⟩
section
variable {w0 W : World} {g n K j : Nat} {us : List Value} {L : List (List Int)}
theorem FillN.start (w : World) (n K : Nat) (hn : n ≤ 1000000) : FillN w (w.alloc (.cells (nils n) 25)) w.heap.size n K 0 (List.replicate n (.slice none 0 0)) (List.replicate n []) := by
 obtain ⟨h1, h2, h3, h4, h5⟩ := Fill.start w n hn (fun _ _ => True)
 refine ⟨h1, fun i hi => ⟨(h2 i hi).1, ?_⟩, h3, by omega, h5⟩
 have e1 : (List.replicate n (Value.slice none 0 0)).getD i undef = .slice none 0 0 := by rw [List.getD_eq_getElem?_getD, List.getElem?_replicate, if_pos hi]; rfl
 rw [e1]
 intro a n c e _
 cases e
theorem FillN.fill (h : FillN w0 W g n K j us L) : Fill w0 W g n (fun _ _ => True) j us L := ⟨h.own, fun i hi => ⟨(h.row i hi).1, (h.row i hi).2.rb8⟩, h.len, fun _ _ => trivial, h.gr⟩
theorem FillN.grow {W' : World} (h : FillN w0 W g n K j us L) (hg : Gr W W') : FillN w0 W' g n K j us L :=
 ⟨h.own.of_gr hg, fun i hi => ⟨Bs.grown (h.row i hi).1 hg, (h.row i hi).2.gr8 hg⟩, h.len, h.is, Gr.trans h.gr hg⟩
theorem FillN.put {u : Value} {l : List Int} (h : FillN w0 W g n K j us L) (hj : j < n) (hb : Bs W u l) (hrb : Rn w0.heap.size W u) (hp : l = aheadRow K n j) :
  FillN w0 (W.setCell ⟨g, j, none⟩ u) g n K (j + 1) (us.set j u) (L.set j l) := by
 obtain ⟨h1, h2⟩ := Rws.set h.own h.len (fun i hi => ⟨(h.row i hi).1, (h.row i hi).2.rb8⟩) j hj hb hrb.rb8
 have hrow := ownsRow_not_bytes h.own
 have hk : ∀ k, k < W.heap.size → some k ≠ (Value.slice (some ⟨g, 0, none⟩) n n).ownBlock → (W.setCell ⟨g, j, none⟩ u).heap[k]? = W.heap[k]? := by
  intro k _ hne
  have hne' : k ≠ g := fun e => hne (by rw [e]; rfl)
  exact heap_setCell_other _ _ _ _ hne'
 have hus : us.length = n := by have := h.own.1; omega
 refine ⟨h1, fun i hi => ⟨(h2 i hi).1, ?_⟩, by rw [List.length_set]; exact h.len, fun i hi => ?_, Gr.setCell h.gr h.fill.base u⟩
 ·by_cases e : i = j
  ·subst e
   rw [List.getD_eq_getElem?_getD, List.getElem?_set_self (by omega)]
   exact hrb.stay8 hk hrow
  ·rw [List.getD_eq_getElem?_getD, List.getElem?_set_ne (fun c => e c.symm), ← List.getD_eq_getElem?_getD]
   exact (h.row i hi).2.stay8 hk hrow
 ·by_cases e : i = j
  ·subst e
   rw [getD_set_self _ _ _ (by rw [h.len]; exact hj)]
   exact hp
  ·rw [getD_set_ne _ _ _ _ (fun c => e c.symm)]
   exact h.is i (by omega)
theorem FillN.done (h : FillN w0 W g n K n us L) (base : Nat) (hb : base ≤ w0.heap.size) : RwsN base W (.slice (some ⟨g, 0, none⟩) n n) (ahead K n) := by
 have e : L = ahead K n := by
  apply List.ext_getElem
  ·rw [h.len]
   simp [ahead]
  intro i h1 h2
  have h3 := h.is i (by rw [← h.len]; exact h1)
  rw [List.getD_eq_getElem?_getD, List.getElem?_eq_getElem h1] at h3
  simpa [ahead] using h3
 have hl : (ahead K n).length = n := by simp [ahead]
 refine ⟨us, by rw [hl]; exact own_base8 h.own hb, fun i hi => ?_⟩
 rw [hl] at hi
 rw [← e]
 refine ⟨(h.row i hi).1, fun a m c ha hm => ?_⟩
 obtain ⟨q1, q2⟩ := (h.row i hi).2 a m c ha hm
 exact ⟨Nat.le_trans hb q1, q2⟩
end
set_option maxRecDepth 100000 in
set_option maxHeartbeats 800000 in
theorem rows_in (K H : Nat) (S : Int) (w : World) (hm : MayP K H S) :
  Calls Tryz.prog 62 #[par K H S] w fun e w' => ∃ v, e = .returned v ∧ RwsN w.heap.size w' v (ahead K H) ∧ Gr w w' := by
 have hd := decide_eq_true hm
 have HM := Lib.hid hm
 obtain ⟨b1, b2, b3, b4, _, _⟩ := hm
 have hmk := make24 H H (by omega) (by omega)
 have hR : ∃ cur, cur = nils H := ⟨_, rfl⟩
 obtain ⟨cur, hcur⟩ := hR
 rw [← hcur] at hmk
 have HC := Lib.hid hcur
 clear hcur
 have P0 : Hid (Par (w.alloc (.cells #[.int .i64 (K : Int), .int .i64 (H : Int), .int .i64 S] 23)) w.heap.size K H S) := Lib.hid (heap_alloc_new _ _)
 have HG0 : Hid (Gr w (w.alloc (.cells #[.int .i64 (K : Int), .int .i64 (H : Int), .int .i64 S] 23))) := Lib.hid (Gr.alloc (Gr.refl _) _ _)
 go_enter Tryz.func62, Tryz.ntmps62
 go_wp2_with fail
 generalize w.alloc (.cells #[.int .i64 (K : Int), .int .i64 (H : Int), .int .i64 S] 23) = W0 at *
 generalize hgp : w.heap.size = gp at *
 refine (may_pre K H S _).mono ?_
 rw [hd]
 rintro e w1 ⟨rfl, hg1⟩
 have P1 := Lib.hid (P0.out.grown hg1)
 have G1 := Lib.hid (Gr.trans HG0.out hg1)
 clear hg1 P0 HG0
 go_wp2_with fail
 refine (new_any _).mono ?_
 rintro e w2 ⟨b, rfl, hfb, hg2⟩
 have P2 := Lib.hid (P1.out.grown hg2)
 have G2 := Lib.hid (Gr.trans G1.out hg2)
 have HF : Hid (IsF w2 (.pointer (some ⟨b, 0, none⟩))) := Lib.hid (Or.inr ⟨b, rfl, hfb⟩)
 have c1 := P2.out.cell1
 clear hg2 hfb P1 G1
 go_wp2_with fail
 have FL : Hid (FillN w2 (w2.alloc (.cells cur 25)) w2.heap.size H K 0 (List.replicate H (.slice none 0 0)) (List.replicate H [])) := Lib.hid (by rw [HC.out]; exact FillN.start w2 H K (by omega))
 clear HC hmk c1
 generalize w2.alloc (.cells cur 25) = W3 at *
 generalize hgr : w2.heap.size = gr at *
 go_loopw [15] (fun i W => ∃ (j : Nat) (us : List Value) (L : List (List Int)), j ≤ H ∧ i = .int .i64 j ∧ FillN w2 W gr H K j us L) (fun i _ => H - (intOf i).toNat)
 case atStart => exact ⟨0, _, _, by omega, rfl, FL.out⟩
 case round =>
  clear FL
  obtain ⟨j, us, L, hj, rfl, hfl⟩ := hrel
  have HL := Lib.hid hfl
  clear hfl
  have P3 := P2.out.grown HL.out.gr
  have c0 := P3.cell0
  have c1 := P3.cell1
  have c2 := P3.cell2
  by_cases hlt : j < H
  ·have q3 := HL.out.fill.cell j hlt
   have q4 := HL.out.fill.frozen j
   go_wp2_with fail
   refine (precode_any _ K H j S _ (IsF.grown HF.out HL.out.gr) HM.out hlt).mono ?_
   rintro e w5 ⟨v5, rfl, hn5⟩
   have q3 := cell_grown hn5.1 q3
   have q4 := (HL.out.fill.grow hn5.1).frozen j
   have N5 := Lib.hid hn5
   obtain ⟨o5, m5, c5, rfl⟩ := New.form3 hn5
   clear hn5
   go_wp2_with fail
   exact ⟨⟨j + 1, _, _, by omega, by go_num, (HL.out.grow N5.out.1).put hlt (New.bs N5.out) (New.rn8 N5.out HL.out.gr.size) rfl⟩, by simp [intOf]; omega⟩
  ·obtain rfl : j = H := by omega
   go_wp2_with fail
   go_ret
   exact ⟨_, rfl, by rw [hgp]; exact HL.out.done gp (by rw [← hgp]; exact G2.out.size), Gr.trans G2.out HL.out.gr⟩
set_option maxHeartbeats 400000 in
theorem rows_ne (K H S : Int) (w : World) (hm : ¬ MayP K H S) :
  Calls Tryz.prog 62 #[par K H S] w fun e w' => e = .returned (.slice none 0 0) ∧ Gr w w' := by
 have hd := decide_eq_false hm
 clear hm
 have HG0 : Hid (Gr w (w.alloc (.cells #[.int .i64 K, .int .i64 H, .int .i64 S] 23))) := Lib.hid (Gr.alloc (Gr.refl _) _ _)
 go_enter Tryz.func62, Tryz.ntmps62
 go_wp2_with fail
 refine (may_pre K H S _).mono ?_
 rw [hd]
 rintro e w1 ⟨rfl, hg1⟩
 have G1 := Lib.hid (Gr.trans HG0.out hg1)
 clear hg1
 go_wp2_with fail
 go_ret
 exact ⟨rfl, G1.out⟩
theorem rows_pre (K H S : Int) (w : World) :
  Calls Tryz.prog 62 #[par K H S] w fun e w' => ∃ v, e = .returned v ∧ RwsN w.heap.size w' v (aheadP K H S) ∧ Gr w w' := by
 unfold aheadP
 by_cases hm : MayP K H S
 ·rw [if_pos hm]
  obtain ⟨k, hk⟩ : ∃ k : Nat, K = k := ⟨K.toNat, by have := hm.1; omega⟩
  obtain ⟨h, hh⟩ : ∃ h : Nat, H = h := ⟨H.toNat, by have := hm.2.2.1; omega⟩
  subst hk hh
  rw [Int.toNat_natCast, Int.toNat_natCast]
  exact rows_in k h S w hm
 ·rw [if_neg hm]
  refine (rows_ne K H S w hm).mono ?_
  rintro e w' ⟨rfl, hg⟩
  exact ⟨_, rfl, ⟨[], World.ownsRow_nil w' _ 25 1, fun i hi => absurd hi (by simp)⟩, hg⟩
end Go.Proofs.YtbbglejdfbkjlaaGreat
namespace Go.Proofs.YtbbglejdfbkjlaaGreat
open Go.RowKit
def SymMay (S : Int) (id : Int) (d : List Int) : Prop := MayI id ∧ (d.length : Int) = S
instance (S id : Int) (d : List Int) : Decidable (SymMay S id d) := by unfold SymMay; exact inferInstance
set_option maxHeartbeats 800000 in
theorem dsymbol_any (K H S id : Int) (v : Value) (d : List Int) (w : World) (h : Bs w v d) (_ : d.length ≤ 1000) (_ : I64 id) :
  Calls Tryz.prog 49 #[par K H S, .int .i64 id, v] w fun e w' => e = .returned (.bool (decide (SymMay S id d))) ∧ Gr w w' := by
 obtain ⟨n, hn⟩ : ∃ n, d.length = n := ⟨_, rfl⟩
 obtain ⟨o, c, rfl⟩ := h.form
 have hd : decide (SymMay S id d) = (decide (0 ≤ id) && (decide (id ≤ 65535) && decide ((n : Int) = S))) := by
  rw [← Bool.decide_and, ← Bool.decide_and, decide_eq_decide, ← hn]
  unfold SymMay MayI
  exact and_assoc
 rw [hd]
 rw [hn]
 clear hd h hn
 have P0 : Hid (Par (w.alloc (.cells #[.int .i64 K, .int .i64 H, .int .i64 S] 23)) w.heap.size K H S) := Lib.hid (heap_alloc_new _ _)
 have HG0 : Hid (Gr w (w.alloc (.cells #[.int .i64 K, .int .i64 H, .int .i64 S] 23))) := Lib.hid (Gr.alloc (Gr.refl _) _ _)
 by_cases h1 : 0 ≤ id
 ·by_cases h2 : id ≤ 65535
  ·by_cases h3 : (n : Int) = S
   ·have b3 : ((n : Int) == S) = true := by simpa using h3
    rw [decide_eq_true h1, decide_eq_true h2, decide_eq_true h3]
    go_enter Tryz.func49, Tryz.ntmps49
    go_wp2_with fail
    generalize w.alloc (.cells #[.int .i64 K, .int .i64 H, .int .i64 S] 23) = W0 at *
    generalize w.heap.size = gp at *
    have c2 := P0.out.cell2
    go_wp2_with fail
    go_ret
    exact ⟨rfl, HG0.out⟩
   ·have b3 : ((n : Int) == S) = false := by simpa using h3
    rw [decide_eq_true h1, decide_eq_true h2, decide_eq_false h3]
    go_enter Tryz.func49, Tryz.ntmps49
    go_wp2_with fail
    generalize w.alloc (.cells #[.int .i64 K, .int .i64 H, .int .i64 S] 23) = W0 at *
    generalize w.heap.size = gp at *
    have c2 := P0.out.cell2
    go_wp2_with fail
    go_ret
    exact ⟨rfl, HG0.out⟩
  ·rw [decide_eq_true h1, decide_eq_false h2]
   go_enter Tryz.func49, Tryz.ntmps49
   go_wp2_with fail
   go_ret
   exact ⟨rfl, HG0.out⟩
 ·rw [decide_eq_false h1]
  go_enter Tryz.func49, Tryz.ntmps49
  go_wp2_with fail
  go_ret
  exact ⟨rfl, HG0.out⟩
open Classical in
set_option maxRecDepth 100000 in
set_option maxHeartbeats 1600000 in
theorem dsymbols_any (K H S : Int) (v : Value) (Y : List Symb) (w : World) (hy : Syms w v Y) (hl : Y.length ≤ 1000) (hdl : ∀ q ∈ Y, q.d.length ≤ 1000) :
  Calls Tryz.prog 35 #[par K H S, v] w fun e w' => e = .returned (.bool (decide (∀ q ∈ Y, SymMay S q.i q.d))) ∧ Gr w w' := by
 obtain ⟨n, hn⟩ : ∃ n, Y.length = n := ⟨_, rfl⟩
 obtain ⟨oy, cy, rfl⟩ := hy.form
 rw [hn] at hy hl ⊢
 have HY := Lib.hid hy
 have HN := Lib.hid hn
 have HDL := Lib.hid hdl
 obtain ⟨b, hb⟩ : ∃ b, decide (∀ q ∈ Y, SymMay S q.i q.d) = b := ⟨_, rfl⟩
 rw [hb]
 have HB := Lib.hid hb
 have P0 : Hid (Par (w.alloc (.cells #[.int .i64 K, .int .i64 H, .int .i64 S] 23)) w.heap.size K H S) := Lib.hid (heap_alloc_new _ _)
 have HG0 : Hid (Gr w (w.alloc (.cells #[.int .i64 K, .int .i64 H, .int .i64 S] 23))) := Lib.hid (Gr.alloc (Gr.refl _) _ _)
 clear hy hn hdl hb
 go_enter Tryz.func35, Tryz.ntmps35
 go_wp2_with fail
 generalize w.alloc (.cells #[.int .i64 K, .int .i64 H, .int .i64 S] 23) = W0 at *
 generalize w.heap.size = gp at *
 go_loopw [9] (fun iv W => ∃ i : Nat, i ≤ n ∧ iv = .int .i64 i ∧ Par W gp K H S ∧ Gr w W ∧ ∀ j, j < i → SymMay S (Y.getD j noY).i (Y.getD j noY).d) (fun iv _ => n - (intOf iv).toNat)
 case atStart => exact ⟨0, by omega, rfl, P0.out, HG0.out, fun j hj => by omega⟩
 case round =>
  clear P0 HG0
  obtain ⟨wo, hwo⟩ : ∃ x, x = wr := ⟨_, rfl⟩
  subst hwo
  obtain ⟨i, hi, rfl, hp, hg, hs⟩ := hrel
  have HS := Lib.hid hs
  by_cases hlt : i < n
  ·obtain ⟨b0, q0, rfl, _⟩ := HY.out.lay (by omega)
   have hat := HY.out.at hlt
   have hmem : Y.getD i noY ∈ Y := getD_memY (by rw [HN.out]; exact hlt)
   obtain ⟨q, hq⟩ : ∃ q, Y.getD i noY = q := ⟨_, rfl⟩
   rw [hq] at hat hmem
   have HQ := Lib.hid hq
   have HMQ := Lib.hid hmem
   obtain ⟨oz, nz, cz, q1, q2, hi64, hbz⟩ := hat
   have q1 := cell_grown hg q1
   have q2 := cell_grown hg q2
   have gA : Gr wo (wo.alloc (.cells #[.int .i64 q.i, .slice oz nz cz] 30)) := Gr.alloc (Gr.refl _) _ _
   have k0 : (wo.alloc (.cells #[.int .i64 q.i, .slice oz nz cz] 30)).cell? ⟨wo.heap.size, 0, none⟩ = some (.int .i64 q.i) := by rw [cell_of_row _ _ 0 _ _ _ (heap_alloc_new _ _)]; rfl
   have k1 : (wo.alloc (.cells #[.int .i64 q.i, .slice oz nz cz] 30)).cell? ⟨wo.heap.size, 1, none⟩ = some (.slice oz nz cz) := by rw [cell_of_row _ _ 1 _ _ _ (heap_alloc_new _ _)]; rfl
   have DW := Lib.hid (hbz.grown (Gr.trans hg gA))
   have PA := Lib.hid (hp.grown gA)
   have GA := Lib.hid (Gr.trans hg gA)
   clear hq hmem hbz hp hg hs gA
   go_upto_region 4 with fail
   generalize wo.alloc (.cells #[.int .i64 q.i, .slice oz nz cz] 30) = wA at *
   generalize wo.heap.size = gz at *
   have c0 := PA.out.cell0
   have c1 := PA.out.cell1
   have c2 := PA.out.cell2
   go_wp2_with fail
   refine (dsymbol_any K H S q.i _ q.d _ DW.out (HDL.out q HMQ.out) hi64).mono ?_
   rintro e w2 ⟨rfl, hg2⟩
   have P2 := Lib.hid (PA.out.grown hg2)
   have G2 := Lib.hid (Gr.trans GA.out hg2)
   clear hg2 c0 c1 c2 PA GA
   by_cases hm : SymMay S q.i q.d
   ·rw [decide_eq_true hm]
    have HM := Lib.hid hm
    clear hm
    go_wp2_with fail
    refine ⟨⟨i + 1, by omega, by go_num, P2.out, G2.out, fun j hj => ?_⟩, by simp [intOf]; omega⟩
    by_cases e : j = i
    ·rw [e, HQ.out]
     exact HM.out
    ·exact HS.out j (by omega)
   ·rw [decide_eq_false hm]
    have hbf : b = false := by
     rw [← HB.out, decide_eq_false_iff_not]
     exact fun h => hm (h q HMQ.out)
    clear hm
    subst hbf
    go_wp2_with fail
    go_ret
    exact ⟨rfl, G2.out⟩
  ·obtain rfl : i = n := by omega
   have hbt : b = true := by
    rw [← HB.out, decide_eq_true_iff]
    intro q hq
    obtain ⟨j, hj, rfl⟩ := List.getElem_of_mem hq
    have := hs j (by rw [← HN.out]; exact hj)
    rw [List.getD_eq_getElem?_getD, List.getElem?_eq_getElem hj] at this
    exact this
   subst hbt
   have G2 := Lib.hid hg
   clear hg hs hp
   go_wp2_with fail
   go_ret
   exact ⟨rfl, G2.out⟩
theorem dsymbols_iff (K H S : Int) (v : Value) (Y : List Symb) (w : World) (hy : Syms w v Y) (hl : Y.length ≤ 1000) (hdl : ∀ q ∈ Y, q.d.length ≤ 1000) :
  Calls Tryz.prog 35 #[par K H S, v] w fun e w' => ∃ b : Bool, e = .returned (.bool b) ∧ (b = true ↔ ∀ q ∈ Y, SymMay S q.i q.d) ∧ Gr w w' :=
 (dsymbols_any K H S v Y w hy hl hdl).mono fun _ _ ⟨h1, h2⟩ => ⟨_, h1, decide_eq_true_iff, h2⟩
end Go.Proofs.YtbbglejdfbkjlaaGreat
namespace Go.Proofs.YtbbglejdfbkjlaaGreat.PL
structure E (α : Type) where
 cols : List Nat
 data : α
inductive Der {α : Type} (L : List (E α)) : Nat → Prop
 | by_row (q : E α) (c : Nat) (hq : q ∈ L) (hc : c ∈ q.cols) (h : ∀ d, d ∈ q.cols → d ≠ c → Der L d) : Der L c
theorem Der.closed {α : Type} {L : List (E α)} {K : Nat → Prop} (hK : ∀ q, q ∈ L → ∀ c, c ∈ q.cols → (∀ d, d ∈ q.cols → d ≠ c → K d) → K c) {c : Nat} (h : Der L c) : K c := by
 induction h with
 | by_row q c hq hc _ ih => exact hK q hq c hc ih
structure Two (α : Type) where
 add : α → α → α
 zero : α
 comm : ∀ x y, add x y = add y x
 assoc : ∀ x y z, add (add x y) z = add x (add y z)
 nil : ∀ x, add zero x = x
 self : ∀ x, add x x = zero
variable {α : Type} (T : Two α)
theorem Two.nil' (x : α) : T.add x T.zero = x := by rw [T.comm, T.nil]
theorem Two.left_comm (x y z : α) : T.add x (T.add y z) = T.add y (T.add x z) := by rw [← T.assoc, T.comm x y, T.assoc]
theorem Two.cancel {x y z : α} (h : T.add x y = T.add x z) : y = z := by
 have := congrArg (T.add x) h
 rwa [← T.assoc, ← T.assoc, T.self, T.nil, T.nil] at this
theorem Two.move {x y z : α} (h : T.add x y = z) : x = T.add z y := by rw [← h, T.assoc, T.self, T.nil']
def tot (v : Nat → α) : List Nat → α
 | [] => T.zero
 | c :: l => T.add (v c) (tot v l)
theorem tot_nil (v : Nat → α) : tot T v [] = T.zero := rfl
theorem tot_cons (v : Nat → α) (c : Nat) (l : List Nat) : tot T v (c :: l) = T.add (v c) (tot T v l) := rfl
theorem tot_congr {v v' : Nat → α} {l : List Nat} (h : ∀ c, c ∈ l → v c = v' c) : tot T v l = tot T v' l := by
 induction l with
 | nil => rfl
 | cons c l ih => rw [tot_cons, tot_cons, h c (by simp), ih fun d hd => h d (by simp [hd])]
theorem tot_split (v : Nat → α) (p : Nat → Bool) (l : List Nat) : tot T v l = T.add (tot T v (l.filter fun c => !p c)) (tot T v (l.filter p)) := by
 induction l with
 | nil => rw [List.filter_nil, List.filter_nil, tot_nil, T.nil]
 | cons c l ih =>
  cases hp : p c with
  | true => rw [List.filter_cons_of_neg (by simp [hp]), List.filter_cons_of_pos (by simpa using hp), tot_cons, tot_cons, ih, T.left_comm]
  | false => rw [List.filter_cons_of_pos (by simp [hp]), List.filter_cons_of_neg (by simp [hp]), tot_cons, tot_cons, ih, T.assoc]
theorem tot_at (v : Nat → α) {l : List Nat} (hn : l.Nodup) {c : Nat} (hc : c ∈ l) : tot T v l = T.add (v c) (tot T v (l.filter fun d => d != c)) := by
 rw [tot_split T v (fun d => d != c) l]
 congr 1
 have : (l.filter fun d => !(d != c)) = [c] := by
  induction l with
  | nil => simp at hc
  | cons d l ih =>
   rw [List.nodup_cons] at hn
   by_cases e : d = c
   ·subst e
    rw [List.filter_cons_of_pos (by simp)]
    congr 1
    rw [List.filter_eq_nil_iff]
    intro y hy
    simp
    rintro rfl
    exact hn.1 hy
   ·rw [List.filter_cons_of_neg (by simpa using e)]
    exact ih hn.2 (by
      rcases List.mem_cons.1 hc with h | h
      · exact absurd h.symm e
      · exact h)
 rw [this, tot_cons, tot_nil, T.nil']
def Holds (L : List (E α)) (v : Nat → α) : Prop := ∀ q, q ∈ L → (∀ c, c ∈ q.cols → Der L c) → tot T v q.cols = q.data
theorem Holds.unique {L : List (E α)} {v v' : Nat → α} (hn : ∀ q, q ∈ L → q.cols.Nodup) (h : Holds T L v) (h' : Holds T L v') {c : Nat} (hc : Der L c) : v c = v' c := by
 induction hc with
 | by_row q c hq hc hd ih =>
  have hall : ∀ d, d ∈ q.cols → Der L d := fun d hdq => by
   by_cases e : d = c
   ·subst e; exact .by_row q d hq hdq hd
   ·exact hd d hdq e
  have h1 := h q hq hall
  have h2 := h' q hq hall
  rw [tot_at T _ (hn q hq) hc] at h1 h2
  have he : tot T v (q.cols.filter fun d => d != c) = tot T v' (q.cols.filter fun d => d != c) := tot_congr T fun d hdq => by
   rw [List.mem_filter] at hdq
   exact ih d hdq.1 (by simpa using hdq.2)
  rw [he, T.comm] at h1
  rw [T.comm] at h2
  exact T.cancel (h1.trans h2.symm)
theorem Holds.of_all {L : List (E α)} {v : Nat → α} (h : ∀ q, q ∈ L → tot T v q.cols = q.data) : Holds T L v := fun q hq _ => h q hq
theorem Holds.told {L : List (E α)} {v : Nat → α} (hn : ∀ q, q ∈ L → q.cols.Nodup) (h : Holds T L v) {q : E α} (hq : q ∈ L) {c : Nat} (hc : c ∈ q.cols) (hd : ∀ d, d ∈ q.cols → d ≠ c → Der L d) : v c = T.add q.data (tot T v (q.cols.filter fun d => d != c)) := by
 have h1 := h q hq fun d hdq => by
  by_cases e : d = c
  ·subst e; exact .by_row q d hq hdq hd
  ·exact hd d hdq e
 rw [tot_at T _ (hn q hq) hc] at h1
 exact T.move h1
def rest (k : Nat → Bool) (v : Nat → α) (q : E α) : E α := ⟨q.cols.filter fun c => !k c, T.add q.data (tot T v (q.cols.filter k))⟩
def left (k : Nat → Bool) (v : Nat → α) (L : List (E α)) : List (E α) := (L.filter fun q => q.cols.any fun c => !k c).map (rest T k v)
theorem rest_holds {k : Nat → Bool} {v v0 : Nat → α} {q : E α} (h : tot T v0 q.cols = q.data) (hv : ∀ c, c ∈ q.cols → k c = true → v c = v0 c) : tot T v0 (rest T k v q).cols = (rest T k v q).data := by
 show tot T v0 (q.cols.filter fun c => !k c) = T.add q.data (tot T v (q.cols.filter k))
 rw [← h, tot_split T v0 k q.cols, tot_congr T (v := v) (v' := v0) (fun c hc => hv c (List.mem_filter.1 hc).1 (List.mem_filter.1 hc).2), T.assoc, T.self, T.nil']
end Go.Proofs.YtbbglejdfbkjlaaGreat.PL
namespace Go.Proofs.YtbbglejdfbkjlaaGreat
open Go.RowKit
def Bl (w : World) (v : Value) (l : List Bool) : Prop :=
 ∃ oa c, v = .slice oa l.length c ∧ l.length ≤ c ∧ c ≤ 9223372036854775807 ∧ (oa = none → c = 0) ∧ ∀ a, oa = some a → ∀ i, i < l.length → w.cell? (a.add i) = some (.bool (l.getD i false))
theorem Bl.grown {w w' : World} {v : Value} {l : List Bool} (h : Bl w v l) (hg : Gr w w') : Bl w' v l := by
 obtain ⟨oa, c, h1, h2, h3, h4, h5⟩ := h
 exact ⟨oa, c, h1, h2, h3, h4, fun a ha i hi => cell_gr hg (h5 a ha i hi)⟩
theorem Bl.nil (w : World) : Bl w (.slice none 0 0) [] := ⟨none, 0, rfl, by simp, by omega, fun _ => rfl, fun a h => by cases h⟩
theorem Bl.form3 {w : World} {v : Value} {l : List Bool} (h : Bl w v l) : ∃ o c, v = .slice o l.length c := by
 obtain ⟨oa, c, h1, _⟩ := h
 exact ⟨oa, c, h1⟩
theorem Bl.addr {w : World} {oa : Option Addr} {m c : Nat} {l : List Bool} (h : Bl w (.slice oa m c) l) (hm : 0 < m) : ∃ a, oa = some a := by
 obtain ⟨oa', c', he, h2, h3, h4, h5⟩ := h
 obtain ⟨rfl, rfl, rfl⟩ : oa = oa' ∧ m = l.length ∧ c = c' := by simpa using he
 cases oa with
 | none => have := h4 rfl; omega
 | some a => exact ⟨a, rfl⟩
theorem Bl.cellAt {w : World} {a : Addr} {m c : Nat} {l : List Bool} (h : Bl w (.slice (some a) m c) l) {i : Nat} (hi : i < m) : w.cell? (a.add i) = some (.bool (l.getD i false)) := by
 obtain ⟨oa', c', he, h2, h3, h4, h5⟩ := h
 obtain ⟨rfl, rfl, rfl⟩ : some a = oa' ∧ m = l.length ∧ c = c' := by simpa using he
 exact h5 a rfl i hi
def rowT (L : List Bool) : Array Value := (L.map Value.bool).toArray
theorem rowT_get (L : List Bool) (i : Nat) (h : i < L.length) : (rowT L)[i]? = some (.bool (L.getD i false)) := by
 simp [rowT, h]
theorem rowT_set (L : List Bool) (i : Nat) (x : Bool) : (rowT L).setIfInBounds i (.bool x) = rowT (L.set i x) := by
 simp [rowT, List.map_set]
theorem rowT_made (n : Nat) : madeCells #[.bool false] n = rowT (List.replicate n false) := by
 apply Array.ext'
 rw [toList_madeCells_one]
 simp [rowT]
def Blt (w : World) (g : Nat) (L : List Bool) : Prop := w.heap[g]? = some (.cells (rowT L) 4 (0, 0))
theorem Blt.grown {w w' : World} {g : Nat} {L : List Bool} (h : Blt w g L) (hg : Gr w w') : Blt w' g L := keptRow hg h
theorem Blt.cell {w : World} {g : Nat} {L : List Bool} (h : Blt w g L) (i : Nat) (hi : i < L.length) : w.cell? ⟨g, i, none⟩ = some (.bool (L.getD i false)) := by
 rw [cell_of_row w g i _ _ _ h, rowT_get L i hi]
theorem Blt.frozen {w : World} {g : Nat} {L : List Bool} (h : Blt w g L) (i : Nat) : w.frozen? ⟨g, i, none⟩ = false := frozen_of_row w g i _ _ h
theorem Blt.set {w : World} {g : Nat} {L : List Bool} (h : Blt w g L) (i : Nat) (x : Bool) : Blt (w.setCell ⟨g, i, none⟩ (.bool x)) g (L.set i x) := by
 unfold Blt at *
 rw [heap_setCell_same _ _ _ _ _ _ h, rowT_set]
theorem Blt.bl {w : World} {g : Nat} {L : List Bool} (h : Blt w g L) (hn : L.length ≤ 1000000) : Bl w (.slice (some ⟨g, 0, none⟩) L.length L.length) L :=
 ⟨_, _, rfl, Nat.le_refl _, by omega, (fun e => by cases e), fun a ha i hi => by
   cases ha
   rw [Addr.add_mid, Nat.zero_add, Blt.cell h i hi]⟩
theorem infoT : (Tryz.prog.info? 4).map (fun i => (i.zero, i.size, i.bytes)) = some (some (.bool false), 1, 1) := by kernel_rfl
theorem makeT (l : Nat) (hc : l ≤ 1000000) (w : World) :
  (Instr.makeSlice 144 (.int .i64 (l : Int)) (.int .i64 (l : Int))).run Tryz.prog w = .ok (.slice (some ⟨w.heap.size, 0, none⟩) l l) (w.alloc (.cells (rowT (List.replicate l false)) 4)) := by
 obtain ⟨i, hi, hzz⟩ := Option.map_eq_some_iff.1 infoT
 simp only [Prod.mk.injEq] at hzz
 obtain ⟨hz, hs, hb⟩ := hzz
 have hr := run_make (P := Tryz.prog) w 144 4 i _ Tryz.underlying144 hi hz .i64 .i64 l l (by omega) (by omega) (by rw [hb]; omega) (by omega)
 rw [Int.toNat_natCast, hs, Nat.mul_one] at hr
 rw [hr, ← rowT_made]
 rfl
end Go.Proofs.YtbbglejdfbkjlaaGreat
namespace Go.Proofs.YtbbglejdfbkjlaaGreat
open Go.RowKit
theorem Bss.len3 {w : World} {o : Option Addr} {m c : Nat} {L : List (List Int)} (h : Bss w (.slice o m c) L) : m = L.length := by
 obtain ⟨oa, ca, he, _⟩ := h
 simp at he
 exact he.2.1
end Go.Proofs.YtbbglejdfbkjlaaGreat
