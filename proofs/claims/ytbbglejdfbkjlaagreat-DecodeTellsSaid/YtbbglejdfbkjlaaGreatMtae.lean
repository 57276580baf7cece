/-
  Texts laid behind one another: Lec Vec Lsq Mk Mx Ms Pv Pw Co.
-/
import Derived.Test.YtbbglejdfbkjlaaGreatMtad
import Derived.Test.YtbbglejdfbkjlaaGreatMtab
import Derived.Test.YtbbglejdfbkjlaaGreatMtaa
namespace Go.Proofs.YtbbglejdfbkjlaaGreat.L
structure Ech (A X : List V) (ps : List Nat) (c : Nat) : Prop where
 same : Same X A
 psort : ps.Pairwise (· < ·)
 plt : ∀ p ∈ ps, p < c
 lead : ∀ t p, ps[t]? = some p → rowAt X t p = one
 ahead : ∀ t p, ps[t]? = some p → ∀ j, j < p → rowAt X t j = zero
 apart : ∀ t p, ps[t]? = some p → ∀ s, s ≠ t → rowAt X s p = zero
 rest : ∀ s, ps.length ≤ s → ∀ j, j < c → rowAt X s j = zero
 le : ps.length ≤ X.length
theorem Ech.start (A : List V) : Ech A A [] 0 :=
 ⟨Same.refl A, List.Pairwise.nil, by simp, by simp, by simp, by simp, fun _ _ j hj => absurd hj (Nat.not_lt_zero _), Nat.zero_le _⟩
theorem Ech.skip {A X : List V} {ps : List Nat} {c : Nat} (h : Ech A X ps c) (h0 : ∀ s, ps.length ≤ s → rowAt X s c = zero) : Ech A X ps (c + 1) :=
 ⟨h.same, h.psort, fun p hp => Nat.lt_succ_of_lt (h.plt p hp), h.lead, h.ahead, h.apart, fun s hs j hj => by
   rcases Nat.lt_succ_iff_lt_or_eq.1 hj with e | rfl
   · exact h.rest s hs j e
   · exact h0 s hs, h.le⟩
theorem rowAt_set (X : List V) (i : Nat) (v : V) (s : Nat) : rowAt (X.set i v) s = if i = s ∧ s < X.length then v else rowAt X s := by
 unfold rowAt
 rw [List.getElem?_set]
 by_cases e : i = s
 ·subst e
  by_cases h : i < X.length
  ·simp [h]
  ·simp [h]
 ·simp [e]
theorem mem_rowAt {X : List V} {x : V} (h : x ∈ X) : ∃ i, i < X.length ∧ rowAt X i = x := by
 obtain ⟨i, hi, rfl⟩ := List.getElem_of_mem h
 exact ⟨i, hi, by unfold rowAt; rw [List.getElem?_eq_getElem hi]; rfl⟩
theorem Sp.rowAt (X : List V) (i : Nat) : Sp X (L.rowAt X i) := by
 by_cases h : i < X.length
 ·exact Sp.mem (rowAt_mem h)
 ·rw [rowAt_out (by omega)]
  exact Sp.zero
theorem lt_ps {ps : List Nat} {t p : Nat} (h : ps[t]? = some p) : t < ps.length := (List.getElem?_eq_some_iff.1 h).1
theorem Ech.swap {A X : List V} {ps : List Nat} {c a d : Nat} (h : Ech A X ps c) (ha : ps.length ≤ a) (ha2 : a < X.length) (hd : ps.length ≤ d) (hd2 : d < X.length) :
  Ech A ((X.set a (rowAt X d)).set d (rowAt X a)) ps c := by
 have key : ∀ s, ∃ s', rowAt ((X.set a (rowAt X d)).set d (rowAt X a)) s = rowAt X s' ∧ (s < ps.length → s' = s) ∧ (ps.length ≤ s → ps.length ≤ s') := by
  intro s
  rw [rowAt_set, rowAt_set, List.length_set]
  by_cases e : d = s ∧ s < X.length
  ·rw [if_pos e]
   exact ⟨a, rfl, fun c => by omega, fun _ => ha⟩
  ·rw [if_neg e]
   by_cases e2 : a = s ∧ s < X.length
   ·rw [if_pos e2]
    exact ⟨d, rfl, fun c => by omega, fun _ => hd⟩
   ·rw [if_neg e2]
    exact ⟨s, rfl, fun _ => rfl, fun h => h⟩
 have hsame : Same ((X.set a (rowAt X d)).set d (rowAt X a)) X := by
  refine Same.of (fun x hx => ?_) fun x hx => ?_
  ·obtain ⟨s, -, rfl⟩ := mem_rowAt hx
   obtain ⟨s', e, -⟩ := key s
   rw [e]
   exact Sp.rowAt X s'
  ·obtain ⟨s, hs, rfl⟩ := mem_rowAt hx
   by_cases e : s = a
   ·subst e
    have := Sp.rowAt ((X.set s (rowAt X d)).set d (rowAt X s)) d
    rwa [rowAt_set, List.length_set, if_pos ⟨rfl, hd2⟩] at this
   ·by_cases e2 : s = d
    ·subst e2
     have := Sp.rowAt ((X.set a (rowAt X s)).set s (rowAt X a)) a
     rw [rowAt_set, List.length_set, if_neg (fun c => e c.1), rowAt_set, if_pos ⟨rfl, ha2⟩] at this
     exact this
    ·have := Sp.rowAt ((X.set a (rowAt X d)).set d (rowAt X a)) s
     rw [rowAt_set, List.length_set, if_neg (fun c => e2 c.1.symm), rowAt_set, if_neg (fun c => e c.1.symm)] at this
     exact this
 refine ⟨hsame.trans h.same, h.psort, h.plt, fun t p hp => ?_, fun t p hp j hj => ?_, fun t p hp s hs => ?_, fun s hs j hj => ?_, by simp; exact h.le⟩
 ·obtain ⟨s', e, h1, -⟩ := key t
  rw [e, h1 (lt_ps hp)]
  exact h.lead t p hp
 ·obtain ⟨s', e, h1, -⟩ := key t
  rw [e, h1 (lt_ps hp)]
  exact h.ahead t p hp j hj
 ·obtain ⟨s', e, h1, h2⟩ := key s
  rw [e]
  refine h.apart t p hp s' fun c => ?_
  have := lt_ps hp
  by_cases c2 : s < ps.length
  ·rw [h1 c2] at c
   exact hs c
  ·have := h2 (by omega)
   omega
 ·obtain ⟨s', e, -, h2⟩ := key s
  rw [e]
  exact h.rest s' (h2 hs) j hj
theorem Ech.scale {A X : List V} {ps : List Nat} {c d : Nat} {k : Fb} (h : Ech A X ps c) (hd : ps.length ≤ d) (hd2 : d < X.length) (hk : k ≠ zero) :
  Ech A (X.set d (smul k (rowAt X d))) ps c := by
 have other : ∀ s, s ≠ d → rowAt (X.set d (smul k (rowAt X d))) s = rowAt X s := fun s hs => by rw [rowAt_set, if_neg (fun c => hs c.1.symm)]
 have this' : rowAt (X.set d (smul k (rowAt X d))) d = smul k (rowAt X d) := by rw [rowAt_set, if_pos ⟨rfl, hd2⟩]
 have zero_at : ∀ s j, rowAt X s j = zero → rowAt (X.set d (smul k (rowAt X d))) s j = zero := by
  intro s j h0
  by_cases e : s = d
  ·subst e
   rw [this']
   show mul k (rowAt X s j) = zero
   rw [h0, mul_zero]
  ·rw [other s e, h0]
 have hsame : Same (X.set d (smul k (rowAt X d))) X := by
  refine Same.of (fun x hx => ?_) fun x hx => ?_
  ·obtain ⟨s, -, rfl⟩ := mem_rowAt hx
   by_cases e : s = d
   ·subst e
    rw [this']
    exact Sp.smul k (Sp.rowAt X s)
   ·rw [other s e]
    exact Sp.rowAt X s
  ·obtain ⟨s, hs, rfl⟩ := mem_rowAt hx
   by_cases e : s = d
   ·subst e
    have := Sp.smul (inv k) (Sp.rowAt (X.set s (smul k (rowAt X s))) s)
    rwa [this', smul_smul, inv_mul k hk, one_smul] at this
   ·have := Sp.rowAt (X.set d (smul k (rowAt X d))) s
    rwa [other s e] at this
 refine ⟨hsame.trans h.same, h.psort, h.plt, fun t p hp => ?_, fun t p hp j hj => zero_at _ _ (h.ahead t p hp j hj), fun t p hp s hs => zero_at _ _ (h.apart t p hp s hs), fun s hs j hj => zero_at _ _ (h.rest s hs j hj), by simp; exact h.le⟩
 rw [other t (by have := lt_ps hp; omega)]
 exact h.lead t p hp
theorem Ech.add {A X : List V} {ps : List Nat} {c d i : Nat} {k : Fb} (h : Ech A X ps c) (hd : ps.length ≤ d) (hi : i ≠ d) (hi2 : i < X.length) :
  Ech A (X.set i (vadd (rowAt X i) (smul k (rowAt X d)))) ps c := by
 have other : ∀ s, s ≠ i → rowAt (X.set i (vadd (rowAt X i) (smul k (rowAt X d)))) s = rowAt X s := fun s hs => by rw [rowAt_set, if_neg (fun c => hs c.1.symm)]
 have this' : rowAt (X.set i (vadd (rowAt X i) (smul k (rowAt X d)))) i = vadd (rowAt X i) (smul k (rowAt X d)) := by rw [rowAt_set, if_pos ⟨rfl, hi2⟩]
 have as_was : ∀ s j, rowAt X d j = zero → rowAt (X.set i (vadd (rowAt X i) (smul k (rowAt X d)))) s j = rowAt X s j := by
  intro s j h0
  by_cases e : s = i
  ·subst e
   rw [this']
   show L.add (rowAt X s j) (mul k (rowAt X d j)) = _
   rw [h0, mul_zero, add_zero]
  ·rw [other s e]
 have hsame : Same (X.set i (vadd (rowAt X i) (smul k (rowAt X d)))) X := by
  refine Same.of (fun x hx => ?_) fun x hx => ?_
  ·obtain ⟨s, -, rfl⟩ := mem_rowAt hx
   by_cases e : s = i
   ·subst e
    rw [this']
    exact Sp.add (Sp.rowAt X s) (Sp.smul k (Sp.rowAt X d))
   ·rw [other s e]
    exact Sp.rowAt X s
  ·obtain ⟨s, hs, rfl⟩ := mem_rowAt hx
   by_cases e : s = i
   ·subst e
    have h1 := Sp.rowAt (X.set s (vadd (rowAt X s) (smul k (rowAt X d)))) s
    have h2 := Sp.smul k (Sp.rowAt (X.set s (vadd (rowAt X s) (smul k (rowAt X d)))) d)
    rw [this'] at h1
    rw [other d (fun c => hi c.symm)] at h2
    have := Sp.add h1 h2
    rwa [vadd_assoc, vadd_self, vadd_zero] at this
   ·have := Sp.rowAt (X.set i (vadd (rowAt X i) (smul k (rowAt X d)))) s
    rwa [other s e] at this
 have dz : ∀ t p, ps[t]? = some p → rowAt X d p = zero := fun t p hp => h.apart t p hp d (by have := lt_ps hp; omega)
 refine ⟨hsame.trans h.same, h.psort, h.plt, fun t p hp => ?_, fun t p hp j hj => ?_, fun t p hp s hs => ?_, fun s hs j hj => ?_, by simp; exact h.le⟩
 ·rw [as_was t p (dz t p hp)]
  exact h.lead t p hp
 ·have hpc := h.plt p (List.mem_of_getElem? hp)
  rw [as_was t j (h.rest d hd j (by omega))]
  exact h.ahead t p hp j hj
 ·rw [as_was s p (dz t p hp)]
  exact h.apart t p hp s hs
 ·rw [as_was s j (h.rest d hd j hj)]
  exact h.rest s hs j hj
theorem Ech.next {A X : List V} {ps : List Nat} {c : Nat} (h : Ech A X ps c) (hl : ps.length < X.length) (h1 : rowAt X ps.length c = one) (h0 : ∀ s, s ≠ ps.length → rowAt X s c = zero) : Ech A X (ps ++ [c]) (c + 1) := by
 have get : ∀ t p, (ps ++ [c])[t]? = some p → ps[t]? = some p ∨ (t = ps.length ∧ p = c) := by
  intro t p hp
  by_cases e : t < ps.length
  ·rw [List.getElem?_append_left e] at hp
   exact .inl hp
  ·rw [List.getElem?_append_right (by omega)] at hp
   by_cases e2 : t = ps.length
   ·subst e2
    simp at hp
    exact .inr ⟨rfl, hp.symm⟩
   ·rw [List.getElem?_eq_none (by simp; omega)] at hp
    cases hp
 refine ⟨h.same, ?_, ?_, fun t p hp => ?_, fun t p hp j hj => ?_, fun t p hp s hs => ?_, fun s hs j hj => ?_, by simp; omega⟩
 ·rw [List.pairwise_append]
  exact ⟨h.psort, by simp, fun a ha b hb => by simp at hb; subst hb; exact h.plt a ha⟩
 ·intro p hp
  rcases List.mem_append.1 hp with hp | hp
  ·exact Nat.lt_succ_of_lt (h.plt p hp)
  ·simp at hp
   omega
 ·rcases get t p hp with hp | ⟨rfl, rfl⟩
  ·exact h.lead t p hp
  ·exact h1
 ·rcases get t p hp with hp | ⟨rfl, rfl⟩
  ·exact h.ahead t p hp j hj
  ·exact h.rest _ (Nat.le_refl _) j hj
 ·rcases get t p hp with hp | ⟨rfl, rfl⟩
  ·exact h.apart t p hp s hs
  ·exact h0 s hs
 ·rw [List.length_append, List.length_singleton] at hs
  rcases Nat.lt_succ_iff_lt_or_eq.1 hj with e | rfl
  ·exact h.rest s (by omega) j e
  ·exact h0 s (by omega)
theorem Ech.done {A X : List V} {ps : List Nat} {c : Nat} (h : Ech A X ps c) (hs : ∀ x ∈ X, Supp c x) : Red A (ps.zip (X.take ps.length)) ∧ rows (ps.zip (X.take ps.length)) = X.take ps.length := by
 have hlen : (X.take ps.length).length = ps.length := by rw [List.length_take]; have := h.le; omega
 have hrows : rows (ps.zip (X.take ps.length)) = X.take ps.length := by
  unfold rows
  exact List.map_snd_zip (by rw [hlen]; exact Nat.le_refl _)
 have get : ∀ p x, (p, x) ∈ ps.zip (X.take ps.length) → ∃ t, ps[t]? = some p ∧ rowAt X t = x := by
  intro p x hm
  obtain ⟨t, ht⟩ := List.getElem?_of_mem hm
  rw [List.getElem?_zip_eq_some] at ht
  refine ⟨t, ht.1, ?_⟩
  have hx := ht.2
  rw [List.getElem?_take_of_lt (lt_ps ht.1)] at hx
  unfold rowAt
  rw [hx]
  rfl
 have zrow : ∀ s, ps.length ≤ s → rowAt X s = vzero := by
  intro s hs'
  funext j
  by_cases e : j < c
  ·exact h.rest s hs' j e
  ·by_cases e2 : s < X.length
   ·exact hs _ (rowAt_mem e2) j (by omega)
   ·rw [rowAt_out (by omega)]
 refine ⟨⟨⟨?_, fun p x hm => ?_, fun p x hm k hk => ?_, fun p x q y hm hm' hne => ?_⟩, ?_⟩, hrows⟩
 ·have : ((ps.zip (X.take ps.length)).map (·.1)).Pairwise (· < ·) := by
   rw [List.map_fst_zip (by rw [hlen]; exact Nat.le_refl _)]
   exact h.psort
  exact List.pairwise_map.1 this
 ·obtain ⟨t, hp, rfl⟩ := get p x hm
  exact h.lead t p hp
 ·obtain ⟨t, hp, rfl⟩ := get p x hm
  exact h.ahead t p hp k hk
 ·obtain ⟨t, hp, rfl⟩ := get p x hm
  obtain ⟨t', hq, rfl⟩ := get q y hm'
  refine h.apart t' q hq t fun e => hne ?_
  subst e
  rw [hp] at hq
  exact Option.some.inj hq
 ·rw [hrows]
  refine Same.trans (Same.of (fun x hx => Sp.mem (List.mem_of_mem_take hx)) fun x hx => ?_) h.same
  obtain ⟨s, hs', rfl⟩ := mem_rowAt hx
  by_cases e : s < ps.length
  ·refine Sp.mem ?_
   have : (X.take ps.length)[s]? = some (rowAt X s) := by
    rw [List.getElem?_take_of_lt e]
    unfold rowAt
    rw [List.getElem?_eq_getElem hs']
    rfl
   exact List.mem_of_getElem? this
  ·rw [zrow s (by omega)]
   exact Sp.zero
end Go.Proofs.YtbbglejdfbkjlaaGreat.L
namespace Go.Proofs.YtbbglejdfbkjlaaGreat
open Go.RowKit
def fb (z : Int) : L.Fb := ⟨z.toNat % 256, Nat.mod_lt _ (by decide)⟩
def vec (l : List Int) : L.V := fun i => fb (l.getD i 0)
theorem fb_zero : fb 0 = L.zero := rfl
theorem fb_one : fb 1 = L.one := rfl
theorem fb_inj {a b : Int} (ha : Byt a) (hb : Byt b) (h : fb a = fb b) : a = b := by
 unfold Byt at *
 have := congrArg L.Fb.n h
 simp only [fb] at this
 omega
theorem fb_add {a b : Int} (ha : Byt a) (hb : Byt b) : fb (addZ a b) = L.add (fb a) (fb b) := by
 unfold Byt at *
 apply L.Fb.ext
 simp only [fb, L.add, addZ, Int.toNat_natCast]
 rw [Nat.mod_eq_of_lt (show a.toNat < 256 by omega), Nat.mod_eq_of_lt (show b.toNat < 256 by omega)]
 exact Nat.mod_eq_of_lt (M.xor_lt (by omega) (by omega))
theorem fb_mul {a b : Int} (ha : Byt a) (hb : Byt b) : fb (mulZ a b) = L.mul (fb a) (fb b) := by
 unfold Byt at *
 apply L.Fb.ext
 simp only [fb, L.mul, mulZ, Int.toNat_natCast]
 rw [Nat.mod_eq_of_lt (show a.toNat < 256 by omega), Nat.mod_eq_of_lt (show b.toNat < 256 by omega)]
 exact Nat.mod_eq_of_lt (M.mulN_lt _ _)
theorem fb_ne {a : Int} (ha : Byt a) (h : a ≠ 0) : fb a ≠ L.zero := fun c => h (fb_inj ha (by unfold Byt; omega) (by rw [c, fb_zero]))
theorem getD_byt {l : List Int} (h : ∀ x ∈ l, Byt x) (i : Nat) : Byt (l.getD i 0) := by
 by_cases hi : i < l.length
 ·rw [List.getD_eq_getElem?_getD, List.getElem?_eq_getElem hi]
  exact h _ (List.getElem_mem hi)
 ·rw [List.getD_eq_getElem?_getD, List.getElem?_eq_none (by omega)]
  unfold Byt
  simp
theorem getD_out {l : List Int} {i : Nat} (h : l.length ≤ i) : l.getD i 0 = 0 := by
 rw [List.getD_eq_getElem?_getD, List.getElem?_eq_none h]
 rfl
theorem vec_supp {l : List Int} {n : Nat} (h : l.length = n) : L.Supp n (vec l) := fun k hk => by
 show fb (l.getD k 0) = L.zero
 rw [getD_out (by omega), fb_zero]
theorem vec_nil : vec [] = L.vzero := rfl
theorem vec_inj {x y : List Int} (hl : x.length = y.length) (hx : ∀ z ∈ x, Byt z) (hy : ∀ z ∈ y, Byt z) (h : vec x = vec y) : x = y :=
 ext_getD hl fun i _ => fb_inj (getD_byt hx i) (getD_byt hy i) (congrFun h i)
theorem vec_scale {c : Int} {x : List Int} (hc : Byt c) (hx : ∀ z ∈ x, Byt z) : vec (scaleL c x) = L.smul (fb c) (vec x) := by
 funext i
 show fb ((scaleL c x).getD i 0) = L.mul (fb c) (fb (x.getD i 0))
 by_cases h : i < x.length
 ·rw [scaleL_getD _ _ _ h, fb_mul hc (getD_byt hx i)]
 ·rw [getD_out (by rw [scaleL_length]; omega), getD_out (l := x) (by omega), fb_zero, L.mul_zero]
theorem vec_ax {c : Int} {x y : List Int} (hc : Byt c) (hx : ∀ z ∈ x, Byt z) (hy : ∀ z ∈ y, Byt z) (hl : x.length = y.length) : vec (axL c x y) = L.vadd (vec y) (L.smul (fb c) (vec x)) := by
 funext i
 show fb ((axL c x y).getD i 0) = L.add (fb (y.getD i 0)) (L.mul (fb c) (fb (x.getD i 0)))
 by_cases h : i < x.length
 ·rw [axL_getD _ _ _ _ h, fb_add (getD_byt hy i) (mulZ_byt _ _), fb_mul hc (getD_byt hx i)]
 ·rw [getD_out (by rw [axL_length]; omega), getD_out (l := x) (by omega), getD_out (l := y) (by omega), fb_zero, L.mul_zero, L.add_zero]
theorem vec_sum {x y : List Int} (hx : ∀ z ∈ x, Byt z) (hy : ∀ z ∈ y, Byt z) (hl : x.length = y.length) : vec (sumL x y) = L.vadd (vec x) (vec y) := by
 funext i
 show fb ((sumL x y).getD i 0) = L.add (fb (x.getD i 0)) (fb (y.getD i 0))
 by_cases h : i < x.length
 ·rw [sumL_getD _ _ _ h, fb_add (getD_byt hx i) (getD_byt hy i)]
 ·rw [getD_out (by rw [sumL_length]; omega), getD_out (l := x) (by omega), getD_out (l := y) (by omega), fb_zero, L.add_zero]
theorem rowAt_vec (A : List (List Int)) (i : Nat) : L.rowAt (A.map vec) i = vec (A.getD i []) := by
 unfold L.rowAt
 rw [List.getElem?_map, List.getD_eq_getElem?_getD]
 cases A[i]? <;> rfl
theorem at_vec (A : List (List Int)) (i j : Nat) : L.rowAt (A.map vec) i j = fb ((A.getD i []).getD j 0) := by
 rw [rowAt_vec]
 rfl
def Wide (k : Nat) (A : List (List Int)) : Prop := ∀ r ∈ A, r.length = k ∧ ∀ x ∈ r, Byt x
theorem Wide.at {k : Nat} {A : List (List Int)} (h : Wide k A) (i : Nat) (hi : i < A.length) : (A.getD i []).length = k ∧ ∀ x ∈ A.getD i [], Byt x := by
 rw [List.getD_eq_getElem?_getD, List.getElem?_eq_getElem hi]
 exact h _ (List.getElem_mem hi)
theorem Wide.byt {k : Nat} {A : List (List Int)} (h : Wide k A) (i j : Nat) : Byt ((A.getD i []).getD j 0) := by
 by_cases hi : i < A.length
 ·exact getD_byt (h.at i hi).2 j
 ·have : A.getD i [] = [] := by
   rw [List.getD_eq_getElem?_getD, List.getElem?_eq_none (by omega)]
   rfl
  rw [this]
  unfold Byt
  simp
theorem Wide.set {k : Nat} {A : List (List Int)} (h : Wide k A) (i : Nat) {l : List Int} (hl : l.length = k) (hb : ∀ x ∈ l, Byt x) : Wide k (A.set i l) := by
 intro r hr
 rcases List.mem_or_eq_of_mem_set hr with hr | rfl
 ·exact h r hr
 ·exact ⟨hl, hb⟩
theorem Wide.take {k : Nat} {A : List (List Int)} (h : Wide k A) (n : Nat) : Wide k (A.take n) := fun r hr => h r (List.mem_of_mem_take hr)
theorem Wide.supp {k : Nat} {A : List (List Int)} (h : Wide k A) : ∀ x ∈ A.map vec, L.Supp k x := by
 intro x hx
 obtain ⟨r, hr, rfl⟩ := List.mem_map.1 hx
 exact vec_supp (h r hr).1
theorem Wide.of_may {A : List (List Int)} (h : mayL A = true) (hb : ∀ r ∈ A, ∀ x ∈ r, Byt x) : Wide ((A.getD 0 []).length) A := by
 intro r hr
 obtain ⟨i, hi, rfl⟩ := List.getElem_of_mem hr
 have := mayL_at h i hi
 rw [List.getD_eq_getElem?_getD, List.getElem?_eq_getElem hi] at this
 exact ⟨this.1, hb _ hr⟩
def IsRed (k : Nat) (A R : List (List Int)) : Prop := Wide k R ∧ ∃ ps : List Nat, ps.length = R.length ∧ L.Red (A.map vec) (ps.zip (R.map vec))
theorem IsRed.rank {k : Nat} {A R : List (List Int)} (h : IsRed k A R) : L.rk (A.map vec) = R.length := by
 obtain ⟨_, ps, hl, hr⟩ := h
 rw [L.rk_eq hr, List.length_zip, List.length_map, hl, Nat.min_self]
theorem map_vec_inj {k : Nat} : ∀ {R S : List (List Int)}, Wide k R → Wide k S → R.map vec = S.map vec → R = S
 | [], [], _, _, _ => rfl
 | [], s :: S, _, _, h => by simp at h
 | r :: R, [], _, _, h => by simp at h
 | r :: R, s :: S, hr, hs, h => by
  rw [List.map_cons, List.map_cons] at h
  obtain ⟨h1, h2⟩ := List.cons.inj h
  have e1 := hr r (by simp)
  have e2 := hs s (by simp)
  rw [vec_inj (by rw [e1.1, e2.1]) e1.2 e2.2 h1, map_vec_inj (fun x hx => hr x (by simp [hx])) (fun x hx => hs x (by simp [hx])) h2]
theorem IsRed.unique {k : Nat} {A R S : List (List Int)} (h : IsRed k A R) (h' : IsRed k A S) : R = S := by
 obtain ⟨hw, ps, hl, hr⟩ := h
 obtain ⟨hw', qs, hl', hr'⟩ := h'
 have e := L.rref_unique hr.1 hr'.1 (hr.2.trans hr'.2.symm)
 have e1 := congrArg (List.map Prod.snd) e
 rw [List.map_snd_zip (by simp [hl]), List.map_snd_zip (by simp [hl'])] at e1
 exact map_vec_inj hw hw' e1
theorem Mine.new {w w' : World} {e : Ending} {l : List Int} (h : Mine w w' e l) (hb : ∀ x ∈ l, Byt x) (hn : l.length ≤ 9223372036854775807) : ∃ v, e = .returned v ∧ New w w' v l := by
 obtain ⟨g, he, hge, hk, hg⟩ := h
 exact ⟨_, he, hg, hb, .inr ⟨g, l.length, rowB l, rfl, hge, hk, Nat.le_refl _, hn, fun i hi => rowB_get l i hi⟩⟩
theorem refScale_new (c : Int) (va : Value) (x : List Int) (w : World) (hc : Byt c) (ha : Bs w va x) (hn : x.length ≤ 1000000) :
  Calls Tryz.prog 73 #[.int .u8 c, va] w fun e w' => ∃ v, e = .returned v ∧ New w w' v (scaleL c x) :=
 (refScale_any c va x w hc ha (by omega)).mono fun _ _ h => Mine.new h (lst_byt fun _ _ => mulZ_byt _ _) (by rw [scaleL_length]; omega)
theorem refAxpy_new (c : Int) (va vb : Value) (x y : List Int) (w : World) (hc : Byt c) (ha : Bs w va x) (hb : Bs w vb y) (hl : y.length = x.length) (hn : x.length ≤ 1000000) :
  Calls Tryz.prog 74 #[.int .u8 c, va, vb] w fun e w' => ∃ v, e = .returned v ∧ New w w' v (axL c x y) := by
 have he : lst y.length (axpyL c x y) = axL c x y := by
  unfold axL
  rw [hl]
  rfl
 rw [← he]
 exact (refAxpy_any c va vb x y w hc ha hb hl.symm (by omega)).mono fun _ _ h => Mine.new h (lst_byt fun i _ => addZ_byt (Bs.byt hb i) (mulZ_byt _ _)) (by rw [lst_length]; omega)
theorem ownsRow_set {w : World} {base g n c : Nat} {us : List Value} (h : w.ownsRow base 25 1 (.slice (some ⟨g, 0, none⟩) n c) n us) (i : Nat) (_ : i < n) (u : Value) :
  (w.setCell ⟨g, i, none⟩ u).ownsRow base 25 1 (.slice (some ⟨g, 0, none⟩) n c) n (us.set i u) := by
 obtain ⟨h0, ⟨he, _⟩ | ⟨g', c', cur, he, hb, hg, h1, h2, h3, h4⟩⟩ := h
 ·cases he
 ·cases he
  refine ⟨by rw [List.length_set]; exact h0, .inr ⟨g, c, cur.setIfInBounds i u, rfl, hb, heap_setCell_same _ _ _ _ _ _ hg, h1, h2, by simpa using h3, ?_⟩⟩
  rw [← h4]
  simp [Array.toList_setIfInBounds, List.take_set]
theorem Rws.set {base : Nat} {w : World} {g n c : Nat} {L : List (List Int)} {us : List Value} (ho : w.ownsRow base 25 1 (.slice (some ⟨g, 0, none⟩) n c) n us) (hl : L.length = n)
  (hr : ∀ i, i < n → Bs w (us.getD i undef) (L.getD i []) ∧ Rb base w (us.getD i undef)) (i : Nat) (hi : i < n) {u : Value} {l : List Int} (hb : Bs w u l) (hrb : Rb base w u) :
  (w.setCell ⟨g, i, none⟩ u).ownsRow base 25 1 (.slice (some ⟨g, 0, none⟩) n c) n (us.set i u) ∧
  ∀ j, j < n → Bs (w.setCell ⟨g, i, none⟩ u) ((us.set i u).getD j undef) ((L.set i l).getD j []) ∧ Rb base (w.setCell ⟨g, i, none⟩ u) ((us.set i u).getD j undef) := by
 have hus : us.length = n := by have := ho.1; omega
 have hrow := ownsRow_not_bytes ho
 have hk : ∀ k, k < w.heap.size → some k ≠ (Value.slice (some ⟨g, 0, none⟩) n c).ownBlock → (w.setCell ⟨g, i, none⟩ u).heap[k]? = w.heap[k]? := by
  intro k _ hne
  have hne' : k ≠ g := fun e => hne (by rw [e]; rfl)
  exact heap_setCell_other _ _ _ _ hne'
 refine ⟨ownsRow_set ho i hi u, fun j hj => ?_⟩
 by_cases e : j = i
 ·subst e
  rw [List.getD_eq_getElem?_getD, List.getD_eq_getElem?_getD, List.getElem?_set_self (by omega), List.getElem?_set_self (by omega)]
  exact Rb.kept hb hrb hk hrow
 ·rw [List.getD_eq_getElem?_getD, List.getD_eq_getElem?_getD, List.getElem?_set_ne (fun c => e c.symm), List.getElem?_set_ne (fun c => e c.symm), ← List.getD_eq_getElem?_getD, ← List.getD_eq_getElem?_getD]
  exact Rb.kept (hr j hj).1 (hr j hj).2 hk hrow
end Go.Proofs.YtbbglejdfbkjlaaGreat
namespace Go.Proofs.YtbbglejdfbkjlaaGreat.L
theorem lc_assoc (X : List V) : ∀ (A : List V) (c : V), lc (lc c A) X = lc c (mulM A X)
 | [], _ => lc_zero X
 | a :: A, c => by
  show lc (vadd (smul (c 0) a) (lc (fun i => c (i + 1)) A)) X = vadd (smul (c 0) (lc a X)) (lc (fun i => c (i + 1)) (mulM A X))
  rw [lc_add, lc_smul, lc_assoc X A]
theorem mulM_assoc (D A X : List V) : mulM (mulM D A) X = mulM D (mulM A X) := by
 unfold mulM
 rw [List.map_map]
 exact List.map_congr_left fun d _ => lc_assoc X A d
def idM (n : Nat) : List V := (List.range n).map unit
theorem idM_length (n : Nat) : (idM n).length = n := by simp [idM]
theorem idM_supp (n : Nat) : ∀ x ∈ idM n, Supp n x := by
 intro x hx
 obtain ⟨i, hi, rfl⟩ := List.mem_map.1 hx
 exact unit_supp (List.mem_range.1 hi)
theorem mulM_id_left {n : Nat} {X : List V} (h : X.length = n) : mulM (idM n) X = X := by
 unfold mulM idM
 rw [List.map_map]
 apply List.ext_getElem
 ·simp [h]
 intro i h1 h2
 simp only [List.getElem_map, List.getElem_range, Function.comp]
 rw [lc_unit]
 unfold rowAt
 rw [List.getElem?_eq_getElem h2]
 rfl
theorem lc_range : ∀ (n s : Nat) (a : V) (k : Nat), lc a ((List.range' s n).map unit) k = if s ≤ k ∧ k < s + n then a (k - s) else zero
 | 0, s, a, k => by
  rw [if_neg (by omega)]
  rfl
 | n + 1, s, a, k => by
  show add (mul (a 0) (unit s k)) (lc (fun i => a (i + 1)) ((List.range' (s + 1) n).map unit) k) = _
  rw [lc_range n (s + 1)]
  unfold unit
  by_cases e : k = s
  ·subst e
   rw [if_pos rfl, if_neg (by omega), if_pos (by omega), mul_one, add_zero, Nat.sub_self]
  ·rw [if_neg e, mul_zero, zero_add]
   by_cases e2 : s + 1 ≤ k ∧ k < s + 1 + n
   ·rw [if_pos e2, if_pos (by omega)]
    congr 1
    omega
   ·rw [if_neg e2, if_neg (by omega)]
theorem lc_id {n : Nat} {a : V} (h : Supp n a) : lc a (idM n) = a := by
 unfold idM
 rw [List.range_eq_range']
 funext k
 rw [lc_range]
 by_cases e : k < n
 ·rw [if_pos (by omega), Nat.sub_zero]
 ·rw [if_neg (by omega), h k (by omega)]
theorem mulM_id_right {n : Nat} {A : List V} (h : ∀ x ∈ A, Supp n x) : mulM A (idM n) = A := by
 unfold mulM
 conv => rhs; rw [← List.map_id A]
 exact List.map_congr_left fun a ha => lc_id (h a ha)
theorem Sp.coeff {A : List V} {v : V} (h : Sp A v) : ∃ d, Supp A.length d ∧ L.lc d A = v := by
 induction h with
 | zero => exact ⟨vzero, Supp.zero _, lc_zero A⟩
 | step c x v hx _ ih =>
  obtain ⟨d, hd, rfl⟩ := ih
  obtain ⟨i, hi, rfl⟩ := mem_rowAt hx
  exact ⟨vadd (L.smul c (unit i)) d, Supp.add (Supp.smul c (unit_supp hi)) hd, by rw [lc_add, lc_smul, lc_unit]⟩
theorem coeffs {A : List V} : ∀ C : List V, (∀ x ∈ C, Sp A x) → ∃ D : List V, D.length = C.length ∧ (∀ x ∈ D, Supp A.length x) ∧ mulM D A = C
 | [], _ => ⟨[], rfl, by simp, rfl⟩
 | c :: C, h => by
  obtain ⟨D, h1, h2, h3⟩ := coeffs C fun x hx => h x (by simp [hx])
  obtain ⟨d, h4, h5⟩ := Sp.coeff (h c (by simp))
  refine ⟨d :: D, by simp [h1], fun x hx => ?_, ?_⟩
  ·rcases List.mem_cons.1 hx with rfl | hx
   ·exact h4
   ·exact h2 x hx
  ·show lc d A :: mulM D A = c :: C
   rw [h5, h3]
theorem rk_id (n : Nat) : rk (idM n) = n := by
 have h1 := rk_le_cols (idM_supp n)
 have h2 : rk (mulM (idM n) (idM n)) ≤ rk (idM n) := rk_mul_right (idM_supp n)
 obtain ⟨R, hr, e⟩ := red_exists (idM_supp n)
 -- every place is one where a row begins
 have h3 : n ≤ R.length := by
  have hp : ∀ i, i < n → ∃ x, (i, x) ∈ R := fun i hi => begins_at hr.1 ((hr.2 _).2 (Sp.mem (List.mem_map.2 ⟨i, List.mem_range.2 hi, rfl⟩))) ⟨by unfold unit; rw [if_pos rfl]; exact one_ne, fun j hj => by unfold unit; rw [if_neg (by omega)]⟩
  have := places_sub ((List.range n).map fun i => (i, vzero)) R (by
    rw [List.pairwise_map]
    exact List.pairwise_lt_range) hr.1.1 (fun a ha => by
    obtain ⟨i, hi, rfl⟩ := List.mem_map.1 ha
    obtain ⟨x, hx⟩ := hp i (List.mem_range.1 hi)
    exact ⟨_, hx, rfl⟩)
  simpa using this
 omega
theorem square {n m : Nat} {A C : List V} (hA : ∀ x ∈ A, Supp n x) (hl : A.length = n) (hr : rk A = n) (hC : C.length = n) (hs : ∀ x ∈ C, Supp m x) :
  ∃ X, X.length = n ∧ (∀ x ∈ X, Supp m x) ∧ mulM A X = C := by
 obtain ⟨D, h1, h2, h3⟩ := coeffs (A := A) (idM n) fun x hx => full_span hA hr (idM_supp n x hx)
 rw [idM_length] at h1
 rw [hl] at h2
 have hD : rk D = n := by
  have h4 := rk_le_cols h2
  have h5 : rk (mulM D A) ≤ rk D := rk_mul_left h2 hA
  rw [h3, rk_id] at h5
  omega
 have h6 : mulM A D = idM n := mul_unique h2 hD (by simp [mulM, hl]) (idM_length n) (by
   rw [← mulM_assoc, h3, mulM_id_left h1, mulM_id_right h2])
 exact ⟨mulM D C, by simp [mulM, h1], mulM_supp hs, by rw [← mulM_assoc, h6, mulM_id_left hC]⟩
theorem Ech.pivot {A X : List V} {c n : Nat} (h : Ech A X (List.range c) c) (hA : ∀ x ∈ A, Supp n x) (hr : rk A = n) (hc : c < n) : ∃ s, c ≤ s ∧ s < X.length ∧ rowAt X s c ≠ zero := by
 apply Classical.byContradiction
 intro hno
 have h0 : ∀ s, c ≤ s → rowAt X s c = zero := fun s hs => Classical.byContradiction fun e => hno ⟨s, hs, by
   apply Classical.byContradiction
   intro e2
   apply e
   rw [rowAt_out (by omega)]
   rfl, e⟩
 have get : ∀ t, t < c → (List.range c)[t]? = some t := fun t ht => List.getElem?_range ht
 -- what vanishes on all rows vanishes on what they span
 let R : List (Nat × V) := (List.range c).map fun t => (t, rowAt X t)
 have hz : ∀ x ∈ X, left x R c = zero := by
  intro x hx
  obtain ⟨s, hs, rfl⟩ := mem_rowAt hx
  have hp : ∀ (T : List Nat), (∀ t ∈ T, t < c) → T.Nodup → pick (rowAt X s) (T.map fun t => (t, rowAt X t)) = if s ∈ T then rowAt X s else vzero := by
   intro T
   induction T with
   | nil => intro _ _; rfl
   | cons t T ih =>
    intro hT hn
    show vadd (smul (rowAt X s t) (rowAt X t)) (pick (rowAt X s) (T.map fun t => (t, rowAt X t))) = _
    rw [ih (fun u hu => hT u (by simp [hu])) (List.nodup_cons.1 hn).2]
    have ht : t < c := hT t (by simp)
    by_cases e : s = t
    ·subst e
     rw [h.lead s s (get s ht), one_smul, if_neg (List.nodup_cons.1 hn).1, if_pos (by simp), vadd_zero]
    ·rw [h.apart t t (get t ht) s e, zero_smul, vzero_add]
     by_cases e2 : s ∈ T
     ·rw [if_pos e2, if_pos (by simp [e2])]
     ·rw [if_neg e2, if_neg (by simp [e, e2])]
  have hp1 := hp (List.range c) (fun t ht => List.mem_range.1 ht) List.nodup_range
  show L.add (rowAt X s c) (pick (rowAt X s) R c) = zero
  rw [show pick (rowAt X s) R = _ from hp1]
  by_cases e : s < c
  ·rw [if_pos (List.mem_range.2 e), add_self]
  ·rw [if_neg (fun q => e (List.mem_range.1 q)), h0 s (by omega)]
   exact add_zero _
 have hall : ∀ v, Sp X v → left v R c = zero := by
  intro v hv
  induction hv with
  | zero =>
   have : pick vzero R = vzero := pick_none _ R fun _ _ _ => rfl
   show L.add zero (pick vzero R c) = zero
   rw [this]
   exact add_zero _
  | step k x v hx _ ih =>
   have hx' := hz x hx
   show L.add (L.add (mul k (x c)) (v c)) (pick (vadd (smul k x) v) R c) = zero
   rw [pick_add, pick_smul]
   show L.add (L.add (mul k (x c)) (v c)) (L.add (mul k (pick x R c)) (pick v R c)) = zero
   have e1 : L.add (x c) (pick x R c) = zero := hx'
   have e2 : L.add (v c) (pick v R c) = zero := ih
   rw [eq_of_add e1, eq_of_add e2]
   exact add_self _
 have hu := hall _ ((h.same _).2 (full_span hA hr (unit_supp hc)))
 have hpu : pick (unit c) R = vzero := pick_none _ R fun p x hp => by
  obtain ⟨t, ht, he⟩ := List.mem_map.1 hp
  have : t = p := congrArg Prod.fst he
  subst this
  unfold unit
  rw [if_neg (by have := List.mem_range.1 ht; omega)]
 have : L.add (unit c c) (pick (unit c) R c) = zero := hu
 rw [hpu] at this
 have h1 : unit c c = one := by unfold unit; rw [if_pos rfl]
 rw [h1] at this
 exact one_ne (eq_of_add this)
def Sat (X Y M : List V) : Prop := ∀ i, i < X.length → lc (rowAt X i) M = rowAt Y i
theorem Sat.of_mul {A B M : List V} (hl : A.length = B.length) : mulM A M = B ↔ Sat A B M := by
 constructor
 ·rintro rfl i hi
  unfold rowAt mulM
  rw [List.getElem?_map, List.getElem?_eq_getElem hi]
  rfl
 ·intro h
  apply List.ext_getElem
  ·simp [mulM, hl]
  intro i h1 h2
  have hi : i < A.length := by simpa [mulM] using h1
  have := h i hi
  unfold rowAt at this
  rw [List.getElem?_eq_getElem hi, List.getElem?_eq_getElem h2] at this
  simpa [mulM] using this
theorem Sat.swap {X Y M : List V} {a d : Nat} (hl : Y.length = X.length) (ha : a < X.length) (hd : d < X.length) :
  Sat ((X.set a (rowAt X d)).set d (rowAt X a)) ((Y.set a (rowAt Y d)).set d (rowAt Y a)) M ↔ Sat X Y M := by
 have hd2 : d < Y.length := by omega
 have ha2 : a < Y.length := by omega
 have gx : ∀ i, rowAt ((X.set a (rowAt X d)).set d (rowAt X a)) i = if i = d then rowAt X a else if i = a then rowAt X d else rowAt X i := fun i => by
  rw [rowAt_set, rowAt_set, List.length_set]
  by_cases e : d = i
  ·subst e
   simp [hd]
  ·have e' : ¬ i = d := fun c => e c.symm
   by_cases e2 : a = i
   ·subst e2
    simp [ha, e, e']
   ·have e2' : ¬ i = a := fun c => e2 c.symm
    simp [e, e', e2, e2']
 have gy : ∀ i, rowAt ((Y.set a (rowAt Y d)).set d (rowAt Y a)) i = if i = d then rowAt Y a else if i = a then rowAt Y d else rowAt Y i := fun i => by
  rw [rowAt_set, rowAt_set, List.length_set]
  by_cases e : d = i
  ·subst e
   simp [hd2]
  ·have e' : ¬ i = d := fun c => e c.symm
   by_cases e2 : a = i
   ·subst e2
    simp [ha2, e, e']
   ·have e2' : ¬ i = a := fun c => e2 c.symm
    simp [e, e', e2, e2']
 unfold Sat
 simp only [List.length_set, gx, gy]
 constructor
 ·intro h i hi
  by_cases e : i = a
  ·subst e
   have := h d hd
   rwa [if_pos rfl, if_pos rfl] at this
  ·by_cases e2 : i = d
   ·subst e2
    have := h a ha
    by_cases e3 : a = i
    ·exact absurd e3.symm e
    ·rwa [if_neg e3, if_neg e3, if_pos rfl, if_pos rfl] at this
   ·have := h i hi
    rwa [if_neg e2, if_neg e2, if_neg e, if_neg e] at this
 ·intro h i hi
  by_cases e : i = d
  ·rw [if_pos e, if_pos e]; exact h a ha
  ·rw [if_neg e, if_neg e]
   by_cases e2 : i = a
   ·rw [if_pos e2, if_pos e2]; exact h d hd
   ·rw [if_neg e2, if_neg e2]; exact h i hi
theorem Sat.scale {X Y M : List V} {d : Nat} {k : Fb} (hl : Y.length = X.length) (hd : d < X.length) (hk : k ≠ zero) :
  Sat (X.set d (smul k (rowAt X d))) (Y.set d (smul k (rowAt Y d))) M ↔ Sat X Y M := by
 have inj : ∀ u v : V, smul k u = smul k v → u = v := fun u v h => by
  have := congrArg (smul (inv k)) h
  rwa [smul_smul, smul_smul, inv_mul k hk, one_smul, one_smul] at this
 unfold Sat
 simp only [List.length_set, rowAt_set]
 constructor
 ·intro h i hi
  have := h i hi
  by_cases e : d = i
  ·subst e
   rw [if_pos ⟨rfl, hd⟩, if_pos ⟨rfl, by omega⟩, lc_smul] at this
   exact inj _ _ this
  ·rwa [if_neg (fun c => e c.1), if_neg (fun c => e c.1)] at this
 ·intro h i hi
  by_cases e : d = i
  ·subst e
   rw [if_pos ⟨rfl, hd⟩, if_pos ⟨rfl, by omega⟩, lc_smul, h d hd]
  ·rw [if_neg (fun c => e c.1), if_neg (fun c => e c.1)]
   exact h i hi
theorem Sat.add {X Y M : List V} {d i : Nat} {k : Fb} (hl : Y.length = X.length) (hd : d < X.length) (hi : i < X.length) (hne : i ≠ d) :
  Sat (X.set i (vadd (rowAt X i) (smul k (rowAt X d)))) (Y.set i (vadd (rowAt Y i) (smul k (rowAt Y d)))) M ↔ Sat X Y M := by
 have back : ∀ u v : V, vadd (vadd u v) v = u := fun u v => by rw [vadd_assoc, vadd_self, vadd_zero]
 unfold Sat
 simp only [List.length_set, rowAt_set]
 constructor
 ·intro h j hj
  have hdd := h d hd
  rw [if_neg (fun c => hne c.1), if_neg (fun c => hne c.1)] at hdd
  have := h j hj
  by_cases e : i = j
  ·subst e
   rw [if_pos ⟨rfl, hi⟩, if_pos ⟨rfl, by omega⟩, lc_add, lc_smul, hdd] at this
   have h2 := congrArg (fun u => vadd u (smul k (rowAt Y d))) this
   simpa only [back] using h2
  ·rwa [if_neg (fun c => e c.1), if_neg (fun c => e c.1)] at this
 ·intro h j hj
  by_cases e : i = j
  ·subst e
   rw [if_pos ⟨rfl, hi⟩, if_pos ⟨rfl, by omega⟩, lc_add, lc_smul, h i hi, h d hd]
  ·rw [if_neg (fun c => e c.1), if_neg (fun c => e c.1)]
   exact h j hj
theorem Sat.done {A X Y M : List V} {n : Nat} (h : Ech A X (List.range n) n) (hs : ∀ x ∈ X, Supp n x) (hl : Y.length = X.length) (hM : M.length = n) :
  Sat X Y M ↔ M = Y.take n ∧ ∀ i, n ≤ i → i < Y.length → rowAt Y i = vzero := by
 have hle : n ≤ X.length := by have := h.le; simpa using this
 have get : ∀ t, t < n → (List.range n)[t]? = some t := fun t ht => List.getElem?_range ht
 have hu : ∀ i, i < n → rowAt X i = unit i := fun i hi => by
  funext j
  unfold unit
  by_cases e : j = i
  ·subst e
   rw [if_pos rfl, h.lead j j (get j hi)]
  ·rw [if_neg e]
   by_cases e2 : j < n
   ·exact h.apart j j (get j e2) i (fun c => e c.symm)
   ·exact hs _ (rowAt_mem (by omega)) j (by omega)
 have hz : ∀ i, n ≤ i → rowAt X i = vzero := fun i hi => by
  funext j
  by_cases e : j < n
  ·exact h.rest i (by simpa using hi) j e
  ·by_cases e2 : i < X.length
   ·exact hs _ (rowAt_mem e2) j (by omega)
   ·rw [rowAt_out (by omega)]
 constructor
 ·intro hsat
  refine ⟨?_, fun i h1 h2 => ?_⟩
  ·apply List.ext_getElem
   ·rw [List.length_take, hM]; omega
   intro i h1 h2
   have hi : i < n := by omega
   have := hsat i (by omega)
   rw [hu i hi, lc_unit] at this
   unfold rowAt at this
   rw [List.getElem?_eq_getElem h1, List.getElem?_eq_getElem (by omega : i < Y.length)] at this
   rw [List.getElem_take]
   exact this
  ·have := hsat i (by omega)
   rw [hz i h1, lc_zero] at this
   exact this.symm
 ·rintro ⟨rfl, h0⟩ i hi
  by_cases e : i < n
  ·rw [hu i e, lc_unit]
   unfold rowAt
   rw [List.getElem?_take_of_lt e]
  ·rw [hz i (by omega), lc_zero, h0 i (by omega) (by omega)]
end Go.Proofs.YtbbglejdfbkjlaaGreat.L
namespace Go.Proofs.YtbbglejdfbkjlaaGreat
open Go.RowKit
theorem Bss.byt {w : World} {v : Value} {A : List (List Int)} (h : Bss w v A) : ∀ r ∈ A, ∀ x ∈ r, Byt x := by
 intro r hr
 obtain ⟨i, hi, rfl⟩ := List.getElem_of_mem hr
 obtain ⟨a, c, _, _, _, h3⟩ := Bss.at h (by omega)
 obtain ⟨u, _, hu⟩ := h3 i hi
 rw [List.getD_eq_getElem?_getD, List.getElem?_eq_getElem hi] at hu
 exact hu.1
def wd (A : List (List Int)) : Nat := (A.getD 0 []).length
theorem wd_nil : wd [] = 0 := rfl
theorem Wide.of_bss {w : World} {v : Value} {A : List (List Int)} (h : Bss w v A) (hm : mayL A = true) : Wide (wd A) A := Wide.of_may hm h.byt
theorem Wide.may {k : Nat} {A : List (List Int)} (h : Wide k A) (hk : k ≤ 64) : mayL A = true := mayL_true fun i hi => by
 have h0 := (h.at i hi).1
 have h1 := (h.at 0 (by omega)).1
 omega
theorem Wide.wd {k : Nat} {A : List (List Int)} (h : Wide k A) (h0 : 0 < A.length) : wd A = k := (h.at 0 h0).1
theorem Wide.nil (k : Nat) : Wide k [] := fun r hr => by simp at hr
noncomputable def rkL (A : List (List Int)) : Nat := L.rk (A.map vec)
def IsMul (m : Nat) (A X out : List (List Int)) : Prop := Wide m out ∧ out.map vec = L.mulM (A.map vec) (X.map vec)
theorem IsMul.length {m : Nat} {A X o : List (List Int)} (h : IsMul m A X o) : o.length = A.length := by
 have := congrArg List.length h.2
 simpa [L.mulM] using this
def SolSays (A B : List (List Int)) (e : Int) (S : List (List Int)) : Prop :=
 (A = [] ∧ e = 1 ∧ S = []) ∨ (A ≠ [] ∧ rkL A < wd A ∧ e = 9 ∧ S = []) ∨
 (A ≠ [] ∧ rkL A = wd A ∧ e = 0 ∧ S.length = wd A ∧ IsMul (wd B) A S B ∧ Wide (wd B) S) ∨
 (A ≠ [] ∧ rkL A = wd A ∧ e = 10 ∧ S = [] ∧ ∀ M : List L.V, M.length = wd A → (∀ x ∈ M, L.Supp (wd B) x) → L.mulM (A.map vec) M ≠ B.map vec)
theorem SolSays.unique {A B S S' : List (List Int)} {e e' : Int} (hA : Wide (wd A) A) (h : SolSays A B e S) (h' : SolSays A B e' S') : e = e' ∧ S = S' := by
 rcases h with ⟨h0, h1, h2⟩ | ⟨h0, h1, h2, h3⟩ | ⟨h0, h1, h2, h3, h4, h5⟩ | ⟨h0, h1, h2, h3, h4⟩ <;>
 rcases h' with ⟨g0, g1, g2⟩ | ⟨g0, g1, g2, g3⟩ | ⟨g0, g1, g2, g3, g4, g5⟩ | ⟨g0, g1, g2, g3, g4⟩ <;>
 first
  | exact absurd h0 g0
  | exact absurd g0 h0
  | (exfalso; omega)
  | (subst_vars; exact ⟨rfl, rfl⟩)
  | skip
 ·refine ⟨by rw [h2, g2], map_vec_inj h5 g5 (L.mul_unique hA.supp h1 (by simp [h3]) (by simp [g3]) ?_)⟩
  rw [← h4.2, ← g4.2]
 ·exact absurd h4.2.symm (g4 _ (by simp [h3]) (h5.supp))
 ·exact absurd g4.2.symm (h4 _ (by simp [g3]) (g5.supp))
theorem bss_two {w : World} {g : Nat} {u v : Value} {x y : List Int} {t : TypeId} {fr : Nat × Nat} (h : w.heap[g]? = some (.cells #[u, v] t fr)) (hu : Bs w u x) (hv : Bs w v y) : Bss w (.slice (some ⟨g, 0, none⟩) 2 2) [x, y] :=
 ⟨some ⟨g, 0, none⟩, 2, rfl, by simp, by omega, (fun h => by cases h), fun a ha i hi => by
   cases ha
   rw [Addr.add_mid, Nat.zero_add]
   have : i = 0 ∨ i = 1 := by simp at hi; omega
   rcases this with rfl | rfl
   · exact ⟨u, by rw [cell_of_row w g 0 _ _ _ h]; rfl, hu⟩
   · exact ⟨v, by rw [cell_of_row w g 1 _ _ _ h]; rfl, hv⟩⟩
end Go.Proofs.YtbbglejdfbkjlaaGreat
namespace Go.Proofs.YtbbglejdfbkjlaaGreat
open Go.RowKit
structure Mx (w0 W : World) (g n c k : Nat) (A Lm : List (List Int)) (ps : List Nat) (col : Nat) (us : List Value) : Prop where
 own : W.ownsRow w0.heap.size 25 1 (.slice (some ⟨g, 0, none⟩) n c) n us
 row : ∀ i, i < n → Bs W (us.getD i undef) (Lm.getD i []) ∧ Rb w0.heap.size W (us.getD i undef)
 len : Lm.length = n
 wide : Wide k Lm
 ech : L.Ech (A.map vec) (Lm.map vec) ps col
 gr : Gr w0 W
section
variable {w0 W : World} {g n c k : Nat} {A Lm : List (List Int)} {ps : List Nat} {col : Nat} {us : List Value}
theorem Mx.cell (h : Mx w0 W g n c k A Lm ps col us) (i : Nat) (hi : i < n) :
  ∃ oi ci, us.getD i undef = .slice oi k ci ∧ W.cell? ⟨g, i, none⟩ = some (.slice oi k ci) ∧ ∀ j, j < k → ∃ a, oi = some a ∧ W.cell? (a.add j) = some (.int .u8 ((Lm.getD i []).getD j 0)) := by
 obtain ⟨g', c', he, _, _, _, _, hc⟩ := ownsRow_cell h.own (by omega)
 cases he
 have hb := (h.row i hi).1
 have hw := (h.wide.at i (by rw [h.len]; exact hi)).1
 obtain ⟨_, oi, ci, e, h1, _, h3, h4⟩ := hb
 rw [hw] at e h1 h4
 refine ⟨oi, ci, e, by rw [hc i hi, e], fun j hj => ?_⟩
 cases oi with
 | none => exact absurd (h3 rfl) (by omega)
 | some a => exact ⟨a, rfl, h4 a rfl j hj⟩
theorem Mx.frozen (h : Mx w0 W g n c k A Lm ps col us) (i : Nat) : W.frozen? ⟨g, i, none⟩ = false := by
 obtain ⟨_, ⟨he, _⟩ | ⟨g', c', cur, he, _, hg, _⟩⟩ := h.own
 ·cases he
 ·cases he
  exact frozen_of_row W g i _ _ hg
theorem Mx.base (h : Mx w0 W g n c k A Lm ps col us) : w0.heap.size ≤ g := (ownsRow_not_bytes h.own g rfl).1
theorem Mx.grow {W' : World} (h : Mx w0 W g n c k A Lm ps col us) (hg : Gr W W') : Mx w0 W' g n c k A Lm ps col us :=
 ⟨h.own.of_gr hg, fun i hi => Rb.gr (h.row i hi).1 (h.row i hi).2 hg, h.len, h.wide, h.ech, Gr.trans h.gr hg⟩
theorem Mx.to {qs : List Nat} {col' : Nat} (h : Mx w0 W g n c k A Lm ps col us) (he : L.Ech (A.map vec) (Lm.map vec) qs col') : Mx w0 W g n c k A Lm qs col' us :=
 ⟨h.own, h.row, h.len, h.wide, he, h.gr⟩
theorem Mx.put {qs : List Nat} {col' : Nat} {u : Value} {l : List Int} (h : Mx w0 W g n c k A Lm ps col us) (i : Nat) (hi : i < n) (hb : Bs W u l) (hrb : Rb w0.heap.size W u) (hl : l.length = k)
  (he : L.Ech (A.map vec) ((Lm.set i l).map vec) qs col') : Mx w0 (W.setCell ⟨g, i, none⟩ u) g n c k A (Lm.set i l) qs col' (us.set i u) := by
 obtain ⟨h1, h2⟩ := Rws.set h.own h.len h.row i hi hb hrb
 exact ⟨h1, h2, by rw [List.length_set]; exact h.len, h.wide.set i hl hb.1, he, Gr.setCell h.gr h.base u⟩
theorem Mx.swap (h : Mx w0 W g n c k A Lm ps col us) (a d : Nat) (ha : ps.length ≤ a) (ha2 : a < n) (hd : ps.length ≤ d) (hd2 : d < n) :
  Mx w0 ((W.setCell ⟨g, a, none⟩ (us.getD d undef)).setCell ⟨g, d, none⟩ (us.getD a undef)) g n c k A ((Lm.set a (Lm.getD d [])).set d (Lm.getD a [])) ps col ((us.set a (us.getD d undef)).set d (us.getD a undef)) := by
 have hm : (Lm.map vec).length = n := by rw [List.length_map, h.len]
 have he := h.ech.swap (a := a) (d := d) ha (by rw [hm]; exact ha2) hd (by rw [hm]; exact hd2)
 have e1 : ((Lm.set a (Lm.getD d [])).set d (Lm.getD a [])).map vec = ((Lm.map vec).set a (L.rowAt (Lm.map vec) d)).set d (L.rowAt (Lm.map vec) a) := by
  rw [List.map_set, List.map_set, rowAt_vec, rowAt_vec]
 rw [← e1] at he
 have hk : ∀ W' : World, (∀ j, j ≠ g → W'.heap[j]? = W.heap[j]?) → ∀ i, i < n → Bs W' (us.getD i undef) (Lm.getD i []) ∧ Rb w0.heap.size W' (us.getD i undef) := fun W' hW i hi =>
  Rb.kept (h.row i hi).1 (h.row i hi).2 (row := some g) (fun j _ hne => hW j (fun e => hne (by rw [e]))) (fun g' e => by cases e; exact ownsRow_not_bytes h.own g rfl)
 obtain ⟨h1, h2⟩ := Rws.set h.own h.len h.row a ha2 (h.row d hd2).1 (h.row d hd2).2
 have hka := hk (W.setCell ⟨g, a, none⟩ (us.getD d undef)) (fun j hj => heap_setCell_other _ _ _ _ hj) a ha2
 obtain ⟨h3, h4⟩ := Rws.set (L := Lm.set a (Lm.getD d [])) h1 (by rw [List.length_set]; exact h.len) h2 d hd2 hka.1 hka.2
 have wa := h.wide.at a (by rw [h.len]; exact ha2)
 have wd := h.wide.at d (by rw [h.len]; exact hd2)
 exact ⟨h3, h4, by rw [List.length_set, List.length_set]; exact h.len, (h.wide.set a wd.1 wd.2).set d wa.1 wa.2, he, Gr.setCell (Gr.setCell h.gr h.base _) h.base _⟩
theorem Mx.out (h : Mx w0 W g n c k A Lm ps k us) : Rws w0.heap.size W (.slice (some ⟨g, 0, none⟩) ps.length c) (Lm.take ps.length) ∧ Gr w0 W ∧ IsRed k A (Lm.take ps.length) := by
 have hdn : ps.length ≤ n := by have := h.ech.le; rwa [List.length_map, h.len] at this
 have hlen : (Lm.take ps.length).length = ps.length := by rw [List.length_take, h.len]; omega
 refine ⟨⟨us.take ps.length, ?_, fun i hi => ?_⟩, h.gr, h.wide.take _, ps, hlen.symm, ?_⟩
 ·obtain ⟨h0, ⟨he, _⟩ | ⟨g', c', cur, he, hb, hg, h1, h2, h3, h4⟩⟩ := h.own
  ·cases he
  ·cases he
   refine ⟨by rw [List.length_take, hlen]; omega, .inr ⟨g, c, cur, by rw [hlen], hb, hg, by omega, h2, h3, ?_⟩⟩
   rw [← h4, hlen, List.take_take, Nat.mul_one, Nat.mul_one, Nat.min_eq_left hdn]
 ·rw [hlen] at hi
  rw [List.getD_eq_getElem?_getD, List.getD_eq_getElem?_getD, List.getElem?_take_of_lt hi, List.getElem?_take_of_lt hi, ← List.getD_eq_getElem?_getD, ← List.getD_eq_getElem?_getD]
  exact h.row i (by omega)
 ·have := (h.ech.done h.wide.supp).1
  rwa [← List.map_take] at this
theorem Mx.scaled {u : Value} {z : Int} (h : Mx w0 W g n c k A Lm ps col us) (d : Nat) (hd : ps.length ≤ d) (hd2 : d < n) (hz : Byt z) (hz0 : z ≠ 0) (hb : Bs W u (scaleL z (Lm.getD d []))) (hrb : Rb w0.heap.size W u) :
  Mx w0 (W.setCell ⟨g, d, none⟩ u) g n c k A (Lm.set d (scaleL z (Lm.getD d []))) ps col (us.set d u) := by
 have wd := h.wide.at d (by rw [h.len]; exact hd2)
 refine h.put d hd2 hb hrb (by rw [scaleL_length]; exact wd.1) ?_
 rw [List.map_set, vec_scale hz wd.2, ← rowAt_vec]
 exact h.ech.scale hd (by rw [List.length_map, h.len]; exact hd2) (fb_ne hz hz0)
theorem Mx.added {u : Value} {z : Int} (h : Mx w0 W g n c k A Lm ps col us) (i d : Nat) (hd : ps.length ≤ d) (hd2 : d < n) (hi : i < n) (hne : i ≠ d) (hz : Byt z) (hb : Bs W u (axL z (Lm.getD d []) (Lm.getD i []))) (hrb : Rb w0.heap.size W u) :
  Mx w0 (W.setCell ⟨g, i, none⟩ u) g n c k A (Lm.set i (axL z (Lm.getD d []) (Lm.getD i []))) ps col (us.set i u) := by
 have wd := h.wide.at d (by rw [h.len]; exact hd2)
 have wi := h.wide.at i (by rw [h.len]; exact hi)
 refine h.put i hi hb hrb (by rw [axL_length]; exact wd.1) ?_
 rw [List.map_set, vec_ax hz wd.2 wi.2 (by rw [wd.1, wi.1]), ← rowAt_vec, ← rowAt_vec]
 exact h.ech.add hd hne (by rw [List.length_map, h.len]; exact hi)
end
theorem inv_mulZ {z : Int} (hz : Byt z) (h0 : z ≠ 0) : mulZ (invZ z) z = 1 := by
 unfold Byt at hz
 unfold mulZ invZ
 rw [Int.toNat_natCast, M.mulN_comm, M.mulN_inv _ (by omega) (by omega)]
 rfl
theorem invZ_ne {z : Int} (hz : Byt z) (h0 : z ≠ 0) : invZ z ≠ 0 := by
 unfold Byt at hz
 unfold invZ
 have := M.invN_ne z.toNat (by omega)
 omega
theorem getD_set_self (L : List (List Int)) (i : Nat) (l : List Int) (h : i < L.length) : (L.set i l).getD i [] = l := by
 rw [List.getD_eq_getElem?_getD, List.getElem?_set_self h]
 rfl
theorem getD_set_ne (L : List (List Int)) (i j : Nat) (l : List Int) (h : i ≠ j) : (L.set i l).getD j [] = L.getD j [] := by
 rw [List.getD_eq_getElem?_getD, List.getElem?_set_ne h, ← List.getD_eq_getElem?_getD]
theorem frozen_grown {w w' : World} (hg : Gr w w') {a : Addr} {x : Value} (h : w.cell? a = some x) (hf : w.frozen? a = false) : w'.frozen? a = false := by
 rw [World.frozen?_of_block (hg.2.2.2.2 _ (World.block_lt_of_cell? w _ h))]
 exact hf
theorem New.form3 {w w' : World} {v : Value} {l : List Int} (h : New w w' v l) : ∃ o m c, v = .slice o m c := by
 obtain ⟨o, c, h⟩ := (New.bs h).form
 exact ⟨o, _, c, h⟩
theorem New.of_row {w w' : World} {v : Value} {l : List Int} (hg : Gr w w') (hb : ∀ x ∈ l, Byt x) (h : w'.ownsRow w.heap.size 5 1 v l.length (l.map (Value.int .u8))) : New w w' v l := by
 by_cases h0 : 0 < l.length
 ·obtain ⟨gg, cap, rfl, _, _⟩ := h.form h0
  exact (New.of_owns hg hb h).2
 ·obtain rfl : l = [] := List.eq_nil_of_length_eq_zero (by omega)
  refine ⟨hg, by simp, .inl ⟨rfl, ?_⟩⟩
  obtain ⟨_, ⟨rfl, _⟩ | ⟨g, c, cur, rfl, _, _, _, h2, _⟩⟩ := h
  ·exact ⟨none, 0, rfl, fun _ => rfl, by omega⟩
  ·exact ⟨_, c, rfl, (fun h => by cases h), by unfold maxLen at h2; omega⟩
end Go.Proofs.YtbbglejdfbkjlaaGreat
namespace Go.Proofs.YtbbglejdfbkjlaaGreat
open Go.RowKit
theorem Rws.more {base n : Nat} {w0 wo wr w4 : World} {v v' u : Value} {us : List Value} {L : List (List Int)} {l : List Int} (hL : L.length = n) (ho : wo.ownsRow base 25 1 v n us)
  (hr : ∀ i, i < n → Bs wo (us.getD i undef) (L.getD i []) ∧ Rb base wo (us.getD i undef)) (hb : Bs wr u l) (hrb : Rb base wr u) (hg : Gr wo wr) (hown : w4.ownsRow base 25 1 v' (n + 1) (us ++ [u]))
  (hgrow : (wr.alloc (.cells #[u] 25)).grownBy w4 v.ownBlock) (h0 : Gr w0 wo) (hw : w0.heap.size ≤ base) : Rws base w4 v' (L ++ [l]) ∧ Gr w0 w4 := by
 subst hL
 have hg1 : Gr wo (wr.alloc (.cells #[u] 25)) := Gr.alloc hg _ _
 have hg2 : Gr wr (wr.alloc (.cells #[u] 25)) := Gr.alloc (Gr.refl _) _ _
 have hnb := Rb.gr hb hrb hg2
 exact ⟨Rws.append ((ho.of_gr hg).alloc _) (fun i hi => Rb.gr (hr i hi).1 (hr i hi).2 hg1) hnb.1 hnb.2 hown hgrow,
   Gr.append (Gr.trans h0 hg1) hgrow fun k hk => Nat.le_trans hw (ownsRow_base ho k hk)⟩
theorem infoB : (Tryz.prog.info? 5).map (fun i => (i.zero, i.size, i.bytes)) = some (some (.int .u8 0), 1, 1) := by kernel_rfl
theorem Bss.take {w : World} {oa : Option Addr} {m c : Nat} {X : List (List Int)} (h : Bss w (.slice oa m c) X) (hm : X.length = m) (n : Nat) (hn : n ≤ m) : Bss w (.slice oa n c) (X.take n) := by
 obtain ⟨oa', c', he, h2, h3, h4, h5⟩ := h
 obtain ⟨rfl, _, rfl⟩ : oa = oa' ∧ m = X.length ∧ c = c' := by simpa using he
 have hl : (X.take n).length = n := by rw [List.length_take]; omega
 refine ⟨oa, c, by rw [hl], by rw [hl]; omega, h3, h4, fun a ha i hi => ?_⟩
 rw [hl] at hi
 obtain ⟨u, h6, h7⟩ := h5 a ha i (by omega)
 refine ⟨u, h6, ?_⟩
 rw [List.getD_eq_getElem?_getD, List.getElem?_take_of_lt hi, ← List.getD_eq_getElem?_getD]
 exact h7
end Go.Proofs.YtbbglejdfbkjlaaGreat
namespace Go.Proofs.YtbbglejdfbkjlaaGreat
open Go.RowKit
namespace L
/-! ### Unit rows -/
/-! ### Powers of unlike things, side by side -/
end L
/-! ### The rows ahead -/
def aheadF (K h : Nat) : Nat → Int := fun j => if j < K then expZ (((h + 1) * (j + 1) : Nat) : Int) else if j = K + h then 1 else 0
def aheadRow (K H h : Nat) : List Int := lst (K + H) (aheadF K h)
def ahead (K H : Nat) : List (List Int) := (List.range H).map (aheadRow K H)
theorem aheadF_byt (K h j : Nat) : Byt (aheadF K h j) := by
 unfold aheadF
 split
 ·exact expZ_byt _
 ·split <;> (unfold Byt; omega)
theorem aheadRow_length (K H h : Nat) : (aheadRow K H h).length = K + H := lst_length _ _
theorem ahead_length (K H : Nat) : (ahead K H).length = H := by simp [ahead]
theorem ahead_wide (K H : Nat) : Wide (K + H) (ahead K H) := fun r hr => by
 obtain ⟨h, _, rfl⟩ := List.mem_map.1 hr
 exact ⟨aheadRow_length K H h, lst_byt fun i _ => aheadF_byt K h i⟩
end Go.Proofs.YtbbglejdfbkjlaaGreat
namespace Go.Proofs.YtbbglejdfbkjlaaGreat
open Go.RowKit
abbrev par (K H S : Int) : Value := .agg #[.int .i64 K, .int .i64 H, .int .i64 S]
def MayP (K H S : Int) : Prop := 1 ≤ K ∧ K ≤ 16 ∧ 1 ≤ H ∧ H ≤ 4 ∧ 1 ≤ S ∧ S ≤ 24
instance (K H S : Int) : Decidable (MayP K H S) := by unfold MayP; exact inferInstance
def colsP (K H S : Int) : Int := if MayP K H S then K + H else 0
def aheadP (K H S : Int) : List (List Int) := if MayP K H S then ahead K.toNat H.toNat else []
set_option maxHeartbeats 400000 in
theorem refMay_any (K H S : Int) (w : World) :
  Calls Tryz.prog 39 #[par K H S] w fun e w' => e = .returned (.bool (decide (MayP K H S))) ∧ Gr w w' := by
 go_enter Tryz.func39, Tryz.ntmps39
 go_wp2
 all_goals
  go_ret
  refine ⟨?_, Gr.alloc (Gr.refl _) _ _⟩
  first
   | (rw [show decide (MayP K H S) = false from decide_eq_false (by unfold MayP; omega)]; rfl)
   | (rw [show decide (MayP K H S) = decide (S ≤ 24) from by rw [decide_eq_decide]; unfold MayP; omega]; rfl)
def Par (w : World) (g : Nat) (K H S : Int) : Prop := w.heap[g]? = some (.cells #[.int .i64 K, .int .i64 H, .int .i64 S] 23 (0, 0))
theorem Par.grown {w w' : World} {g : Nat} {K H S : Int} (h : Par w g K H S) (hg : Gr w w') : Par w' g K H S := keptRow hg h
theorem Par.cell0 {w : World} {g : Nat} {K H S : Int} (h : Par w g K H S) : w.cell? ⟨g, 0, none⟩ = some (.int .i64 K) := by rw [cell_of_row w g 0 _ _ _ h]; rfl
theorem Par.cell1 {w : World} {g : Nat} {K H S : Int} (h : Par w g K H S) : w.cell? ⟨g, 1, none⟩ = some (.int .i64 H) := by rw [cell_of_row w g 1 _ _ _ h]; rfl
theorem Par.cell2 {w : World} {g : Nat} {K H S : Int} (h : Par w g K H S) : w.cell? ⟨g, 2, none⟩ = some (.int .i64 S) := by rw [cell_of_row w g 2 _ _ _ h]; rfl
set_option maxHeartbeats 400000 in
theorem refCols_any (K H S : Int) (w : World) :
  Calls Tryz.prog 82 #[par K H S] w fun e w' => e = .returned (.int .i64 (colsP K H S)) ∧ Gr w w' := by
 unfold colsP
 by_cases hm : MayP K H S
 ·have hd := decide_eq_true hm
  have HM := Lib.hid hm
  rw [if_pos hm]
  have hk : -9223372036854775808 ≤ K + H ∧ K + H ≤ 9223372036854775807 := by have := hm; unfold MayP at this; omega
  have hwr : IntKind.i64.wrap (K + H) = K + H := by have := hk; simp [IntKind.wrap, IntKind.bits, IntKind.signed]; omega
  clear hm
  go_enter Tryz.func82, Tryz.ntmps82
  go_wp2_with fail
  refine (refMay_any K H S _).mono ?_
  rw [hd]
  rintro e w1 ⟨rfl, hg⟩
  have P1 : Par w1 w.heap.size K H S := Par.grown (heap_alloc_new w _) hg
  have c0 := P1.cell0
  have c1 := P1.cell1
  have G1 := Lib.hid (Gr.trans (Gr.alloc (Gr.refl w) _ _) hg)
  clear hg P1
  go_wp2_with fail
  go_ret
  exact ⟨rfl, G1.out⟩
 ·have hd := decide_eq_false hm
  rw [if_neg hm]
  clear hm
  go_enter Tryz.func82, Tryz.ntmps82
  go_wp2_with fail
  refine (refMay_any K H S _).mono ?_
  rw [hd]
  rintro e w1 ⟨rfl, hg⟩
  have G1 := Lib.hid (Gr.trans (Gr.alloc (Gr.refl w) _ _) hg)
  clear hg
  go_wp2_with fail
  go_ret
  exact ⟨rfl, G1.out⟩
set_option maxHeartbeats 400000 in
theorem params_any (a b c : Int) (w : World) :
  Calls Tryz.prog 10 #[.int .i64 a, .int .i64 b, .int .i64 c] w fun e w' => e = .returned (par (1 + a % 16) (1 + b % 4) (1 + c % 24)) ∧ Gr w w' := by
 obtain ⟨x, hx, hx2⟩ : ∃ x : Nat, a % 16 = x ∧ x < 16 := ⟨(a % 16).toNat, by omega, by omega⟩
 obtain ⟨y, hy, hy2⟩ : ∃ x : Nat, b % 4 = x ∧ x < 4 := ⟨(b % 4).toNat, by omega, by omega⟩
 obtain ⟨z, hz, hz2⟩ : ∃ x : Nat, c % 24 = x ∧ x < 24 := ⟨(c % 24).toNat, by omega, by omega⟩
 have HX := Lib.hid hx
 have HY := Lib.hid hy
 have HZ := Lib.hid hz
 rw [hx, hy, hz]
 clear hx hy hz
 go_enter Tryz.func10, Tryz.ntmps10
 go_wp2_with fail
 refine (within_any a 16 (by omega) (by omega) _).mono ?_
 rintro e w' ⟨rfl, rfl⟩
 rw [HX.out]
 go_wp2_with fail
 refine (within_any b 4 (by omega) (by omega) _).mono ?_
 rintro e w' ⟨rfl, rfl⟩
 rw [HY.out]
 go_wp2_with fail
 refine (within_any c 24 (by omega) (by omega) _).mono ?_
 rintro e w' ⟨rfl, rfl⟩
 rw [HZ.out]
 go_wp2_with fail
 exact bodyPost_ret_by (results_cell_row rfl _ _ w.heap.size 23 _ (0, 0) _ rfl (heap_alloc_new _ _) Tryz.underlying23 rfl (by kernel_rfl)) rfl ⟨rfl, Gr.alloc (Gr.refl _) _ _⟩
end Go.Proofs.YtbbglejdfbkjlaaGreat
namespace Go.Proofs.YtbbglejdfbkjlaaGreat
open Go.RowKit
def blkOf : Value → Option Nat
 | .slice (some a) _ _ => some a.block
 | _ => none
end Go.Proofs.YtbbglejdfbkjlaaGreat
