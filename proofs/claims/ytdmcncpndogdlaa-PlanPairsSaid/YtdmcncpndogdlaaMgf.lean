/-
  Texts laid behind one another: Lec Vec Lsq Mk Mx Ms Pv.
-/
import Derived.Test.YtdmcncpndogdlaaMge
import Derived.Test.YtdmcncpndogdlaaMgb
namespace Go.Proofs.Ytdmcncpndogdlaa.L

/-- X is what A has become behind col columns; ps: where its first rows begin. -/
structure Ech (A X : List V) (ps : List Nat) (c : Nat) : Prop where
  same : Same X A
  psort : ps.Pairwise (· < ·)
  plt : ∀ p ∈ ps, p < c
  lead : ∀ t p, ps[t]? = some p → rowAt X t p = one
  ahead : ∀ t p, ps[t]? = some p → ∀ j, j < p → rowAt X t j = zero
  apart : ∀ t p, ps[t]? = some p → ∀ s, s ≠ t → rowAt X s p = zero
  rest : ∀ s, ps.length ≤ s → ∀ j, j < c → rowAt X s j = zero
  le : ps.length ≤ X.length
theorem Ech.start (A : List V) : Ech A A [] 0 :=
  ⟨Same.refl A, List.Pairwise.nil, by simp, by simp, by simp, by simp, fun _ _ j hj => absurd hj (Nat.not_lt_zero _), Nat.zero_le _⟩
/-- Nothing is found. -/
theorem Ech.skip {A X : List V} {ps : List Nat} {c : Nat} (h : Ech A X ps c) (h0 : ∀ s, ps.length ≤ s → rowAt X s c = zero) : Ech A X ps (c + 1) :=
  ⟨h.same, h.psort, fun p hp => Nat.lt_succ_of_lt (h.plt p hp), h.lead, h.ahead, h.apart, fun s hs j hj => by
    rcases Nat.lt_succ_iff_lt_or_eq.1 hj with e | rfl
    · exact h.rest s hs j e
    · exact h0 s hs, h.le⟩
theorem rowAt_set (X : List V) (i : Nat) (v : V) (s : Nat) : rowAt (X.set i v) s = if i = s ∧ s < X.length then v else rowAt X s := by
  unfold rowAt
  rw [List.getElem?_set]
  by_cases e : i = s
  · subst e
    by_cases h : i < X.length
    · simp [h]
    · simp [h]
  · simp [e]
theorem mem_rowAt {X : List V} {x : V} (h : x ∈ X) : ∃ i, i < X.length ∧ rowAt X i = x := by
  obtain ⟨i, hi, rfl⟩ := List.getElem_of_mem h
  exact ⟨i, hi, by unfold rowAt; rw [List.getElem?_eq_getElem hi]; rfl⟩
theorem Sp.rowAt (X : List V) (i : Nat) : Sp X (L.rowAt X i) := by
  by_cases h : i < X.length
  · exact Sp.mem (rowAt_mem h)
  · rw [rowAt_out (by omega)]
    exact Sp.zero
theorem lt_ps {ps : List Nat} {t p : Nat} (h : ps[t]? = some p) : t < ps.length := (List.getElem?_eq_some_iff.1 h).1
/-- Two rows behind the first ones change places. -/
theorem Ech.swap {A X : List V} {ps : List Nat} {c a d : Nat} (h : Ech A X ps c) (ha : ps.length ≤ a) (ha2 : a < X.length) (hd : ps.length ≤ d) (hd2 : d < X.length) :
    Ech A ((X.set a (rowAt X d)).set d (rowAt X a)) ps c := by
  have key : ∀ s, ∃ s', rowAt ((X.set a (rowAt X d)).set d (rowAt X a)) s = rowAt X s' ∧ (s < ps.length → s' = s) ∧ (ps.length ≤ s → ps.length ≤ s') := by
    intro s
    rw [rowAt_set, rowAt_set, List.length_set]
    by_cases e : d = s ∧ s < X.length
    · rw [if_pos e]
      exact ⟨a, rfl, fun c => by omega, fun _ => ha⟩
    · rw [if_neg e]
      by_cases e2 : a = s ∧ s < X.length
      · rw [if_pos e2]
        exact ⟨d, rfl, fun c => by omega, fun _ => hd⟩
      · rw [if_neg e2]
        exact ⟨s, rfl, fun _ => rfl, fun h => h⟩
  have hsame : Same ((X.set a (rowAt X d)).set d (rowAt X a)) X := by
    refine Same.of (fun x hx => ?_) fun x hx => ?_
    · obtain ⟨s, -, rfl⟩ := mem_rowAt hx
      obtain ⟨s', e, -⟩ := key s
      rw [e]
      exact Sp.rowAt X s'
    · obtain ⟨s, hs, rfl⟩ := mem_rowAt hx
      by_cases e : s = a
      · subst e
        have := Sp.rowAt ((X.set s (rowAt X d)).set d (rowAt X s)) d
        rwa [rowAt_set, List.length_set, if_pos ⟨rfl, hd2⟩] at this
      · by_cases e2 : s = d
        · subst e2
          have := Sp.rowAt ((X.set a (rowAt X s)).set s (rowAt X a)) a
          rw [rowAt_set, List.length_set, if_neg (fun c => e c.1), rowAt_set, if_pos ⟨rfl, ha2⟩] at this
          exact this
        · have := Sp.rowAt ((X.set a (rowAt X d)).set d (rowAt X a)) s
          rw [rowAt_set, List.length_set, if_neg (fun c => e2 c.1.symm), rowAt_set, if_neg (fun c => e c.1.symm)] at this
          exact this
  refine ⟨hsame.trans h.same, h.psort, h.plt, fun t p hp => ?_, fun t p hp j hj => ?_, fun t p hp s hs => ?_, fun s hs j hj => ?_, by simp; exact h.le⟩
  · obtain ⟨s', e, h1, -⟩ := key t
    rw [e, h1 (lt_ps hp)]
    exact h.lead t p hp
  · obtain ⟨s', e, h1, -⟩ := key t
    rw [e, h1 (lt_ps hp)]
    exact h.ahead t p hp j hj
  · obtain ⟨s', e, h1, h2⟩ := key s
    rw [e]
    refine h.apart t p hp s' fun c => ?_
    have := lt_ps hp
    by_cases c2 : s < ps.length
    · rw [h1 c2] at c
      exact hs c
    · have := h2 (by omega)
      omega
  · obtain ⟨s', e, -, h2⟩ := key s
    rw [e]
    exact h.rest s' (h2 hs) j hj
/-- One row, times what is not 0. -/
theorem Ech.scale {A X : List V} {ps : List Nat} {c d : Nat} {k : Fb} (h : Ech A X ps c) (hd : ps.length ≤ d) (hd2 : d < X.length) (hk : k ≠ zero) :
    Ech A (X.set d (smul k (rowAt X d))) ps c := by
  have other : ∀ s, s ≠ d → rowAt (X.set d (smul k (rowAt X d))) s = rowAt X s := fun s hs => by rw [rowAt_set, if_neg (fun c => hs c.1.symm)]
  have this' : rowAt (X.set d (smul k (rowAt X d))) d = smul k (rowAt X d) := by rw [rowAt_set, if_pos ⟨rfl, hd2⟩]
  have zero_at : ∀ s j, rowAt X s j = zero → rowAt (X.set d (smul k (rowAt X d))) s j = zero := by
    intro s j h0
    by_cases e : s = d
    · subst e
      rw [this']
      show mul k (rowAt X s j) = zero
      rw [h0, mul_zero]
    · rw [other s e, h0]
  have hsame : Same (X.set d (smul k (rowAt X d))) X := by
    refine Same.of (fun x hx => ?_) fun x hx => ?_
    · obtain ⟨s, -, rfl⟩ := mem_rowAt hx
      by_cases e : s = d
      · subst e
        rw [this']
        exact Sp.smul k (Sp.rowAt X s)
      · rw [other s e]
        exact Sp.rowAt X s
    · obtain ⟨s, hs, rfl⟩ := mem_rowAt hx
      by_cases e : s = d
      · subst e
        have := Sp.smul (inv k) (Sp.rowAt (X.set s (smul k (rowAt X s))) s)
        rwa [this', smul_smul, inv_mul k hk, one_smul] at this
      · have := Sp.rowAt (X.set d (smul k (rowAt X d))) s
        rwa [other s e] at this
  refine ⟨hsame.trans h.same, h.psort, h.plt, fun t p hp => ?_, fun t p hp j hj => zero_at _ _ (h.ahead t p hp j hj), fun t p hp s hs => zero_at _ _ (h.apart t p hp s hs), fun s hs j hj => zero_at _ _ (h.rest s hs j hj), by simp; exact h.le⟩
  rw [other t (by have := lt_ps hp; omega)]
  exact h.lead t p hp
/-- One row, plus another one that begins behind, times something. -/
theorem Ech.add {A X : List V} {ps : List Nat} {c d i : Nat} {k : Fb} (h : Ech A X ps c) (hd : ps.length ≤ d) (hi : i ≠ d) (hi2 : i < X.length) :
    Ech A (X.set i (vadd (rowAt X i) (smul k (rowAt X d)))) ps c := by
  have other : ∀ s, s ≠ i → rowAt (X.set i (vadd (rowAt X i) (smul k (rowAt X d)))) s = rowAt X s := fun s hs => by rw [rowAt_set, if_neg (fun c => hs c.1.symm)]
  have this' : rowAt (X.set i (vadd (rowAt X i) (smul k (rowAt X d)))) i = vadd (rowAt X i) (smul k (rowAt X d)) := by rw [rowAt_set, if_pos ⟨rfl, hi2⟩]
  have as_was : ∀ s j, rowAt X d j = zero → rowAt (X.set i (vadd (rowAt X i) (smul k (rowAt X d)))) s j = rowAt X s j := by
    intro s j h0
    by_cases e : s = i
    · subst e
      rw [this']
      show L.add (rowAt X s j) (mul k (rowAt X d j)) = _
      rw [h0, mul_zero, add_zero]
    · rw [other s e]
  have hsame : Same (X.set i (vadd (rowAt X i) (smul k (rowAt X d)))) X := by
    refine Same.of (fun x hx => ?_) fun x hx => ?_
    · obtain ⟨s, -, rfl⟩ := mem_rowAt hx
      by_cases e : s = i
      · subst e
        rw [this']
        exact Sp.add (Sp.rowAt X s) (Sp.smul k (Sp.rowAt X d))
      · rw [other s e]
        exact Sp.rowAt X s
    · obtain ⟨s, hs, rfl⟩ := mem_rowAt hx
      by_cases e : s = i
      · subst e
        have h1 := Sp.rowAt (X.set s (vadd (rowAt X s) (smul k (rowAt X d)))) s
        have h2 := Sp.smul k (Sp.rowAt (X.set s (vadd (rowAt X s) (smul k (rowAt X d)))) d)
        rw [this'] at h1
        rw [other d (fun c => hi c.symm)] at h2
        have := Sp.add h1 h2
        rwa [vadd_assoc, vadd_self, vadd_zero] at this
      · have := Sp.rowAt (X.set i (vadd (rowAt X i) (smul k (rowAt X d)))) s
        rwa [other s e] at this
  have dz : ∀ t p, ps[t]? = some p → rowAt X d p = zero := fun t p hp => h.apart t p hp d (by have := lt_ps hp; omega)
  refine ⟨hsame.trans h.same, h.psort, h.plt, fun t p hp => ?_, fun t p hp j hj => ?_, fun t p hp s hs => ?_, fun s hs j hj => ?_, by simp; exact h.le⟩
  · rw [as_was t p (dz t p hp)]
    exact h.lead t p hp
  · have hpc := h.plt p (List.mem_of_getElem? hp)
    rw [as_was t j (h.rest d hd j (by omega))]
    exact h.ahead t p hp j hj
  · rw [as_was s p (dz t p hp)]
    exact h.apart t p hp s hs
  · rw [as_was s j (h.rest d hd j hj)]
    exact h.rest s hs j hj
/-- The column is done. -/
theorem Ech.next {A X : List V} {ps : List Nat} {c : Nat} (h : Ech A X ps c) (hl : ps.length < X.length) (h1 : rowAt X ps.length c = one) (h0 : ∀ s, s ≠ ps.length → rowAt X s c = zero) : Ech A X (ps ++ [c]) (c + 1) := by
  have get : ∀ t p, (ps ++ [c])[t]? = some p → ps[t]? = some p ∨ (t = ps.length ∧ p = c) := by
    intro t p hp
    by_cases e : t < ps.length
    · rw [List.getElem?_append_left e] at hp
      exact .inl hp
    · rw [List.getElem?_append_right (by omega)] at hp
      by_cases e2 : t = ps.length
      · subst e2
        simp at hp
        exact .inr ⟨rfl, hp.symm⟩
      · rw [List.getElem?_eq_none (by simp; omega)] at hp
        cases hp
  refine ⟨h.same, ?_, ?_, fun t p hp => ?_, fun t p hp j hj => ?_, fun t p hp s hs => ?_, fun s hs j hj => ?_, by simp; omega⟩
  · rw [List.pairwise_append]
    exact ⟨h.psort, by simp, fun a ha b hb => by simp at hb; subst hb; exact h.plt a ha⟩
  · intro p hp
    rcases List.mem_append.1 hp with hp | hp
    · exact Nat.lt_succ_of_lt (h.plt p hp)
    · simp at hp
      omega
  · rcases get t p hp with hp | ⟨rfl, rfl⟩
    · exact h.lead t p hp
    · exact h1
  · rcases get t p hp with hp | ⟨rfl, rfl⟩
    · exact h.ahead t p hp j hj
    · exact h.rest _ (Nat.le_refl _) j hj
  · rcases get t p hp with hp | ⟨rfl, rfl⟩
    · exact h.apart t p hp s hs
    · exact h0 s hs
  · rw [List.length_append, List.length_singleton] at hs
    rcases Nat.lt_succ_iff_lt_or_eq.1 hj with e | rfl
    · exact h.rest s (by omega) j e
    · exact h0 s (by omega)
/-- Behind the last column: the first rows are what A is reduced to. -/
theorem Ech.done {A X : List V} {ps : List Nat} {c : Nat} (h : Ech A X ps c) (hs : ∀ x ∈ X, Supp c x) : Red A (ps.zip (X.take ps.length)) ∧ rows (ps.zip (X.take ps.length)) = X.take ps.length := by
  have hlen : (X.take ps.length).length = ps.length := by rw [List.length_take]; have := h.le; omega
  have hrows : rows (ps.zip (X.take ps.length)) = X.take ps.length := by
    unfold rows
    exact List.map_snd_zip (by rw [hlen]; exact Nat.le_refl _)
  have get : ∀ p x, (p, x) ∈ ps.zip (X.take ps.length) → ∃ t, ps[t]? = some p ∧ rowAt X t = x := by
    intro p x hm
    obtain ⟨t, ht⟩ := List.getElem?_of_mem hm
    rw [List.getElem?_zip_eq_some] at ht
    refine ⟨t, ht.1, ?_⟩
    have hx := ht.2
    rw [List.getElem?_take_of_lt (lt_ps ht.1)] at hx
    unfold rowAt
    rw [hx]
    rfl
  have zrow : ∀ s, ps.length ≤ s → rowAt X s = vzero := by
    intro s hs'
    funext j
    by_cases e : j < c
    · exact h.rest s hs' j e
    · by_cases e2 : s < X.length
      · exact hs _ (rowAt_mem e2) j (by omega)
      · rw [rowAt_out (by omega)]
  refine ⟨⟨⟨?_, fun p x hm => ?_, fun p x hm k hk => ?_, fun p x q y hm hm' hne => ?_⟩, ?_⟩, hrows⟩
  · have : ((ps.zip (X.take ps.length)).map (·.1)).Pairwise (· < ·) := by
      rw [List.map_fst_zip (by rw [hlen]; exact Nat.le_refl _)]
      exact h.psort
    exact List.pairwise_map.1 this
  · obtain ⟨t, hp, rfl⟩ := get p x hm
    exact h.lead t p hp
  · obtain ⟨t, hp, rfl⟩ := get p x hm
    exact h.ahead t p hp k hk
  · obtain ⟨t, hp, rfl⟩ := get p x hm
    obtain ⟨t', hq, rfl⟩ := get q y hm'
    refine h.apart t' q hq t fun e => hne ?_
    subst e
    rw [hp] at hq
    exact Option.some.inj hq
  · rw [hrows]
    refine Same.trans (Same.of (fun x hx => Sp.mem (List.mem_of_mem_take hx)) fun x hx => ?_) h.same
    obtain ⟨s, hs', rfl⟩ := mem_rowAt hx
    by_cases e : s < ps.length
    · refine Sp.mem ?_
      have : (X.take ps.length)[s]? = some (rowAt X s) := by
        rw [List.getElem?_take_of_lt e]
        unfold rowAt
        rw [List.getElem?_eq_getElem hs']
        rfl
      exact List.mem_of_getElem? this
    · rw [zrow s (by omega)]
      exact Sp.zero
end Go.Proofs.Ytdmcncpndogdlaa.L
namespace Go.Proofs.Ytdmcncpndogdlaa
open Go.RowKit

def fb (z : Int) : L.Fb := ⟨z.toNat % 256, Nat.mod_lt _ (by decide)⟩
def vec (l : List Int) : L.V := fun i => fb (l.getD i 0)
theorem fb_zero : fb 0 = L.zero := rfl
theorem fb_one : fb 1 = L.one := rfl
theorem fb_inj {a b : Int} (ha : Byt a) (hb : Byt b) (h : fb a = fb b) : a = b := by
  unfold Byt at *
  have := congrArg L.Fb.n h
  simp only [fb] at this
  omega
theorem fb_add {a b : Int} (ha : Byt a) (hb : Byt b) : fb (addZ a b) = L.add (fb a) (fb b) := by
  unfold Byt at *
  apply L.Fb.ext
  simp only [fb, L.add, addZ, Int.toNat_natCast]
  rw [Nat.mod_eq_of_lt (show a.toNat < 256 by omega), Nat.mod_eq_of_lt (show b.toNat < 256 by omega)]
  exact Nat.mod_eq_of_lt (M.xor_lt (by omega) (by omega))
theorem fb_mul {a b : Int} (ha : Byt a) (hb : Byt b) : fb (mulZ a b) = L.mul (fb a) (fb b) := by
  unfold Byt at *
  apply L.Fb.ext
  simp only [fb, L.mul, mulZ, Int.toNat_natCast]
  rw [Nat.mod_eq_of_lt (show a.toNat < 256 by omega), Nat.mod_eq_of_lt (show b.toNat < 256 by omega)]
  exact Nat.mod_eq_of_lt (M.mulN_lt _ _)
theorem fb_inv {a : Int} (ha : Byt a) : fb (invZ a) = L.inv (fb a) := by
  unfold Byt at *
  apply L.Fb.ext
  simp only [fb, L.inv, invZ, Int.toNat_natCast]
  rw [Nat.mod_eq_of_lt (show a.toNat < 256 by omega)]
  exact Nat.mod_eq_of_lt (M.invN_lt _)
theorem fb_ne {a : Int} (ha : Byt a) (h : a ≠ 0) : fb a ≠ L.zero := fun c => h (fb_inj ha (by unfold Byt; omega) (by rw [c, fb_zero]))
theorem getD_byt {l : List Int} (h : ∀ x ∈ l, Byt x) (i : Nat) : Byt (l.getD i 0) := by
  by_cases hi : i < l.length
  · rw [List.getD_eq_getElem?_getD, List.getElem?_eq_getElem hi]
    exact h _ (List.getElem_mem hi)
  · rw [List.getD_eq_getElem?_getD, List.getElem?_eq_none (by omega)]
    unfold Byt
    simp
theorem getD_out {l : List Int} {i : Nat} (h : l.length ≤ i) : l.getD i 0 = 0 := by
  rw [List.getD_eq_getElem?_getD, List.getElem?_eq_none h]
  rfl
theorem vec_supp {l : List Int} {n : Nat} (h : l.length = n) : L.Supp n (vec l) := fun k hk => by
  show fb (l.getD k 0) = L.zero
  rw [getD_out (by omega), fb_zero]
theorem vec_nil : vec [] = L.vzero := rfl
theorem vec_inj {x y : List Int} (hl : x.length = y.length) (hx : ∀ z ∈ x, Byt z) (hy : ∀ z ∈ y, Byt z) (h : vec x = vec y) : x = y :=
  ext_getD hl fun i _ => fb_inj (getD_byt hx i) (getD_byt hy i) (congrFun h i)
theorem vec_scale {c : Int} {x : List Int} (hc : Byt c) (hx : ∀ z ∈ x, Byt z) : vec (scaleL c x) = L.smul (fb c) (vec x) := by
  funext i
  show fb ((scaleL c x).getD i 0) = L.mul (fb c) (fb (x.getD i 0))
  by_cases h : i < x.length
  · rw [scaleL_getD _ _ _ h, fb_mul hc (getD_byt hx i)]
  · rw [getD_out (by rw [scaleL_length]; omega), getD_out (l := x) (by omega), fb_zero, L.mul_zero]
theorem vec_ax {c : Int} {x y : List Int} (hc : Byt c) (hx : ∀ z ∈ x, Byt z) (hy : ∀ z ∈ y, Byt z) (hl : x.length = y.length) : vec (axL c x y) = L.vadd (vec y) (L.smul (fb c) (vec x)) := by
  funext i
  show fb ((axL c x y).getD i 0) = L.add (fb (y.getD i 0)) (L.mul (fb c) (fb (x.getD i 0)))
  by_cases h : i < x.length
  · rw [axL_getD _ _ _ _ h, fb_add (getD_byt hy i) (mulZ_byt _ _), fb_mul hc (getD_byt hx i)]
  · rw [getD_out (by rw [axL_length]; omega), getD_out (l := x) (by omega), getD_out (l := y) (by omega), fb_zero, L.mul_zero, L.add_zero]
theorem vec_sum {x y : List Int} (hx : ∀ z ∈ x, Byt z) (hy : ∀ z ∈ y, Byt z) (hl : x.length = y.length) : vec (sumL x y) = L.vadd (vec x) (vec y) := by
  funext i
  show fb ((sumL x y).getD i 0) = L.add (fb (x.getD i 0)) (fb (y.getD i 0))
  by_cases h : i < x.length
  · rw [sumL_getD _ _ _ h, fb_add (getD_byt hx i) (getD_byt hy i)]
  · rw [getD_out (by rw [sumL_length]; omega), getD_out (l := x) (by omega), getD_out (l := y) (by omega), fb_zero, L.add_zero]
theorem rowAt_vec (A : List (List Int)) (i : Nat) : L.rowAt (A.map vec) i = vec (A.getD i []) := by
  unfold L.rowAt
  rw [List.getElem?_map, List.getD_eq_getElem?_getD]
  cases A[i]? <;> rfl
theorem at_vec (A : List (List Int)) (i j : Nat) : L.rowAt (A.map vec) i j = fb ((A.getD i []).getD j 0) := by
  rw [rowAt_vec]
  rfl

/-- Rows of k bytes each. -/
def Wide (k : Nat) (A : List (List Int)) : Prop := ∀ r ∈ A, r.length = k ∧ ∀ x ∈ r, Byt x
theorem Wide.at {k : Nat} {A : List (List Int)} (h : Wide k A) (i : Nat) (hi : i < A.length) : (A.getD i []).length = k ∧ ∀ x ∈ A.getD i [], Byt x := by
  rw [List.getD_eq_getElem?_getD, List.getElem?_eq_getElem hi]
  exact h _ (List.getElem_mem hi)
theorem Wide.byt {k : Nat} {A : List (List Int)} (h : Wide k A) (i j : Nat) : Byt ((A.getD i []).getD j 0) := by
  by_cases hi : i < A.length
  · exact getD_byt (h.at i hi).2 j
  · have : A.getD i [] = [] := by
      rw [List.getD_eq_getElem?_getD, List.getElem?_eq_none (by omega)]
      rfl
    rw [this]
    unfold Byt
    simp
theorem Wide.set {k : Nat} {A : List (List Int)} (h : Wide k A) (i : Nat) {l : List Int} (hl : l.length = k) (hb : ∀ x ∈ l, Byt x) : Wide k (A.set i l) := by
  intro r hr
  rcases List.mem_or_eq_of_mem_set hr with hr | rfl
  · exact h r hr
  · exact ⟨hl, hb⟩
theorem Wide.take {k : Nat} {A : List (List Int)} (h : Wide k A) (n : Nat) : Wide k (A.take n) := fun r hr => h r (List.mem_of_mem_take hr)
theorem Wide.supp {k : Nat} {A : List (List Int)} (h : Wide k A) : ∀ x ∈ A.map vec, L.Supp k x := by
  intro x hx
  obtain ⟨r, hr, rfl⟩ := List.mem_map.1 hx
  exact vec_supp (h r hr).1
theorem Wide.of_may {A : List (List Int)} (h : mayL A = true) (hb : ∀ r ∈ A, ∀ x ∈ r, Byt x) : Wide ((A.getD 0 []).length) A := by
  intro r hr
  obtain ⟨i, hi, rfl⟩ := List.getElem_of_mem hr
  have := mayL_at h i hi
  rw [List.getD_eq_getElem?_getD, List.getElem?_eq_getElem hi] at this
  exact ⟨this.1, hb _ hr⟩
/-- R is what A, rows of k bytes, is reduced to. -/
def IsRed (k : Nat) (A R : List (List Int)) : Prop := Wide k R ∧ ∃ ps : List Nat, ps.length = R.length ∧ L.Red (A.map vec) (ps.zip (R.map vec))
theorem IsRed.rank {k : Nat} {A R : List (List Int)} (h : IsRed k A R) : L.rk (A.map vec) = R.length := by
  obtain ⟨_, ps, hl, hr⟩ := h
  rw [L.rk_eq hr, List.length_zip, List.length_map, hl, Nat.min_self]
theorem zip_snd {α β : Type} {a : List α} {b c : List β} (h : a.length = b.length) (e : a.zip b = a.zip c) (h2 : a.length = c.length) : b = c := by
  have := congrArg (List.map Prod.snd) e
  rwa [List.map_snd_zip (by omega), List.map_snd_zip (by omega)] at this
theorem map_vec_inj {k : Nat} : ∀ {R S : List (List Int)}, Wide k R → Wide k S → R.map vec = S.map vec → R = S
  | [], [], _, _, _ => rfl
  | [], s :: S, _, _, h => by simp at h
  | r :: R, [], _, _, h => by simp at h
  | r :: R, s :: S, hr, hs, h => by
    rw [List.map_cons, List.map_cons] at h
    obtain ⟨h1, h2⟩ := List.cons.inj h
    have e1 := hr r (by simp)
    have e2 := hs s (by simp)
    rw [vec_inj (by rw [e1.1, e2.1]) e1.2 e2.2 h1, map_vec_inj (fun x hx => hr x (by simp [hx])) (fun x hx => hs x (by simp [hx])) h2]
theorem IsRed.unique {k : Nat} {A R S : List (List Int)} (h : IsRed k A R) (h' : IsRed k A S) : R = S := by
  obtain ⟨hw, ps, hl, hr⟩ := h
  obtain ⟨hw', qs, hl', hr'⟩ := h'
  have e := L.rref_unique hr.1 hr'.1 (hr.2.trans hr'.2.symm)
  have e1 := congrArg (List.map Prod.snd) e
  rw [List.map_snd_zip (by simp [hl]), List.map_snd_zip (by simp [hl'])] at e1
  exact map_vec_inj hw hw' e1

/-- What a call of the document's answers hands back is new memory. -/
theorem Mine.new {w w' : World} {e : Ending} {l : List Int} (h : Mine w w' e l) (hb : ∀ x ∈ l, Byt x) (hn : l.length ≤ 9223372036854775807) : ∃ v, e = .returned v ∧ New w w' v l := by
  obtain ⟨g, he, hge, hk, hg⟩ := h
  exact ⟨_, he, hg, hb, .inr ⟨g, l.length, rowB l, rfl, hge, hk, Nat.le_refl _, hn, fun i hi => rowB_get l i hi⟩⟩
end Go.Proofs.Ytdmcncpndogdlaa
namespace Go.Proofs.Ytdmcncpndogdlaa.L

theorem lc_assoc (X : List V) : ∀ (A : List V) (c : V), lc (lc c A) X = lc c (mulM A X)
  | [], _ => lc_zero X
  | a :: A, c => by
    show lc (vadd (smul (c 0) a) (lc (fun i => c (i + 1)) A)) X = vadd (smul (c 0) (lc a X)) (lc (fun i => c (i + 1)) (mulM A X))
    rw [lc_add, lc_smul, lc_assoc X A]
theorem mulM_assoc (D A X : List V) : mulM (mulM D A) X = mulM D (mulM A X) := by
  unfold mulM
  rw [List.map_map]
  exact List.map_congr_left fun d _ => lc_assoc X A d
def idM (n : Nat) : List V := (List.range n).map unit
theorem idM_length (n : Nat) : (idM n).length = n := by simp [idM]
theorem idM_supp (n : Nat) : ∀ x ∈ idM n, Supp n x := by
  intro x hx
  obtain ⟨i, hi, rfl⟩ := List.mem_map.1 hx
  exact unit_supp (List.mem_range.1 hi)
theorem mulM_id_left {n : Nat} {X : List V} (h : X.length = n) : mulM (idM n) X = X := by
  unfold mulM idM
  rw [List.map_map]
  apply List.ext_getElem
  · simp [h]
  intro i h1 h2
  simp only [List.getElem_map, List.getElem_range, Function.comp]
  rw [lc_unit]
  unfold rowAt
  rw [List.getElem?_eq_getElem h2]
  rfl
theorem lc_range : ∀ (n s : Nat) (a : V) (k : Nat), lc a ((List.range' s n).map unit) k = if s ≤ k ∧ k < s + n then a (k - s) else zero
  | 0, s, a, k => by
    rw [if_neg (by omega)]
    rfl
  | n + 1, s, a, k => by
    show add (mul (a 0) (unit s k)) (lc (fun i => a (i + 1)) ((List.range' (s + 1) n).map unit) k) = _
    rw [lc_range n (s + 1)]
    unfold unit
    by_cases e : k = s
    · subst e
      rw [if_pos rfl, if_neg (by omega), if_pos (by omega), mul_one, add_zero, Nat.sub_self]
    · rw [if_neg e, mul_zero, zero_add]
      by_cases e2 : s + 1 ≤ k ∧ k < s + 1 + n
      · rw [if_pos e2, if_pos (by omega)]
        congr 1
        omega
      · rw [if_neg e2, if_neg (by omega)]
theorem lc_id {n : Nat} {a : V} (h : Supp n a) : lc a (idM n) = a := by
  unfold idM
  rw [List.range_eq_range']
  funext k
  rw [lc_range]
  by_cases e : k < n
  · rw [if_pos (by omega), Nat.sub_zero]
  · rw [if_neg (by omega), h k (by omega)]
theorem mulM_id_right {n : Nat} {A : List V} (h : ∀ x ∈ A, Supp n x) : mulM A (idM n) = A := by
  unfold mulM
  conv => rhs; rw [← List.map_id A]
  exact List.map_congr_left fun a ha => lc_id (h a ha)
theorem Sp.coeff {A : List V} {v : V} (h : Sp A v) : ∃ d, Supp A.length d ∧ L.lc d A = v := by
  induction h with
  | zero => exact ⟨vzero, Supp.zero _, lc_zero A⟩
  | step c x v hx _ ih =>
    obtain ⟨d, hd, rfl⟩ := ih
    obtain ⟨i, hi, rfl⟩ := mem_rowAt hx
    exact ⟨vadd (L.smul c (unit i)) d, Supp.add (Supp.smul c (unit_supp hi)) hd, by rw [lc_add, lc_smul, lc_unit]⟩
theorem coeffs {A : List V} : ∀ C : List V, (∀ x ∈ C, Sp A x) → ∃ D : List V, D.length = C.length ∧ (∀ x ∈ D, Supp A.length x) ∧ mulM D A = C
  | [], _ => ⟨[], rfl, by simp, rfl⟩
  | c :: C, h => by
    obtain ⟨D, h1, h2, h3⟩ := coeffs C fun x hx => h x (by simp [hx])
    obtain ⟨d, h4, h5⟩ := Sp.coeff (h c (by simp))
    refine ⟨d :: D, by simp [h1], fun x hx => ?_, ?_⟩
    · rcases List.mem_cons.1 hx with rfl | hx
      · exact h4
      · exact h2 x hx
    · show lc d A :: mulM D A = c :: C
      rw [h5, h3]
theorem rk_id (n : Nat) : rk (idM n) = n := by
  have h1 := rk_le_cols (idM_supp n)
  have h2 : rk (mulM (idM n) (idM n)) ≤ rk (idM n) := rk_mul_right (idM_supp n)
  obtain ⟨R, hr, e⟩ := red_exists (idM_supp n)
  -- every place is one where a row begins
  have h3 : n ≤ R.length := by
    have hp : ∀ i, i < n → ∃ x, (i, x) ∈ R := fun i hi => begins_at hr.1 ((hr.2 _).2 (Sp.mem (List.mem_map.2 ⟨i, List.mem_range.2 hi, rfl⟩))) ⟨by unfold unit; rw [if_pos rfl]; exact one_ne, fun j hj => by unfold unit; rw [if_neg (by omega)]⟩
    have := places_sub ((List.range n).map fun i => (i, vzero)) R (by
      rw [List.pairwise_map]
      exact List.pairwise_lt_range) hr.1.1 (fun a ha => by
      obtain ⟨i, hi, rfl⟩ := List.mem_map.1 ha
      obtain ⟨x, hx⟩ := hp i (List.mem_range.1 hi)
      exact ⟨_, hx, rfl⟩)
    simpa using this
  omega
/-- As many rows as columns, and all the rank: every right side has a solution. -/
theorem square {n m : Nat} {A C : List V} (hA : ∀ x ∈ A, Supp n x) (hl : A.length = n) (hr : rk A = n) (hC : C.length = n) (hs : ∀ x ∈ C, Supp m x) :
    ∃ X, X.length = n ∧ (∀ x ∈ X, Supp m x) ∧ mulM A X = C := by
  obtain ⟨D, h1, h2, h3⟩ := coeffs (A := A) (idM n) fun x hx => full_span hA hr (idM_supp n x hx)
  rw [idM_length] at h1
  rw [hl] at h2
  have hD : rk D = n := by
    have h4 := rk_le_cols h2
    have h5 : rk (mulM D A) ≤ rk D := rk_mul_left h2 hA
    rw [h3, rk_id] at h5
    omega
  have h6 : mulM A D = idM n := mul_unique h2 hD (by simp [mulM, hl]) (idM_length n) (by
    rw [← mulM_assoc, h3, mulM_id_left h1, mulM_id_right h2])
  exact ⟨mulM D C, by simp [mulM, h1], mulM_supp hs, by rw [← mulM_assoc, h6, mulM_id_left hC]⟩

/-- As long as not all the columns are found, and the rank is all, there is a next row that begins at the next column. -/
theorem Ech.pivot {A X : List V} {c n : Nat} (h : Ech A X (List.range c) c) (hA : ∀ x ∈ A, Supp n x) (hr : rk A = n) (hc : c < n) : ∃ s, c ≤ s ∧ s < X.length ∧ rowAt X s c ≠ zero := by
  apply Classical.byContradiction
  intro hno
  have h0 : ∀ s, c ≤ s → rowAt X s c = zero := fun s hs => Classical.byContradiction fun e => hno ⟨s, hs, by
    apply Classical.byContradiction
    intro e2
    apply e
    rw [rowAt_out (by omega)]
    rfl, e⟩
  have get : ∀ t, t < c → (List.range c)[t]? = some t := fun t ht => List.getElem?_range ht
  -- what vanishes on all rows vanishes on what they span
  let R : List (Nat × V) := (List.range c).map fun t => (t, rowAt X t)
  have hz : ∀ x ∈ X, left x R c = zero := by
    intro x hx
    obtain ⟨s, hs, rfl⟩ := mem_rowAt hx
    have hp : ∀ (T : List Nat), (∀ t ∈ T, t < c) → T.Nodup → pick (rowAt X s) (T.map fun t => (t, rowAt X t)) = if s ∈ T then rowAt X s else vzero := by
      intro T
      induction T with
      | nil => intro _ _; rfl
      | cons t T ih =>
        intro hT hn
        show vadd (smul (rowAt X s t) (rowAt X t)) (pick (rowAt X s) (T.map fun t => (t, rowAt X t))) = _
        rw [ih (fun u hu => hT u (by simp [hu])) (List.nodup_cons.1 hn).2]
        have ht : t < c := hT t (by simp)
        by_cases e : s = t
        · subst e
          rw [h.lead s s (get s ht), one_smul, if_neg (List.nodup_cons.1 hn).1, if_pos (by simp), vadd_zero]
        · rw [h.apart t t (get t ht) s e, zero_smul, vzero_add]
          by_cases e2 : s ∈ T
          · rw [if_pos e2, if_pos (by simp [e2])]
          · rw [if_neg e2, if_neg (by simp [e, e2])]
    have hp1 := hp (List.range c) (fun t ht => List.mem_range.1 ht) List.nodup_range
    show L.add (rowAt X s c) (pick (rowAt X s) R c) = zero
    rw [show pick (rowAt X s) R = _ from hp1]
    by_cases e : s < c
    · rw [if_pos (List.mem_range.2 e), add_self]
    · rw [if_neg (fun q => e (List.mem_range.1 q)), h0 s (by omega)]
      exact add_zero _
  have hall : ∀ v, Sp X v → left v R c = zero := by
    intro v hv
    induction hv with
    | zero =>
      have : pick vzero R = vzero := pick_none _ R fun _ _ _ => rfl
      show L.add zero (pick vzero R c) = zero
      rw [this]
      exact add_zero _
    | step k x v hx _ ih =>
      have hx' := hz x hx
      show L.add (L.add (mul k (x c)) (v c)) (pick (vadd (smul k x) v) R c) = zero
      rw [pick_add, pick_smul]
      show L.add (L.add (mul k (x c)) (v c)) (L.add (mul k (pick x R c)) (pick v R c)) = zero
      have e1 : L.add (x c) (pick x R c) = zero := hx'
      have e2 : L.add (v c) (pick v R c) = zero := ih
      rw [eq_of_add e1, eq_of_add e2]
      exact add_self _
  have hu := hall _ ((h.same _).2 (full_span hA hr (unit_supp hc)))
  have hpu : pick (unit c) R = vzero := pick_none _ R fun p x hp => by
    obtain ⟨t, ht, he⟩ := List.mem_map.1 hp
    have : t = p := congrArg Prod.fst he
    subst this
    unfold unit
    rw [if_neg (by have := List.mem_range.1 ht; omega)]
  have : L.add (unit c c) (pick (unit c) R c) = zero := hu
  rw [hpu] at this
  have h1 : unit c c = one := by unfold unit; rw [if_pos rfl]
  rw [h1] at this
  exact one_ne (eq_of_add this)

/-- M is what X asks to be Y. -/
def Sat (X Y M : List V) : Prop := ∀ i, i < X.length → lc (rowAt X i) M = rowAt Y i
theorem Sat.of_mul {A B M : List V} (hl : A.length = B.length) : mulM A M = B ↔ Sat A B M := by
  constructor
  · rintro rfl i hi
    unfold rowAt mulM
    rw [List.getElem?_map, List.getElem?_eq_getElem hi]
    rfl
  · intro h
    apply List.ext_getElem
    · simp [mulM, hl]
    intro i h1 h2
    have hi : i < A.length := by simpa [mulM] using h1
    have := h i hi
    unfold rowAt at this
    rw [List.getElem?_eq_getElem hi, List.getElem?_eq_getElem h2] at this
    simpa [mulM] using this
theorem Sat.swap {X Y M : List V} {a d : Nat} (hl : Y.length = X.length) (ha : a < X.length) (hd : d < X.length) :
    Sat ((X.set a (rowAt X d)).set d (rowAt X a)) ((Y.set a (rowAt Y d)).set d (rowAt Y a)) M ↔ Sat X Y M := by
  have hd2 : d < Y.length := by omega
  have ha2 : a < Y.length := by omega
  have gx : ∀ i, rowAt ((X.set a (rowAt X d)).set d (rowAt X a)) i = if i = d then rowAt X a else if i = a then rowAt X d else rowAt X i := fun i => by
    rw [rowAt_set, rowAt_set, List.length_set]
    by_cases e : d = i
    · subst e
      simp [hd]
    · have e' : ¬ i = d := fun c => e c.symm
      by_cases e2 : a = i
      · subst e2
        simp [ha, e, e']
      · have e2' : ¬ i = a := fun c => e2 c.symm
        simp [e, e', e2, e2']
  have gy : ∀ i, rowAt ((Y.set a (rowAt Y d)).set d (rowAt Y a)) i = if i = d then rowAt Y a else if i = a then rowAt Y d else rowAt Y i := fun i => by
    rw [rowAt_set, rowAt_set, List.length_set]
    by_cases e : d = i
    · subst e
      simp [hd2]
    · have e' : ¬ i = d := fun c => e c.symm
      by_cases e2 : a = i
      · subst e2
        simp [ha2, e, e']
      · have e2' : ¬ i = a := fun c => e2 c.symm
        simp [e, e', e2, e2']
  unfold Sat
  simp only [List.length_set, gx, gy]
  constructor
  · intro h i hi
    by_cases e : i = a
    · subst e
      have := h d hd
      rwa [if_pos rfl, if_pos rfl] at this
    · by_cases e2 : i = d
      · subst e2
        have := h a ha
        by_cases e3 : a = i
        · exact absurd e3.symm e
        · rwa [if_neg e3, if_neg e3, if_pos rfl, if_pos rfl] at this
      · have := h i hi
        rwa [if_neg e2, if_neg e2, if_neg e, if_neg e] at this
  · intro h i hi
    by_cases e : i = d
    · rw [if_pos e, if_pos e]; exact h a ha
    · rw [if_neg e, if_neg e]
      by_cases e2 : i = a
      · rw [if_pos e2, if_pos e2]; exact h d hd
      · rw [if_neg e2, if_neg e2]; exact h i hi
theorem Sat.scale {X Y M : List V} {d : Nat} {k : Fb} (hl : Y.length = X.length) (hd : d < X.length) (hk : k ≠ zero) :
    Sat (X.set d (smul k (rowAt X d))) (Y.set d (smul k (rowAt Y d))) M ↔ Sat X Y M := by
  have inj : ∀ u v : V, smul k u = smul k v → u = v := fun u v h => by
    have := congrArg (smul (inv k)) h
    rwa [smul_smul, smul_smul, inv_mul k hk, one_smul, one_smul] at this
  unfold Sat
  simp only [List.length_set, rowAt_set]
  constructor
  · intro h i hi
    have := h i hi
    by_cases e : d = i
    · subst e
      rw [if_pos ⟨rfl, hd⟩, if_pos ⟨rfl, by omega⟩, lc_smul] at this
      exact inj _ _ this
    · rwa [if_neg (fun c => e c.1), if_neg (fun c => e c.1)] at this
  · intro h i hi
    by_cases e : d = i
    · subst e
      rw [if_pos ⟨rfl, hd⟩, if_pos ⟨rfl, by omega⟩, lc_smul, h d hd]
    · rw [if_neg (fun c => e c.1), if_neg (fun c => e c.1)]
      exact h i hi
theorem Sat.add {X Y M : List V} {d i : Nat} {k : Fb} (hl : Y.length = X.length) (hd : d < X.length) (hi : i < X.length) (hne : i ≠ d) :
    Sat (X.set i (vadd (rowAt X i) (smul k (rowAt X d)))) (Y.set i (vadd (rowAt Y i) (smul k (rowAt Y d)))) M ↔ Sat X Y M := by
  have back : ∀ u v : V, vadd (vadd u v) v = u := fun u v => by rw [vadd_assoc, vadd_self, vadd_zero]
  unfold Sat
  simp only [List.length_set, rowAt_set]
  constructor
  · intro h j hj
    have hdd := h d hd
    rw [if_neg (fun c => hne c.1), if_neg (fun c => hne c.1)] at hdd
    have := h j hj
    by_cases e : i = j
    · subst e
      rw [if_pos ⟨rfl, hi⟩, if_pos ⟨rfl, by omega⟩, lc_add, lc_smul, hdd] at this
      have h2 := congrArg (fun u => vadd u (smul k (rowAt Y d))) this
      simpa only [back] using h2
    · rwa [if_neg (fun c => e c.1), if_neg (fun c => e c.1)] at this
  · intro h j hj
    by_cases e : i = j
    · subst e
      rw [if_pos ⟨rfl, hi⟩, if_pos ⟨rfl, by omega⟩, lc_add, lc_smul, h i hi, h d hd]
    · rw [if_neg (fun c => e c.1), if_neg (fun c => e c.1)]
      exact h j hj
/-- Behind the last column: what is asked is what stands in the first rows, and nothing in the others. -/
theorem Sat.done {A X Y M : List V} {n : Nat} (h : Ech A X (List.range n) n) (hs : ∀ x ∈ X, Supp n x) (hl : Y.length = X.length) (hM : M.length = n) :
    Sat X Y M ↔ M = Y.take n ∧ ∀ i, n ≤ i → i < Y.length → rowAt Y i = vzero := by
  have hle : n ≤ X.length := by have := h.le; simpa using this
  have get : ∀ t, t < n → (List.range n)[t]? = some t := fun t ht => List.getElem?_range ht
  have hu : ∀ i, i < n → rowAt X i = unit i := fun i hi => by
    funext j
    unfold unit
    by_cases e : j = i
    · subst e
      rw [if_pos rfl, h.lead j j (get j hi)]
    · rw [if_neg e]
      by_cases e2 : j < n
      · exact h.apart j j (get j e2) i (fun c => e c.symm)
      · exact hs _ (rowAt_mem (by omega)) j (by omega)
  have hz : ∀ i, n ≤ i → rowAt X i = vzero := fun i hi => by
    funext j
    by_cases e : j < n
    · exact h.rest i (by simpa using hi) j e
    · by_cases e2 : i < X.length
      · exact hs _ (rowAt_mem e2) j (by omega)
      · rw [rowAt_out (by omega)]
  constructor
  · intro hsat
    refine ⟨?_, fun i h1 h2 => ?_⟩
    · apply List.ext_getElem
      · rw [List.length_take, hM]; omega
      intro i h1 h2
      have hi : i < n := by omega
      have := hsat i (by omega)
      rw [hu i hi, lc_unit] at this
      unfold rowAt at this
      rw [List.getElem?_eq_getElem h1, List.getElem?_eq_getElem (by omega : i < Y.length)] at this
      rw [List.getElem_take]
      exact this
    · have := hsat i (by omega)
      rw [hz i h1, lc_zero] at this
      exact this.symm
  · rintro ⟨rfl, h0⟩ i hi
    by_cases e : i < n
    · rw [hu i e, lc_unit]
      unfold rowAt
      rw [List.getElem?_take_of_lt e]
    · rw [hz i (by omega), lc_zero, h0 i (by omega) (by omega)]
end Go.Proofs.Ytdmcncpndogdlaa.L
namespace Go.Proofs.Ytdmcncpndogdlaa
open Go.RowKit

theorem Bss.byt {w : World} {v : Value} {A : List (List Int)} (h : Bss w v A) : ∀ r ∈ A, ∀ x ∈ r, Byt x := by
  intro r hr
  obtain ⟨i, hi, rfl⟩ := List.getElem_of_mem hr
  obtain ⟨a, c, _, _, _, h3⟩ := Bss.at h (by omega)
  obtain ⟨u, _, hu⟩ := h3 i hi
  rw [List.getD_eq_getElem?_getD, List.getElem?_eq_getElem hi] at hu
  exact hu.1
/-- How many columns. -/
def wd (A : List (List Int)) : Nat := (A.getD 0 []).length
theorem wd_nil : wd [] = 0 := rfl
theorem Wide.of_bss {w : World} {v : Value} {A : List (List Int)} (h : Bss w v A) (hm : mayL A = true) : Wide (wd A) A := Wide.of_may hm h.byt
theorem Wide.may {k : Nat} {A : List (List Int)} (h : Wide k A) (hk : k ≤ 64) : mayL A = true := mayL_true fun i hi => by
  have h0 := (h.at i hi).1
  have h1 := (h.at 0 (by omega)).1
  omega
theorem Wide.wd {k : Nat} {A : List (List Int)} (h : Wide k A) (h0 : 0 < A.length) : wd A = k := (h.at 0 h0).1
theorem Wide.nil (k : Nat) : Wide k [] := fun r hr => by simp at hr
/-- The rank, as the algebra has it. -/
noncomputable def rkL (A : List (List Int)) : Nat := L.rk (A.map vec)
/-- out is a times x. -/
def IsMul (m : Nat) (A X out : List (List Int)) : Prop := Wide m out ∧ out.map vec = L.mulM (A.map vec) (X.map vec)
theorem IsMul.unique {m : Nat} {A X o o' : List (List Int)} (h : IsMul m A X o) (h' : IsMul m A X o') : o = o' := map_vec_inj h.1 h'.1 (by rw [h.2, h'.2])
theorem IsMul.length {m : Nat} {A X o : List (List Int)} (h : IsMul m A X o) : o.length = A.length := by
  have := congrArg List.length h.2
  simpa [L.mulM] using this
/-- What Solve answers. -/
def SolSays (A B : List (List Int)) (e : Int) (S : List (List Int)) : Prop :=
  (A = [] ∧ e = 1 ∧ S = []) ∨ (A ≠ [] ∧ rkL A < wd A ∧ e = 9 ∧ S = []) ∨
  (A ≠ [] ∧ rkL A = wd A ∧ e = 0 ∧ S.length = wd A ∧ IsMul (wd B) A S B ∧ Wide (wd B) S) ∨
  (A ≠ [] ∧ rkL A = wd A ∧ e = 10 ∧ S = [] ∧ ∀ M : List L.V, M.length = wd A → (∀ x ∈ M, L.Supp (wd B) x) → L.mulM (A.map vec) M ≠ B.map vec)
theorem SolSays.unique {A B S S' : List (List Int)} {e e' : Int} (hA : Wide (wd A) A) (h : SolSays A B e S) (h' : SolSays A B e' S') : e = e' ∧ S = S' := by
  rcases h with ⟨h0, h1, h2⟩ | ⟨h0, h1, h2, h3⟩ | ⟨h0, h1, h2, h3, h4, h5⟩ | ⟨h0, h1, h2, h3, h4⟩ <;>
  rcases h' with ⟨g0, g1, g2⟩ | ⟨g0, g1, g2, g3⟩ | ⟨g0, g1, g2, g3, g4, g5⟩ | ⟨g0, g1, g2, g3, g4⟩ <;>
  first
    | exact absurd h0 g0
    | exact absurd g0 h0
    | (exfalso; omega)
    | (subst_vars; exact ⟨rfl, rfl⟩)
    | skip
  · refine ⟨by rw [h2, g2], map_vec_inj h5 g5 (L.mul_unique hA.supp h1 (by simp [h3]) (by simp [g3]) ?_)⟩
    rw [← h4.2, ← g4.2]
  · exact absurd h4.2.symm (g4 _ (by simp [h3]) (h5.supp))
  · exact absurd g4.2.symm (h4 _ (by simp [g3]) (g5.supp))

/-- The contracts of package mat. -/
structure MatOk : Prop where
theorem bss_two {w : World} {g : Nat} {u v : Value} {x y : List Int} {t : TypeId} {fr : Nat × Nat} (h : w.heap[g]? = some (.cells #[u, v] t fr)) (hu : Bs w u x) (hv : Bs w v y) : Bss w (.slice (some ⟨g, 0, none⟩) 2 2) [x, y] :=
  ⟨some ⟨g, 0, none⟩, 2, rfl, by simp, by omega, (fun h => by cases h), fun a ha i hi => by
    cases ha
    rw [Addr.add_mid, Nat.zero_add]
    have : i = 0 ∨ i = 1 := by simp at hi; omega
    rcases this with rfl | rfl
    · exact ⟨u, by rw [cell_of_row w g 0 _ _ _ h]; rfl, hu⟩
    · exact ⟨v, by rw [cell_of_row w g 1 _ _ _ h]; rfl, hv⟩⟩
theorem rk_wake : rkL [[1, 1], [1, 1]] = 1 := by
  have h1 : Wide 2 [[1, 1], [1, 1]] := fun r hr => by
    simp at hr
    subst hr
    exact ⟨rfl, fun x hx => by simp at hx; subst hx; unfold Byt; omega⟩
  have hr : L.Rref [(0, vec [1, 1])] := ⟨List.pairwise_singleton _ _, fun p x h => by
      simp at h
      obtain ⟨rfl, rfl⟩ := h
      rfl, fun p x h k hk => by
      simp at h
      omega, fun p x q y h h' hne => by
      simp at h h'
      omega⟩
  have hs : L.Same (L.rows [(0, vec [1, 1])]) (([[1, 1], [1, 1]] : List (List Int)).map vec) := L.Same.of_mem fun x => by simp [L.rows]
  exact L.rk_eq ⟨hr, hs⟩
end Go.Proofs.Ytdmcncpndogdlaa
namespace Go.Proofs.Ytdmcncpndogdlaa
open Go.RowKit

section
variable {w0 W : World} {g n c k : Nat} {A Lm : List (List Int)} {ps : List Nat} {col : Nat} {us : List Value}
end
theorem inv_mulZ {z : Int} (hz : Byt z) (h0 : z ≠ 0) : mulZ (invZ z) z = 1 := by
  unfold Byt at hz
  unfold mulZ invZ
  rw [Int.toNat_natCast, M.mulN_comm, M.mulN_inv _ (by omega) (by omega)]
  rfl
theorem invZ_ne {z : Int} (hz : Byt z) (h0 : z ≠ 0) : invZ z ≠ 0 := by
  unfold Byt at hz
  unfold invZ
  have := M.invN_ne z.toNat (by omega)
  omega
theorem getD_set_self (L : List (List Int)) (i : Nat) (l : List Int) (h : i < L.length) : (L.set i l).getD i [] = l := by
  rw [List.getD_eq_getElem?_getD, List.getElem?_set_self h]
  rfl
theorem getD_set_ne (L : List (List Int)) (i j : Nat) (l : List Int) (h : i ≠ j) : (L.set i l).getD j [] = L.getD j [] := by
  rw [List.getD_eq_getElem?_getD, List.getElem?_set_ne h, ← List.getD_eq_getElem?_getD]
theorem frozen_grown {w w' : World} (hg : Gr w w') {a : Addr} {x : Value} (h : w.cell? a = some x) (hf : w.frozen? a = false) : w'.frozen? a = false := by
  rw [World.frozen?_of_block (hg.2.2.2.2 _ (World.block_lt_of_cell? w _ h))]
  exact hf
theorem New.form3 {w w' : World} {v : Value} {l : List Int} (h : New w w' v l) : ∃ o m c, v = .slice o m c := by
  obtain ⟨o, c, h⟩ := (New.bs h).form
  exact ⟨o, _, c, h⟩
theorem New.of_row {w w' : World} {v : Value} {l : List Int} (hg : Gr w w') (hb : ∀ x ∈ l, Byt x) (h : w'.ownsRow w.heap.size 5 1 v l.length (l.map (Value.int .u8))) : New w w' v l := by
  by_cases h0 : 0 < l.length
  · obtain ⟨gg, cap, rfl, _, _⟩ := h.form h0
    exact (New.of_owns hg hb h).2
  · obtain rfl : l = [] := List.eq_nil_of_length_eq_zero (by omega)
    refine ⟨hg, by simp, .inl ⟨rfl, ?_⟩⟩
    obtain ⟨_, ⟨rfl, _⟩ | ⟨g, c, cur, rfl, _, _, _, h2, _⟩⟩ := h
    · exact ⟨none, 0, rfl, fun _ => rfl, by omega⟩
    · exact ⟨_, c, rfl, (fun h => by cases h), by unfold maxLen at h2; omega⟩
end Go.Proofs.Ytdmcncpndogdlaa
namespace Go.Proofs.Ytdmcncpndogdlaa
open Go.RowKit

theorem infoB : (Try.prog.info? 5).map (fun i => (i.zero, i.size, i.bytes)) = some (some (.int .u8 0), 1, 1) := by kernel_rfl
theorem Bs.byt' {w : World} {v : Value} {l : List Int} (h : Bs w v l) : ∀ x ∈ l, Byt x := h.1
theorem evenL_length (n : Nat) (l : List Int) : (evenL n l).length = evenN n l := chunk_length _ _ _
theorem evenN_le (n : Nat) (l : List Int) : evenN n l ≤ 14 := Nat.min_le_left _ _
theorem even_wide {n : Nat} {l : List Int} (hb : ∀ x ∈ l, Byt x) (h1 : 1 ≤ n) : Wide n (evenL n l) := by
  intro r hr
  unfold evenL chunk at hr
  obtain ⟨i, hi, rfl⟩ := List.mem_map.1 hr
  have h2 : i < l.length / n := Nat.lt_of_lt_of_le (List.mem_range.1 hi) (Nat.min_le_right _ _)
  have h3 : (i + 1) * n ≤ l.length := (Nat.le_div_iff_mul_le (by omega)).1 (by omega)
  have h4 : n * i + n ≤ l.length := by rw [Nat.mul_comm, ← Nat.succ_mul]; exact h3
  refine ⟨by rw [List.length_take, List.length_drop]; omega, fun x hx => hb x (List.mem_of_mem_drop (List.mem_of_mem_take hx))⟩
/-- The places j of all rows. -/
def colZ (A : List (List Int)) (j : Nat) : List Int := A.map fun r => r.getD j 0
def trZ (n : Nat) (A : List (List Int)) : List (List Int) := (List.range n).map (colZ A)
theorem colZ_length (A : List (List Int)) (j : Nat) : (colZ A j).length = A.length := by simp [colZ]
theorem trZ_length (n : Nat) (A : List (List Int)) : (trZ n A).length = n := by simp [trZ]
theorem colZ_getD (A : List (List Int)) (j i : Nat) : (colZ A j).getD i 0 = (A.getD i []).getD j 0 := by
  unfold colZ
  rw [List.getD_eq_getElem?_getD, List.getElem?_map]
  by_cases h : i < A.length
  · rw [List.getElem?_eq_getElem h, List.getD_eq_getElem?_getD (l := A), List.getElem?_eq_getElem h]
    rfl
  · rw [List.getElem?_eq_none (by omega), List.getD_eq_getElem?_getD (l := A), List.getElem?_eq_none (by omega)]
    rfl
theorem colZ_byt {k : Nat} {A : List (List Int)} (h : Wide k A) (j : Nat) : ∀ x ∈ colZ A j, Byt x := by
  intro x hx
  obtain ⟨r, hr, rfl⟩ := List.mem_map.1 hx
  exact getD_byt (h r hr).2 j
theorem trZ_succ (n : Nat) (A : List (List Int)) : trZ (n + 1) A = trZ n A ++ [colZ A n] := by simp [trZ, List.range_succ]
theorem colZ_succ (A : List (List Int)) (j i : Nat) (hi : i < A.length) : colZ (A.take (i + 1)) j = colZ (A.take i) j ++ [(A.getD i []).getD j 0] := by
  unfold colZ
  rw [List.take_add_one, List.getElem?_eq_getElem hi, List.getD_eq_getElem?_getD (l := A), List.getElem?_eq_getElem hi, List.map_append]
  rfl
theorem trZ_wide {k : Nat} {A : List (List Int)} (h : Wide k A) (n : Nat) : Wide A.length (trZ n A) := by
  intro r hr
  obtain ⟨j, _, rfl⟩ := List.mem_map.1 hr
  exact ⟨colZ_length A j, colZ_byt h j⟩
theorem trZ_vec (n : Nat) (A : List (List Int)) : (trZ n A).map vec = L.tr n (A.map vec) := by
  unfold trZ L.tr
  rw [List.map_map]
  apply List.map_congr_left
  intro j _
  funext i
  show fb ((colZ A j).getD i 0) = L.rowAt (A.map vec) i j
  rw [colZ_getD, at_vec]
theorem trZ_rk {k : Nat} {A : List (List Int)} (h : Wide k A) : rkL (trZ k A) = rkL A := by
  unfold rkL
  rw [trZ_vec]
  exact L.rk_tr h.supp
theorem Bss.take {w : World} {oa : Option Addr} {m c : Nat} {X : List (List Int)} (h : Bss w (.slice oa m c) X) (hm : X.length = m) (n : Nat) (hn : n ≤ m) : Bss w (.slice oa n c) (X.take n) := by
  obtain ⟨oa', c', he, h2, h3, h4, h5⟩ := h
  obtain ⟨rfl, _, rfl⟩ : oa = oa' ∧ m = X.length ∧ c = c' := by simpa using he
  have hl : (X.take n).length = n := by rw [List.length_take]; omega
  refine ⟨oa, c, by rw [hl], by rw [hl]; omega, h3, h4, fun a ha i hi => ?_⟩
  rw [hl] at hi
  obtain ⟨u, h6, h7⟩ := h5 a ha i (by omega)
  refine ⟨u, h6, ?_⟩
  rw [List.getD_eq_getElem?_getD, List.getElem?_take_of_lt hi, ← List.getD_eq_getElem?_getD]
  exact h7
theorem sol_low {A B S : List (List Int)} {e : Int} (h0 : A ≠ []) (hr : rkL A < wd A) (h : SolSays A B e S) : e = 9 ∧ S = [] := by
  rcases h with ⟨q, _⟩ | ⟨_, _, h1, h2⟩ | ⟨_, h1, _⟩ | ⟨_, h1, _⟩
  · exact absurd q h0
  · exact ⟨h1, h2⟩
  · omega
  · omega
theorem sol_back {m : Nat} {A X B S : List (List Int)} {e : Int} (hA : Wide (wd A) A) (h0 : A ≠ []) (hX : Wide m X) (hXl : X.length = wd A) (hB : IsMul m A X B) (hwb : wd B = m) (hr : rkL A = wd A) (h : SolSays A B e S) : e = 0 ∧ S = X := by
  rcases h with ⟨q, _⟩ | ⟨_, h1, _⟩ | ⟨_, _, h1, h2, h3, h4⟩ | ⟨_, _, _, _, h2⟩
  · exact absurd q h0
  · omega
  · refine ⟨h1, map_vec_inj h4 (by rw [hwb]; exact hX) (L.mul_unique hA.supp hr (by simp [h2]) (by simp [hXl]) ?_)⟩
    rw [← h3.2, ← hB.2]
  · exact absurd hB.2.symm (h2 _ (by simp [hXl]) (by rw [hwb]; exact hX.supp))
theorem sol_any {A C S : List (List Int)} {e : Int} (hA : Wide (wd A) A) (h0 : A ≠ []) (hC : Wide (wd C) C) (hCl : C.length = A.length) (hr : rkL A = wd A) (h : SolSays A C e S) :
    (e = 0 ∧ S.length = wd A ∧ IsMul (wd C) A S C ∧ Wide (wd C) S) ∨ (e = 10 ∧ A.length ≠ wd A) := by
  rcases h with ⟨q, _⟩ | ⟨_, h1, _⟩ | ⟨_, _, h1, h2, h3, h4⟩ | ⟨_, _, h1, _, h2⟩
  · exact absurd q h0
  · omega
  · exact .inl ⟨h1, h2, h3, h4⟩
  · refine .inr ⟨h1, fun e => ?_⟩
    obtain ⟨M, m1, m2, m3⟩ := L.square hA.supp (by simp [e]) hr (C := C.map vec) (by simp [hCl, e]) hC.supp
    exact h2 M m1 m2 m3
theorem rkL_nil : rkL [] = 0 := L.rk_eq (R := []) ⟨L.Rref.nil, L.Same.refl _⟩
theorem rkL_le_cols {k : Nat} {A : List (List Int)} (h : Wide k A) : rkL A ≤ k := L.rk_le_cols h.supp
theorem rkL_le_rows {k : Nat} {A : List (List Int)} (h : Wide k A) : rkL A ≤ A.length := by
  have := L.rk_le_len h.supp
  rwa [List.length_map] at this
theorem IsMul.rk {k m : Nat} {A X o : List (List Int)} (h : IsMul m A X o) (hA : Wide k A) (hX : Wide m X) : rkL o ≤ rkL A ∧ rkL o ≤ rkL X := by
  unfold rkL
  rw [h.2]
  exact ⟨L.rk_mul_left hA.supp hX.supp, L.rk_mul_right hX.supp⟩
end Go.Proofs.Ytdmcncpndogdlaa
namespace Go.Proofs.Ytdmcncpndogdlaa
open Go.RowKit

namespace L
/-! ### Unit rows -/
theorem units_red (k : Nat) : Red ((List.range k).map unit) ((List.range k).map fun i => (i, unit i)) := by
  have hm : ∀ {p : Nat} {x : V}, (p, x) ∈ (List.range k).map (fun i => (i, unit i)) → p < k ∧ x = unit p := fun h => by
    obtain ⟨i, hi, he⟩ := List.mem_map.1 h
    cases he
    exact ⟨List.mem_range.1 hi, rfl⟩
  refine ⟨⟨?_, fun p x h => ?_, fun p x h j hj => ?_, fun p x q y h h' hne => ?_⟩, ?_⟩
  · rw [List.pairwise_map]
    exact List.pairwise_lt_range
  · obtain ⟨_, rfl⟩ := hm h
    simp [unit]
  · obtain ⟨_, rfl⟩ := hm h
    unfold unit
    rw [if_neg (by omega)]
  · obtain ⟨_, rfl⟩ := hm h
    unfold unit
    rw [if_neg (fun e => hne e.symm)]
  · have : rows ((List.range k).map fun i => (i, unit i)) = (List.range k).map unit := by
      unfold rows
      rw [List.map_map]
      rfl
    rw [this]
    exact Same.refl _
theorem units_rk (k : Nat) : rk ((List.range k).map unit) = k := by
  rw [rk_eq (units_red k)]
  simp
/-- Rows that reach each unit row have all the rank. -/
theorem rk_of_units {k : Nat} {A : List V} (hA : ∀ x ∈ A, Supp k x) (h : ∀ i, i < k → Sp A (unit i)) : rk A = k := by
  refine Nat.le_antisymm (rk_le_cols hA) ?_
  have h1 := rk_mono (n := k) (A := (List.range k).map unit) (B := A) (fun x hx => by
    obtain ⟨i, hi, rfl⟩ := List.mem_map.1 hx
    exact unit_supp (List.mem_range.1 hi)) hA (fun x hx => by
    obtain ⟨i, hi, rfl⟩ := List.mem_map.1 hx
    exact h i (List.mem_range.1 hi))
  rwa [units_rk] at h1
/-! ### Powers of unlike things, side by side -/
/-- Of k things x the first powers, the second ones, and so on. -/
def vrow (x : Nat → Fb) (k : Nat) : Nat → V
  | 0 => fun j => if j < k then x j else zero
  | h + 1 => fun j => mul (x j) (vrow x k h j)
def xmul (x : Nat → Fb) (v : V) : V := fun j => mul (x j) (v j)
theorem xmul_step (x : Nat → Fb) (c : Fb) (u v : V) : xmul x (vadd (smul c u) v) = vadd (smul c (xmul x u)) (xmul x v) := by
  funext j
  show mul (x j) (add (mul c (u j)) (v j)) = add (mul c (mul (x j) (u j))) (mul (x j) (v j))
  rw [mul_add, ← mul_assoc, mul_comm (x j) c, mul_assoc]
theorem xmul_span (x : Nat → Fb) (k d : Nat) {v : V} (h : Sp ((List.range d).map (vrow x k)) v) : Sp ((List.range (d + 1)).map (vrow x k)) (xmul x v) := by
  induction h with
  | zero =>
    have : xmul x vzero = vzero := funext fun j => mul_zero _
    rw [this]
    exact Sp.zero
  | step c u v hu _ ih =>
    rw [xmul_step]
    refine Sp.step c _ _ ?_ ih
    obtain ⟨i, hi, rfl⟩ := List.mem_map.1 hu
    exact List.mem_map.2 ⟨i + 1, List.mem_range.2 (by have := List.mem_range.1 hi; omega), rfl⟩
/-- The first powers times all (x + a), a in rs. -/
def prodv (x : Nat → Fb) (k : Nat) : List Fb → V
  | [] => vrow x k 0
  | a :: rs => vadd (xmul x (prodv x k rs)) (smul a (prodv x k rs))
theorem prodv_at (x : Nat → Fb) (k : Nat) (a : Fb) (rs : List Fb) (j : Nat) : prodv x k (a :: rs) j = mul (add (x j) a) (prodv x k rs j) := by
  show add (mul (x j) (prodv x k rs j)) (mul a (prodv x k rs j)) = _
  rw [add_mul]
theorem prodv_span (x : Nat → Fb) (k : Nat) : ∀ rs : List Fb, Sp ((List.range (rs.length + 1)).map (vrow x k)) (prodv x k rs)
  | [] => Sp.mem (by simp [prodv])
  | a :: rs => by
    have ih := prodv_span x k rs
    refine Sp.add (xmul_span x k _ ih) (Sp.smul a (Sp.mono (fun v hv => ?_) ih))
    obtain ⟨i, hi, rfl⟩ := List.mem_map.1 hv
    exact List.mem_map.2 ⟨i, List.mem_range.2 (by have := List.mem_range.1 hi; simp; omega), rfl⟩
theorem prodv_zero (x : Nat → Fb) (k j : Nat) : ∀ rs : List Fb, (k ≤ j ∨ x j ∈ rs) → prodv x k rs j = zero
  | [], h => by
    rcases h with h | h
    · show (if j < k then x j else zero) = zero
      rw [if_neg (by omega)]
    · cases h
  | a :: rs, h => by
    rw [prodv_at]
    by_cases e : x j = a
    · rw [e, add_self, zero_mul]
    · rw [prodv_zero x k j rs (by
        rcases h with h | h
        · exact .inl h
        · rcases List.mem_cons.1 h with h | h
          · exact absurd h e
          · exact .inr h), mul_zero]
theorem prodv_ne (x : Nat → Fb) (k j : Nat) (hj : j < k) (h0 : x j ≠ zero) : ∀ rs : List Fb, x j ∉ rs → prodv x k rs j ≠ zero
  | [], _ => by
    show (if j < k then x j else zero) ≠ zero
    rwa [if_pos hj]
  | a :: rs, h => by
    rw [prodv_at]
    intro e
    refine prodv_ne x k j hj h0 rs (fun c => h (List.mem_cons_of_mem _ c)) (mul_eq_zero e fun c => ?_)
    exact h (by rw [eq_of_add c]; exact List.mem_cons_self)
theorem vrow_supp (x : Nat → Fb) (k : Nat) : ∀ h, Supp k (vrow x k h)
  | 0 => fun j hj => by
    show (if j < k then x j else zero) = zero
    rw [if_neg (by omega)]
  | h + 1 => fun j hj => by
    show mul (x j) (vrow x k h j) = zero
    rw [vrow_supp x k h j hj, mul_zero]
/-- Unlike things, none of them 0: as many powers of them as there are have all the rank. -/
theorem vrow_rk (x : Nat → Fb) (k n : Nat) (hk : k ≤ n) (h0 : ∀ i, i < k → x i ≠ zero) (hne : ∀ i j, i < k → j < k → i ≠ j → x i ≠ x j) : rk ((List.range n).map (vrow x k)) = k := by
  refine rk_of_units (fun v hv => ?_) fun i hi => ?_
  · obtain ⟨h, _, rfl⟩ := List.mem_map.1 hv
    exact vrow_supp x k h
  · obtain ⟨rs, hrs⟩ : ∃ rs, ((List.range i).map x ++ (List.range (k - i - 1)).map fun j => x (i + 1 + j)) = rs := ⟨_, rfl⟩
    have hl : rs.length = k - 1 := by rw [← hrs]; simp; omega
    have hn : x i ∉ rs := by
      rw [← hrs, List.mem_append]
      rintro (h | h)
      · obtain ⟨j, hj, e⟩ := List.mem_map.1 h
        have := List.mem_range.1 hj
        exact hne j i (by omega) hi (by omega) e
      · obtain ⟨j, hj, e⟩ := List.mem_map.1 h
        have := List.mem_range.1 hj
        exact hne (i + 1 + j) i (by omega) hi (by omega) e
    have hin : ∀ j, j < k → j ≠ i → x j ∈ rs := fun j hj e => by
      rw [← hrs, List.mem_append]
      by_cases c : j < i
      · exact .inl (List.mem_map.2 ⟨j, List.mem_range.2 c, rfl⟩)
      · exact .inr (List.mem_map.2 ⟨j - i - 1, List.mem_range.2 (by omega), by rw [show i + 1 + (j - i - 1) = j from by omega]⟩)
    have hc := prodv_ne x k i hi (h0 i hi) rs hn
    have hu : unit i = smul (inv (prodv x k rs i)) (prodv x k rs) := by
      funext j
      show (if j = i then one else zero) = mul (inv (prodv x k rs i)) (prodv x k rs j)
      by_cases e : j = i
      · subst e
        rw [if_pos rfl, inv_mul _ hc]
      · rw [if_neg e, prodv_zero x k j rs (by
          by_cases c : j < k
          · exact .inr (hin j c e)
          · exact .inl (by omega)), mul_zero]
    rw [hu]
    refine Sp.smul _ (Sp.mono (fun v hv => ?_) (prodv_span x k rs))
    obtain ⟨h, hh, rfl⟩ := List.mem_map.1 hv
    have := List.mem_range.1 hh
    exact List.mem_map.2 ⟨h, List.mem_range.2 (by omega), rfl⟩
end L
/-! ### The rows ahead -/
def aheadF (K h : Nat) : Nat → Int := fun j => if j < K then expZ (((h + 1) * (j + 1) : Nat) : Int) else if j = K + h then 1 else 0
def aheadRow (K H h : Nat) : List Int := lst (K + H) (aheadF K h)
def ahead (K H : Nat) : List (List Int) := (List.range H).map (aheadRow K H)
theorem aheadF_byt (K h j : Nat) : Byt (aheadF K h j) := by
  unfold aheadF
  split
  · exact expZ_byt _
  · split <;> (unfold Byt; omega)
theorem aheadRow_length (K H h : Nat) : (aheadRow K H h).length = K + H := lst_length _ _
theorem ahead_length (K H : Nat) : (ahead K H).length = H := by simp [ahead]
theorem ahead_getD {K H h : Nat} (hh : h < H) : (ahead K H).getD h [] = aheadRow K H h := by
  simp [ahead, List.getD_eq_getElem?_getD, hh]
theorem ahead_wide (K H : Nat) : Wide (K + H) (ahead K H) := fun r hr => by
  obtain ⟨h, _, rfl⟩ := List.mem_map.1 hr
  exact ⟨aheadRow_length K H h, lst_byt fun i _ => aheadF_byt K h i⟩
theorem ahead_at {K H h j : Nat} (hh : h < H) (hj : j < K + H) : ((ahead K H).getD h []).getD j 0 = aheadF K h j := by
  rw [ahead_getD hh]
  exact lst_getD _ _ _ hj
theorem ahead_rk (K H : Nat) : rkL (ahead K H) = H := by
  have hw := (ahead_wide K H).supp
  refine Nat.le_antisymm ?_ ?_
  · have := rkL_le_rows (ahead_wide K H)
    rwa [ahead_length] at this
  · have h1 := L.rk_mono (n := H) (A := (List.range H).map L.unit) (B := L.tr (K + H) ((ahead K H).map vec)) (fun x hx => by
      obtain ⟨i, hi, rfl⟩ := List.mem_map.1 hx
      exact L.unit_supp (List.mem_range.1 hi)) (by
      have := L.tr_supp (K + H) ((ahead K H).map vec)
      rwa [List.length_map, ahead_length] at this) (fun x hx => by
      obtain ⟨i, hi, rfl⟩ := List.mem_map.1 hx
      have hi := List.mem_range.1 hi
      refine L.Sp.mem (List.mem_map.2 ⟨K + i, List.mem_range.2 (by omega), ?_⟩)
      funext t
      show L.rowAt ((ahead K H).map vec) t (K + i) = if t = i then L.one else L.zero
      rw [rowAt_vec]
      by_cases ht : t < H
      · show fb (((ahead K H).getD t []).getD (K + i) 0) = _
        rw [ahead_at ht (by omega)]
        unfold aheadF
        rw [if_neg (by omega)]
        by_cases e : t = i
        · rw [if_pos (by omega), if_pos e, fb_one]
        · rw [if_neg (by omega), if_neg e, fb_zero]
      · have : (ahead K H).getD t [] = [] := by
          rw [List.getD_eq_getElem?_getD, List.getElem?_eq_none (by rw [ahead_length]; omega)]
          rfl
        rw [this, if_neg (by omega)]
        rfl)
    rw [L.units_rk, L.rk_tr hw] at h1
    exact h1
theorem expZ_ne (n : Int) : expZ n ≠ 0 := fun h => by
  have := expZ_neg n
  rw [h, mulZ_comm, mulZ_zero] at this
  omega
theorem expZ_inj {a b : Nat} (ha : a < 255) (hb : b < 255) (h : expZ a = expZ b) : a = b := by
  rw [expZ_nat a ha, expZ_nat b hb] at h
  have h1 := lgZ_ex a ha
  have h2 := lgZ_ex b hb
  rw [h] at h1
  omega
/-- Columns of the rows ahead, side by side. -/
def sideRow (K H h first k : Nat) : List Int := ((aheadRow K H h).drop first).take k
theorem side_rk {K H first k : Nat} (hk : k ≤ H) (hf : first + k ≤ K) (hK : K ≤ 16) : rkL ((List.range H).map fun h => sideRow K H h first k) = k := by
  have hv : ∀ h, h < H → vec (sideRow K H h first k) = L.vrow (fun j => fb (expZ ((first + j + 1 : Nat) : Int))) k h := fun h hh => by
    have hat : ∀ j, (sideRow K H h first k).getD j 0 = if j < k then expZ (((h + 1) * (first + j + 1) : Nat) : Int) else 0 := fun j => by
      unfold sideRow
      by_cases c : j < k
      · rw [if_pos c, List.getD_eq_getElem?_getD, List.getElem?_take_of_lt c, List.getElem?_drop, ← List.getD_eq_getElem?_getD]
        unfold aheadRow
        rw [lst_getD _ _ _ (by omega)]
        unfold aheadF
        rw [if_pos (by omega)]
      · rw [if_neg c]
        exact getD_out (by rw [List.length_take]; omega)
    funext j
    show fb ((sideRow K H h first k).getD j 0) = _
    rw [hat]
    clear hat hh
    induction h with
    | zero =>
      show _ = if j < k then fb (expZ ((first + j + 1 : Nat) : Int)) else L.zero
      split
      · rw [Nat.zero_add, Nat.one_mul]
      · exact fb_zero
    | succ h ih =>
      show _ = L.mul (fb (expZ ((first + j + 1 : Nat) : Int))) (L.vrow _ k h j)
      rw [← ih]
      split
      · rw [← fb_mul (expZ_byt _) (expZ_byt _), expZ_add, show ((first + j + 1 : Nat) : Int) + (((h + 1) * (first + j + 1) : Nat) : Int) = (((h + 1 + 1) * (first + j + 1) : Nat) : Int) from by
          rw [← Int.natCast_add]
          congr 1
          rw [Nat.add_mul (h + 1) 1, Nat.one_mul, Nat.add_comm]]
      · rw [fb_zero, L.mul_zero]
  have he : ((List.range H).map fun h => sideRow K H h first k).map vec = (List.range H).map (L.vrow (fun j => fb (expZ ((first + j + 1 : Nat) : Int))) k) := by
    rw [List.map_map]
    exact List.map_congr_left fun h hh => hv h (List.mem_range.1 hh)
  unfold rkL
  rw [he]
  refine L.vrow_rk _ k H hk (fun i hi c => ?_) fun i j hi hj hne c => ?_
  · exact expZ_ne _ (fb_inj (expZ_byt _) (by unfold Byt; omega) (by rw [c, fb_zero]))
  · have := expZ_inj (by omega) (by omega) (fb_inj (expZ_byt _) (expZ_byt _) c)
    omega
/-- What a row ahead comes to. -/
theorem dotL_congr {x y y' : List Int} : ∀ k, (∀ j, j < k → y.getD j 0 = y'.getD j 0) → dotL x y k = dotL x y' k
  | 0, _ => rfl
  | k + 1, h => by
    show addZ (dotL x y k) _ = addZ (dotL x y' k) _
    rw [dotL_congr k fun j hj => h j (by omega), h k (by omega)]
theorem dot_ahead {K H h : Nat} (hh : h < H) {y : List Int} (hb : ∀ z ∈ y, Byt z) : ∀ t, t ≤ H → dotL (aheadRow K H h) y (K + t) = addZ (dotL (aheadRow K H h) y K) (if h < t then y.getD (K + h) 0 else 0)
  | 0, _ => by
    rw [if_neg (by omega)]
    exact (addZ_zero _ (dotL_byt _ _ _)).symm
  | t + 1, ht => by
    have ih := dot_ahead (K := K) hh hb t (by omega)
    show addZ (dotL (aheadRow K H h) y (K + t)) (mulZ ((aheadRow K H h).getD (K + t) 0) (y.getD (K + t) 0)) = _
    have hr : (aheadRow K H h).getD (K + t) 0 = if t = h then 1 else 0 := by
      unfold aheadRow
      rw [lst_getD _ _ _ (by omega)]
      unfold aheadF
      rw [if_neg (by omega)]
      by_cases e : t = h
      · rw [if_pos (by omega), if_pos e]
      · rw [if_neg (by omega), if_neg e]
    rw [ih, hr]
    have hyb := getD_byt hb (K + h)
    by_cases e : t = h
    · subst e
      rw [if_pos rfl, if_neg (by omega), if_pos (by omega), addZ_zero _ (dotL_byt _ _ _), mulZ_comm, mulZ_one _ hyb]
    · rw [if_neg e, mulZ_comm, mulZ_zero]
      by_cases c : h < t
      · rw [if_pos c, if_pos (by omega), addZ_zero _ (addZ_byt (dotL_byt _ _ _) hyb)]
      · rw [if_neg c, if_neg (by omega), addZ_zero _ (addZ_byt (dotL_byt _ _ _) (by unfold Byt; omega))]
end Go.Proofs.Ytdmcncpndogdlaa
