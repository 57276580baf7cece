/-
  As many rows as columns and all the rank: every right side is reached. Where a row begins as long as rank is left. What pairs of rows say together.
-/
import Derived.Test.YtpckdjapkngpgaaDoorLec
namespace Go.Proofs.YtpckdjapkngpgaaDoor.L

theorem lc_assoc (X : List V) : ∀ (A : List V) (c : V), lc (lc c A) X = lc c (mulM A X)
  | [], _ => lc_zero X
  | a :: A, c => by
    show lc (vadd (smul (c 0) a) (lc (fun i => c (i + 1)) A)) X = vadd (smul (c 0) (lc a X)) (lc (fun i => c (i + 1)) (mulM A X))
    rw [lc_add, lc_smul, lc_assoc X A]
theorem mulM_assoc (D A X : List V) : mulM (mulM D A) X = mulM D (mulM A X) := by
  unfold mulM
  rw [List.map_map]
  exact List.map_congr_left fun d _ => lc_assoc X A d
def idM (n : Nat) : List V := (List.range n).map unit
theorem idM_length (n : Nat) : (idM n).length = n := by simp [idM]
theorem idM_supp (n : Nat) : ∀ x ∈ idM n, Supp n x := by
  intro x hx
  obtain ⟨i, hi, rfl⟩ := List.mem_map.1 hx
  exact unit_supp (List.mem_range.1 hi)
theorem mulM_id_left {n : Nat} {X : List V} (h : X.length = n) : mulM (idM n) X = X := by
  unfold mulM idM
  rw [List.map_map]
  apply List.ext_getElem
  · simp [h]
  intro i h1 h2
  simp only [List.getElem_map, List.getElem_range, Function.comp]
  rw [lc_unit]
  unfold rowAt
  rw [List.getElem?_eq_getElem h2]
  rfl
theorem lc_range : ∀ (n s : Nat) (a : V) (k : Nat), lc a ((List.range' s n).map unit) k = if s ≤ k ∧ k < s + n then a (k - s) else zero
  | 0, s, a, k => by
    rw [if_neg (by omega)]
    rfl
  | n + 1, s, a, k => by
    show add (mul (a 0) (unit s k)) (lc (fun i => a (i + 1)) ((List.range' (s + 1) n).map unit) k) = _
    rw [lc_range n (s + 1)]
    unfold unit
    by_cases e : k = s
    · subst e
      rw [if_pos rfl, if_neg (by omega), if_pos (by omega), mul_one, add_zero, Nat.sub_self]
    · rw [if_neg e, mul_zero, zero_add]
      by_cases e2 : s + 1 ≤ k ∧ k < s + 1 + n
      · rw [if_pos e2, if_pos (by omega)]
        congr 1
        omega
      · rw [if_neg e2, if_neg (by omega)]
theorem lc_id {n : Nat} {a : V} (h : Supp n a) : lc a (idM n) = a := by
  unfold idM
  rw [List.range_eq_range']
  funext k
  rw [lc_range]
  by_cases e : k < n
  · rw [if_pos (by omega), Nat.sub_zero]
  · rw [if_neg (by omega), h k (by omega)]
theorem mulM_id_right {n : Nat} {A : List V} (h : ∀ x ∈ A, Supp n x) : mulM A (idM n) = A := by
  unfold mulM
  conv => rhs; rw [← List.map_id A]
  exact List.map_congr_left fun a ha => lc_id (h a ha)
theorem Sp.coeff {A : List V} {v : V} (h : Sp A v) : ∃ d, Supp A.length d ∧ L.lc d A = v := by
  induction h with
  | zero => exact ⟨vzero, Supp.zero _, lc_zero A⟩
  | step c x v hx _ ih =>
    obtain ⟨d, hd, rfl⟩ := ih
    obtain ⟨i, hi, rfl⟩ := mem_rowAt hx
    exact ⟨vadd (L.smul c (unit i)) d, Supp.add (Supp.smul c (unit_supp hi)) hd, by rw [lc_add, lc_smul, lc_unit]⟩
theorem coeffs {A : List V} : ∀ C : List V, (∀ x ∈ C, Sp A x) → ∃ D : List V, D.length = C.length ∧ (∀ x ∈ D, Supp A.length x) ∧ mulM D A = C
  | [], _ => ⟨[], rfl, by simp, rfl⟩
  | c :: C, h => by
    obtain ⟨D, h1, h2, h3⟩ := coeffs C fun x hx => h x (by simp [hx])
    obtain ⟨d, h4, h5⟩ := Sp.coeff (h c (by simp))
    refine ⟨d :: D, by simp [h1], fun x hx => ?_, ?_⟩
    · rcases List.mem_cons.1 hx with rfl | hx
      · exact h4
      · exact h2 x hx
    · show lc d A :: mulM D A = c :: C
      rw [h5, h3]
theorem rk_id (n : Nat) : rk (idM n) = n := by
  have h1 := rk_le_cols (idM_supp n)
  have h2 : rk (mulM (idM n) (idM n)) ≤ rk (idM n) := rk_mul_right (idM_supp n)
  obtain ⟨R, hr, e⟩ := red_exists (idM_supp n)
  -- every place is one where a row begins
  have h3 : n ≤ R.length := by
    have hp : ∀ i, i < n → ∃ x, (i, x) ∈ R := fun i hi => begins_at hr.1 ((hr.2 _).2 (Sp.mem (List.mem_map.2 ⟨i, List.mem_range.2 hi, rfl⟩))) ⟨by unfold unit; rw [if_pos rfl]; exact one_ne, fun j hj => by unfold unit; rw [if_neg (by omega)]⟩
    have := places_sub ((List.range n).map fun i => (i, vzero)) R (by
      rw [List.pairwise_map]
      exact List.pairwise_lt_range) hr.1.1 (fun a ha => by
      obtain ⟨i, hi, rfl⟩ := List.mem_map.1 ha
      obtain ⟨x, hx⟩ := hp i (List.mem_range.1 hi)
      exact ⟨_, hx, rfl⟩)
    simpa using this
  omega
/-- As many rows as columns, and all the rank: every right side has a solution. -/
theorem square {n m : Nat} {A C : List V} (hA : ∀ x ∈ A, Supp n x) (hl : A.length = n) (hr : rk A = n) (hC : C.length = n) (hs : ∀ x ∈ C, Supp m x) :
    ∃ X, X.length = n ∧ (∀ x ∈ X, Supp m x) ∧ mulM A X = C := by
  obtain ⟨D, h1, h2, h3⟩ := coeffs (A := A) (idM n) fun x hx => full_span hA hr (idM_supp n x hx)
  rw [idM_length] at h1
  rw [hl] at h2
  have hD : rk D = n := by
    have h4 := rk_le_cols h2
    have h5 : rk (mulM D A) ≤ rk D := rk_mul_left h2 hA
    rw [h3, rk_id] at h5
    omega
  have h6 : mulM A D = idM n := mul_unique h2 hD (by simp [mulM, hl]) (idM_length n) (by
    rw [← mulM_assoc, h3, mulM_id_left h1, mulM_id_right h2])
  exact ⟨mulM D C, by simp [mulM, h1], mulM_supp hs, by rw [← mulM_assoc, h6, mulM_id_left hC]⟩

/-- As long as not all the columns are found, and the rank is all, there is a next row that begins at the next column. -/
theorem Ech.pivot {A X : List V} {c n : Nat} (h : Ech A X (List.range c) c) (hA : ∀ x ∈ A, Supp n x) (hr : rk A = n) (hc : c < n) : ∃ s, c ≤ s ∧ s < X.length ∧ rowAt X s c ≠ zero := by
  apply Classical.byContradiction
  intro hno
  have h0 : ∀ s, c ≤ s → rowAt X s c = zero := fun s hs => Classical.byContradiction fun e => hno ⟨s, hs, by
    apply Classical.byContradiction
    intro e2
    apply e
    rw [rowAt_out (by omega)]
    rfl, e⟩
  have get : ∀ t, t < c → (List.range c)[t]? = some t := fun t ht => List.getElem?_range ht
  -- what vanishes on all rows vanishes on what they span
  let R : List (Nat × V) := (List.range c).map fun t => (t, rowAt X t)
  have hz : ∀ x ∈ X, left x R c = zero := by
    intro x hx
    obtain ⟨s, hs, rfl⟩ := mem_rowAt hx
    have hp : ∀ (T : List Nat), (∀ t ∈ T, t < c) → T.Nodup → pick (rowAt X s) (T.map fun t => (t, rowAt X t)) = if s ∈ T then rowAt X s else vzero := by
      intro T
      induction T with
      | nil => intro _ _; rfl
      | cons t T ih =>
        intro hT hn
        show vadd (smul (rowAt X s t) (rowAt X t)) (pick (rowAt X s) (T.map fun t => (t, rowAt X t))) = _
        rw [ih (fun u hu => hT u (by simp [hu])) (List.nodup_cons.1 hn).2]
        have ht : t < c := hT t (by simp)
        by_cases e : s = t
        · subst e
          rw [h.lead s s (get s ht), one_smul, if_neg (List.nodup_cons.1 hn).1, if_pos (by simp), vadd_zero]
        · rw [h.apart t t (get t ht) s e, zero_smul, vzero_add]
          by_cases e2 : s ∈ T
          · rw [if_pos e2, if_pos (by simp [e2])]
          · rw [if_neg e2, if_neg (by simp [e, e2])]
    have hp1 := hp (List.range c) (fun t ht => List.mem_range.1 ht) List.nodup_range
    show L.add (rowAt X s c) (pick (rowAt X s) R c) = zero
    rw [show pick (rowAt X s) R = _ from hp1]
    by_cases e : s < c
    · rw [if_pos (List.mem_range.2 e), add_self]
    · rw [if_neg (fun q => e (List.mem_range.1 q)), h0 s (by omega)]
      exact add_zero _
  have hall : ∀ v, Sp X v → left v R c = zero := by
    intro v hv
    induction hv with
    | zero =>
      have : pick vzero R = vzero := pick_none _ R fun _ _ _ => rfl
      show L.add zero (pick vzero R c) = zero
      rw [this]
      exact add_zero _
    | step k x v hx _ ih =>
      have hx' := hz x hx
      show L.add (L.add (mul k (x c)) (v c)) (pick (vadd (smul k x) v) R c) = zero
      rw [pick_add, pick_smul]
      show L.add (L.add (mul k (x c)) (v c)) (L.add (mul k (pick x R c)) (pick v R c)) = zero
      have e1 : L.add (x c) (pick x R c) = zero := hx'
      have e2 : L.add (v c) (pick v R c) = zero := ih
      rw [eq_of_add e1, eq_of_add e2]
      exact add_self _
  have hu := hall _ ((h.same _).2 (full_span hA hr (unit_supp hc)))
  have hpu : pick (unit c) R = vzero := pick_none _ R fun p x hp => by
    obtain ⟨t, ht, he⟩ := List.mem_map.1 hp
    have : t = p := congrArg Prod.fst he
    subst this
    unfold unit
    rw [if_neg (by have := List.mem_range.1 ht; omega)]
  have : L.add (unit c c) (pick (unit c) R c) = zero := hu
  rw [hpu] at this
  have h1 : unit c c = one := by unfold unit; rw [if_pos rfl]
  rw [h1] at this
  exact one_ne (eq_of_add this)

/-- M is what X asks to be Y. -/
def Sat (X Y M : List V) : Prop := ∀ i, i < X.length → lc (rowAt X i) M = rowAt Y i
theorem Sat.of_mul {A B M : List V} (hl : A.length = B.length) : mulM A M = B ↔ Sat A B M := by
  constructor
  · rintro rfl i hi
    unfold rowAt mulM
    rw [List.getElem?_map, List.getElem?_eq_getElem hi]
    rfl
  · intro h
    apply List.ext_getElem
    · simp [mulM, hl]
    intro i h1 h2
    have hi : i < A.length := by simpa [mulM] using h1
    have := h i hi
    unfold rowAt at this
    rw [List.getElem?_eq_getElem hi, List.getElem?_eq_getElem h2] at this
    simpa [mulM] using this
theorem Sat.swap {X Y M : List V} {a d : Nat} (hl : Y.length = X.length) (ha : a < X.length) (hd : d < X.length) :
    Sat ((X.set a (rowAt X d)).set d (rowAt X a)) ((Y.set a (rowAt Y d)).set d (rowAt Y a)) M ↔ Sat X Y M := by
  have hd2 : d < Y.length := by omega
  have ha2 : a < Y.length := by omega
  have gx : ∀ i, rowAt ((X.set a (rowAt X d)).set d (rowAt X a)) i = if i = d then rowAt X a else if i = a then rowAt X d else rowAt X i := fun i => by
    rw [rowAt_set, rowAt_set, List.length_set]
    by_cases e : d = i
    · subst e
      simp [hd]
    · have e' : ¬ i = d := fun c => e c.symm
      by_cases e2 : a = i
      · subst e2
        simp [ha, e, e']
      · have e2' : ¬ i = a := fun c => e2 c.symm
        simp [e, e', e2, e2']
  have gy : ∀ i, rowAt ((Y.set a (rowAt Y d)).set d (rowAt Y a)) i = if i = d then rowAt Y a else if i = a then rowAt Y d else rowAt Y i := fun i => by
    rw [rowAt_set, rowAt_set, List.length_set]
    by_cases e : d = i
    · subst e
      simp [hd2]
    · have e' : ¬ i = d := fun c => e c.symm
      by_cases e2 : a = i
      · subst e2
        simp [ha2, e, e']
      · have e2' : ¬ i = a := fun c => e2 c.symm
        simp [e, e', e2, e2']
  unfold Sat
  simp only [List.length_set, gx, gy]
  constructor
  · intro h i hi
    by_cases e : i = a
    · subst e
      have := h d hd
      rwa [if_pos rfl, if_pos rfl] at this
    · by_cases e2 : i = d
      · subst e2
        have := h a ha
        by_cases e3 : a = i
        · exact absurd e3.symm e
        · rwa [if_neg e3, if_neg e3, if_pos rfl, if_pos rfl] at this
      · have := h i hi
        rwa [if_neg e2, if_neg e2, if_neg e, if_neg e] at this
  · intro h i hi
    by_cases e : i = d
    · rw [if_pos e, if_pos e]; exact h a ha
    · rw [if_neg e, if_neg e]
      by_cases e2 : i = a
      · rw [if_pos e2, if_pos e2]; exact h d hd
      · rw [if_neg e2, if_neg e2]; exact h i hi
theorem Sat.scale {X Y M : List V} {d : Nat} {k : Fb} (hl : Y.length = X.length) (hd : d < X.length) (hk : k ≠ zero) :
    Sat (X.set d (smul k (rowAt X d))) (Y.set d (smul k (rowAt Y d))) M ↔ Sat X Y M := by
  have inj : ∀ u v : V, smul k u = smul k v → u = v := fun u v h => by
    have := congrArg (smul (inv k)) h
    rwa [smul_smul, smul_smul, inv_mul k hk, one_smul, one_smul] at this
  unfold Sat
  simp only [List.length_set, rowAt_set]
  constructor
  · intro h i hi
    have := h i hi
    by_cases e : d = i
    · subst e
      rw [if_pos ⟨rfl, hd⟩, if_pos ⟨rfl, by omega⟩, lc_smul] at this
      exact inj _ _ this
    · rwa [if_neg (fun c => e c.1), if_neg (fun c => e c.1)] at this
  · intro h i hi
    by_cases e : d = i
    · subst e
      rw [if_pos ⟨rfl, hd⟩, if_pos ⟨rfl, by omega⟩, lc_smul, h d hd]
    · rw [if_neg (fun c => e c.1), if_neg (fun c => e c.1)]
      exact h i hi
theorem Sat.add {X Y M : List V} {d i : Nat} {k : Fb} (hl : Y.length = X.length) (hd : d < X.length) (hi : i < X.length) (hne : i ≠ d) :
    Sat (X.set i (vadd (rowAt X i) (smul k (rowAt X d)))) (Y.set i (vadd (rowAt Y i) (smul k (rowAt Y d)))) M ↔ Sat X Y M := by
  have back : ∀ u v : V, vadd (vadd u v) v = u := fun u v => by rw [vadd_assoc, vadd_self, vadd_zero]
  unfold Sat
  simp only [List.length_set, rowAt_set]
  constructor
  · intro h j hj
    have hdd := h d hd
    rw [if_neg (fun c => hne c.1), if_neg (fun c => hne c.1)] at hdd
    have := h j hj
    by_cases e : i = j
    · subst e
      rw [if_pos ⟨rfl, hi⟩, if_pos ⟨rfl, by omega⟩, lc_add, lc_smul, hdd] at this
      have h2 := congrArg (fun u => vadd u (smul k (rowAt Y d))) this
      simpa only [back] using h2
    · rwa [if_neg (fun c => e c.1), if_neg (fun c => e c.1)] at this
  · intro h j hj
    by_cases e : i = j
    · subst e
      rw [if_pos ⟨rfl, hi⟩, if_pos ⟨rfl, by omega⟩, lc_add, lc_smul, h i hi, h d hd]
    · rw [if_neg (fun c => e c.1), if_neg (fun c => e c.1)]
      exact h j hj
/-- Behind the last column: what is asked is what stands in the first rows, and nothing in the others. -/
theorem Sat.done {A X Y M : List V} {n : Nat} (h : Ech A X (List.range n) n) (hs : ∀ x ∈ X, Supp n x) (hl : Y.length = X.length) (hM : M.length = n) :
    Sat X Y M ↔ M = Y.take n ∧ ∀ i, n ≤ i → i < Y.length → rowAt Y i = vzero := by
  have hle : n ≤ X.length := by have := h.le; simpa using this
  have get : ∀ t, t < n → (List.range n)[t]? = some t := fun t ht => List.getElem?_range ht
  have hu : ∀ i, i < n → rowAt X i = unit i := fun i hi => by
    funext j
    unfold unit
    by_cases e : j = i
    · subst e
      rw [if_pos rfl, h.lead j j (get j hi)]
    · rw [if_neg e]
      by_cases e2 : j < n
      · exact h.apart j j (get j e2) i (fun c => e c.symm)
      · exact hs _ (rowAt_mem (by omega)) j (by omega)
  have hz : ∀ i, n ≤ i → rowAt X i = vzero := fun i hi => by
    funext j
    by_cases e : j < n
    · exact h.rest i (by simpa using hi) j e
    · by_cases e2 : i < X.length
      · exact hs _ (rowAt_mem e2) j (by omega)
      · rw [rowAt_out (by omega)]
  constructor
  · intro hsat
    refine ⟨?_, fun i h1 h2 => ?_⟩
    · apply List.ext_getElem
      · rw [List.length_take, hM]; omega
      intro i h1 h2
      have hi : i < n := by omega
      have := hsat i (by omega)
      rw [hu i hi, lc_unit] at this
      unfold rowAt at this
      rw [List.getElem?_eq_getElem h1, List.getElem?_eq_getElem (by omega : i < Y.length)] at this
      rw [List.getElem_take]
      exact this
    · have := hsat i (by omega)
      rw [hz i h1, lc_zero] at this
      exact this.symm
  · rintro ⟨rfl, h0⟩ i hi
    by_cases e : i < n
    · rw [hu i e, lc_unit]
      unfold rowAt
      rw [List.getElem?_take_of_lt e]
    · rw [hz i (by omega), lc_zero, h0 i (by omega) (by omega)]
end Go.Proofs.YtpckdjapkngpgaaDoor.L
