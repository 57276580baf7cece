/-
  Plain linear algebra over the field of 256 elements, continued: rows side by side, reduced in the columns of the first ones. No condition.
-/
import Derived.Test.YtocigdcbfbnfoaaLsq
namespace Go.Proofs.Ytocigdcbfbnfoaa.L

/-- What stands ahead of k. -/
def cutV (k : Nat) (v : V) : V := fun j => if j < k then v j else zero
/-- What stands from k on. -/
def shV (k : Nat) (v : V) : V := fun j => v (k + j)
/-- A map of rows that keeps sums and multiples. -/
structure Lin (φ : V → V) : Prop where
  zero : φ vzero = vzero
  add : ∀ x y, φ (vadd x y) = vadd (φ x) (φ y)
  smul : ∀ c x, φ (L.smul c x) = L.smul c (φ x)
theorem cutV_lin (k : Nat) : Lin (cutV k) := by
  refine ⟨funext fun j => ?_, fun x y => funext fun j => ?_, fun c x => funext fun j => ?_⟩
  · unfold cutV
    split <;> rfl
  · show (if j < k then add (x j) (y j) else zero) = add (if j < k then x j else zero) (if j < k then y j else zero)
    split
    · rfl
    · rw [add_zero]
  · show (if j < k then mul c (x j) else zero) = mul c (if j < k then x j else zero)
    split
    · rfl
    · rw [mul_zero]
theorem Sp.lin {φ : V → V} (h : Lin φ) {A : List V} {v : V} (hv : Sp A v) : Sp (A.map φ) (φ v) := by
  induction hv with
  | zero => rw [h.zero]; exact Sp.zero
  | step c x v hx _ ih =>
    rw [h.add, h.smul]
    exact Sp.step c _ _ (List.mem_map.2 ⟨x, hx, rfl⟩) ih
theorem Same.lin {φ : V → V} (h : Lin φ) {A B : List V} (hs : Same A B) : Same (A.map φ) (B.map φ) := by
  refine Same.of (fun x hx => ?_) fun x hx => ?_
  · obtain ⟨a, ha, rfl⟩ := List.mem_map.1 hx
    exact Sp.lin h ((hs a).1 (Sp.mem ha))
  · obtain ⟨a, ha, rfl⟩ := List.mem_map.1 hx
    exact Sp.lin h ((hs a).2 (Sp.mem ha))
theorem rowAt_map {φ : V → V} (h : Lin φ) (A : List V) (i : Nat) : rowAt (A.map φ) i = φ (rowAt A i) := by
  unfold rowAt
  rw [List.getElem?_map]
  cases A[i]? with
  | none => exact h.zero.symm
  | some x => rfl
theorem cutV_lt {k j : Nat} (v : V) (h : j < k) : cutV k v j = v j := if_pos h
/-- The first columns alone. -/
theorem Ech.cut {A X : List V} {ps : List Nat} {k : Nat} (h : Ech A X ps k) : Ech (A.map (cutV k)) (X.map (cutV k)) ps k := by
  have hl := cutV_lin k
  refine ⟨h.same.lin hl, h.psort, h.plt, fun t p hp => ?_, fun t p hp j hj => ?_, fun t p hp s hs => ?_, fun s hs j hj => ?_, by rw [List.length_map]; exact h.le⟩
  · rw [rowAt_map hl, cutV_lt _ (h.plt p (List.mem_of_getElem? hp))]
    exact h.lead t p hp
  · have := h.plt p (List.mem_of_getElem? hp)
    rw [rowAt_map hl, cutV_lt _ (by omega)]
    exact h.ahead t p hp j hj
  · rw [rowAt_map hl, cutV_lt _ (h.plt p (List.mem_of_getElem? hp))]
    exact h.apart t p hp s hs
  · rw [rowAt_map hl, cutV_lt _ hj]
    exact h.rest s hs j hj
theorem cutV_supp (k : Nat) (v : V) : Supp k (cutV k v) := fun j hj => if_neg (by omega)
/-- The rank of the first columns is the number of rows that begin there. -/
theorem Ech.rank {A X : List V} {ps : List Nat} {k : Nat} (h : Ech A X ps k) : rk (A.map (cutV k)) = ps.length := by
  have hd := h.cut.done fun x hx => by
    obtain ⟨a, _, rfl⟩ := List.mem_map.1 hx
    exact cutV_supp k a
  have hle := h.le
  rw [rk_eq hd.1, List.length_zip, List.length_take, List.length_map]
  omega
theorem range_of : ∀ (ps : List Nat) (b : Nat), ps.Pairwise (· < ·) → (∀ p ∈ ps, b ≤ p ∧ p < b + ps.length) → ps = List.range' b ps.length
  | [], _, _, _ => rfl
  | p :: ps, b, hs, hb => by
    obtain ⟨h1, h2⟩ := List.pairwise_cons.1 hs
    have hp := hb p (by simp)
    rw [List.length_cons] at hp
    have hc := places_le (ps.map fun q => (q, vzero)) (p + 1) (b + (ps.length + 1)) (by
      rw [List.pairwise_map]
      exact h2) fun a ha => by
      obtain ⟨q, hq, rfl⟩ := List.mem_map.1 ha
      have e1 := h1 q hq
      have e2 := hb q (by simp [hq])
      rw [List.length_cons] at e2
      exact ⟨e1, e2.2⟩
    rw [List.length_map] at hc
    by_cases h0 : ps.length = 0
    · have : ps = [] := List.eq_nil_of_length_eq_zero h0
      subst this
      have : p = b := by simp at hp; omega
      subst this
      rfl
    · have e : p = b := by omega
      subst e
      have ih := range_of ps (p + 1) h2 fun q hq => by
        have e1 := h1 q hq
        have e2 := hb q (by simp [hq])
        rw [List.length_cons] at e2
        omega
      rw [List.length_cons, List.range'_succ, ← ih]
theorem Ech.full {A X : List V} {ps : List Nat} {k : Nat} (h : Ech A X ps k) (hk : ps.length = k) : ps = List.range k := by
  have := range_of ps 0 h.psort fun p hp => ⟨Nat.zero_le _, by have := h.plt p hp; omega⟩
  rw [this, hk, List.range_eq_range']
/-- Only as many elements count as there are rows. -/
theorem lc_congr : ∀ (M : List V) (c d : V), (∀ j, j < M.length → c j = d j) → lc c M = lc d M
  | [], _, _, _ => rfl
  | x :: M, c, d, h => by
    show vadd (smul (c 0) x) (lc (fun i => c (i + 1)) M) = vadd (smul (d 0) x) (lc (fun i => d (i + 1)) M)
    rw [h 0 (by simp), lc_congr M _ (fun i => d (i + 1)) fun j hj => h (j + 1) (by simp; omega)]
/-- M answers the row v: its first elements times M are its others. -/
def Ans (k : Nat) (M : List V) (v : V) : Prop := lc v M = shV k v
theorem Ans.span {k : Nat} {M A : List V} (h : ∀ a ∈ A, Ans k M a) {v : V} (hv : Sp A v) : Ans k M v := by
  induction hv with
  | zero => exact lc_zero M
  | step c x v hx _ ih =>
    unfold Ans at *
    rw [lc_add, lc_smul, h x hx, ih]
    rfl
theorem Ans.same {k : Nat} {M A X : List V} (h : Same A X) : (∀ a ∈ A, Ans k M a) ↔ ∀ x ∈ X, Ans k M x :=
  ⟨fun ha x hx => Ans.span ha ((h x).2 (Sp.mem hx)), fun ha x hx => Ans.span ha ((h x).1 (Sp.mem hx))⟩
theorem mem_iff_rowAt {X : List V} {P : V → Prop} : (∀ x ∈ X, P x) ↔ ∀ i, i < X.length → P (rowAt X i) := by
  refine ⟨fun h i hi => h _ (rowAt_mem hi), fun h x hx => ?_⟩
  obtain ⟨i, hi, rfl⟩ := mem_rowAt hx
  exact h i hi
/-- Reduced in all of the first columns: M answers just if it is what stands behind them, and nothing stands in the rows behind. -/
theorem Ech.answers {A X M : List V} {ps : List Nat} {k : Nat} (h : Ech A X ps k) (hk : ps.length = k) (hM : M.length = k) :
    (∀ a ∈ A, Ans k M a) ↔ (∀ i, i < k → rowAt M i = shV k (rowAt X i)) ∧ ∀ i, k ≤ i → i < X.length → rowAt X i = vzero := by
  have hp := h.full hk
  subst hp
  have hle : k ≤ X.length := by have := h.le; simpa using this
  have get : ∀ t, t < k → (List.range k)[t]? = some t := fun t ht => List.getElem?_range ht
  have hu : ∀ i, i < k → lc (rowAt X i) M = rowAt M i := fun i hi => by
    rw [← lc_unit M i]
    refine lc_congr M _ _ fun j hj => ?_
    unfold unit
    rw [hM] at hj
    by_cases e : j = i
    · subst e
      rw [if_pos rfl, h.lead j j (get j hj)]
    · rw [if_neg e]
      exact h.apart j j (get j hj) i fun c => e c.symm
  have hz : ∀ i, k ≤ i → lc (rowAt X i) M = vzero := fun i hi => by
    rw [← lc_zero M]
    refine lc_congr M _ _ fun j hj => ?_
    rw [hM] at hj
    exact h.rest i (by simpa using hi) j hj
  rw [Ans.same h.same.symm, mem_iff_rowAt]
  constructor
  · intro ha
    refine ⟨fun i hi => ?_, fun i h1 h2 => ?_⟩
    · rw [← hu i hi]
      exact ha i (by omega)
    · have e : shV k (rowAt X i) = vzero := by rw [← hz i h1]; exact (ha i h2).symm
      funext j
      by_cases hj : j < k
      · exact h.rest i (by simpa using h1) j hj
      · have := congrFun e (j - k)
        unfold shV at this
        rwa [show k + (j - k) = j by omega] at this
  · rintro ⟨h1, h2⟩ i hi
    unfold Ans
    by_cases e : i < k
    · rw [hu i e, h1 i e]
    · rw [hz i (by omega), h2 i (by omega) hi]
      rfl
end Go.Proofs.Ytocigdcbfbnfoaa.L
