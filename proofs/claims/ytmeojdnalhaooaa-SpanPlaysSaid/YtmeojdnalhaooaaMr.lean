/-
  Reduced rows, place by place; what spans the same is reduced to the same.
-/
import Derived.Test.YtmeojdnalhaooaaAp
namespace Go.Proofs.Ytmeojdnalhaooaa
open Go.RowKit

/-- Reduced rows of n places, beginning at ps. -/
structure RedAt (n : Nat) (R : List (List Int)) (ps : List Nat) : Prop where
  len : ps.length = R.length
  wide : Wide n R
  lt : ∀ i, i < R.length → ps.getD i 0 < n
  ahead : ∀ i, i < R.length → ∀ t, t < ps.getD i 0 → (R.getD i []).getD t 0 = 0
  one : ∀ i, i < R.length → (R.getD i []).getD (ps.getD i 0) 0 = 1
  apart : ∀ i j, i < R.length → j < R.length → j ≠ i → (R.getD j []).getD (ps.getD i 0) 0 = 0
  rise : ∀ i, i + 1 < R.length → ps.getD i 0 < ps.getD (i + 1) 0
theorem RedAt.lead {n : Nat} {R : List (List Int)} {ps : List Nat} (h : RedAt n R ps) (i : Nat) (hi : i < R.length) : leadL (R.getD i []) = ps.getD i 0 :=
  leadL_at _ _ (by rw [(h.wide.at i hi).1]; exact h.lt i hi) (h.ahead i hi) (by rw [h.one i hi]; omega)
theorem IsRed.redAt {n : Nat} {A R : List (List Int)} (h : IsRed n A R) : ∃ ps, RedAt n R ps := by
  obtain ⟨hw, ps, hl, hr, _⟩ := h
  have mem : ∀ i, i < R.length → (ps.getD i 0, vec (R.getD i [])) ∈ ps.zip (R.map vec) := fun i hi => by
    apply List.mem_of_getElem? (i := i)
    rw [List.getElem?_zip_eq_some]
    rw [List.getD_eq_getElem?_getD, List.getD_eq_getElem?_getD, List.getElem?_map, List.getElem?_eq_getElem hi, List.getElem?_eq_getElem (by omega : i < ps.length)]
    exact ⟨rfl, rfl⟩
  have val : ∀ i t, vec (R.getD i []) t = fb ((R.getD i []).getD t 0) := fun _ _ => rfl
  have b0 : Byt 0 := by unfold Byt; omega
  have b1 : Byt 1 := by unfold Byt; omega
  have mono : ∀ i j, i < j → j < R.length → ps.getD i 0 < ps.getD j 0 := fun i j hij hj => by
    have hs := hr.sorted
    rw [List.pairwise_iff_getElem] at hs
    have := hs i j (by simp; omega) (by simp; omega) hij
    simp only [List.getElem_zip] at this
    rw [List.getD_eq_getElem?_getD, List.getD_eq_getElem?_getD, List.getElem?_eq_getElem (by omega : i < ps.length), List.getElem?_eq_getElem (by omega : j < ps.length)]
    exact this
  have one : ∀ i, i < R.length → (R.getD i []).getD (ps.getD i 0) 0 = 1 := fun i hi => fb_inj (hw.byt i _) b1 (by
    rw [fb_one]
    exact hr.lead _ _ (mem i hi))
  refine ⟨ps, hl, hw, fun i hi => ?_, fun i hi t ht => fb_inj (hw.byt i t) b0 (by rw [fb_zero]; exact hr.ahead _ _ (mem i hi) t ht), one, fun i j hi hj hne => fb_inj (hw.byt j _) b0 (by
    rw [fb_zero]
    refine hr.apart _ _ _ _ (mem j hj) (mem i hi) ?_
    rcases Nat.lt_or_gt_of_ne hne with c | c
    · have := mono j i c hi
      omega
    · have := mono i j c hj
      omega), fun i hi => mono i (i + 1) (by omega) hi⟩
  apply Classical.byContradiction
  intro c
  have := one i hi
  rw [getD_out (by rw [(hw.at i hi).1]; omega)] at this
  omega
theorem IsRed.same {k : Nat} {A O R : List (List Int)} (h : IsRed k A R) (hs : L.Same (A.map vec) (O.map vec)) : IsRed k O R := by
  obtain ⟨hw, ps, hl, hr, h2⟩ := h
  exact ⟨hw, ps, hl, hr, L.Same.trans h2 hs⟩
theorem IsRed.rows {k : Nat} {A R : List (List Int)} (h : IsRed k A R) : L.Same (R.map vec) (A.map vec) := by
  obtain ⟨_, ps, hl, _, h2⟩ := h
  have : L.rows (ps.zip (R.map vec)) = R.map vec := List.map_snd_zip (by simp [hl])
  rwa [this] at h2
theorem IsRed.self {k : Nat} {A R : List (List Int)} (h : IsRed k A R) : IsRed k R R := h.same (L.Same.symm h.rows)
theorem IsRed.both {k : Nat} {A R : List (List Int)} (h : IsRed k A R) : rkL (A ++ R) = R.length := by
  have hs : L.Same ((A ++ R).map vec) (A.map vec) := by
    rw [List.map_append]
    refine L.Same.of (fun x hx => ?_) (fun x hx => L.Sp.mem (List.mem_append_left _ hx))
    rcases List.mem_append.1 hx with hx | hx
    · exact L.Sp.mem hx
    · exact (h.rows x).1 (L.Sp.mem hx)
  unfold rkL
  rw [L.rk_same hs]
  exact h.rank
theorem turn_same (A : List (List Int)) (k : Nat) : L.Same (A.map vec) ((A.drop k ++ A.take k).map vec) := L.Same.of_mem fun x => by
  have : ∀ r, r ∈ A ↔ r ∈ A.drop k ++ A.take k := fun r => by
    conv => lhs; rw [← List.take_append_drop k A]
    rw [List.mem_append, List.mem_append]
    exact Or.comm
  constructor
  · intro h
    obtain ⟨r, hr, rfl⟩ := List.mem_map.1 h
    exact List.mem_map.2 ⟨r, (this r).1 hr, rfl⟩
  · intro h
    obtain ⟨r, hr, rfl⟩ := List.mem_map.1 h
    exact List.mem_map.2 ⟨r, (this r).2 hr, rfl⟩
theorem Wide.append {k : Nat} {A B : List (List Int)} (h : Wide k A) (h' : Wide k B) : Wide k (A ++ B) := fun r hr => by
  rcases List.mem_append.1 hr with hr | hr
  · exact h r hr
  · exact h' r hr
theorem Wide.drop {k : Nat} {A : List (List Int)} (h : Wide k A) (n : Nat) : Wide k (A.drop n) := fun r hr => h r (List.mem_of_mem_drop hr)
theorem IsRed.le {k : Nat} {A R : List (List Int)} (hA : Wide k A) (h : IsRed k A R) : R.length ≤ A.length ∧ R.length ≤ k := by
  have := h.rank
  exact ⟨by rw [← this]; exact rkL_le_rows hA, by rw [← this]; exact rkL_le_cols hA⟩
/-- What an answer of Reduce is, the width being known but for no rows. -/
theorem IsRed.at_width {k : Nat} {A R R' : List (List Int)} (hA : Wide k A) (h : IsRed k A R) (h' : IsRed (wd A) A R') : R' = R := by
  by_cases h0 : 0 < A.length
  · rw [hA.wd h0] at h'
    exact IsRed.unique h' h
  · obtain rfl : A = [] := List.eq_nil_of_length_eq_zero (by omega)
    have h1 := h.rank
    have h2 := h'.rank
    have h3 : L.rk (([] : List (List Int)).map vec) = 0 := rkL_nil
    rw [h3] at h1 h2
    rw [List.eq_nil_of_length_eq_zero h1.symm, List.eq_nil_of_length_eq_zero h2.symm]
theorem IsRed.widen {k : Nat} {A R : List (List Int)} (hA : Wide k A) (h : IsRed (wd A) A R) : IsRed k A R := by
  by_cases h0 : 0 < A.length
  · rwa [hA.wd h0] at h
  · obtain rfl : A = [] := List.eq_nil_of_length_eq_zero (by omega)
    have h2 := h.rank
    have h3 : L.rk (([] : List (List Int)).map vec) = 0 := rkL_nil
    rw [h3] at h2
    obtain rfl : R = [] := List.eq_nil_of_length_eq_zero h2.symm
    exact ⟨Wide.nil _, [], rfl, L.Rref.nil, L.Same.refl _⟩
/-- Where the row ahead begins; -1: there is none. -/
def lastZ (ps : List Nat) : Nat → Int
  | 0 => -1
  | k + 1 => ps.getD k 0
theorem RedAt.last {n : Nat} {R : List (List Int)} {ps : List Nat} (h : RedAt n R ps) (k : Nat) (hk : k < R.length) : lastZ ps k < ps.getD k 0 := by
  cases k with
  | zero => simp only [lastZ]; omega
  | succ k => have := h.rise k hk; simp only [lastZ]; omega
/-- What package row says of Lead. -/
def LeadOk : Prop := ∀ (va : Value) (x : List Int) (w : World), Bs w va x → x.length ≤ 1000000 →
    Calls Try.prog 26 #[va] w fun e w' => e = .returned (.int .i64 (leadL x)) ∧ Gr w w'
end Go.Proofs.Ytmeojdnalhaooaa
