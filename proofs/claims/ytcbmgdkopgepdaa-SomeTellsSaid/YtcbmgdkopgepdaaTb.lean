/-
  The table of degrees, plain: weights, their sums, the degree of a number. No condition.
-/
import Derived.Test.YtcbmgdkopgepdaaProg
namespace Go.Proofs.Ytcbmgdkopgepdaa.T

/-- The least number whose square is not below l (l up to 64). -/
def root (l : Nat) : Nat := ((List.range 9).find? fun r => decide (l ≤ r * r)).getD 0
/-- The number of binary digits. -/
def digits : Nat → Nat → Nat
  | 0, _ => 0
  | n + 1, x => if x = 0 then 0 else digits n (x / 2) + 1
def peak (l : Nat) : Nat := l / root l
/-- The weight of k, with l columns. -/
def weight (l k : Nat) : Nat :=
  (if 1 < k then 1048576 / (k * (k - 1)) else 1048576 / l) + (if k < peak l then 1048576 * root l / (l * k) else 0) + (if k = peak l then 1048576 * root l * digits 9 (root l) / l else 0)
def sum (l : Nat) : Nat → Nat
  | 0 => 0
  | k + 1 => sum l k + weight l (k + 1)
/-- The table, for l from 1 to 64. -/
def tabZ (l : Nat) : List Int := (List.range l).map fun i => ((sum l (i + 1) : Nat) : Int)
def tab (l : Int) : List Int := if 1 ≤ l ∧ l ≤ 64 then tabZ l.toNat else []
theorem tab_in {l : Nat} (h1 : 1 ≤ l) (h2 : l ≤ 64) : tab l = tabZ l := by
  unfold tab
  rw [if_pos ⟨by omega, by omega⟩, Int.toNat_natCast]
theorem tab_out {l : Int} (h : ¬ (1 ≤ l ∧ l ≤ 64)) : tab l = [] := if_neg h
theorem tabZ_length (l : Nat) : (tabZ l).length = l := by simp [tabZ]
theorem tabZ_at {l i : Nat} (h : i < l) : (tabZ l).getD i 0 = ((sum l (i + 1) : Nat) : Int) := by
  unfold tabZ
  rw [List.getD_eq_getElem?_getD, List.getElem?_map, List.getElem?_range h]
  rfl
theorem weight_pos {l k : Nat} (h1 : 1 ≤ l) (h2 : l ≤ 64) (_ : 1 ≤ k) (h4 : k ≤ 64) : 1 ≤ weight l k := by
  unfold weight
  have : 1 ≤ (if 1 < k then 1048576 / (k * (k - 1)) else 1048576 / l) := by
    split
    · have : k * (k - 1) ≤ 64 * 63 := Nat.mul_le_mul h4 (by omega)
      exact (Nat.le_div_iff_mul_le (Nat.mul_pos (by omega) (by omega))).2 (by omega)
    · exact (Nat.le_div_iff_mul_le (by omega)).2 (by omega)
  omega
theorem sum_lt {l : Nat} (h1 : 1 ≤ l) (h2 : l ≤ 64) : ∀ j i, i < j → j ≤ l → sum l i < sum l j
  | 0, _, h, _ => absurd h (by omega)
  | j + 1, i, h, hj => by
    have hw := weight_pos h1 h2 (k := j + 1) (by omega) (by omega)
    show sum l i < sum l j + weight l (j + 1)
    by_cases e : i = j
    · subst e; omega
    · have := sum_lt h1 h2 j i (by omega) (by omega)
      omega
set_option maxRecDepth 100000 in
theorem sum_top : ∀ l, l < 65 → sum l l < 8388608 := by decide +kernel
set_option maxRecDepth 100000 in
theorem weight_two : ∀ l, l < 65 → ∀ k, k < 65 → 2 ≤ k → k < l → k + 1 ≠ peak l → weight l (k + 1) ≤ weight l 2 := by decide +kernel
set_option maxRecDepth 100000 in
theorem root_ok : ∀ l, l < 65 → 1 ≤ l → l ≤ root l * root l ∧ 1 ≤ root l ∧ root l ≤ 8 ∧ ∀ r, r < 9 → r < root l → r * r < l := by decide +kernel
theorem root_eq {l r : Nat} (h1 : 1 ≤ l) (h2 : l ≤ 64) (h : l ≤ r * r) (hm : ∀ i, i < r → i * i < l) : r = root l := by
  obtain ⟨q1, q2, q3, q4⟩ := root_ok l (by omega) h1
  apply Classical.byContradiction
  intro e
  rcases Nat.lt_or_gt_of_ne e with c | c
  · have := q4 r (by omega) c
    omega
  · have := hm (root l) c
    omega
theorem digits_ok' : ∀ r, r < 9 → 1 ≤ r → ∀ j, j < 5 → r / 2 ^ j = 0 → ((List.range j).all fun i => r / 2 ^ i != 0) = true → digits 9 r = j := by decide +kernel
theorem digits_ok {r j : Nat} (h1 : r < 9) (h2 : 1 ≤ r) (h3 : j < 5) (h4 : r / 2 ^ j = 0) (h5 : ∀ i, i < j → r / 2 ^ i ≠ 0) : digits 9 r = j :=
  digits_ok' r h1 h2 j h3 h4 (List.all_eq_true.2 fun i hi => by simpa using h5 i (List.mem_range.1 hi))
theorem half_ok : ∀ r, r < 9 → ∀ j, j < 5 → r / 2 ^ j ≠ 0 → j < 4 := by decide +kernel
theorem digits_le : ∀ r, r < 9 → digits 9 r ≤ 4 := by decide +kernel
theorem sum_le {l : Nat} (h1 : 1 ≤ l) (h2 : l ≤ 64) {i : Nat} (hi : i ≤ l) : sum l i < 8388608 := by
  have := sum_top l (by omega)
  by_cases e : i = l
  · rw [e]; exact this
  · have := sum_lt h1 h2 l i (by omega) (Nat.le_refl _)
    omega
/-- The degree of a number. -/
def degA : List Int → Int → Nat → Int
  | [], _, _ => 0
  | a :: t, x, k => if x < a then ((k + 1 : Nat) : Int) else degA t x (k + 1)
def deg (t : List Int) (x : Int) : Int := if x < 0 then 0 else degA t x 0
theorem degA_at : ∀ (t : List Int) (x : Int) (k j : Nat), j < t.length → (∀ i, i < j → t.getD i 0 ≤ x) → x < t.getD j 0 → degA t x k = ((k + j + 1 : Nat) : Int)
  | [], _, _, _, h, _, _ => absurd h (by simp)
  | a :: t, x, k, 0, _, _, h => by
    have : x < a := by simpa using h
    unfold degA
    rw [if_pos this]
  | a :: t, x, k, j + 1, hj, hb, h => by
    have h0 : a ≤ x := by simpa using hb 0 (by omega)
    unfold degA
    rw [if_neg (by omega), degA_at t x (k + 1) j (by simpa using hj) (fun i hi => by simpa using hb (i + 1) (by omega)) (by simpa using h)]
    congr 1
    omega
theorem degA_none : ∀ (t : List Int) (x : Int) (k : Nat), (∀ i, i < t.length → t.getD i 0 ≤ x) → degA t x k = 0
  | [], _, _, _ => rfl
  | a :: t, x, k, h => by
    have h0 : a ≤ x := by simpa using h 0 (by simp)
    unfold degA
    rw [if_neg (by omega)]
    exact degA_none t x (k + 1) fun i hi => by simpa using h (i + 1) (by simpa using hi)
theorem deg_at {t : List Int} {x : Int} {j : Nat} (h0 : 0 ≤ x) (hj : j < t.length) (hb : ∀ i, i < j → t.getD i 0 ≤ x) (h : x < t.getD j 0) : deg t x = ((j + 1 : Nat) : Int) := by
  unfold deg
  rw [if_neg (by omega), degA_at t x 0 j hj hb h, Nat.zero_add]
theorem deg_none {t : List Int} {x : Int} (hb : ∀ i, i < t.length → t.getD i 0 ≤ x) : deg t x = 0 := by
  unfold deg
  split
  · rfl
  · exact degA_none t x 0 hb
theorem deg_low {t : List Int} {x : Int} (h : x < 0) : deg t x = 0 := if_pos h
theorem deg_nil (x : Int) : deg [] x = 0 := deg_none fun i hi => absurd hi (by simp)
theorem least {P : Nat → Prop} : ∀ n, P n → ∃ j, j ≤ n ∧ P j ∧ ∀ i, i < j → ¬ P i := by
  intro n
  induction n using Nat.strongRecOn with
  | _ n ih =>
    intro h
    by_cases hex : ∃ i, i < n ∧ P i
    · obtain ⟨i, hi, hp⟩ := hex
      obtain ⟨j, h1, h2, h3⟩ := ih i hi hp
      exact ⟨j, by omega, h2, h3⟩
    · exact ⟨n, Nat.le_refl _, h, fun i hi hp => hex ⟨i, hi, hp⟩⟩
/-- Below the last number there is a degree. -/
theorem deg_some {t : List Int} {x : Int} (h0 : 0 ≤ x) (hl : 0 < t.length) (hx : x < t.getD (t.length - 1) 0) : ∃ j, j < t.length ∧ deg t x = ((j + 1 : Nat) : Int) := by
  obtain ⟨j, hj, h1, h2⟩ := least (P := fun j => x < t.getD j 0) (t.length - 1) hx
  exact ⟨j, by omega, deg_at h0 (by omega) (fun i hi => by have := h2 i hi; omega) h1⟩
end Go.Proofs.Ytcbmgdkopgepdaa.T
