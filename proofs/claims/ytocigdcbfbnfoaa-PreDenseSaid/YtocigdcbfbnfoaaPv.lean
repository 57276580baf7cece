/-
  The rows ahead, plain: their rank; columns side by side.
-/
import Derived.Test.YtocigdcbfbnfoaaMs
namespace Go.Proofs.Ytocigdcbfbnfoaa
open Go.RowKit

namespace L
/-! ### Unit rows -/
theorem units_red (k : Nat) : Red ((List.range k).map unit) ((List.range k).map fun i => (i, unit i)) := by
  have hm : ∀ {p : Nat} {x : V}, (p, x) ∈ (List.range k).map (fun i => (i, unit i)) → p < k ∧ x = unit p := fun h => by
    obtain ⟨i, hi, he⟩ := List.mem_map.1 h
    cases he
    exact ⟨List.mem_range.1 hi, rfl⟩
  refine ⟨⟨?_, fun p x h => ?_, fun p x h j hj => ?_, fun p x q y h h' hne => ?_⟩, ?_⟩
  · rw [List.pairwise_map]
    exact List.pairwise_lt_range
  · obtain ⟨_, rfl⟩ := hm h
    simp [unit]
  · obtain ⟨_, rfl⟩ := hm h
    unfold unit
    rw [if_neg (by omega)]
  · obtain ⟨_, rfl⟩ := hm h
    unfold unit
    rw [if_neg (fun e => hne e.symm)]
  · have : rows ((List.range k).map fun i => (i, unit i)) = (List.range k).map unit := by
      unfold rows
      rw [List.map_map]
      rfl
    rw [this]
    exact Same.refl _
theorem units_rk (k : Nat) : rk ((List.range k).map unit) = k := by
  rw [rk_eq (units_red k)]
  simp
/-- Rows that reach each unit row have all the rank. -/
theorem rk_of_units {k : Nat} {A : List V} (hA : ∀ x ∈ A, Supp k x) (h : ∀ i, i < k → Sp A (unit i)) : rk A = k := by
  refine Nat.le_antisymm (rk_le_cols hA) ?_
  have h1 := rk_mono (n := k) (A := (List.range k).map unit) (B := A) (fun x hx => by
    obtain ⟨i, hi, rfl⟩ := List.mem_map.1 hx
    exact unit_supp (List.mem_range.1 hi)) hA (fun x hx => by
    obtain ⟨i, hi, rfl⟩ := List.mem_map.1 hx
    exact h i (List.mem_range.1 hi))
  rwa [units_rk] at h1
/-! ### Powers of unlike things, side by side -/
/-- Of k things x the first powers, the second ones, and so on. -/
def vrow (x : Nat → Fb) (k : Nat) : Nat → V
  | 0 => fun j => if j < k then x j else zero
  | h + 1 => fun j => mul (x j) (vrow x k h j)
def xmul (x : Nat → Fb) (v : V) : V := fun j => mul (x j) (v j)
theorem xmul_step (x : Nat → Fb) (c : Fb) (u v : V) : xmul x (vadd (smul c u) v) = vadd (smul c (xmul x u)) (xmul x v) := by
  funext j
  show mul (x j) (add (mul c (u j)) (v j)) = add (mul c (mul (x j) (u j))) (mul (x j) (v j))
  rw [mul_add, ← mul_assoc, mul_comm (x j) c, mul_assoc]
theorem xmul_span (x : Nat → Fb) (k d : Nat) {v : V} (h : Sp ((List.range d).map (vrow x k)) v) : Sp ((List.range (d + 1)).map (vrow x k)) (xmul x v) := by
  induction h with
  | zero =>
    have : xmul x vzero = vzero := funext fun j => mul_zero _
    rw [this]
    exact Sp.zero
  | step c u v hu _ ih =>
    rw [xmul_step]
    refine Sp.step c _ _ ?_ ih
    obtain ⟨i, hi, rfl⟩ := List.mem_map.1 hu
    exact List.mem_map.2 ⟨i + 1, List.mem_range.2 (by have := List.mem_range.1 hi; omega), rfl⟩
/-- The first powers times all (x + a), a in rs. -/
def prodv (x : Nat → Fb) (k : Nat) : List Fb → V
  | [] => vrow x k 0
  | a :: rs => vadd (xmul x (prodv x k rs)) (smul a (prodv x k rs))
theorem prodv_at (x : Nat → Fb) (k : Nat) (a : Fb) (rs : List Fb) (j : Nat) : prodv x k (a :: rs) j = mul (add (x j) a) (prodv x k rs j) := by
  show add (mul (x j) (prodv x k rs j)) (mul a (prodv x k rs j)) = _
  rw [add_mul]
theorem prodv_span (x : Nat → Fb) (k : Nat) : ∀ rs : List Fb, Sp ((List.range (rs.length + 1)).map (vrow x k)) (prodv x k rs)
  | [] => Sp.mem (by simp [prodv])
  | a :: rs => by
    have ih := prodv_span x k rs
    refine Sp.add (xmul_span x k _ ih) (Sp.smul a (Sp.mono (fun v hv => ?_) ih))
    obtain ⟨i, hi, rfl⟩ := List.mem_map.1 hv
    exact List.mem_map.2 ⟨i, List.mem_range.2 (by have := List.mem_range.1 hi; simp; omega), rfl⟩
theorem prodv_zero (x : Nat → Fb) (k j : Nat) : ∀ rs : List Fb, (k ≤ j ∨ x j ∈ rs) → prodv x k rs j = zero
  | [], h => by
    rcases h with h | h
    · show (if j < k then x j else zero) = zero
      rw [if_neg (by omega)]
    · cases h
  | a :: rs, h => by
    rw [prodv_at]
    by_cases e : x j = a
    · rw [e, add_self, zero_mul]
    · rw [prodv_zero x k j rs (by
        rcases h with h | h
        · exact .inl h
        · rcases List.mem_cons.1 h with h | h
          · exact absurd h e
          · exact .inr h), mul_zero]
theorem prodv_ne (x : Nat → Fb) (k j : Nat) (hj : j < k) (h0 : x j ≠ zero) : ∀ rs : List Fb, x j ∉ rs → prodv x k rs j ≠ zero
  | [], _ => by
    show (if j < k then x j else zero) ≠ zero
    rwa [if_pos hj]
  | a :: rs, h => by
    rw [prodv_at]
    intro e
    refine prodv_ne x k j hj h0 rs (fun c => h (List.mem_cons_of_mem _ c)) (mul_eq_zero e fun c => ?_)
    exact h (by rw [eq_of_add c]; exact List.mem_cons_self)
theorem vrow_supp (x : Nat → Fb) (k : Nat) : ∀ h, Supp k (vrow x k h)
  | 0 => fun j hj => by
    show (if j < k then x j else zero) = zero
    rw [if_neg (by omega)]
  | h + 1 => fun j hj => by
    show mul (x j) (vrow x k h j) = zero
    rw [vrow_supp x k h j hj, mul_zero]
/-- Unlike things, none of them 0: as many powers of them as there are have all the rank. -/
theorem vrow_rk (x : Nat → Fb) (k n : Nat) (hk : k ≤ n) (h0 : ∀ i, i < k → x i ≠ zero) (hne : ∀ i j, i < k → j < k → i ≠ j → x i ≠ x j) : rk ((List.range n).map (vrow x k)) = k := by
  refine rk_of_units (fun v hv => ?_) fun i hi => ?_
  · obtain ⟨h, _, rfl⟩ := List.mem_map.1 hv
    exact vrow_supp x k h
  · obtain ⟨rs, hrs⟩ : ∃ rs, ((List.range i).map x ++ (List.range (k - i - 1)).map fun j => x (i + 1 + j)) = rs := ⟨_, rfl⟩
    have hl : rs.length = k - 1 := by rw [← hrs]; simp; omega
    have hn : x i ∉ rs := by
      rw [← hrs, List.mem_append]
      rintro (h | h)
      · obtain ⟨j, hj, e⟩ := List.mem_map.1 h
        have := List.mem_range.1 hj
        exact hne j i (by omega) hi (by omega) e
      · obtain ⟨j, hj, e⟩ := List.mem_map.1 h
        have := List.mem_range.1 hj
        exact hne (i + 1 + j) i (by omega) hi (by omega) e
    have hin : ∀ j, j < k → j ≠ i → x j ∈ rs := fun j hj e => by
      rw [← hrs, List.mem_append]
      by_cases c : j < i
      · exact .inl (List.mem_map.2 ⟨j, List.mem_range.2 c, rfl⟩)
      · exact .inr (List.mem_map.2 ⟨j - i - 1, List.mem_range.2 (by omega), by rw [show i + 1 + (j - i - 1) = j from by omega]⟩)
    have hc := prodv_ne x k i hi (h0 i hi) rs hn
    have hu : unit i = smul (inv (prodv x k rs i)) (prodv x k rs) := by
      funext j
      show (if j = i then one else zero) = mul (inv (prodv x k rs i)) (prodv x k rs j)
      by_cases e : j = i
      · subst e
        rw [if_pos rfl, inv_mul _ hc]
      · rw [if_neg e, prodv_zero x k j rs (by
          by_cases c : j < k
          · exact .inr (hin j c e)
          · exact .inl (by omega)), mul_zero]
    rw [hu]
    refine Sp.smul _ (Sp.mono (fun v hv => ?_) (prodv_span x k rs))
    obtain ⟨h, hh, rfl⟩ := List.mem_map.1 hv
    have := List.mem_range.1 hh
    exact List.mem_map.2 ⟨h, List.mem_range.2 (by omega), rfl⟩
end L
/-! ### The rows ahead -/
def aheadF (K h : Nat) : Nat → Int := fun j => if j < K then expZ (((h + 1) * (j + 1) : Nat) : Int) else if j = K + h then 1 else 0
def aheadRow (K H h : Nat) : List Int := lst (K + H) (aheadF K h)
def ahead (K H : Nat) : List (List Int) := (List.range H).map (aheadRow K H)
theorem aheadF_byt (K h j : Nat) : Byt (aheadF K h j) := by
  unfold aheadF
  split
  · exact expZ_byt _
  · split <;> (unfold Byt; omega)
theorem aheadRow_length (K H h : Nat) : (aheadRow K H h).length = K + H := lst_length _ _
theorem ahead_length (K H : Nat) : (ahead K H).length = H := by simp [ahead]
theorem ahead_getD {K H h : Nat} (hh : h < H) : (ahead K H).getD h [] = aheadRow K H h := by
  simp [ahead, List.getD_eq_getElem?_getD, hh]
theorem ahead_wide (K H : Nat) : Wide (K + H) (ahead K H) := fun r hr => by
  obtain ⟨h, _, rfl⟩ := List.mem_map.1 hr
  exact ⟨aheadRow_length K H h, lst_byt fun i _ => aheadF_byt K h i⟩
theorem ahead_at {K H h j : Nat} (hh : h < H) (hj : j < K + H) : ((ahead K H).getD h []).getD j 0 = aheadF K h j := by
  rw [ahead_getD hh]
  exact lst_getD _ _ _ hj
theorem ahead_rk (K H : Nat) : rkL (ahead K H) = H := by
  have hw := (ahead_wide K H).supp
  refine Nat.le_antisymm ?_ ?_
  · have := rkL_le_rows (ahead_wide K H)
    rwa [ahead_length] at this
  · have h1 := L.rk_mono (n := H) (A := (List.range H).map L.unit) (B := L.tr (K + H) ((ahead K H).map vec)) (fun x hx => by
      obtain ⟨i, hi, rfl⟩ := List.mem_map.1 hx
      exact L.unit_supp (List.mem_range.1 hi)) (by
      have := L.tr_supp (K + H) ((ahead K H).map vec)
      rwa [List.length_map, ahead_length] at this) (fun x hx => by
      obtain ⟨i, hi, rfl⟩ := List.mem_map.1 hx
      have hi := List.mem_range.1 hi
      refine L.Sp.mem (List.mem_map.2 ⟨K + i, List.mem_range.2 (by omega), ?_⟩)
      funext t
      show L.rowAt ((ahead K H).map vec) t (K + i) = if t = i then L.one else L.zero
      rw [rowAt_vec]
      by_cases ht : t < H
      · show fb (((ahead K H).getD t []).getD (K + i) 0) = _
        rw [ahead_at ht (by omega)]
        unfold aheadF
        rw [if_neg (by omega)]
        by_cases e : t = i
        · rw [if_pos (by omega), if_pos e, fb_one]
        · rw [if_neg (by omega), if_neg e, fb_zero]
      · have : (ahead K H).getD t [] = [] := by
          rw [List.getD_eq_getElem?_getD, List.getElem?_eq_none (by rw [ahead_length]; omega)]
          rfl
        rw [this, if_neg (by omega)]
        rfl)
    rw [L.units_rk, L.rk_tr hw] at h1
    exact h1
theorem expZ_ne (n : Int) : expZ n ≠ 0 := fun h => by
  have := expZ_neg n
  rw [h, mulZ_comm, mulZ_zero] at this
  omega
theorem expZ_inj {a b : Nat} (ha : a < 255) (hb : b < 255) (h : expZ a = expZ b) : a = b := by
  rw [expZ_nat a ha, expZ_nat b hb] at h
  have h1 := lgZ_ex a ha
  have h2 := lgZ_ex b hb
  rw [h] at h1
  omega
/-- Columns of the rows ahead, side by side. -/
def sideRow (K H h first k : Nat) : List Int := ((aheadRow K H h).drop first).take k
theorem side_rk {K H first k : Nat} (hk : k ≤ H) (hf : first + k ≤ K) (hK : K ≤ 16) : rkL ((List.range H).map fun h => sideRow K H h first k) = k := by
  have hv : ∀ h, h < H → vec (sideRow K H h first k) = L.vrow (fun j => fb (expZ ((first + j + 1 : Nat) : Int))) k h := fun h hh => by
    have hat : ∀ j, (sideRow K H h first k).getD j 0 = if j < k then expZ (((h + 1) * (first + j + 1) : Nat) : Int) else 0 := fun j => by
      unfold sideRow
      by_cases c : j < k
      · rw [if_pos c, List.getD_eq_getElem?_getD, List.getElem?_take_of_lt c, List.getElem?_drop, ← List.getD_eq_getElem?_getD]
        unfold aheadRow
        rw [lst_getD _ _ _ (by omega)]
        unfold aheadF
        rw [if_pos (by omega)]
      · rw [if_neg c]
        exact getD_out (by rw [List.length_take]; omega)
    funext j
    show fb ((sideRow K H h first k).getD j 0) = _
    rw [hat]
    clear hat hh
    induction h with
    | zero =>
      show _ = if j < k then fb (expZ ((first + j + 1 : Nat) : Int)) else L.zero
      split
      · rw [Nat.zero_add, Nat.one_mul]
      · exact fb_zero
    | succ h ih =>
      show _ = L.mul (fb (expZ ((first + j + 1 : Nat) : Int))) (L.vrow _ k h j)
      rw [← ih]
      split
      · rw [← fb_mul (expZ_byt _) (expZ_byt _), expZ_add, show ((first + j + 1 : Nat) : Int) + (((h + 1) * (first + j + 1) : Nat) : Int) = (((h + 1 + 1) * (first + j + 1) : Nat) : Int) from by
          rw [← Int.natCast_add]
          congr 1
          rw [Nat.add_mul (h + 1) 1, Nat.one_mul, Nat.add_comm]]
      · rw [fb_zero, L.mul_zero]
  have he : ((List.range H).map fun h => sideRow K H h first k).map vec = (List.range H).map (L.vrow (fun j => fb (expZ ((first + j + 1 : Nat) : Int))) k) := by
    rw [List.map_map]
    exact List.map_congr_left fun h hh => hv h (List.mem_range.1 hh)
  unfold rkL
  rw [he]
  refine L.vrow_rk _ k H hk (fun i hi c => ?_) fun i j hi hj hne c => ?_
  · exact expZ_ne _ (fb_inj (expZ_byt _) (by unfold Byt; omega) (by rw [c, fb_zero]))
  · have := expZ_inj (by omega) (by omega) (fb_inj (expZ_byt _) (expZ_byt _) c)
    omega
/-- What a row ahead comes to. -/
theorem dotL_congr {x y y' : List Int} : ∀ k, (∀ j, j < k → y.getD j 0 = y'.getD j 0) → dotL x y k = dotL x y' k
  | 0, _ => rfl
  | k + 1, h => by
    show addZ (dotL x y k) _ = addZ (dotL x y' k) _
    rw [dotL_congr k fun j hj => h j (by omega), h k (by omega)]
theorem dot_ahead {K H h : Nat} (hh : h < H) {y : List Int} (hb : ∀ z ∈ y, Byt z) : ∀ t, t ≤ H → dotL (aheadRow K H h) y (K + t) = addZ (dotL (aheadRow K H h) y K) (if h < t then y.getD (K + h) 0 else 0)
  | 0, _ => by
    rw [if_neg (by omega)]
    exact (addZ_zero _ (dotL_byt _ _ _)).symm
  | t + 1, ht => by
    have ih := dot_ahead (K := K) hh hb t (by omega)
    show addZ (dotL (aheadRow K H h) y (K + t)) (mulZ ((aheadRow K H h).getD (K + t) 0) (y.getD (K + t) 0)) = _
    have hr : (aheadRow K H h).getD (K + t) 0 = if t = h then 1 else 0 := by
      unfold aheadRow
      rw [lst_getD _ _ _ (by omega)]
      unfold aheadF
      rw [if_neg (by omega)]
      by_cases e : t = h
      · rw [if_pos (by omega), if_pos e]
      · rw [if_neg (by omega), if_neg e]
    rw [ih, hr]
    have hyb := getD_byt hb (K + h)
    by_cases e : t = h
    · subst e
      rw [if_pos rfl, if_neg (by omega), if_pos (by omega), addZ_zero _ (dotL_byt _ _ _), mulZ_comm, mulZ_one _ hyb]
    · rw [if_neg e, mulZ_comm, mulZ_zero]
      by_cases c : h < t
      · rw [if_pos c, if_pos (by omega), addZ_zero _ (addZ_byt (dotL_byt _ _ _) hyb)]
      · rw [if_neg c, if_neg (by omega), addZ_zero _ (addZ_byt (dotL_byt _ _ _) (by unfold Byt; omega))]
end Go.Proofs.Ytocigdcbfbnfoaa
