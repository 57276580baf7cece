/-
  Texts laid behind one another: Pv Pw Co Px La Vh Vi.
-/
import Derived.Test.YtjkfiimlaigdhaaDoorMge
import Derived.Test.YtjkfiimlaigdhaaDoorMgb
import Derived.Deep.DeepCutAuto
import Derived.Test.YtjkfiimlaigdhaaDoorMgg
import Derived.Test.YtjkfiimlaigdhaaDoorMgf
namespace Go.Proofs.YtjkfiimlaigdhaaDoor
open Go.RowKit

namespace L
/-! ### Unit rows -/
theorem units_red (k : Nat) : Red ((List.range k).map unit) ((List.range k).map fun i => (i, unit i)) := by
  have hm : ∀ {p : Nat} {x : V}, (p, x) ∈ (List.range k).map (fun i => (i, unit i)) → p < k ∧ x = unit p := fun h => by
    obtain ⟨i, hi, he⟩ := List.mem_map.1 h
    cases he
    exact ⟨List.mem_range.1 hi, rfl⟩
  refine ⟨⟨?_, fun p x h => ?_, fun p x h j hj => ?_, fun p x q y h h' hne => ?_⟩, ?_⟩
  · rw [List.pairwise_map]
    exact List.pairwise_lt_range
  · obtain ⟨_, rfl⟩ := hm h
    simp [unit]
  · obtain ⟨_, rfl⟩ := hm h
    unfold unit
    rw [if_neg (by omega)]
  · obtain ⟨_, rfl⟩ := hm h
    unfold unit
    rw [if_neg (fun e => hne e.symm)]
  · have : rows ((List.range k).map fun i => (i, unit i)) = (List.range k).map unit := by
      unfold rows
      rw [List.map_map]
      rfl
    rw [this]
    exact Same.refl _
theorem units_rk (k : Nat) : rk ((List.range k).map unit) = k := by
  rw [rk_eq (units_red k)]
  simp
/-- Rows that reach each unit row have all the rank. -/
theorem rk_of_units {k : Nat} {A : List V} (hA : ∀ x ∈ A, Supp k x) (h : ∀ i, i < k → Sp A (unit i)) : rk A = k := by
  refine Nat.le_antisymm (rk_le_cols hA) ?_
  have h1 := rk_mono (n := k) (A := (List.range k).map unit) (B := A) (fun x hx => by
    obtain ⟨i, hi, rfl⟩ := List.mem_map.1 hx
    exact unit_supp (List.mem_range.1 hi)) hA (fun x hx => by
    obtain ⟨i, hi, rfl⟩ := List.mem_map.1 hx
    exact h i (List.mem_range.1 hi))
  rwa [units_rk] at h1
/-! ### Powers of unlike things, side by side -/
/-- Of k things x the first powers, the second ones, and so on. -/
def vrow (x : Nat → Fb) (k : Nat) : Nat → V
  | 0 => fun j => if j < k then x j else zero
  | h + 1 => fun j => mul (x j) (vrow x k h j)
def xmul (x : Nat → Fb) (v : V) : V := fun j => mul (x j) (v j)
theorem xmul_step (x : Nat → Fb) (c : Fb) (u v : V) : xmul x (vadd (smul c u) v) = vadd (smul c (xmul x u)) (xmul x v) := by
  funext j
  show mul (x j) (add (mul c (u j)) (v j)) = add (mul c (mul (x j) (u j))) (mul (x j) (v j))
  rw [mul_add, ← mul_assoc, mul_comm (x j) c, mul_assoc]
theorem xmul_span (x : Nat → Fb) (k d : Nat) {v : V} (h : Sp ((List.range d).map (vrow x k)) v) : Sp ((List.range (d + 1)).map (vrow x k)) (xmul x v) := by
  induction h with
  | zero =>
    have : xmul x vzero = vzero := funext fun j => mul_zero _
    rw [this]
    exact Sp.zero
  | step c u v hu _ ih =>
    rw [xmul_step]
    refine Sp.step c _ _ ?_ ih
    obtain ⟨i, hi, rfl⟩ := List.mem_map.1 hu
    exact List.mem_map.2 ⟨i + 1, List.mem_range.2 (by have := List.mem_range.1 hi; omega), rfl⟩
/-- The first powers times all (x + a), a in rs. -/
def prodv (x : Nat → Fb) (k : Nat) : List Fb → V
  | [] => vrow x k 0
  | a :: rs => vadd (xmul x (prodv x k rs)) (smul a (prodv x k rs))
theorem prodv_at (x : Nat → Fb) (k : Nat) (a : Fb) (rs : List Fb) (j : Nat) : prodv x k (a :: rs) j = mul (add (x j) a) (prodv x k rs j) := by
  show add (mul (x j) (prodv x k rs j)) (mul a (prodv x k rs j)) = _
  rw [add_mul]
theorem prodv_span (x : Nat → Fb) (k : Nat) : ∀ rs : List Fb, Sp ((List.range (rs.length + 1)).map (vrow x k)) (prodv x k rs)
  | [] => Sp.mem (by simp [prodv])
  | a :: rs => by
    have ih := prodv_span x k rs
    refine Sp.add (xmul_span x k _ ih) (Sp.smul a (Sp.mono (fun v hv => ?_) ih))
    obtain ⟨i, hi, rfl⟩ := List.mem_map.1 hv
    exact List.mem_map.2 ⟨i, List.mem_range.2 (by have := List.mem_range.1 hi; simp; omega), rfl⟩
theorem prodv_zero (x : Nat → Fb) (k j : Nat) : ∀ rs : List Fb, (k ≤ j ∨ x j ∈ rs) → prodv x k rs j = zero
  | [], h => by
    rcases h with h | h
    · show (if j < k then x j else zero) = zero
      rw [if_neg (by omega)]
    · cases h
  | a :: rs, h => by
    rw [prodv_at]
    by_cases e : x j = a
    · rw [e, add_self, zero_mul]
    · rw [prodv_zero x k j rs (by
        rcases h with h | h
        · exact .inl h
        · rcases List.mem_cons.1 h with h | h
          · exact absurd h e
          · exact .inr h), mul_zero]
theorem prodv_ne (x : Nat → Fb) (k j : Nat) (hj : j < k) (h0 : x j ≠ zero) : ∀ rs : List Fb, x j ∉ rs → prodv x k rs j ≠ zero
  | [], _ => by
    show (if j < k then x j else zero) ≠ zero
    rwa [if_pos hj]
  | a :: rs, h => by
    rw [prodv_at]
    intro e
    refine prodv_ne x k j hj h0 rs (fun c => h (List.mem_cons_of_mem _ c)) (mul_eq_zero e fun c => ?_)
    exact h (by rw [eq_of_add c]; exact List.mem_cons_self)
theorem vrow_supp (x : Nat → Fb) (k : Nat) : ∀ h, Supp k (vrow x k h)
  | 0 => fun j hj => by
    show (if j < k then x j else zero) = zero
    rw [if_neg (by omega)]
  | h + 1 => fun j hj => by
    show mul (x j) (vrow x k h j) = zero
    rw [vrow_supp x k h j hj, mul_zero]
/-- Unlike things, none of them 0: as many powers of them as there are have all the rank. -/
theorem vrow_rk (x : Nat → Fb) (k n : Nat) (hk : k ≤ n) (h0 : ∀ i, i < k → x i ≠ zero) (hne : ∀ i j, i < k → j < k → i ≠ j → x i ≠ x j) : rk ((List.range n).map (vrow x k)) = k := by
  refine rk_of_units (fun v hv => ?_) fun i hi => ?_
  · obtain ⟨h, _, rfl⟩ := List.mem_map.1 hv
    exact vrow_supp x k h
  · obtain ⟨rs, hrs⟩ : ∃ rs, ((List.range i).map x ++ (List.range (k - i - 1)).map fun j => x (i + 1 + j)) = rs := ⟨_, rfl⟩
    have hl : rs.length = k - 1 := by rw [← hrs]; simp; omega
    have hn : x i ∉ rs := by
      rw [← hrs, List.mem_append]
      rintro (h | h)
      · obtain ⟨j, hj, e⟩ := List.mem_map.1 h
        have := List.mem_range.1 hj
        exact hne j i (by omega) hi (by omega) e
      · obtain ⟨j, hj, e⟩ := List.mem_map.1 h
        have := List.mem_range.1 hj
        exact hne (i + 1 + j) i (by omega) hi (by omega) e
    have hin : ∀ j, j < k → j ≠ i → x j ∈ rs := fun j hj e => by
      rw [← hrs, List.mem_append]
      by_cases c : j < i
      · exact .inl (List.mem_map.2 ⟨j, List.mem_range.2 c, rfl⟩)
      · exact .inr (List.mem_map.2 ⟨j - i - 1, List.mem_range.2 (by omega), by rw [show i + 1 + (j - i - 1) = j from by omega]⟩)
    have hc := prodv_ne x k i hi (h0 i hi) rs hn
    have hu : unit i = smul (inv (prodv x k rs i)) (prodv x k rs) := by
      funext j
      show (if j = i then one else zero) = mul (inv (prodv x k rs i)) (prodv x k rs j)
      by_cases e : j = i
      · subst e
        rw [if_pos rfl, inv_mul _ hc]
      · rw [if_neg e, prodv_zero x k j rs (by
          by_cases c : j < k
          · exact .inr (hin j c e)
          · exact .inl (by omega)), mul_zero]
    rw [hu]
    refine Sp.smul _ (Sp.mono (fun v hv => ?_) (prodv_span x k rs))
    obtain ⟨h, hh, rfl⟩ := List.mem_map.1 hv
    have := List.mem_range.1 hh
    exact List.mem_map.2 ⟨h, List.mem_range.2 (by omega), rfl⟩
end L
/-! ### The rows ahead -/
def aheadF (K h : Nat) : Nat → Int := fun j => if j < K then expZ (((h + 1) * (j + 1) : Nat) : Int) else if j = K + h then 1 else 0
def aheadRow (K H h : Nat) : List Int := lst (K + H) (aheadF K h)
def ahead (K H : Nat) : List (List Int) := (List.range H).map (aheadRow K H)
theorem aheadF_byt (K h j : Nat) : Byt (aheadF K h j) := by
  unfold aheadF
  split
  · exact expZ_byt _
  · split <;> (unfold Byt; omega)
theorem aheadRow_length (K H h : Nat) : (aheadRow K H h).length = K + H := lst_length _ _
theorem ahead_length (K H : Nat) : (ahead K H).length = H := by simp [ahead]
theorem ahead_getD {K H h : Nat} (hh : h < H) : (ahead K H).getD h [] = aheadRow K H h := by
  simp [ahead, List.getD_eq_getElem?_getD, hh]
theorem ahead_wide (K H : Nat) : Wide (K + H) (ahead K H) := fun r hr => by
  obtain ⟨h, _, rfl⟩ := List.mem_map.1 hr
  exact ⟨aheadRow_length K H h, lst_byt fun i _ => aheadF_byt K h i⟩
theorem ahead_at {K H h j : Nat} (hh : h < H) (hj : j < K + H) : ((ahead K H).getD h []).getD j 0 = aheadF K h j := by
  rw [ahead_getD hh]
  exact lst_getD _ _ _ hj
theorem ahead_rk (K H : Nat) : rkL (ahead K H) = H := by
  have hw := (ahead_wide K H).supp
  refine Nat.le_antisymm ?_ ?_
  · have := rkL_le_rows (ahead_wide K H)
    rwa [ahead_length] at this
  · have h1 := L.rk_mono (n := H) (A := (List.range H).map L.unit) (B := L.tr (K + H) ((ahead K H).map vec)) (fun x hx => by
      obtain ⟨i, hi, rfl⟩ := List.mem_map.1 hx
      exact L.unit_supp (List.mem_range.1 hi)) (by
      have := L.tr_supp (K + H) ((ahead K H).map vec)
      rwa [List.length_map, ahead_length] at this) (fun x hx => by
      obtain ⟨i, hi, rfl⟩ := List.mem_map.1 hx
      have hi := List.mem_range.1 hi
      refine L.Sp.mem (List.mem_map.2 ⟨K + i, List.mem_range.2 (by omega), ?_⟩)
      funext t
      show L.rowAt ((ahead K H).map vec) t (K + i) = if t = i then L.one else L.zero
      rw [rowAt_vec]
      by_cases ht : t < H
      · show fb (((ahead K H).getD t []).getD (K + i) 0) = _
        rw [ahead_at ht (by omega)]
        unfold aheadF
        rw [if_neg (by omega)]
        by_cases e : t = i
        · rw [if_pos (by omega), if_pos e, fb_one]
        · rw [if_neg (by omega), if_neg e, fb_zero]
      · have : (ahead K H).getD t [] = [] := by
          rw [List.getD_eq_getElem?_getD, List.getElem?_eq_none (by rw [ahead_length]; omega)]
          rfl
        rw [this, if_neg (by omega)]
        rfl)
    rw [L.units_rk, L.rk_tr hw] at h1
    exact h1
theorem expZ_ne (n : Int) : expZ n ≠ 0 := fun h => by
  have := expZ_neg n
  rw [h, mulZ_comm, mulZ_zero] at this
  omega
theorem expZ_inj {a b : Nat} (ha : a < 255) (hb : b < 255) (h : expZ a = expZ b) : a = b := by
  rw [expZ_nat a ha, expZ_nat b hb] at h
  have h1 := lgZ_ex a ha
  have h2 := lgZ_ex b hb
  rw [h] at h1
  omega
/-- Columns of the rows ahead, side by side. -/
def sideRow (K H h first k : Nat) : List Int := ((aheadRow K H h).drop first).take k
theorem side_rk {K H first k : Nat} (hk : k ≤ H) (hf : first + k ≤ K) (hK : K ≤ 16) : rkL ((List.range H).map fun h => sideRow K H h first k) = k := by
  have hv : ∀ h, h < H → vec (sideRow K H h first k) = L.vrow (fun j => fb (expZ ((first + j + 1 : Nat) : Int))) k h := fun h hh => by
    have hat : ∀ j, (sideRow K H h first k).getD j 0 = if j < k then expZ (((h + 1) * (first + j + 1) : Nat) : Int) else 0 := fun j => by
      unfold sideRow
      by_cases c : j < k
      · rw [if_pos c, List.getD_eq_getElem?_getD, List.getElem?_take_of_lt c, List.getElem?_drop, ← List.getD_eq_getElem?_getD]
        unfold aheadRow
        rw [lst_getD _ _ _ (by omega)]
        unfold aheadF
        rw [if_pos (by omega)]
      · rw [if_neg c]
        exact getD_out (by rw [List.length_take]; omega)
    funext j
    show fb ((sideRow K H h first k).getD j 0) = _
    rw [hat]
    clear hat hh
    induction h with
    | zero =>
      show _ = if j < k then fb (expZ ((first + j + 1 : Nat) : Int)) else L.zero
      split
      · rw [Nat.zero_add, Nat.one_mul]
      · exact fb_zero
    | succ h ih =>
      show _ = L.mul (fb (expZ ((first + j + 1 : Nat) : Int))) (L.vrow _ k h j)
      rw [← ih]
      split
      · rw [← fb_mul (expZ_byt _) (expZ_byt _), expZ_add, show ((first + j + 1 : Nat) : Int) + (((h + 1) * (first + j + 1) : Nat) : Int) = (((h + 1 + 1) * (first + j + 1) : Nat) : Int) from by
          rw [← Int.natCast_add]
          congr 1
          rw [Nat.add_mul (h + 1) 1, Nat.one_mul, Nat.add_comm]]
      · rw [fb_zero, L.mul_zero]
  have he : ((List.range H).map fun h => sideRow K H h first k).map vec = (List.range H).map (L.vrow (fun j => fb (expZ ((first + j + 1 : Nat) : Int))) k) := by
    rw [List.map_map]
    exact List.map_congr_left fun h hh => hv h (List.mem_range.1 hh)
  unfold rkL
  rw [he]
  refine L.vrow_rk _ k H hk (fun i hi c => ?_) fun i j hi hj hne c => ?_
  · exact expZ_ne _ (fb_inj (expZ_byt _) (by unfold Byt; omega) (by rw [c, fb_zero]))
  · have := expZ_inj (by omega) (by omega) (fb_inj (expZ_byt _) (expZ_byt _) c)
    omega
/-- What a row ahead comes to. -/
theorem dotL_congr {x y y' : List Int} : ∀ k, (∀ j, j < k → y.getD j 0 = y'.getD j 0) → dotL x y k = dotL x y' k
  | 0, _ => rfl
  | k + 1, h => by
    show addZ (dotL x y k) _ = addZ (dotL x y' k) _
    rw [dotL_congr k fun j hj => h j (by omega), h k (by omega)]
theorem dot_ahead {K H h : Nat} (hh : h < H) {y : List Int} (hb : ∀ z ∈ y, Byt z) : ∀ t, t ≤ H → dotL (aheadRow K H h) y (K + t) = addZ (dotL (aheadRow K H h) y K) (if h < t then y.getD (K + h) 0 else 0)
  | 0, _ => by
    rw [if_neg (by omega)]
    exact (addZ_zero _ (dotL_byt _ _ _)).symm
  | t + 1, ht => by
    have ih := dot_ahead (K := K) hh hb t (by omega)
    show addZ (dotL (aheadRow K H h) y (K + t)) (mulZ ((aheadRow K H h).getD (K + t) 0) (y.getD (K + t) 0)) = _
    have hr : (aheadRow K H h).getD (K + t) 0 = if t = h then 1 else 0 := by
      unfold aheadRow
      rw [lst_getD _ _ _ (by omega)]
      unfold aheadF
      rw [if_neg (by omega)]
      by_cases e : t = h
      · rw [if_pos (by omega), if_pos e]
      · rw [if_neg (by omega), if_neg e]
    rw [ih, hr]
    have hyb := getD_byt hb (K + h)
    by_cases e : t = h
    · subst e
      rw [if_pos rfl, if_neg (by omega), if_pos (by omega), addZ_zero _ (dotL_byt _ _ _), mulZ_comm, mulZ_one _ hyb]
    · rw [if_neg e, mulZ_comm, mulZ_zero]
      by_cases c : h < t
      · rw [if_pos c, if_pos (by omega), addZ_zero _ (addZ_byt (dotL_byt _ _ _) hyb)]
      · rw [if_neg c, if_neg (by omega), addZ_zero _ (addZ_byt (dotL_byt _ _ _) (by unfold Byt; omega))]
end Go.Proofs.YtjkfiimlaigdhaaDoor
namespace Go.Proofs.YtjkfiimlaigdhaaDoor
open Go.RowKit

/-- Parameters, as they are handed in. -/
abbrev par (K H S : Int) : Value := .agg #[.int .i64 K, .int .i64 H, .int .i64 S]
def MayP (K H S : Int) : Prop := 1 ≤ K ∧ K ≤ 16 ∧ 1 ≤ H ∧ H ≤ 4 ∧ 1 ≤ S ∧ S ≤ 24
instance (K H S : Int) : Decidable (MayP K H S) := by unfold MayP; exact inferInstance
def colsP (K H S : Int) : Int := if MayP K H S then K + H else 0
def aheadP (K H S : Int) : List (List Int) := if MayP K H S then ahead K.toNat H.toNat else []
set_option maxHeartbeats 400000 in
theorem refMay_any (K H S : Int) (w : World) :
    Calls Tryd.prog 30 #[par K H S] w fun e w' => e = .returned (.bool (decide (MayP K H S))) ∧ Gr w w' := by
  go_enter Tryd.func30, Tryd.ntmps30
  go_wp2
  all_goals
    go_ret
    refine ⟨?_, Gr.alloc (Gr.refl _) _ _⟩
    first
      | (rw [show decide (MayP K H S) = false from decide_eq_false (by unfold MayP; omega)]; rfl)
      | (rw [show decide (MayP K H S) = decide (S ≤ 24) from by rw [decide_eq_decide]; unfold MayP; omega]; rfl)
/-- Parameters lie in block g. -/
def Par (w : World) (g : Nat) (K H S : Int) : Prop := w.heap[g]? = some (.cells #[.int .i64 K, .int .i64 H, .int .i64 S] 23 (0, 0))
theorem Par.grown {w w' : World} {g : Nat} {K H S : Int} (h : Par w g K H S) (hg : Gr w w') : Par w' g K H S := keptRow hg h
theorem Par.cell0 {w : World} {g : Nat} {K H S : Int} (h : Par w g K H S) : w.cell? ⟨g, 0, none⟩ = some (.int .i64 K) := by rw [cell_of_row w g 0 _ _ _ h]; rfl
theorem Par.cell1 {w : World} {g : Nat} {K H S : Int} (h : Par w g K H S) : w.cell? ⟨g, 1, none⟩ = some (.int .i64 H) := by rw [cell_of_row w g 1 _ _ _ h]; rfl
theorem Par.cell2 {w : World} {g : Nat} {K H S : Int} (h : Par w g K H S) : w.cell? ⟨g, 2, none⟩ = some (.int .i64 S) := by rw [cell_of_row w g 2 _ _ _ h]; rfl
set_option maxHeartbeats 400000 in
theorem params_any (a b c : Int) (w : World) :
    Calls Tryd.prog 25 #[.int .i64 a, .int .i64 b, .int .i64 c] w fun e w' => e = .returned (par (1 + a % 16) (1 + b % 4) (1 + c % 24)) ∧ Gr w w' := by
  obtain ⟨x, hx, hx2⟩ : ∃ x : Nat, a % 16 = x ∧ x < 16 := ⟨(a % 16).toNat, by omega, by omega⟩
  obtain ⟨y, hy, hy2⟩ : ∃ x : Nat, b % 4 = x ∧ x < 4 := ⟨(b % 4).toNat, by omega, by omega⟩
  obtain ⟨z, hz, hz2⟩ : ∃ x : Nat, c % 24 = x ∧ x < 24 := ⟨(c % 24).toNat, by omega, by omega⟩
  have HX := Lib.hid hx
  have HY := Lib.hid hy
  have HZ := Lib.hid hz
  rw [hx, hy, hz]
  clear hx hy hz
  go_enter Tryd.func25, Tryd.ntmps25
  go_wp2_with fail
  refine (within_any a 16 (by omega) (by omega) _).mono ?_
  rintro e w' ⟨rfl, rfl⟩
  rw [HX.out]
  go_wp2_with fail
  refine (within_any b 4 (by omega) (by omega) _).mono ?_
  rintro e w' ⟨rfl, rfl⟩
  rw [HY.out]
  go_wp2_with fail
  refine (within_any c 24 (by omega) (by omega) _).mono ?_
  rintro e w' ⟨rfl, rfl⟩
  rw [HZ.out]
  go_wp2_with fail
  exact bodyPost_ret_by (results_cell_row rfl _ _ w.heap.size 23 _ (0, 0) _ rfl (heap_alloc_new _ _) Tryd.underlying23 rfl (by kernel_rfl)) rfl ⟨rfl, Gr.alloc (Gr.refl _) _ _⟩
end Go.Proofs.YtjkfiimlaigdhaaDoor
namespace Go.Proofs.YtjkfiimlaigdhaaDoor
open Go.RowKit

def blkOf : Value → Option Nat
  | .slice (some a) _ _ => some a.block
  | _ => none
/-- Each row lies in a block of its own, from base on. -/
def Own (base : Nat) (w : World) (us : List Value) : Prop :=
  (∀ i, i < us.length → ∃ g m c, us.getD i undef = .slice (some ⟨g, 0, none⟩) m c ∧ base ≤ g ∧ g < w.heap.size) ∧
  ∀ i j, i < j → j < us.length → blkOf (us.getD i undef) ≠ blkOf (us.getD j undef)
theorem Own.nil (base : Nat) (w : World) : Own base w [] := ⟨fun i hi => by simp at hi, fun i j _ hj => by simp at hj⟩
theorem getD_append_left' {us : List Value} {u : Value} {i : Nat} (h : i < us.length) : (us ++ [u]).getD i undef = us.getD i undef := by
  rw [List.getD_eq_getElem?_getD, List.getElem?_append_left h, ← List.getD_eq_getElem?_getD]
theorem getD_append_last' (us : List Value) (u : Value) : (us ++ [u]).getD us.length undef = u := by
  rw [List.getD_eq_getElem?_getD, List.getElem?_append_right (Nat.le_refl _)]
  simp
theorem Own.append {base g m c : Nat} {w w1 w2 : World} {us : List Value} (h : Own base w us) (hg : w.heap.size ≤ g) (hg2 : g < w1.heap.size) (hb : base ≤ g) (_ : w.heap.size ≤ w1.heap.size) (h2 : w1.heap.size ≤ w2.heap.size) :
    Own base w2 (us ++ [.slice (some ⟨g, 0, none⟩) m c]) := by
  obtain ⟨ha, hd⟩ := h
  refine ⟨fun i hi => ?_, fun i j hij hj => ?_⟩
  · rw [List.length_append, List.length_singleton] at hi
    by_cases e : i < us.length
    · obtain ⟨g', m', c', q1, q2, q3⟩ := ha i e
      exact ⟨g', m', c', by rw [getD_append_left' e]; exact q1, q2, by omega⟩
    · obtain rfl : i = us.length := by omega
      exact ⟨g, m, c, getD_append_last' _ _, hb, by omega⟩
  · rw [List.length_append, List.length_singleton] at hj
    by_cases e : j < us.length
    · rw [getD_append_left' e, getD_append_left' (by omega)]
      exact hd i j hij e
    · obtain rfl : j = us.length := by omega
      rw [getD_append_last', getD_append_left' hij]
      obtain ⟨g', m', c', q1, q2, q3⟩ := ha i hij
      rw [q1]
      simp [blkOf]
      omega
def RwsO (base : Nat) (w : World) (v : Value) (L : List (List Int)) : Prop :=
  ∃ us, w.ownsRow base 25 1 v L.length us ∧ (∀ i, i < L.length → Bs w (us.getD i undef) (L.getD i []) ∧ Rb base w (us.getD i undef)) ∧ Own base w us
theorem RwsO.nil (base : Nat) (w : World) : RwsO base w (.slice none 0 0) [] := ⟨[], World.ownsRow_nil w base 25 1, fun i hi => absurd hi (by simp), Own.nil _ _⟩
theorem RwsO.rws {base : Nat} {w : World} {v : Value} {L : List (List Int)} (h : RwsO base w v L) : Rws base w v L := by
  obtain ⟨us, h1, h2, _⟩ := h
  exact ⟨us, h1, h2⟩
theorem Rws.append' {base : Nat} {w w' : World} {v v' u : Value} {L : List (List Int)} {l : List Int} {us : List Value} (ho : w.ownsRow base 25 1 v L.length us) (hr : ∀ i, i < L.length → Bs w (us.getD i undef) (L.getD i []) ∧ Rb base w (us.getD i undef))
    (hb : Bs w u l) (hrb : Rb base w u) (hown : w'.ownsRow base 25 1 v' (L.length + 1) (us ++ [u])) (hg : w.grownBy w' v.ownBlock) :
    w'.ownsRow base 25 1 v' (L ++ [l]).length (us ++ [u]) ∧ ∀ i, i < (L ++ [l]).length → Bs w' ((us ++ [u]).getD i undef) ((L ++ [l]).getD i []) ∧ Rb base w' ((us ++ [u]).getD i undef) := by
  have hlen : us.length = L.length := by have := ho.1; omega
  have hrow := ownsRow_not_bytes ho
  refine ⟨by rw [List.length_append]; exact hown, fun i hi => ?_⟩
  rw [List.length_append, List.length_singleton] at hi
  by_cases e : i < L.length
  · rw [List.getD_eq_getElem?_getD, List.getD_eq_getElem?_getD, List.getElem?_append_left (by omega), List.getElem?_append_left e, ← List.getD_eq_getElem?_getD, ← List.getD_eq_getElem?_getD]
    exact Rb.kept (hr i e).1 (hr i e).2 hg.block hrow
  · obtain rfl : i = L.length := by omega
    have e1 : (us ++ [u]).getD L.length undef = u := by rw [List.getD_eq_getElem?_getD, List.getElem?_append_right (by omega), hlen]; simp
    have e2 : (L ++ [l]).getD L.length [] = l := by rw [List.getD_eq_getElem?_getD, List.getElem?_append_right (by omega)]; simp
    rw [e1, e2]
    exact Rb.kept hb hrb hg.block hrow
/-- A store of one byte of the first row. -/
theorem RwsO.poke {base : Nat} {w : World} {v : Value} {L : List (List Int)} (h : RwsO base w v L) (h0 : 0 < L.length) (h1 : 0 < (L.getD 0 []).length) :
    ∃ gv cv g c, v = .slice (some ⟨gv, 0, none⟩) L.length cv ∧ w.cell? ⟨gv, 0, none⟩ = some (.slice (some ⟨g, 0, none⟩) (L.getD 0 []).length c) ∧ w.cell? ⟨g, 0, none⟩ = some (.int .u8 ((L.getD 0 []).getD 0 0)) ∧ w.frozen? ⟨g, 0, none⟩ = false ∧ base ≤ g ∧ L.length ≤ cv ∧ (L.getD 0 []).length ≤ c ∧
      ∀ z, Byt z → Bss (w.setCell ⟨g, 0, none⟩ (.int .u8 z)) v (L.set 0 ((L.getD 0 []).set 0 z)) := by
  obtain ⟨us, ho, hr, ho1, ho2⟩ := h
  obtain ⟨gv, cv, rfl, c1, c2, c3, c4, c5⟩ := ownsRow_cell ho h0
  obtain ⟨g, m, c, e0, e1, e2⟩ := ho1 0 (by omega)
  obtain ⟨r1, r2⟩ := hr 0 h0
  rw [e0] at r1 r2
  obtain ⟨b1, oa, c', he, b2, b3, b4, b5⟩ := r1
  obtain ⟨rfl, rfl, rfl⟩ : some (⟨g, 0, none⟩ : Addr) = oa ∧ m = (L.getD 0 []).length ∧ c = c' := by simpa using he
  obtain ⟨cur, hcur⟩ : ∃ cur, w.heap[g]? = some (.cells cur 5 (0, 0)) := by
    rcases r2 _ _ _ rfl h1 with h | h
    · exact absurd h (by simp; omega)
    · exact h
  have hgv : gv ≠ g := fun e => by
    have := (ownsRow_not_bytes ho gv rfl).2 cur
    rw [e] at this
    exact this hcur
  have hb0 := b5 _ rfl 0 h1
  refine ⟨gv, cv, g, c, rfl, by rw [c5 0 h0, e0], by have := hb0; rw [Addr.add_mid] at this; exact this, frozen_of_row w g 0 _ _ hcur, e1, c1, b2, fun z hz => ⟨some ⟨gv, 0, none⟩, cv, by rw [List.length_set], by rw [List.length_set]; exact c1, by unfold maxLen at c2; omega, (fun h => by cases h), fun a ha i hi => ?_⟩⟩
  cases ha
  rw [List.length_set] at hi
  rw [Addr.add_mid, Nat.zero_add]
  refine ⟨us.getD i undef, ?_, ?_⟩
  · have := c5 i hi
    rw [← this]
    exact World.cell?_setCell_other _ _ _ _ (fun e => hgv (by cases e; rfl))
  · by_cases e : i = 0
    · subst e
      rw [e0, List.getD_eq_getElem?_getD (l := L.set 0 _), List.getElem?_set_self h0]
      have hl : ((L.getD 0 []).set 0 z).length = (L.getD 0 []).length := List.length_set
      refine ⟨fun x hx => ?_, some ⟨g, 0, none⟩, c, by simp only [Option.getD_some]; rw [hl], by simp only [Option.getD_some]; rw [hl]; exact b2, b3, (fun h => by cases h), fun a ha j hj => ?_⟩
      · rcases List.mem_or_eq_of_mem_set hx with hx | rfl
        · exact b1 x hx
        · exact hz
      · cases ha
        simp only [Option.getD_some] at hj ⊢
        rw [hl] at hj
        by_cases ej : j = 0
        · subst ej
          rw [Addr.add_mid, cell_of_row _ g _ _ _ _ (heap_setCell_same _ _ _ _ _ _ hcur), List.getD_eq_getElem?_getD, List.getElem?_set_self h1]
          have : 0 < cur.size := by
            have hc := hb0
            rw [Addr.add_mid, cell_of_row _ g _ _ _ _ hcur] at hc
            have := (Array.getElem?_eq_some_iff.1 hc).1
            simpa using this
          simp [this]
        · have hcj := b5 _ rfl j hj
          rw [Addr.add_mid, Nat.zero_add] at hcj ⊢
          rw [List.getD_eq_getElem?_getD, List.getElem?_set_ne (fun h => ej h.symm), ← List.getD_eq_getElem?_getD, ← hcj]
          exact World.cell?_setCell_other _ _ _ _ (fun h => ej (by cases h; rfl))
    · rw [List.getD_eq_getElem?_getD (l := L.set 0 _), List.getElem?_set_ne (fun h => e h.symm), ← List.getD_eq_getElem?_getD]
      obtain ⟨g', m', c', q0, q1, q2⟩ := ho1 i (by omega)
      have hne := ho2 0 i (by omega) (by omega)
      rw [e0, q0] at hne
      have hne' : g' ≠ g := fun h => hne (by simp [blkOf, h])
      obtain ⟨s1, s2⟩ := hr i hi
      rw [q0] at s1 ⊢
      obtain ⟨t1, oa, c'', he', t2, t3, t4, t5⟩ := s1
      refine ⟨t1, oa, c'', he', t2, t3, t4, fun a ha j hj => ?_⟩
      have hae : a = ⟨g', 0, none⟩ := by
        have : some (⟨g', 0, none⟩ : Addr) = oa := (by simpa using he' : _ ∧ _).1
        rw [ha] at this
        cases this
        rfl
      rw [← t5 a ha j hj]
      subst hae
      exact World.cell?_setCell_other _ _ _ _ (fun h => hne' (by have := congrArg Addr.block h; simpa [Addr.add_mid] using this.symm))
end Go.Proofs.YtjkfiimlaigdhaaDoor
namespace Go.Proofs.YtjkfiimlaigdhaaDoor
open Go.RowKit

theorem ownsRow_not_par {w : World} {base : Nat} {v : Value} {n gp : Nat} {us : List Value} {K H S : Int} (h : w.ownsRow base 25 1 v n us) (hp : Par w gp K H S) : v.ownBlock ≠ some gp := by
  intro hg
  obtain ⟨_, ⟨rfl, _⟩ | ⟨g', c, cur, rfl, hb, hgg, _⟩⟩ := h
  · cases hg
  · simp [Value.ownBlock] at hg
    subst hg
    unfold Par at hp
    rw [hgg] at hp
    simp at hp
theorem ahead_end (K H h : Nat) : (lst (K + H) (part (aheadF K h) K)).set (K + h) 1 = aheadRow K H h := by
  rw [lst_set]
  apply lst_congr
  intro j hj
  unfold part aheadF
  by_cases e : j = K + h
  · rw [if_pos e, if_neg (by omega), if_pos e]
  · rw [if_neg e]
    by_cases c : j < K
    · rw [if_pos c]
    · rw [if_neg c, if_neg c, if_neg e]
end Go.Proofs.YtjkfiimlaigdhaaDoor
namespace Go.Proofs.YtjkfiimlaigdhaaDoor
open Go.RowKit

theorem tab_length_le' (l : Int) : (T.tab l).length ≤ 64 := by
  by_cases h : 1 ≤ l ∧ l ≤ 64
  · obtain ⟨N, rfl⟩ : ∃ N : Nat, l = N := ⟨l.toNat, by omega⟩
    rw [T.tab_in (by omega) (by omega), T.tabZ_length]
    omega
  · rw [T.tab_out h]
    simp
theorem degA_le : ∀ (t : List Int) (x : Int) (k : Nat), 0 ≤ T.degA t x k ∧ T.degA t x k ≤ (k + t.length : Nat)
  | [], x, k => by simp [T.degA]
  | a :: t, x, k => by
    have ih := degA_le t x (k + 1)
    unfold T.degA
    split
    · simp; omega
    · simp at ih ⊢
      omega
theorem drawV_le (t : List Int) (s : Nat) : 0 ≤ drawV t s ∧ drawV t s ≤ t.length := by
  unfold drawV
  split
  · omega
  · unfold T.deg
    split
    · omega
    · have := degA_le t (belowV s (lastZ' t)) 0
      simpa using this
def MayI (id : Int) : Prop := 0 ≤ id ∧ id ≤ 65535
instance (id : Int) : Decidable (MayI id) := by unfold MayI; exact inferInstance
/-- The state that a symbol's Draw begins with. -/
def mixS (seed : Nat) (id : Nat) : Nat := seed ^^^ (id * 2654435761 % 4294967296)
theorem mixS_lt {seed : Nat} (h : seed < 4294967296) (id : Nat) : mixS seed id < 4294967296 := by
  unfold mixS
  exact Nat.xor_lt_two_pow (n := 32) h (Nat.mod_lt _ (by omega))
/-- The places of the row of a symbol, N columns. -/
def atN (N seed id : Nat) : List Int := C.someZ (drawS (T.tab N) (nextS (mixS seed id))) N (drawV (T.tab N) (nextS (mixS seed id)))
def atP (K H S : Int) (seed : Nat) (id : Int) : List Int := if MayP K H S ∧ MayI id then atN (K.toNat + H.toNat) seed id.toNat else []
set_option maxHeartbeats 400000 in
theorem refMayID_any (id : Int) (w : World) :
    Calls Tryd.prog 29 #[.int .i64 id] w fun e w' => e = .returned (.bool (decide (MayI id))) ∧ w = w' := by
  go_enter Tryd.func29, Tryd.ntmps29
  go_wp2
  all_goals
    go_ret
    refine ⟨?_, rfl⟩
    first
      | (rw [show decide (MayI id) = false from decide_eq_false (by unfold MayI; omega)]; rfl)
      | (rw [show decide (MayI id) = decide (id ≤ 65535) from by rw [decide_eq_decide]; unfold MayI; omega]; rfl)
end Go.Proofs.YtjkfiimlaigdhaaDoor
namespace Go.Proofs.YtjkfiimlaigdhaaDoor
open Go.RowKit

/-- A record; its bytes apart. -/
structure Rcd where
  o : Int
  b : Int
  i : Int
  K : Int
  H : Int
  S : Int
  s : Nat
/-- As a value, with the value of its bytes. -/
def Rcd.val (r : Rcd) (v : Value) : Value := .agg #[.int .i64 r.o, .int .i64 r.b, .int .i64 r.i, .int .i64 r.K, .int .i64 r.H, .int .i64 r.S, .int .u32 (r.s : Int), v]
def MayR (r : Rcd) (d : List Int) : Prop := 0 ≤ r.o ∧ r.o ≤ 16777215 ∧ 0 ≤ r.b ∧ r.b < 8 ∧ MayI r.i ∧ MayP r.K r.H r.S ∧ (d.length : Int) = r.S
instance (r : Rcd) (d : List Int) : Decidable (MayR r d) := by unfold MayR; exact inferInstance
set_option maxRecDepth 100000 in
set_option maxHeartbeats 800000 in
theorem refMayR_any (r : Rcd) (v : Value) (d : List Int) (w : World) (h : Bs w v d) :
    Calls Tryd.prog 13 #[r.val v] w fun e w' => e = .returned (.bool (decide (MayR r d))) ∧ Gr w w' := by
  obtain ⟨o, c, rfl⟩ := h.form5
  obtain ⟨n, hn⟩ : ∃ n, d.length = n := ⟨_, rfl⟩
  obtain ⟨bm, hbm⟩ : ∃ b, decide (MayR r d) = b := ⟨_, rfl⟩
  have hif : bm = true ↔ (0 ≤ r.o ∧ r.o ≤ 16777215 ∧ 0 ≤ r.b ∧ r.b < 8 ∧ MayI r.i ∧ MayP r.K r.H r.S ∧ (n : Int) = r.S) := by
    rw [← hbm, decide_eq_true_iff, ← hn]
    rfl
  rw [hbm, hn]
  obtain ⟨ro, rb, ri, K, H, S, s⟩ := r
  have HIF : Hid (bm = true ↔ (0 ≤ ro ∧ ro ≤ 16777215 ∧ 0 ≤ rb ∧ rb < 8 ∧ MayI ri ∧ MayP K H S ∧ (n : Int) = S)) := Lib.hid hif
  have HF : Hid ((¬ bm = true) → bm = false) := Lib.hid fun h => by simpa using h
  show Calls _ _ #[.agg #[.int .i64 ro, .int .i64 rb, .int .i64 ri, .int .i64 K, .int .i64 H, .int .i64 S, .int .u32 (s : Int), _]] _ _
  clear h hbm hif
  have HA : Hid (Gr w (w.alloc (.cells #[.int .i64 ro, .int .i64 rb, .int .i64 ri, .int .i64 K, .int .i64 H, .int .i64 S, .int .u32 (s : Int), .slice o n c] 27))) := Lib.hid (Gr.alloc (Gr.refl _) _ _)
  have HC : Hid ((w.alloc (.cells #[.int .i64 ro, .int .i64 rb, .int .i64 ri, .int .i64 K, .int .i64 H, .int .i64 S, .int .u32 (s : Int), .slice o n c] 27)).heap[w.heap.size]? = some (.cells #[.int .i64 ro, .int .i64 rb, .int .i64 ri, .int .i64 K, .int .i64 H, .int .i64 S, .int .u32 (s : Int), .slice o n c] 27 (0, 0))) := Lib.hid (heap_alloc_new _ _)
  go_enter Tryd.func13, Tryd.ntmps13
  by_cases h1 : 0 ≤ ro ∧ ro ≤ 16777215 ∧ 0 ≤ rb ∧ rb < 8
  · obtain ⟨a1, a2, a3, a4⟩ := h1
    by_cases a5 : MayI ri
    · have d5 := decide_eq_true a5
      go_wp2_with fail
      refine (refMayID_any ri _).mono ?_
      rw [d5]
      rintro e w' ⟨rfl, rfl⟩
      clear d5
      go_wp2_with fail
      obtain ⟨b6, hb6⟩ : ∃ b, decide (MayP K H S) = b := ⟨_, rfl⟩
      refine (refMay_any K H S _).mono ?_
      rw [hb6]
      rintro e w2 ⟨rfl, hg2⟩
      have HC2 := keptRow hg2 HC.out
      have c5 : w2.cell? ⟨w.heap.size, 5, none⟩ = some (.int .i64 S) := by rw [cell_of_row _ _ 5 _ _ _ HC2]; rfl
      have c7 : w2.cell? ⟨w.heap.size, 7, none⟩ = some (.slice o n c) := by rw [cell_of_row _ _ 7 _ _ _ HC2]; rfl
      have G2 := Lib.hid (Gr.trans HA.out hg2)
      have HB6 := Lib.hid hb6
      clear hg2 HC2 hb6
      cases b6 with
      | false =>
        have hb : bm = false := HF.out fun h => by have := decide_eq_true ((HIF.out.1 h).2.2.2.2.2.1); rw [HB6.out] at this; cases this
        subst hb
        go_wp2_with fail
        go_ret
        exact ⟨rfl, G2.out⟩
      | true =>
        have a6 : MayP K H S := of_decide_eq_true HB6.out
        by_cases a7 : (n : Int) = S
        · have hb : bm = true := HIF.out.2 ⟨a1, a2, a3, a4, a5, a6, a7⟩
          have e7 : ((n : Int) == S) = true := beq_iff_eq.2 a7
          subst hb
          clear a7
          go_wp2_with fail
          go_ret
          exact ⟨rfl, G2.out⟩
        · have hb : bm = false := HF.out fun h => a7 ((HIF.out.1 h).2.2.2.2.2.2)
          have e7 : ((n : Int) == S) = false := beq_eq_false_iff_ne.2 a7
          subst hb
          clear a7
          go_wp2_with fail
          go_ret
          exact ⟨rfl, G2.out⟩
    · have d5 := decide_eq_false a5
      have hb : bm = false := HF.out fun h => a5 (HIF.out.1 h).2.2.2.2.1
      subst hb
      go_wp2_with fail
      refine (refMayID_any ri _).mono ?_
      rw [d5]
      rintro e w' ⟨rfl, rfl⟩
      go_wp2_with fail
      go_ret
      exact ⟨rfl, HA.out⟩
  · have hb : bm = false := HF.out fun h => h1 ⟨(HIF.out.1 h).1, (HIF.out.1 h).2.1, (HIF.out.1 h).2.2.1, (HIF.out.1 h).2.2.2.1⟩
    subst hb
    by_cases a1 : 0 ≤ ro
    · by_cases a2 : ro ≤ 16777215
      · by_cases a3 : 0 ≤ rb
        · have a4 : ¬ rb < 8 := fun h => h1 ⟨a1, a2, a3, h⟩
          go_wp2_with fail
          go_ret
          exact ⟨rfl, HA.out⟩
        · go_wp2_with fail
          go_ret
          exact ⟨rfl, HA.out⟩
      · go_wp2_with fail
        go_ret
        exact ⟨rfl, HA.out⟩
    · go_wp2_with fail
      go_ret
      exact ⟨rfl, HA.out⟩
end Go.Proofs.YtjkfiimlaigdhaaDoor
namespace Go.Proofs.YtjkfiimlaigdhaaDoor
open Go.RowKit

namespace Rc
/-- The lowest n bytes of a number, the highest of them first. -/
def highL (v : Nat) : Nat → List Int
  | 0 => []
  | n + 1 => ((v / 256 ^ n % 256 : Nat) : Int) :: highL v n
def num (a : Nat) (l : List Int) : Nat := l.foldl (fun v b => v * 256 + b.toNat) a
theorem highL_length (v n : Nat) : (highL v n).length = n := by
  induction n with
  | zero => rfl
  | succ n ih => show (_ :: highL v n).length = _; rw [List.length_cons, ih]
theorem highL_byt (v n : Nat) : ∀ x ∈ highL v n, Byt x := by
  induction n with
  | zero => intro x hx; cases hx
  | succ n ih =>
    intro x hx
    rcases List.mem_cons.1 hx with h | h
    · rw [h]
      unfold Byt
      omega
    · exact ih x h
theorem num_highL (v n a : Nat) : num a (highL v n) = a * 256 ^ n + v % 256 ^ n := by
  induction n generalizing a with
  | zero => simp [num, highL, Nat.mod_one]
  | succ n ih =>
    show num (a * 256 + ((v / 256 ^ n % 256 : Nat) : Int).toNat) (highL v n) = _
    rw [ih, Int.toNat_natCast, Nat.pow_succ, Nat.mod_mul, Nat.add_mul, Nat.mul_assoc, Nat.mul_comm 256, Nat.mul_comm (v / 256 ^ n % 256)]
    omega
end Rc
/-- What high has made behind so many rounds. -/
def highPart (v n i : Nat) : List Int := (Rc.highL v n).take (n - i)
theorem highPart_next {v n i : Nat} (h : i < n) : highPart v n (i + 1) ++ [((v / 256 ^ i % 256 : Nat) : Int)] = highPart v n i := by
  unfold highPart
  rw [show n - i = n - (i + 1) + 1 from by omega, List.take_add_one]
  congr 1
  have : ∀ (n j : Nat), j < n → (Rc.highL v n)[j]? = some ((v / 256 ^ (n - 1 - j) % 256 : Nat) : Int) := by
    intro n
    induction n with
    | zero => intro j hj; omega
    | succ n ih =>
      intro j hj
      cases j with
      | zero => rfl
      | succ j =>
        show (Rc.highL v n)[j]? = _
        rw [ih j (by omega), show n + 1 - 1 - (j + 1) = n - 1 - j from by omega]
  rw [this n _ (by omega), show n - 1 - (n - (i + 1)) = i from by omega]
  rfl
theorem kp_grown5 {w w' : World} {row : Option Nat} (hg : w.grownBy w' row) : Kp (fun k => row = some k) w w' :=
  ⟨hg.os, hg.tape, hg.output, hg.size, fun k hk hn => hg.block k hk fun e => hn e.symm⟩
set_option maxRecDepth 100000 in
set_option maxHeartbeats 800000 in
theorem high_any (vb : Value) (m base v n : Nat) (L : List Int) (w : World) (hn : n ≤ 4) (hm : m ≤ 1000) (hb : base ≤ w.heap.size) (ho : w.ownsRow base 5 1 vb m (L.map (Value.int .u8))) :
    Calls Tryd.prog 32 #[vb, .int .i64 (v : Int), .int .i64 (n : Int)] w fun e w' => ∃ u, e = .returned u ∧ w'.ownsRow base 5 1 u (m + n) ((L ++ Rc.highL v n).map (Value.int .u8)) ∧ Kp (fun k => base ≤ k) w w' := by
  obtain ⟨o, c, rfl⟩ := ownsRow_form ho
  have HO := Lib.hid ho
  clear ho
  go_enter Tryd.func32, Tryd.ntmps32
  go_wp2_with fail
  have O0 : Hid (w.ownsRow base 5 1 (.slice o m c) (m + (n - n)) ((L ++ highPart v n n).map (Value.int .u8))) := Lib.hid (by
    unfold highPart
    rw [Nat.sub_self, List.take_zero, List.append_nil]
    exact HO.out)
  have O1 : Hid (.slice o (m + (n - n)) c = Value.slice o m c) := Lib.hid (by rw [Nat.sub_self]; rfl)
  clear HO
  go_loopw [0, 7] (fun bv iv W => ∃ (r : Nat) (o : Option Addr) (c : Nat), r ≤ n ∧ iv = .int .i64 ((r : Int) - 1) ∧ bv = .slice o (m + (n - r)) c ∧ W.ownsRow base 5 1 (.slice o (m + (n - r)) c) (m + (n - r)) ((L ++ highPart v n r).map (Value.int .u8)) ∧ Kp (fun k => base ≤ k) w W ∧ base ≤ W.heap.size) (fun _ iv _ => (intOf iv + 1).toNat)
  case atStart => exact ⟨n, o, c, Nat.le_refl _, rfl, O1.out.symm, by rw [O1.out]; exact O0.out, Kp.refl _ _, hb⟩
  case round =>
    obtain ⟨wi, hwi⟩ : ∃ x, x = wr := ⟨_, rfl⟩
    subst hwi
    obtain ⟨r, o2, c2, hr, rfl, rfl, ho, hk, hbs⟩ := hrel
    clear O0 O1
    have OO := Lib.hid ho
    have HK := Lib.hid hk
    obtain ⟨mm, hmm⟩ : ∃ x, m + (n - r) = x := ⟨_, rfl⟩
    have HMM := Lib.hid hmm
    rw [hmm] at OO ⊢
    clear ho hk hmm
    by_cases h0 : 0 < r
    · obtain ⟨j, rfl⟩ : ∃ j, r = j + 1 := ⟨r - 1, by omega⟩
      have k0 : ((j + 1 : Nat) : Int) - 1 = (j : Int) := by omega
      obtain ⟨e, he⟩ : ∃ e : Nat, (8 : Int) * (j : Int) = e := ⟨8 * j, by omega⟩
      obtain ⟨y, hy⟩ : ∃ y : Nat, v / 256 ^ j = y := ⟨_, rfl⟩
      have hz : (v : Int) / 2 ^ e = (y : Int) := by
        have : e = 8 * j := by omega
        subst this
        have e2 : (2 : Int) ^ (8 * j) = ((256 ^ j : Nat) : Int) := by
          rw [show (256 : Nat) ^ j = 2 ^ (8 * j) from by rw [Nat.pow_mul]]
          simp
        rw [← hy, e2, Int.natCast_ediv]
      have k1 : IntKind.i64.wrap (e : Int) = e := by simp [IntKind.wrap, IntKind.bits, IntKind.signed]; omega
      have k2 : (0 : Int) ≤ (e : Int) := by omega
      have k3 : (0 : Int) ≤ (j : Int) := by omega
      obtain ⟨y8, hy8, hy9⟩ : ∃ x, y % 256 = x ∧ x < 256 := ⟨_, rfl, by omega⟩
      have k4 : (y : Int) % 256 = (y8 : Int) := by omega
      have HNX : Hid (highPart v n (j + 1) ++ [(y8 : Int)] = highPart v n j) := Lib.hid (by rw [← hy8, ← hy]; exact highPart_next (by omega))
      have hml : mm ≤ 2000 := by have := HMM.out; omega
      rw [k0]
      clear hy k0 hy8
      go_wp2_with (first
        | (at_builtin; refine wpList_append_bytes rfl _ _ rfl base (.slice o2 mm c2) mm (L ++ highPart v n (j + 1)) rfl (OO.out.alloc _) (some ⟨wi.heap.size, 0, none⟩) 1 1 [(y8 : Int)] rfl (lit_bs1 [_] (by intro z hz; obtain rfl := List.mem_singleton.1 hz; unfold Byt; omega) (by simp)) (by omega) (by simp; omega) ?_; intro v6 w6 ho6 hg6; obtain ⟨o6, c6, rfl⟩ := ownsRow_form ho6; have O6 := Lib.hid ho6; have K6 := Lib.hid hg6; clear ho6 hg6))
      refine ⟨⟨j, o6, c6, by omega, by go_num, ?_, ?_, ?_, ?_⟩, by simp [intOf]⟩
      · rw [← HMM.out, show m + (n - j) = m + (n - (j + 1)) + 1 from by omega]
      · have h := O6.out
        rw [List.append_assoc, HNX.out, ← HMM.out] at h
        rw [show m + (n - j) = m + (n - (j + 1)) + 1 from by omega]
        exact h
      · exact ((HK.out).alloc _ _).trans (kp_grown5 K6.out) fun k hk => .inl (ownsRow_base OO.out k hk)
      · exact Nat.le_trans hbs (Nat.le_trans (Gr.alloc (Gr.refl wi) _ _).size K6.out.size)
    · obtain rfl : r = 0 := by omega
      go_wp2_with fail
      go_ret
      refine ⟨_, rfl, ?_, HK.out⟩
      have h := OO.out
      unfold highPart at h
      rw [Nat.sub_zero, List.take_of_length_le (by rw [Rc.highL_length]; exact Nat.le_refl _)] at h
      rw [show m + n = mm from by rw [← HMM.out, Nat.sub_zero]]
      exact h
theorem num_snoc (a : Nat) (l : List Int) (x : Int) : Rc.num a (l ++ [x]) = Rc.num a l * 256 + x.toNat := by
  unfold Rc.num
  rw [List.foldl_append]
  rfl
theorem num_lt {l : List Int} (hb : ∀ x ∈ l, Byt x) : Rc.num 0 l < 256 ^ l.length := by
  have : ∀ (a : Nat), Rc.num a l < (a + 1) * 256 ^ l.length := by
    induction l with
    | nil => intro a; simp [Rc.num]
    | cons x l ih =>
      intro a
      have hx := hb x (by simp)
      unfold Byt at hx
      have h := ih (fun y hy => hb y (by simp [hy])) (a * 256 + x.toNat)
      show Rc.num (a * 256 + x.toNat) l < _
      rw [List.length_cons, Nat.pow_succ]
      refine Nat.lt_of_lt_of_le h ?_
      have h2 : (a * 256 + x.toNat + 1) * 256 ^ l.length ≤ ((a + 1) * 256) * 256 ^ l.length := Nat.mul_le_mul_right _ (by omega)
      rw [Nat.mul_comm (256 ^ l.length) 256, ← Nat.mul_assoc]
      exact h2
  simpa using this 0
theorem or_add (a x : Nat) (hx : x < 256) : a * 256 ||| x = a * 256 + x := by
  have h := Nat.two_pow_add_eq_or_of_lt (i := 8) hx a
  rw [Nat.mul_comm a 256]
  exact h.symm
theorem i64_or_nat5 (a b : Nat) (ha : a < 9223372036854775808) (hb : b < 9223372036854775808) : bits BinOp.or IntKind.i64 (a : Int) (b : Int) = ((a ||| b : Nat) : Int) := by
  have hx : a ||| b < 2 ^ 63 := Nat.or_lt_two_pow (by omega) (by omega)
  show IntKind.i64.wrap ((BitVec.ofInt 64 (a : Int) ||| BitVec.ofInt 64 (b : Int)).toNat : Int) = _
  rw [BitVec.toNat_or, ofInt_u64 a (by omega), ofInt_u64 b (by omega)]
  generalize a ||| b = x at *
  simp [IntKind.wrap, IntKind.bits, IntKind.signed]
  omega
set_option maxRecDepth 100000 in
set_option maxHeartbeats 800000 in
theorem number_any (v : Value) (l : List Int) (w : World) (h : Bs w v l) (hl : l.length ≤ 4) :
    Calls Tryd.prog 36 #[v] w fun e w' => e = .returned (.int .i64 (Rc.num 0 l : Nat)) ∧ Gr w w' := by
  obtain ⟨o, c, rfl⟩ := h.form5
  obtain ⟨n, hn⟩ : ∃ n, l.length = n := ⟨_, rfl⟩
  have HN := Lib.hid hn
  rw [hn] at h hl ⊢
  have H := Lib.hid h
  clear h hn
  have h0 : Rc.num 0 (l.take 0) = 0 := rfl
  have H0 := Lib.hid h0
  clear h0
  go_enter Tryd.func36, Tryd.ntmps36
  go_wp2_with fail
  go_loopw [3, 7] (fun vv iv W => ∃ i s : Nat, i ≤ n ∧ iv = .int .i64 i ∧ vv = .int .i64 (s : Int) ∧ Rc.num 0 (l.take i) = s ∧ w = W) (fun _ iv _ => n - (intOf iv).toNat)
  case atStart => exact ⟨0, 0, by omega, rfl, rfl, H0.out, rfl⟩
  case round =>
    obtain ⟨i, s, hi, rfl, rfl, hs, rfl⟩ := hrel
    have hsb : s < 4294967296 := by
      rw [← hs]
      refine Nat.lt_of_lt_of_le (num_lt fun x hx => H.out.1 x (List.mem_of_mem_take hx)) ?_
      have : (l.take i).length ≤ 4 := by rw [List.length_take]; have := HN.out; omega
      exact Nat.le_trans (Nat.pow_le_pow_right (by omega) this) (by omega)
    by_cases hlt : i < n
    · have hbi := Crc.getD_byt H.out.1 i
      obtain ⟨b, hb1⟩ : ∃ b : Nat, l.getD i 0 = b := ⟨(l.getD i 0).toNat, by unfold Byt at hbi; omega⟩
      have hb2 : b < 256 := by unfold Byt at hbi; omega
      obtain ⟨ad, c2, hv, _, _, hcell⟩ := Bs.at H.out (by rw [HN.out]; omega)
      obtain ⟨rfl, _, rfl⟩ : o = some ad ∧ n = l.length ∧ c = c2 := by simpa using hv
      have q1 := hcell i (by rw [HN.out]; exact hlt)
      rw [hb1] at q1
      obtain ⟨s8, hs8, hs9⟩ : ∃ x : Nat, (s : Int) * 256 = x ∧ x = s * 256 := ⟨s * 256, by omega, rfl⟩
      have k1 : IntKind.i64.wrap (s8 : Int) = s8 := by simp [IntKind.wrap, IntKind.bits, IntKind.signed]; omega
      have k2 : IntKind.i64.wrap (b : Int) = b := by simp [IntKind.wrap, IntKind.bits, IntKind.signed]; omega
      have k3 := i64_or_nat5 s8 b (by omega) (by omega)
      obtain ⟨s', hs', hs2⟩ : ∃ x, s8 ||| b = x ∧ x = s * 256 + b := ⟨_, rfl, by rw [hs9]; exact or_add s b hb2⟩
      rw [hs'] at k3
      have HNX : Hid (Rc.num 0 (l.take (i + 1)) = s') := Lib.hid (by
        rw [List.take_add_one, List.getElem?_eq_getElem (by rw [HN.out]; exact hlt)]
        show Rc.num 0 (l.take i ++ [l[i]'_]) = _
        rw [num_snoc, hs, hs2]
        rw [List.getD_eq_getElem?_getD, List.getElem?_eq_getElem (by rw [HN.out]; exact hlt)] at hb1
        simp only [Option.getD_some] at hb1
        rw [hb1, Int.toNat_natCast])
      clear hs hbi hb1 hs' hs2 hs9 hv hcell
      go_wp2_with fail
      exact ⟨⟨i + 1, s', by omega, by go_num, rfl, HNX.out, trivial⟩, by simp [intOf]; omega⟩
    · obtain rfl : i = n := by omega
      rw [List.take_of_length_le (by have := HN.out; omega)] at hs
      have HS := Lib.hid hs
      clear hs
      go_wp2_with fail
      go_ret
      exact ⟨by rw [HS.out]; rfl, Gr.refl _⟩
end Go.Proofs.YtjkfiimlaigdhaaDoor
