/-
  The document's own answers of layer 1: products bit by bit, inverses by looking, powers and logarithms by multiplying.
-/
import Derived.Test.YtocigdcbfbnfoaaOps
namespace Go.Proofs.Ytocigdcbfbnfoaa
open Go.RowKit

theorem shr_nat (y k : Nat) : ((y : Int) / 2 ^ k) = ((y / 2 ^ k : Nat) : Int) := by
  rw [Int.natCast_ediv, Int.natCast_pow]
  rfl
theorem bit8 (y k : Nat) (h : y < 256) : (bits BinOp.and IntKind.u8 ((y : Int) / 2 ^ k) 1 == 1) = y.testBit k := by
  have h2 : y / 2 ^ k < 256 := Nat.lt_of_le_of_lt (Nat.div_le_self _ _) h
  rw [shr_nat, show (1 : Int) = ((1 : Nat) : Int) from rfl, u8_and_nat _ 1 h2 (by omega), nat_mask1, Nat.testBit_eq_decide_div_mod_eq]
  by_cases e : y / 2 ^ k % 2 = 1
  · rw [e]; simp
  · rw [decide_eq_false e, show y / 2 ^ k % 2 = 0 from by omega]
    rfl
theorem bit16 (y k : Nat) (h : y < 65536) : (bits BinOp.and IntKind.u16 ((y : Int) / 2 ^ k) 1 == 1) = y.testBit k := by
  have h2 : y / 2 ^ k < 65536 := Nat.lt_of_le_of_lt (Nat.div_le_self _ _) h
  rw [shr_nat, show (1 : Int) = ((1 : Nat) : Int) from rfl, u16_and_nat _ 1 h2 (by omega), nat_mask1, Nat.testBit_eq_decide_div_mod_eq]
  by_cases e : y / 2 ^ k % 2 = 1
  · rw [e]; simp
  · rw [decide_eq_false e, show y / 2 ^ k % 2 = 0 from by omega]
    rfl
theorem pow_le7 (k : Nat) (h : k ≤ 7) : 2 ^ k ≤ 128 := Nat.pow_le_pow_right (n := 2) (by omega) h
theorem xor16 (c x k : Nat) (hc : c < 65536) (hx : x < 300) (hk : k ≤ 7) : bits BinOp.xor IntKind.u16 (c : Int) (IntKind.u16.wrap ((x : Int) * 2 ^ k)) = ((c ^^^ x * 2 ^ k : Nat) : Int) := by
  have h1 : x * 2 ^ k < 65536 := by
    have := Nat.mul_le_mul (Nat.le_of_lt hx) (pow_le7 k hk)
    omega
  rw [show (x : Int) * 2 ^ k = ((x * 2 ^ k : Nat) : Int) from by rw [Int.natCast_mul, Int.natCast_pow]; rfl, IntKind.wrap_u16, show ((x * 2 ^ k : Nat) : Int) % 65536 = ((x * 2 ^ k : Nat) : Int) from by omega]
  exact u16_xor_nat _ _ hc h1
theorem carry_lt (x y : Nat) (hx : x < 256) : ∀ k, k ≤ 8 → M.carry x y k < 65536
  | 0, _ => by simp [M.carry]
  | k + 1, h => by
    have ih := carry_lt x y hx k (by omega)
    have h1 : x * 2 ^ k < 65536 := by
      have := Nat.mul_le_mul (Nat.le_of_lt hx) (pow_le7 k (by omega))
      omega
    simp only [M.carry]
    split
    · exact Nat.xor_lt_two_pow (n := 16) ih h1
    · simpa using ih
theorem cut_lt (p : Nat) (hp : p < 65536) : ∀ k, k ≤ 8 → M.cutDown p k < 65536
  | 0, _ => hp
  | k + 1, h => by
    have ih := cut_lt p hp k (by omega)
    have h1 : 283 * 2 ^ (7 - k) < 65536 := by
      have := Nat.mul_le_mul (Nat.le_refl 283) (pow_le7 (7 - k) (by omega))
      omega
    simp only [M.cutDown]
    split
    · exact Nat.xor_lt_two_pow (n := 16) ih h1
    · simpa using ih
theorem carry_yes (x y k : Nat) (h : y.testBit k = true) : M.carry x y (k + 1) = M.carry x y k ^^^ x * 2 ^ k := by simp [M.carry, h]
theorem carry_no (x y k : Nat) (h : y.testBit k = false) : M.carry x y (k + 1) = M.carry x y k := by simp [M.carry, h]
theorem cut_yes (p m : Nat) (h8 : 8 ≤ m) (h15 : m ≤ 15) (h : (M.cutDown p (15 - m)).testBit m = true) : M.cutDown p (15 - (m - 1)) = M.cutDown p (15 - m) ^^^ 283 * 2 ^ (m - 8) := by
  rw [show 15 - (m - 1) = (15 - m) + 1 from by omega]
  simp only [M.cutDown]
  rw [show 15 - (15 - m) = m from by omega, show 7 - (15 - m) = m - 8 from by omega, if_pos h]
theorem cut_no (p m : Nat) (h8 : 8 ≤ m) (h15 : m ≤ 15) (h : (M.cutDown p (15 - m)).testBit m = false) : M.cutDown p (15 - (m - 1)) = M.cutDown p (15 - m) := by
  rw [show 15 - (m - 1) = (15 - m) + 1 from by omega]
  simp only [M.cutDown]
  rw [show 15 - (15 - m) = m from by omega, h]
  simp

set_option maxRecDepth 100000 in
set_option maxHeartbeats 400000 in
theorem refMul_any (a b : Int) (ha : Byt a) (hb : Byt b) (w : World) :
    Calls Try.prog 32 #[.int .u8 a, .int .u8 b] w fun e w' => e = .returned (.int .u8 (mulZ a b)) ∧ w = w' := by
  obtain ⟨a0, a1⟩ := ha
  obtain ⟨b0, b1⟩ := hb
  obtain ⟨x, rfl⟩ := Int.eq_ofNat_of_zero_le a0
  obtain ⟨y, rfl⟩ := Int.eq_ofNat_of_zero_le b0
  have hx : x < 256 := by omega
  have hy : y < 256 := by omega
  go_enter Try.func32, Try.ntmps32
  go_wp2
  go_loop [5, 6] (fun p i => ∃ k : Nat, k ≤ 8 ∧ i = .int .i64 k ∧ p = .int .u16 ((M.carry x y k : Nat) : Int)) (fun _ i => 8 - (intOf i).toNat)
  case atStart => exact ⟨0, by omega, rfl, rfl⟩
  case round =>
    obtain ⟨k, hk, rfl, rfl⟩ := hrel
    by_cases hlt : k < 8
    · have hc := carry_lt x y hx k hk
      have HY := Lib.hid (carry_yes x y k)
      have HN := Lib.hid (carry_no x y k)
      have HB := Lib.hid (bit8 y k hy)
      generalize M.carry x y k = c at *
      have HX := Lib.hid (xor16 c x k hc (by omega) (by omega))
      go_wp2
      · have ht : y.testBit k = true := by rw [← HB.out]; assumption
        exact ⟨⟨k + 1, by omega, by go_num, by rw [HX.out, HY.out ht]⟩, by simp [intOf]; omega⟩
      · have ht : y.testBit k = false := by rw [← HB.out]; assumption
        exact ⟨⟨k + 1, by omega, by go_num, by rw [HN.out ht]⟩, by simp [intOf]; omega⟩
    · obtain rfl : k = 8 := by omega
      have hC := carry_lt x y hx 8 hk
      have E : Hid (M.cutDown (M.carry x y 8) 8 % 256 = M.mulN x y) := Lib.hid (M.refMulN_eq x y hx hy)
      generalize M.carry x y 8 = C at *
      go_wp2
      go_loop [5, 7] (fun p i => ∃ m : Nat, 7 ≤ m ∧ m ≤ 15 ∧ i = .int .i64 m ∧ p = .int .u16 ((M.cutDown C (15 - m) : Nat) : Int)) (fun _ i => (intOf i).toNat)
      case atStart => exact ⟨15, by omega, by omega, rfl, rfl⟩
      case round =>
        obtain ⟨m, hm, hm2, rfl, rfl⟩ := hrel
        have hc := cut_lt C hC (15 - m) (by omega)
        by_cases h8 : 8 ≤ m
        · have HY := Lib.hid (cut_yes C m h8 hm2)
          have HN := Lib.hid (cut_no C m h8 hm2)
          generalize M.cutDown C (15 - m) = c at *
          have HB := Lib.hid (bit16 c m hc)
          have HX := Lib.hid (xor16 c 283 (m - 8) hc (by omega) (by omega))
          go_wp2
          · have ht : c.testBit m = true := by rw [← HB.out]; assumption
            exact ⟨⟨m - 1, by omega, by omega, by go_num, by rw [show (283 : Int) = ((283 : Nat) : Int) from rfl, HX.out, HY.out ht]⟩, by simp [intOf]; omega⟩
          · have ht : c.testBit m = false := by rw [← HB.out]; assumption
            exact ⟨⟨m - 1, by omega, by omega, by go_num, by rw [HN.out ht]⟩, by simp [intOf]; omega⟩
        · obtain rfl : m = 7 := by omega
          go_wp2
          go_ret
          refine ⟨ret_int ?_, rfl⟩
          unfold mulZ
          rw [Int.toNat_natCast, Int.toNat_natCast, ← E.out]
          omega

theorem mul_one_iff (x k : Nat) (hx : x < 256) (hk : k < 256) (h0 : x ≠ 0) : M.mulN x k = 1 ↔ k = M.invN x :=
  ⟨fun h => M.inv_unique x k hx hk h, fun h => by rw [h]; exact M.mulN_inv x hx h0⟩


set_option maxRecDepth 100000 in
set_option maxHeartbeats 400000 in
theorem refExp_any (n : Int) (w : World) :
    Calls Try.prog 24 #[.int .i64 n] w fun e w' => e = .returned (.int .u8 (expZ n)) ∧ w = w' := by
  unfold expZ
  have hm : (n % 255).toNat < 255 := by omega
  have ht : n.tmod 255 = n % 255 ∨ (n.tmod 255 < 0 ∧ n.tmod 255 + 255 = n % 255) := by
    have := Int.tmod_eq_emod (a := n) (b := 255)
    split at this
    · omega
    · simp at this
      omega
  have hk : ((n % 255).toNat : Int) = n % 255 := by omega
  generalize n % 255 = z at *
  generalize z.toNat = k at *
  subst hk
  have M3 : Hid (∀ i : Nat, i < k → mulZ ((M.exN i : Nat) : Int) 3 = ((M.exN (i + 1) : Nat) : Int)) := Lib.hid fun i hi => by
    have h := M.ex_three i (by omega)
    rw [Nat.mod_eq_of_lt (by omega)] at h
    rw [← h]
    rfl
  have BY : Hid (∀ i : Nat, Byt ((M.exN i : Nat) : Int)) := Lib.hid fun i => by
    have := M.exN_lt i
    unfold Byt
    omega
  have E0 : Hid ((1 : Int) = ((M.exN 0 : Nat) : Int)) := Lib.hid (by rw [M.exN_zero]; rfl)
  rcases ht with ht | ⟨ht, hu⟩
  · go_enter Try.func24, Try.ntmps24
    go_wp2
    go_loop [3, 4] (fun x i => ∃ j : Nat, j ≤ k ∧ i = .int .i64 j ∧ x = .int .u8 ((M.exN j : Nat) : Int)) (fun _ i => k - (intOf i).toNat)
    case atStart => exact ⟨0, by omega, rfl, by rw [E0.out]⟩
    case round =>
      obtain ⟨j, hj, rfl, rfl⟩ := hrel
      by_cases hlt : j < k
      · go_wp2_with fail
        refine (refMul_any _ 3 (BY.out j) (by unfold Byt; omega) _).mono ?_
        rintro e w' ⟨rfl, rfl⟩
        rw [M3.out j hlt]
        go_wp2_with fail
        exact ⟨⟨j + 1, by omega, by go_num, rfl⟩, by simp [intOf]; omega⟩
      · obtain rfl : j = k := by omega
        go_wp2_with fail
        go_ret
        exact ⟨rfl, rfl⟩
  · obtain ⟨r, hr⟩ : ∃ r, n.tmod 255 = r := ⟨_, rfl⟩
    rw [hr] at ht hu
    obtain rfl : r = (k : Int) - 255 := by omega
    clear hu
    go_enter Try.func24, Try.ntmps24
    go_wp2
    clear hr
    go_loop [3, 4] (fun x i => ∃ j : Nat, j ≤ k ∧ i = .int .i64 j ∧ x = .int .u8 ((M.exN j : Nat) : Int)) (fun _ i => k - (intOf i).toNat)
    case atStart => exact ⟨0, by omega, rfl, by rw [E0.out]⟩
    case round =>
      obtain ⟨j, hj, rfl, rfl⟩ := hrel
      by_cases hlt : j < k
      · go_wp2_with fail
        refine (refMul_any _ 3 (BY.out j) (by unfold Byt; omega) _).mono ?_
        rintro e w' ⟨rfl, rfl⟩
        rw [M3.out j hlt]
        go_wp2_with fail
        exact ⟨⟨j + 1, by omega, by go_num, rfl⟩, by simp [intOf]; omega⟩
      · obtain rfl : j = k := by omega
        go_wp2_with fail
        go_ret
        exact ⟨rfl, rfl⟩


theorem within_fact (x n : Int) (h : 0 < n) : x.tmod n = x % n ∨ (x.tmod n < 0 ∧ x.tmod n + n = x % n) := by
  have h1 := Int.tmod_eq_emod (a := x) (b := n)
  have h2 := Int.emod_lt_of_pos x h
  have h3 : (n.natAbs : Int) = n := by omega
  split at h1
  · omega
  · omega
set_option maxRecDepth 100000 in
set_option maxHeartbeats 400000 in
theorem within_any (x n : Int) (h1 : 1 ≤ n) (h2 : n ≤ 1000000) (w : World) :
    Calls Try.prog 20 #[.int .i64 x, .int .i64 n] w fun e w' => e = .returned (.int .i64 (x % n)) ∧ w = w' := by
  have ht := within_fact x n (by omega)
  have h3 := Int.emod_lt_of_pos x (by omega : 0 < n)
  have h4 := Int.emod_nonneg x (by omega : n ≠ 0)
  have hn : (n == 0) = false := by simp; omega
  rcases ht with ht | ⟨ht, hu⟩
  · go_enter Try.func20, Try.ntmps20
    go_wp2_with fail
    go_ret
    exact ⟨rfl, rfl⟩
  · obtain ⟨r, hr⟩ : ∃ r, x.tmod n = r := ⟨_, rfl⟩
    rw [hr] at ht hu
    go_enter Try.func20, Try.ntmps20
    go_wp2_with fail
    go_ret
    exact ⟨rfl, rfl⟩

end Go.Proofs.Ytocigdcbfbnfoaa
