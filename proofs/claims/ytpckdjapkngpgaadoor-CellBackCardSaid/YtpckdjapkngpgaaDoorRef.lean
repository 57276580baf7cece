/-
  The document's own answers of layer 1: products bit by bit, inverses by looking, powers and logarithms by multiplying.
-/
import Derived.Test.YtpckdjapkngpgaaDoorOps
namespace Go.Proofs.YtpckdjapkngpgaaDoor
open Go.RowKit

theorem shr_nat (y k : Nat) : ((y : Int) / 2 ^ k) = ((y / 2 ^ k : Nat) : Int) := by
  rw [Int.natCast_ediv, Int.natCast_pow]
  rfl
theorem bit8 (y k : Nat) (h : y < 256) : (bits BinOp.and IntKind.u8 ((y : Int) / 2 ^ k) 1 == 1) = y.testBit k := by
  have h2 : y / 2 ^ k < 256 := Nat.lt_of_le_of_lt (Nat.div_le_self _ _) h
  rw [shr_nat, show (1 : Int) = ((1 : Nat) : Int) from rfl, u8_and_nat _ 1 h2 (by omega), nat_mask1, Nat.testBit_eq_decide_div_mod_eq]
  by_cases e : y / 2 ^ k % 2 = 1
  · rw [e]; simp
  · rw [decide_eq_false e, show y / 2 ^ k % 2 = 0 from by omega]
    rfl
theorem bit16 (y k : Nat) (h : y < 65536) : (bits BinOp.and IntKind.u16 ((y : Int) / 2 ^ k) 1 == 1) = y.testBit k := by
  have h2 : y / 2 ^ k < 65536 := Nat.lt_of_le_of_lt (Nat.div_le_self _ _) h
  rw [shr_nat, show (1 : Int) = ((1 : Nat) : Int) from rfl, u16_and_nat _ 1 h2 (by omega), nat_mask1, Nat.testBit_eq_decide_div_mod_eq]
  by_cases e : y / 2 ^ k % 2 = 1
  · rw [e]; simp
  · rw [decide_eq_false e, show y / 2 ^ k % 2 = 0 from by omega]
    rfl
theorem pow_le7 (k : Nat) (h : k ≤ 7) : 2 ^ k ≤ 128 := Nat.pow_le_pow_right (n := 2) (by omega) h
theorem xor16 (c x k : Nat) (hc : c < 65536) (hx : x < 300) (hk : k ≤ 7) : bits BinOp.xor IntKind.u16 (c : Int) (IntKind.u16.wrap ((x : Int) * 2 ^ k)) = ((c ^^^ x * 2 ^ k : Nat) : Int) := by
  have h1 : x * 2 ^ k < 65536 := by
    have := Nat.mul_le_mul (Nat.le_of_lt hx) (pow_le7 k hk)
    omega
  rw [show (x : Int) * 2 ^ k = ((x * 2 ^ k : Nat) : Int) from by rw [Int.natCast_mul, Int.natCast_pow]; rfl, IntKind.wrap_u16, show ((x * 2 ^ k : Nat) : Int) % 65536 = ((x * 2 ^ k : Nat) : Int) from by omega]
  exact u16_xor_nat _ _ hc h1
theorem carry_lt (x y : Nat) (hx : x < 256) : ∀ k, k ≤ 8 → M.carry x y k < 65536
  | 0, _ => by simp [M.carry]
  | k + 1, h => by
    have ih := carry_lt x y hx k (by omega)
    have h1 : x * 2 ^ k < 65536 := by
      have := Nat.mul_le_mul (Nat.le_of_lt hx) (pow_le7 k (by omega))
      omega
    simp only [M.carry]
    split
    · exact Nat.xor_lt_two_pow (n := 16) ih h1
    · simpa using ih
theorem cut_lt (p : Nat) (hp : p < 65536) : ∀ k, k ≤ 8 → M.cutDown p k < 65536
  | 0, _ => hp
  | k + 1, h => by
    have ih := cut_lt p hp k (by omega)
    have h1 : 283 * 2 ^ (7 - k) < 65536 := by
      have := Nat.mul_le_mul (Nat.le_refl 283) (pow_le7 (7 - k) (by omega))
      omega
    simp only [M.cutDown]
    split
    · exact Nat.xor_lt_two_pow (n := 16) ih h1
    · simpa using ih
theorem carry_yes (x y k : Nat) (h : y.testBit k = true) : M.carry x y (k + 1) = M.carry x y k ^^^ x * 2 ^ k := by simp [M.carry, h]
theorem carry_no (x y k : Nat) (h : y.testBit k = false) : M.carry x y (k + 1) = M.carry x y k := by simp [M.carry, h]
theorem cut_yes (p m : Nat) (h8 : 8 ≤ m) (h15 : m ≤ 15) (h : (M.cutDown p (15 - m)).testBit m = true) : M.cutDown p (15 - (m - 1)) = M.cutDown p (15 - m) ^^^ 283 * 2 ^ (m - 8) := by
  rw [show 15 - (m - 1) = (15 - m) + 1 from by omega]
  simp only [M.cutDown]
  rw [show 15 - (15 - m) = m from by omega, show 7 - (15 - m) = m - 8 from by omega, if_pos h]
theorem cut_no (p m : Nat) (h8 : 8 ≤ m) (h15 : m ≤ 15) (h : (M.cutDown p (15 - m)).testBit m = false) : M.cutDown p (15 - (m - 1)) = M.cutDown p (15 - m) := by
  rw [show 15 - (m - 1) = (15 - m) + 1 from by omega]
  simp only [M.cutDown]
  rw [show 15 - (15 - m) = m from by omega, h]
  simp


theorem mul_one_iff (x k : Nat) (hx : x < 256) (hk : k < 256) (h0 : x ≠ 0) : M.mulN x k = 1 ↔ k = M.invN x :=
  ⟨fun h => M.inv_unique x k hx hk h, fun h => by rw [h]; exact M.mulN_inv x hx h0⟩




theorem within_fact (x n : Int) (h : 0 < n) : x.tmod n = x % n ∨ (x.tmod n < 0 ∧ x.tmod n + n = x % n) := by
  have h1 := Int.tmod_eq_emod (a := x) (b := n)
  have h2 := Int.emod_lt_of_pos x h
  have h3 : (n.natAbs : Int) = n := by omega
  split at h1
  · omega
  · omega
set_option maxRecDepth 100000 in
set_option maxHeartbeats 400000 in
theorem within_any (x n : Int) (h1 : 1 ≤ n) (h2 : n ≤ 1000000) (w : World) :
    Calls Tryd.prog 10 #[.int .i64 x, .int .i64 n] w fun e w' => e = .returned (.int .i64 (x % n)) ∧ w = w' := by
  have ht := within_fact x n (by omega)
  have h3 := Int.emod_lt_of_pos x (by omega : 0 < n)
  have h4 := Int.emod_nonneg x (by omega : n ≠ 0)
  have hn : (n == 0) = false := by simp; omega
  rcases ht with ht | ⟨ht, hu⟩
  · go_enter Tryd.func10, Tryd.ntmps10
    go_wp2_with fail
    go_ret
    exact ⟨rfl, rfl⟩
  · obtain ⟨r, hr⟩ : ∃ r, x.tmod n = r := ⟨_, rfl⟩
    rw [hr] at ht hu
    go_enter Tryd.func10, Tryd.ntmps10
    go_wp2_with fail
    go_ret
    exact ⟨rfl, rfl⟩

end Go.Proofs.YtpckdjapkngpgaaDoor
