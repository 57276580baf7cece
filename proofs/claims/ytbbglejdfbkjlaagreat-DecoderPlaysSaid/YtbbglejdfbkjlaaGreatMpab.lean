/-
  Texts laid behind one another: Ref Zp Tb Aq Yj Td Tl.
-/
import Derived.Test.YtbbglejdfbkjlaaGreatMpaa
import Derived.Deep.QuietTactic
import Derived.BigQuiet
import Derived.Laws.CopyOwn
import Derived.Test.YtbbglejdfbkjlaaGreatProg
import Derived.Laws.AppendOwnNone
import Derived.Deep.AppendLies
import Derived.Deep.DeepCutAuto
namespace Go.Proofs.YtbbglejdfbkjlaaGreat
open Go.RowKit
theorem shr_nat (y k : Nat) : ((y : Int) / 2 ^ k) = ((y / 2 ^ k : Nat) : Int) := by
 rw [Int.natCast_ediv, Int.natCast_pow]
 rfl
theorem bit8 (y k : Nat) (h : y < 256) : (bits BinOp.and IntKind.u8 ((y : Int) / 2 ^ k) 1 == 1) = y.testBit k := by
 have h2 : y / 2 ^ k < 256 := Nat.lt_of_le_of_lt (Nat.div_le_self _ _) h
 rw [shr_nat, show (1 : Int) = ((1 : Nat) : Int) from rfl, u8_and_nat _ 1 h2 (by omega), nat_mask1, Nat.testBit_eq_decide_div_mod_eq]
 by_cases e : y / 2 ^ k % 2 = 1
 ·rw [e]; simp
 ·rw [decide_eq_false e, show y / 2 ^ k % 2 = 0 from by omega]
  rfl
theorem bit16 (y k : Nat) (h : y < 65536) : (bits BinOp.and IntKind.u16 ((y : Int) / 2 ^ k) 1 == 1) = y.testBit k := by
 have h2 : y / 2 ^ k < 65536 := Nat.lt_of_le_of_lt (Nat.div_le_self _ _) h
 rw [shr_nat, show (1 : Int) = ((1 : Nat) : Int) from rfl, u16_and_nat _ 1 h2 (by omega), nat_mask1, Nat.testBit_eq_decide_div_mod_eq]
 by_cases e : y / 2 ^ k % 2 = 1
 ·rw [e]; simp
 ·rw [decide_eq_false e, show y / 2 ^ k % 2 = 0 from by omega]
  rfl
theorem pow_le7 (k : Nat) (h : k ≤ 7) : 2 ^ k ≤ 128 := Nat.pow_le_pow_right (n := 2) (by omega) h
theorem xor16 (c x k : Nat) (hc : c < 65536) (hx : x < 300) (hk : k ≤ 7) : bits BinOp.xor IntKind.u16 (c : Int) (IntKind.u16.wrap ((x : Int) * 2 ^ k)) = ((c ^^^ x * 2 ^ k : Nat) : Int) := by
 have h1 : x * 2 ^ k < 65536 := by
  have := Nat.mul_le_mul (Nat.le_of_lt hx) (pow_le7 k hk)
  omega
 rw [show (x : Int) * 2 ^ k = ((x * 2 ^ k : Nat) : Int) from by rw [Int.natCast_mul, Int.natCast_pow]; rfl, IntKind.wrap_u16, show ((x * 2 ^ k : Nat) : Int) % 65536 = ((x * 2 ^ k : Nat) : Int) from by omega]
 exact u16_xor_nat _ _ hc h1
theorem carry_lt (x y : Nat) (hx : x < 256) : ∀ k, k ≤ 8 → M.carry x y k < 65536
 | 0, _ => by simp [M.carry]
 | k + 1, h => by
  have ih := carry_lt x y hx k (by omega)
  have h1 : x * 2 ^ k < 65536 := by
   have := Nat.mul_le_mul (Nat.le_of_lt hx) (pow_le7 k (by omega))
   omega
  simp only [M.carry]
  split
  ·exact Nat.xor_lt_two_pow (n := 16) ih h1
  ·simpa using ih
theorem cut_lt (p : Nat) (hp : p < 65536) : ∀ k, k ≤ 8 → M.cutDown p k < 65536
 | 0, _ => hp
 | k + 1, h => by
  have ih := cut_lt p hp k (by omega)
  have h1 : 283 * 2 ^ (7 - k) < 65536 := by
   have := Nat.mul_le_mul (Nat.le_refl 283) (pow_le7 (7 - k) (by omega))
   omega
  simp only [M.cutDown]
  split
  ·exact Nat.xor_lt_two_pow (n := 16) ih h1
  ·simpa using ih
theorem carry_yes (x y k : Nat) (h : y.testBit k = true) : M.carry x y (k + 1) = M.carry x y k ^^^ x * 2 ^ k := by simp [M.carry, h]
theorem carry_no (x y k : Nat) (h : y.testBit k = false) : M.carry x y (k + 1) = M.carry x y k := by simp [M.carry, h]
theorem cut_yes (p m : Nat) (h8 : 8 ≤ m) (h15 : m ≤ 15) (h : (M.cutDown p (15 - m)).testBit m = true) : M.cutDown p (15 - (m - 1)) = M.cutDown p (15 - m) ^^^ 283 * 2 ^ (m - 8) := by
 rw [show 15 - (m - 1) = (15 - m) + 1 from by omega]
 simp only [M.cutDown]
 rw [show 15 - (15 - m) = m from by omega, show 7 - (15 - m) = m - 8 from by omega, if_pos h]
theorem cut_no (p m : Nat) (h8 : 8 ≤ m) (h15 : m ≤ 15) (h : (M.cutDown p (15 - m)).testBit m = false) : M.cutDown p (15 - (m - 1)) = M.cutDown p (15 - m) := by
 rw [show 15 - (m - 1) = (15 - m) + 1 from by omega]
 simp only [M.cutDown]
 rw [show 15 - (15 - m) = m from by omega, h]
 simp
set_option maxRecDepth 100000 in
set_option maxHeartbeats 400000 in
theorem refMul_any (a b : Int) (ha : Byt a) (hb : Byt b) (w : World) :
  Calls Tryz.prog 109 #[.int .u8 a, .int .u8 b] w fun e w' => e = .returned (.int .u8 (mulZ a b)) ∧ w = w' := by
 obtain ⟨a0, a1⟩ := ha
 obtain ⟨b0, b1⟩ := hb
 obtain ⟨x, rfl⟩ := Int.eq_ofNat_of_zero_le a0
 obtain ⟨y, rfl⟩ := Int.eq_ofNat_of_zero_le b0
 have hx : x < 256 := by omega
 have hy : y < 256 := by omega
 go_enter Tryz.func109, Tryz.ntmps109
 go_wp2
 go_loop [5, 6] (fun p i => ∃ k : Nat, k ≤ 8 ∧ i = .int .i64 k ∧ p = .int .u16 ((M.carry x y k : Nat) : Int)) (fun _ i => 8 - (intOf i).toNat)
 case atStart => exact ⟨0, by omega, rfl, rfl⟩
 case round =>
  obtain ⟨k, hk, rfl, rfl⟩ := hrel
  by_cases hlt : k < 8
  ·have hc := carry_lt x y hx k hk
   have HY := Lib.hid (carry_yes x y k)
   have HN := Lib.hid (carry_no x y k)
   have HB := Lib.hid (bit8 y k hy)
   generalize M.carry x y k = c at *
   have HX := Lib.hid (xor16 c x k hc (by omega) (by omega))
   go_wp2
   ·have ht : y.testBit k = true := by rw [← HB.out]; assumption
    exact ⟨⟨k + 1, by omega, by go_num, by rw [HX.out, HY.out ht]⟩, by simp [intOf]; omega⟩
   ·have ht : y.testBit k = false := by rw [← HB.out]; assumption
    exact ⟨⟨k + 1, by omega, by go_num, by rw [HN.out ht]⟩, by simp [intOf]; omega⟩
  ·obtain rfl : k = 8 := by omega
   have hC := carry_lt x y hx 8 hk
   have E : Hid (M.cutDown (M.carry x y 8) 8 % 256 = M.mulN x y) := Lib.hid (M.refMulN_eq x y hx hy)
   generalize M.carry x y 8 = C at *
   go_wp2
   go_loop [5, 7] (fun p i => ∃ m : Nat, 7 ≤ m ∧ m ≤ 15 ∧ i = .int .i64 m ∧ p = .int .u16 ((M.cutDown C (15 - m) : Nat) : Int)) (fun _ i => (intOf i).toNat)
   case atStart => exact ⟨15, by omega, by omega, rfl, rfl⟩
   case round =>
    obtain ⟨m, hm, hm2, rfl, rfl⟩ := hrel
    have hc := cut_lt C hC (15 - m) (by omega)
    by_cases h8 : 8 ≤ m
    ·have HY := Lib.hid (cut_yes C m h8 hm2)
     have HN := Lib.hid (cut_no C m h8 hm2)
     generalize M.cutDown C (15 - m) = c at *
     have HB := Lib.hid (bit16 c m hc)
     have HX := Lib.hid (xor16 c 283 (m - 8) hc (by omega) (by omega))
     go_wp2
     ·have ht : c.testBit m = true := by rw [← HB.out]; assumption
      exact ⟨⟨m - 1, by omega, by omega, by go_num, by rw [show (283 : Int) = ((283 : Nat) : Int) from rfl, HX.out, HY.out ht]⟩, by simp [intOf]; omega⟩
     ·have ht : c.testBit m = false := by rw [← HB.out]; assumption
      exact ⟨⟨m - 1, by omega, by omega, by go_num, by rw [HN.out ht]⟩, by simp [intOf]; omega⟩
    ·obtain rfl : m = 7 := by omega
     go_wp2
     go_ret
     refine ⟨ret_int ?_, rfl⟩
     unfold mulZ
     rw [Int.toNat_natCast, Int.toNat_natCast, ← E.out]
     omega
theorem mul_one_iff (x k : Nat) (hx : x < 256) (hk : k < 256) (h0 : x ≠ 0) : M.mulN x k = 1 ↔ k = M.invN x :=
 ⟨fun h => M.inv_unique x k hx hk h, fun h => by rw [h]; exact M.mulN_inv x hx h0⟩
set_option maxRecDepth 100000 in
set_option maxHeartbeats 400000 in
theorem refInv_any (a : Int) (ha : Byt a) (w : World) :
  Calls Tryz.prog 72 #[.int .u8 a] w fun e w' => e = .returned (.int .u8 (invZ a)) ∧ w = w' := by
 obtain ⟨a0, a1⟩ := ha
 by_cases x0 : a = 0
 ·subst x0
  have HZ : Hid (∀ k : Int, mulZ 0 k = 0) := Lib.hid fun k => by simp [mulZ, M.mulN_zero_left]
  have e0 : invZ 0 = 0 := rfl
  rw [e0]
  clear e0
  go_enter Tryz.func72, Tryz.ntmps72
  go_wp2
  go_loop [3] (fun i => ∃ k : Nat, 1 ≤ k ∧ k ≤ 256 ∧ i = .int .i64 k) (fun i => 256 - (intOf i).toNat)
  case atStart => exact ⟨1, by omega, by omega, rfl⟩
  case round =>
   obtain ⟨k, hk1, hk, rfl⟩ := hrel
   by_cases hlt : k < 256
   ·go_wp2_with fail
    refine (refMul_any 0 k (by unfold Byt; omega) (by unfold Byt; omega) _).mono ?_
    rintro e w' ⟨rfl, rfl⟩
    rw [HZ.out]
    go_wp2_with fail
    exact ⟨⟨k + 1, by omega, by omega, by go_num⟩, by simp [intOf]; omega⟩
   ·go_wp2_with fail
    go_ret
    exact ⟨rfl, rfl⟩
 ·obtain ⟨x, rfl⟩ := Int.eq_ofNat_of_zero_le a0
  have hx : x < 256 := by omega
  have h0 : x ≠ 0 := by simpa using x0
  have HI := Lib.hid fun k hk => mul_one_iff x k hx hk h0
  have h1 : 1 ≤ M.invN x := Nat.pos_of_ne_zero (M.invN_ne x h0)
  have h2 := M.invN_lt x
  have E : Hid (invZ x = ((M.invN x : Nat) : Int)) := Lib.hid rfl
  have F : Hid (∀ k : Nat, mulZ x k = ((M.mulN x k : Nat) : Int)) := Lib.hid fun k => rfl
  generalize M.invN x = v at *
  clear x0 h0
  go_enter Tryz.func72, Tryz.ntmps72
  go_wp2
  go_loop [3] (fun i => ∃ k : Nat, 1 ≤ k ∧ k ≤ v ∧ i = .int .i64 k) (fun i => 256 - (intOf i).toNat)
  case atStart => exact ⟨1, by omega, by omega, rfl⟩
  case round =>
   obtain ⟨k, hk1, hk, rfl⟩ := hrel
   go_wp2_with fail
   refine (refMul_any x k (by unfold Byt; omega) (by unfold Byt; omega) _).mono ?_
   rintro e w' ⟨rfl, rfl⟩
   rw [F.out]
   by_cases hv : k = v
   ·subst hv
    rw [(HI.out k h2).2 rfl]
    go_wp2_with fail
    go_ret
    exact ⟨ret_int E.out.symm, rfl⟩
   ·have hn : M.mulN x k ≠ 1 := fun c => hv ((HI.out k (by omega)).1 c)
    generalize M.mulN x k = r at *
    have hb : ((r : Int) == 1) = false := by simp; omega
    go_wp2_with fail
    exact ⟨⟨k + 1, by omega, by omega, by go_num⟩, by simp [intOf]; omega⟩
set_option maxRecDepth 100000 in
set_option maxHeartbeats 400000 in
theorem refExp_any (n : Int) (w : World) :
  Calls Tryz.prog 110 #[.int .i64 n] w fun e w' => e = .returned (.int .u8 (expZ n)) ∧ w = w' := by
 unfold expZ
 have hm : (n % 255).toNat < 255 := by omega
 have ht : n.tmod 255 = n % 255 ∨ (n.tmod 255 < 0 ∧ n.tmod 255 + 255 = n % 255) := by
  have := Int.tmod_eq_emod (a := n) (b := 255)
  split at this
  ·omega
  ·simp at this
   omega
 have hk : ((n % 255).toNat : Int) = n % 255 := by omega
 generalize n % 255 = z at *
 generalize z.toNat = k at *
 subst hk
 have M3 : Hid (∀ i : Nat, i < k → mulZ ((M.exN i : Nat) : Int) 3 = ((M.exN (i + 1) : Nat) : Int)) := Lib.hid fun i hi => by
  have h := M.ex_three i (by omega)
  rw [Nat.mod_eq_of_lt (by omega)] at h
  rw [← h]
  rfl
 have BY : Hid (∀ i : Nat, Byt ((M.exN i : Nat) : Int)) := Lib.hid fun i => by
  have := M.exN_lt i
  unfold Byt
  omega
 have E0 : Hid ((1 : Int) = ((M.exN 0 : Nat) : Int)) := Lib.hid (by rw [M.exN_zero]; rfl)
 rcases ht with ht | ⟨ht, hu⟩
 ·go_enter Tryz.func110, Tryz.ntmps110
  go_wp2
  go_loop [3, 4] (fun x i => ∃ j : Nat, j ≤ k ∧ i = .int .i64 j ∧ x = .int .u8 ((M.exN j : Nat) : Int)) (fun _ i => k - (intOf i).toNat)
  case atStart => exact ⟨0, by omega, rfl, by rw [E0.out]⟩
  case round =>
   obtain ⟨j, hj, rfl, rfl⟩ := hrel
   by_cases hlt : j < k
   ·go_wp2_with fail
    refine (refMul_any _ 3 (BY.out j) (by unfold Byt; omega) _).mono ?_
    rintro e w' ⟨rfl, rfl⟩
    rw [M3.out j hlt]
    go_wp2_with fail
    exact ⟨⟨j + 1, by omega, by go_num, rfl⟩, by simp [intOf]; omega⟩
   ·obtain rfl : j = k := by omega
    go_wp2_with fail
    go_ret
    exact ⟨rfl, rfl⟩
 ·obtain ⟨r, hr⟩ : ∃ r, n.tmod 255 = r := ⟨_, rfl⟩
  rw [hr] at ht hu
  obtain rfl : r = (k : Int) - 255 := by omega
  clear hu
  go_enter Tryz.func110, Tryz.ntmps110
  go_wp2
  clear hr
  go_loop [3, 4] (fun x i => ∃ j : Nat, j ≤ k ∧ i = .int .i64 j ∧ x = .int .u8 ((M.exN j : Nat) : Int)) (fun _ i => k - (intOf i).toNat)
  case atStart => exact ⟨0, by omega, rfl, by rw [E0.out]⟩
  case round =>
   obtain ⟨j, hj, rfl, rfl⟩ := hrel
   by_cases hlt : j < k
   ·go_wp2_with fail
    refine (refMul_any _ 3 (BY.out j) (by unfold Byt; omega) _).mono ?_
    rintro e w' ⟨rfl, rfl⟩
    rw [M3.out j hlt]
    go_wp2_with fail
    exact ⟨⟨j + 1, by omega, by go_num, rfl⟩, by simp [intOf]; omega⟩
   ·obtain rfl : j = k := by omega
    go_wp2_with fail
    go_ret
    exact ⟨rfl, rfl⟩
theorem within_fact (x n : Int) (h : 0 < n) : x.tmod n = x % n ∨ (x.tmod n < 0 ∧ x.tmod n + n = x % n) := by
 have h1 := Int.tmod_eq_emod (a := x) (b := n)
 have h2 := Int.emod_lt_of_pos x h
 have h3 : (n.natAbs : Int) = n := by omega
 split at h1
 ·omega
 ·omega
set_option maxRecDepth 100000 in
set_option maxHeartbeats 400000 in
theorem within_any (x n : Int) (h1 : 1 ≤ n) (h2 : n ≤ 1000000) (w : World) :
  Calls Tryz.prog 15 #[.int .i64 x, .int .i64 n] w fun e w' => e = .returned (.int .i64 (x % n)) ∧ w = w' := by
 have ht := within_fact x n (by omega)
 have h3 := Int.emod_lt_of_pos x (by omega : 0 < n)
 have h4 := Int.emod_nonneg x (by omega : n ≠ 0)
 have hn : (n == 0) = false := by simp; omega
 rcases ht with ht | ⟨ht, hu⟩
 ·go_enter Tryz.func15, Tryz.ntmps15
  go_wp2_with fail
  go_ret
  exact ⟨rfl, rfl⟩
 ·obtain ⟨r, hr⟩ : ∃ r, x.tmod n = r := ⟨_, rfl⟩
  rw [hr] at ht hu
  go_enter Tryz.func15, Tryz.ntmps15
  go_wp2_with fail
  go_ret
  exact ⟨rfl, rfl⟩
end Go.Proofs.YtbbglejdfbkjlaaGreat
namespace Go.Proofs.YtbbglejdfbkjlaaGreat
open Go.RowKit
theorem Zs.at {w : World} {v : Value} {l : List Int} (h : Zs w v l) (hl : 0 < l.length) :
  ∃ a c, v = .slice (some a) l.length c ∧ l.length ≤ c ∧ c ≤ 9223372036854775807 ∧ ∀ i, i < l.length → w.cell? (a.add i) = some (.int .i64 (l.getD i 0)) := by
 obtain ⟨_, oa, c, h1, h2, h3, h4, h5⟩ := h
 cases oa with
 | none => exact absurd (h4 rfl) (by omega)
 | some a => exact ⟨a, c, h1, h2, h3, h5 a rfl⟩
theorem Zs.form {w : World} {v : Value} {l : List Int} (h : Zs w v l) : ∃ oa c, v = .slice oa l.length c := by
 obtain ⟨_, oa, c, h1, _⟩ := h
 exact ⟨oa, c, h1⟩
theorem Zs.nil (w : World) : Zs w (.slice none 0 0) [] := ⟨by simp, none, 0, rfl, by simp, by omega, fun _ => rfl, fun a h => by cases h⟩
def rowZ (L : List Int) : Array Value := (L.map (Value.int .i64)).toArray
theorem rowZ_get (L : List Int) (i : Nat) (h : i < L.length) : (rowZ L)[i]? = some (.int .i64 (L.getD i 0)) := by
 simp [rowZ, h]
theorem rowZ_set (L : List Int) (i : Nat) (x : Int) : (rowZ L).setIfInBounds i (.int .i64 x) = rowZ (L.set i x) := by
 simp [rowZ, List.map_set]
theorem rowZ_made (n : Nat) : madeCells #[.int .i64 0] n = rowZ (List.replicate n 0) := by
 apply Array.ext'
 rw [toList_madeCells_one]
 simp [rowZ]
def Blz (w : World) (g : Nat) (L : List Int) : Prop := w.heap[g]? = some (.cells (rowZ L) 3 (0, 0))
theorem Blz.grown {w w' : World} {g : Nat} {L : List Int} (h : Blz w g L) (hg : Gr w w') : Blz w' g L := keptRow hg h
theorem Blz.cell {w : World} {g : Nat} {L : List Int} (h : Blz w g L) (i : Nat) (hi : i < L.length) : w.cell? ⟨g, i, none⟩ = some (.int .i64 (L.getD i 0)) := by
 rw [cell_of_row w g i _ _ _ h, rowZ_get L i hi]
theorem Blz.zs {w : World} {g : Nat} {L : List Int} (h : Blz w g L) (l : List Int) (c : Nat) (hl : l.length ≤ L.length) (hlc : l.length ≤ c) (hc : c ≤ 9223372036854775807) (hb : ∀ x ∈ l, I64 x) (he : ∀ i, i < l.length → L.getD i 0 = l.getD i 0) :
  Zs w (.slice (some ⟨g, 0, none⟩) l.length c) l :=
 ⟨hb, some ⟨g, 0, none⟩, c, rfl, hlc, hc, (fun h => by cases h), fun a ha i hi => by
   cases ha
   rw [Addr.add_mid, Nat.zero_add, Blz.cell h i (by omega), he i hi]⟩
theorem infoZ : (Tryz.prog.info? 3).map (fun i => (i.zero, i.size, i.bytes)) = some (some (.int .i64 0), 1, 8) := by kernel_rfl
theorem makeZ (l c : Nat) (h : l ≤ c) (hc : c ≤ 35184372088832) (w : World) :
  (Instr.makeSlice 26 (.int .i64 (l : Int)) (.int .i64 (c : Int))).run Tryz.prog w = .ok (.slice (some ⟨w.heap.size, 0, none⟩) l c) (w.alloc (.cells (rowZ (List.replicate c 0)) 3)) := by
 obtain ⟨i, hi, hzz⟩ := Option.map_eq_some_iff.1 infoZ
 simp only [Prod.mk.injEq] at hzz
 obtain ⟨hz, hs, hb⟩ := hzz
 have hr := run_make (P := Tryz.prog) w 26 3 i _ Tryz.underlying26 hi hz .i64 .i64 l c (by omega) (by omega) (by rw [hb]; omega) (by omega)
 rw [Int.toNat_natCast, Int.toNat_natCast, hs, Nat.mul_one] at hr
 rw [hr, ← rowZ_made]
 rfl
theorem Blz.zs_pre {w : World} {g : Nat} {l r : List Int} (h : Blz w g (l ++ r)) (hb : ∀ x ∈ l, I64 x) (hn : (l ++ r).length ≤ 9223372036854775807) : Zs w (.slice (some ⟨g, 0, none⟩) l.length (l ++ r).length) l :=
 Blz.zs h l _ (by simp) (by simp) hn hb (fun i hi => by
   rw [List.getD_eq_getElem?_getD, List.getD_eq_getElem?_getD, List.getElem?_append_left hi])
theorem ownsRow_form'' {w : World} {base : Nat} {e : TypeId} {v : Value} {n : Nat} {us : List Value} (h : w.ownsRow base e 1 v n us) : ∃ oa c, v = .slice oa n c := by
 obtain ⟨_, ⟨rfl, rfl⟩ | ⟨g, c, cur, rfl, _⟩⟩ := h
 ·exact ⟨_, _, rfl⟩
 ·exact ⟨_, _, rfl⟩
end Go.Proofs.YtbbglejdfbkjlaaGreat
namespace Go.Proofs.YtbbglejdfbkjlaaGreat.T
def root (l : Nat) : Nat := ((List.range 9).find? fun r => decide (l ≤ r * r)).getD 0
def digits : Nat → Nat → Nat
 | 0, _ => 0
 | n + 1, x => if x = 0 then 0 else digits n (x / 2) + 1
def peak (l : Nat) : Nat := l / root l
def weight (l k : Nat) : Nat :=
 (if 1 < k then 1048576 / (k * (k - 1)) else 1048576 / l) + (if k < peak l then 1048576 * root l / (l * k) else 0) + (if k = peak l then 1048576 * root l * digits 9 (root l) / l else 0)
def sum (l : Nat) : Nat → Nat
 | 0 => 0
 | k + 1 => sum l k + weight l (k + 1)
def tabZ (l : Nat) : List Int := (List.range l).map fun i => ((sum l (i + 1) : Nat) : Int)
def tab (l : Int) : List Int := if 1 ≤ l ∧ l ≤ 64 then tabZ l.toNat else []
theorem tab_in {l : Nat} (h1 : 1 ≤ l) (h2 : l ≤ 64) : tab l = tabZ l := by
 unfold tab
 rw [if_pos ⟨by omega, by omega⟩, Int.toNat_natCast]
theorem tab_out {l : Int} (h : ¬ (1 ≤ l ∧ l ≤ 64)) : tab l = [] := if_neg h
theorem tabZ_length (l : Nat) : (tabZ l).length = l := by simp [tabZ]
theorem tabZ_at {l i : Nat} (h : i < l) : (tabZ l).getD i 0 = ((sum l (i + 1) : Nat) : Int) := by
 unfold tabZ
 rw [List.getD_eq_getElem?_getD, List.getElem?_map, List.getElem?_range h]
 rfl
theorem weight_pos {l k : Nat} (h1 : 1 ≤ l) (h2 : l ≤ 64) (_ : 1 ≤ k) (h4 : k ≤ 64) : 1 ≤ weight l k := by
 unfold weight
 have : 1 ≤ (if 1 < k then 1048576 / (k * (k - 1)) else 1048576 / l) := by
  split
  ·have : k * (k - 1) ≤ 64 * 63 := Nat.mul_le_mul h4 (by omega)
   exact (Nat.le_div_iff_mul_le (Nat.mul_pos (by omega) (by omega))).2 (by omega)
  ·exact (Nat.le_div_iff_mul_le (by omega)).2 (by omega)
 omega
theorem sum_lt {l : Nat} (h1 : 1 ≤ l) (h2 : l ≤ 64) : ∀ j i, i < j → j ≤ l → sum l i < sum l j
 | 0, _, h, _ => absurd h (by omega)
 | j + 1, i, h, hj => by
  have hw := weight_pos h1 h2 (k := j + 1) (by omega) (by omega)
  show sum l i < sum l j + weight l (j + 1)
  by_cases e : i = j
  ·subst e; omega
  ·have := sum_lt h1 h2 j i (by omega) (by omega)
   omega
set_option maxRecDepth 100000 in
theorem sum_top : ∀ l, l < 65 → sum l l < 8388608 := by decide +kernel
set_option maxRecDepth 100000 in
theorem root_ok : ∀ l, l < 65 → 1 ≤ l → l ≤ root l * root l ∧ 1 ≤ root l ∧ root l ≤ 8 ∧ ∀ r, r < 9 → r < root l → r * r < l := by decide +kernel
theorem root_eq {l r : Nat} (h1 : 1 ≤ l) (h2 : l ≤ 64) (h : l ≤ r * r) (hm : ∀ i, i < r → i * i < l) : r = root l := by
 obtain ⟨q1, q2, q3, q4⟩ := root_ok l (by omega) h1
 apply Classical.byContradiction
 intro e
 rcases Nat.lt_or_gt_of_ne e with c | c
 ·have := q4 r (by omega) c
  omega
 ·have := hm (root l) c
  omega
theorem digits_ok' : ∀ r, r < 9 → 1 ≤ r → ∀ j, j < 5 → r / 2 ^ j = 0 → ((List.range j).all fun i => r / 2 ^ i != 0) = true → digits 9 r = j := by decide +kernel
theorem digits_ok {r j : Nat} (h1 : r < 9) (h2 : 1 ≤ r) (h3 : j < 5) (h4 : r / 2 ^ j = 0) (h5 : ∀ i, i < j → r / 2 ^ i ≠ 0) : digits 9 r = j :=
 digits_ok' r h1 h2 j h3 h4 (List.all_eq_true.2 fun i hi => by simpa using h5 i (List.mem_range.1 hi))
theorem half_ok : ∀ r, r < 9 → ∀ j, j < 5 → r / 2 ^ j ≠ 0 → j < 4 := by decide +kernel
theorem digits_le : ∀ r, r < 9 → digits 9 r ≤ 4 := by decide +kernel
theorem sum_le {l : Nat} (h1 : 1 ≤ l) (h2 : l ≤ 64) {i : Nat} (hi : i ≤ l) : sum l i < 8388608 := by
 have := sum_top l (by omega)
 by_cases e : i = l
 ·rw [e]; exact this
 ·have := sum_lt h1 h2 l i (by omega) (Nat.le_refl _)
  omega
def degA : List Int → Int → Nat → Int
 | [], _, _ => 0
 | a :: t, x, k => if x < a then ((k + 1 : Nat) : Int) else degA t x (k + 1)
def deg (t : List Int) (x : Int) : Int := if x < 0 then 0 else degA t x 0
theorem degA_at : ∀ (t : List Int) (x : Int) (k j : Nat), j < t.length → (∀ i, i < j → t.getD i 0 ≤ x) → x < t.getD j 0 → degA t x k = ((k + j + 1 : Nat) : Int)
 | [], _, _, _, h, _, _ => absurd h (by simp)
 | a :: t, x, k, 0, _, _, h => by
  have : x < a := by simpa using h
  unfold degA
  rw [if_pos this]
 | a :: t, x, k, j + 1, hj, hb, h => by
  have h0 : a ≤ x := by simpa using hb 0 (by omega)
  unfold degA
  rw [if_neg (by omega), degA_at t x (k + 1) j (by simpa using hj) (fun i hi => by simpa using hb (i + 1) (by omega)) (by simpa using h)]
  congr 1
  omega
theorem degA_none : ∀ (t : List Int) (x : Int) (k : Nat), (∀ i, i < t.length → t.getD i 0 ≤ x) → degA t x k = 0
 | [], _, _, _ => rfl
 | a :: t, x, k, h => by
  have h0 : a ≤ x := by simpa using h 0 (by simp)
  unfold degA
  rw [if_neg (by omega)]
  exact degA_none t x (k + 1) fun i hi => by simpa using h (i + 1) (by simpa using hi)
theorem deg_at {t : List Int} {x : Int} {j : Nat} (h0 : 0 ≤ x) (hj : j < t.length) (hb : ∀ i, i < j → t.getD i 0 ≤ x) (h : x < t.getD j 0) : deg t x = ((j + 1 : Nat) : Int) := by
 unfold deg
 rw [if_neg (by omega), degA_at t x 0 j hj hb h, Nat.zero_add]
theorem deg_none {t : List Int} {x : Int} (hb : ∀ i, i < t.length → t.getD i 0 ≤ x) : deg t x = 0 := by
 unfold deg
 split
 ·rfl
 ·exact degA_none t x 0 hb
theorem deg_low {t : List Int} {x : Int} (h : x < 0) : deg t x = 0 := if_pos h
theorem least {P : Nat → Prop} : ∀ n, P n → ∃ j, j ≤ n ∧ P j ∧ ∀ i, i < j → ¬ P i := by
 intro n
 induction n using Nat.strongRecOn with
 | _ n ih =>
  intro h
  by_cases hex : ∃ i, i < n ∧ P i
  ·obtain ⟨i, hi, hp⟩ := hex
   obtain ⟨j, h1, h2, h3⟩ := ih i hi hp
   exact ⟨j, by omega, h2, h3⟩
  ·exact ⟨n, Nat.le_refl _, h, fun i hi hp => hex ⟨i, hi, hp⟩⟩
theorem deg_some {t : List Int} {x : Int} (h0 : 0 ≤ x) (hl : 0 < t.length) (hx : x < t.getD (t.length - 1) 0) : ∃ j, j < t.length ∧ deg t x = ((j + 1 : Nat) : Int) := by
 obtain ⟨j, hj, h1, h2⟩ := least (P := fun j => x < t.getD j 0) (t.length - 1) hx
 exact ⟨j, by omega, deg_at h0 (by omega) (fun i hi => by have := h2 i hi; omega) h1⟩
end Go.Proofs.YtbbglejdfbkjlaaGreat.T
namespace Go.Proofs.YtbbglejdfbkjlaaGreat
open Go.RowKit
theorem Addr.add_add' (a : Addr) (m n : Nat) : (a.add m).add n = a.add (m + n) := by
 unfold Addr.add
 by_cases h1 : m = 0
 ·subst h1
  simp
 ·by_cases h2 : n = 0
  ·subst h2
   simp
  ·simp [h1, h2]
   omega
theorem _root_.Go.World.ownsRow.of_gr {w w' : World} {base : Nat} {e : TypeId} {size : Nat} {v : Value} {n : Nat} {xs : List Value} (h : w.ownsRow base e size v n xs) (hg : Gr w w') : w'.ownsRow base e size v n xs := by
 obtain ⟨h0, h1 | ⟨g, c, cur, rfl, hb, hgg, h2⟩⟩ := h
 ·exact ⟨h0, .inl h1⟩
 ·exact ⟨h0, .inr ⟨g, c, cur, rfl, hb, keptRow hg hgg, h2⟩⟩
theorem ownsRow_base {w : World} {base : Nat} {e : TypeId} {size : Nat} {v : Value} {n : Nat} {us : List Value} (h : w.ownsRow base e size v n us) : ∀ g, v.ownBlock = some g → base ≤ g := by
 intro g hg
 obtain ⟨_, ⟨rfl, _⟩ | ⟨g', c, cur, rfl, hb, _⟩⟩ := h
 ·simp [Value.ownBlock] at hg
 ·simp [Value.ownBlock] at hg
  omega
theorem run_append_in {P : Program} {w : World} (base : Nat) (t ty e : TypeId) (i : TypeInfo) (z : Value) (bytes : Nat) (ht : P.underlying t = some (.slice e)) (hi : P.info? e = some i) (hz : i.zero = some z)
  (hsize : i.size = 1) (hby : i.bytes = bytes) (hzs : z.cells.size = 1) (v : Value) (n : Nat) (xs : List Value) (hown : w.ownsRow base e 1 v n xs)
  (oa : Option Addr) (m c : Nat) (news : List Value) (hno : oa = none → m = 0 ∧ c = 0) (hl : news.length = m) (hnews : ∀ ad, oa = some ad → ∀ j u, news[j]? = some u → w.cell? (ad.add j) = some u) (h1 : ∀ u ∈ news, u.oneCell' = true)
  (h63 : n + m ≤ maxLen) (hbytes : (n + m) * bytes ≤ 140737488355328) (hbase : base ≤ w.heap.size) :
  ∃ v' w', (Builtin.append_ #[t, t] ty #[v, .slice oa m c]).run P w = .ok v' w' ∧ w'.ownsRow base e 1 v' (n + m) (xs ++ news) ∧ w.grownBy w' v.ownBlock := by
 cases oa with
 | none =>
  obtain ⟨rfl, rfl⟩ := hno rfl
  obtain rfl : news = [] := List.eq_nil_of_length_eq_zero hl
  refine ⟨v, w, run_append_owned_none (P := P) (w := w) base t ty e i 1 ht hi v n xs hown, by rw [List.append_nil]; exact hown, ⟨rfl, rfl, rfl, Nat.le_refl _, fun _ _ _ => rfl⟩⟩
 | some ad =>
  obtain ⟨v', w', hr, h2, h3, _⟩ := run_append_own (P := P) w base t ty e i z 1 bytes ht hi hz hsize hby hzs (by omega) v n xs hown ad m c news (by omega) (hnews ad rfl) h1 h63 hbytes hbase
  exact ⟨v', w', hr, h2, h3⟩
theorem wp_append_in {P : Program} {w : World} {o : Oper} {a : Act} {K : Act → World → Prop} {Q : Exit → Act → World → Prop} (s x : Operand) (t : TypeId)
  (ho : o.op = .call { callee := .builtin .append, args := #[s, x], argTypes := #[t, t] })
  (base : Nat) (e : TypeId) (i : TypeInfo) (z : Value) (bytes : Nat) (ht : P.underlying t = some (.slice e)) (hi : P.info? e = some i) (hz : i.zero = some z)
  (hsize : i.size = 1) (hby : i.bytes = bytes) (hzs : z.cells.size = 1) (v : Value) (n : Nat) (xs : List Value) (hs : a.eval s = v) (hown : w.ownsRow base e 1 v n xs)
  (oa : Option Addr) (m c : Nat) (news : List Value) (hx : a.eval x = .slice oa m c) (hno : oa = none → m = 0 ∧ c = 0) (hl : news.length = m) (hnews : ∀ ad, oa = some ad → ∀ j u, news[j]? = some u → w.cell? (ad.add j) = some u) (h1 : ∀ u ∈ news, u.oneCell' = true)
  (h63 : n + m ≤ maxLen) (hbytes : (n + m) * bytes ≤ 140737488355328) (hbase : base ≤ w.heap.size)
  (h : ∀ v' w', w'.ownsRow base e 1 v' (n + m) (xs ++ news) → w.grownBy w' v.ownBlock → K (a.put o.dst v') w') : o.wp P a w K Q := by
 obtain ⟨v', w', hr, h2, h3⟩ := run_append_in (P := P) (w := w) base t o.type e i z bytes ht hi hz hsize hby hzs v n xs hown oa m c news hno hl hnews h1 h63 hbytes hbase
 unfold Oper.wp execOp
 simp only [ho, resolve, invoke, builtin, Sem.run_bind, Sem.run_pure, Result.andThen_ok, List.map_toArray, List.map_cons, List.map_nil, hs, hx, hr]
 exact h v' w' h2 h3
theorem wpList_append_in {P : Program} {w : World} {ops : Array Oper} {rest : List Oper} {o : Oper} {a : Act} {Q : Exit → Act → World → Prop} (hgd : o.guard = none) (s x : Operand) (t : TypeId)
  (ho : o.op = .call { callee := .builtin .append, args := #[s, x], argTypes := #[t, t] })
  (base : Nat) (e : TypeId) (i : TypeInfo) (z : Value) (bytes : Nat) (ht : P.underlying t = some (.slice e)) (hi : P.info? e = some i) (hz : i.zero = some z)
  (hsize : i.size = 1) (hby : i.bytes = bytes) (hzs : z.cells.size = 1) (v : Value) (n : Nat) (xs : List Value) (hs : a.eval s = v) (hown : w.ownsRow base e 1 v n xs)
  (oa : Option Addr) (m c : Nat) (news : List Value) (hx : a.eval x = .slice oa m c) (hno : oa = none → m = 0 ∧ c = 0) (hl : news.length = m) (hnews : ∀ ad, oa = some ad → ∀ j u, news[j]? = some u → w.cell? (ad.add j) = some u) (h1 : ∀ u ∈ news, u.oneCell' = true)
  (h63 : n + m ≤ maxLen) (hbytes : (n + m) * bytes ≤ 140737488355328) (hbase : base ≤ w.heap.size)
  (h : ∀ v' w', w'.ownsRow base e 1 v' (n + m) (xs ++ news) → w.grownBy w' v.ownBlock → wpList P ops Q rest (a.put o.dst v') w') : wpList P ops Q (o :: rest) a w :=
 wpList_plain hgd fun _ hK => wp_append_in s x t ho base e i z bytes ht hi hz hsize hby hzs v n xs hs hown oa m c news hx hno hl hnews h1 h63 hbytes hbase fun v' w' h2 h3 => hK _ _ (h v' w' h2 h3)
theorem step_append_in {P : Program} {w : World} {ops : Array Oper} {o : Oper} {a : Act} {K : Act → World → Prop} {Q : Exit → Act → World → Prop} {E : Prop} (hgd : o.guard = none) (s x : Operand) (t : TypeId)
  (ho : o.op = .call { callee := .builtin .append, args := #[s, x], argTypes := #[t, t] })
  (base : Nat) (e : TypeId) (i : TypeInfo) (z : Value) (bytes : Nat) (ht : P.underlying t = some (.slice e)) (hi : P.info? e = some i) (hz : i.zero = some z)
  (hsize : i.size = 1) (hby : i.bytes = bytes) (hzs : z.cells.size = 1) (v : Value) (n : Nat) (xs : List Value) (hs : a.eval s = v) (hown : w.ownsRow base e 1 v n xs)
  (oa : Option Addr) (m c : Nat) (news : List Value) (hx : a.eval x = .slice oa m c) (hno : oa = none → m = 0 ∧ c = 0) (hl : news.length = m) (hnews : ∀ ad, oa = some ad → ∀ j u, news[j]? = some u → w.cell? (ad.add j) = some u) (h1 : ∀ u ∈ news, u.oneCell' = true)
  (h63 : n + m ≤ maxLen) (hbytes : (n + m) * bytes ≤ 140737488355328) (hbase : base ≤ w.heap.size)
  (h : ∀ v' w', w'.ownsRow base e 1 v' (n + m) (xs ++ news) → w.grownBy w' v.ownBlock → K (a.put o.dst v') w') :
  if Region.wanted o (yielded ops a.tmps) = true then Oper.wp P o a w K Q else E := by
 have hw : Region.wanted o (yielded ops a.tmps) = true := by simp [Region.wanted, hgd]
 rw [if_pos hw]
 exact wp_append_in s x t ho base e i z bytes ht hi hz hsize hby hzs v n xs hs hown oa m c news hx hno hl hnews h1 h63 hbytes hbase h
end Go.Proofs.YtbbglejdfbkjlaaGreat
namespace Go.Proofs.YtbbglejdfbkjlaaGreat
open Go.RowKit
theorem ints_cells {w : World} {o : Option Addr} {l : List Int} {n : Nat} (hl : l.length = n) (h : ∀ a, o = some a → ∀ i, i < n → w.cell? (a.add i) = some (.int .i64 (l.getD i 0))) :
  ∀ ad, o = some ad → ∀ i u, (l.map (Value.int .i64))[i]? = some u → w.cell? (ad.add i) = some u := by
 intro ad ha i u hu
 have hi : i < l.length := by
  have := (List.getElem?_eq_some_iff.1 hu).1
  rwa [List.length_map] at this
 rw [h ad ha i (by omega)]
 rw [List.getElem?_map, List.getElem?_eq_getElem hi] at hu
 rw [List.getD_eq_getElem?_getD, List.getElem?_eq_getElem hi]
 simpa using hu
theorem Zs.parts {w : World} {oa : Option Addr} {m c : Nat} {l : List Int} (h : Zs w (.slice oa m c) l) : l.length = m ∧ m ≤ c ∧ c ≤ 9223372036854775807 ∧ (oa = none → m = 0 ∧ c = 0) ∧ ∀ ad, oa = some ad → ∀ i u, (l.map (Value.int .i64))[i]? = some u → w.cell? (ad.add i) = some u := by
 obtain ⟨_, oa', c', he, h2, h3, h4, h5⟩ := h
 obtain ⟨rfl, rfl, rfl⟩ : oa = oa' ∧ m = l.length ∧ c = c' := by simpa using he
 exact ⟨rfl, h2, h3, fun e => ⟨by have := h4 e; omega, h4 e⟩, ints_cells rfl h5⟩
theorem Zs.cellAt {w : World} {a : Addr} {m c : Nat} {l : List Int} (h : Zs w (.slice (some a) m c) l) {i : Nat} (hi : i < m) : w.cell? (a.add i) = some (.int .i64 (l.getD i 0)) := by
 obtain ⟨_, oa', c', he, h2, h3, h4, h5⟩ := h
 obtain ⟨rfl, rfl, rfl⟩ : some a = oa' ∧ m = l.length ∧ c = c' := by simpa using he
 exact h5 a rfl i hi
theorem Zs.addr {w : World} {oa : Option Addr} {m c : Nat} {l : List Int} (h : Zs w (.slice oa m c) l) (hm : 0 < m) : ∃ a, oa = some a := by
 obtain ⟨p1, _, _, p4, _⟩ := h.parts
 cases oa with
 | none => have := (p4 rfl).1; omega
 | some a => exact ⟨a, rfl⟩
theorem intsZ_oneCell (l : List Int) : ∀ u ∈ l.map (Value.int .i64), u.oneCell' = true := by
 intro u hu
 obtain ⟨x, _, rfl⟩ := List.mem_map.1 hu
 rfl
theorem wpList_append_zs {w : World} {ops : Array Oper} {rest : List Oper} {o : Oper} {a : Act} {Q : Exit → Act → World → Prop} (hgd : o.guard = none) (s x : Operand)
  (ho : o.op = .call { callee := .builtin .append, args := #[s, x], argTypes := #[26, 26] }) (base : Nat) (v : Value) (n : Nat) (l : List Int) (hs : a.eval s = v) (hown : w.ownsRow base 3 1 v n (l.map (Value.int .i64)))
  (oa : Option Addr) (m c : Nat) (l' : List Int) (hx : a.eval x = .slice oa m c) (hL : Zs w (.slice oa m c) l') (hm : n + m ≤ 1000000) (hbase : base ≤ w.heap.size)
  (h : ∀ v' w', w'.ownsRow base 3 1 v' (n + m) ((l ++ l').map (Value.int .i64)) → w.grownBy w' v.ownBlock → wpList Tryz.prog ops Q rest (a.put o.dst v') w') : wpList Tryz.prog ops Q (o :: rest) a w := by
 obtain ⟨i5, hi0, hz0, hz1, hz2⟩ := info_parts infoZ
 obtain ⟨p1, p2, p3, p4, p5⟩ := hL.parts
 refine wpList_append_in hgd s x 26 ho base 3 i5 _ 8 Tryz.underlying26 hi0 hz0 hz1 hz2 rfl v n _ hs hown oa m c (l'.map (Value.int .i64)) hx p4 (by rw [List.length_map]; exact p1) p5 (intsZ_oneCell _) (by unfold maxLen; omega) (by omega) hbase ?_
 intro v' w' h1 h2
 exact h v' w' (by rw [List.map_append]; exact h1) h2
theorem step_append_zs {w : World} {ops : Array Oper} {o : Oper} {a : Act} {K : Act → World → Prop} {Q : Exit → Act → World → Prop} {E : Prop} (hgd : o.guard = none) (s x : Operand)
  (ho : o.op = .call { callee := .builtin .append, args := #[s, x], argTypes := #[26, 26] }) (base : Nat) (v : Value) (n : Nat) (l : List Int) (hs : a.eval s = v) (hown : w.ownsRow base 3 1 v n (l.map (Value.int .i64)))
  (oa : Option Addr) (m c : Nat) (l' : List Int) (hx : a.eval x = .slice oa m c) (hL : Zs w (.slice oa m c) l') (hm : n + m ≤ 1000000) (hbase : base ≤ w.heap.size)
  (h : ∀ v' w', w'.ownsRow base 3 1 v' (n + m) ((l ++ l').map (Value.int .i64)) → w.grownBy w' v.ownBlock → K (a.put o.dst v') w') :
  if Region.wanted o (yielded ops a.tmps) = true then Oper.wp Tryz.prog o a w K Q else E := by
 obtain ⟨i5, hi0, hz0, hz1, hz2⟩ := info_parts infoZ
 obtain ⟨p1, p2, p3, p4, p5⟩ := hL.parts
 refine step_append_in hgd s x 26 ho base 3 i5 _ 8 Tryz.underlying26 hi0 hz0 hz1 hz2 rfl v n _ hs hown oa m c (l'.map (Value.int .i64)) hx p4 (by rw [List.length_map]; exact p1) p5 (intsZ_oneCell _) (by unfold maxLen; omega) (by omega) hbase ?_
 intro v' w' h1 h2
 exact h v' w' (by rw [List.map_append]; exact h1) h2
theorem gr_by_own {w0 w w' : World} {base : Nat} {e : TypeId} {v : Value} {n : Nat} {us : List Value} (h : Gr w0 w) (hg : w.grownBy w' v.ownBlock) (ho : w.ownsRow base e 1 v n us) (hb : w0.heap.size ≤ base) : Gr w0 w' :=
 Gr.append h hg fun g hv => by have := ownsRow_base ho g hv; omega
theorem own_in {w : World} {base : Nat} {e : TypeId} {v : Value} {n : Nat} {us : List Value} (h : w.ownsRow base e 1 v n us) {g : Nat} (hg : v.ownBlock = some g) : g < w.heap.size := by
 obtain ⟨_, ⟨rfl, _⟩ | ⟨g', c, cur, rfl, hb, hgg, _⟩⟩ := h
 ·cases hg
 ·simp [Value.ownBlock] at hg
  subst hg
  exact (Array.getElem?_eq_some_iff.1 hgg).1
theorem own_through {base : Nat} {w w' : World} {e : TypeId} {size : Nat} {v : Value} {n : Nat} {xs : List Value} {row : Option Nat} (h : w.ownsRow base e size v n xs) (hg : w.grownBy w' row) (hne : ∀ g, v.ownBlock = some g → row ≠ some g) : w'.ownsRow base e size v n xs := by
 obtain ⟨h0, h1 | ⟨g, c, cur, rfl, hb, hgg, h2⟩⟩ := h
 ·exact ⟨h0, .inl h1⟩
 ·refine ⟨h0, .inr ⟨g, c, cur, rfl, hb, ?_, h2⟩⟩
  rw [hg.block g (Array.getElem?_eq_some_iff.1 hgg).1 (fun e => hne g rfl e.symm)]
  exact hgg
theorem wpList_append_int {w : World} {ops : Array Oper} {rest : List Oper} {o : Oper} {a : Act} {Q : Exit → Act → World → Prop} (hgd : o.guard = none) (s x : Operand)
  (ho : o.op = .call { callee := .builtin .append, args := #[s, x], argTypes := #[26, 26] }) (base : Nat) (v : Value) (n : Nat) (l : List Int) (hs : a.eval s = v) (hown : w.ownsRow base 3 1 v n (l.map (Value.int .i64)))
  (g0 : Nat) (k : Int) (hx : a.eval x = .slice (some ⟨g0, 0, none⟩) 1 1) (hc : w.cell? ⟨g0, 0, none⟩ = some (.int .i64 k)) (hm : n ≤ 1000000) (hbase : base ≤ w.heap.size)
  (h : ∀ g cap w', w'.ownsRow base 3 1 (.slice (some ⟨g, 0, none⟩) (n + 1) cap) (n + 1) ((l ++ [k]).map (Value.int .i64)) → w.grownBy w' v.ownBlock → (v.ownBlock = some g ∨ g = w.heap.size) → wpList Tryz.prog ops Q rest (a.put o.dst (.slice (some ⟨g, 0, none⟩) (n + 1) cap)) w') : wpList Tryz.prog ops Q (o :: rest) a w := by
 obtain ⟨i5, hi0, hz0, hz1, hz2⟩ := info_parts infoZ
 refine wpList_append_lies w hgd s x 26 ho base 3 i5 _ 1 8 Tryz.underlying26 hi0 hz0 hz1 hz2 rfl (by omega) v n _ hs hown ⟨g0, 0, none⟩ 1 1 [.int .i64 k] hx rfl (fun j u hj => by
   cases j with
   | zero =>
     obtain rfl : Value.int .i64 k = u := by simpa using hj
     exact hc
   | succ j => simp at hj) (by simp [Value.oneCell']) (by omega) (by unfold maxLen; omega) (by omega) hbase _ rfl ?_
 intro g cap w' h1 h2 h3 _
 exact h g cap w' (by rw [List.map_append]; exact h1) h2 h3
def Ke (e : TypeId) (w w' : World) : Prop := w.heap.size ≤ w'.heap.size ∧ ∀ (k : Nat) (c : Array Value) (t : TypeId) (fr : Nat × Nat), w.heap[k]? = some (Obj.cells c t fr) → t ≠ e → w'.heap[k]? = some (Obj.cells c t fr)
theorem Ke.of_own {w w' : World} {base : Nat} {e : TypeId} {v : Value} {n : Nat} {us : List Value} (ho : w.ownsRow base e 1 v n us) (hg : w.grownBy w' v.ownBlock) : Ke e w w' := ⟨hg.size, fun k c t fr hk ht => by
  rw [hg.block k (Array.getElem?_eq_some_iff.1 hk).1 (fun h => ?_)]
  · exact hk
  · obtain ⟨_, ⟨rfl, _⟩ | ⟨g', c', cur, rfl, hb, hgg, _⟩⟩ := ho
    · cases h
    · simp [Value.ownBlock] at h
      subst h
      rw [hk] at hgg
      simp at hgg
      exact ht hgg.2.1⟩
theorem owns_zs {base n : Nat} {w : World} {v : Value} {l : List Int} (ho : w.ownsRow base 3 1 v n (l.map (Value.int .i64))) (hl : l.length = n) (hr : ∀ x ∈ l, I64 x) : Zs w v l := by
 obtain ⟨h0, ⟨rfl, rfl⟩ | ⟨g, c, cur, rfl, hb, hg, h1, h2, h3, h4⟩⟩ := ho
 ·obtain rfl : l = [] := List.eq_nil_of_length_eq_zero hl
  exact Zs.nil w
 ·unfold maxLen at h2
  refine ⟨hr, some ⟨g, 0, none⟩, c, by rw [hl], by omega, h2, (fun h => by cases h), fun a ha i hi => ?_⟩
  cases ha
  rw [Addr.add_mid, Nat.zero_add, cell_of_row w g i _ _ _ hg]
  have hi2 : i < cur.toList.length := by simp; omega
  have e : (cur.toList.take (n * 1))[i]? = some (.int .i64 (l.getD i 0)) := by
   rw [h4, List.getElem?_map, List.getElem?_eq_getElem hi, List.getD_eq_getElem?_getD, List.getElem?_eq_getElem hi]
   rfl
  rw [List.getElem?_take_of_lt (by omega)] at e
  simpa using e
end Go.Proofs.YtbbglejdfbkjlaaGreat
namespace Go.Proofs.YtbbglejdfbkjlaaGreat
open Go.RowKit
set_option maxHeartbeats 400000 in
theorem refDegree_any (v : Value) (t : List Int) (x : Int) (w : World) (h : Zs w v t) (hl : t.length ≤ 1000) :
  Calls Tryz.prog 111 #[v, .int .i64 x] w fun e w' => e = .returned (.int .i64 (T.deg t x)) ∧ Gr w w' := by
 by_cases hx : x < 0
 ·rw [T.deg_low hx]
  obtain ⟨oa, c, rfl⟩ := h.form
  clear h
  generalize t.length = n at *
  go_enter Tryz.func111, Tryz.ntmps111
  go_wp2
  go_loopw [5] (fun i wr => i = .int .i64 0 ∧ wr = w) (fun _ _ => 0)
  case atStart => exact ⟨rfl, rfl⟩
  case round =>
   obtain ⟨rfl, rfl⟩ := hrel
   by_cases h0 : 0 < n
   ·go_wp2
    go_ret
    exact ⟨rfl, Gr.refl _⟩
   ·go_wp2
    go_ret
    exact ⟨rfl, Gr.refl _⟩
 ·have h5 := h
  obtain ⟨_, oa, c, rfl, h1, h2, h3, h4⟩ := h
  obtain ⟨n, hn⟩ : ∃ n, t.length = n := ⟨_, rfl⟩
  rw [hn] at h1 h4 hl ⊢
  have HN := Lib.hid hn
  have HC := Lib.hid h4
  have HO : Hid (oa = none → n = 0) := Lib.hid (fun e => by have := h3 e; omega)
  clear h3 h4 h5 hn
  go_enter Tryz.func111, Tryz.ntmps111
  go_wp2
  go_loopw [5] (fun i wr => wr = w ∧ ∃ k : Nat, k ≤ n ∧ i = .int .i64 k ∧ ∀ j, j < k → t.getD j 0 ≤ x) (fun i _ => n - (intOf i).toNat)
  case atStart => exact ⟨rfl, 0, by omega, rfl, by omega⟩
  case round =>
   obtain ⟨rfl, k, hk, rfl, hs⟩ := hrel
   have HS := Lib.hid hs
   clear hs
   by_cases hlt : k < n
   ·obtain ⟨a, rfl⟩ : ∃ a, oa = some a := by
     cases oa with
     | none => exact absurd (HO.out rfl) (by omega)
     | some a => exact ⟨a, rfl⟩
    have q := HC.out a rfl k hlt
    obtain ⟨y, hy⟩ : ∃ y, t.getD k 0 = y := ⟨_, rfl⟩
    rw [hy] at q
    have HY := Lib.hid hy
    clear hy
    by_cases hxy : x < y
    ·go_wp2
     go_ret
     exact ⟨by rw [T.deg_at (by omega) (by rw [HN.out]; exact hlt) HS.out (by rw [HY.out]; exact hxy)]; rfl, Gr.refl _⟩
    ·go_wp2
     refine ⟨⟨trivial, k + 1, by omega, by go_num, fun j hj => ?_⟩, by simp [intOf]; omega⟩
     by_cases e : j = k
     ·rw [e, HY.out]; omega
     ·exact HS.out j (by omega)
   ·obtain rfl : k = n := by omega
    go_wp2
    go_ret
    exact ⟨by rw [T.deg_none (fun i hi => HS.out i (by rw [HN.out] at hi; exact hi))]; rfl, Gr.refl _⟩
theorem Zs.kept {w w' : World} {v : Value} {l : List Int} {g s : Nat} (h : Zs w v l) (hr : RAt w g s) (hk : Kp (fun k => k = g) w w') : Zs w' v l := by
 obtain ⟨h0, oa, c, h1, h2, h3, h4, h5⟩ := h
 have key : ∀ (ad : Addr) (z : Int), w.cell? ad = some (.int .i64 z) → ad.block ≠ g := by
  rintro ⟨b, o, sp⟩ z q e
  have e' : b = g := e
  subst e'
  have hsp : sp = none := by simpa using World.cell?_spot q
  subst hsp
  unfold RAt at hr
  rw [cell_of_row w _ o _ _ _ hr] at q
  cases o with
  | zero => simp at q
  | succ o => simp at q
 exact ⟨h0, oa, c, h1, h2, h3, h4, fun a ha i hi => hk.cell (h5 a ha i hi) (key _ _ (h5 a ha i hi))⟩
def lastZ' (t : List Int) : Int := t.getD (t.length - 1) 0
def drawV (t : List Int) (s : Nat) : Int := if t = [] then 0 else T.deg t (belowV s (lastZ' t))
def drawS (t : List Int) (s : Nat) : Nat := if t = [] then s else belowS s (lastZ' t)
set_option maxHeartbeats 400000 in
theorem refDrawDegree_any (v : Value) (t : List Int) (g s : Nat) (w : World) (h : Zs w v t) (hl : t.length ≤ 1000) (hr : RAt w g s) :
  Calls Tryz.prog 80 #[v, .pointer (some ⟨g, 0, none⟩)] w fun e w' => e = .returned (.int .i64 (drawV t s)) ∧ RAt w' g (drawS t s) ∧ Kp (fun k => k = g) w w' := by
 by_cases h0 : 0 < t.length
 ·have hne : t ≠ [] := List.length_pos_iff.1 h0
  have e1 : drawV t s = T.deg t (belowV s (lastZ' t)) := if_neg hne
  have e2 : drawS t s = belowS s (lastZ' t) := if_neg hne
  rw [e1, e2]
  have HZ := Lib.hid h
  have HR := Lib.hid hr
  obtain ⟨a, c, rfl, h1, h2, h3⟩ := Zs.at h h0
  have q := h3 (t.length - 1) (by omega)
  have hrng := h.rng (t.length - 1) (by omega)
  have HLL := Lib.hid hl
  rw [show t.getD (t.length - 1) 0 = lastZ' t from rfl] at q hrng
  generalize lastZ' t = y at *
  obtain ⟨n, hn⟩ : ∃ n, t.length = n := ⟨_, rfl⟩
  rw [hn] at HZ q h1 h0 hl ⊢
  clear h hr h3 hne e1 e2 hn
  obtain ⟨m, rfl⟩ : ∃ m, n = m + 1 := ⟨n - 1, by omega⟩
  rw [Nat.add_sub_cancel] at q
  have hb : (((m + 1 : Nat) : Int) == 0) = false := by simp; omega
  unfold I64 at hrng
  go_enter Tryz.func80, Tryz.ntmps80
  go_wp2_with fail
  refine (refBelow_any g s y _ HR.out (by omega)).mono ?_
  rintro e w1 ⟨rfl, hr1, hk1⟩
  have HR1 := Lib.hid hr1
  have HK1 := Lib.hid hk1
  have HZ1 := Lib.hid (HZ.out.kept HR.out hk1)
  clear hr1 hk1
  go_wp2_with fail
  refine (refDegree_any _ t _ _ HZ1.out HLL.out).mono ?_
  rintro e w2 ⟨rfl, hg2⟩
  have HR2 := Lib.hid (HR1.out.kept (hg2.kp fun _ => False) (fun e => e))
  have HK2 := Lib.hid (HK1.out.trans (hg2.kp (fun k => k = g)) fun k e => .inl e)
  clear hg2
  go_wp2
  go_ret
  exact ⟨rfl, HR2.out, HK2.out⟩
 ·obtain rfl : t = [] := List.eq_nil_of_length_eq_zero (by omega)
  obtain ⟨oa, c, rfl⟩ := h.form
  have HR := Lib.hid hr
  clear h hr
  rw [show drawV [] s = 0 from if_pos rfl, show drawS [] s = s from if_pos rfl]
  go_enter Tryz.func80, Tryz.ntmps80
  go_wp2
  go_ret
  exact ⟨rfl, HR.out, Kp.refl _ _⟩
def tabV (N j : Nat) : List Int := (List.range j).map fun i => ((T.sum N (i + 1) : Nat) : Int)
theorem tabV_succ (N j : Nat) : tabV N (j + 1) = tabV N j ++ [((T.sum N j : Nat) : Int) + (T.weight N (j + 1) : Nat)] := by
 unfold tabV
 rw [List.range_succ, List.map_append]
 rfl
set_option maxRecDepth 100000 in
set_option maxHeartbeats 1600000 in
theorem refTable_in (N : Nat) (w : World) (h1 : 1 ≤ N) (h2 : N ≤ 64) :
  Calls Tryz.prog 81 #[.int .i64 N] w fun e w' => ∃ v, e = .returned v ∧ Zs w' v (T.tabZ N) ∧ Gr w w' := by
 obtain ⟨i0, hi0, hz0, hz1, hz2⟩ := info_parts infoZ
 have I0 := Lib.hid hi0
 have I1 := Lib.hid hz0
 have I2 := Lib.hid hz1
 have I3 := Lib.hid hz2
 clear hi0 hz0 hz1 hz2
 go_enter Tryz.func81, Tryz.ntmps81
 go_wp2
 go_loopw [4] (fun i wr => w = wr ∧ ∃ r : Nat, r ≤ 8 ∧ i = .int .i64 r ∧ ∀ j, j < r → j * j < N) (fun i _ => 8 - (intOf i).toNat)
 case atStart => exact ⟨rfl, 0, by omega, rfl, by omega⟩
 case round =>
  obtain ⟨rfl, r, hr, rfl, hs⟩ := hrel
  have HS := Lib.hid hs
  obtain ⟨q, hq⟩ : ∃ q, r * r = q := ⟨_, rfl⟩
  have hq2 : (r : Int) * r = q := by rw [← hq, Int.natCast_mul]
  have hq3 : q ≤ 64 := by rw [← hq]; exact Nat.mul_le_mul hr hr
  have HQ := Lib.hid hq
  clear hs hq
  by_cases hlt : q < N
  ·go_wp2
   refine ⟨⟨trivial, r + 1, ?_, by go_num, fun j hj => ?_⟩, ?_⟩
   ·apply Classical.byContradiction
    intro c
    have : r = 8 := by omega
    rw [this] at HQ
    have := HQ.out
    omega
   ·by_cases e : j = r
    ·rw [e, HQ.out]; exact hlt
    ·exact HS.out j (by omega)
   ·have : r ≠ 8 := fun c => by
     rw [c] at HQ
     have := HQ.out
     omega
    simp [intOf]
    omega
  ·have hroot := T.root_eq h1 h2 (by rw [HQ.out]; omega) HS.out
   obtain ⟨q1, q2, q3, q4⟩ := T.root_ok N (by omega) h1
   rw [← hroot] at q1 q2 q3
   have HROOT := Lib.hid hroot
   clear hroot q4
   obtain ⟨p, hp⟩ : ∃ p, N / r = p := ⟨_, rfl⟩
   have hpi : (N : Int) / r = p := by rw [← hp, Int.natCast_ediv]
   have hp64 : p ≤ 64 := by rw [← hp]; exact Nat.le_trans (Nat.div_le_self _ _) h2
   have HPK : Hid (T.peak N = p) := Lib.hid (by unfold T.peak; rw [← HROOT.out, hp])
   clear hp HQ HS q1
   go_wp2
   clear hq2 hq3 hlt
   go_loopw [6, 7] (fun bv xv W => w = W ∧ ∃ j : Nat, j ≤ 4 ∧ bv = .int .i64 j ∧ xv = .int .i64 ((r / 2 ^ j : Nat) : Int) ∧ ∀ i, i < j → r / 2 ^ i ≠ 0) (fun bv _ _ => 4 - (intOf bv).toNat)
   case atStart => exact ⟨rfl, 0, by omega, rfl, by rw [Nat.pow_zero, Nat.div_one], by omega⟩
   case round =>
    obtain ⟨rfl, j, hj, rfl, rfl, hs⟩ := hrel
    have HS := Lib.hid hs
    obtain ⟨y, hy⟩ : ∃ y, r / 2 ^ j = y := ⟨_, rfl⟩
    have hy8 : y ≤ 8 := by rw [← hy]; exact Nat.le_trans (Nat.div_le_self _ _) q3
    rw [hy]
    have HY := Lib.hid hy
    clear hs hy
    by_cases hy0 : 0 < y
    ·have hj4 := T.half_ok r (by omega) j (by omega) (by rw [HY.out]; omega)
     have hnx : r / 2 ^ (j + 1) = y / 2 := by rw [Nat.pow_succ, ← Nat.div_div_eq_div_mul, HY.out]
     have HNX := Lib.hid hnx
     clear hnx
     go_wp2
     refine ⟨⟨trivial, j + 1, by omega, by go_num, ?_, fun i hi => ?_⟩, by simp [intOf]; omega⟩
     ·rw [HNX.out]
      exact congrArg (Value.int .i64) (by omega)
     ·by_cases e : i = j
      ·rw [e, HY.out]; omega
      ·exact HS.out i (by omega)
    ·have HDG : Hid (T.digits 9 r = j) := Lib.hid (T.digits_ok (by omega) q2 (by omega) (by rw [HY.out]; omega) HS.out)
     obtain rfl : y = 0 := by omega
     rw [show ((0 : Nat) : Int) = 0 from rfl]
     clear HS HY hy8 hy0
     go_wp2
     go_loopw [8, 9, 10] (fun ov sv kv W => ∃ n : Nat, n ≤ N ∧ kv = .int .i64 ((n + 1 : Nat) : Int) ∧ sv = .int .i64 ((T.sum N n : Nat) : Int) ∧ W.ownsRow w.heap.size 3 1 ov n ((tabV N n).map (Value.int .i64)) ∧ Gr w W) (fun _ _ kv _ => N + 1 - (intOf kv).toNat)
     case atStart => exact ⟨0, by omega, rfl, rfl, World.ownsRow_nil _ _ _ _, Gr.refl _⟩
     case round =>
      obtain ⟨wo, hwo⟩ : ∃ x, x = wr := ⟨_, rfl⟩
      subst hwo
      obtain ⟨n, hn, rfl, rfl, ho, hg⟩ := hrel
      have HO := Lib.hid ho
      have HG := Lib.hid hg
      obtain ⟨oo, co, rfl⟩ := ownsRow_form'' ho
      clear ho hg
      obtain ⟨k, hk⟩ : ∃ k, n + 1 = k := ⟨_, rfl⟩
      rw [hk]
      have hsle := T.sum_le h1 h2 hn
      obtain ⟨s, hs⟩ : ∃ s, T.sum N n = s := ⟨_, rfl⟩
      rw [hs] at hsle ⊢
      have HSS := Lib.hid hs
      clear hs
      by_cases hlt2 : n < N
      ·have hkN : k ≤ N := by omega
       have hk1 : 1 ≤ k := by omega
       have HK := Lib.hid hk
       have hk2 : k * (k - 1) ≤ 4032 := Nat.le_trans (Nat.mul_le_mul (by omega : k ≤ 64) (by omega : k - 1 ≤ 63)) (by omega)
       obtain ⟨P, hP⟩ : ∃ P, k * (k - 1) = P := ⟨_, rfl⟩
       have fP : (k : Int) * ((k : Int) - 1) = P := by
        rw [← hP, Int.natCast_mul]
        congr 1
        omega
       have fP1 : 1 < k → 1 ≤ P := fun c => by rw [← hP]; exact Nat.mul_pos (by omega) (by omega)
       rw [hP] at hk2
       obtain ⟨a1, ha1⟩ : ∃ a1, 1048576 / N = a1 := ⟨_, rfl⟩
       have fa1 : (1048576 : Int) / N = a1 := by rw [← ha1, Int.natCast_ediv]; rfl
       have ba1 : a1 ≤ 1048576 := by rw [← ha1]; exact Nat.div_le_self _ _
       obtain ⟨a2, ha2⟩ : ∃ a2, 1048576 / P = a2 := ⟨_, rfl⟩
       have fa2 : (1048576 : Int) / P = a2 := by rw [← ha2, Int.natCast_ediv]; rfl
       have ba2 : a2 ≤ 1048576 := by rw [← ha2]; exact Nat.div_le_self _ _
       obtain ⟨Q, hQ⟩ : ∃ Q, N * k = Q := ⟨_, rfl⟩
       have fQ : (N : Int) * k = Q := by rw [← hQ, Int.natCast_mul]
       have bQ : Q ≤ 4096 := by rw [← hQ]; exact Nat.le_trans (Nat.mul_le_mul h2 (by omega : k ≤ 64)) (by omega)
       have fQ1 : 1 ≤ Q := by rw [← hQ]; exact Nat.mul_pos (by omega) (by omega)
       obtain ⟨R1, hR1⟩ : ∃ R1, 1048576 * r = R1 := ⟨_, rfl⟩
       have fR1 : (1048576 : Int) * r = R1 := by rw [← hR1, Int.natCast_mul]; rfl
       have bR1 : R1 ≤ 8388608 := by omega
       obtain ⟨a3, ha3⟩ : ∃ a3, R1 / Q = a3 := ⟨_, rfl⟩
       have fa3 : (R1 : Int) / Q = a3 := by rw [← ha3, Int.natCast_ediv]
       have ba3 : a3 ≤ 8388608 := by rw [← ha3]; exact Nat.le_trans (Nat.div_le_self _ _) bR1
       obtain ⟨R2, hR2⟩ : ∃ R2, R1 * j = R2 := ⟨_, rfl⟩
       have fR2 : (R1 : Int) * j = R2 := by rw [← hR2, Int.natCast_mul]
       have bR2 : R2 ≤ 8388608 * 4 := by rw [← hR2]; exact Nat.mul_le_mul bR1 hj
       obtain ⟨a4, ha4⟩ : ∃ a4, R2 / N = a4 := ⟨_, rfl⟩
       have fa4 : (R2 : Int) / N = a4 := by rw [← ha4, Int.natCast_ediv]
       have ba4 : a4 ≤ 8388608 * 4 := by rw [← ha4]; exact Nat.le_trans (Nat.div_le_self _ _) bR2
       have HWT : Hid (T.weight N k = (if 1 < k then a2 else a1) + (if k < p then a3 else 0) + (if k = p then a4 else 0)) := Lib.hid (by
         unfold T.weight
         rw [HPK.out, ← HROOT.out, HDG.out, hP, ha2, ha1, hR1, hQ, ha3, hR2, ha4])
       clear hP ha1 ha2 hQ hR1 ha3 hR2 ha4
       obtain ⟨A1, hA1⟩ : ∃ A1, (if 1 < k then a2 else a1) = A1 := ⟨_, rfl⟩
       have bA1 : A1 ≤ 1048576 := by rw [← hA1]; split <;> assumption
       obtain ⟨A2, hA2⟩ : ∃ A2, A1 + (if k < p then a3 else 0) = A2 := ⟨_, rfl⟩
       have bA2 : A2 ≤ 1048576 + 8388608 := by rw [← hA2]; split <;> omega
       obtain ⟨A3, hA3⟩ : ∃ A3, A2 + (if k = p then a4 else 0) = A3 := ⟨_, rfl⟩
       have bA3 : A3 ≤ 1048576 + 8388608 + 8388608 * 4 := by rw [← hA3]; split <;> omega
       rw [hA1, hA2, hA3] at HWT
       have HA1 := Lib.hid hA1
       have HA2 := Lib.hid hA2
       have HA3 := Lib.hid hA3
       clear hA1 hA2 hA3
       go_upto_if 44 with fail
       go_cut [11] (fun sx wx => sx = .int .i64 (A1 : Nat) ∧ wo = wx)
       case first =>
        by_cases hk3 : 1 < k
        ·have hP1 := fP1 hk3
         have hA : A1 = a2 := by rw [← HA1.out, if_pos hk3]
         go_wp2_with fail
         go_meet
         exact ⟨congrArg (Value.int .i64) (by omega), rfl⟩
        ·have hA : A1 = a1 := by rw [← HA1.out, if_neg hk3]
         go_wp2_with fail
         go_meet
         exact ⟨congrArg (Value.int .i64) (by omega), rfl⟩
       case rest =>
        obtain ⟨rfl, rfl⟩ := hcut
        go_upto_if 53 with fail
        go_cut [11] (fun sx wx => sx = .int .i64 (A2 : Nat) ∧ wo = wx)
        case first =>
         by_cases hk3 : k < p
         ·have hA : (A2 : Int) = A1 + a3 := by rw [← HA2.out, if_pos hk3]; omega
          go_wp2_with fail
          go_meet
          exact ⟨congrArg (Value.int .i64) (by omega), rfl⟩
         ·have hA : A2 = A1 := by rw [← HA2.out, if_neg hk3]; omega
          go_wp2_with fail
          go_meet
          exact ⟨congrArg (Value.int .i64) (by omega), rfl⟩
        case rest =>
         obtain ⟨rfl, rfl⟩ := hcut
         go_upto_if 65 with fail
         go_cut [11] (fun sx wx => sx = .int .i64 (A3 : Nat) ∧ wo = wx)
         case first =>
          by_cases hk3 : k = p
          ·have hA : (A3 : Int) = A2 + a4 := by rw [← HA3.out, if_pos hk3]; omega
           have hkp : ((k : Int) == p) = true := by simp; omega
           clear hk3
           go_wp2_with fail
           go_meet
           exact ⟨congrArg (Value.int .i64) (by omega), rfl⟩
          ·have hA : A3 = A2 := by rw [← HA3.out, if_neg hk3]; omega
           have hkp : ((k : Int) == p) = false := by simp; omega
           clear hk3
           go_wp2_with fail
           go_meet
           exact ⟨congrArg (Value.int .i64) (by omega), rfl⟩
         case rest =>
          obtain ⟨rfl, rfl⟩ := hcut
          clear HA1 HA2 HA3
          go_wp2_with (first
            | (at_builtin; refine wpList_append_lies _ rfl _ _ _ rfl w.heap.size 3 i0 _ 1 8 Tryz.underlying26 I0.out I1.out I2.out I3.out rfl (by omega) (.slice oo n co) n _ rfl (HO.out.alloc _)
                ⟨wo.heap.size, 0, none⟩ 1 1 [.int .i64 ((s : Int) + A3)] rfl rfl (World.news_of_block (cs := #[.int .i64 ((s : Int) + A3)]) (t := 3) (fr := (0, 0)) (heap_alloc_new wo _)) (by simp [Value.oneCell'])
                (by omega) (by unfold maxLen; omega) (by omega) (by have := HG.out.size; simp; omega) (wo.heap.size + 1) (by simp) ?_; intro gg cap w2 hown2 hgrow2 hat2 hlt2; have HO2 := Lib.hid hown2; have HG2 := Lib.hid hgrow2; clear hown2 hgrow2 hat2 hlt2))
          refine ⟨⟨n + 1, by omega, ?_, ?_, ?_, ?_⟩, by simp [intOf]; omega⟩
          ·rw [HK.out]; go_num
          ·show Value.int .i64 _ = Value.int .i64 ((T.sum N n + T.weight N (n + 1) : Nat) : Int)
           rw [HSS.out, HK.out, HWT.out]
           exact congrArg (Value.int .i64) (by omega)
          ·rw [tabV_succ, List.map_append, HSS.out, HK.out, HWT.out]
           have h9 := HO2.out
           rw [HK.out] at h9
           exact h9
          ·exact Gr.append (Gr.alloc HG.out _ _) HG2.out (fun g hg => by
             obtain ⟨_, ⟨he, _⟩ | ⟨g', c', cur, he, hb, _⟩⟩ := HO.out
             · rw [he] at hg
               cases hg
             · rw [he] at hg
               cases hg
               exact hb)
      ·obtain rfl : n = N := by omega
       go_wp2
       go_ret
       exact ⟨_, rfl, owns_zs (l := tabV n n) HO.out (by simp [tabV]) (fun x hx => by
         obtain ⟨i, hi, rfl⟩ := List.mem_map.1 hx
         have := T.sum_le h1 h2 (i := i + 1) (by have := List.mem_range.1 hi; omega)
         unfold I64
         omega), HG.out⟩
end Go.Proofs.YtbbglejdfbkjlaaGreat
namespace Go.Proofs.YtbbglejdfbkjlaaGreat
open Go.RowKit
theorem tabZ_rng {N : Nat} (h1 : 1 ≤ N) (h2 : N ≤ 64) : ∀ x ∈ T.tabZ N, 0 ≤ x ∧ x < 8388608 := by
 intro x hx
 obtain ⟨i, hi, rfl⟩ := List.mem_map.1 hx
 have := T.sum_le h1 h2 (i := i + 1) (by have := List.mem_range.1 hi; omega)
 omega
set_option maxHeartbeats 400000 in
theorem refTable_any (l : Int) (w : World) : Calls Tryz.prog 81 #[.int .i64 l] w fun e w' => ∃ v, e = .returned v ∧ Zs w' v (T.tab l) ∧ Gr w w' := by
 by_cases hin : 1 ≤ l ∧ l ≤ 64
 ·obtain ⟨N, rfl⟩ : ∃ N : Nat, l = N := ⟨l.toNat, by omega⟩
  rw [T.tab_in (by omega) (by omega)]
  exact refTable_in N w (by omega) (by omega)
 ·rw [T.tab_out hin]
  by_cases h1 : l < 1
  ·go_enter Tryz.func81, Tryz.ntmps81
   go_wp2
   go_ret
   exact ⟨_, rfl, Zs.nil _, Gr.refl _⟩
  ·have h2 : 64 < l := by omega
   go_enter Tryz.func81, Tryz.ntmps81
   go_wp2
   go_ret
   exact ⟨_, rfl, Zs.nil _, Gr.refl _⟩
structure SolOk (At : World → Value → (Nat → Prop) → Nat → Prop) : Prop where
 table : ∀ (l : Int) (w : World), I64 l → Calls Tryz.prog 115 #[.int .i64 l] w fun e w' => ∃ v, e = .returned v ∧ Zs w' v (T.tab l) ∧ Gr w w'
 degree : ∀ (v : Value) (l x : Int) (w : World), I64 l → I64 x → Zs w v (T.tab l) → Calls Tryz.prog 138 #[v, .int .i64 x] w fun e w' => e = .returned (.int .i64 (T.deg (T.tab l) x)) ∧ Gr w w'
 draw : ∀ (v d : Value) (l : Int) (F : Nat → Prop) (s : Nat) (w : World), I64 l → s < 18446744073709551616 → Zs w v (T.tab l) → AwayZ F v → At w d F s →
  Calls Tryz.prog 114 #[v, d] w fun e w' => e = .returned (.int .i64 (drawV (T.tab l) s)) ∧ At w' d F (drawS (T.tab l) s) ∧ Kp F w w'
end Go.Proofs.YtbbglejdfbkjlaaGreat
