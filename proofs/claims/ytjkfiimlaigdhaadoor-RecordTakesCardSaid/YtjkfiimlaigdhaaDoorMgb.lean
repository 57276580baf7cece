/-
  Texts laid behind one another: Ref St Sl Sp Vb SumTellsW Rv.
-/
import Derived.Test.YtjkfiimlaigdhaaDoorMga
import Derived.OpenShut
import Derived.Laws.CopyOwn
import Derived.Deep.CutBlock
import Derived.Lib.SlBytesConst
import Derived.Deep.RegionHeld3
namespace Go.Proofs.YtjkfiimlaigdhaaDoor
open Go.RowKit

theorem shr_nat (y k : Nat) : ((y : Int) / 2 ^ k) = ((y / 2 ^ k : Nat) : Int) := by
  rw [Int.natCast_ediv, Int.natCast_pow]
  rfl
theorem bit8 (y k : Nat) (h : y < 256) : (bits BinOp.and IntKind.u8 ((y : Int) / 2 ^ k) 1 == 1) = y.testBit k := by
  have h2 : y / 2 ^ k < 256 := Nat.lt_of_le_of_lt (Nat.div_le_self _ _) h
  rw [shr_nat, show (1 : Int) = ((1 : Nat) : Int) from rfl, u8_and_nat _ 1 h2 (by omega), nat_mask1, Nat.testBit_eq_decide_div_mod_eq]
  by_cases e : y / 2 ^ k % 2 = 1
  · rw [e]; simp
  · rw [decide_eq_false e, show y / 2 ^ k % 2 = 0 from by omega]
    rfl
theorem bit16 (y k : Nat) (h : y < 65536) : (bits BinOp.and IntKind.u16 ((y : Int) / 2 ^ k) 1 == 1) = y.testBit k := by
  have h2 : y / 2 ^ k < 65536 := Nat.lt_of_le_of_lt (Nat.div_le_self _ _) h
  rw [shr_nat, show (1 : Int) = ((1 : Nat) : Int) from rfl, u16_and_nat _ 1 h2 (by omega), nat_mask1, Nat.testBit_eq_decide_div_mod_eq]
  by_cases e : y / 2 ^ k % 2 = 1
  · rw [e]; simp
  · rw [decide_eq_false e, show y / 2 ^ k % 2 = 0 from by omega]
    rfl
theorem pow_le7 (k : Nat) (h : k ≤ 7) : 2 ^ k ≤ 128 := Nat.pow_le_pow_right (n := 2) (by omega) h
theorem xor16 (c x k : Nat) (hc : c < 65536) (hx : x < 300) (hk : k ≤ 7) : bits BinOp.xor IntKind.u16 (c : Int) (IntKind.u16.wrap ((x : Int) * 2 ^ k)) = ((c ^^^ x * 2 ^ k : Nat) : Int) := by
  have h1 : x * 2 ^ k < 65536 := by
    have := Nat.mul_le_mul (Nat.le_of_lt hx) (pow_le7 k hk)
    omega
  rw [show (x : Int) * 2 ^ k = ((x * 2 ^ k : Nat) : Int) from by rw [Int.natCast_mul, Int.natCast_pow]; rfl, IntKind.wrap_u16, show ((x * 2 ^ k : Nat) : Int) % 65536 = ((x * 2 ^ k : Nat) : Int) from by omega]
  exact u16_xor_nat _ _ hc h1
theorem carry_lt (x y : Nat) (hx : x < 256) : ∀ k, k ≤ 8 → M.carry x y k < 65536
  | 0, _ => by simp [M.carry]
  | k + 1, h => by
    have ih := carry_lt x y hx k (by omega)
    have h1 : x * 2 ^ k < 65536 := by
      have := Nat.mul_le_mul (Nat.le_of_lt hx) (pow_le7 k (by omega))
      omega
    simp only [M.carry]
    split
    · exact Nat.xor_lt_two_pow (n := 16) ih h1
    · simpa using ih
theorem cut_lt (p : Nat) (hp : p < 65536) : ∀ k, k ≤ 8 → M.cutDown p k < 65536
  | 0, _ => hp
  | k + 1, h => by
    have ih := cut_lt p hp k (by omega)
    have h1 : 283 * 2 ^ (7 - k) < 65536 := by
      have := Nat.mul_le_mul (Nat.le_refl 283) (pow_le7 (7 - k) (by omega))
      omega
    simp only [M.cutDown]
    split
    · exact Nat.xor_lt_two_pow (n := 16) ih h1
    · simpa using ih
theorem carry_yes (x y k : Nat) (h : y.testBit k = true) : M.carry x y (k + 1) = M.carry x y k ^^^ x * 2 ^ k := by simp [M.carry, h]
theorem carry_no (x y k : Nat) (h : y.testBit k = false) : M.carry x y (k + 1) = M.carry x y k := by simp [M.carry, h]
theorem cut_yes (p m : Nat) (h8 : 8 ≤ m) (h15 : m ≤ 15) (h : (M.cutDown p (15 - m)).testBit m = true) : M.cutDown p (15 - (m - 1)) = M.cutDown p (15 - m) ^^^ 283 * 2 ^ (m - 8) := by
  rw [show 15 - (m - 1) = (15 - m) + 1 from by omega]
  simp only [M.cutDown]
  rw [show 15 - (15 - m) = m from by omega, show 7 - (15 - m) = m - 8 from by omega, if_pos h]
theorem cut_no (p m : Nat) (h8 : 8 ≤ m) (h15 : m ≤ 15) (h : (M.cutDown p (15 - m)).testBit m = false) : M.cutDown p (15 - (m - 1)) = M.cutDown p (15 - m) := by
  rw [show 15 - (m - 1) = (15 - m) + 1 from by omega]
  simp only [M.cutDown]
  rw [show 15 - (15 - m) = m from by omega, h]
  simp


theorem mul_one_iff (x k : Nat) (hx : x < 256) (hk : k < 256) (h0 : x ≠ 0) : M.mulN x k = 1 ↔ k = M.invN x :=
  ⟨fun h => M.inv_unique x k hx hk h, fun h => by rw [h]; exact M.mulN_inv x hx h0⟩




theorem within_fact (x n : Int) (h : 0 < n) : x.tmod n = x % n ∨ (x.tmod n < 0 ∧ x.tmod n + n = x % n) := by
  have h1 := Int.tmod_eq_emod (a := x) (b := n)
  have h2 := Int.emod_lt_of_pos x h
  have h3 : (n.natAbs : Int) = n := by omega
  split at h1
  · omega
  · omega
set_option maxRecDepth 100000 in
set_option maxHeartbeats 400000 in
theorem within_any (x n : Int) (h1 : 1 ≤ n) (h2 : n ≤ 1000000) (w : World) :
    Calls Tryd.prog 9 #[.int .i64 x, .int .i64 n] w fun e w' => e = .returned (.int .i64 (x % n)) ∧ w = w' := by
  have ht := within_fact x n (by omega)
  have h3 := Int.emod_lt_of_pos x (by omega : 0 < n)
  have h4 := Int.emod_nonneg x (by omega : n ≠ 0)
  have hn : (n == 0) = false := by simp; omega
  rcases ht with ht | ⟨ht, hu⟩
  · go_enter Tryd.func9, Tryd.ntmps9
    go_wp2_with fail
    go_ret
    exact ⟨rfl, rfl⟩
  · obtain ⟨r, hr⟩ : ∃ r, x.tmod n = r := ⟨_, rfl⟩
    rw [hr] at ht hu
    go_enter Tryd.func9, Tryd.ntmps9
    go_wp2_with fail
    go_ret
    exact ⟨rfl, rfl⟩

end Go.Proofs.YtjkfiimlaigdhaaDoor
namespace Go.Proofs.YtjkfiimlaigdhaaDoor
open Go.RowKit

/-- The sum, on integers. -/
def addZ (a b : Int) : Int := ((a.toNat ^^^ b.toNat : Nat) : Int)
theorem addZ_byt {a b : Int} (ha : Byt a) (hb : Byt b) : Byt (addZ a b) := by
  unfold Byt at *
  have h := M.xor_lt (x := a.toNat) (y := b.toNat) (by omega) (by omega)
  unfold addZ
  omega
/-- From w0 on only new memory was made, and f is a Field (nil, or with its tables) in w. -/
def St (w0 w : World) (f : Value) : Prop := Gr w0 w ∧ IsF w f
theorem St.step {w0 w w' : World} {f : Value} (h : St w0 w f) (hg : Gr w w') : St w0 w' f := ⟨Gr.trans h.1 hg, IsF.grown h.2 hg⟩
theorem within_st {w0 w : World} {f : Value} {x n : Int} (h1 : 1 ≤ n) (h2 : n ≤ 1000000) (h : St w0 w f) :
    Calls Tryd.prog 9 #[.int .i64 x, .int .i64 n] w fun e w' => e = .returned (.int .i64 (x % n)) ∧ St w0 w' f :=
  (within_any x n h1 h2 w).mono fun _ _ ⟨he, hw⟩ => ⟨he, hw ▸ h⟩

theorem byt_of_wf {a : Int} (h : (Lit.int .u8 a).wf = true) : Byt a := by
  have := bounds_u8 h
  unfold Byt
  omega
theorem byt_nat {a : Int} (h : Byt a) : ∃ x : Nat, a = x ∧ x < 256 := by
  unfold Byt at h
  exact ⟨a.toNat, by omega, by omega⟩

/-! ### The laws of a field, on integers -/
theorem addZ_comm (a b : Int) : addZ a b = addZ b a := by
  unfold addZ
  rw [Nat.xor_comm]
theorem addZ_assoc (a b c : Int) : addZ (addZ a b) c = addZ a (addZ b c) := by
  unfold addZ
  rw [Int.toNat_natCast, Int.toNat_natCast, Nat.xor_assoc]
theorem addZ_self (a : Int) : addZ a a = 0 := by
  unfold addZ
  rw [Nat.xor_self]
  rfl
theorem mulZ_comm (a b : Int) : mulZ a b = mulZ b a := by
  unfold mulZ
  rw [M.mulN_comm]
theorem mulZ_assoc (a b c : Int) : mulZ (mulZ a b) c = mulZ a (mulZ b c) := by
  unfold mulZ
  rw [Int.toNat_natCast, Int.toNat_natCast, M.mulN_assoc]
theorem mulZ_addZ (a b c : Int) (hb : Byt b) (hc : Byt c) : mulZ a (addZ b c) = addZ (mulZ a b) (mulZ a c) := by
  unfold Byt at *
  unfold mulZ addZ
  rw [Int.toNat_natCast, Int.toNat_natCast, Int.toNat_natCast, M.mulN_xor _ _ _ (by omega) (by omega)]
theorem mulZ_one (a : Int) (ha : Byt a) : mulZ a 1 = a := by
  unfold Byt at *
  unfold mulZ
  rw [show (1 : Int).toNat = 1 from rfl, M.mulN_one _ (by omega)]
  omega
theorem sqZ_add (a b : Int) (ha : Byt a) (hb : Byt b) : mulZ (addZ a b) (addZ a b) = addZ (mulZ a a) (mulZ b b) := by
  unfold Byt at *
  unfold mulZ addZ
  rw [Int.toNat_natCast, Int.toNat_natCast, Int.toNat_natCast, M.sq_xor _ _ (by omega) (by omega)]
theorem sqZ_inj (a b : Int) (ha : Byt a) (hb : Byt b) (h : mulZ a a = mulZ b b) : a = b := by
  unfold Byt at *
  unfold mulZ at h
  have := M.sq_inj a.toNat b.toNat (by omega) (by omega) (by omega)
  omega
/-- To square k times, on integers. -/
def sqsZ (k : Nat) (a : Int) : Int := ((M.sqs k a.toNat : Nat) : Int)
theorem sqsZ_zero (a : Int) (ha : Byt a) : sqsZ 0 a = a := by
  unfold Byt at ha
  show ((a.toNat : Nat) : Int) = a
  omega
theorem sqsZ_succ (k : Nat) (a : Int) : sqsZ (k + 1) a = mulZ (sqsZ k a) (sqsZ k a) := rfl
theorem sqsZ_eight (a : Int) (ha : Byt a) : sqsZ 8 a = a := by
  unfold Byt at ha
  unfold sqsZ
  rw [M.sqs_eight _ (by omega)]
  omega
theorem sqsZ_byt (k : Nat) (a : Int) (ha : Byt a) : Byt (sqsZ k a) := by
  cases k with
  | zero => rw [sqsZ_zero a ha]; exact ha
  | succ k => rw [sqsZ_succ]; exact mulZ_byt _ _
theorem mulZ_zero (a : Int) : mulZ a 0 = 0 := by simp [mulZ, M.mulN_zero_right]
theorem mulZ_inv (a : Int) (ha : Byt a) (h0 : a ≠ 0) : mulZ a (invZ a) = 1 := by
  unfold Byt at ha
  unfold mulZ invZ
  rw [Int.toNat_natCast, M.mulN_inv _ (by omega) (by omega)]
  rfl
theorem invZ_inv (a : Int) (ha : Byt a) : invZ (invZ a) = a := by
  unfold Byt at ha
  unfold invZ
  rw [Int.toNat_natCast, M.inv_inv _ (by omega)]
  omega
theorem invZ_unique (a b : Int) (ha : Byt a) (hb : Byt b) (h : mulZ a b = 1) : b = invZ a := by
  unfold Byt at ha hb
  unfold mulZ at h
  unfold invZ
  rw [← M.inv_unique a.toNat b.toNat (by omega) (by omega) (by omega)]
  omega
theorem divZ_back (a b : Int) (ha : Byt a) (hb : Byt b) (h0 : b ≠ 0) : mulZ (mulZ a (invZ b)) b = a := by
  unfold Byt at ha hb
  unfold mulZ invZ
  rw [Int.toNat_natCast, Int.toNat_natCast, M.div_back _ _ (by omega) (by omega) (by omega)]
  omega
theorem mulZ_nought (a b : Int) (ha : Byt a) (hb : Byt b) (h0 : b ≠ 0) : (mulZ a b == 0) = (a == 0) := by
  unfold Byt at ha hb
  have h := M.mulN_eq_zero a.toNat b.toNat
  by_cases e : a = 0
  · subst e
    rw [mulZ_comm, mulZ_zero]
  · rw [beq_eq_false_iff_ne.2 e]
    apply beq_eq_false_iff_ne.2
    intro c
    unfold mulZ at c
    have := h.1 (by omega)
    omega
theorem expZ_add (m n : Int) : mulZ (expZ m) (expZ n) = expZ (m + n) := by
  unfold mulZ expZ
  rw [Int.toNat_natCast, Int.toNat_natCast, M.mul_ex _ _ (by omega) (by omega), show ((m % 255).toNat + (n % 255).toNat) % 255 = ((m + n) % 255).toNat from by omega]
theorem expZ_neg (m : Int) : mulZ (expZ m) (expZ (-m)) = 1 := by
  rw [expZ_add, show m + -m = 0 from by omega]
  decide +kernel
theorem expZ_round (m : Int) : expZ (m + 255) = expZ m := by
  unfold expZ
  rw [show (m + 255) % 255 = m % 255 from by omega]

/-- A row of n bools: at j what g says of j. -/
def tabB (n : Nat) (g : Nat → Bool) : Array Value := ((List.range n).map fun j => Value.bool (g j)).toArray
theorem tabB_size (n : Nat) (g : Nat → Bool) : (tabB n g).size = n := by simp [tabB]
theorem tabB_get (n : Nat) (g : Nat → Bool) (j : Nat) (h : j < n) : (tabB n g)[j]? = some (.bool (g j)) := by
  simp [tabB, h]
theorem tabB_set (n : Nat) (g : Nat → Bool) (k : Nat) (v : Bool) (h : k < n) : (tabB n g).setIfInBounds k (.bool v) = tabB n (fun j => if j = k then v else g j) := by
  apply Array.ext_getElem?
  intro j
  rw [Array.getElem?_setIfInBounds, tabB_size]
  by_cases hj : j < n
  · rw [tabB_get n g j hj, tabB_get n _ j hj]
    by_cases e : k = j
    · subst e
      simp [h]
    · rw [if_neg e, if_neg (fun x => e x.symm)]
  · have h1 : (tabB n g)[j]? = none := by rw [Array.getElem?_eq_none]; rw [tabB_size]; omega
    have h2 : (tabB n (fun j => if j = k then v else g j))[j]? = none := by rw [Array.getElem?_eq_none]; rw [tabB_size]; omega
    rw [if_neg (by omega), h1, h2]
theorem tabB_congr (n : Nat) (g g' : Nat → Bool) (h : ∀ j, j < n → g j = g' j) : tabB n g = tabB n g' := by
  unfold tabB
  congr 1
  exact List.map_congr_left fun j hj => by rw [h j (List.mem_range.1 hj)]
/-- Which bytes the first k powers are. -/
def hadB (k : Nat) : Nat → Bool := fun x => decide (x ≠ 0 ∧ M.lgN x < k)
theorem hadB_nil : tabB 256 (fun _ => false) = tabB 256 (hadB 0) := tabB_congr 256 _ _ fun j _ => by simp [hadB]
theorem hadB_set (k : Nat) (h : k < 255) : (tabB 256 (hadB k)).setIfInBounds (M.exN k) (.bool true) = tabB 256 (hadB (k + 1)) := by
  rw [tabB_set 256 _ _ _ (M.exN_lt k)]
  apply tabB_congr
  intro x hx
  obtain ⟨h1, h2⟩ := M.lg_ex k h
  unfold hadB
  by_cases e : x = M.exN k
  · subst e
    rw [if_pos rfl]
    symm
    simp [h1, h2]
  · rw [if_neg e]
    have : x ≠ 0 → M.lgN x ≠ k := fun h0 c => e (by rw [← c]; exact (M.ex_lg x hx h0).1.symm)
    by_cases h0 : x = 0
    · simp [h0]
    · have h3 := this h0
      have h4 : (M.lgN x < k) ↔ (M.lgN x < k + 1) := by omega
      simp [h0, h4]
theorem hadB_not (k : Nat) (h : k < 255) : hadB k (M.exN k) = false := by
  obtain ⟨h1, h2⟩ := M.lg_ex k h
  unfold hadB
  simp [h1]
theorem expZ_nat (k : Nat) (h : k < 255) : expZ k = ((M.exN k : Nat) : Int) := by
  unfold expZ
  rw [show ((k : Int) % 255).toNat = k from by omega]
theorem lgZ_ex (k : Nat) (h : k < 255) : lgZ ((M.exN k : Nat) : Int) = k := by
  unfold lgZ
  rw [Int.toNat_natCast, (M.lg_ex k h).1]
theorem St.at {w0 w : World} {b : Nat} (h : St w0 w (.pointer (some ⟨b, 0, none⟩))) : FieldAt w b := by
  rcases h.2 with h | ⟨b', h, hf⟩
  · cases h
  · cases h
    exact hf
theorem xorZ (a b : Int) (ha : Byt a) (hb : Byt b) : bits BinOp.xor IntKind.u8 a b = addZ a b := by
  unfold Byt at *
  exact u8_xor a b (by omega) (by omega) (by omega) (by omega)
theorem lgZ_bd (a : Int) : 0 ≤ lgZ a ∧ lgZ a ≤ 255 := by
  have := M.lgN_lt a.toNat
  unfold lgZ
  omega
theorem lgZ_zero : lgZ 0 = 0 := by
  unfold lgZ
  rw [show (0 : Int).toNat = 0 from rfl, M.lgN_zero]
  rfl
theorem maxLg (a : Int) : (if 0 < lgZ a then lgZ a else 0) = lgZ a := by
  have h := lgZ_bd a
  by_cases e : 0 < lgZ a
  · rw [if_pos e]
  · rw [if_neg e]
    omega
end Go.Proofs.YtjkfiimlaigdhaaDoor
namespace Go.Proofs.YtjkfiimlaigdhaaDoor
open Go.RowKit

/-- v is a slice of bytes that reads as l in w. -/
def Bs (w : World) (v : Value) (l : List Int) : Prop :=
  (∀ x ∈ l, Byt x) ∧ ∃ oa c, v = .slice oa l.length c ∧ l.length ≤ c ∧ c ≤ 9223372036854775807 ∧ (oa = none → c = 0) ∧ ∀ a, oa = some a → ∀ i, i < l.length → w.cell? (a.add i) = some (.int .u8 (l.getD i 0))
theorem Bs.nil (w : World) : Bs w (.slice none 0 0) [] := ⟨by simp, none, 0, rfl, by simp, by omega, fun _ => rfl, fun a h => by cases h⟩
theorem Bs.byt {w : World} {v : Value} {l : List Int} (h : Bs w v l) (i : Nat) : Byt (l.getD i 0) := by
  by_cases hi : i < l.length
  · rw [List.getD_eq_getElem?_getD, List.getElem?_eq_getElem hi]
    exact h.1 _ (List.getElem_mem hi)
  · rw [List.getD_eq_getElem?_getD, List.getElem?_eq_none (by omega)]
    unfold Byt
    simp
theorem Bs.at {w : World} {v : Value} {l : List Int} (h : Bs w v l) (hl : 0 < l.length) :
    ∃ a c, v = .slice (some a) l.length c ∧ l.length ≤ c ∧ c ≤ 9223372036854775807 ∧ ∀ i, i < l.length → w.cell? (a.add i) = some (.int .u8 (l.getD i 0)) := by
  obtain ⟨_, oa, c, h1, h2, h3, h4, h5⟩ := h
  cases oa with
  | none => exact absurd (h4 rfl) (by omega)
  | some a => exact ⟨a, c, h1, h2, h3, h5 a rfl⟩
theorem cell_grown {w w' : World} (hg : Gr w w') {a : Addr} {x : Value} (h : w.cell? a = some x) : w'.cell? a = some x := by
  obtain ⟨b, o, s⟩ := a
  have hs : s = none := by simpa using World.cell?_spot h
  subst hs
  cases ho : w.heap[b]? with
  | none => simp [World.cell?, ho] at h
  | some ob =>
    cases ob with
    | cells c t fr =>
      rw [cell_of_row w' b _ c t fr (keptRow hg ho)]
      rw [cell_of_row w b _ c t fr ho] at h
      exact h
    | _ => simp [World.cell?, ho] at h
theorem Bs.grown {w w' : World} {v : Value} {l : List Int} (h : Bs w v l) (hg : Gr w w') : Bs w' v l := by
  obtain ⟨h0, oa, c, h1, h2, h3, h4, h5⟩ := h
  exact ⟨h0, oa, c, h1, h2, h3, h4, fun a ha i hi => cell_grown hg (h5 a ha i hi)⟩

theorem eq_of_getD {x y : List Int} (hl : y.length = x.length) (h : ∀ j, j < x.length → x.getD j 0 = y.getD j 0) : x = y := by
  apply List.ext_getElem hl.symm
  intro j h1 h2
  have := h j h1
  rw [List.getD_eq_getElem?_getD, List.getD_eq_getElem?_getD, List.getElem?_eq_getElem h1, List.getElem?_eq_getElem h2] at this
  simpa using this

set_option maxHeartbeats 400000 in
theorem same_core (a b : Addr) (n ca cb : Nat) (x y : List Int) (w : World) (hn : x.length = n) (hl : y.length = n) (hx : n ≤ ca) (hy : n ≤ cb) (hm : ca ≤ 9223372036854775807)
    (hxc : ∀ i, i < n → w.cell? (a.add i) = some (.int .u8 (x.getD i 0))) (hyc : ∀ i, i < n → w.cell? (b.add i) = some (.int .u8 (y.getD i 0))) :
    Calls Tryd.prog 14 #[.slice (some a) n ca, .slice (some b) n cb] w fun e w' => e = .returned (.bool (x == y)) ∧ Gr w w' := by
  have HX := Lib.hid hxc
  have HY := Lib.hid hyc
  have HL := Lib.hid hl
  have HN := Lib.hid hn
  clear hxc hyc hl hn
  go_enter Tryd.func14, Tryd.ntmps14
  go_wp2
  go_loopw [13] (fun i wr => ∃ k : Nat, k ≤ n ∧ i = .int .i64 k ∧ (∃ d, wr = w.drewN d) ∧ (∀ j, j < k → x.getD j 0 = y.getD j 0)) (fun i _ => n - (intOf i).toNat)
  case atStart => exact ⟨0, by omega, rfl, ⟨0, rfl⟩, by omega⟩
  case round =>
    obtain ⟨k, hk, rfl, ⟨d, rfl⟩, hs⟩ := hrel
    have HS := Lib.hid hs
    clear hs
    by_cases hlt : k < n
    · have h1 := HX.out k hlt
      have h2 := HY.out k hlt
      obtain ⟨p, hp⟩ : ∃ p, x.getD k 0 = p := ⟨_, rfl⟩
      obtain ⟨q, hq⟩ : ∃ q, y.getD k 0 = q := ⟨_, rfl⟩
      rw [hp] at h1
      rw [hq] at h2
      have HP := Lib.hid hp
      have HQ := Lib.hid hq
      clear hp hq
      by_cases he : p = q
      · subst he
        go_wp2
        go_quiet (fail)
        go_wp2
        refine ⟨⟨k + 1, by omega, by go_num, ⟨_, rfl⟩, fun j hj => ?_⟩, by simp [intOf]; omega⟩
        by_cases e : j = k
        · rw [e, HP.out, HQ.out]
        · exact HS.out j (by omega)
      · have hb : (p != q) = true := by simpa using he
        have HE := Lib.hid he
        clear he
        go_wp2
        go_quiet (fail)
        go_wp2
        go_ret
        have hne : (x == y) = false := by
          rw [beq_eq_false_iff_ne]
          intro c
          apply HE.out
          rw [← HP.out, ← HQ.out, c]
        exact ⟨by rw [hne]; rfl, Gr.refl _⟩
    · obtain rfl : k = n := by omega
      go_wp2
      go_ret
      have he : x = y := eq_of_getD (by rw [HL.out, HN.out]) (fun j hj => HS.out j (by rw [HN.out] at hj; exact hj))
      exact ⟨by rw [he]; simp, Gr.refl _⟩
set_option maxHeartbeats 400000 in
theorem same_any (va vb : Value) (x y : List Int) (w : World) (ha : Bs w va x) (hb : Bs w vb y) :
    Calls Tryd.prog 14 #[va, vb] w fun e w' => e = .returned (.bool (x == y)) ∧ Gr w w' := by
  by_cases hl : y.length = x.length
  · by_cases h0 : 0 < x.length
    · obtain ⟨a, ca, rfl, h1, h2, h3⟩ := Bs.at ha h0
      obtain ⟨b, cb, rfl, h4, h5, h6⟩ := Bs.at hb (by omega)
      rw [hl]
      rw [hl] at h4 h6
      exact same_core a b x.length ca cb x y w rfl hl h1 h4 h2 h3 h6
    · obtain rfl : x = [] := List.eq_nil_of_length_eq_zero (by omega)
      obtain rfl : y = [] := List.eq_nil_of_length_eq_zero (by simpa using hl)
      obtain ⟨_, oa, ca, rfl, _, _, _, _⟩ := ha
      obtain ⟨_, ob, cb, rfl, _, _, _, _⟩ := hb
      go_enter Tryd.func14, Tryd.ntmps14
      go_wp2
      go_loopw [13] (fun i wr => i = .int .i64 0 ∧ wr = w) (fun _ _ => 0)
      case atStart => exact ⟨rfl, rfl⟩
      case round =>
        obtain ⟨rfl, rfl⟩ := hrel
        go_wp2
        go_ret
        exact ⟨rfl, Gr.refl _⟩
  · have hne : (x == y) = false := by
      rw [beq_eq_false_iff_ne]
      intro c
      rw [c] at hl
      exact hl rfl
    obtain ⟨_, oa, ca, rfl, h1, h2, _, _⟩ := ha
    obtain ⟨_, ob, cb, rfl, h3, h4, _, _⟩ := hb
    rw [hne]
    generalize x.length = n at *
    generalize y.length = m at *
    have ht : ((n : Int) != m) = true := by simp; omega
    go_enter Tryd.func14, Tryd.ntmps14
    go_wp2
    go_ret
    exact ⟨rfl, Gr.refl _⟩
end Go.Proofs.YtjkfiimlaigdhaaDoor
namespace Go.Proofs.YtjkfiimlaigdhaaDoor
open Go.RowKit

/-- A block's cells that are the bytes of a list. -/
def rowB (L : List Int) : Array Value := (L.map (Value.int .u8)).toArray
theorem rowB_size (L : List Int) : (rowB L).size = L.length := by simp [rowB]
theorem rowB_get (L : List Int) (i : Nat) (h : i < L.length) : (rowB L)[i]? = some (.int .u8 (L.getD i 0)) := by
  simp [rowB, h]
theorem rowB_set (L : List Int) (i : Nat) (x : Int) : (rowB L).setIfInBounds i (.int .u8 x) = rowB (L.set i x) := by
  simp [rowB, List.map_set]
theorem rowB_one (L : List Int) : (rowB L).all (·.oneCell') = true := by
  rw [Array.all_eq_true_iff_forall_mem]
  intro v hv
  simp [rowB] at hv
  obtain ⟨j, _, rfl⟩ := hv
  rfl
theorem rowB_made (n : Nat) : madeCells #[.int .u8 0] n = rowB (List.replicate n 0) := by
  apply Array.ext'
  rw [toList_madeCells_one]
  simp [rowB]
/-- Block g is whole, of bytes L. -/
def Blk (w : World) (g : Nat) (L : List Int) : Prop := w.heap[g]? = some (.cells (rowB L) 5 (0, 0))
theorem Blk.grown {w w' : World} {g : Nat} {L : List Int} (h : Blk w g L) (hg : Gr w w') : Blk w' g L := keptRow hg h
theorem Blk.cell {w : World} {g : Nat} {L : List Int} (h : Blk w g L) (i : Nat) (hi : i < L.length) : w.cell? ⟨g, i, none⟩ = some (.int .u8 (L.getD i 0)) := by
  rw [cell_of_row w g i _ _ _ h, rowB_get L i hi]
theorem Blk.bs {w : World} {g : Nat} {L : List Int} (h : Blk w g L) (l : List Int) (c : Nat) (hl : l.length ≤ L.length) (hlc : l.length ≤ c) (hc : c ≤ 9223372036854775807) (hb : ∀ x ∈ l, Byt x) (he : ∀ i, i < l.length → L.getD i 0 = l.getD i 0) :
    Bs w (.slice (some ⟨g, 0, none⟩) l.length c) l :=
  ⟨hb, some ⟨g, 0, none⟩, c, rfl, hlc, hc, (fun h => by cases h), fun a ha i hi => by
    cases ha
    rw [Addr.add_mid, Nat.zero_add, Blk.cell h i (by omega), he i hi]⟩
theorem info5 : (Tryd.prog.info? 5).map (fun i => (i.zero, i.size, i.bytes)) = some (some (.int .u8 0), 1, 1) := by kernel_rfl
theorem make22 (l c : Nat) (h : l ≤ c) (hc : c ≤ 281474976710656) (w : World) :
    (Instr.makeSlice 25 (.int .i64 (l : Int)) (.int .i64 (c : Int))).run Tryd.prog w = .ok (.slice (some ⟨w.heap.size, 0, none⟩) l c) (w.alloc (.cells (rowB (List.replicate c 0)) 5)) := by
  obtain ⟨i, hi, hzz⟩ := Option.map_eq_some_iff.1 info5
  simp only [Prod.mk.injEq] at hzz
  obtain ⟨hz, hs, hb⟩ := hzz
  have hr := run_make (P := Tryd.prog) w 25 5 i _ Tryd.underlying25 hi hz .i64 .i64 l c (by omega) (by omega) (by rw [hb]; omega) (by omega)
  rw [Int.toNat_natCast, Int.toNat_natCast, hs, Nat.mul_one] at hr
  rw [hr, ← rowB_made]
  rfl

/-- What stands in the two places behind, when k of them are set. -/
def marks (m : Int) : Nat → List Int
  | 0 => [0, 0]
  | 1 => [m, 0]
  | _ => [m, m]
theorem marks_length (m : Int) (k : Nat) : (marks m k).length = 2 := by
  unfold marks
  split <;> rfl
theorem marks_set (l : List Int) (n : Nat) (m : Int) (k : Nat) (hn : l.length = n) (h : k < 2) : (l ++ marks m k).set (n + k) m = l ++ marks m (k + 1) := by
  subst hn
  rw [List.set_append, if_neg (by omega), Nat.add_sub_cancel_left]
  have : k = 0 ∨ k = 1 := by omega
  rcases this with rfl | rfl <;> rfl
def spW (w : World) (L : List Int) : World := w.alloc (.cells (rowB L) 5)
set_option maxHeartbeats 400000 in
theorem spare_core (a : Addr) (n c : Nat) (l : List Int) (m : Int) (w : World) (hn : l.length = n) (h2 : n ≤ 281474976710000) (h0 : 0 < n)
    (hc : ∀ i, i < n → w.cell? (a.add i) = some (.int .u8 (l.getD i 0))) :
    Calls Tryd.prog 11 #[.slice (some a) n c, .int .u8 m] w fun e w' => ∃ g, e = .returned (.slice (some ⟨g, 0, none⟩) n (n + 2)) ∧ w.heap.size ≤ g ∧ Blk w' g (l ++ [m, m]) ∧ Gr w w' := by
  have HC := Lib.hid hc
  have HN := Lib.hid hn
  have hmk := make22 n (n + 2) (by omega) (by omega)
  rw [show ((n + 2 : Nat) : Int) = (n : Int) + 2 from by omega] at hmk
  clear hc hn
  go_enter Tryd.func11, Tryd.ntmps11
  have hsz : (Tryd.prog.info? 5).map (·.size) = some 1 := by kernel_rfl
  have SZ := Lib.hid hsz
  clear hsz
  have hB := heap_alloc_new w (.cells (rowB (List.replicate (n + 2) 0)) 5)
  have HB := Lib.hid hB
  clear hB
  have HS : Hid ((l.map (Value.int .u8)).length = Nat.min n n) := Lib.hid (by rw [List.length_map, HN.out]; simp)
  have HF : Hid (0 + (l.map (Value.int .u8)).length ≤ (rowB (List.replicate (n + 2) 0)).size) := Lib.hid (by rw [List.length_map, HN.out, rowB_size, List.length_replicate]; omega)
  have H1 : Hid (∀ v ∈ l.map (Value.int .u8), v.oneCell' = true) := Lib.hid (by
    intro v hv
    simp at hv
    obtain ⟨j, _, rfl⟩ := hv
    rfl)
  have HV : Hid (∀ j v, (l.map (Value.int .u8))[j]? = some v → (w.alloc (.cells (rowB (List.replicate (n + 2) 0)) 5)).cell? (a.add j) = some v) := Lib.hid (by
    intro j v hv
    have hj : j < n := by
      have := (List.getElem?_eq_some_iff.1 hv).1
      rw [List.length_map, HN.out] at this
      exact this
    have := HC.out j hj
    rw [cell_grown (Gr.alloc (Gr.refl _) _ _) this]
    simp [HN.out, hj] at hv
    rw [← hv]
    simp [HN.out, hj])
  have HR : Hid ((l.map (Value.int .u8) ++ List.drop (l.map (Value.int .u8)).length (rowB (List.replicate (n + 2) 0)).toList).toArray = rowB (l ++ marks m 0)) := Lib.hid (by
    simp [rowB, HN.out, marks])
  generalize l.map (Value.int .u8) = cs at *
  generalize rowB (List.replicate (n + 2) 0) = cur at *
  go_wp2_with (refine wpList_copy_own rfl _ _ 25 25 rfl 5 Tryd.underlying25 SZ.out w.heap.size 0 n (n + 2) a n c rfl rfl cur 5 HB.out cs HS.out HV.out HF.out H1.out ?_)
  rw [World.setRow_alloc_new, HR.out]
  clear HR H1 HV HF HS HB SZ HC hmk
  go_loopw [7] (fun i wr => ∃ k : Nat, k ≤ 2 ∧ i = .int .i64 ((n + k : Nat) : Int) ∧ wr = spW w (l ++ marks m k)) (fun i _ => n + 2 - (intOf i).toNat)
  case atStart => exact ⟨0, by omega, rfl, rfl⟩
  case round =>
    obtain ⟨k, hk, rfl, rfl⟩ := hrel
    unfold spW
    by_cases hlt : k < 2
    · have hg : (rowB (l ++ marks m k))[n + k]? = some (.int .u8 ((l ++ marks m k).getD (n + k) 0)) := rowB_get _ _ (by rw [List.length_append, HN.out, marks_length]; omega)
      have HST : Hid ((rowB (l ++ marks m k)).setIfInBounds (n + k) (.int .u8 m) = rowB (l ++ marks m (k + 1))) := Lib.hid (by rw [rowB_set, marks_set l n m k HN.out hlt])
      generalize (l ++ marks m k).getD (n + k) 0 = old at *
      generalize rowB (l ++ marks m k) = C at *
      go_wp2
      exact ⟨⟨k + 1, by omega, by go_num, by rw [HST.out]⟩, by simp [intOf]; omega⟩
    · obtain rfl : k = 2 := by omega
      go_wp2
      go_ret
      exact ⟨_, rfl, Nat.le_refl _, heap_alloc_new _ _, Gr.alloc (Gr.refl _) _ _⟩
set_option maxHeartbeats 400000 in
theorem spare_none (oa : Option Addr) (c : Nat) (m : Int) (w : World) :
    Calls Tryd.prog 11 #[.slice oa 0 c, .int .u8 m] w fun e w' => ∃ g, e = .returned (.slice (some ⟨g, 0, none⟩) 0 2) ∧ w.heap.size ≤ g ∧ Blk w' g [m, m] ∧ Gr w w' := by
  have hmk : ∀ w, (Instr.makeSlice 25 (.int .i64 0) (.int .i64 2)).run Tryd.prog w = .ok (.slice (some ⟨w.heap.size, 0, none⟩) 0 2) (w.alloc (.cells (rowB (List.replicate 2 0)) 5)) := fun w => make22 0 2 (by omega) (by omega) w
  have hsz : (Tryd.prog.info? 5).map (·.size) = some 1 := by kernel_rfl
  have SZ := Lib.hid hsz
  clear hsz
  have HR : Hid (rowB (List.replicate 2 0) = rowB (marks m 0)) := Lib.hid rfl
  generalize rowB (List.replicate 2 0) = cur at *
  go_enter Tryd.func11, Tryd.ntmps11
  go_wp2_with (refine wpList_copy_nothing rfl _ _ 25 25 rfl 5 Tryd.underlying25 SZ.out _ _ _ _ _ _ rfl rfl rfl ?_)
  rw [HR.out]
  clear HR SZ hmk
  go_loopw [7] (fun i wr => ∃ k : Nat, k ≤ 2 ∧ i = .int .i64 (k : Int) ∧ wr = spW w (marks m k)) (fun i _ => 2 - (intOf i).toNat)
  case atStart => exact ⟨0, by omega, rfl, rfl⟩
  case round =>
    obtain ⟨k, hk, rfl, rfl⟩ := hrel
    unfold spW
    by_cases hlt : k < 2
    · have hg : (rowB (marks m k))[k]? = some (.int .u8 ((marks m k).getD k 0)) := rowB_get _ _ (by rw [marks_length]; omega)
      have HST : Hid ((rowB (marks m k)).setIfInBounds k (.int .u8 m) = rowB (marks m (k + 1))) := Lib.hid (by rw [rowB_set]; have := marks_set [] 0 m k rfl hlt; simp at this; rw [this])
      generalize (marks m k).getD k 0 = old at *
      generalize rowB (marks m k) = C at *
      go_wp2
      exact ⟨⟨k + 1, by omega, by go_num, by rw [HST.out]⟩, by simp [intOf]; omega⟩
    · obtain rfl : k = 2 := by omega
      go_wp2
      go_ret
      exact ⟨_, rfl, Nat.le_refl _, heap_alloc_new _ _, Gr.alloc (Gr.refl _) _ _⟩
theorem spare_any (v : Value) (l : List Int) (m : Int) (w : World) (h : Bs w v l) (hc : l.length ≤ 281474976710000) :
    Calls Tryd.prog 11 #[v, .int .u8 m] w fun e w' => ∃ g, e = .returned (.slice (some ⟨g, 0, none⟩) l.length (l.length + 2)) ∧ w.heap.size ≤ g ∧ Blk w' g (l ++ [m, m]) ∧ Gr w w' := by
  by_cases h0 : 0 < l.length
  · obtain ⟨a, c, rfl, _, _, h3⟩ := Bs.at h h0
    exact spare_core a l.length c l m w rfl hc h0 h3
  · obtain rfl : l = [] := List.eq_nil_of_length_eq_zero (by omega)
    obtain ⟨_, oa, c, rfl, _, _, _, _⟩ := h
    exact spare_none oa c m w

theorem Blk.bs_pre {w : World} {g : Nat} {l r : List Int} (h : Blk w g (l ++ r)) (hb : ∀ x ∈ l, Byt x) (hn : (l ++ r).length ≤ 9223372036854775807) : Bs w (.slice (some ⟨g, 0, none⟩) l.length (l ++ r).length) l :=
  Blk.bs h l _ (by simp) (by simp) hn hb (fun i hi => by
    rw [List.getD_eq_getElem?_getD, List.getD_eq_getElem?_getD, List.getElem?_append_left hi])
set_option maxHeartbeats 400000 in
theorem kept_true (g : Nat) (l : List Int) (vw : Value) (m : Int) (w : World) (h : Blk w g (l ++ [m, m])) (hb : ∀ x ∈ l, Byt x) (hw : Bs w vw l) (hn : l.length ≤ 281474976710000) :
    Calls Tryd.prog 17 #[.slice (some ⟨g, 0, none⟩) l.length (l.length + 2), vw, .int .u8 m] w fun e w' => e = .returned (.bool true) ∧ Gr w w' := by
  have hB : Bs w (.slice (some ⟨g, 0, none⟩) l.length (l.length + 2)) l := by
    have := Blk.bs_pre h hb (by simp; omega)
    simpa using this
  have HS : Hid (Calls Tryd.prog 14 #[.slice (some ⟨g, 0, none⟩) l.length (l.length + 2), vw] w fun e w' => e = .returned (.bool true) ∧ Gr w w') := Lib.hid ((same_any _ _ l l w hB hw).mono fun _ _ ⟨he, hg⟩ => ⟨by rw [he]; simp, hg⟩)
  have HM : Hid (∀ k, k < 2 → (l ++ [m, m]).getD (l.length + k) 0 = m ∧ l.length + k < (l ++ [m, m]).length) := Lib.hid (fun k hk => by
    rw [List.getD_eq_getElem?_getD, List.getElem?_append_right (by omega), Nat.add_sub_cancel_left]
    have : k = 0 ∨ k = 1 := by omega
    rcases this with rfl | rfl <;> simp)
  have H := Lib.hid h
  clear h hB hb hw
  generalize l ++ [m, m] = L at *
  generalize l.length = n at *
  go_enter Tryd.func17, Tryd.ntmps17
  go_wp2_with (go_at_call 14; refine HS.out.mono ?_; rintro e w' ⟨rfl, hg⟩; have G := Lib.hid hg; clear hg)
  go_loop [8] (fun i => ∃ k : Nat, k ≤ 2 ∧ i = .int .i64 ((n + k : Nat) : Int)) (fun i => n + 2 - (intOf i).toNat)
  case atStart => exact ⟨0, by omega, rfl⟩
  case round =>
    obtain ⟨k, hk, rfl⟩ := hrel
    by_cases hlt : k < 2
    · have hc : w'.cell? ⟨g, n + k, none⟩ = some (.int .u8 m) := by
        rw [Blk.cell (Blk.grown H.out G.out) (n + k) (HM.out k hlt).2, (HM.out k hlt).1]
      go_wp2
      exact ⟨⟨k + 1, by omega, by go_num⟩, by simp [intOf]; omega⟩
    · obtain rfl : k = 2 := by omega
      go_wp2
      go_ret
      exact ⟨rfl, G.out⟩

set_option maxHeartbeats 400000 in
theorem cut_any (v : Value) (l : List Int) (n : Nat) (w : World) (h : Bs w v l) (hn : n ≤ 1000000) :
    Calls Tryd.prog 10 #[v, .int .i64 n] w fun e w' => ∃ v', e = .returned v' ∧ Bs w' v' (l.take n) ∧ w = w' := by
  obtain ⟨hb, oa, c, rfl, h1, h2, h3, h4⟩ := h
  have hlen : (l.take n).length = min l.length n := by rw [List.length_take, Nat.min_comm]
  have HR : Hid (Bs w (.slice oa (min l.length n) c) (l.take n)) := Lib.hid ⟨fun x hx => hb x (List.mem_of_mem_take hx), oa, c, by rw [hlen], by rw [hlen]; omega, h2, h3, fun a ha i hi => by
    rw [hlen] at hi
    rw [h4 a ha i (by omega), List.getD_eq_getElem?_getD, List.getD_eq_getElem?_getD, List.getElem?_take_of_lt (by omega)]⟩
  clear hlen h4 hb
  generalize l.take n = t at *
  generalize l.length = m at *
  by_cases hm : m ≤ n
  · go_enter Tryd.func10, Tryd.ntmps10
    go_wp2
    go_ret
    exact ⟨_, rfl, by rw [Nat.min_eq_left hm] at HR; exact HR.out, rfl⟩
  · go_enter Tryd.func10, Tryd.ntmps10
    go_wp2
    go_ret
    exact ⟨_, rfl, by rw [Nat.min_eq_right (by omega)] at HR; exact HR.out, rfl⟩
end Go.Proofs.YtjkfiimlaigdhaaDoor
namespace Go.Proofs.YtjkfiimlaigdhaaDoor
open Go.RowKit

theorem Bs.form5 {w : World} {v : Value} {l : List Int} (h : Bs w v l) : ∃ oa c, v = .slice oa l.length c := by
  obtain ⟨_, oa, c, h, _⟩ := h
  exact ⟨oa, c, h⟩
/-- A part of bytes. -/
theorem Bs.mid5 {w : World} {m c : Nat} {ad : Addr} {l : List Int} (h : Bs w (.slice (some ad) m c) l) (i k : Nat) (hik : i + k ≤ m) : Bs w (.slice (if c = i then some ad else some (ad.add i)) k (c - i)) ((l.drop i).take k) := by
  obtain ⟨h0, oa, c', he, h2, h3, h4, h5⟩ := h
  obtain ⟨ho, hm, rfl⟩ : some ad = oa ∧ m = l.length ∧ c = c' := by simpa using he
  have hl : ((l.drop i).take k).length = k := by rw [List.length_take, List.length_drop]; omega
  refine ⟨fun x hx => h0 x (List.mem_of_mem_drop (List.mem_of_mem_take hx)), _, c - i, by rw [hl], by rw [hl]; omega, by omega, (fun e => by split at e <;> cases e), fun a ha2 j hj => ?_⟩
  rw [hl] at hj
  rw [if_neg (by omega)] at ha2
  cases ha2
  rw [Go.Addr.add_add, List.getD_eq_getElem?_getD, List.getElem?_take_of_lt hj, List.getElem?_drop, ← List.getD_eq_getElem?_getD]
  exact h5 ad ho.symm (i + j) (by omega)
theorem Bs.pre5 {w : World} {m c : Nat} {o : Option Addr} {l : List Int} (h : Bs w (.slice o m c) l) (k : Nat) (hk : k ≤ m) : Bs w (.slice o k c) (l.take k) := by
  obtain ⟨h0, oa, c', he, h2, h3, h4, h5⟩ := h
  obtain ⟨ho, hm, rfl⟩ : o = oa ∧ m = l.length ∧ c = c' := by simpa using he
  have hl : (l.take k).length = k := by rw [List.length_take]; omega
  refine ⟨fun x hx => h0 x (List.mem_of_mem_take hx), oa, c, by rw [hl, ho], by rw [hl]; omega, by omega, h4, fun a ha2 j hj => ?_⟩
  rw [hl] at hj
  rw [List.getD_eq_getElem?_getD, List.getElem?_take_of_lt hj, ← List.getD_eq_getElem?_getD]
  exact h5 a ha2 j (by omega)
theorem Bs.parts5 {w : World} {m c : Nat} {o : Option Addr} {l : List Int} (h : Bs w (.slice o m c) l) : m ≤ c ∧ c ≤ 9223372036854775807 := by
  obtain ⟨h0, oa, c', he, h2, h3, h4, h5⟩ := h
  obtain ⟨ho, hm, rfl⟩ : o = oa ∧ m = l.length ∧ c = c' := by simpa using he
  exact ⟨by omega, h3⟩
theorem Bs.none5 {w : World} {m c : Nat} {l : List Int} (h : Bs w (.slice none m c) l) : m = 0 ∧ c = 0 := by
  obtain ⟨h0, oa, c', he, h2, h3, h4, h5⟩ := h
  obtain ⟨ho, hm, rfl⟩ : none = oa ∧ m = l.length ∧ c = c' := by simpa using he
  have := h4 ho.symm
  omega
/-- The contract of package crc, in every world that grows out of W0 (in which the package-level variables are laid). -/
structure CrcOk (W0 : World) : Prop where
  sum : ∀ (v : Value) (l : List Int) (w : World), Gr W0 w → Bs w v l → l.length ≤ 1000 → Calls Tryd.prog 38 #[v] w fun e w' => e = .returned (.int .u32 (Crc.sum l : Nat)) ∧ Gr w w'
theorem u32_odd (c : Nat) (h : c < 4294967296) : bits BinOp.and IntKind.u32 (c : Int) 1 = ((c % 2 : Nat) : Int) := by
  have := u32_and_nat c 1 h (by omega)
  rw [Nat.and_one_is_mod] at this
  exact this
theorem u32_turn (c : Nat) (h : c < 4294967296) : bits BinOp.xor IntKind.u32 ((c : Int) / 2) 3988292384 = ((c / 2 ^^^ 3988292384 : Nat) : Int) := by
  have := u32_xor_nat (c / 2) 3988292384 (by omega) (by omega)
  exact this
theorem u32_not (c : Nat) (h : c < 4294967296) : bits BinOp.xor IntKind.u32 IntKind.u32.max (c : Int) = ((c ^^^ 4294967295 : Nat) : Int) := by
  have := u32_xor_nat 4294967295 c (by omega) h
  rw [Nat.xor_comm] at this
  exact this
theorem Crc.getD_byt {l : List Int} (h : ∀ x ∈ l, Byt x) (i : Nat) : Byt (l.getD i 0) := by
  by_cases hi : i < l.length
  · rw [List.getD_eq_getElem?_getD, List.getElem?_eq_getElem hi]
    exact h _ (List.getElem_mem hi)
  · rw [List.getD_eq_getElem?_getD, List.getElem?_eq_none (by omega)]
    exact ⟨by decide, by decide⟩
theorem Crc.run_take {l : List Int} {n i : Nat} (hn : l.length = n) (hi : i < n) (c : Nat) : Crc.run c (l.take (i + 1)) = Crc.it 8 (Crc.run c (l.take i) ^^^ (l.getD i 0).toNat) := by
  rw [List.take_add_one, List.getElem?_eq_getElem (by omega), Crc.run_append, List.getD_eq_getElem?_getD, List.getElem?_eq_getElem (by omega)]
  rfl
set_option maxRecDepth 100000 in
set_option maxHeartbeats 800000 in
theorem refCrc_any (v : Value) (l : List Int) (w : World) (h : Bs w v l) (hl : l.length ≤ 1000) :
    Calls Tryd.prog 33 #[v] w fun e w' => e = .returned (.int .u32 (Crc.sum l : Nat)) ∧ Gr w w' := by
  obtain ⟨n, hn⟩ : ∃ n, l.length = n := ⟨_, rfl⟩
  obtain ⟨hb, oa, c, rfl, h1, h2, h3, h4⟩ := h
  have HN := Lib.hid hn
  rw [hn] at hl h1 h4 ⊢
  have HB := Lib.hid hb
  have H4 := Lib.hid h4
  clear hb h4 hn
  have hs0 : Crc.run 4294967295 (l.take 0) = 4294967295 := rfl
  have H0 := Lib.hid hs0
  clear hs0
  go_enter Tryd.func33, Tryd.ntmps33
  go_wp2_with fail
  go_loopw [3, 8] (fun cv iv W => ∃ i s : Nat, i ≤ n ∧ iv = .int .i64 i ∧ cv = .int .u32 (s : Int) ∧ Crc.run 4294967295 (l.take i) = s ∧ s < 4294967296 ∧ w = W) (fun _ iv _ => n - (intOf iv).toNat)
  case atStart => exact ⟨0, 4294967295, by omega, rfl, rfl, H0.out, by omega, rfl⟩
  case round =>
    obtain ⟨i, s, hi, rfl, rfl, hs, hs2, rfl⟩ := hrel
    by_cases hlt : i < n
    · have hbi := Crc.getD_byt HB.out i
      obtain ⟨b, hb1⟩ : ∃ b : Nat, l.getD i 0 = b := ⟨(l.getD i 0).toNat, by unfold Byt at hbi; omega⟩
      have hb2 : b < 256 := by unfold Byt at hbi; omega
      obtain ⟨ad, rfl⟩ : ∃ a, oa = some a := by
        cases oa with
        | some a => exact ⟨a, rfl⟩
        | none => have := h3 rfl; omega
      have q1 := H4.out ad rfl i hlt
      rw [hb1] at q1
      have hx : bits BinOp.xor IntKind.u32 (s : Int) (b : Int) = ((s ^^^ b : Nat) : Int) := u32_xor_nat s b hs2 (by omega)
      obtain ⟨x0, hx0, hx1⟩ : ∃ x0, s ^^^ b = x0 ∧ x0 < 4294967296 := ⟨_, rfl, Nat.xor_lt_two_pow (n := 32) hs2 (by omega)⟩
      rw [hx0] at hx
      have HNX : Hid (Crc.run 4294967295 (l.take (i + 1)) = Crc.it 8 x0) := Lib.hid (by rw [Crc.run_take HN.out hlt, hs, hb1, Int.toNat_natCast, hx0])
      clear hs hb1 hx0 hbi
      go_wp2_with fail
      go_loopw [3, 5] (fun cv kv W => ∃ k s : Nat, k ≤ 8 ∧ kv = .int .i64 k ∧ cv = .int .u32 (s : Int) ∧ Crc.it k x0 = s ∧ s < 4294967296 ∧ w = W) (fun _ kv _ => 8 - (intOf kv).toNat)
      case atStart => exact ⟨0, x0, by omega, rfl, rfl, rfl, hx1, rfl⟩
      case round =>
        obtain ⟨k, s, hk, rfl, rfl, hs, hs2, rfl⟩ := hrel
        by_cases hk8 : k < 8
        · have e1 := u32_odd s hs2
          have e2 := u32_turn s hs2
          obtain ⟨s', hs', hs3⟩ : ∃ s', Crc.step s = s' ∧ s' < 4294967296 := ⟨_, rfl, Crc.step_lt hs2⟩
          have HIT : Hid (Crc.it (k + 1) x0 = s') := Lib.hid (by rw [← hs', ← hs]; rfl)
          unfold Crc.step at hs'
          clear hs
          by_cases ho : s % 2 = 1
          · rw [if_pos ho] at hs'
            rw [hs'] at e2
            rw [ho] at e1
            clear hs'
            go_wp2_with fail
            exact ⟨⟨k + 1, s', by omega, by go_num, rfl, HIT.out, hs3, trivial⟩, by simp [intOf]; omega⟩
          · rw [if_neg ho] at hs'
            rw [show s % 2 = 0 from by omega] at e1
            have e3 : (s : Int) / 2 = (s' : Int) := by omega
            clear hs'
            go_wp2_with fail
            exact ⟨⟨k + 1, s', by omega, by go_num, rfl, HIT.out, hs3, trivial⟩, by simp [intOf]; omega⟩
        · obtain rfl : k = 8 := by omega
          have HS : Hid (Crc.run 4294967295 (l.take (i + 1)) = s) := Lib.hid (by rw [HNX.out]; exact hs)
          clear hs
          go_wp2_with fail
          exact ⟨⟨i + 1, s, by omega, by go_num, rfl, HS.out, hs2, trivial⟩, by simp [intOf]; omega⟩
    · obtain rfl : i = n := by omega
      rw [List.take_of_length_le (by have := HN.out; omega)] at hs
      have e1 := u32_not s hs2
      have HS : Hid (s ^^^ 4294967295 = Crc.sum l) := Lib.hid (by rw [← hs]; rfl)
      clear hs
      go_wp2_with fail
      go_ret
      refine ⟨?_, Gr.refl _⟩
      rw [HS.out]
      rfl
end Go.Proofs.YtjkfiimlaigdhaaDoor
namespace Go.Proofs.YtjkfiimlaigdhaaDoor
open Go.RowKit

end Go.Proofs.YtjkfiimlaigdhaaDoor
namespace Go.Proofs.YtjkfiimlaigdhaaDoor
open Go.RowKit

/-- A list by its places. -/
def lst (n : Nat) (f : Nat → Int) : List Int := (List.range n).map f
theorem lst_length (n : Nat) (f : Nat → Int) : (lst n f).length = n := by simp [lst]
theorem lst_getD (n : Nat) (f : Nat → Int) (i : Nat) (h : i < n) : (lst n f).getD i 0 = f i := by simp [lst, h]
theorem lst_congr (n : Nat) (f f' : Nat → Int) (h : ∀ j, j < n → f j = f' j) : lst n f = lst n f' :=
  List.map_congr_left fun j hj => h j (List.mem_range.1 hj)
theorem lst_set (n : Nat) (f : Nat → Int) (k : Nat) (v : Int) : (lst n f).set k v = lst n (fun j => if j = k then v else f j) := by
  apply List.ext_getElem
  · simp [lst]
  intro j h1 h2
  simp only [lst, List.getElem_set, List.getElem_map, List.getElem_range]
  by_cases e : k = j
  · rw [if_pos e, if_pos e.symm]
  · rw [if_neg e, if_neg (fun c => e c.symm)]
theorem lst_self (l : List Int) : lst l.length (fun i => l.getD i 0) = l := by
  apply List.ext_getElem
  · simp [lst]
  intro j h1 h2
  simp [lst, h2]
theorem lst_byt {n : Nat} {f : Nat → Int} (h : ∀ i, i < n → Byt (f i)) : ∀ x ∈ lst n f, Byt x := by
  intro x hx
  simp [lst] at hx
  obtain ⟨i, hi, rfl⟩ := hx
  exact h i hi
/-- The first k places are made, the others are 0. -/
def part (f : Nat → Int) (k : Nat) : Nat → Int := fun j => if j < k then f j else 0
theorem part_set (n : Nat) (f : Nat → Int) (k : Nat) : (lst n (part f k)).set k (f k) = lst n (part f (k + 1)) := by
  rw [lst_set]
  apply lst_congr
  intro j _
  unfold part
  by_cases e : j = k
  · rw [if_pos e, if_pos (by omega), e]
  · by_cases h : j < k
    · rw [if_neg e, if_pos h, if_pos (by omega)]
    · rw [if_neg e, if_neg h, if_neg (by omega)]
theorem part_nil (n : Nat) (f : Nat → Int) : List.replicate n 0 = lst n (part f 0) := by
  apply List.ext_getElem
  · simp [lst]
  intro j h1 h2
  simp [lst, part]
theorem part_all (n : Nat) (f : Nat → Int) : lst n (part f n) = lst n f := lst_congr n _ _ fun j h => by simp [part, h]

theorem far_of {w : World} {g k : Nat} {a : Addr} {v : Value} (hg : w.heap.size ≤ g) (h : w.cell? a = some v) : a ≠ ⟨g, k, none⟩ := by
  intro c
  subst c
  have := World.block_lt_of_cell? w _ h
  simp at this
  omega
theorem cell_set_far {W : World} {x y : Addr} {v u : Value} (h : W.cell? x = some u) (hne : x ≠ y) : (W.setCell y v).drew.cell? x = some u := by
  rw [World.cell?_drew, World.cell?_setCell_other _ _ _ _ hne.symm]
  exact h
/-- c times a, plus b, place by place. -/
def axpyL (c : Int) (a b : List Int) : Nat → Int := fun i => addZ (b.getD i 0) (mulZ c (a.getD i 0))
/-- In wr there stands in block g what k rounds have made; only new memory was written since w. -/
def Making (w : World) (g n : Nat) (f : Nat → Int) (k : Nat) (wr : World) : Prop := Gr w wr ∧ w.heap.size ≤ g ∧ Blk wr g (lst n (part f k))
theorem Making.store {w wr : World} {g n k : Nat} {f : Nat → Int} (h : Making w g n f k wr) : Making w g n f (k + 1) (wr.setCell ⟨g, k, none⟩ (.int .u8 (f k))) := by
  obtain ⟨h1, h2, h3⟩ := h
  refine ⟨Gr.setCell h1 h2 _, h2, ?_⟩
  unfold Blk at *
  rw [heap_setCell_same _ _ _ _ _ _ h3, rowB_set, part_set]

theorem Making.drew {w wr : World} {g n k : Nat} {f : Nat → Int} (h : Making w g n f k wr) : Making w g n f k wr.drew := ⟨Gr.drew h.1, h.2.1, h.2.2⟩
/-- What a call hands back as a row of its own: a slice of a new block that holds just l. -/
def Mine (w w' : World) (e : Ending) (l : List Int) : Prop := ∃ g, e = .returned (.slice (some ⟨g, 0, none⟩) l.length l.length) ∧ w.heap.size ≤ g ∧ Blk w' g l ∧ Gr w w'
end Go.Proofs.YtjkfiimlaigdhaaDoor
