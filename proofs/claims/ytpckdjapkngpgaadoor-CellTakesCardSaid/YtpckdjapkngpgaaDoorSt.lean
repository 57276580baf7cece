/-
  The contracts of package gf once more, with one word for what stays true from call to call.
-/
import Derived.Test.YtpckdjapkngpgaaDoorRef
import Derived.OpenShut
namespace Go.Proofs.YtpckdjapkngpgaaDoor
open Go.RowKit

/-- The sum, on integers. -/
def addZ (a b : Int) : Int := ((a.toNat ^^^ b.toNat : Nat) : Int)
theorem addZ_byt {a b : Int} (ha : Byt a) (hb : Byt b) : Byt (addZ a b) := by
  unfold Byt at *
  have h := M.xor_lt (x := a.toNat) (y := b.toNat) (by omega) (by omega)
  unfold addZ
  omega
/-- From w0 on only new memory was made, and f is a Field (nil, or with its tables) in w. -/
def St (w0 w : World) (f : Value) : Prop := Gr w0 w ∧ IsF w f
theorem St.step {w0 w w' : World} {f : Value} (h : St w0 w f) (hg : Gr w w') : St w0 w' f := ⟨Gr.trans h.1 hg, IsF.grown h.2 hg⟩
theorem within_st {w0 w : World} {f : Value} {x n : Int} (h1 : 1 ≤ n) (h2 : n ≤ 1000000) (h : St w0 w f) :
    Calls Tryd.prog 10 #[.int .i64 x, .int .i64 n] w fun e w' => e = .returned (.int .i64 (x % n)) ∧ St w0 w' f :=
  (within_any x n h1 h2 w).mono fun _ _ ⟨he, hw⟩ => ⟨he, hw ▸ h⟩

theorem byt_of_wf {a : Int} (h : (Lit.int .u8 a).wf = true) : Byt a := by
  have := bounds_u8 h
  unfold Byt
  omega
theorem byt_nat {a : Int} (h : Byt a) : ∃ x : Nat, a = x ∧ x < 256 := by
  unfold Byt at h
  exact ⟨a.toNat, by omega, by omega⟩

/-! ### The laws of a field, on integers -/
theorem addZ_comm (a b : Int) : addZ a b = addZ b a := by
  unfold addZ
  rw [Nat.xor_comm]
theorem addZ_assoc (a b c : Int) : addZ (addZ a b) c = addZ a (addZ b c) := by
  unfold addZ
  rw [Int.toNat_natCast, Int.toNat_natCast, Nat.xor_assoc]
theorem addZ_self (a : Int) : addZ a a = 0 := by
  unfold addZ
  rw [Nat.xor_self]
  rfl
theorem mulZ_comm (a b : Int) : mulZ a b = mulZ b a := by
  unfold mulZ
  rw [M.mulN_comm]
theorem mulZ_assoc (a b c : Int) : mulZ (mulZ a b) c = mulZ a (mulZ b c) := by
  unfold mulZ
  rw [Int.toNat_natCast, Int.toNat_natCast, M.mulN_assoc]
theorem mulZ_addZ (a b c : Int) (hb : Byt b) (hc : Byt c) : mulZ a (addZ b c) = addZ (mulZ a b) (mulZ a c) := by
  unfold Byt at *
  unfold mulZ addZ
  rw [Int.toNat_natCast, Int.toNat_natCast, Int.toNat_natCast, M.mulN_xor _ _ _ (by omega) (by omega)]
theorem mulZ_one (a : Int) (ha : Byt a) : mulZ a 1 = a := by
  unfold Byt at *
  unfold mulZ
  rw [show (1 : Int).toNat = 1 from rfl, M.mulN_one _ (by omega)]
  omega
theorem sqZ_add (a b : Int) (ha : Byt a) (hb : Byt b) : mulZ (addZ a b) (addZ a b) = addZ (mulZ a a) (mulZ b b) := by
  unfold Byt at *
  unfold mulZ addZ
  rw [Int.toNat_natCast, Int.toNat_natCast, Int.toNat_natCast, M.sq_xor _ _ (by omega) (by omega)]
theorem sqZ_inj (a b : Int) (ha : Byt a) (hb : Byt b) (h : mulZ a a = mulZ b b) : a = b := by
  unfold Byt at *
  unfold mulZ at h
  have := M.sq_inj a.toNat b.toNat (by omega) (by omega) (by omega)
  omega
/-- To square k times, on integers. -/
def sqsZ (k : Nat) (a : Int) : Int := ((M.sqs k a.toNat : Nat) : Int)
theorem sqsZ_zero (a : Int) (ha : Byt a) : sqsZ 0 a = a := by
  unfold Byt at ha
  show ((a.toNat : Nat) : Int) = a
  omega
theorem sqsZ_succ (k : Nat) (a : Int) : sqsZ (k + 1) a = mulZ (sqsZ k a) (sqsZ k a) := rfl
theorem sqsZ_eight (a : Int) (ha : Byt a) : sqsZ 8 a = a := by
  unfold Byt at ha
  unfold sqsZ
  rw [M.sqs_eight _ (by omega)]
  omega
theorem sqsZ_byt (k : Nat) (a : Int) (ha : Byt a) : Byt (sqsZ k a) := by
  cases k with
  | zero => rw [sqsZ_zero a ha]; exact ha
  | succ k => rw [sqsZ_succ]; exact mulZ_byt _ _
theorem mulZ_zero (a : Int) : mulZ a 0 = 0 := by simp [mulZ, M.mulN_zero_right]
theorem mulZ_inv (a : Int) (ha : Byt a) (h0 : a ≠ 0) : mulZ a (invZ a) = 1 := by
  unfold Byt at ha
  unfold mulZ invZ
  rw [Int.toNat_natCast, M.mulN_inv _ (by omega) (by omega)]
  rfl
theorem invZ_inv (a : Int) (ha : Byt a) : invZ (invZ a) = a := by
  unfold Byt at ha
  unfold invZ
  rw [Int.toNat_natCast, M.inv_inv _ (by omega)]
  omega
theorem invZ_unique (a b : Int) (ha : Byt a) (hb : Byt b) (h : mulZ a b = 1) : b = invZ a := by
  unfold Byt at ha hb
  unfold mulZ at h
  unfold invZ
  rw [← M.inv_unique a.toNat b.toNat (by omega) (by omega) (by omega)]
  omega
theorem divZ_back (a b : Int) (ha : Byt a) (hb : Byt b) (h0 : b ≠ 0) : mulZ (mulZ a (invZ b)) b = a := by
  unfold Byt at ha hb
  unfold mulZ invZ
  rw [Int.toNat_natCast, Int.toNat_natCast, M.div_back _ _ (by omega) (by omega) (by omega)]
  omega
theorem mulZ_nought (a b : Int) (ha : Byt a) (hb : Byt b) (h0 : b ≠ 0) : (mulZ a b == 0) = (a == 0) := by
  unfold Byt at ha hb
  have h := M.mulN_eq_zero a.toNat b.toNat
  by_cases e : a = 0
  · subst e
    rw [mulZ_comm, mulZ_zero]
  · rw [beq_eq_false_iff_ne.2 e]
    apply beq_eq_false_iff_ne.2
    intro c
    unfold mulZ at c
    have := h.1 (by omega)
    omega
theorem expZ_add (m n : Int) : mulZ (expZ m) (expZ n) = expZ (m + n) := by
  unfold mulZ expZ
  rw [Int.toNat_natCast, Int.toNat_natCast, M.mul_ex _ _ (by omega) (by omega), show ((m % 255).toNat + (n % 255).toNat) % 255 = ((m + n) % 255).toNat from by omega]
theorem expZ_neg (m : Int) : mulZ (expZ m) (expZ (-m)) = 1 := by
  rw [expZ_add, show m + -m = 0 from by omega]
  decide +kernel
theorem expZ_round (m : Int) : expZ (m + 255) = expZ m := by
  unfold expZ
  rw [show (m + 255) % 255 = m % 255 from by omega]

/-- A row of n bools: at j what g says of j. -/
def tabB (n : Nat) (g : Nat → Bool) : Array Value := ((List.range n).map fun j => Value.bool (g j)).toArray
theorem tabB_size (n : Nat) (g : Nat → Bool) : (tabB n g).size = n := by simp [tabB]
theorem tabB_get (n : Nat) (g : Nat → Bool) (j : Nat) (h : j < n) : (tabB n g)[j]? = some (.bool (g j)) := by
  simp [tabB, h]
theorem tabB_set (n : Nat) (g : Nat → Bool) (k : Nat) (v : Bool) (h : k < n) : (tabB n g).setIfInBounds k (.bool v) = tabB n (fun j => if j = k then v else g j) := by
  apply Array.ext_getElem?
  intro j
  rw [Array.getElem?_setIfInBounds, tabB_size]
  by_cases hj : j < n
  · rw [tabB_get n g j hj, tabB_get n _ j hj]
    by_cases e : k = j
    · subst e
      simp [h]
    · rw [if_neg e, if_neg (fun x => e x.symm)]
  · have h1 : (tabB n g)[j]? = none := by rw [Array.getElem?_eq_none]; rw [tabB_size]; omega
    have h2 : (tabB n (fun j => if j = k then v else g j))[j]? = none := by rw [Array.getElem?_eq_none]; rw [tabB_size]; omega
    rw [if_neg (by omega), h1, h2]
theorem tabB_congr (n : Nat) (g g' : Nat → Bool) (h : ∀ j, j < n → g j = g' j) : tabB n g = tabB n g' := by
  unfold tabB
  congr 1
  exact List.map_congr_left fun j hj => by rw [h j (List.mem_range.1 hj)]
/-- Which bytes the first k powers are. -/
def hadB (k : Nat) : Nat → Bool := fun x => decide (x ≠ 0 ∧ M.lgN x < k)
theorem hadB_nil : tabB 256 (fun _ => false) = tabB 256 (hadB 0) := tabB_congr 256 _ _ fun j _ => by simp [hadB]
theorem hadB_set (k : Nat) (h : k < 255) : (tabB 256 (hadB k)).setIfInBounds (M.exN k) (.bool true) = tabB 256 (hadB (k + 1)) := by
  rw [tabB_set 256 _ _ _ (M.exN_lt k)]
  apply tabB_congr
  intro x hx
  obtain ⟨h1, h2⟩ := M.lg_ex k h
  unfold hadB
  by_cases e : x = M.exN k
  · subst e
    rw [if_pos rfl]
    symm
    simp [h1, h2]
  · rw [if_neg e]
    have : x ≠ 0 → M.lgN x ≠ k := fun h0 c => e (by rw [← c]; exact (M.ex_lg x hx h0).1.symm)
    by_cases h0 : x = 0
    · simp [h0]
    · have h3 := this h0
      have h4 : (M.lgN x < k) ↔ (M.lgN x < k + 1) := by omega
      simp [h0, h4]
theorem hadB_not (k : Nat) (h : k < 255) : hadB k (M.exN k) = false := by
  obtain ⟨h1, h2⟩ := M.lg_ex k h
  unfold hadB
  simp [h1]
theorem expZ_nat (k : Nat) (h : k < 255) : expZ k = ((M.exN k : Nat) : Int) := by
  unfold expZ
  rw [show ((k : Int) % 255).toNat = k from by omega]
theorem lgZ_ex (k : Nat) (h : k < 255) : lgZ ((M.exN k : Nat) : Int) = k := by
  unfold lgZ
  rw [Int.toNat_natCast, (M.lg_ex k h).1]
theorem St.at {w0 w : World} {b : Nat} (h : St w0 w (.pointer (some ⟨b, 0, none⟩))) : FieldAt w b := by
  rcases h.2 with h | ⟨b', h, hf⟩
  · cases h
  · cases h
    exact hf
theorem xorZ (a b : Int) (ha : Byt a) (hb : Byt b) : bits BinOp.xor IntKind.u8 a b = addZ a b := by
  unfold Byt at *
  exact u8_xor a b (by omega) (by omega) (by omega) (by omega)
theorem lgZ_bd (a : Int) : 0 ≤ lgZ a ∧ lgZ a ≤ 255 := by
  have := M.lgN_lt a.toNat
  unfold lgZ
  omega
theorem lgZ_zero : lgZ 0 = 0 := by
  unfold lgZ
  rw [show (0 : Int).toNat = 0 from rfl, M.lgN_zero]
  rfl
theorem maxLg (a : Int) : (if 0 < lgZ a then lgZ a else 0) = lgZ a := by
  have h := lgZ_bd a
  by_cases e : 0 < lgZ a
  · rw [if_pos e]
  · rw [if_neg e]
    omega
end Go.Proofs.YtpckdjapkngpgaaDoor
