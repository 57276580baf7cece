/-
  Package gf: the functions of a Field, nil or made.
-/
import Derived.Test.YtmbjeeogjananaaFun
import Derived.Deep.QuietTactic
import Derived.BigQuiet
namespace Go.Proofs.Ytmbjeeogjananaa
open Go.RowKit

theorem FieldAt.ex {w : World} {b : Nat} (h : FieldAt w b) (i : Nat) (hi : i < 255) : w.cell? ⟨b, i, none⟩ = some (.int .u8 ((M.exN i : Nat) : Int)) := by
  rw [cell_of_row w b i _ _ _ h, Array.getElem?_append, if_pos (by rw [tab_size]; exact hi)]
  exact tab_get 255 _ i hi
theorem FieldAt.lg {w : World} {b : Nat} (h : FieldAt w b) (x : Nat) (hx : x < 256) : w.cell? ⟨b, 255 + x, none⟩ = some (.int .u8 ((M.lgN x : Nat) : Int)) := by
  rw [cell_of_row w b _ _ _ _ h, Array.getElem?_append, if_neg (by rw [tab_size]; omega), tab_size, Nat.add_sub_cancel_left]
  exact tab_get 256 _ x hx
theorem FieldAt.grown {w w' : World} {b : Nat} (h : FieldAt w b) (hg : Grown w w') : FieldAt w' b := keptRow hg h

/-- f is nil, or points to a Field whose tables are made. -/
def IsF (w : World) (f : Value) : Prop := f = .pointer none ∨ ∃ b, f = .pointer (some ⟨b, 0, none⟩) ∧ FieldAt w b
theorem IsF.grown {w w' : World} {f : Value} (h : IsF w f) (hg : Grown w w') : IsF w' f := by
  rcases h with h | ⟨b, h1, h2⟩
  · exact Or.inl h
  · exact Or.inr ⟨b, h1, FieldAt.grown h2 hg⟩

set_option maxHeartbeats 400000 in
theorem made_any (f : Value) (w : World) (h : IsF w f) :
    Calls Try.prog 23 #[f] w fun e w' => ∃ b, e = .returned (.pointer (some ⟨b, 0, none⟩)) ∧ FieldAt w' b ∧ Grown w w' := by
  rcases h with rfl | ⟨b, rfl, hb⟩
  · go_enter Try.func23, Try.ntmps23
    go_wp2_with (go_at_call 8; refine (new_any _).mono ?_; rintro e w' ⟨b, rfl, hf, hg⟩; have HF := Lib.hid hf; clear hf; have HG := Lib.hid hg; clear hg)
    go_ret
    exact ⟨_, rfl, HF.out, HG.out⟩
  · have h0 := FieldAt.ex hb 0 (by omega)
    rw [M.exN_zero] at h0
    have HF := Lib.hid hb
    clear hb
    go_enter Try.func23, Try.ntmps23
    go_wp2_with fail
    go_ret
    exact ⟨_, rfl, HF.out, Grown.refl _⟩

set_option maxHeartbeats 400000 in
theorem add_any (f : Value) (a b : Int) (ha : Byt a) (hb : Byt b) (w : World) :
    Calls Try.prog 11 #[f, .int .u8 a, .int .u8 b] w fun e w' => e = .returned (.int .u8 ((a.toNat ^^^ b.toNat : Nat) : Int)) ∧ w = w' := by
  obtain ⟨a0, a1⟩ := ha
  obtain ⟨b0, b1⟩ := hb
  go_enter Try.func11, Try.ntmps11
  go_wp2_with fail
  go_ret
  exact ⟨ret_int (u8_xor a b a0 (by omega) b0 (by omega)), rfl⟩

/-- The product, on integers. -/
def mulZ (a b : Int) : Int := ((M.mulN a.toNat b.toNat : Nat) : Int)
set_option maxHeartbeats 400000 in
theorem mul_any (f : Value) (a b : Int) (ha : Byt a) (hb : Byt b) (w : World) (hf : IsF w f) :
    Calls Try.prog 12 #[f, .int .u8 a, .int .u8 b] w fun e w' => e = .returned (.int .u8 (mulZ a b)) ∧ Grown w w' := by
  obtain ⟨a0, a1⟩ := ha
  obtain ⟨b0, b1⟩ := hb
  by_cases az : a = 0
  · subst az
    go_enter Try.func12, Try.ntmps12
    go_wp2_with fail
    go_ret
    exact ⟨ret_int (by simp [mulZ, M.mulN_zero_left]), Grown.refl _⟩
  by_cases bz : b = 0
  · subst bz
    go_enter Try.func12, Try.ntmps12
    go_wp2_with fail
    go_ret
    exact ⟨ret_int (by simp [mulZ, M.mulN_zero_right]), Grown.refl _⟩
  · have H := Lib.hid hf
    clear hf
    have ea : (a == 0) = false := by simpa using az
    have eb : (b == 0) = false := by simpa using bz
    obtain ⟨x, rfl⟩ := Int.eq_ofNat_of_zero_le a0
    obtain ⟨y, rfl⟩ := Int.eq_ofNat_of_zero_le b0
    clear az bz
    have hx : x < 256 := by omega
    have hy : y < 256 := by omega
    go_enter Try.func12, Try.ntmps12
    go_wp2_with (go_at_call 23; refine (made_any f _ H.out).mono ?_; rintro e w' ⟨t, rfl, hf, hg⟩; have HF := Lib.hid hf; clear hf; have HG := Lib.hid hg; clear hg)
    have c1 := FieldAt.lg HF.out x hx
    have c2 := FieldAt.lg HF.out y hy
    have hi : (M.lgN x + M.lgN y) % 255 < 255 := Nat.mod_lt _ (by omega)
    have c3 := FieldAt.ex HF.out _ hi
    have l1 := M.lgN_lt x
    have l2 := M.lgN_lt y
    have E : Hid (mulZ x y = ((M.exN ((M.lgN x + M.lgN y) % 255) : Nat) : Int)) := Lib.hid (by
      unfold mulZ
      rw [M.mulN_nz _ _ (by simp at ea; simpa using ea) (by simp at eb; simpa using eb)]
      rfl)
    generalize M.lgN x = p at *
    generalize M.lgN y = q at *
    go_quiet (fail)
    go_wp2
    go_ret
    exact ⟨ret_int E.out.symm, HG.out⟩

/-- The byte that turns a into 1, on integers. -/
def invZ (a : Int) : Int := ((M.invN a.toNat : Nat) : Int)
set_option maxHeartbeats 400000 in
theorem inv_any (f : Value) (a : Int) (ha : Byt a) (w : World) (hf : IsF w f) :
    Calls Try.prog 14 #[f, .int .u8 a] w fun e w' => e = .returned (.int .u8 (invZ a)) ∧ Grown w w' := by
  obtain ⟨a0, a1⟩ := ha
  by_cases az : a = 0
  · subst az
    go_enter Try.func14, Try.ntmps14
    go_wp2_with fail
    go_ret
    exact ⟨rfl, Grown.refl _⟩
  · have H := Lib.hid hf
    clear hf
    have ea : (a == 0) = false := by simpa using az
    obtain ⟨x, rfl⟩ := Int.eq_ofNat_of_zero_le a0
    have hx : x < 256 := by omega
    have l1 := (M.ex_lg x hx (by simpa using az)).2
    clear az
    go_enter Try.func14, Try.ntmps14
    go_wp2_with (go_at_call 23; refine (made_any f _ H.out).mono ?_; rintro e w' ⟨t, rfl, hf, hg⟩; have HF := Lib.hid hf; clear hf; have HG := Lib.hid hg; clear hg)
    have c1 := FieldAt.lg HF.out x hx
    have hi : (255 - M.lgN x) % 255 < 255 := Nat.mod_lt _ (by omega)
    have c3 := FieldAt.ex HF.out _ hi
    have E : Hid (invZ x = ((M.exN ((255 - M.lgN x) % 255) : Nat) : Int)) := Lib.hid (by
      unfold invZ M.invN
      rw [if_neg (by simp at ea; simpa using ea)]
      rfl)
    generalize M.lgN x = p at *
    rw [show (255 - p) % 255 = (-(p : Int) % 255).toNat from by omega] at c3 E
    clear hi
    go_quiet (fail)
    go_wp2
    go_ret
    exact ⟨ret_int E.out.symm, HG.out⟩

theorem mulZ_byt (a b : Int) : Byt (mulZ a b) := by
  have := M.mulN_lt a.toNat b.toNat
  unfold Byt mulZ
  omega
theorem invZ_byt (a : Int) : Byt (invZ a) := by
  have := M.invN_lt a.toNat
  unfold Byt invZ
  omega

set_option maxHeartbeats 400000 in
theorem div_any (f : Value) (a b : Int) (ha : Byt a) (hb : Byt b) (w : World) (hf : IsF w f) :
    Calls Try.prog 9 #[f, .int .u8 a, .int .u8 b] w fun e w' => e = .returned (.tuple #[.int .u8 (mulZ a (invZ b)), .bool (!(b == 0))]) ∧ Grown w w' := by
  by_cases bz : b = 0
  · subst bz
    have e0 : mulZ a (invZ 0) = 0 := by simp [mulZ, invZ, M.invN_zero, M.mulN_zero_right]
    rw [e0]
    go_enter Try.func9, Try.ntmps9
    go_wp2_with fail
    go_ret2
    exact ⟨rfl, Grown.refl _⟩
  · have H := Lib.hid hf
    have eb : (b == 0) = false := by simpa using bz
    rw [eb]
    clear hf bz
    go_enter Try.func9, Try.ntmps9
    go_wp2_with (first | (go_at_call 23; refine (made_any f _ H.out).mono ?_; rintro e w' ⟨t, rfl, hf, hg⟩; have HF := Lib.hid hf; clear hf; have HG := Lib.hid hg; clear hg) | (go_at_call 14; refine (inv_any _ _ hb _ (Or.inr ⟨_, rfl, HF.out⟩)).mono ?_; rintro e w2 ⟨rfl, hg⟩; have HG2 := Lib.hid hg; clear hg) | (go_at_call 12; refine (mul_any _ _ _ ha (invZ_byt b) _ (Or.inr ⟨_, rfl, FieldAt.grown HF.out HG2.out⟩)).mono ?_; rintro e w3 ⟨rfl, hg⟩; have HG3 := Lib.hid hg; clear hg))
    go_ret2
    exact ⟨rfl, Grown.trans (Grown.trans HG.out HG2.out) HG3.out⟩

/-- The logarithm, 0 for 0, on integers. -/
def lgZ (a : Int) : Int := ((M.lgN a.toNat : Nat) : Int)
set_option maxHeartbeats 400000 in
theorem log_any (f : Value) (a : Int) (ha : Byt a) (w : World) (hf : IsF w f) :
    Calls Try.prog 10 #[f, .int .u8 a] w fun e w' => e = .returned (.tuple #[.int .i64 (lgZ a), .bool (!(a == 0))]) ∧ Grown w w' := by
  obtain ⟨a0, a1⟩ := ha
  by_cases az : a = 0
  · subst az
    have e0 : lgZ 0 = 0 := by simp [lgZ, M.lgN_zero]
    rw [e0]
    go_enter Try.func10, Try.ntmps10
    go_wp2_with fail
    go_ret2
    exact ⟨rfl, Grown.refl _⟩
  · have H := Lib.hid hf
    have ea : (a == 0) = false := by simpa using az
    rw [ea]
    clear hf az
    obtain ⟨x, rfl⟩ := Int.eq_ofNat_of_zero_le a0
    have hx : x < 256 := by omega
    have hl := M.lgN_lt x
    unfold lgZ
    rw [Int.toNat_natCast]
    go_enter Try.func10, Try.ntmps10
    go_wp2_with (go_at_call 23; refine (made_any f _ H.out).mono ?_; rintro e w' ⟨t, rfl, hf, hg⟩; have c1 := FieldAt.lg hf x hx; clear hf; have HG := Lib.hid hg; clear hg)
    go_ret2
    exact ⟨rfl, HG.out⟩

/-- 3^n, whatever n is, on integers. -/
def expZ (n : Int) : Int := ((M.exN (n % 255).toNat : Nat) : Int)
theorem expZ_byt (n : Int) : Byt (expZ n) := by
  have := M.exN_lt (n % 255).toNat
  unfold Byt expZ
  omega
set_option maxHeartbeats 400000 in
theorem exp_any (f : Value) (n : Int) (w : World) (hf : IsF w f) :
    Calls Try.prog 16 #[f, .int .i64 n] w fun e w' => e = .returned (.int .u8 (expZ n)) ∧ Grown w w' := by
  have H := Lib.hid hf
  clear hf
  unfold expZ
  have hm : (n % 255).toNat < 255 := by omega
  have ht : n.tmod 255 = n % 255 ∨ (n.tmod 255 < 0 ∧ n.tmod 255 + 255 = n % 255) := by
    have := Int.tmod_eq_emod (a := n) (b := 255)
    split at this
    · omega
    · simp at this
      omega
  have hk : ((n % 255).toNat : Int) = n % 255 := by omega
  generalize n % 255 = z at *
  generalize z.toNat = k at *
  subst hk
  rcases ht with ht | ⟨ht, hu⟩
  · go_enter Try.func16, Try.ntmps16
    go_wp2_with (go_at_call 23; refine (made_any f _ H.out).mono ?_; rintro e w' ⟨t, rfl, hf, hg⟩; have c1 := FieldAt.ex hf k hm; clear hf; have HG := Lib.hid hg; clear hg)
    go_ret
    exact ⟨rfl, HG.out⟩
  · obtain ⟨r, hr⟩ : ∃ r, n.tmod 255 = r := ⟨_, rfl⟩
    rw [hr] at ht hu
    obtain rfl : r = (k : Int) - 255 := by omega
    clear hu
    go_enter Try.func16, Try.ntmps16
    go_wp2_with (go_at_call 23; refine (made_any f _ H.out).mono ?_; rintro e w' ⟨t, rfl, hf, hg⟩; have c1 := FieldAt.ex hf k hm; clear hf; have HG := Lib.hid hg; clear hg)
    go_ret
    exact ⟨rfl, HG.out⟩

theorem mulZ_wakes : mulZ 2 128 = 27 := by decide +kernel
set_option maxHeartbeats 400000 in
theorem wakes_any (w : World) : Calls Try.prog 19 #[] w fun e w' => e = .returned (.bool true) ∧ Grown w w' := by
  have hm := mulZ_wakes
  go_enter Try.func19, Try.ntmps19
  go_wp2_with fail
  refine (new_any _).mono ?_
  rintro e w1 ⟨b1, rfl, _, hg1⟩
  have G1 := Lib.hid hg1
  clear hg1
  go_wp2_with fail
  refine (new_any _).mono ?_
  rintro e w2 ⟨b2, rfl, hf, hg2⟩
  have G2 := Lib.hid hg2
  have F2 := Lib.hid hf
  clear hg2 hf
  go_wp2_with fail
  refine (mul_any _ 2 128 (by unfold Byt; omega) (by unfold Byt; omega) _ (Or.inr ⟨_, rfl, F2.out⟩)).mono ?_
  rintro e w3 ⟨rfl, hg3⟩
  have G3 := Lib.hid hg3
  clear hg3
  go_wp2
  go_ret
  exact ⟨rfl, Grown.trans (Grown.trans G1.out G2.out) G3.out⟩
end Go.Proofs.Ytmbjeeogjananaa
