/-
  Package gf: the functions of a Field, nil or made.
-/
import Derived.Test.YtocigdcbfbnfoaaFun
import Derived.Deep.QuietTactic
import Derived.BigQuiet
namespace Go.Proofs.Ytocigdcbfbnfoaa
open Go.RowKit

theorem FieldAt.ex {w : World} {b : Nat} (h : FieldAt w b) (i : Nat) (hi : i < 255) : w.cell? ⟨b, i, none⟩ = some (.int .u8 ((M.exN i : Nat) : Int)) := by
  have h1 := h i (.int .u8 ((M.exN i : Nat) : Int)) (by
    rw [Array.getElem?_toList, Array.getElem?_append, if_pos (by rw [tab_size]; exact hi)]
    exact tab_get 255 _ i hi)
  rwa [Nat.zero_add] at h1
theorem FieldAt.lg {w : World} {b : Nat} (h : FieldAt w b) (x : Nat) (hx : x < 256) : w.cell? ⟨b, 255 + x, none⟩ = some (.int .u8 ((M.lgN x : Nat) : Int)) := by
  have h1 := h (255 + x) (.int .u8 ((M.lgN x : Nat) : Int)) (by
    rw [Array.getElem?_toList, Array.getElem?_append, if_neg (by rw [tab_size]; omega), tab_size, Nat.add_sub_cancel_left]
    exact tab_get 256 _ x hx)
  rwa [Nat.zero_add] at h1
theorem FieldAt.grown {w w' : World} {b : Nat} (h : FieldAt w b) (hg : Gr w w') : FieldAt w' b := rangeAt_grown hg h
theorem FieldAt.put {w : World} {b g o : Nat} {u : Value} (h : FieldAt w b) (hne : b ≠ g) : FieldAt (w.setCell ⟨g, o, none⟩ u) b := fun j v hv => by
  rw [World.cell?_of_block (heap_setCell_other _ _ _ _ hne)]
  exact h j v hv

/-- f is nil, or points to a Field whose tables are made. -/
def IsF (w : World) (f : Value) : Prop := f = .pointer none ∨ ∃ b, f = .pointer (some ⟨b, 0, none⟩) ∧ FieldAt w b
theorem IsF.grown {w w' : World} {f : Value} (h : IsF w f) (hg : Gr w w') : IsF w' f := by
  rcases h with h | ⟨b, h1, h2⟩
  · exact Or.inl h
  · exact Or.inr ⟨b, h1, FieldAt.grown h2 hg⟩

set_option maxHeartbeats 400000 in
theorem made_any (f : Value) (w : World) (h : IsF w f) :
    Calls Try.prog 38 #[f] w fun e w' => ∃ b, e = .returned (.pointer (some ⟨b, 0, none⟩)) ∧ FieldAt w' b ∧ Gr w w' := by
  rcases h with rfl | ⟨b, rfl, hb⟩
  · go_enter Try.func38, Try.ntmps38
    go_wp2_with (go_at_call 16; refine (new_any _).mono ?_; rintro e w' ⟨b, rfl, hf, hg⟩; have HF := Lib.hid hf; clear hf; have HG := Lib.hid hg; clear hg)
    go_ret
    exact ⟨_, rfl, HF.out, HG.out⟩
  · have h0 := FieldAt.ex hb 0 (by omega)
    rw [M.exN_zero] at h0
    have HF := Lib.hid hb
    clear hb
    go_enter Try.func38, Try.ntmps38
    go_wp2_with fail
    go_ret
    exact ⟨_, rfl, HF.out, Gr.refl _⟩

set_option maxHeartbeats 400000 in
theorem add_any (f : Value) (a b : Int) (ha : Byt a) (hb : Byt b) (w : World) :
    Calls Try.prog 19 #[f, .int .u8 a, .int .u8 b] w fun e w' => e = .returned (.int .u8 ((a.toNat ^^^ b.toNat : Nat) : Int)) ∧ w = w' := by
  obtain ⟨a0, a1⟩ := ha
  obtain ⟨b0, b1⟩ := hb
  go_enter Try.func19, Try.ntmps19
  go_wp2_with fail
  go_ret
  exact ⟨ret_int (u8_xor a b a0 (by omega) b0 (by omega)), rfl⟩
/-- The product, on integers. -/
def mulZ (a b : Int) : Int := ((M.mulN a.toNat b.toNat : Nat) : Int)
set_option maxHeartbeats 400000 in
theorem mul_any (f : Value) (a b : Int) (ha : Byt a) (hb : Byt b) (w : World) (hf : IsF w f) :
    Calls Try.prog 29 #[f, .int .u8 a, .int .u8 b] w fun e w' => e = .returned (.int .u8 (mulZ a b)) ∧ Gr w w' := by
  obtain ⟨a0, a1⟩ := ha
  obtain ⟨b0, b1⟩ := hb
  by_cases az : a = 0
  · subst az
    go_enter Try.func29, Try.ntmps29
    go_wp2_with fail
    go_ret
    exact ⟨ret_int (by simp [mulZ, M.mulN_zero_left]), Gr.refl _⟩
  by_cases bz : b = 0
  · subst bz
    go_enter Try.func29, Try.ntmps29
    go_wp2_with fail
    go_ret
    exact ⟨ret_int (by simp [mulZ, M.mulN_zero_right]), Gr.refl _⟩
  · have H := Lib.hid hf
    clear hf
    have ea : (a == 0) = false := by simpa using az
    have eb : (b == 0) = false := by simpa using bz
    obtain ⟨x, rfl⟩ := Int.eq_ofNat_of_zero_le a0
    obtain ⟨y, rfl⟩ := Int.eq_ofNat_of_zero_le b0
    clear az bz
    have hx : x < 256 := by omega
    have hy : y < 256 := by omega
    go_enter Try.func29, Try.ntmps29
    go_wp2_with (go_at_call 38; refine (made_any f _ H.out).mono ?_; rintro e w' ⟨t, rfl, hf, hg⟩; have HF := Lib.hid hf; clear hf; have HG := Lib.hid hg; clear hg)
    have c1 := FieldAt.lg HF.out x hx
    have c2 := FieldAt.lg HF.out y hy
    have hi : (M.lgN x + M.lgN y) % 255 < 255 := Nat.mod_lt _ (by omega)
    have c3 := FieldAt.ex HF.out _ hi
    have l1 := M.lgN_lt x
    have l2 := M.lgN_lt y
    have E : Hid (mulZ x y = ((M.exN ((M.lgN x + M.lgN y) % 255) : Nat) : Int)) := Lib.hid (by
      unfold mulZ
      rw [M.mulN_nz _ _ (by simp at ea; simpa using ea) (by simp at eb; simpa using eb)]
      rfl)
    generalize M.lgN x = p at *
    generalize M.lgN y = q at *
    go_quiet (fail)
    go_wp2
    go_ret
    exact ⟨ret_int E.out.symm, HG.out⟩

/-- The byte that turns a into 1, on integers. -/
def invZ (a : Int) : Int := ((M.invN a.toNat : Nat) : Int)
set_option maxHeartbeats 400000 in
theorem inv_any (f : Value) (a : Int) (ha : Byt a) (w : World) (hf : IsF w f) :
    Calls Try.prog 41 #[f, .int .u8 a] w fun e w' => e = .returned (.int .u8 (invZ a)) ∧ Gr w w' := by
  obtain ⟨a0, a1⟩ := ha
  by_cases az : a = 0
  · subst az
    go_enter Try.func41, Try.ntmps41
    go_wp2_with fail
    go_ret
    exact ⟨rfl, Gr.refl _⟩
  · have H := Lib.hid hf
    clear hf
    have ea : (a == 0) = false := by simpa using az
    obtain ⟨x, rfl⟩ := Int.eq_ofNat_of_zero_le a0
    have hx : x < 256 := by omega
    have l1 := (M.ex_lg x hx (by simpa using az)).2
    clear az
    go_enter Try.func41, Try.ntmps41
    go_wp2_with (go_at_call 38; refine (made_any f _ H.out).mono ?_; rintro e w' ⟨t, rfl, hf, hg⟩; have HF := Lib.hid hf; clear hf; have HG := Lib.hid hg; clear hg)
    have c1 := FieldAt.lg HF.out x hx
    have hi : (255 - M.lgN x) % 255 < 255 := Nat.mod_lt _ (by omega)
    have c3 := FieldAt.ex HF.out _ hi
    have E : Hid (invZ x = ((M.exN ((255 - M.lgN x) % 255) : Nat) : Int)) := Lib.hid (by
      unfold invZ M.invN
      rw [if_neg (by simp at ea; simpa using ea)]
      rfl)
    generalize M.lgN x = p at *
    rw [show (255 - p) % 255 = (-(p : Int) % 255).toNat from by omega] at c3 E
    clear hi
    go_quiet (fail)
    go_wp2
    go_ret
    exact ⟨ret_int E.out.symm, HG.out⟩

theorem mulZ_byt (a b : Int) : Byt (mulZ a b) := by
  have := M.mulN_lt a.toNat b.toNat
  unfold Byt mulZ
  omega
theorem invZ_byt (a : Int) : Byt (invZ a) := by
  have := M.invN_lt a.toNat
  unfold Byt invZ
  omega


/-- The logarithm, 0 for 0, on integers. -/
def lgZ (a : Int) : Int := ((M.lgN a.toNat : Nat) : Int)

/-- 3^n, whatever n is, on integers. -/
def expZ (n : Int) : Int := ((M.exN (n % 255).toNat : Nat) : Int)
theorem expZ_byt (n : Int) : Byt (expZ n) := by
  have := M.exN_lt (n % 255).toNat
  unfold Byt expZ
  omega
set_option maxHeartbeats 400000 in
theorem exp_any (f : Value) (n : Int) (w : World) (hf : IsF w f) :
    Calls Try.prog 31 #[f, .int .i64 n] w fun e w' => e = .returned (.int .u8 (expZ n)) ∧ Gr w w' := by
  have H := Lib.hid hf
  clear hf
  unfold expZ
  have hm : (n % 255).toNat < 255 := by omega
  have ht : n.tmod 255 = n % 255 ∨ (n.tmod 255 < 0 ∧ n.tmod 255 + 255 = n % 255) := by
    have := Int.tmod_eq_emod (a := n) (b := 255)
    split at this
    · omega
    · simp at this
      omega
  have hk : ((n % 255).toNat : Int) = n % 255 := by omega
  generalize n % 255 = z at *
  generalize z.toNat = k at *
  subst hk
  rcases ht with ht | ⟨ht, hu⟩
  · go_enter Try.func31, Try.ntmps31
    go_wp2_with (go_at_call 38; refine (made_any f _ H.out).mono ?_; rintro e w' ⟨t, rfl, hf, hg⟩; have c1 := FieldAt.ex hf k hm; clear hf; have HG := Lib.hid hg; clear hg)
    go_ret
    exact ⟨rfl, HG.out⟩
  · obtain ⟨r, hr⟩ : ∃ r, n.tmod 255 = r := ⟨_, rfl⟩
    rw [hr] at ht hu
    obtain rfl : r = (k : Int) - 255 := by omega
    clear hu
    go_enter Try.func31, Try.ntmps31
    go_wp2_with (go_at_call 38; refine (made_any f _ H.out).mono ?_; rintro e w' ⟨t, rfl, hf, hg⟩; have c1 := FieldAt.ex hf k hm; clear hf; have HG := Lib.hid hg; clear hg)
    go_ret
    exact ⟨rfl, HG.out⟩

end Go.Proofs.Ytocigdcbfbnfoaa
