/-
  Package gf: the functions of a Field, nil or made.
-/
import Derived.Test.YtpckdjapkngpgaaDoorFun
import Derived.Deep.QuietTactic
import Derived.BigQuiet
namespace Go.Proofs.YtpckdjapkngpgaaDoor
open Go.RowKit

theorem FieldAt.ex {w : World} {b : Nat} (h : FieldAt w b) (i : Nat) (hi : i < 255) : w.cell? ⟨b, i, none⟩ = some (.int .u8 ((M.exN i : Nat) : Int)) := by
  have h1 := h i (.int .u8 ((M.exN i : Nat) : Int)) (by
    rw [Array.getElem?_toList, Array.getElem?_append, if_pos (by rw [tab_size]; exact hi)]
    exact tab_get 255 _ i hi)
  rwa [Nat.zero_add] at h1
theorem FieldAt.lg {w : World} {b : Nat} (h : FieldAt w b) (x : Nat) (hx : x < 256) : w.cell? ⟨b, 255 + x, none⟩ = some (.int .u8 ((M.lgN x : Nat) : Int)) := by
  have h1 := h (255 + x) (.int .u8 ((M.lgN x : Nat) : Int)) (by
    rw [Array.getElem?_toList, Array.getElem?_append, if_neg (by rw [tab_size]; omega), tab_size, Nat.add_sub_cancel_left]
    exact tab_get 256 _ x hx)
  rwa [Nat.zero_add] at h1
theorem FieldAt.grown {w w' : World} {b : Nat} (h : FieldAt w b) (hg : Gr w w') : FieldAt w' b := rangeAt_grown hg h
theorem FieldAt.put {w : World} {b g o : Nat} {u : Value} (h : FieldAt w b) (hne : b ≠ g) : FieldAt (w.setCell ⟨g, o, none⟩ u) b := fun j v hv => by
  rw [World.cell?_of_block (heap_setCell_other _ _ _ _ hne)]
  exact h j v hv

/-- f is nil, or points to a Field whose tables are made. -/
def IsF (w : World) (f : Value) : Prop := f = .pointer none ∨ ∃ b, f = .pointer (some ⟨b, 0, none⟩) ∧ FieldAt w b
theorem IsF.grown {w w' : World} {f : Value} (h : IsF w f) (hg : Gr w w') : IsF w' f := by
  rcases h with h | ⟨b, h1, h2⟩
  · exact Or.inl h
  · exact Or.inr ⟨b, h1, FieldAt.grown h2 hg⟩

/-- The product, on integers. -/
def mulZ (a b : Int) : Int := ((M.mulN a.toNat b.toNat : Nat) : Int)

/-- The byte that turns a into 1, on integers. -/
def invZ (a : Int) : Int := ((M.invN a.toNat : Nat) : Int)

theorem mulZ_byt (a b : Int) : Byt (mulZ a b) := by
  have := M.mulN_lt a.toNat b.toNat
  unfold Byt mulZ
  omega
theorem invZ_byt (a : Int) : Byt (invZ a) := by
  have := M.invN_lt a.toNat
  unfold Byt invZ
  omega


/-- The logarithm, 0 for 0, on integers. -/
def lgZ (a : Int) : Int := ((M.lgN a.toNat : Nat) : Int)

/-- 3^n, whatever n is, on integers. -/
def expZ (n : Int) : Int := ((M.exN (n % 255).toNat : Nat) : Int)
theorem expZ_byt (n : Int) : Byt (expZ n) := by
  have := M.exN_lt (n % 255).toNat
  unfold Byt expZ
  omega

end Go.Proofs.YtpckdjapkngpgaaDoor
