/-
  The document's own answers on matrices: whether rows may be one; the verifier's copies of rows.
-/
import Derived.Test.YtpckdjapkngpgaaDoorEv
namespace Go.Proofs.YtpckdjapkngpgaaDoor
open Go.RowKit

def mayL (L : List (List Int)) : Bool := L.all fun r => r.length == (L.getD 0 []).length && decide (r.length ≤ 64)
theorem mayL_false {L : List (List Int)} (i : Nat) (hi : i < L.length) (h : ¬ ((L.getD i []).length = (L.getD 0 []).length ∧ (L.getD i []).length ≤ 64)) : mayL L = false := by
  rw [← Bool.not_eq_true]
  intro c
  unfold mayL at c
  rw [List.all_eq_true] at c
  have := c (L.getD i []) (by rw [List.getD_eq_getElem?_getD, List.getElem?_eq_getElem hi]; exact List.getElem_mem hi)
  simp at this
  exact h (by simpa using this)
theorem mayL_true {L : List (List Int)} (h : ∀ i, i < L.length → (L.getD i []).length = (L.getD 0 []).length ∧ (L.getD i []).length ≤ 64) : mayL L = true := by
  unfold mayL
  rw [List.all_eq_true]
  intro r hr
  obtain ⟨i, hi, rfl⟩ := List.getElem_of_mem hr
  have := h i hi
  rw [List.getD_eq_getElem?_getD, List.getElem?_eq_getElem hi] at this
  simpa using this
theorem mayL_at {L : List (List Int)} (h : mayL L = true) (i : Nat) (hi : i < L.length) : (L.getD i []).length = (L.getD 0 []).length ∧ (L.getD i []).length ≤ 64 := by
  unfold mayL at h
  rw [List.all_eq_true] at h
  have := h (L.getD i []) (by rw [List.getD_eq_getElem?_getD, List.getElem?_eq_getElem hi]; exact List.getElem_mem hi)
  simpa using this
theorem Two.drew {w1 : World} {P Q : World → Prop} (h : P w1 ∧ Q w1) (hp : P w1 → P w1.drew) (hq : Q w1 → Q w1.drew) : P w1.drew ∧ Q w1.drew := ⟨hp h.1, hq h.2⟩
end Go.Proofs.YtpckdjapkngpgaaDoor
