/-
  The document's own answers on rows of bytes: sums, rows times a byte, what two come to, where one begins.
-/
import Derived.Test.YtpckdjapkngpgaaDoorRv
namespace Go.Proofs.YtpckdjapkngpgaaDoor
open Go.RowKit

theorem addZ_zero_left (a : Int) (ha : Byt a) : addZ 0 a = a := by
  unfold Byt at ha
  unfold addZ
  rw [show (0 : Int).toNat = 0 from rfl, Nat.zero_xor]
  omega
theorem mulZ_one_left (a : Int) (ha : Byt a) : mulZ 1 a = a := by rw [mulZ_comm, mulZ_one a ha]
theorem replicate_getD (n i : Nat) : (List.replicate n (0 : Int)).getD i 0 = 0 := by
  rw [List.getD_eq_getElem?_getD, List.getElem?_replicate]
  split <;> rfl
theorem Mine.bs {w w' : World} {e : Ending} {l : List Int} (h : Mine w w' e l) (hb : ∀ x ∈ l, Byt x) (hn : l.length ≤ 9223372036854775807) : ∃ v, e = .returned v ∧ Bs w' v l := by
  obtain ⟨g, he, _, hk, _⟩ := h
  exact ⟨_, he, Blk.bs hk l _ (Nat.le_refl _) (Nat.le_refl _) hn hb fun _ _ => rfl⟩

/-- What the first k places come to. -/
def dotL (x y : List Int) : Nat → Int
  | 0 => 0
  | k + 1 => addZ (dotL x y k) (mulZ (x.getD k 0) (y.getD k 0))
theorem dotL_byt (x y : List Int) : ∀ k, Byt (dotL x y k)
  | 0 => by unfold Byt; simp [dotL]
  | k + 1 => addZ_byt (dotL_byt x y k) (mulZ_byt _ _)
/-- Where a row begins: the place of the first that is not 0; -1: none. -/
def leadL : List Int → Int
  | [] => -1
  | a :: l => if a = 0 then (if leadL l = -1 then -1 else leadL l + 1) else 0
theorem leadL_ge : ∀ l, -1 ≤ leadL l
  | [] => by simp [leadL]
  | a :: l => by
    have := leadL_ge l
    unfold leadL
    split <;> (try split) <;> omega
theorem leadL_at : ∀ (l : List Int) (k : Nat), k < l.length → (∀ j, j < k → l.getD j 0 = 0) → l.getD k 0 ≠ 0 → leadL l = k
  | [], k, h, _, _ => by simp at h
  | a :: l, 0, _, _, h => by
    simp at h
    simp [leadL, h]
  | a :: l, k + 1, hk, h0, h => by
    have ha : a = 0 := by simpa using h0 0 (by omega)
    have := leadL_at l k (by simpa using hk) (fun j hj => by simpa using h0 (j + 1) (by omega)) (by simpa using h)
    subst ha
    have h2 := leadL_ge l
    simp only [leadL]
    rw [if_pos trivial, if_neg (by omega), this]
    omega
theorem leadL_none : ∀ (l : List Int), (∀ j, j < l.length → l.getD j 0 = 0) → leadL l = -1
  | [], _ => rfl
  | a :: l, h => by
    have ha : a = 0 := by simpa using h 0 (by simp)
    have := leadL_none l (fun j hj => by simpa using h (j + 1) (by simpa using hj))
    simp [leadL, ha, this]
end Go.Proofs.YtpckdjapkngpgaaDoor
