/-
  The verifier's copy of a slice of bytes.
-/
import Derived.Test.YtpckdjapkngpgaaDoorRe
namespace Go.Proofs.YtpckdjapkngpgaaDoor
open Go.RowKit

/-- What an owned row of bytes reads as. -/
theorem New.of_owns {w0 w : World} {g cap : Nat} {l : List Int} (hg : Gr w0 w) (hb : ∀ x ∈ l, Byt x) (h : w.ownsRow w0.heap.size 5 1 (.slice (some ⟨g, 0, none⟩) l.length cap) l.length (l.map (Value.int .u8))) : w0.heap.size ≤ g ∧ New w0 w (.slice (some ⟨g, 0, none⟩) l.length cap) l := by
  obtain ⟨_, h | h⟩ := h
  · simp at h
  · obtain ⟨g', cap', cur, he, h1, h2, h3, h4, _, h5⟩ := h
    simp only [Value.slice.injEq, Option.some.injEq, Addr.mk.injEq, and_true, true_and] at he
    obtain ⟨rfl, rfl⟩ := he
    refine ⟨h1, hg, hb, Or.inr ⟨g, cap, cur, rfl, h1, h2, h3, by unfold maxLen at h4; omega, fun i hi => ?_⟩⟩
    rw [Nat.mul_one] at h5
    have : (cur.toList.take l.length)[i]? = (l.map (Value.int .u8))[i]? := by rw [h5]
    rw [List.getElem?_take_of_lt hi] at this
    simpa [hi] using this
end Go.Proofs.YtpckdjapkngpgaaDoor
