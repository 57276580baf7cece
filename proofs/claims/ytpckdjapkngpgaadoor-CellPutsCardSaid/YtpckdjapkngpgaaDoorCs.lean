/-
  The verifier's copies of rows.
-/
import Derived.Test.YtpckdjapkngpgaaDoorMy
import Derived.Test.YtpckdjapkngpgaaDoorAq
namespace Go.Proofs.YtpckdjapkngpgaaDoor
open Go.RowKit

theorem New.rb {w w' : World} {v : Value} {l : List Int} (h : New w w' v l) (base : Nat) : Rb base w' v := by
  intro a n c hv hn
  obtain ⟨_, _, ⟨rfl, oa, c', rfl, _⟩ | ⟨g, c', cur, rfl, _, h2, _⟩⟩ := h
  · cases hv
    omega
  · cases hv
    exact .inr ⟨cur, h2⟩
end Go.Proofs.YtpckdjapkngpgaaDoor
