/-
  The verifier's copies of rows.
-/
import Derived.Test.YtocigdcbfbnfoaaMy
namespace Go.Proofs.Ytocigdcbfbnfoaa
open Go.RowKit

theorem New.rb {w w' : World} {v : Value} {l : List Int} (h : New w w' v l) (base : Nat) : Rb base w' v := by
  intro a n c hv hn
  obtain ⟨_, _, ⟨rfl, oa, c', rfl, _⟩ | ⟨g, c', cur, rfl, _, h2, _⟩⟩ := h
  · cases hv
    omega
  · cases hv
    exact .inr ⟨cur, h2⟩
theorem _root_.Go.World.ownsRow.of_gr {w w' : World} {base : Nat} {e : TypeId} {size : Nat} {v : Value} {n : Nat} {xs : List Value} (h : w.ownsRow base e size v n xs) (hg : Gr w w') : w'.ownsRow base e size v n xs := by
  obtain ⟨h0, h1 | ⟨g, c, cur, rfl, hb, hgg, h2⟩⟩ := h
  · exact ⟨h0, .inl h1⟩
  · exact ⟨h0, .inr ⟨g, c, cur, rfl, hb, keptRow hg hgg, h2⟩⟩
end Go.Proofs.Ytocigdcbfbnfoaa
