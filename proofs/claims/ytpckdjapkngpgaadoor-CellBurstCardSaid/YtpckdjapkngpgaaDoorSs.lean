/-
  Slices of rows as lists of lists: what reads as such, and the verifier's comparison of two.
-/
import Derived.Test.YtpckdjapkngpgaaDoorCp
namespace Go.Proofs.YtpckdjapkngpgaaDoor
open Go.RowKit

/-- v is a slice of slices of bytes that reads as L in w. -/
def Bss (w : World) (v : Value) (L : List (List Int)) : Prop :=
  ∃ oa c, v = .slice oa L.length c ∧ L.length ≤ c ∧ c ≤ 9223372036854775807 ∧ (oa = none → c = 0) ∧ ∀ a, oa = some a → ∀ i, i < L.length → ∃ u, w.cell? (a.add i) = some u ∧ Bs w u (L.getD i [])
theorem Bss.nil (w : World) : Bss w (.slice none 0 0) [] := ⟨none, 0, rfl, by simp, by omega, fun _ => rfl, fun a h => by cases h⟩
theorem Bss.grown {w w' : World} {v : Value} {L : List (List Int)} (h : Bss w v L) (hg : Gr w w') : Bss w' v L := by
  obtain ⟨oa, c, h1, h2, h3, h4, h5⟩ := h
  refine ⟨oa, c, h1, h2, h3, h4, fun a ha i hi => ?_⟩
  obtain ⟨u, hu, hb⟩ := h5 a ha i hi
  exact ⟨u, cell_grown hg hu, Bs.grown hb hg⟩
theorem Bss.at {w : World} {v : Value} {L : List (List Int)} (h : Bss w v L) (hl : 0 < L.length) :
    ∃ a c, v = .slice (some a) L.length c ∧ L.length ≤ c ∧ c ≤ 9223372036854775807 ∧ ∀ i, i < L.length → ∃ u, w.cell? (a.add i) = some u ∧ Bs w u (L.getD i []) := by
  obtain ⟨oa, c, h1, h2, h3, h4, h5⟩ := h
  cases oa with
  | none => exact absurd (h4 rfl) (by omega)
  | some a => exact ⟨a, c, h1, h2, h3, h5 a rfl⟩
theorem eq_of_getL {x y : List (List Int)} (hl : y.length = x.length) (h : ∀ j, j < x.length → x.getD j [] = y.getD j []) : x = y := by
  apply List.ext_getElem hl.symm
  intro j h1 h2
  have := h j h1
  rw [List.getD_eq_getElem?_getD, List.getD_eq_getElem?_getD, List.getElem?_eq_getElem h1, List.getElem?_eq_getElem h2] at this
  simpa using this

theorem Two.gr {wr w1 : World} {P Q : Prop} (h : P ∧ Q ∧ Hid (Gr wr w1)) : Gr wr w1 := h.2.2.out
theorem Two.keep {wr w1 w2 : World} {a b : Addr} {u v : Value} (h : w1.cell? a = some u ∧ w1.cell? b = some v ∧ Hid (Gr wr w1)) (hg : Gr w1 w2) : w2.cell? a = some u ∧ w2.cell? b = some v ∧ Hid (Gr wr w2) :=
  ⟨cell_grown hg h.1, cell_grown hg h.2.1, Lib.hid (Gr.trans h.2.2.out hg)⟩
end Go.Proofs.YtpckdjapkngpgaaDoor
