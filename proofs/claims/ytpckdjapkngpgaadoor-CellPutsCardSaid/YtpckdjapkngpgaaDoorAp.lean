/-
  append of a slice that came in, nil or not, onto a row of one's own: one law for both. Rows one by one as values.
-/
import Derived.Test.YtpckdjapkngpgaaDoorMs
import Derived.Test.YtpckdjapkngpgaaDoorAq
import Derived.Laws.AppendOwnNone
import Derived.Deep.AppendLies
import Derived.Deep.RegionHeld3
namespace Go.Proofs.YtpckdjapkngpgaaDoor
open Go.RowKit

/-- The rows of a slice of rows, one by one. -/
def Vals (w : World) (oa : Option Addr) (us : List Value) (L : List (List Int)) : Prop :=
  us.length = L.length ∧ (∀ ad, oa = some ad → ∀ j u, us[j]? = some u → w.cell? (ad.add j) = some u) ∧ (∀ i, i < L.length → Bs w (us.getD i undef) (L.getD i [])) ∧ ∀ u ∈ us, u.oneCell' = true
theorem Vals.grown {w w' : World} {oa : Option Addr} {us : List Value} {L : List (List Int)} (h : Vals w oa us L) (hg : Gr w w') : Vals w' oa us L :=
  ⟨h.1, fun ad ha j u hu => cell_grown hg (h.2.1 ad ha j u hu), fun i hi => Bs.grown (h.2.2.1 i hi) hg, h.2.2.2⟩
theorem Bss.vals {w : World} {oa : Option Addr} {n c : Nat} {L : List (List Int)} (h : Bss w (.slice oa n c) L) : ∃ us, Vals w oa us L := by
  obtain ⟨oa', c', he, h2, h3, h4, h5⟩ := h
  obtain ⟨rfl, rfl, rfl⟩ : oa = oa' ∧ n = L.length ∧ c = c' := by simpa using he
  cases oa with
  | none =>
    have : L = [] := List.eq_nil_of_length_eq_zero (by have := h4 rfl; omega)
    subst this
    exact ⟨[], rfl, (fun ad ha => by cases ha), (fun i hi => by simp at hi), by simp⟩
  | some a =>
    have hex : ∀ i, ∃ u, i < L.length → w.cell? (a.add i) = some u ∧ Bs w u (L.getD i []) := fun i => by
      by_cases hi : i < L.length
      · obtain ⟨u, h⟩ := h5 a rfl i hi
        exact ⟨u, fun _ => h⟩
      · exact ⟨undef, fun h => absurd h hi⟩
    have hf := fun i => Classical.choose_spec (hex i)
    have hget : ∀ i, i < L.length → ((List.range L.length).map fun i => Classical.choose (hex i)).getD i undef = Classical.choose (hex i) := fun i hi => by
      rw [List.getD_eq_getElem?_getD, List.getElem?_map, List.getElem?_range hi]
      rfl
    refine ⟨(List.range L.length).map fun i => Classical.choose (hex i), by simp, fun ad ha j u hu => ?_, fun i hi => ?_, fun u hu => ?_⟩
    · cases ha
      rw [List.getElem?_map] at hu
      by_cases hj : j < L.length
      · rw [List.getElem?_range hj] at hu
        simp at hu
        rw [← hu]
        exact (hf j hj).1
      · rw [List.getElem?_eq_none (by simp; omega)] at hu
        cases hu
    · rw [hget i hi]
      exact (hf i hi).2
    · obtain ⟨i, hi, rfl⟩ := List.mem_map.1 hu
      obtain ⟨o, cc, he⟩ := ((hf i (List.mem_range.1 hi)).2).form
      rw [he]
      rfl
theorem Vals.append {w : World} {us us' : List Value} {L L' : List (List Int)} {oa ob : Option Addr} (h : Vals w oa us L) (h' : Vals w ob us' L') :
    (us ++ us').length = (L ++ L').length ∧ (∀ i, i < (L ++ L').length → Bs w ((us ++ us').getD i undef) ((L ++ L').getD i [])) := by
  refine ⟨by rw [List.length_append, List.length_append, h.1, h'.1], fun i hi => ?_⟩
  rw [List.getD_eq_getElem?_getD, List.getD_eq_getElem?_getD]
  by_cases e : i < L.length
  · rw [List.getElem?_append_left (by rw [h.1]; exact e), List.getElem?_append_left e, ← List.getD_eq_getElem?_getD, ← List.getD_eq_getElem?_getD]
    exact h.2.2.1 i e
  · rw [List.length_append] at hi
    rw [List.getElem?_append_right (by rw [h.1]; omega), List.getElem?_append_right (by omega), h.1, ← List.getD_eq_getElem?_getD, ← List.getD_eq_getElem?_getD]
    exact h'.2.2.1 _ (by omega)
/-- A slice of rows of one's own, whose rows read so. -/
theorem owns_bss {base n : Nat} {w : World} {v : Value} {us : List Value} {L : List (List Int)} (ho : w.ownsRow base 22 1 v n us) (hl : L.length = n) (hr : ∀ i, i < L.length → Bs w (us.getD i undef) (L.getD i [])) : Bss w v L := by
  subst hl
  by_cases h0 : 0 < L.length
  · obtain ⟨g, c, rfl, h1, h2, h3, h4, h5⟩ := ownsRow_cell ho h0
    refine ⟨some ⟨g, 0, none⟩, c, rfl, h1, by unfold maxLen at h2; omega, (fun h => by cases h), fun a ha i hi => ?_⟩
    cases ha
    rw [Addr.add_mid, Nat.zero_add]
    exact ⟨_, h5 i hi, hr i hi⟩
  · have : L = [] := List.eq_nil_of_length_eq_zero (by omega)
    subst this
    obtain ⟨_, ⟨rfl, _⟩ | ⟨g, c, cur, rfl, _, _, _, h2, _⟩⟩ := ho
    · exact Bss.nil w
    · exact ⟨_, c, rfl, by simp, by unfold maxLen at h2; omega, (fun h => by cases h), fun a _ i hi => by simp at hi⟩
theorem Vals.take {w : World} {oa : Option Addr} {us : List Value} {L : List (List Int)} (h : Vals w oa us L) (k : Nat) : Vals w oa (us.take k) (L.take k) := by
  refine ⟨by rw [List.length_take, List.length_take, h.1], fun ad ha j u hu => ?_, fun i hi => ?_, fun u hu => h.2.2.2 u (List.mem_of_mem_take hu)⟩
  · by_cases e : j < k
    · rw [List.getElem?_take_of_lt e] at hu
      exact h.2.1 ad ha j u hu
    · rw [List.getElem?_eq_none (by rw [List.length_take]; omega)] at hu
      cases hu
  · rw [List.length_take] at hi
    rw [List.getD_eq_getElem?_getD, List.getD_eq_getElem?_getD, List.getElem?_take_of_lt (by omega), List.getElem?_take_of_lt (by omega), ← List.getD_eq_getElem?_getD, ← List.getD_eq_getElem?_getD]
    exact h.2.2.1 i (by omega)
theorem Vals.drop {w : World} {b : Addr} {us : List Value} {L : List (List Int)} {k ca : Nat} (h : Vals w (some b) us L) (hm : L.length ≤ ca) (hk : k ≤ L.length) : Vals w (if ca = k then some b else some (b.add k)) (us.drop k) (L.drop k) := by
  refine ⟨by rw [List.length_drop, List.length_drop, h.1], fun ad ha j u hu => ?_, fun i hi => ?_, fun u hu => h.2.2.2 u (List.mem_of_mem_drop hu)⟩
  · rw [List.getElem?_drop] at hu
    have hlt := (List.getElem?_eq_some_iff.1 hu).1
    rw [h.1] at hlt
    rw [if_neg (by omega)] at ha
    cases ha
    rw [Addr.add_add']
    exact h.2.1 b rfl _ u hu
  · rw [List.length_drop] at hi
    rw [List.getD_eq_getElem?_getD, List.getD_eq_getElem?_getD, List.getElem?_drop, List.getElem?_drop, ← List.getD_eq_getElem?_getD, ← List.getD_eq_getElem?_getD]
    exact h.2.2.1 _ (by omega)
end Go.Proofs.YtpckdjapkngpgaaDoor
