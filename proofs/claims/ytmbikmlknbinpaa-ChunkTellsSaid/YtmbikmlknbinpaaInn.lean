/-
  A slice of slices of bytes as a law is handed it reads as a list of lists.
-/
import Derived.Test.YtmbikmlknbinpaaMgc
import Derived.Deep.Matrix
namespace Go.Proofs.Ytmbikmlknbinpaa
open Go.RowKit

theorem open_bss {H : Type} {enc : TypeId × Value → H} {w : World} {base : Nat} {held : Bool} {fuel : Nat} {a : Option Addr} {len cap : Nat} {x : DataW H × List MemPlace}
    (h : DataW.trod enc Try.prog w base (fun _ => true) held fuel 25 (Value.slice a len cap).cells.toList = some x) : ∃ LL, Bss w (.slice a len cap) LL := by
  rcases Deep.open_int_rows Try.underlying25 Try.underlying24 Try.underlying5 (by kernel_rfl) (by kernel_rfl) h with ⟨hcs, _⟩ | ⟨a', l, c, A, L, C, Z, hcs, _, h1, h2, _, h3⟩
  · simp [Value.cells] at hcs
    obtain ⟨rfl, rfl, rfl⟩ := hcs
    exact ⟨[], Bss.nil w⟩
  · simp [Value.cells] at hcs
    obtain ⟨rfl, rfl, rfl⟩ := hcs
    have hm : maxLen = 9223372036854775807 := rfl
    refine ⟨(List.range len).map fun r => (Z r).take (L r), some a', cap, by simp, by simpa using h1, by omega, (fun h => by cases h), fun b hb i hi => ?_⟩
    cases hb
    have hi' : i < len := by simpa using hi
    obtain ⟨q1, q2, q3, q4, q5, q6, q7⟩ := h3 i (by omega)
    have e : ((List.range len).map fun r => (Z r).take (L r)).getD i [] = (Z i).take (L i) := by
      rw [List.getD_eq_getElem?_getD, List.getElem?_map, List.getElem?_range hi']
      rfl
    have hl : ((Z i).take (L i)).length = L i := by rw [List.length_take]; omega
    refine ⟨_, q1, ?_⟩
    rw [e]
    refine ⟨fun z hz => byt_of_wf (q5 z (List.mem_of_mem_take hz)), A i, C i, by rw [hl], by rw [hl]; exact q2, by omega, q6, fun a2 ha2 j hj => ?_⟩
    rw [hl] at hj
    rw [(q7 a2 ha2).2 j (by omega), List.getD_eq_getElem?_getD, List.getD_eq_getElem?_getD, List.getElem?_take_of_lt hj]
end Go.Proofs.Ytmbikmlknbinpaa
