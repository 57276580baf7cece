/-
  Package gf: New.
-/
import Derived.Test.YtpckdjapkngpgaaDoorLog
import Derived.Deep.RegionHeld3
namespace Go.Proofs.YtpckdjapkngpgaaDoor
open Go.RowKit

theorem foldSet (off : Nat) : ∀ (xs : List Value) (n : Nat) (cells : Array Value) (i : Nat),
    ((xs.zipIdx n).foldl (fun cs x => cs.setIfInBounds (off + x.2) x.1) cells)[i]? = if off + n ≤ i ∧ i < off + n + xs.length ∧ i < cells.size then xs[i - (off + n)]? else cells[i]?
  | [], n, cells, i => by
    rw [if_neg (by simp; omega)]
    rfl
  | x :: xs, n, cells, i => by
    rw [List.zipIdx_cons, List.foldl_cons, foldSet off xs (n + 1), Array.size_setIfInBounds, Array.getElem?_setIfInBounds, List.length_cons]
    by_cases h : off + n = i
    · subst h
      rw [if_neg (by omega), if_pos rfl]
      by_cases h2 : off + n < cells.size
      · rw [if_pos h2, if_pos (by omega)]
        simp
      · rw [if_neg h2, if_neg (by omega), Array.getElem?_eq_none (by omega)]
    · rw [if_neg h]
      by_cases h2 : off + (n + 1) ≤ i ∧ i < off + (n + 1) + xs.length ∧ i < cells.size
      · rw [if_pos h2, if_pos (by omega), show i - (off + n) = (i - (off + (n + 1))) + 1 from by omega, List.getElem?_cons_succ]
      · rw [if_neg h2, if_neg (by omega)]
theorem fill_two (z p l : Array Value) (hp : p.size = 255) (hl : l.size = 256) (hz : z.size = 511) :
    Instr.fill (([(0, 255), (255, 256)] : List (Nat × Nat)).toArray[·]?) z [(0, .agg p), (1, .agg l)] = some (p ++ l) := by
  have f1 : ∀ (off : Nat) (xs cells : Array Value), (xs.zipIdx.foldl (fun cs (c, j) => cs.setIfInBounds (off + j) c) cells) = ((xs.toList.zipIdx 0).foldl (fun cs x => cs.setIfInBounds (off + x.2) x.1) cells) := by
    intro off xs cells
    rw [← Array.foldl_toList, Array.toList_zipIdx]
  have s1 : ∀ (off : Nat) (xs : List (Value × Nat)) (cells : Array Value), (xs.foldl (fun cs x => cs.setIfInBounds (off + x.2) x.1) cells).size = cells.size := by
    intro off xs
    induction xs with
    | nil => intro cells; rfl
    | cons x xs ih => intro cells; rw [List.foldl_cons, ih, Array.size_setIfInBounds]
  simp only [Instr.fill, Value.cells, f1]
  have s2 := fun xs cells => s1 0 xs cells
  have f2 := fun xs n cells i => foldSet 0 xs n cells i
  simp only [Nat.zero_add] at s2 f2
  simp [hp, hl, hz]
  refine ⟨by rw [s2]; omega, ?_⟩
  apply Array.ext_getElem?
  intro i
  rw [foldSet, s2, f2, Array.getElem?_append]
  by_cases h1 : i < 255
  · rw [if_neg (by omega), if_pos (by simp [hp, hz]; omega), if_pos (by omega)]
    simp
  · by_cases h2 : i < 511
    · rw [if_pos (by simp [hl, hz]; omega), if_neg (by omega)]
      simp [hp]
    · rw [if_neg (by simp [hl, hz]; omega), if_neg (by simp [hp]; omega), if_neg (by omega), Array.getElem?_eq_none (by omega), Array.getElem?_eq_none (by omega)]
theorem keptRow {W w' : World} (hg : Gr W w') {b : Nat} {c : Array Value} {t : TypeId} {fr : Nat × Nat} (h : W.heap[b]? = some (.cells c t fr)) : w'.heap[b]? = some (.cells c t fr) := by
  rw [hg.2.2.2.2 b (Array.getElem?_eq_some_iff.1 h).1]
  exact h
end Go.Proofs.YtpckdjapkngpgaaDoor
