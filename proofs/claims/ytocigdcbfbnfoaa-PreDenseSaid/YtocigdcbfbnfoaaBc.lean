/-
  Lists of nil rows; bytes.Clone.
-/
import Derived.Test.YtocigdcbfbnfoaaAz
import Derived.Lib.SliceRun
namespace Go.Proofs.Ytocigdcbfbnfoaa
open Go.RowKit

/-- A block's cells that are nil rows. -/
def nils (n : Nat) : Array Value := (List.replicate n (Value.slice none 0 0)).toArray
theorem nils_made (n : Nat) : madeCells #[.slice none 0 0] n = nils n := by
  apply Array.ext'
  rw [toList_madeCells_one]
  simp [nils]
theorem make24 (l c : Nat) (h : l ≤ c) (hc : c ≤ 1000000) (w : World) :
    (Instr.makeSlice 29 (.int .i64 (l : Int)) (.int .i64 (c : Int))).run Try.prog w = .ok (.slice (some ⟨w.heap.size, 0, none⟩) l c) (w.alloc (.cells (nils c) 33)) := by
  obtain ⟨i, hi, hzz⟩ := Option.map_eq_some_iff.1 info22
  simp only [Prod.mk.injEq] at hzz
  obtain ⟨hz, hs, hb⟩ := hzz
  have hr := run_make (P := Try.prog) w 29 33 i _ Try.underlying29 hi hz .i64 .i64 l c (by omega) (by omega) (by rw [hb]; omega) (by omega)
  rw [Int.toNat_natCast, Int.toNat_natCast, hs, Nat.mul_one] at hr
  rw [hr, ← nils_made]
  rfl
end Go.Proofs.Ytocigdcbfbnfoaa
