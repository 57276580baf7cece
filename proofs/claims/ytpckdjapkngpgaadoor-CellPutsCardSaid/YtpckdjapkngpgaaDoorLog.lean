/-
  Package gf: the logarithms are made, and a Field.
-/
import Derived.Test.YtpckdjapkngpgaaDoorFld
namespace Go.Proofs.YtpckdjapkngpgaaDoor
open Go.RowKit

theorem isAgg5 (w : World) : (isAgg 5).run Tryd.prog w = .ok false w := by kernel_rfl
theorem size5 (w : World) : (Go.sizeOf 5).run Tryd.prog w = .ok 1 w := by kernel_rfl
theorem g3 (w : World) (A B C : Obj) : (((w.alloc A).alloc B).alloc C).heap[w.heap.size]? = some A := by
  rw [heap_alloc_old _ _ (by simp; omega), heap_alloc_old _ _ (by simp)]
  exact heap_alloc_new _ _
theorem g3' (w : World) (A B C : Obj) : (((w.alloc A).alloc B).alloc C).heap[w.heap.size + 1]? = some B := by
  rw [heap_alloc_old _ _ (by simp)]
  exact heap_alloc2_new _ _ _
theorem g3'' (w : World) (A B C : Obj) : (((w.alloc A).alloc B).alloc C).heap[w.heap.size + 1 + 1]? = some C := by
  have h := heap_alloc_new ((w.alloc A).alloc B) C
  simpa using h

/-- The logarithms, as far as k rounds have made them. -/
def lw (k : Nat) : Nat → Nat := fun x => if x ≠ 0 ∧ M.lgN x < k then M.lgN x else 0
theorem lw_nil : tab 256 (fun _ => 0) = tab 256 (lw 0) := tab_congr 256 _ _ fun j _ => by simp [lw]
theorem lw_all : tab 256 (lw 255) = tab 256 M.lgN := tab_congr 256 _ _ fun x h => by
  unfold lw
  by_cases h0 : x = 0
  · subst h0
    rw [if_neg (by simp), M.lgN_zero]
  · rw [if_pos ⟨h0, (M.ex_lg x h h0).2⟩]
theorem lw_set (k : Nat) (h : k < 255) : (tab 256 (lw k)).setIfInBounds (M.exN k) (.int .u8 (k : Int)) = tab 256 (lw (k + 1)) := by
  rw [tab_set 256 _ _ _ (M.exN_lt k)]
  apply tab_congr
  intro x hx
  obtain ⟨h1, h2⟩ := M.lg_ex k h
  unfold lw
  by_cases e : x = M.exN k
  · subst e
    rw [if_pos rfl, if_pos ⟨h2, by omega⟩, h1]
  · rw [if_neg e]
    by_cases h0 : x = 0
    · subst h0
      simp
    · have : M.lgN x ≠ k := fun c => e (by rw [← c]; exact (M.ex_lg x hx h0).1.symm)
      by_cases h3 : M.lgN x < k
      · rw [if_pos ⟨h0, h3⟩, if_pos ⟨h0, by omega⟩]
      · rw [if_neg (fun c => h3 c.2), if_neg (fun c => h3 (by omega))]
end Go.Proofs.YtpckdjapkngpgaaDoor
