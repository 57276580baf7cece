/-
  Contracts of package gf.
-/
import Derived.Test.YtpckdjapkngpgaaDoorProg
import Derived.KernelRfl
import Derived.Test.YtpckdjapkngpgaaDoorMath
import Derived.WalkKit
import Derived.WalkSpells
import Derived.WalkLawsBesides
import Derived.ScopeJumps
import Derived.Below
import Derived.Outline
import Derived.Lib.Hide
import Derived.Deep.WholeRow
import Derived.Deep.MidRow
namespace Go.Proofs.YtpckdjapkngpgaaDoor
open Go.RowKit

def Byt (a : Int) : Prop := 0 ≤ a ∧ a ≤ 255

theorem ret_int {k : IntKind} {a b : Int} (h : a = b) : Ending.returned (.int k a) = .returned (.int k b) := by rw [h]
/-- A row of n bytes: at j what g says of j. -/
def tab (n : Nat) (g : Nat → Nat) : Array Value := ((List.range n).map fun j => Value.int .u8 ((g j : Nat) : Int)).toArray
theorem tab_size (n : Nat) (g : Nat → Nat) : (tab n g).size = n := by simp [tab]
theorem tab_get (n : Nat) (g : Nat → Nat) (j : Nat) (h : j < n) : (tab n g)[j]? = some (.int .u8 ((g j : Nat) : Int)) := by
  simp [tab, h]
theorem tab_congr (n : Nat) (g g' : Nat → Nat) (h : ∀ j, j < n → g j = g' j) : tab n g = tab n g' := by
  unfold tab
  congr 1
  exact List.map_congr_left fun j hj => by rw [h j (List.mem_range.1 hj)]
theorem tab_set (n : Nat) (g : Nat → Nat) (k v : Nat) (h : k < n) : (tab n g).setIfInBounds k (.int .u8 (v : Int)) = tab n (fun j => if j = k then v else g j) := by
  apply Array.ext_getElem?
  intro j
  rw [Array.getElem?_setIfInBounds, tab_size]
  by_cases hj : j < n
  · rw [tab_get n g j hj, tab_get n _ j hj]
    by_cases e : k = j
    · subst e
      simp [h]
    · rw [if_neg e, if_neg (fun x => e x.symm)]
  · have h1 : (tab n g)[j]? = none := by rw [Array.getElem?_eq_none]; rw [tab_size]; omega
    have h2 : (tab n (fun j => if j = k then v else g j))[j]? = none := by rw [Array.getElem?_eq_none]; rw [tab_size]; omega
    rw [if_neg (by omega), h1, h2]
/-- Since w only new memory was made and written: what was there stands. -/
def Gr (w w' : World) : Prop := w'.os = w.os ∧ w'.tape = w.tape ∧ w'.output = w.output ∧ w.heap.size ≤ w'.heap.size ∧ ∀ k, k < w.heap.size → w'.heap[k]? = w.heap[k]?
theorem Gr.below {w w' : World} (h : Gr w w') : Below w.heap.size w w' := ⟨h.1, h.2.1, h.2.2.1, h.2.2.2.1, h.2.2.2.2⟩
theorem Gr.of {w w' : World} (h : Below w.heap.size w w') : Gr w w' := ⟨h.os, h.tape, h.output, h.size, h.block⟩
theorem Gr.size {w w' : World} (h : Gr w w') : w.heap.size ≤ w'.heap.size := h.2.2.2.1
theorem Gr.refl (w : World) : Gr w w := Gr.of (Below.refl _ _)
theorem Gr.alloc {W w' : World} (h : Gr W w') (c : Array Value) (t : TypeId) : Gr W (w'.alloc (.cells c t)) := Gr.of (Below.alloc h.below h.size _)
theorem Gr.setCell {W w' : World} (h : Gr W w') {a : Addr} (ha : W.heap.size ≤ a.block) (v : Value) : Gr W (w'.setCell a v) := Gr.of (Below.setCell h.below ha v)
theorem Gr.drew {W w' : World} (h : Gr W w') : Gr W w'.drew := h
theorem Gr.trans {W w1 w2 : World} (h : Gr W w1) (h' : Gr w1 w2) : Gr W w2 := Gr.of (Below.trans h.below (h'.below.mono h.size))
theorem Gr.setRow {W w' : World} (h : Gr W w') {g : Nat} (hg : W.heap.size ≤ g) (cs : Array Value) : Gr W (w'.setRow g cs) := by
  obtain ⟨h1, h2, h3, h4, h5⟩ := h
  refine ⟨h1, h2, h3, by simpa using h4, fun k hk => ?_⟩
  rw [setRow_other w' g k cs (by omega)]
  exact h5 k hk
/-- Behind an append: the one row that may have been written is new. -/
theorem Gr.append {W w w' : World} {row : Option Nat} (h : Gr W w) (hg : w.grownBy w' row) (hr : ∀ k, row = some k → W.heap.size ≤ k) : Gr W w' := Gr.of (Below.grown h.below hg h.size hr)

/-- The store of a whole row into a block. -/
theorem wpList_store_row {P : Program} {ops : Array Oper} {rest : List Oper} {op : Oper} {a : Act} {w : World} {Q : Exit → Act → World → Prop} (hgd : op.guard = none) (ty : TypeId) (x y : Operand) (ho : op.op = .store ty x y)
    (g : Nat) (t : TypeId) (old cells : Array Value) (hx : a.eval x = .pointer (some ⟨g, 0, none⟩)) (hy : a.eval y = .agg cells)
    (hg : w.heap[g]? = some (.cells old t (0, 0))) (hi : (P.info? ty).map (·.size) = some cells.size) (hs : old.size = cells.size) (h1 : cells.all (·.oneCell') = true)
    (h : wpList P ops Q rest (a.put op.dst undef) (w.setRow g cells)) : wpList P ops Q (op :: rest) a w := by
  refine wpList_plain hgd fun _ hK => ?_
  unfold Oper.wp execOp
  have hst := run_storeVar_row (P := P) w g t ty old cells hg hi hs h1
  simp only [ho, hx, hy, Instr.storeAt, Instr.sureAddr, Sem.run_bind, Sem.run_pure, Result.andThen_ok, hst]
  exact hK _ _ h
theorem tab_one (n : Nat) (g : Nat → Nat) : (tab n g).all (·.oneCell') = true := by
  rw [Array.all_eq_true_iff_forall_mem]
  intro v hv
  simp [tab] at hv
  obtain ⟨j, _, rfl⟩ := hv
  rfl
/-- The powers, as far as k rounds have made them. -/
def pw (k : Nat) : Nat → Nat := fun j => if j < k then M.exN j else 0
theorem pw_set (k : Nat) (h : k < 255) : (tab 255 (pw k)).setIfInBounds k (.int .u8 ((M.exN k : Nat) : Int)) = tab 255 (pw (k + 1)) := by
  rw [tab_set 255 _ k _ h]
  apply tab_congr
  intro j _
  unfold pw
  by_cases h : j = k
  · simp [h]
  · by_cases h2 : j < k
    · rw [if_neg h, if_pos h2, if_pos (by omega)]
    · rw [if_neg h, if_neg h2, if_neg (by omega)]
theorem pw_nil : tab 255 (fun _ => 0) = tab 255 (pw 0) := tab_congr 255 _ _ fun j _ => by simp [pw]
theorem pw_all : tab 255 (pw 255) = tab 255 M.exN := tab_congr 255 _ _ fun j h => by simp [pw, h]
end Go.Proofs.YtpckdjapkngpgaaDoor
