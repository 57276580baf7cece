/-
  Package gf: New and the functions of a Field.
-/
import Derived.Test.YtpckdjapkngpgaaDoorNew
namespace Go.Proofs.YtpckdjapkngpgaaDoor
open Go.RowKit

/-- A Field whose tables are made lies where block b begins (other things may lie behind it). -/
def FieldAt (w : World) (b : Nat) : Prop := w.rangeAt b 0 (tab 255 M.exN ++ tab 256 M.lgN).toList
theorem rangeAt_all {w : World} {b : Nat} {C : Array Value} {t : TypeId} {fr : Nat × Nat} (hb : w.heap[b]? = some (.cells C t fr)) : w.rangeAt b 0 C.toList := by
  have := World.rangeAt_of_block hb 0 C.size
  simpa using this
theorem rangeAt_grown {w w' : World} (hg : Gr w w') {b : Nat} {cs : List Value} (h : w.rangeAt b 0 cs) : w'.rangeAt b 0 cs := fun j v hv => by
  have h1 := h j v hv
  have hb := World.block_lt_of_cell? w _ h1
  cases ho : w.heap[b]? with
  | none => simp [World.cell?, ho] at h1
  | some o =>
    cases o with
    | cells c t fr =>
      rw [cell_of_row w' b _ c t fr (keptRow hg ho)]
      rw [cell_of_row w b _ c t fr ho] at h1
      exact h1
    | _ => simp [World.cell?, ho] at h1
theorem wp_built {P : Program} {o : Oper} {a : Act} {w : World} {K : Act → World → Prop} {Q : Exit → Act → World → Prop} (t : TypeId) (parts : Array (Nat × Operand)) (ho : o.op = .build t parts) (cells : Array Value)
    (hf : P.built t (parts.map fun (i, x) => (i, a.eval x)).toList = some cells) (h : K (a.put o.dst (.agg cells)) w) : o.wp P a w K Q :=
  wp_build t parts ho (by rw [hf]; rfl) (by rw [hf]; exact h)
end Go.Proofs.YtpckdjapkngpgaaDoor
