/-
  What stays when a call changes memory of its own object: footprints.
-/
import Derived.Test.YtpckdjapkngpgaaDoorFld
namespace Go.Proofs.YtpckdjapkngpgaaDoor
open Go.RowKit

/-- From w to w' only blocks in F, and new ones, were written. -/
def Kp (F : Nat → Prop) (w w' : World) : Prop := w'.os = w.os ∧ w'.tape = w.tape ∧ w'.output = w.output ∧ w.heap.size ≤ w'.heap.size ∧ ∀ k, k < w.heap.size → ¬ F k → w'.heap[k]? = w.heap[k]?
theorem Kp.size {F : Nat → Prop} {w w' : World} (h : Kp F w w') : w.heap.size ≤ w'.heap.size := h.2.2.2.1
theorem Kp.refl (F : Nat → Prop) (w : World) : Kp F w w := ⟨rfl, rfl, rfl, Nat.le_refl _, fun _ _ _ => rfl⟩
theorem Gr.kp {w w' : World} (h : Gr w w') (F : Nat → Prop) : Kp F w w' := ⟨h.1, h.2.1, h.2.2.1, h.2.2.2.1, fun k hk _ => h.2.2.2.2 k hk⟩
theorem Kp.trans {F F' : Nat → Prop} {w w1 w2 : World} (h : Kp F w w1) (h' : Kp F' w1 w2) (hF : ∀ k, F' k → F k ∨ w.heap.size ≤ k) : Kp F w w2 :=
  ⟨by rw [h'.1, h.1], by rw [h'.2.1, h.2.1], by rw [h'.2.2.1, h.2.2.1], Nat.le_trans h.size h'.size, fun k hk hn => by
    rw [h'.2.2.2.2 k (Nat.lt_of_lt_of_le hk h.size) (fun e => by
      rcases hF k e with c | c
      · exact hn c
      · omega), h.2.2.2.2 k hk hn]⟩
theorem Kp.mono {F F' : Nat → Prop} {w w1 : World} (h : Kp F w w1) (hF : ∀ k, F k → F' k) : Kp F' w w1 := ⟨h.1, h.2.1, h.2.2.1, h.2.2.2.1, fun k hk hn => h.2.2.2.2 k hk fun e => hn (hF k e)⟩
/-- What is written is new since w0: then, since w0, what was there stands. -/
theorem Kp.gr {F : Nat → Prop} {w0 w w' : World} (h : Kp F w w') (h0 : Gr w0 w) (hF : ∀ k, F k → w0.heap.size ≤ k) : Gr w0 w' :=
  ⟨by rw [h.1, h0.1], by rw [h.2.1, h0.2.1], by rw [h.2.2.1, h0.2.2.1], Nat.le_trans h0.size h.size, fun k hk => by
    rw [h.2.2.2.2 k (Nat.lt_of_lt_of_le hk h0.size) (fun e => by have := hF k e; omega), h0.2.2.2.2 k hk]⟩
theorem Kp.block {F : Nat → Prop} {w w' : World} (h : Kp F w w') {g : Nat} {o : Obj} (hg : w.heap[g]? = some o) (hn : ¬ F g) : w'.heap[g]? = some o := by
  rw [h.2.2.2.2 g (Array.getElem?_eq_some_iff.1 hg).1 hn]
  exact hg
theorem Kp.cell {F : Nat → Prop} {w w' : World} (h : Kp F w w') {a : Addr} {x : Value} (hx : w.cell? a = some x) (hn : ¬ F a.block) : w'.cell? a = some x := by
  rw [World.cell?_of_block (h.2.2.2.2 a.block (World.block_lt_of_cell? w a hx) hn)]
  exact hx
theorem Kp.frozen {F : Nat → Prop} {w w' : World} (h : Kp F w w') {a : Addr} {x : Value} (hx : w.cell? a = some x) (hn : ¬ F a.block) : w'.frozen? a = w.frozen? a :=
  World.frozen?_of_block (h.2.2.2.2 a.block (World.block_lt_of_cell? w a hx) hn)
/-- A store into one block. -/
theorem Kp.set (w : World) (g i : Nat) (v : Value) : Kp (fun k => k = g) w (w.setCell ⟨g, i, none⟩ v) := by
  have h : Below 0 w (w.setCell ⟨g, i, none⟩ v) := Below.setCell (Below.refl _ _) (Nat.zero_le _) v
  exact ⟨h.os, h.tape, h.output, h.size, fun k _ hn => heap_setCell_other _ _ _ _ hn⟩
theorem Kp.drew {F : Nat → Prop} {w w' : World} (h : Kp F w w') : Kp F w w'.drew := h
theorem Kp.append {F : Nat → Prop} {w W W' : World} {row : Option Nat} (h : Kp F w W) (hg : W.grownBy W' row) (hr : ∀ k, row = some k → w.heap.size ≤ k) : Kp F w W' := by
  have h2 : Kp (fun k => row = some k) W W' := ⟨hg.os, hg.tape, hg.output, hg.size, fun k hk hn => hg.block k hk fun e => hn e.symm⟩
  exact h.trans h2 fun k e => .inr (hr k e)
theorem Kp.alloc {F : Nat → Prop} {w W : World} (h : Kp F w W) (c : Array Value) (t : TypeId) : Kp F w (W.alloc (.cells c t)) := h.trans ((Gr.alloc (Gr.refl W) c t).kp fun _ => False) fun _ e => e.elim
end Go.Proofs.YtpckdjapkngpgaaDoor
