/-
  Contracts of package gf.
-/
import Derived.Test.YtocigdcbfbnfoaaProg
import Derived.KernelRfl
import Derived.Test.YtocigdcbfbnfoaaMath
import Derived.WalkKit
import Derived.WalkSpells
import Derived.WalkLawsBesides
import Derived.ScopeJumps
import Derived.Below
import Derived.Outline
import Derived.Lib.Hide
import Derived.Deep.WholeRow
import Derived.Deep.MidRow
namespace Go.Proofs.Ytocigdcbfbnfoaa
open Go.RowKit

def Byt (a : Int) : Prop := 0 ≤ a ∧ a ≤ 255

theorem ret_int {k : IntKind} {a b : Int} (h : a = b) : Ending.returned (.int k a) = .returned (.int k b) := by rw [h]
set_option maxHeartbeats 400000 in
theorem triple_any (a : Int) (h0 : 0 ≤ a) (h1 : a ≤ 255) (w : World) :
    Calls Try.prog 33 #[.int .u8 a] w fun e w' => e = .returned (.int .u8 (M.tripleN a.toNat)) ∧ w = w' := by
  go_enter Try.func33, Try.ntmps33
  go_wp2
  · go_ret
    refine ⟨ret_int ?_, rfl⟩
    rw [u8_xor (a * 2 % 256) 27 (by omega) (by omega) (by omega) (by omega), u8_xor _ a (by omega) (by have := M.xor_lt (x := (a * 2 % 256).toNat) (y := (27 : Int).toNat) (by omega) (by decide); omega) h0 (by omega)]
    unfold M.tripleN
    rw [if_pos (by omega)]
    rw [show (a * 2 % 256).toNat = a.toNat * 2 % 256 from by omega]
    rfl
  · go_ret
    refine ⟨ret_int ?_, rfl⟩
    rw [u8_xor (a * 2 % 256) a (by omega) (by omega) h0 (by omega)]
    unfold M.tripleN
    rw [if_neg (by omega), Nat.xor_zero]
    rw [show (a * 2 % 256).toNat = a.toNat * 2 % 256 from by omega]

/-- A row of n bytes: at j what g says of j. -/
def tab (n : Nat) (g : Nat → Nat) : Array Value := ((List.range n).map fun j => Value.int .u8 ((g j : Nat) : Int)).toArray
theorem tab_size (n : Nat) (g : Nat → Nat) : (tab n g).size = n := by simp [tab]
theorem tab_get (n : Nat) (g : Nat → Nat) (j : Nat) (h : j < n) : (tab n g)[j]? = some (.int .u8 ((g j : Nat) : Int)) := by
  simp [tab, h]
theorem tab_congr (n : Nat) (g g' : Nat → Nat) (h : ∀ j, j < n → g j = g' j) : tab n g = tab n g' := by
  unfold tab
  congr 1
  exact List.map_congr_left fun j hj => by rw [h j (List.mem_range.1 hj)]
theorem tab_set (n : Nat) (g : Nat → Nat) (k v : Nat) (h : k < n) : (tab n g).setIfInBounds k (.int .u8 (v : Int)) = tab n (fun j => if j = k then v else g j) := by
  apply Array.ext_getElem?
  intro j
  rw [Array.getElem?_setIfInBounds, tab_size]
  by_cases hj : j < n
  · rw [tab_get n g j hj, tab_get n _ j hj]
    by_cases e : k = j
    · subst e
      simp [h]
    · rw [if_neg e, if_neg (fun x => e x.symm)]
  · have h1 : (tab n g)[j]? = none := by rw [Array.getElem?_eq_none]; rw [tab_size]; omega
    have h2 : (tab n (fun j => if j = k then v else g j))[j]? = none := by rw [Array.getElem?_eq_none]; rw [tab_size]; omega
    rw [if_neg (by omega), h1, h2]
theorem zero39 (w : World) : Sem.run Try.prog (zeroValue 47) w = Result.ok (Value.agg (tab 255 fun _ => 0)) w := by kernel_rfl
theorem zero41 (w : World) : Sem.run Try.prog (zeroValue 49) w = Result.ok (Value.agg (tab 256 fun _ => 0)) w := by kernel_rfl


/-- Since w only new memory was made and written: what was there stands. -/
def Gr (w w' : World) : Prop := w'.os = w.os ∧ w'.tape = w.tape ∧ w'.output = w.output ∧ w.heap.size ≤ w'.heap.size ∧ ∀ k, k < w.heap.size → w'.heap[k]? = w.heap[k]?
theorem Gr.below {w w' : World} (h : Gr w w') : Below w.heap.size w w' := ⟨h.1, h.2.1, h.2.2.1, h.2.2.2.1, h.2.2.2.2⟩
theorem Gr.of {w w' : World} (h : Below w.heap.size w w') : Gr w w' := ⟨h.os, h.tape, h.output, h.size, h.block⟩
theorem Gr.size {w w' : World} (h : Gr w w') : w.heap.size ≤ w'.heap.size := h.2.2.2.1
theorem Gr.refl (w : World) : Gr w w := Gr.of (Below.refl _ _)
theorem Gr.alloc {W w' : World} (h : Gr W w') (c : Array Value) (t : TypeId) : Gr W (w'.alloc (.cells c t)) := Gr.of (Below.alloc h.below h.size _)
theorem Gr.setCell {W w' : World} (h : Gr W w') {a : Addr} (ha : W.heap.size ≤ a.block) (v : Value) : Gr W (w'.setCell a v) := Gr.of (Below.setCell h.below ha v)
theorem Gr.drew {W w' : World} (h : Gr W w') : Gr W w'.drew := h
theorem Gr.trans {W w1 w2 : World} (h : Gr W w1) (h' : Gr w1 w2) : Gr W w2 := Gr.of (Below.trans h.below (h'.below.mono h.size))
theorem Gr.setRow {W w' : World} (h : Gr W w') {g : Nat} (hg : W.heap.size ≤ g) (cs : Array Value) : Gr W (w'.setRow g cs) := by
  obtain ⟨h1, h2, h3, h4, h5⟩ := h
  refine ⟨h1, h2, h3, by simpa using h4, fun k hk => ?_⟩
  rw [setRow_other w' g k cs (by omega)]
  exact h5 k hk
/-- Behind an append: the one row that may have been written is new. -/
theorem Gr.append {W w w' : World} {row : Option Nat} (h : Gr W w) (hg : w.grownBy w' row) (hr : ∀ k, row = some k → W.heap.size ≤ k) : Gr W w' := Gr.of (Below.grown h.below hg h.size hr)

/-- The store of a whole row into a block. -/
theorem wpList_store_row {P : Program} {ops : Array Oper} {rest : List Oper} {op : Oper} {a : Act} {w : World} {Q : Exit → Act → World → Prop} (hgd : op.guard = none) (ty : TypeId) (x y : Operand) (ho : op.op = .store ty x y)
    (g : Nat) (t : TypeId) (old cells : Array Value) (hx : a.eval x = .pointer (some ⟨g, 0, none⟩)) (hy : a.eval y = .agg cells)
    (hg : w.heap[g]? = some (.cells old t (0, 0))) (hi : (P.info? ty).map (·.size) = some cells.size) (hs : old.size = cells.size) (h1 : cells.all (·.oneCell') = true)
    (h : wpList P ops Q rest (a.put op.dst undef) (w.setRow g cells)) : wpList P ops Q (op :: rest) a w := by
  refine wpList_plain hgd fun _ hK => ?_
  unfold Oper.wp execOp
  have hst := run_storeVar_row (P := P) w g t ty old cells hg hi hs h1
  simp only [ho, hx, hy, Instr.storeAt, Instr.sureAddr, Sem.run_bind, Sem.run_pure, Result.andThen_ok, hst]
  exact hK _ _ h
theorem tab_one (n : Nat) (g : Nat → Nat) : (tab n g).all (·.oneCell') = true := by
  rw [Array.all_eq_true_iff_forall_mem]
  intro v hv
  simp [tab] at hv
  obtain ⟨j, _, rfl⟩ := hv
  rfl
theorem info39 : (Try.prog.info? 47).map (·.size) = some 255 := by kernel_rfl
theorem info41 : (Try.prog.info? 49).map (·.size) = some 256 := by kernel_rfl
theorem under39 : Try.prog.underlying 47 = some (.array 255 5) := by kernel_rfl
theorem under41 : Try.prog.underlying 49 = some (.array 256 5) := by kernel_rfl

/-- The powers, as far as k rounds have made them. -/
def pw (k : Nat) : Nat → Nat := fun j => if j < k then M.exN j else 0
def pwWorld (w : World) (k : Nat) : World := (w.alloc (.cells (tab 255 fun _ => 0) 47)).alloc (.cells (tab 255 (pw k)) 47)
theorem pw_set (k : Nat) (h : k < 255) : (tab 255 (pw k)).setIfInBounds k (.int .u8 ((M.exN k : Nat) : Int)) = tab 255 (pw (k + 1)) := by
  rw [tab_set 255 _ k _ h]
  apply tab_congr
  intro j _
  unfold pw
  by_cases h : j = k
  · simp [h]
  · by_cases h2 : j < k
    · rw [if_neg h, if_pos h2, if_pos (by omega)]
    · rw [if_neg h, if_neg h2, if_neg (by omega)]
theorem pw_nil : tab 255 (fun _ => 0) = tab 255 (pw 0) := tab_congr 255 _ _ fun j _ => by simp [pw]
theorem pw_all : tab 255 (pw 255) = tab 255 M.exN := tab_congr 255 _ _ fun j h => by simp [pw, h]
set_option maxRecDepth 100000 in
set_option maxHeartbeats 400000 in
theorem powers_any (w : World) :
    Calls Try.prog 25 #[] w fun e w' => e = .returned (.agg (tab 255 M.exN)) ∧ Gr w w' := by
  have z := zero39
  go_enter Try.func25, Try.ntmps25
  go_wp2
  refine wp_scope_jumps 0 (fun a' w' => ∃ (k : Nat) (u4 u5 u6 u7 u8 u9 u10 u11 u12 : Value), 1 ≤ k ∧ k < 255 ∧ w' = pwWorld w k ∧ a' = { tmps := #[.pointer (some ⟨w.heap.size, 0, none⟩), .pointer (some ⟨w.heap.size + 1, 0, none⟩), .int .u8 (M.exN k), .int .i64 k, u4, u5, u6, u7, u8, u9, u10, u11, u12, undef], defers := [] }) (fun a' _ => 255 - (intOf (a'.tmps.getD 3 undef)).toNat) rfl ?_ ?_
  · go_wp2
    go_step3
    generalize hc : tab 255 (fun _ => 0) = c
    have hg0 : c[0]? = some (.int .u8 0) := by rw [← hc]; exact tab_get 255 _ 0 (by omega)
    have HC := Lib.hid hc
    clear hc z
    go_wp2_with (go_at_call 33; refine (triple_any _ (by omega) (by omega) _).mono ?_; rintro e w' ⟨rfl, rfl⟩)
    go_step3
    have e1 : M.tripleN 1 = M.exN 1 := by decide +kernel
    rw [e1]
    refine ⟨rfl, 1, _, _, _, _, _, _, _, _, _, by omega, by omega, ?_, rfl⟩
    rw [← HC.out]
    unfold pwWorld
    rw [← pw_set 0 (by omega), ← pw_nil, M.exN_zero]
    rfl
  · rintro a' w' ⟨k, u4, u5, u6, u7, u8, u9, u10, u11, u12, hk1, hk2, rfl, rfl⟩
    have hb := M.exN_lt k
    have hcs : (tab 255 (pw k)).size = 255 := tab_size _ _
    have hst := pw_set k hk2
    have hgk : (tab 255 (pw k))[k]? = some (.int .u8 0) := by rw [tab_get 255 (pw k) k hk2]; simp [pw]
    unfold pwWorld
    generalize hc0 : tab 255 (fun _ => 0) = c0
    generalize tab 255 (pw k) = c at *
    have HC := Lib.hid hc0
    have HS := Lib.hid hst
    have HZ := Lib.hid hcs
    clear hc0 z hst hcs
    generalize hx : M.exN k = x at *
    have HX := Lib.hid hx
    clear hx
    by_cases hlt : k < 254
    · go_wp2_with (go_at_call 33; refine (triple_any _ (by omega) (by omega) _).mono ?_; rintro e w' ⟨rfl, rfl⟩)
      go_step3
      rw [show M.tripleN x = M.exN (k + 1) from by rw [M.exN_succ k hlt, HX.out], show (k : Int) + 1 = ((k + 1 : Nat) : Int) from by omega]
      refine ⟨rfl, ⟨k + 1, _, _, _, _, _, _, _, _, _, by omega, by omega, ?_, rfl⟩, ?_⟩
      · rw [HS.out, ← HC.out]
      · simp [intOf]
        omega
    · obtain rfl : k = 254 := by omega
      generalize hd : c.setIfInBounds 254 (.int .u8 (x : Int)) = d at *
      have HD := Lib.hid hd
      clear hd
      go_wp2_with fail
      rw [HD.out]
      refine (triple_any _ (by omega) (by omega) _).mono ?_
      rintro e w' ⟨rfl, rfl⟩
      have g1 := heap_alloc2_new w (.cells c0 47) (.cells d 47)
      have g2 := heap_alloc2_old w (.cells c0 47) (.cells d 47)
      have hd : d = tab 255 M.exN := HS.out.trans pw_all
      have q0 : c0.size = d.size := by rw [hd, ← HC.out, tab_size, tab_size]
      have q1 : (Try.prog.info? 47).map (·.size) = some d.size := by rw [hd, tab_size]; exact info39
      have q2 : d.all (·.oneCell') = true := by rw [hd]; exact tab_one _ _
      have Q0 := Lib.hid q0
      have Q1 := Lib.hid q1
      have Q2 := Lib.hid q2
      have D := Lib.hid hd
      clear hd q0 q1 q2
      go_wp2_with (first | (refine wpList_load_row rfl 47 _ rfl (w.heap.size + 1) rfl 47 d (0, 0) _ g1 under39 rfl Q1.out ?_) | (refine wpList_store_row rfl 47 _ _ rfl w.heap.size 47 c0 d rfl rfl g2 Q1.out Q0.out Q2.out ?_))
      simp only [Exit.jump]
      refine bodyPost_ret_by (results_cell_row rfl _ _ w.heap.size 47 d (0, 0) _ rfl (setRow_heap _ _ c0 _ _ _ g2) under39 rfl Q1.out) rfl ⟨by rw [D.out], ?_⟩
      exact Gr.setRow (((Gr.refl _).alloc _ _).alloc _ _) (Nat.le_refl _) _

end Go.Proofs.Ytocigdcbfbnfoaa
