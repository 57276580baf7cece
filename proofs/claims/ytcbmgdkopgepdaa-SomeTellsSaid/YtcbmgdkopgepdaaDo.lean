/-
  Package draw as it was written: how a Draw lies in memory; all of its contracts.
-/
import Derived.Test.YtcbmgdkopgepdaaDr
namespace Go.Proofs.Ytcbmgdkopgepdaa
open Go.RowKit

/-- A Draw lies in block g. -/
def DBlk (w : World) (g s : Nat) : Prop := w.heap[g]? = some (.cells #[.int .u64 (s : Int)] 44 (0, 0))
theorem DBlk.cell {w : World} {g s : Nat} (h : DBlk w g s) : w.cell? ⟨g, 0, none⟩ = some (.int .u64 (s : Int)) := by
  rw [cell_of_row w g 0 _ _ _ h]
  rfl
theorem DBlk.frozen {w : World} {g s : Nat} (h : DBlk w g s) : w.frozen? ⟨g, 0, none⟩ = false := frozen_of_row w g 0 _ _ h
theorem DBlk.set {w : World} {g s : Nat} (h : DBlk w g s) (t : Nat) : DBlk (w.setCell ⟨g, 0, none⟩ (.int .u64 (t : Int))) g t := by
  unfold DBlk at *
  rw [heap_setCell_same _ _ _ _ _ _ h]
  rfl
theorem DBlk.lt {w : World} {g s : Nat} (h : DBlk w g s) : g < w.heap.size := (Array.getElem?_eq_some_iff.1 h).1
/-- How a Draw lies in memory, and its state. -/
def DAt (w : World) (d : Value) (F : Nat → Prop) (s : Nat) : Prop := ∃ g, d = .pointer (some ⟨g, 0, none⟩) ∧ DBlk w g s ∧ F = fun k => k = g

set_option maxHeartbeats 400000 in
theorem next_dev (g s : Nat) (w : World) (h : DBlk w g s) :
    Calls Try.prog 12 #[.pointer (some ⟨g, 0, none⟩)] w fun e w' => e = .returned (.int .u32 (topS (nextS s) : Nat)) ∧ DBlk w' g (nextS s) ∧ Kp (fun k => k = g) w w' := by
  have q1 := h.cell
  have q2 := h.frozen
  have H := Lib.hid h
  clear h
  go_enter Try.func12, Try.ntmps12
  go_wp2
  go_ret
  rw [next_wrap]
  refine ⟨?_, H.out.set _, Kp.set _ _ _ _⟩
  rw [← top_wrap s]
  rfl
set_option maxHeartbeats 400000 in
theorem below_dev (g s : Nat) (n : Int) (w : World) (h : DBlk w g s) (hn : n < 9223372036854775808) :
    Calls Try.prog 18 #[.pointer (some ⟨g, 0, none⟩), .int .i64 n] w fun e w' => e = .returned (.int .i64 (belowV s n)) ∧ DBlk w' g (belowS s n) ∧ Kp (fun k => k = g) w w' := by
  have H := Lib.hid h
  clear h
  by_cases h0 : n ≤ 0
  · have e1 : belowV s n = 0 := if_pos h0
    have e2 : belowS s n = s := if_pos h0
    rw [e1, e2]
    clear e1 e2
    go_enter Try.func18, Try.ntmps18
    go_wp2
    go_ret
    exact ⟨rfl, H.out, Kp.refl _ _⟩
  · have e1 : belowV s n = ((topS (nextS s) : Nat) : Int) % n := if_neg h0
    have e2 : belowS s n = nextS s := if_neg h0
    have E1 := Lib.hid e1
    have E2 := Lib.hid e2
    have ht := topS_lt (nextS_lt s)
    have hp : 0 < n := by omega
    clear e1 e2 h0
    go_enter Try.func18, Try.ntmps18
    go_wp2_with fail
    refine (next_dev g s _ H.out).mono ?_
    rintro e w1 ⟨rfl, hr, hk⟩
    have HR := Lib.hid hr
    have HK := Lib.hid hk
    clear hr hk
    generalize topS (nextS s) = tt at *
    have hr1 := Int.emod_nonneg (tt : Int) (by omega : n ≠ 0)
    have hr2 := Int.emod_lt_of_pos (tt : Int) hp
    generalize hrr : (tt : Int) % n = rr at *
    have HRR := Lib.hid hrr
    clear hrr
    go_wp2_with fail
    go_ret
    have hw : wrap64 rr = rr := by unfold wrap64; omega
    refine ⟨by rw [E1.out, HRR.out, hw]; rfl, by rw [E2.out]; exact HR.out, HK.out⟩
set_option maxHeartbeats 400000 in
theorem new_dev (s : Nat) (w : World) (hs : s < 4294967296) :
    Calls Try.prog 7 #[.int .u32 s] w fun e w' => ∃ g, e = .returned (.pointer (some ⟨g, 0, none⟩)) ∧ DBlk w' g s ∧ Gr w w' ∧ w.heap.size ≤ g := by
  go_enter Try.func7, Try.ntmps7
  go_wp2
  go_ret
  exact ⟨_, rfl, heap_alloc_new _ _, Gr.alloc (Gr.refl _) _ _, Nat.le_refl _⟩
theorem nextNil_dev (w : World) : Calls Try.prog 12 #[.pointer none] w fun e w' => e = .returned (.int .u32 0) ∧ Gr w w' := by
  go_enter Try.func12, Try.ntmps12
  go_wp2
  go_ret
  exact ⟨rfl, Gr.refl _⟩
set_option maxHeartbeats 400000 in
theorem belowNil_dev (n : Int) (w : World) (hn : n < 9223372036854775808) (_ : -9223372036854775808 ≤ n) : Calls Try.prog 18 #[.pointer none, .int .i64 n] w fun e w' => e = .returned (.int .i64 0) ∧ Gr w w' := by
  by_cases h0 : n ≤ 0
  · go_enter Try.func18, Try.ntmps18
    go_wp2
    go_ret
    exact ⟨rfl, Gr.refl _⟩
  · have hp : 0 < n := by omega
    clear h0
    go_enter Try.func18, Try.ntmps18
    go_wp2_with fail
    refine (nextNil_dev _).mono ?_
    rintro e w1 ⟨rfl, hg⟩
    have HG := Lib.hid hg
    clear hg
    go_wp2_with fail
    go_ret
    exact ⟨rfl, HG.out⟩
/-- Package draw as it was written keeps its contracts. -/
theorem draw_ok : DrawOk DAt where
  ptr := fun ⟨_, h, _⟩ => ⟨_, h⟩
  lt := by
    rintro w d F s ⟨g, rfl, hb, rfl⟩ k rfl
    exact hb.lt
  keep := by
    rintro w w' d F G s ⟨g, rfl, hb, rfl⟩ hk hd
    exact ⟨g, rfl, hk.block hb (hd g rfl), rfl⟩
  new := fun s w hs => (new_dev s w hs).mono (by
    rintro e w' ⟨g, rfl, hb, hg, hl⟩
    exact ⟨_, _, rfl, ⟨g, rfl, hb, rfl⟩, hg, fun k hk => hk ▸ hl⟩)
  next := by
    rintro d F s w _ ⟨g, rfl, hb, rfl⟩
    refine (next_dev g s w hb).mono ?_
    rintro e w' ⟨rfl, hb', hk⟩
    exact ⟨rfl, ⟨g, rfl, hb', rfl⟩, hk⟩
  below := by
    rintro d F s n w _ hn _ ⟨g, rfl, hb, rfl⟩
    refine (below_dev g s n w hb hn).mono ?_
    rintro e w' ⟨rfl, hb', hk⟩
    exact ⟨rfl, ⟨g, rfl, hb', rfl⟩, hk⟩
  nextNil := nextNil_dev
  belowNil := belowNil_dev
end Go.Proofs.Ytcbmgdkopgepdaa
