/-
  What package draw is to do, as contracts; the document's own Draw.
-/
import Derived.Test.YtcbmgdkopgepdaaKp
import Derived.Lib.Hide
namespace Go.Proofs.Ytcbmgdkopgepdaa
open Go.RowKit

/-- The state behind one draw; what is told of it. -/
def nextS (s : Nat) : Nat := (s * 6364136223846793005 + 1442695040888963407) % 18446744073709551616
def topS (s : Nat) : Nat := s / 4294967296
theorem nextS_lt (s : Nat) : nextS s < 18446744073709551616 := Nat.mod_lt _ (by omega)
theorem topS_lt {s : Nat} (h : s < 18446744073709551616) : topS s < 4294967296 := by unfold topS; omega

/-- The document's own Draw, in block g. -/
def RAt (w : World) (g s : Nat) : Prop := w.heap[g]? = some (.cells #[.int .u64 (s : Int)] 29 (0, 0))
theorem RAt.cell {w : World} {g s : Nat} (h : RAt w g s) : w.cell? ⟨g, 0, none⟩ = some (.int .u64 (s : Int)) := by
  rw [cell_of_row w g 0 _ _ _ h]
  rfl
theorem RAt.frozen {w : World} {g s : Nat} (h : RAt w g s) : w.frozen? ⟨g, 0, none⟩ = false := frozen_of_row w g 0 _ _ h
theorem RAt.set {w : World} {g s : Nat} (h : RAt w g s) (t : Nat) : RAt (w.setCell ⟨g, 0, none⟩ (.int .u64 (t : Int))) g t := by
  unfold RAt at *
  rw [heap_setCell_same _ _ _ _ _ _ h]
  rfl
theorem RAt.kept {F : Nat → Prop} {w w' : World} {g s : Nat} (h : RAt w g s) (hk : Kp F w w') (hn : ¬ F g) : RAt w' g s := hk.block h hn
theorem RAt.lt {w : World} {g s : Nat} (h : RAt w g s) : g < w.heap.size := (Array.getElem?_eq_some_iff.1 h).1

theorem next_wrap (s : Nat) : IntKind.u64.wrap (IntKind.u64.wrap ((s : Int) * 6364136223846793005) + 1442695040888963407) = ((nextS s : Nat) : Int) := by
  have hw : ∀ x : Int, IntKind.u64.wrap x = x % 18446744073709551616 := fun x => by simp [IntKind.wrap, IntKind.bits, IntKind.signed]
  rw [hw, hw]
  unfold nextS
  omega
theorem top_wrap (s : Nat) : ((nextS s : Nat) : Int) / 4294967296 % 4294967296 = ((topS (nextS s) : Nat) : Int) := by
  have := nextS_lt s
  unfold topS
  omega
set_option maxHeartbeats 400000 in
theorem refNext_any (g s : Nat) (w : World) (h : RAt w g s) :
    Calls Try.prog 13 #[.pointer (some ⟨g, 0, none⟩)] w fun e w' => e = .returned (.int .u32 (topS (nextS s) : Nat)) ∧ RAt w' g (nextS s) ∧ Kp (fun k => k = g) w w' := by
  have q1 := h.cell
  have q2 := h.frozen
  have H := Lib.hid h
  clear h
  go_enter Try.func13, Try.ntmps13
  go_wp2
  go_ret
  rw [next_wrap]
  refine ⟨?_, H.out.set _, Kp.set _ _ _ _⟩
  rw [← top_wrap s]
  rfl

/-- Below a bound, of a state. -/
def belowV (s : Nat) (n : Int) : Int := if n ≤ 0 then 0 else ((topS (nextS s) : Nat) : Int) % n
def belowS (s : Nat) (n : Int) : Nat := if n ≤ 0 then s else nextS s
theorem belowS_lt {s : Nat} (h : s < 18446744073709551616) (n : Int) : belowS s n < 18446744073709551616 := by
  unfold belowS
  split
  · exact h
  · exact nextS_lt s
theorem belowV_rng (s : Nat) (n : Int) : 0 ≤ belowV s n ∧ belowV s n < 4294967296 := by
  unfold belowV
  split
  · omega
  · have h1 := topS_lt (nextS_lt s)
    have h2 := Int.emod_nonneg ((topS (nextS s) : Nat) : Int) (by omega : n ≠ 0)
    have h3 : ((topS (nextS s) : Nat) : Int) % n ≤ ((topS (nextS s) : Nat) : Int) := by
      rw [Int.emod_def]
      have h4 := Int.ediv_nonneg (by omega : (0 : Int) ≤ ((topS (nextS s) : Nat) : Int)) (by omega : 0 ≤ n)
      have h5 := Int.mul_nonneg (by omega : 0 ≤ n) h4
      omega
    omega
set_option maxHeartbeats 400000 in
theorem refBelow_any (g s : Nat) (n : Int) (w : World) (h : RAt w g s) (hn : n < 9223372036854775808) :
    Calls Try.prog 20 #[.pointer (some ⟨g, 0, none⟩), .int .i64 n] w fun e w' => e = .returned (.int .i64 (belowV s n)) ∧ RAt w' g (belowS s n) ∧ Kp (fun k => k = g) w w' := by
  have H := Lib.hid h
  clear h
  by_cases h0 : n ≤ 0
  · have e1 : belowV s n = 0 := if_pos h0
    have e2 : belowS s n = s := if_pos h0
    rw [e1, e2]
    clear e1 e2
    go_enter Try.func20, Try.ntmps20
    go_wp2
    go_ret
    exact ⟨rfl, H.out, Kp.refl _ _⟩
  · have e1 : belowV s n = ((topS (nextS s) : Nat) : Int) % n := if_neg h0
    have e2 : belowS s n = nextS s := if_neg h0
    have E1 := Lib.hid e1
    have E2 := Lib.hid e2
    have ht := topS_lt (nextS_lt s)
    have hp : 0 < n := by omega
    clear e1 e2 h0
    go_enter Try.func20, Try.ntmps20
    go_wp2_with fail
    refine (refNext_any g s _ H.out).mono ?_
    rintro e w1 ⟨rfl, hr, hk⟩
    have HR := Lib.hid hr
    have HK := Lib.hid hk
    clear hr hk
    generalize topS (nextS s) = tt at *
    have hr1 := Int.emod_nonneg (tt : Int) (by omega : n ≠ 0)
    have hr2 := Int.emod_lt_of_pos (tt : Int) hp
    generalize hrr : (tt : Int) % n = rr at *
    have HRR := Lib.hid hrr
    clear hrr
    go_wp2_with fail
    go_ret
    have hw : wrap64 rr = rr := by unfold wrap64; omega
    refine ⟨by rw [E1.out, HRR.out, hw]; rfl, by rw [E2.out]; exact HR.out, HK.out⟩

/-- The contracts of package draw; At: how a Draw lies in memory (which blocks are its own), and its state. -/
structure DrawOk (At : World → Value → (Nat → Prop) → Nat → Prop) : Prop where
  ptr : ∀ {w : World} {d : Value} {F : Nat → Prop} {s : Nat}, At w d F s → ∃ a, d = .pointer (some a)
  lt : ∀ {w : World} {d : Value} {F : Nat → Prop} {s : Nat}, At w d F s → ∀ k, F k → k < w.heap.size
  keep : ∀ {w w' : World} {d : Value} {F G : Nat → Prop} {s : Nat}, At w d F s → Kp G w w' → (∀ k, F k → ¬ G k) → At w' d F s
  new : ∀ (s : Nat) (w : World), s < 4294967296 → Calls Try.prog 7 #[.int .u32 s] w fun e w' => ∃ d F, e = .returned d ∧ At w' d F s ∧ Gr w w' ∧ ∀ k, F k → w.heap.size ≤ k
  next : ∀ (d : Value) (F : Nat → Prop) (s : Nat) (w : World), s < 18446744073709551616 → At w d F s → Calls Try.prog 12 #[d] w fun e w' => e = .returned (.int .u32 (topS (nextS s) : Nat)) ∧ At w' d F (nextS s) ∧ Kp F w w'
  below : ∀ (d : Value) (F : Nat → Prop) (s : Nat) (n : Int) (w : World), s < 18446744073709551616 → n < 9223372036854775808 → -9223372036854775808 ≤ n → At w d F s → Calls Try.prog 18 #[d, .int .i64 n] w fun e w' => e = .returned (.int .i64 (belowV s n)) ∧ At w' d F (belowS s n) ∧ Kp F w w'
  nextNil : ∀ (w : World), Calls Try.prog 12 #[.pointer none] w fun e w' => e = .returned (.int .u32 0) ∧ Gr w w'
  belowNil : ∀ (n : Int) (w : World), n < 9223372036854775808 → -9223372036854775808 ≤ n → Calls Try.prog 18 #[.pointer none, .int .i64 n] w fun e w' => e = .returned (.int .i64 0) ∧ Gr w w'
/-- Since w0: a Draw of one's own. -/
def Dr (At : World → Value → (Nat → Prop) → Nat → Prop) (w0 w : World) (d : Value) (F : Nat → Prop) (s : Nat) : Prop := At w d F s ∧ (∀ k, F k → w0.heap.size ≤ k) ∧ Gr w0 w ∧ s < 18446744073709551616
section
variable {At : World → Value → (Nat → Prop) → Nat → Prop}
theorem Dr.step {w0 w w' : World} {d : Value} {F : Nat → Prop} {s s' : Nat} (h : Dr At w0 w d F s) (ha : At w' d F s') (hk : Kp F w w') (hs : s' < 18446744073709551616) : Dr At w0 w' d F s' :=
  ⟨ha, h.2.1, hk.gr h.2.2.1 h.2.1, hs⟩
theorem Dr.other (O : DrawOk At) {w0 w w' : World} {d : Value} {F G : Nat → Prop} {s : Nat} (h : Dr At w0 w d F s) (hk : Kp G w w') (hG : ∀ k, G k → w0.heap.size ≤ k) (hd : ∀ k, F k → ¬ G k) : Dr At w0 w' d F s :=
  ⟨O.keep h.1 hk hd, h.2.1, hk.gr h.2.2.1 hG, h.2.2.2⟩
theorem Dr.grown (O : DrawOk At) {w0 w w' : World} {d : Value} {F : Nat → Prop} {s : Nat} (h : Dr At w0 w d F s) (hg : Gr w w') : Dr At w0 w' d F s :=
  ⟨O.keep h.1 (hg.kp fun _ => False) (fun _ _ e => e), h.2.1, Gr.trans h.2.2.1 hg, h.2.2.2⟩
end
theorem first_wake : topS (nextS 0) = 335903614 := by decide
end Go.Proofs.Ytcbmgdkopgepdaa
