/-
  Lists of nil rows; bytes.Clone.
-/
import Derived.Test.YtmeojdnalhaooaaAz
import Derived.Lib.SliceRun
namespace Go.Proofs.Ytmeojdnalhaooaa
open Go.RowKit

/-- A block's cells that are nil rows. -/
def nils (n : Nat) : Array Value := (List.replicate n (Value.slice none 0 0)).toArray
theorem nils_made (n : Nat) : madeCells #[.slice none 0 0] n = nils n := by
  apply Array.ext'
  rw [toList_madeCells_one]
  simp [nils]
theorem make24 (l c : Nat) (h : l ≤ c) (hc : c ≤ 1000000) (w : World) :
    (Instr.makeSlice 22 (.int .i64 (l : Int)) (.int .i64 (c : Int))).run Try.prog w = .ok (.slice (some ⟨w.heap.size, 0, none⟩) l c) (w.alloc (.cells (nils c) 23)) := by
  obtain ⟨i, hi, hzz⟩ := Option.map_eq_some_iff.1 info22
  simp only [Prod.mk.injEq] at hzz
  obtain ⟨hz, hs, hb⟩ := hzz
  have hr := run_make (P := Try.prog) w 22 23 i _ Try.underlying22 hi hz .i64 .i64 l c (by omega) (by omega) (by rw [hb]; omega) (by omega)
  rw [Int.toNat_natCast, Int.toNat_natCast, hs, Nat.mul_one] at hr
  rw [hr, ← nils_made]
  rfl
set_option maxHeartbeats 400000 in
theorem clone_any (v : Value) (l : List Int) (w : World) (h : Bs w v l) (hl : l.length ≤ 1000000) :
    Calls Try.prog 42 #[v] w fun e w' => ∃ v', e = .returned v' ∧ w'.ownsRow w.heap.size 5 1 v' l.length (l.map (Value.int .u8)) ∧ Gr w w' := by
  have HS := Lib.hid h
  obtain ⟨_, oa, c, rfl, h1, h2, h3, _⟩ := h
  obtain ⟨n, hn⟩ : ∃ n, l.length = n := ⟨_, rfl⟩
  rw [hn] at HS h1 hl ⊢
  have HN := Lib.hid hn
  clear hn
  have hnil : ∀ (W : World) (x : Option Addr) (p q : Nat), (binOp .eql 23 (.slice x p q) (.slice none 0 0)).run Try.prog W = .ok (.bool x.isNone) W := fun W x p q => Lib.run_eql_slice_nil W _ _ x p q 0 0 Try.underlying23
  cases oa with
  | none =>
    obtain rfl : c = 0 := h3 rfl
    obtain rfl : n = 0 := by omega
    obtain rfl : l = [] := List.eq_nil_of_length_eq_zero HN.out
    clear HS h3
    go_enter Try.func42, Try.ntmps42
    go_wp2
    go_ret
    exact ⟨_, rfl, World.ownsRow_nil _ _ _ _, Gr.refl _⟩
  | some a =>
    clear h3
    have hown : Hid ((w.alloc (.cells #[] 5)).ownsRow w.heap.size 5 1 (.slice (some ⟨w.heap.size, 0, none⟩) 0 0) 0 (([] : List Int).map (Value.int .u8))) := Lib.hid ⟨rfl, .inr ⟨w.heap.size, 0, #[], rfl, Nat.le_refl _, heap_alloc_new _ _, Nat.le_refl _, by unfold maxLen; omega, rfl, rfl⟩⟩
    have hg : Hid (Gr w (w.alloc (.cells #[] 5))) := Lib.hid (Gr.alloc (Gr.refl _) _ _)
    go_enter Try.func42, Try.ntmps42
    go_wp2_with (first
      | (at_builtin; refine wpList_append_bytes rfl _ _ rfl w.heap.size _ 0 [] rfl (by exact hown.out) (some a) n c l rfl (Bs.grown HS.out hg.out) (by omega) (by exact hg.out.size) ?_; intro v2 w2 hown2 hgrow2; rw [Nat.zero_add, List.nil_append] at hown2; obtain ⟨o2, c2, rfl⟩ := ownsRow_form hown2; have H2 := Lib.hid hown2; have G2 := Lib.hid (Gr.append hg.out hgrow2 (ownsRow_base hown.out)); clear hown2 hgrow2))
    go_ret
    exact ⟨_, rfl, H2.out, G2.out⟩
theorem clone_new (v : Value) (l : List Int) (w : World) (h : Bs w v l) (hl : l.length ≤ 1000000) :
    Calls Try.prog 42 #[v] w fun e w' => ∃ v', e = .returned v' ∧ New w w' v' l := by
  have hb := h.1
  refine (clone_any v l w h hl).mono ?_
  rintro e w' ⟨v', rfl, h1, h2⟩
  exact ⟨v', rfl, New.of_row h2 hb h1⟩
set_option maxHeartbeats 400000 in
theorem clone_nil (w : World) :
    Calls Try.prog 42 #[.slice none 0 0] w fun e w' => e = .returned (.slice none 0 0) ∧ w = w' := by
  have hnil : ∀ (W : World) (x : Option Addr) (p q : Nat), (binOp .eql 23 (.slice x p q) (.slice none 0 0)).run Try.prog W = .ok (.bool x.isNone) W := fun W x p q => Lib.run_eql_slice_nil W _ _ x p q 0 0 Try.underlying23
  go_enter Try.func42, Try.ntmps42
  go_wp2
  go_ret
  exact ⟨rfl, rfl⟩
end Go.Proofs.Ytmeojdnalhaooaa
