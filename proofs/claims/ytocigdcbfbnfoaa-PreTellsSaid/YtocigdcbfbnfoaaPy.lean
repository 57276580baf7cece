/-
  What package pre is to do, as contracts; the document's example.
-/
import Derived.Test.YtocigdcbfbnfoaaPx
import Derived.Test.YtocigdcbfbnfoaaSs
import Derived.Test.YtocigdcbfbnfoaaRk
import Derived.Test.YtocigdcbfbnfoaaSl
namespace Go.Proofs.Ytocigdcbfbnfoaa
open Go.RowKit

set_option maxRecDepth 100000 in
set_option maxHeartbeats 800000 in
theorem refAhead_ne (K H S : Int) (w : World) (hm : ¬ MayP K H S) :
    Calls Try.prog 14 #[par K H S] w fun e w' => e = .returned (.slice none 0 0) ∧ Gr w w' := by
  have hd := decide_eq_false hm
  clear hm
  have P0 : Hid (Par (w.alloc (.cells #[.int .i64 K, .int .i64 H, .int .i64 S] 23)) w.heap.size K H S) := Lib.hid (heap_alloc_new _ _)
  have HG0 : Hid (Gr w (w.alloc (.cells #[.int .i64 K, .int .i64 H, .int .i64 S] 23))) := Lib.hid (Gr.alloc (Gr.refl _) _ _)
  go_enter Try.func14, Try.ntmps14
  go_wp2_with fail
  generalize w.alloc (.cells #[.int .i64 K, .int .i64 H, .int .i64 S] 23) = W0 at *
  generalize w.heap.size = gp at *
  go_loopw [3, 4] (fun o i wr => o = .slice none 0 0 ∧ i = .int .i64 0 ∧ Par wr gp K H S ∧ Gr w wr) (fun _ _ _ => 0)
  case atStart => exact ⟨rfl, rfl, P0.out, HG0.out⟩
  case round =>
    clear P0 HG0
    obtain ⟨rfl, rfl, hp, hg⟩ := hrel
    have c0 := hp.cell0
    have c1 := hp.cell1
    have c2 := hp.cell2
    have HG := Lib.hid hg
    clear hp hg
    by_cases h0 : 0 < H
    · go_wp2_with fail
      refine (refMay_any K H S _).mono ?_
      rw [hd]
      rintro e w1 ⟨rfl, hg1⟩
      have G1 := Lib.hid (Gr.trans HG.out hg1)
      clear hg1
      go_wp2_with fail
      go_ret
      exact ⟨rfl, G1.out⟩
    · go_wp2_with fail
      go_ret
      exact ⟨rfl, HG.out⟩
theorem refAhead_any (K H S : Int) (w : World) :
    Calls Try.prog 14 #[par K H S] w fun e w' => ∃ v, e = .returned v ∧ Bss w' v (aheadP K H S) ∧ Gr w w' := by
  unfold aheadP
  by_cases hm : MayP K H S
  · rw [if_pos hm]
    obtain ⟨k, hk⟩ : ∃ k : Nat, K = k := ⟨K.toNat, by have := hm.1; omega⟩
    obtain ⟨h, hh⟩ : ∃ h : Nat, H = h := ⟨H.toNat, by have := hm.2.2.1; omega⟩
    subst hk hh
    rw [Int.toNat_natCast, Int.toNat_natCast]
    refine (refAhead_in k h S w hm).mono ?_
    rintro e w' ⟨v, rfl, h1, h2⟩
    exact ⟨v, rfl, h1.bss, h2⟩
  · rw [if_neg hm]
    refine (refAhead_ne K H S w hm).mono ?_
    rintro e w' ⟨rfl, hg⟩
    exact ⟨_, rfl, Bss.nil _, hg⟩
theorem Bss.form3 {w : World} {v : Value} {L : List (List Int)} (h : Bss w v L) : ∃ o m c, v = .slice o m c := by
  obtain ⟨o, c, h, _⟩ := h
  exact ⟨o, _, c, h⟩
/-- The contracts of package pre. -/
structure PreOk : Prop where
  may : ∀ (K H S : Int) (w : World), Calls Try.prog 8 #[par K H S] w fun e w' => e = .returned (.bool (decide (MayP K H S))) ∧ Gr w w'
  cols : ∀ (K H S : Int) (w : World), Calls Try.prog 10 #[par K H S] w fun e w' => e = .returned (.int .i64 (colsP K H S)) ∧ Gr w w'
  rows : ∀ (K H S : Int) (w : World), Calls Try.prog 13 #[par K H S] w fun e w' => ∃ v, e = .returned v ∧ RwsN w.heap.size w' v (aheadP K H S) ∧ Gr w w'
theorem aheadP_in {K H : Nat} {S : Int} (h : MayP K H S) : aheadP K H S = ahead K H := by
  unfold aheadP
  rw [if_pos h, Int.toNat_natCast, Int.toNat_natCast]
theorem may_params {a b c : Nat} (ha : a < 16) (hb : b < 4) (hc : c < 24) : MayP ((1 + a : Nat) : Int) ((1 + b : Nat) : Int) ((1 + c : Nat) : Int) := by
  unfold MayP
  omega
theorem ahead_one : ahead 1 1 = [[3, 1]] := by
  have h3 : expZ 1 = 3 := by decide +kernel
  simp [ahead, aheadRow, lst, aheadF, List.range_succ, h3]
set_option maxRecDepth 100000 in
set_option maxHeartbeats 800000 in
theorem preWakes_any (O : PreOk) (w : World) : Calls Try.prog 15 #[] w fun e w' => e = .returned (.bool true) ∧ Gr w w' := by
  have HO := Lib.hid O
  clear O
  have hm : MayP ((1 : Nat) : Int) ((1 : Nat) : Int) 1 := by unfold MayP; omega
  have he : aheadP 1 1 1 = [[3, 1]] := by
    have := aheadP_in hm
    rw [ahead_one] at this
    exact this
  have HE := Lib.hid he
  clear hm he
  go_enter Try.func15, Try.ntmps15
  go_wp2_with fail
  refine (HO.out.rows 1 1 1 _).mono ?_
  rw [HE.out]
  rintro e w1 ⟨v, rfl, hr, hg⟩
  obtain ⟨us, ho, hr⟩ := hr
  obtain ⟨g, c, rfl, q1, q2, q3, q4, q5⟩ := ownsRow_cell ho (by simp)
  have q6 := q5 0 (by simp)
  obtain ⟨hb, _⟩ := hr 0 (by simp)
  obtain ⟨o1, c1, hf⟩ := hb.form
  rw [hf] at q6 hb
  have HB := Lib.hid hb
  have HG := Lib.hid hg
  have hB3 : Hid (∀ x ∈ ([3, 1] : List Int), Byt x) := Lib.hid (by
    intro x hx
    simp at hx
    unfold Byt
    omega)
  have q6' : w1.cell? ⟨g, 0, none⟩ = some (.slice o1 2 c1) := q6
  clear hb hg hf q5 q6 ho hr
  go_wp2_with fail
  refine (same_any _ _ [3, 1] [3, 1] _ (Bs.grown HB.out (Gr.alloc (Gr.refl w1) _ _)) (lit_bs1 (w := w1) [3, 1] hB3.out (by simp))).mono ?_
  rintro e w2 ⟨rfl, hg2⟩
  have G2 := Lib.hid hg2
  clear hg2
  go_wp2_with fail
  go_ret
  exact ⟨rfl, Gr.trans HG.out (Gr.trans (Gr.alloc (Gr.refl w1) _ _) G2.out)⟩
end Go.Proofs.Ytocigdcbfbnfoaa
