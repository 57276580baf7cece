/-
  For all bytes a, b the law FieldSquares returns true: a square of a sum is the sum of the squares, eight squarings give a byte back, and squares of unlike bytes are unlike. No condition.
-/
import Derived.Test.YtmbjeeogjananaaSt
import Derived.ProofKit
namespace Go.Proofs.Ytmbjeeogjananaa.fieldSquares
open Go.ChangeShapes Go.WideShapes Go.ChangeAt Go.RowKit
set_option linter.unusedVariables false      -- a walk need not use every 'w<i>' (that an integer argument fits its kind)

theorem own : ownKnob Try.prog.godebug = none := by kernel_rfl

set_option maxRecDepth 100000 in
set_option maxHeartbeats 1000000 in
theorem walk (a0 : Int) (a1 : Int) (w0 : (Lit.int .u8 a0).wf = true) (w1 : (Lit.int .u8 a1).wf = true) (w : World) :
    Calls Try.prog 7 #[.int .u8 a0, .int .u8 a1] w fun e w' => e = .returned (.bool true) ∧ Grown w w' := by
  have ha := byt_of_wf w0
  have hb := byt_of_wf w1
  clear w0 w1
  have hc := addZ_byt ha hb
  have t1 : (mulZ (addZ a0 a1) (addZ a0 a1) == addZ (mulZ a0 a0) (mulZ a1 a1)) = true := by rw [sqZ_add _ _ ha hb]; simp
  have t3 : (a0 == a1) = (mulZ a0 a0 == mulZ a1 a1) := by
    by_cases e : a0 = a1
    · subst e; simp
    · rw [beq_eq_false_iff_ne.2 e, beq_eq_false_iff_ne.2 (fun h => e (sqZ_inj _ _ ha hb h))]
  have T3 := Lib.hid t3
  have T1 := Lib.hid t1
  clear t1 t3
  go_enter Try.func7, Try.ntmps7
  go_wp2_with (first | (go_at_call 8; refine (new_st _).mono ?_; rintro e w' ⟨b, rfl, hs⟩) | (go_at_call 11; refine (add_st ?_ ?_ hs).mono ?_; (first | assumption | exact mulZ_byt _ _ | exact invZ_byt _ | exact expZ_byt _ | exact addZ_byt (by assumption) (by assumption) | exact addZ_byt (mulZ_byt _ _) (mulZ_byt _ _)); (first | assumption | exact mulZ_byt _ _ | exact invZ_byt _ | exact expZ_byt _ | exact addZ_byt (by assumption) (by assumption) | exact addZ_byt (mulZ_byt _ _) (mulZ_byt _ _)); rintro e w' ⟨rfl, hs2⟩; clear hs; have hs := hs2; clear hs2))
  go_loopw [7, 8] (fun x i wr => ∃ k : Nat, k ≤ 8 ∧ i = .int .i64 k ∧ x = .int .u8 (sqsZ k a0) ∧ St w wr (.pointer (some ⟨b, 0, none⟩))) (fun _ i _ => 8 - (intOf i).toNat)
  case atStart => exact ⟨0, by omega, rfl, by rw [sqsZ_zero _ ha], hs⟩
  case round =>
    clear hs
    obtain ⟨k, hk, rfl, rfl, hs⟩ := hrel
    by_cases hlt : k < 8
    · have hq := sqsZ_byt k a0 ha
      have E := Lib.hid (sqsZ_succ k a0)
      go_wp2_with (first | (go_at_call 12; refine (mul_st ?_ ?_ hs).mono ?_; (first | assumption | exact mulZ_byt _ _ | exact invZ_byt _ | exact expZ_byt _ | exact addZ_byt (by assumption) (by assumption) | exact addZ_byt (mulZ_byt _ _) (mulZ_byt _ _)); (first | assumption | exact mulZ_byt _ _ | exact invZ_byt _ | exact expZ_byt _ | exact addZ_byt (by assumption) (by assumption) | exact addZ_byt (mulZ_byt _ _) (mulZ_byt _ _)); rintro e w' ⟨rfl, hs2⟩; clear hs; have hs := hs2; clear hs2))
      exact ⟨⟨k + 1, by omega, by go_num, by rw [E.out], hs⟩, by simp [intOf]; omega⟩
    · obtain rfl : k = 8 := by omega
      rw [sqsZ_eight _ ha]
      have t1 := T1.out
      have t3 := T3.out
      go_wp2_with (first | (go_at_call 11; refine (add_st ?_ ?_ hs).mono ?_; (first | assumption | exact mulZ_byt _ _ | exact invZ_byt _ | exact expZ_byt _ | exact addZ_byt (by assumption) (by assumption) | exact addZ_byt (mulZ_byt _ _) (mulZ_byt _ _)); (first | assumption | exact mulZ_byt _ _ | exact invZ_byt _ | exact expZ_byt _ | exact addZ_byt (by assumption) (by assumption) | exact addZ_byt (mulZ_byt _ _) (mulZ_byt _ _)); rintro e w' ⟨rfl, hs2⟩; clear hs; have hs := hs2; clear hs2) | (go_at_call 12; refine (mul_st ?_ ?_ hs).mono ?_; (first | assumption | exact mulZ_byt _ _ | exact invZ_byt _ | exact expZ_byt _ | exact addZ_byt (by assumption) (by assumption) | exact addZ_byt (mulZ_byt _ _) (mulZ_byt _ _)); (first | assumption | exact mulZ_byt _ _ | exact invZ_byt _ | exact expZ_byt _ | exact addZ_byt (by assumption) (by assumption) | exact addZ_byt (mulZ_byt _ _) (mulZ_byt _ _)); rintro e w' ⟨rfl, hs2⟩; clear hs; have hs := hs2; clear hs2) | (go_at_call 19; refine (wakes_st hs).mono ?_; rintro e w' ⟨rfl, hs2⟩; clear hs; have hs := hs2; clear hs2))
      go_ret
      exact ⟨rfl, hs.1⟩

/-! ### The row's step -/
set_option maxRecDepth 100000 in
theorem lifted (os : Os) (started : os.Started) (H : Type) (enc : TypeId × Value → H) :
    ReturnsInHanded {} Try.checked os 7 .any (Rows.fieldSquaresSpec.pre6 enc Try.prog Try.f7 Rows.fieldSquaresRow.domain false) (Rows.fieldSquaresSpec.post enc Try.prog Try.f7 false true false false) := by
  refine returnsInHanded_of_change (C := Try.checked) own started (by kernel_rfl) Try.func7
    (ChangeSpec.witness6 (enc := enc) (C := Try.checked) false ⟨#[], #[.int .u8 0, .int .u8 0], []⟩ 8 (by kernel_rfl) (by kernel_rfl) (by kernel_rfl) (by kernel_rfl)) ?_
  intro W base args ds gs before hval0 hW hcnd _
  have hval : ∀ (j : Nat) t v, Try.f7.params[j]? = some t → args[j]? = some v → Value.okWide Try.prog W .any base t v := hval0
  have hW' := hW
  obtain ⟨p, q, hA0, hV, rfl, hfz, hnd⟩ := hW
  have hA : DataW.TrodAll enc Try.prog W 0 (fun _ => true) true Try.f7.params.toList args.toList ds p := hA0
  rw [Try.params7] at hA hval
  obtain ⟨v0, vs0, d0, ds0, p0, q0, hargs, rfl, rfl, h0, r0⟩ := trodAll_cons hA
  obtain ⟨v1, vs1, d1, ds1, p1, q1, rfl, rfl, rfl, h1, r1⟩ := trodAll_cons r0
  obtain ⟨rfl, rfl, rfl⟩ := trodAll_nil r1
  obtain rfl : args = #[v0, v1] := by cases args; simp_all
  obtain ⟨rfl, rfl⟩ := trodVars_none hV
  obtain ⟨a0, rfl, rfl, rfl, w0⟩ := open_int Try.underlying5 (hval 0 5 v0 rfl rfl) h0
  obtain ⟨a1, rfl, rfl, rfl, w1⟩ := open_int Try.underlying5 (hval 1 5 v1 rfl rfl) h1
  clear hA0 hval0
  simp only [List.append_nil] at hW'
  refine (walk a0 a1 w0 w1 W).mono fun e W' ⟨he, hg⟩ => ?_
  subst he
  exact ⟨_, rfl, post_of_same (pa := []) (pv := []) hW' (fun _ _ _ => (trodAll_cons_mk (shut_bool Try.underlying4 _) trodAll_mk0)) (fun sp _ => (trodAll_cons_mk (shut_int Try.underlying5 w0) (trodAll_cons_mk (shut_int Try.underlying5 w1) trodAll_mk0))) (fun _ _ => rfl) rfl
    (hg.frame _) hg.2.1 (ok_one (by kernel_rfl) rfl (okWide_bool_mk Try.underlying4 _))⟩

theorem over : Rows.fieldSquaresRow.holds Try.pinned (OpenSpec.ofChange Rows.fieldSquaresSpec) :=
  OpenClaim.holds_of_wide 7 Try.f7 rfl rfl rfl rfl rfl rfl rfl ⟨rfl, rfl, rfl, rfl, rfl⟩ rfl rfl rfl rfl rfl (by kernel_rfl) Try.func7 (by kernel_rfl)
    (of_decide_eq_true (by kernel_rfl)) (by unfold Func.isWrapper; first | (rw [if_pos (by decide +kernel)]; kernel_rfl) | (rw [if_neg (by decide +kernel)]; exact ⟨rfl, rfl⟩))
    (fun os started H enc _ => lifted os started H enc)

/-- The statement. -/
theorem proved : Rows.FieldSquaresSaid :=
  over
#print axioms proved
end Go.Proofs.Ytmbjeeogjananaa.fieldSquares
