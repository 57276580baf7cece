/-
  For all bytes a, b, c the law FieldLaws returns true: sums and products go in any order and grouping, products spread over sums, and 0 and 1 are what they should be. No condition.
-/
import Derived.Test.YtmbjeeogjananaaSt
import Derived.ProofKit
namespace Go.Proofs.Ytmbjeeogjananaa.fieldLaws
open Go.ChangeShapes Go.WideShapes Go.ChangeAt Go.RowKit
set_option linter.unusedVariables false      -- a walk need not use every 'w<i>' (that an integer argument fits its kind)

theorem own : ownKnob Try.prog.godebug = none := by kernel_rfl

set_option maxRecDepth 100000 in
set_option maxHeartbeats 1000000 in
theorem walk (a0 : Int) (a1 : Int) (a2 : Int) (w0 : (Lit.int .u8 a0).wf = true) (w1 : (Lit.int .u8 a1).wf = true) (w2 : (Lit.int .u8 a2).wf = true) (w : World) :
    Calls Try.prog 4 #[.int .u8 a0, .int .u8 a1, .int .u8 a2] w fun e w' => e = .returned (.bool true) ∧ Grown w w' := by
  have ha := byt_of_wf w0
  have hb := byt_of_wf w1
  have hc := byt_of_wf w2
  clear w0 w1 w2
  have t1 : (addZ a0 a1 != addZ a1 a0) = false := by rw [addZ_comm]; simp
  have t2 : (mulZ a0 a1 != mulZ a1 a0) = false := by rw [mulZ_comm]; simp
  have t3 : (addZ (addZ a0 a1) a2 != addZ a0 (addZ a1 a2)) = false := by rw [addZ_assoc]; simp
  have t4 : (mulZ (mulZ a0 a1) a2 != mulZ a0 (mulZ a1 a2)) = false := by rw [mulZ_assoc]; simp
  have t5 : (mulZ a0 (addZ a1 a2) == addZ (mulZ a0 a1) (mulZ a0 a2)) = true := by rw [mulZ_addZ _ _ _ hb hc]; simp
  have t6 : (addZ a0 a0 == 0) = true := by rw [addZ_self]; rfl
  have t7 : (mulZ a0 1 == a0) = true := by rw [mulZ_one _ ha]; simp
  have t8 : (mulZ a0 0 == 0) = true := by rw [mulZ_zero]; rfl
  have one : Byt 1 := by unfold Byt; omega
  have zero : Byt 0 := by unfold Byt; omega
  go_enter Try.func4, Try.ntmps4
  go_wp2_with (first | (go_at_call 8; refine (new_st _).mono ?_; rintro e w' ⟨b, rfl, hs⟩) | (go_at_call 11; refine (add_st ?_ ?_ hs).mono ?_; (first | assumption | exact mulZ_byt _ _ | exact invZ_byt _ | exact expZ_byt _ | exact addZ_byt (by assumption) (by assumption) | exact addZ_byt (mulZ_byt _ _) (mulZ_byt _ _)); (first | assumption | exact mulZ_byt _ _ | exact invZ_byt _ | exact expZ_byt _ | exact addZ_byt (by assumption) (by assumption) | exact addZ_byt (mulZ_byt _ _) (mulZ_byt _ _)); rintro e w' ⟨rfl, hs2⟩; clear hs; have hs := hs2; clear hs2) | (go_at_call 12; refine (mul_st ?_ ?_ hs).mono ?_; (first | assumption | exact mulZ_byt _ _ | exact invZ_byt _ | exact expZ_byt _ | exact addZ_byt (by assumption) (by assumption) | exact addZ_byt (mulZ_byt _ _) (mulZ_byt _ _)); (first | assumption | exact mulZ_byt _ _ | exact invZ_byt _ | exact expZ_byt _ | exact addZ_byt (by assumption) (by assumption) | exact addZ_byt (mulZ_byt _ _) (mulZ_byt _ _)); rintro e w' ⟨rfl, hs2⟩; clear hs; have hs := hs2; clear hs2) | (go_at_call 19; refine (wakes_st hs).mono ?_; rintro e w' ⟨rfl, hs2⟩; clear hs; have hs := hs2; clear hs2))
  go_ret
  exact ⟨rfl, hs.1⟩

/-! ### The row's step -/
set_option maxRecDepth 100000 in
theorem lifted (os : Os) (started : os.Started) (H : Type) (enc : TypeId × Value → H) :
    ReturnsInHanded {} Try.checked os 4 .any (Rows.fieldLawsSpec.pre6 enc Try.prog Try.f4 Rows.fieldLawsRow.domain false) (Rows.fieldLawsSpec.post enc Try.prog Try.f4 false true false false) := by
  refine returnsInHanded_of_change (C := Try.checked) own started (by kernel_rfl) Try.func4
    (ChangeSpec.witness6 (enc := enc) (C := Try.checked) false ⟨#[], #[.int .u8 0, .int .u8 0, .int .u8 0], []⟩ 8 (by kernel_rfl) (by kernel_rfl) (by kernel_rfl) (by kernel_rfl)) ?_
  intro W base args ds gs before hval0 hW hcnd _
  have hval : ∀ (j : Nat) t v, Try.f4.params[j]? = some t → args[j]? = some v → Value.okWide Try.prog W .any base t v := hval0
  have hW' := hW
  obtain ⟨p, q, hA0, hV, rfl, hfz, hnd⟩ := hW
  have hA : DataW.TrodAll enc Try.prog W 0 (fun _ => true) true Try.f4.params.toList args.toList ds p := hA0
  rw [Try.params4] at hA hval
  obtain ⟨v0, vs0, d0, ds0, p0, q0, hargs, rfl, rfl, h0, r0⟩ := trodAll_cons hA
  obtain ⟨v1, vs1, d1, ds1, p1, q1, rfl, rfl, rfl, h1, r1⟩ := trodAll_cons r0
  obtain ⟨v2, vs2, d2, ds2, p2, q2, rfl, rfl, rfl, h2, r2⟩ := trodAll_cons r1
  obtain ⟨rfl, rfl, rfl⟩ := trodAll_nil r2
  obtain rfl : args = #[v0, v1, v2] := by cases args; simp_all
  obtain ⟨rfl, rfl⟩ := trodVars_none hV
  obtain ⟨a0, rfl, rfl, rfl, w0⟩ := open_int Try.underlying5 (hval 0 5 v0 rfl rfl) h0
  obtain ⟨a1, rfl, rfl, rfl, w1⟩ := open_int Try.underlying5 (hval 1 5 v1 rfl rfl) h1
  obtain ⟨a2, rfl, rfl, rfl, w2⟩ := open_int Try.underlying5 (hval 2 5 v2 rfl rfl) h2
  clear hA0 hval0
  simp only [List.append_nil] at hW'
  refine (walk a0 a1 a2 w0 w1 w2 W).mono fun e W' ⟨he, hg⟩ => ?_
  subst he
  exact ⟨_, rfl, post_of_same (pa := []) (pv := []) hW' (fun _ _ _ => (trodAll_cons_mk (shut_bool Try.underlying4 _) trodAll_mk0)) (fun sp _ => (trodAll_cons_mk (shut_int Try.underlying5 w0) (trodAll_cons_mk (shut_int Try.underlying5 w1) (trodAll_cons_mk (shut_int Try.underlying5 w2) trodAll_mk0)))) (fun _ _ => rfl) rfl
    (hg.frame _) hg.2.1 (ok_one (by kernel_rfl) rfl (okWide_bool_mk Try.underlying4 _))⟩

theorem over : Rows.fieldLawsRow.holds Try.pinned (OpenSpec.ofChange Rows.fieldLawsSpec) :=
  OpenClaim.holds_of_wide 4 Try.f4 rfl rfl rfl rfl rfl rfl rfl ⟨rfl, rfl, rfl, rfl, rfl⟩ rfl rfl rfl rfl rfl (by kernel_rfl) Try.func4 (by kernel_rfl)
    (of_decide_eq_true (by kernel_rfl)) (by unfold Func.isWrapper; first | (rw [if_pos (by decide +kernel)]; kernel_rfl) | (rw [if_neg (by decide +kernel)]; exact ⟨rfl, rfl⟩))
    (fun os started H enc _ => lifted os started H enc)

/-- The statement. -/
theorem proved : Rows.FieldLawsSaid :=
  over
#print axioms proved
end Go.Proofs.Ytmbjeeogjananaa.fieldLaws
