/-
  For all bytes a, b the law FieldTurns returns true: what is not 0 has just one byte that turns it into 1, quotients are taken back, and no two bytes that are not 0 come to 0. No condition.
-/
import Derived.Test.YtmbjeeogjananaaSt
import Derived.ProofKit
namespace Go.Proofs.Ytmbjeeogjananaa.fieldTurns
open Go.ChangeShapes Go.WideShapes Go.ChangeAt Go.RowKit
set_option linter.unusedVariables false      -- a walk need not use every 'w<i>' (that an integer argument fits its kind)

theorem own : ownKnob Try.prog.godebug = none := by kernel_rfl

set_option maxRecDepth 100000 in
set_option maxHeartbeats 1000000 in
theorem walk (a0 : Int) (a1 : Int) (w0 : (Lit.int .u8 a0).wf = true) (w1 : (Lit.int .u8 a1).wf = true) (w : World) :
    Calls Try.prog 5 #[.int .u8 a0, .int .u8 a1] w fun e w' => e = .returned (.bool true) ∧ Grown w w' := by
  have ha := byt_of_wf w0
  have hb := byt_of_wf w1
  clear w0 w1
  by_cases hz : a1 = 0
  · subst hz
    have e0 : mulZ a0 (invZ 0) = 0 := by rw [show invZ 0 = 0 from rfl, mulZ_zero]
    have e1 : invZ 0 = 0 := rfl
    have E0 := Lib.hid e0
    clear e0 e1
    go_enter Try.func5, Try.ntmps5
    go_wp2_with (first | (go_at_call 8; refine (new_st _).mono ?_; rintro e w' ⟨b, rfl, hs⟩))
    refine (div_st ha hb hs).mono ?_
    rintro e w' ⟨rfl, hs2⟩
    clear hs
    have hs := hs2
    clear hs2
    rw [E0.out]
    go_wp2_with fail
    refine (inv_st hb hs).mono ?_
    rintro e w' ⟨rfl, hs2⟩
    clear hs
    have hs := hs2
    clear hs2
    rw [show invZ 0 = 0 from rfl]
    go_wp2_with (first | (go_at_call 19; refine (wakes_st hs).mono ?_; rintro e w' ⟨rfl, hs2⟩; clear hs; have hs := hs2; clear hs2))
    go_ret
    exact ⟨rfl, hs.1⟩
  · have b0 : (a1 == 0) = false := by simpa using hz
    have T1 : Hid ((mulZ (mulZ a0 (invZ a1)) a1 == a0) = true) := Lib.hid (by rw [divZ_back _ _ ha hb hz]; simp)
    have T2 : Hid ((mulZ a1 (invZ a1) == 1) = true) := Lib.hid (by rw [mulZ_inv _ hb hz]; rfl)
    have T3 : Hid ((invZ (invZ a1) == a1) = true) := Lib.hid (by rw [invZ_inv _ hb]; simp)
    have T4 : Hid ((mulZ a0 a1 == 0) = (a0 == 0)) := Lib.hid (mulZ_nought _ _ ha hb hz)
    have Z := Lib.hid hz
    clear hz
    go_enter Try.func5, Try.ntmps5
    go_wp2_with (first | (go_at_call 8; refine (new_st _).mono ?_; rintro e w' ⟨b, rfl, hs⟩) | (go_at_call 9; refine (div_st ?_ ?_ hs).mono ?_; (first | assumption | exact mulZ_byt _ _ | exact invZ_byt _ | exact expZ_byt _ | exact addZ_byt (by assumption) (by assumption) | exact addZ_byt (mulZ_byt _ _) (mulZ_byt _ _)); (first | assumption | exact mulZ_byt _ _ | exact invZ_byt _ | exact expZ_byt _ | exact addZ_byt (by assumption) (by assumption) | exact addZ_byt (mulZ_byt _ _) (mulZ_byt _ _)); rintro e w' ⟨rfl, hs2⟩; clear hs; have hs := hs2; clear hs2))
    go_loopw [8, 9] (fun n c wr => ∃ k : Nat, k ≤ 256 ∧ c = .int .i64 k ∧ n = .int .i64 (if invZ a1 < k then 1 else 0) ∧ St w wr (.pointer (some ⟨b, 0, none⟩))) (fun _ c _ => 256 - (intOf c).toNat)
    case atStart =>
      have := invZ_byt a1
      unfold Byt at this
      exact ⟨0, by omega, rfl, by rw [if_neg (by omega)], hs⟩
    case round =>
      clear hs
      obtain ⟨k, hk, rfl, rfl, hs⟩ := hrel
      by_cases hlt : k < 256
      · have hq : Byt (k : Int) := by unfold Byt; omega
        by_cases he : (k : Int) = invZ a1
        · have t : mulZ a1 k = 1 := by rw [he]; exact mulZ_inv _ hb Z.out
          rw [if_neg (by omega)]
          have T := Lib.hid t
          have HE := Lib.hid he
          clear t he
          go_wp2_with fail
          refine (mul_st hb hq hs).mono ?_
          rintro e w' ⟨rfl, hs2⟩
          clear hs
          have hs := hs2
          clear hs2
          rw [T.out]
          go_wp2_with fail
          exact ⟨⟨k + 1, by omega, by go_num, by rw [if_pos (by have := HE.out; omega)], hs⟩, by simp [intOf]; omega⟩
        · have t : (mulZ a1 k == 1) = false := beq_eq_false_iff_ne.2 (fun h => he (invZ_unique _ _ hb hq h))
          have F : Hid ((if invZ a1 < ((k + 1 : Nat) : Int) then (1 : Int) else 0) = (if invZ a1 < (k : Int) then 1 else 0)) := Lib.hid (by
            by_cases h : invZ a1 < (k : Int)
            · rw [if_pos h, if_pos (by omega)]
            · rw [if_neg h, if_neg (by omega)])
          generalize (if invZ a1 < (k : Int) then (1 : Int) else 0) = n at *
          clear he
          go_wp2_with (first | (go_at_call 12; refine (mul_st ?_ ?_ hs).mono ?_; (first | assumption | exact mulZ_byt _ _ | exact invZ_byt _ | exact expZ_byt _ | exact addZ_byt (by assumption) (by assumption) | exact addZ_byt (mulZ_byt _ _) (mulZ_byt _ _)); (first | assumption | exact mulZ_byt _ _ | exact invZ_byt _ | exact expZ_byt _ | exact addZ_byt (by assumption) (by assumption) | exact addZ_byt (mulZ_byt _ _) (mulZ_byt _ _)); rintro e w' ⟨rfl, hs2⟩; clear hs; have hs := hs2; clear hs2))
          exact ⟨⟨k + 1, by omega, by go_num, by rw [F.out], hs⟩, by simp [intOf]; omega⟩
      · obtain rfl : k = 256 := by omega
        have hi := invZ_byt a1
        rw [if_pos (by unfold Byt at hi; omega)]
        have t1 := T1.out
        have t2 := T2.out
        have t3 := T3.out
        have t4 := T4.out
        go_wp2_with (first | (go_at_call 12; refine (mul_st ?_ ?_ hs).mono ?_; (first | assumption | exact mulZ_byt _ _ | exact invZ_byt _ | exact expZ_byt _ | exact addZ_byt (by assumption) (by assumption) | exact addZ_byt (mulZ_byt _ _) (mulZ_byt _ _)); (first | assumption | exact mulZ_byt _ _ | exact invZ_byt _ | exact expZ_byt _ | exact addZ_byt (by assumption) (by assumption) | exact addZ_byt (mulZ_byt _ _) (mulZ_byt _ _)); rintro e w' ⟨rfl, hs2⟩; clear hs; have hs := hs2; clear hs2) | (go_at_call 14; refine (inv_st ?_ hs).mono ?_; (first | assumption | exact mulZ_byt _ _ | exact invZ_byt _ | exact expZ_byt _ | exact addZ_byt (by assumption) (by assumption) | exact addZ_byt (mulZ_byt _ _) (mulZ_byt _ _)); rintro e w' ⟨rfl, hs2⟩; clear hs; have hs := hs2; clear hs2) | (go_at_call 19; refine (wakes_st hs).mono ?_; rintro e w' ⟨rfl, hs2⟩; clear hs; have hs := hs2; clear hs2))
        go_ret
        exact ⟨rfl, hs.1⟩

/-! ### The row's step -/
set_option maxRecDepth 100000 in
theorem lifted (os : Os) (started : os.Started) (H : Type) (enc : TypeId × Value → H) :
    ReturnsInHanded {} Try.checked os 5 .any (Rows.fieldTurnsSpec.pre6 enc Try.prog Try.f5 Rows.fieldTurnsRow.domain false) (Rows.fieldTurnsSpec.post enc Try.prog Try.f5 false true false false) := by
  refine returnsInHanded_of_change (C := Try.checked) own started (by kernel_rfl) Try.func5
    (ChangeSpec.witness6 (enc := enc) (C := Try.checked) false ⟨#[], #[.int .u8 0, .int .u8 0], []⟩ 8 (by kernel_rfl) (by kernel_rfl) (by kernel_rfl) (by kernel_rfl)) ?_
  intro W base args ds gs before hval0 hW hcnd _
  have hval : ∀ (j : Nat) t v, Try.f5.params[j]? = some t → args[j]? = some v → Value.okWide Try.prog W .any base t v := hval0
  have hW' := hW
  obtain ⟨p, q, hA0, hV, rfl, hfz, hnd⟩ := hW
  have hA : DataW.TrodAll enc Try.prog W 0 (fun _ => true) true Try.f5.params.toList args.toList ds p := hA0
  rw [Try.params5] at hA hval
  obtain ⟨v0, vs0, d0, ds0, p0, q0, hargs, rfl, rfl, h0, r0⟩ := trodAll_cons hA
  obtain ⟨v1, vs1, d1, ds1, p1, q1, rfl, rfl, rfl, h1, r1⟩ := trodAll_cons r0
  obtain ⟨rfl, rfl, rfl⟩ := trodAll_nil r1
  obtain rfl : args = #[v0, v1] := by cases args; simp_all
  obtain ⟨rfl, rfl⟩ := trodVars_none hV
  obtain ⟨a0, rfl, rfl, rfl, w0⟩ := open_int Try.underlying5 (hval 0 5 v0 rfl rfl) h0
  obtain ⟨a1, rfl, rfl, rfl, w1⟩ := open_int Try.underlying5 (hval 1 5 v1 rfl rfl) h1
  clear hA0 hval0
  simp only [List.append_nil] at hW'
  refine (walk a0 a1 w0 w1 W).mono fun e W' ⟨he, hg⟩ => ?_
  subst he
  exact ⟨_, rfl, post_of_same (pa := []) (pv := []) hW' (fun _ _ _ => (trodAll_cons_mk (shut_bool Try.underlying4 _) trodAll_mk0)) (fun sp _ => (trodAll_cons_mk (shut_int Try.underlying5 w0) (trodAll_cons_mk (shut_int Try.underlying5 w1) trodAll_mk0))) (fun _ _ => rfl) rfl
    (hg.frame _) hg.2.1 (ok_one (by kernel_rfl) rfl (okWide_bool_mk Try.underlying4 _))⟩

theorem over : Rows.fieldTurnsRow.holds Try.pinned (OpenSpec.ofChange Rows.fieldTurnsSpec) :=
  OpenClaim.holds_of_wide 5 Try.f5 rfl rfl rfl rfl rfl rfl rfl ⟨rfl, rfl, rfl, rfl, rfl⟩ rfl rfl rfl rfl rfl (by kernel_rfl) Try.func5 (by kernel_rfl)
    (of_decide_eq_true (by kernel_rfl)) (by unfold Func.isWrapper; first | (rw [if_pos (by decide +kernel)]; kernel_rfl) | (rw [if_neg (by decide +kernel)]; exact ⟨rfl, rfl⟩))
    (fun os started H enc _ => lifted os started H enc)

/-- The statement. -/
theorem proved : Rows.FieldTurnsSaid :=
  over
#print axioms proved
end Go.Proofs.Ytmbjeeogjananaa.fieldTurns
