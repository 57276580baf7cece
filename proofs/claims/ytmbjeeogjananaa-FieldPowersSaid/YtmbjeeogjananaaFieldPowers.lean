/-
  For all integers m, n the law FieldPowers returns true: powers are added where they are multiplied, and the 255 powers are all that is not 0. No condition.
-/
import Derived.Test.YtmbjeeogjananaaSt
import Derived.ProofKit
namespace Go.Proofs.Ytmbjeeogjananaa.fieldPowers
open Go.ChangeShapes Go.WideShapes Go.ChangeAt Go.RowKit
set_option linter.unusedVariables false      -- a walk need not use every 'w<i>' (that an integer argument fits its kind)

theorem own : ownKnob Try.prog.godebug = none := by kernel_rfl

set_option maxRecDepth 100000 in
set_option maxHeartbeats 1000000 in
theorem walk (a0 : Int) (a1 : Int) (w0 : (Lit.int .i64 a0).wf = true) (w1 : (Lit.int .i64 a1).wf = true) (w : World) :
    Calls Try.prog 6 #[.int .i64 a0, .int .i64 a1] w fun e w' => e = .returned (.bool true) ∧ Grown w w' := by
  have h1 := Int.emod_nonneg a0 (by omega : (100000 : Int) ≠ 0)
  have h2 := Int.emod_lt_of_pos a0 (by omega : (0 : Int) < 100000)
  have h3 := Int.emod_nonneg a1 (by omega : (100000 : Int) ≠ 0)
  have h4 := Int.emod_lt_of_pos a1 (by omega : (0 : Int) < 100000)
  have z := zero37
  generalize hq : tabB 256 (fun _ => false) = q at *
  have Q := Lib.hid hq
  clear hq
  go_enter Try.func6, Try.ntmps6
  go_wp2_with fail
  refine (new_st _).mono ?_
  rintro e w' ⟨b, rfl, hs⟩
  go_wp2_with fail
  refine (within_st (by omega) (by omega) hs).mono ?_
  rintro e w' ⟨rfl, hs2⟩
  clear hs
  have hs := hs2
  clear hs2
  go_wp2_with fail
  refine (within_st (by omega) (by omega) hs).mono ?_
  rintro e w' ⟨rfl, hs2⟩
  clear hs
  have hs := hs2
  clear hs2
  go_wp2_with fail
  have k1 : -50000 ≤ a0 % 100000 - 50000 := by omega
  have k2 : a0 % 100000 - 50000 < 50000 := by omega
  have k3 : -50000 ≤ a1 % 100000 - 50000 := by omega
  have k4 : a1 % 100000 - 50000 < 50000 := by omega
  clear h1 h2 h3 h4
  generalize a0 % 100000 - 50000 = A at *
  generalize a1 % 100000 - 50000 = B at *
  have t1 : (mulZ (expZ A) (expZ B) != expZ (A + B)) = false := by rw [expZ_add]; simp
  have t2 : (mulZ (expZ A) (expZ (-A)) != 1) = false := by rw [expZ_neg]; rfl
  have t3 : (expZ (A + 255) != expZ A) = false := by rw [expZ_round]; simp
  have t4 : (expZ 0 != 1) = false := by decide +kernel
  have t5 : (expZ 1 != 3) = false := by decide +kernel
  go_wp2_with (first | (go_at_call 16; refine (exp_st hs).mono ?_; rintro e w' ⟨rfl, hs2⟩; clear hs; have hs := hs2; clear hs2) | (go_at_call 12; refine (mul_st ?_ ?_ hs).mono ?_; (first | assumption | exact mulZ_byt _ _ | exact invZ_byt _ | exact expZ_byt _ | exact addZ_byt (by assumption) (by assumption) | exact addZ_byt (mulZ_byt _ _) (mulZ_byt _ _)); (first | assumption | exact mulZ_byt _ _ | exact invZ_byt _ | exact expZ_byt _ | exact addZ_byt (by assumption) (by assumption) | exact addZ_byt (mulZ_byt _ _) (mulZ_byt _ _)); rintro e w' ⟨rfl, hs2⟩; clear hs; have hs := hs2; clear hs2))
  clear t1 t2 t3 t4 t5 k1 k2 k3 k4
  have hb := St.at hs
  have hge : w.heap.size ≤ w'.heap.size := hs.1.2.2
  have hne : b ≠ w'.heap.size := Nat.ne_of_lt (Array.getElem?_eq_some_iff.1 hb).1
  have hrow := heap_alloc_new w' (.cells q 37)
  have hg0 : Grown w (w'.alloc (.cells q 37)) := Grown.alloc hs.1 _ _
  have hb0 : FieldAt (w'.alloc (.cells q 37)) b := FieldAt.grown hb (Grown.alloc (Grown.refl _) _ _)
  clear hs hb
  generalize hD : w'.heap.size = D at *
  generalize w'.alloc (.cells q 37) = W at *
  clear hD
  have R0 : Hid (PowSt w b D 0 W) := Lib.hid ⟨hb0, hg0, by rw [hrow, ← Q.out, hadB_nil]⟩
  clear hb0 hg0 hrow
  go_loopw [9] (fun i wr => ∃ k : Nat, k ≤ 255 ∧ i = .int .i64 k ∧ PowSt w b D k wr) (fun i _ => 255 - (intOf i).toNat)
  case atStart => exact ⟨0, by omega, rfl, R0.out⟩
  case round =>
    clear R0
    obtain ⟨k, hk, rfl, hp⟩ := hrel
    obtain ⟨hb, hg, hr⟩ := hp
    by_cases hlt : k < 255
    · have EX := Lib.hid (expZ_nat k hlt)
      have LG := Lib.hid (lgZ_ex k hlt)
      have HS := Lib.hid (hadB_set k hlt)
      have HN := Lib.hid (hadB_not k hlt)
      have hx := M.exN_lt k
      have hx0 : (((M.exN k : Nat) : Int) == 0) = false := by
        have := (M.lg_ex k hlt).2
        simp
        omega
      have BX : Hid (Byt ((M.exN k : Nat) : Int)) := Lib.hid (by unfold Byt; omega)
      have C := Lib.hid hr
      have F := Lib.hid hb
      have G := Lib.hid hg
      clear hr hb hg
      generalize M.exN k = x at *
      go_wp2_with fail
      refine (exp_any _ k _ (Or.inr ⟨b, rfl, F.out⟩)).mono ?_
      rintro e w2 ⟨rfl, hg2⟩
      have G2 := Lib.hid hg2
      clear hg2
      rw [EX.out]
      go_wp2_with fail
      refine (log_any _ x BX.out _ (Or.inr ⟨b, rfl, FieldAt.grown F.out G2.out⟩)).mono ?_
      rintro e w3 ⟨rfl, hg3⟩
      have G3 := Lib.hid hg3
      clear hg3
      rw [LG.out]
      have hrow := keptRow G3.out (keptRow G2.out C.out)
      have hc : w3.cell? ⟨D, x, none⟩ = some (.bool false) := by
        rw [cell_of_row w3 D x _ _ _ hrow, tabB_get 256 _ x hx, HN.out]
      have hz := frozen_of_row w3 D x _ _ hrow
      have C3 := Lib.hid hrow
      clear hrow
      go_wp2_with fail
      refine ⟨⟨k + 1, by omega, by go_num, ?_, ?_, ?_⟩, by simp [intOf]; omega⟩
      · unfold FieldAt
        rw [heap_setCell_other _ _ _ _ hne]
        exact FieldAt.grown F.out (Grown.trans G2.out G3.out)
      · exact Grown.setCell (Grown.trans (Grown.trans G.out G2.out) G3.out) hge _
      · rw [heap_setCell_same _ _ _ _ _ _ C3.out, HS.out]
    · obtain rfl : k = 255 := by omega
      have hs : St w wr (.pointer (some ⟨b, 0, none⟩)) := ⟨hg, Or.inr ⟨b, rfl, hb⟩⟩
      clear hb hg hr
      go_wp2_with (first | (go_at_call 19; refine (wakes_st hs).mono ?_; rintro e w' ⟨rfl, hs2⟩; clear hs; have hs := hs2; clear hs2))
      go_ret
      exact ⟨rfl, hs.1⟩

/-! ### The row's step -/
set_option maxRecDepth 100000 in
theorem lifted (os : Os) (started : os.Started) (H : Type) (enc : TypeId × Value → H) :
    ReturnsInHanded {} Try.checked os 6 .any (Rows.fieldPowersSpec.pre6 enc Try.prog Try.f6 Rows.fieldPowersRow.domain false) (Rows.fieldPowersSpec.post enc Try.prog Try.f6 false true false false) := by
  refine returnsInHanded_of_change (C := Try.checked) own started (by kernel_rfl) Try.func6
    (ChangeSpec.witness6 (enc := enc) (C := Try.checked) false ⟨#[], #[.int .i64 0, .int .i64 0], []⟩ 8 (by kernel_rfl) (by kernel_rfl) (by kernel_rfl) (by kernel_rfl)) ?_
  intro W base args ds gs before hval0 hW hcnd _
  have hval : ∀ (j : Nat) t v, Try.f6.params[j]? = some t → args[j]? = some v → Value.okWide Try.prog W .any base t v := hval0
  have hW' := hW
  obtain ⟨p, q, hA0, hV, rfl, hfz, hnd⟩ := hW
  have hA : DataW.TrodAll enc Try.prog W 0 (fun _ => true) true Try.f6.params.toList args.toList ds p := hA0
  rw [Try.params6] at hA hval
  obtain ⟨v0, vs0, d0, ds0, p0, q0, hargs, rfl, rfl, h0, r0⟩ := trodAll_cons hA
  obtain ⟨v1, vs1, d1, ds1, p1, q1, rfl, rfl, rfl, h1, r1⟩ := trodAll_cons r0
  obtain ⟨rfl, rfl, rfl⟩ := trodAll_nil r1
  obtain rfl : args = #[v0, v1] := by cases args; simp_all
  obtain ⟨rfl, rfl⟩ := trodVars_none hV
  obtain ⟨a0, rfl, rfl, rfl, w0⟩ := open_int Try.underlying3 (hval 0 3 v0 rfl rfl) h0
  obtain ⟨a1, rfl, rfl, rfl, w1⟩ := open_int Try.underlying3 (hval 1 3 v1 rfl rfl) h1
  clear hA0 hval0
  simp only [List.append_nil] at hW'
  refine (walk a0 a1 w0 w1 W).mono fun e W' ⟨he, hg⟩ => ?_
  subst he
  exact ⟨_, rfl, post_of_same (pa := []) (pv := []) hW' (fun _ _ _ => (trodAll_cons_mk (shut_bool Try.underlying4 _) trodAll_mk0)) (fun sp _ => (trodAll_cons_mk (shut_int Try.underlying3 w0) (trodAll_cons_mk (shut_int Try.underlying3 w1) trodAll_mk0))) (fun _ _ => rfl) rfl
    (hg.frame _) hg.2.1 (ok_one (by kernel_rfl) rfl (okWide_bool_mk Try.underlying4 _))⟩

theorem over : Rows.fieldPowersRow.holds Try.pinned (OpenSpec.ofChange Rows.fieldPowersSpec) :=
  OpenClaim.holds_of_wide 6 Try.f6 rfl rfl rfl rfl rfl rfl rfl ⟨rfl, rfl, rfl, rfl, rfl⟩ rfl rfl rfl rfl rfl (by kernel_rfl) Try.func6 (by kernel_rfl)
    (of_decide_eq_true (by kernel_rfl)) (by unfold Func.isWrapper; first | (rw [if_pos (by decide +kernel)]; kernel_rfl) | (rw [if_neg (by decide +kernel)]; exact ⟨rfl, rfl⟩))
    (fun os started H enc _ => lifted os started H enc)

/-- The statement. -/
theorem proved : Rows.FieldPowersSaid :=
  over
#print axioms proved
end Go.Proofs.Ytmbjeeogjananaa.fieldPowers
