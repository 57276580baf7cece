/-
  Law SomeDraws, walked: as many numbers are drawn as are chosen; none, where it may not be.
-/
import Derived.Test.YtcbmgdkopgepdaaSomeSetsW
import Derived.Deep.DeepCutAuto
namespace Go.Proofs.Ytcbmgdkopgepdaa
open Go.RowKit

set_option maxRecDepth 100000 in
set_option maxHeartbeats 1600000 in
theorem someDraws_walk {At : World → Value → (Nat → Prop) → Nat → Prop} (D : DrawOk At) (O : ChooseOk At) (sd n k : Int) (w : World) (_ : 0 ≤ sd) (_ : sd < 18446744073709551616) (hn : I64 n) (hk : I64 k) :
    Calls Try.prog 6 #[.int .u64 sd, .int .i64 n, .int .i64 k] w fun e w' => e = .returned (.bool true) ∧ Gr w w' := by
  have H := Lib.hid O
  have HD := Lib.hid D
  have HNI := Lib.hid hn
  have HKI := Lib.hid hk
  unfold I64 at hn hk
  clear O D
  obtain ⟨s0, hs0, hs1⟩ : ∃ s : Nat, sd % 4294967296 = s ∧ s < 4294967296 := ⟨(sd % 4294967296).toNat, by omega, by omega⟩
  go_enter Try.func6, Try.ntmps6
  go_wp2_with fail
  refine (HD.out.new s0 _ hs1).mono ?_
  rintro e w1 ⟨d, F, rfl, ha, hg1, hF⟩
  obtain ⟨ad, rfl⟩ := HD.out.ptr ha
  have D1 : Hid (Dr At w w1 (.pointer (some ad)) F s0) := Lib.hid ⟨ha, hF, hg1, by omega⟩
  clear ha hg1 hF
  go_wp2_with fail
  refine (HD.out.new s0 _ hs1).mono ?_
  rintro e w2 ⟨c, F2, rfl, ha, hg2, hF2⟩
  obtain ⟨ac, rfl⟩ := HD.out.ptr ha
  have D2 := Lib.hid (D1.out.grown HD.out hg2)
  have C2 : Hid (Dr At w w2 (.pointer (some ac)) F2 s0) := Lib.hid ⟨ha, fun k hk => Nat.le_trans D1.out.2.2.1.size (hF2 k hk), Gr.trans D1.out.2.2.1 hg2, by omega⟩
  have AP : Hid (∀ k, F k → ¬ F2 k) := Lib.hid (fun k e1 e2 => by
    have q1 := HD.out.lt D1.out.1 k e1
    have q2 := hF2 k e2
    omega)
  clear ha hg2 hF2 D1
  go_wp2_with fail
  refine (H.out.some _ n k F s0 _ HNI.out HKI.out (by omega) D2.out.1).mono ?_
  rintro e w3 ⟨v, rfl, hz, _, ha, hk3⟩
  have hss : C.someS s0 n k < 18446744073709551616 := by
    unfold C.someS
    split
    · exact C.st_lt (by omega) _
    · omega
  have D3 := Lib.hid (D2.out.step ha hk3 hss)
  have C3 := Lib.hid (C2.out.other HD.out hk3 D2.out.2.1 (fun k e1 e2 => AP.out k e2 e1))
  obtain ⟨o, cc, rfl⟩ := hz.form
  obtain ⟨m0, hm0⟩ : ∃ m0, m0 = (C.someZ s0 n k).length := ⟨_, rfl⟩
  rw [← hm0]
  have HM : Hid (m0 = if C.May n k then k.toNat else 0) := Lib.hid (by
    rw [hm0]
    unfold C.someZ
    split
    · rename_i hm
      exact C.some_length (by have := hm.2.2.2; have := hm.2.2.1; omega)
    · rfl)
  clear hz ha hk3 hm0 hss D2 C2
  go_upto_region 5 with fail
  go_cut [10] (fun s wx => s = .bool (decide (C.May n k)) ∧ w3 = wx)
  case first =>
    by_cases e1 : 0 ≤ n
    · by_cases e2 : n ≤ 64
      · by_cases e3 : 0 ≤ k
        · by_cases e4 : k ≤ n
          · have hm : decide (C.May n k) = true := decide_eq_true ⟨e1, e2, e3, e4⟩
            go_wp2_with fail
            go_meet
            exact ⟨by rw [hm], rfl⟩
          · have hm : decide (C.May n k) = false := decide_eq_false fun h => e4 h.2.2.2
            go_wp2_with fail
            go_meet
            exact ⟨by rw [hm], rfl⟩
        · have hm : decide (C.May n k) = false := decide_eq_false fun h => e3 h.2.2.1
          go_wp2_with fail
          go_meet
          exact ⟨by rw [hm], rfl⟩
      · have hm : decide (C.May n k) = false := decide_eq_false fun h => e2 h.2.1
        go_wp2_with fail
        go_meet
        exact ⟨by rw [hm], rfl⟩
    · have hm : decide (C.May n k) = false := decide_eq_false fun h => e1 h.1
      go_wp2_with fail
      go_meet
      exact ⟨by rw [hm], rfl⟩
  case rest =>
    obtain ⟨rfl, rfl⟩ := hcut
    have done : ∀ (wr : World) (s : Nat), Dr At w wr (.pointer (some ad)) F s → Dr At w wr (.pointer (some ac)) F2 s → True := fun _ _ _ _ => trivial
    clear done
    by_cases hmay : C.May n k
    · obtain ⟨m1, m2, m3, m4⟩ := id hmay
      obtain ⟨K, rfl⟩ : ∃ K : Nat, k = K := ⟨k.toNat, by omega⟩
      rw [decide_eq_true hmay]
      have HM2 := HM.out
      rw [if_pos hmay, Int.toNat_natCast] at HM2
      clear HM
      subst m0
      have hst : C.someS s0 n K = C.st s0 K := by unfold C.someS; rw [if_pos hmay, Int.toNat_natCast]
      rw [hst] at D3
      clear hst hmay
      go_wp2
      go_loopw [11] (fun i wr => ∃ ii : Nat, ii ≤ K ∧ i = .int .i64 ii ∧ Dr At w wr (.pointer (some ad)) F (C.st s0 K) ∧ Dr At w wr (.pointer (some ac)) F2 (C.st s0 ii)) (fun i _ => K - (intOf i).toNat)
      case atStart => exact ⟨0, by omega, rfl, D3.out, C3.out⟩
      case round =>
        clear D3 C3
        obtain ⟨ii, hii, rfl, hd, hc⟩ := hrel
        have D4 := Lib.hid hd
        have C4 := Lib.hid hc
        clear hd hc
        by_cases hlt : ii < K
        · go_wp2_with fail
          refine (HD.out.next _ F2 _ _ C4.out.2.2.2 C4.out.1).mono ?_
          rintro e w5 ⟨rfl, ha, hk5⟩
          have C5 := Lib.hid (C4.out.step ha hk5 (nextS_lt _))
          have D5 := Lib.hid (D4.out.other HD.out hk5 C4.out.2.1 AP.out)
          clear ha hk5 C4 D4
          go_wp2
          exact ⟨⟨ii + 1, by omega, by go_num, D5.out, C5.out⟩, by simp [intOf]; omega⟩
        · obtain rfl : ii = K := by omega
          generalize C.st s0 ii = s at *
          go_wp2_with fail
          refine (H.out.someNil 5 3 _ (i64_small (by omega) (by omega)) (i64_small (by omega) (by omega)) ⟨by omega, by omega, by omega, by omega⟩).mono ?_
          rintro e w6 ⟨v6, rfl, hz6, haw6, hg6⟩
          have D6 := Lib.hid (D4.out.grown HD.out hg6)
          have C6 := Lib.hid (C4.out.grown HD.out hg6)
          have Z6 : Hid (Zs w6 v6 [0, 1, 2]) := Lib.hid hz6
          have AF : Hid (AwayZ F v6) := Lib.hid fun a m c e h0 hf => haw6 a m c e h0 (HD.out.lt D4.out.1 _ hf)
          have AG : Hid (AwayZ F2 v6) := Lib.hid fun a m c e h0 hf => haw6 a m c e h0 (HD.out.lt C4.out.1 _ hf)
          clear haw6
          obtain ⟨o6, c6, rfl⟩ := Z6.out.form
          rw [show ((List.range (3 : Int).toNat).map fun i : Nat => (i : Int)) = [0, 1, 2] from rfl, show ([0, 1, 2] : List Int).length = 3 from rfl] at *
          clear hz6 hg6 D4 C4
          go_wp2_with fail
          refine (HD.out.next _ F _ _ D6.out.2.2.2 D6.out.1).mono ?_
          rintro e w7 ⟨rfl, ha, hk7⟩
          have C7 := Lib.hid (C6.out.other HD.out hk7 D6.out.2.1 (fun k e1 e2 => AP.out k e2 e1))
          have Z7 := Lib.hid (Z6.out.kp hk7 AF.out)
          have G7 := Lib.hid (D6.out.step ha hk7 (nextS_lt _)).2.2.1
          clear ha hk7 D6 Z6
          go_wp2_with fail
          refine (HD.out.next _ F2 _ _ C7.out.2.2.2 C7.out.1).mono ?_
          rintro e w8 ⟨rfl, ha, hk8⟩
          have Z8 := Lib.hid (Z7.out.kp hk8 AG.out)
          have G8 := Lib.hid (C7.out.step ha hk8 (nextS_lt _)).2.2.1
          clear ha hk8 C7 Z7 AF AG
          go_wp2_with fail
          have hl := lit_zs (w := w8) [0, 1, 2] (by simp [I64]) (by simp)
          have hga : Gr w8 (w8.alloc (.cells (rowZ [0, 1, 2]) 3)) := Gr.alloc (Gr.refl _) _ _
          refine (sameZ_any _ _ [0, 1, 2] [0, 1, 2] _ (Z8.out.grown hga) hl).mono ?_
          rw [beq_self_eq_true]
          rintro e w9 ⟨rfl, hg9⟩
          have G9 := Lib.hid (Gr.trans G8.out (Gr.trans hga hg9))
          clear hg9 hl hga
          go_wp2_with fail
          refine (chooseWakes_any HD.out H.out _).mono ?_
          rintro e w10 ⟨rfl, hg10⟩
          go_wp2
          go_ret
          exact ⟨rfl, Gr.trans G9.out hg10⟩
    · have HM2 := HM.out
      rw [if_neg hmay] at HM2
      clear HM
      subst HM2
      rw [decide_eq_false hmay]
      have hst : C.someS s0 n k = s0 := by unfold C.someS; rw [if_neg hmay]
      rw [hst] at D3
      clear hst hmay
      go_wp2
      go_loopw [11] (fun i wr => i = .int .i64 0 ∧ w3 = wr) (fun _ _ => 0)
      case atStart => exact ⟨rfl, rfl⟩
      case round =>
        obtain ⟨rfl, rfl⟩ := hrel
        have D4 := D3
        have C4 := C3
        clear D3 C3
        generalize s0 = s at *
        by_cases hlt : 0 < k
        · go_wp2_with fail
          refine (H.out.someNil 5 3 _ (i64_small (by omega) (by omega)) (i64_small (by omega) (by omega)) ⟨by omega, by omega, by omega, by omega⟩).mono ?_
          rintro e w6 ⟨v6, rfl, hz6, haw6, hg6⟩
          have D6 := Lib.hid (D4.out.grown HD.out hg6)
          have C6 := Lib.hid (C4.out.grown HD.out hg6)
          have Z6 : Hid (Zs w6 v6 [0, 1, 2]) := Lib.hid hz6
          have AF : Hid (AwayZ F v6) := Lib.hid fun a m c e h0 hf => haw6 a m c e h0 (HD.out.lt D4.out.1 _ hf)
          have AG : Hid (AwayZ F2 v6) := Lib.hid fun a m c e h0 hf => haw6 a m c e h0 (HD.out.lt C4.out.1 _ hf)
          clear haw6
          obtain ⟨o6, c6, rfl⟩ := Z6.out.form
          rw [show ((List.range (3 : Int).toNat).map fun i : Nat => (i : Int)) = [0, 1, 2] from rfl, show ([0, 1, 2] : List Int).length = 3 from rfl] at *
          clear hz6 hg6 D4 C4
          go_wp2_with fail
          refine (HD.out.next _ F _ _ D6.out.2.2.2 D6.out.1).mono ?_
          rintro e w7 ⟨rfl, ha, hk7⟩
          have C7 := Lib.hid (C6.out.other HD.out hk7 D6.out.2.1 (fun k e1 e2 => AP.out k e2 e1))
          have Z7 := Lib.hid (Z6.out.kp hk7 AF.out)
          have G7 := Lib.hid (D6.out.step ha hk7 (nextS_lt _)).2.2.1
          clear ha hk7 D6 Z6
          go_wp2_with fail
          refine (HD.out.next _ F2 _ _ C7.out.2.2.2 C7.out.1).mono ?_
          rintro e w8 ⟨rfl, ha, hk8⟩
          have Z8 := Lib.hid (Z7.out.kp hk8 AG.out)
          have G8 := Lib.hid (C7.out.step ha hk8 (nextS_lt _)).2.2.1
          clear ha hk8 C7 Z7 AF AG
          go_wp2_with fail
          have hl := lit_zs (w := w8) [0, 1, 2] (by simp [I64]) (by simp)
          have hga : Gr w8 (w8.alloc (.cells (rowZ [0, 1, 2]) 3)) := Gr.alloc (Gr.refl _) _ _
          refine (sameZ_any _ _ [0, 1, 2] [0, 1, 2] _ (Z8.out.grown hga) hl).mono ?_
          rw [beq_self_eq_true]
          rintro e w9 ⟨rfl, hg9⟩
          have G9 := Lib.hid (Gr.trans G8.out (Gr.trans hga hg9))
          clear hg9 hl hga
          go_wp2_with fail
          refine (chooseWakes_any HD.out H.out _).mono ?_
          rintro e w10 ⟨rfl, hg10⟩
          go_wp2
          go_ret
          exact ⟨rfl, Gr.trans G9.out hg10⟩
        · go_wp2_with fail
          refine (H.out.someNil 5 3 _ (i64_small (by omega) (by omega)) (i64_small (by omega) (by omega)) ⟨by omega, by omega, by omega, by omega⟩).mono ?_
          rintro e w6 ⟨v6, rfl, hz6, haw6, hg6⟩
          have D6 := Lib.hid (D4.out.grown HD.out hg6)
          have C6 := Lib.hid (C4.out.grown HD.out hg6)
          have Z6 : Hid (Zs w6 v6 [0, 1, 2]) := Lib.hid hz6
          have AF : Hid (AwayZ F v6) := Lib.hid fun a m c e h0 hf => haw6 a m c e h0 (HD.out.lt D4.out.1 _ hf)
          have AG : Hid (AwayZ F2 v6) := Lib.hid fun a m c e h0 hf => haw6 a m c e h0 (HD.out.lt C4.out.1 _ hf)
          clear haw6
          obtain ⟨o6, c6, rfl⟩ := Z6.out.form
          rw [show ((List.range (3 : Int).toNat).map fun i : Nat => (i : Int)) = [0, 1, 2] from rfl, show ([0, 1, 2] : List Int).length = 3 from rfl] at *
          clear hz6 hg6 D4 C4
          go_wp2_with fail
          refine (HD.out.next _ F _ _ D6.out.2.2.2 D6.out.1).mono ?_
          rintro e w7 ⟨rfl, ha, hk7⟩
          have C7 := Lib.hid (C6.out.other HD.out hk7 D6.out.2.1 (fun k e1 e2 => AP.out k e2 e1))
          have Z7 := Lib.hid (Z6.out.kp hk7 AF.out)
          have G7 := Lib.hid (D6.out.step ha hk7 (nextS_lt _)).2.2.1
          clear ha hk7 D6 Z6
          go_wp2_with fail
          refine (HD.out.next _ F2 _ _ C7.out.2.2.2 C7.out.1).mono ?_
          rintro e w8 ⟨rfl, ha, hk8⟩
          have Z8 := Lib.hid (Z7.out.kp hk8 AG.out)
          have G8 := Lib.hid (C7.out.step ha hk8 (nextS_lt _)).2.2.1
          clear ha hk8 C7 Z7 AF AG
          go_wp2_with fail
          have hl := lit_zs (w := w8) [0, 1, 2] (by simp [I64]) (by simp)
          have hga : Gr w8 (w8.alloc (.cells (rowZ [0, 1, 2]) 3)) := Gr.alloc (Gr.refl _) _ _
          refine (sameZ_any _ _ [0, 1, 2] [0, 1, 2] _ (Z8.out.grown hga) hl).mono ?_
          rw [beq_self_eq_true]
          rintro e w9 ⟨rfl, hg9⟩
          have G9 := Lib.hid (Gr.trans G8.out (Gr.trans hga hg9))
          clear hg9 hl hga
          go_wp2_with fail
          refine (chooseWakes_any HD.out H.out _).mono ?_
          rintro e w10 ⟨rfl, hg10⟩
          go_wp2
          go_ret
          exact ⟨rfl, Gr.trans G9.out hg10⟩
end Go.Proofs.Ytcbmgdkopgepdaa
