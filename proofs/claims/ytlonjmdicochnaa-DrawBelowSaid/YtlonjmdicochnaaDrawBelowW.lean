/-
  Law DrawBelow, walked.
-/
import Derived.Test.YtlonjmdicochnaaDr
import Derived.Test.YtlonjmdicochnaaZs
import Derived.Test.YtlonjmdicochnaaRef
import Derived.Deep.RegionHeld3
namespace Go.Proofs.Ytlonjmdicochnaa
open Go.RowKit

theorem belowV_le (s : Nat) {n : Int} (h : n ≤ 0) : belowV s n = 0 := if_pos h
theorem wrap_u64 {x : Int} (h : 0 ≤ x) (h' : x < 18446744073709551616) : IntKind.u64.wrap x = x := by
  have hw : ∀ x : Int, IntKind.u64.wrap x = x % 18446744073709551616 := fun x => by simp [IntKind.wrap, IntKind.bits, IntKind.signed]
  rw [hw]
  omega
theorem belowV_one (s : Nat) : belowV s 1 = 0 := by
  unfold belowV
  rw [if_neg (by omega)]
  omega
set_option maxRecDepth 100000 in
set_option maxHeartbeats 3200000 in
theorem drawBelow_walk {At : World → Value → (Nat → Prop) → Nat → Prop} (O : DrawOk At) (sd : Int) (vl : Value) (l : List Int) (nn : Int) (w : World) (_ : 0 ≤ sd) (_ : sd < 18446744073709551616) (hl : Zs w vl l) :
    Calls Try.prog 4 #[.int .u64 sd, vl, .int .i64 nn] w fun e w' => e = .returned (.bool true) ∧ Gr w w' := by
  have H := Lib.hid O
  have HL := Lib.hid hl
  obtain ⟨_, oa, ca, rfl, a1, a2, a3, a4⟩ := hl
  generalize hn : l.length = n at *
  have HN := Lib.hid hn
  have HA := Lib.hid a4
  have HAN := Lib.hid a3
  obtain ⟨s0, hs0, hs1⟩ : ∃ s : Nat, sd % 4294967296 = s ∧ s < 4294967296 := ⟨(sd % 4294967296).toNat, by omega, by omega⟩
  obtain ⟨p, hp, hp1⟩ : ∃ p : Nat, nn % 1000 = p ∧ p < 1000 := ⟨(nn % 1000).toNat, by omega, by omega⟩
  have HP := Lib.hid hp
  clear O a3 a4 hn hp
  go_enter Try.func4, Try.ntmps4
  go_wp2_with fail
  refine (H.out.new s0 _ hs1).mono ?_
  rintro e w1 ⟨d, F, rfl, ha, hg1, hF⟩
  obtain ⟨ad, rfl⟩ := H.out.ptr ha
  have HD1 : Hid (Dr At w w1 (.pointer (some ad)) F s0) := Lib.hid ⟨ha, hF, hg1, by omega⟩
  clear ha hg1 hF
  go_wp2_with fail
  refine (H.out.new s0 _ hs1).mono ?_
  rintro e w2 ⟨c, F', rfl, ha, hg1, hF⟩
  obtain ⟨ac, rfl⟩ := H.out.ptr ha
  have HD2 : Hid (Dr At w w2 (.pointer (some ad)) F s0) := Lib.hid (HD1.out.grown H.out hg1)
  have HC2 : Hid (Dr At w w2 (.pointer (some ac)) F' s0) := Lib.hid ⟨ha, fun k hk => Nat.le_trans HD1.out.2.2.1.size (hF k hk), Gr.trans HD1.out.2.2.1 hg1, by omega⟩
  have HFF : Hid (∀ k, F k → ¬ F' k) := Lib.hid (fun k h1 h2 => by
    have := H.out.lt HD1.out.1 k h1
    have := hF k h2
    omega)
  clear ha hg1 hF HD1
  rw [hs0]
  clear hs0
  go_wp2
  go_loopw [9] (fun i wr => ∃ (ii s : Nat), ii ≤ n ∧ i = .int .i64 ii ∧ Dr At w wr (.pointer (some ad)) F s ∧ Dr At w wr (.pointer (some ac)) F' s) (fun i _ => n - (intOf i).toNat)
  case atStart => exact ⟨0, s0, by omega, rfl, HD2.out, HC2.out⟩
  case round =>
    clear HD2 HC2
    obtain ⟨ii, s, hii, rfl, hd, hr⟩ := hrel
    have HD := Lib.hid hd
    have HC := Lib.hid hr
    clear hd hr
    by_cases hgo : ii < n ∧ ii < 40
    · obtain ⟨hlt, hlt2⟩ := hgo
      obtain ⟨al, rfl⟩ : ∃ al, oa = some al := by
        cases oa with
        | none => exact absurd (HAN.out rfl) (by omega)
        | some al => exact ⟨al, rfl⟩
      have p1 := HA.out al rfl ii hlt
      have hz := HL.out.rng ii (by rw [HN.out]; exact hlt)
      generalize l.getD ii 0 = z at *
      have q1 := cell_gr HD.out.2.2.1 p1
      obtain ⟨hz1, hz2⟩ := hz
      go_wp2_with fail
      refine (H.out.below _ F s z _ HD.out.2.2.2 hz2 hz1 HD.out.1).mono ?_
      rintro e w5 ⟨rfl, ha, hk⟩
      have HD5 := Lib.hid (HD.out.step ha hk (belowS_lt HD.out.2.2.2 z))
      have HC5 := Lib.hid (HC.out.other H.out hk HD.out.2.1 (fun k h1 h2 => HFF.out k h2 h1))
      have q5 := cell_gr HD5.out.2.2.1 p1
      clear ha hk q1
      by_cases hneg : z ≤ 0
      · have e1 := belowV_le s hneg
        have e2 : belowS s z = s := if_pos hneg
        rw [e1]
        rw [e2] at HD5
        clear e1 e2
        go_wp2
        exact ⟨⟨ii + 1, s, by omega, by go_num, HD5.out, HC5.out⟩, by simp [intOf]; omega⟩
      · have e1 : belowV s z = ((topS (nextS s) : Nat) : Int) % z := if_neg hneg
        have e2 : belowS s z = nextS s := if_neg hneg
        rw [e1]
        rw [e2] at HD5
        have ht := topS_lt (nextS_lt s)
        have hpz : 0 < z := by omega
        clear e1 e2 hneg
        generalize htt : topS (nextS s) = tt at *
        have HTT := Lib.hid htt
        have hr1 := Int.emod_nonneg (tt : Int) (by omega : z ≠ 0)
        have hr2 := Int.emod_lt_of_pos (tt : Int) hpz
        have hz0 : z ≠ 0 := by omega
        generalize hrr : (tt : Int) % z = rr at *
        have HC5d := Lib.hid (HC5.out.grown H.out (Gr.drew (Gr.refl w5)))
        have HD5d := Lib.hid (HD5.out.grown H.out (Gr.drew (Gr.refl w5)))
        clear htt
        have hc1 : IntKind.u64.wrap (tt : Int) = tt := wrap_u64 (by omega) (by omega)
        have hc2 : IntKind.u64.wrap z = z := wrap_u64 (by omega) (by omega)
        have hc3 : IntKind.u64.wrap rr = rr := wrap_u64 (by omega) (by omega)
        have hc4 : Int.tmod (tt : Int) z = rr := by rw [Int.tmod_eq_emod_of_nonneg (by omega)]; exact hrr
        have hc5 : (z == 0) = false := by simpa using hz0
        have hx1 : decide (rr < 0) = false := by simp; omega
        have hx2 : decide (z ≤ rr) = false := by simp; omega
        go_wp2
        go_region_held3 (fun W => W.cell? (al.add ii) = some (.int .i64 z)) (first | exact q5 | exact q6 | go_keep) (first
          | (go_at_call 8; refine (H.out.next _ F' s _ HC5d.out.2.2.2 HC5d.out.1).mono ?_; rw [HTT.out]; rintro e w6 ⟨rfl, ha, hk⟩; have HC6 := Lib.hid (HC5d.out.step ha hk (nextS_lt s)); have HD6 := Lib.hid (HD5d.out.other H.out hk HC5d.out.2.1 (fun k h1 h2 => HFF.out k h1 h2)); have q6 := cell_gr HD6.out.2.2.1 p1; clear ha hk))
        go_wp2
        exact ⟨⟨ii + 1, nextS s, by omega, by go_num, HD6.out, HC6.out⟩, by simp [intOf]; omega⟩
    · go_wp2_with fail
      all_goals
        refine (H.out.next _ F s _ HD.out.2.2.2 HD.out.1).mono ?_
        rintro e w5 ⟨rfl, ha, hk⟩
        have HD5 := Lib.hid (HD.out.step ha hk (nextS_lt s))
        have HC5 := Lib.hid (HC.out.other H.out hk HD.out.2.1 (fun k h1 h2 => HFF.out k h2 h1))
        clear ha hk
        go_wp2_with fail
        refine (H.out.next _ F' s _ HC5.out.2.2.2 HC5.out.1).mono ?_
        rintro e w6 ⟨rfl, ha, hk⟩
        have HD6 := Lib.hid (HD5.out.other H.out hk HC5.out.2.1 (fun k h1 h2 => HFF.out k h1 h2))
        clear ha hk
        generalize topS (nextS s) = tt at *
        go_wp2_with fail
        refine (H.out.below _ F (nextS s) 1 _ HD6.out.2.2.2 (by omega) (by omega) HD6.out.1).mono ?_
        rintro e w7 ⟨rfl, ha, hk⟩
        rw [belowV_one]
        have HD7 := Lib.hid (HD6.out.step ha hk (belowS_lt HD6.out.2.2.2 1))
        clear ha hk
        go_wp2_with fail
        refine (within_any nn 1000 (by omega) (by omega) _).mono ?_
        rintro e w' ⟨rfl, rfl⟩
        rw [HP.out]
        go_wp2_with fail
        all_goals
          refine (H.out.below _ F (belowS (nextS s) 1) _ _ HD7.out.2.2.2 (by omega) (by omega) HD7.out.1).mono ?_
          rintro e w8 ⟨rfl, ha, hk⟩
          rw [belowV_le _ (by omega)]
          have HD8 := Lib.hid (HD7.out.step ha hk (belowS_lt HD7.out.2.2.2 _))
          clear ha hk
          go_wp2_with fail
          refine (drawWakes_any H.out _).mono ?_
          rintro e w9 ⟨rfl, hg⟩
          have G := Lib.hid (Gr.trans HD8.out.2.2.1 hg)
          clear hg
          go_wp2_with fail
          go_ret
          exact ⟨rfl, G.out⟩
end Go.Proofs.Ytlonjmdicochnaa
