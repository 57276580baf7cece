/-
  Law DrawOnce, walked: one degree takes one number from a Draw.
-/
import Derived.Test.YtkmnhcegaagokaaDegreeSharesW
namespace Go.Proofs.Ytkmnhcegaagokaa
open Go.RowKit

set_option maxRecDepth 100000 in
set_option maxHeartbeats 1600000 in
theorem drawOnce_walk {At : World → Value → (Nat → Prop) → Nat → Prop} (D : DrawOk At) (O : SolOk At) (l sd : Int) (w : World) (_ : 0 ≤ sd) (_ : sd < 18446744073709551616) :
    Calls Try.prog 6 #[.int .i64 l, .int .u64 sd] w fun e w' => e = .returned (.bool true) ∧ Gr w w' := by
  have H := Lib.hid O
  have HD := Lib.hid D
  clear O D
  obtain ⟨pw, hp, hp2⟩ : ∃ p : Nat, l % 64 = p ∧ p < 64 := ⟨(l % 64).toNat, by omega, by omega⟩
  obtain ⟨s0, hs0, hs1⟩ : ∃ s : Nat, sd % 4294967296 = s ∧ s < 4294967296 := ⟨(sd % 4294967296).toNat, by omega, by omega⟩
  have HP := Lib.hid hp
  clear hp
  go_enter Try.func6, Try.ntmps6
  go_wp2_with fail
  refine (within_any l 64 (by omega) (by omega) _).mono ?_
  rintro e w' ⟨rfl, rfl⟩
  rw [HP.out]
  go_wp2_with fail
  obtain ⟨N, hN, hN1, hN2⟩ : ∃ N : Nat, (1 : Int) + pw = N ∧ 1 ≤ N ∧ N ≤ 64 := ⟨1 + pw, by omega, by omega, by omega⟩
  rw [hN]
  clear hN hp2 HP
  have HNI : Hid (I64 (N : Int)) := Lib.hid (i64_tab ⟨by omega, by omega⟩)
  refine (H.out.table N _ HNI.out).mono ?_
  rintro e w1 ⟨v, rfl, hz, hg⟩
  have HZ := Lib.hid hz
  have G1 := Lib.hid hg
  rw [T.tab_in hN1 hN2] at hz
  obtain ⟨a, c, rfl, a1, a2, a3⟩ := Zs.at hz (by rw [T.tabZ_length]; omega)
  rw [T.tabZ_length] at a1 a3 HZ ⊢
  obtain ⟨N9, h9⟩ : ∃ N9, N - 1 = N9 := ⟨_, rfl⟩
  have f9 : (N : Int) - 1 = N9 := by omega
  have hN9 : N9 < N := by omega
  have ql := a3 N9 hN9
  have BLU : (T.tabZ N).getD N9 0 < 8388608 := by
    rw [T.tabZ_at hN9]
    have := T.sum_le hN1 hN2 (i := N9 + 1) (by omega)
    omega
  have BL := tabZ_pos hN1 hN2 hN9
  have HLAST : Hid (lastZ' (T.tabZ N) = (T.tabZ N).getD N9 0) := Lib.hid (by unfold lastZ'; rw [T.tabZ_length, h9])
  have HNE : Hid (T.tabZ N ≠ []) := Lib.hid (fun e => by have := T.tabZ_length N; rw [e] at this; simp at this; omega)
  obtain ⟨y, hy⟩ : ∃ y, (T.tabZ N).getD N9 0 = y := ⟨_, rfl⟩
  rw [hy] at ql BL BLU HLAST
  have HYY := Lib.hid hy
  have HTI := Lib.hid (T.tab_in hN1 hN2)
  have HSOME : Hid (∀ x, 0 ≤ x → x < y → ∃ j, j < N ∧ T.deg (T.tabZ N) x = ((j + 1 : Nat) : Int)) := Lib.hid (fun x x0 x1 => by
    obtain ⟨j, j1, j2⟩ := T.deg_some (t := T.tabZ N) x0 (by rw [T.tabZ_length]; omega) (by rw [T.tabZ_length, h9, hy]; exact x1)
    exact ⟨j, by rw [T.tabZ_length] at j1; exact j1, j2⟩)
  clear hz hg a3 hy h9
  go_wp2_with fail
  refine (HD.out.new s0 _ hs1).mono ?_
  rintro e w2 ⟨d, F, rfl, ha, hg2, hF⟩
  obtain ⟨ad, rfl⟩ := HD.out.ptr ha
  have D2 : Hid (Dr At w1 w2 (.pointer (some ad)) F s0) := Lib.hid ⟨ha, hF, hg2, by omega⟩
  clear ha hg2
  go_wp2_with fail
  refine (HD.out.new s0 _ hs1).mono ?_
  rintro e w3 ⟨c2, F2, rfl, ha, hg3, hF2⟩
  obtain ⟨ac, rfl⟩ := HD.out.ptr ha
  have D3 := Lib.hid (D2.out.grown HD.out hg3)
  have C3 : Hid (Dr At w1 w3 (.pointer (some ac)) F2 s0) := Lib.hid ⟨ha, fun k hk => Nat.le_trans D2.out.2.2.1.size (hF2 k hk), Gr.trans D2.out.2.2.1 hg3, by omega⟩
  have AP : Hid (∀ k, F k → ¬ F2 k) := Lib.hid (fun k e1 e2 => by
    have q1 := HD.out.lt D2.out.1 k e1
    have q2 := hF2 k e2
    omega)
  have HAW : Hid (AwayZ F (.slice (some a) N c)) := Lib.hid (HZ.out.away hF)
  have HAW2 : Hid (AwayZ F2 (.slice (some a) N c)) := Lib.hid (HZ.out.away C3.out.2.1)
  have Z3 := Lib.hid (HZ.out.grown D3.out.2.2.1)
  have ql3 := cell_gr D3.out.2.2.1 ql
  clear ha hg3 hF2 hF D2 HZ ql
  go_wp2_with fail
  refine (H.out.draw (.slice none 0 0) _ 0 F s0 _ (by unfold I64; omega) (by omega) (by rw [T.tab_out (by omega)]; exact Zs.nil _) (fun a m c he => by cases he) D3.out.1).mono ?_
  rw [T.tab_out (by omega : ¬ ((1 : Int) ≤ 0 ∧ (0 : Int) ≤ 64)), show drawV [] s0 = 0 from if_pos rfl, show drawS [] s0 = s0 from if_pos rfl]
  rintro e w4 ⟨rfl, ha, hk⟩
  have D4 := Lib.hid (D3.out.step ha hk (by omega))
  have C4 := Lib.hid (C3.out.other HD.out hk D3.out.2.1 (fun k e1 e2 => AP.out k e2 e1))
  have Z4 := Lib.hid (Z3.out.kp hk HAW.out)
  clear ha hk D3 C3 Z3 ql3
  go_wp2_with fail
  refine (HD.out.next _ F2 s0 _ (by omega) C4.out.1).mono ?_
  rintro e w5 ⟨rfl, ha, hk⟩
  have C5 := Lib.hid (C4.out.step ha hk (nextS_lt s0))
  have D5 := Lib.hid (D4.out.other HD.out hk C4.out.2.1 AP.out)
  have Z5 := Lib.hid (Z4.out.kp hk HAW2.out)
  clear ha hk D4 C4 Z4
  have htt := topS_lt (nextS_lt s0)
  obtain ⟨tt, htt2⟩ : ∃ tt, topS (nextS s0) = tt := ⟨_, rfl⟩
  rw [htt2] at htt ⊢
  obtain ⟨rr, hrr⟩ : ∃ rr, (tt : Int) % y = rr := ⟨_, rfl⟩
  have r1 : 0 ≤ rr := by rw [← hrr]; exact Int.emod_nonneg _ (by omega)
  have r2 : rr < y := by rw [← hrr]; exact Int.emod_lt_of_pos _ (by omega)
  have HV : Hid (drawV (T.tabZ N) s0 = T.deg (T.tabZ N) rr) := Lib.hid (by
    unfold drawV belowV
    rw [if_neg HNE.out, HLAST.out, if_neg (by omega), htt2, hrr])
  have HSS : Hid (drawS (T.tabZ N) s0 = nextS s0) := Lib.hid (by
    unfold drawS belowS
    rw [if_neg HNE.out, HLAST.out, if_neg (by omega)])
  obtain ⟨j, hj1, hj2⟩ := HSOME.out rr r1 r2
  have HJ := Lib.hid hj2
  clear hj2 htt2
  go_wp2_with fail
  refine (H.out.draw _ _ N F s0 _ HNI.out (by omega) Z5.out HAW.out D5.out.1).mono ?_
  rw [HTI.out, HV.out, HSS.out, HJ.out]
  rintro e w6 ⟨rfl, ha, hk⟩
  have D6 := Lib.hid (D5.out.step ha hk (nextS_lt s0))
  have C6 := Lib.hid (C5.out.other HD.out hk D5.out.2.1 (fun k e1 e2 => AP.out k e2 e1))
  have Z6 := Lib.hid (Z5.out.kp hk HAW.out)
  clear ha hk D5 C5 Z5
  have ql6 : w6.cell? (a.add N9) = some (.int .i64 y) := by
    have hz := Z6.out
    rw [HTI.out] at hz
    obtain ⟨a', c', he, _, _, h5⟩ := Zs.at hz (by rw [T.tabZ_length]; omega)
    have := h5 N9 (by rw [T.tabZ_length]; exact hN9)
    rw [HYY.out] at this
    rw [T.tabZ_length] at he
    obtain ⟨ha', _⟩ : a = a' ∧ c = c' := by simpa using he
    rw [ha']
    exact this
  have hw : wrap64 rr = rr := by unfold wrap64; omega
  go_wp2_with fail
  refine (H.out.degree _ N rr _ HNI.out (by unfold I64; omega) Z6.out).mono ?_
  rw [HTI.out, HJ.out]
  rintro e w7 ⟨rfl, hg7⟩
  have D7 := Lib.hid (D6.out.grown HD.out hg7)
  have C7 := Lib.hid (C6.out.grown HD.out hg7)
  clear hg7 D6 C6 Z6 ql6
  go_wp2_with fail
  refine (HD.out.next _ F (nextS s0) _ (nextS_lt s0) D7.out.1).mono ?_
  rintro e w8 ⟨rfl, ha, hk⟩
  have C8 := Lib.hid (C7.out.other HD.out hk D7.out.2.1 (fun k e1 e2 => AP.out k e2 e1))
  clear ha hk D7 C7
  go_wp2_with fail
  refine (HD.out.next _ F2 (nextS s0) _ (nextS_lt s0) C8.out.1).mono ?_
  rintro e w9 ⟨rfl, ha, hk⟩
  have C9 := Lib.hid ((C8.out.step ha hk (nextS_lt _)).2.2.1)
  clear ha hk C8
  go_wp2_with fail
  refine (tabWakes_any H.out _).mono ?_
  rintro e w10 ⟨rfl, hg⟩
  have G10 := Lib.hid (Gr.trans G1.out (Gr.trans C9.out hg))
  clear hg
  go_wp2
  go_ret
  exact ⟨rfl, G10.out⟩
end Go.Proofs.Ytkmnhcegaagokaa
