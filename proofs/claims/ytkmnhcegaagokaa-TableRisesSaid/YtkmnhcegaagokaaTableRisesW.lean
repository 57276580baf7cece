/-
  Law TableRises, walked: a table rises; two is never rarer than three or more, but where the peak stands.
-/
import Derived.Test.YtkmnhcegaagokaaDegreeSharesW
namespace Go.Proofs.Ytkmnhcegaagokaa
open Go.RowKit

set_option maxRecDepth 100000 in
set_option maxHeartbeats 1600000 in
theorem tableRises_walk {At : World → Value → (Nat → Prop) → Nat → Prop} (O : SolOk At) (l : Int) (w : World) :
    Calls Try.prog 4 #[.int .i64 l] w fun e w' => e = .returned (.bool true) ∧ Gr w w' := by
  have H := Lib.hid O
  clear O
  obtain ⟨pw, hp, hp2⟩ : ∃ p : Nat, l % 64 = p ∧ p < 64 := ⟨(l % 64).toNat, by omega, by omega⟩
  have HP := Lib.hid hp
  clear hp
  go_enter Try.func4, Try.ntmps4
  go_wp2_with fail
  refine (within_any l 64 (by omega) (by omega) _).mono ?_
  rintro e w' ⟨rfl, rfl⟩
  rw [HP.out]
  go_wp2_with fail
  obtain ⟨N, hN, hN1, hN2⟩ : ∃ N : Nat, (1 : Int) + pw = N ∧ 1 ≤ N ∧ N ≤ 64 := ⟨1 + pw, by omega, by omega, by omega⟩
  rw [hN]
  clear hN hp2 HP
  have hNi := i64_tab (l := (N : Int)) ⟨by omega, by omega⟩
  have HNI := Lib.hid hNi
  clear hNi
  refine (H.out.table N _ HNI.out).mono ?_
  rintro e w1 ⟨v, rfl, hz, hg⟩
  have G1 := Lib.hid hg
  rw [T.tab_in hN1 hN2] at hz
  obtain ⟨a, c, rfl, h1, h2, h3⟩ := Zs.at hz (by rw [T.tabZ_length]; omega)
  rw [T.tabZ_length] at h1 h3 ⊢
  have HC : Hid (∀ i, i < N → w1.cell? (a.add i) = some (.int .i64 ((T.sum N (i + 1) : Nat) : Int))) := Lib.hid (fun i hi => by rw [h3 i hi, T.tabZ_at hi])
  clear hz hg h3
  obtain ⟨ab, ao, asp⟩ := a
  have hsp : asp = none := by
    have := HC.out 0 (by omega)
    rw [show (⟨ab, ao, asp⟩ : Addr).add 0 = ⟨ab, ao, asp⟩ from by simp [Addr.add]] at this
    simpa using World.cell?_spot this
  subst hsp
  have HC : Hid (∀ i, i < N → w1.cell? ⟨ab, ao + i, none⟩ = some (.int .i64 ((T.sum N (i + 1) : Nat) : Int))) := Lib.hid (fun i hi => by
    rw [← Addr.add_mid]
    exact HC.out i hi)
  have q0 := HC.out 0 (by omega)
  rw [Nat.add_zero] at q0
  have b0 := T.sum_lt hN1 hN2 1 0 (by omega) (by omega)
  have b0' := T.sum_le hN1 hN2 (i := 1) (by omega)
  obtain ⟨x0, hx0⟩ : ∃ x, T.sum N (0 + 1) = x := ⟨_, rfl⟩
  rw [hx0] at q0
  rw [show T.sum N 1 = x0 from hx0] at b0 b0'
  have HX0 := Lib.hid hx0
  have g0 : decide (x0 = 0) = false := decide_eq_false (by omega)
  clear hx0
  go_wp2
  go_loopw [4] (fun i wr => w1 = wr ∧ ∃ r : Nat, r ≤ 8 ∧ i = .int .i64 r ∧ ∀ j, j < r → j * j < N) (fun i _ => 8 - (intOf i).toNat)
  case atStart => exact ⟨rfl, 0, by omega, rfl, by omega⟩
  case round =>
    obtain ⟨rfl, r, hr, rfl, hs⟩ := hrel
    have HS := Lib.hid hs
    obtain ⟨q, hq⟩ : ∃ q, r * r = q := ⟨_, rfl⟩
    have hq2 : (r : Int) * r = q := by rw [← hq, Int.natCast_mul]
    have hq3 : q ≤ 64 := by rw [← hq]; exact Nat.mul_le_mul hr hr
    have HQ := Lib.hid hq
    clear hs hq
    by_cases hlt : q < N
    · go_wp2
      refine ⟨⟨trivial, r + 1, ?_, by go_num, fun j hj => ?_⟩, ?_⟩
      · apply Classical.byContradiction
        intro c
        have : r = 8 := by omega
        rw [this] at HQ
        have := HQ.out
        omega
      · by_cases e : j = r
        · rw [e, HQ.out]; exact hlt
        · exact HS.out j (by omega)
      · have : r ≠ 8 := fun c => by
          rw [c] at HQ
          have := HQ.out
          omega
        simp [intOf]
        omega
    · have hroot := T.root_eq hN1 hN2 (by rw [HQ.out]; omega) HS.out
      obtain ⟨q1, q2, q3, q4⟩ := T.root_ok N (by omega) hN1
      rw [← hroot] at q1 q2 q3
      have HROOT := Lib.hid hroot
      clear hroot q4
      obtain ⟨p, hp⟩ : ∃ p, N / r = p := ⟨_, rfl⟩
      have hpi : (N : Int) / r = p := by rw [← hp, Int.natCast_ediv]
      have hp64 : p ≤ 64 := by rw [← hp]; exact Nat.le_trans (Nat.div_le_self _ _) hN2
      have HPK : Hid (T.peak N = p) := Lib.hid (by unfold T.peak; rw [← HROOT.out, hp])
      clear hp HQ HS q1
      go_wp2
      clear hq2 hq3 hlt
      go_loopw [6] (fun i wr => Gr w1 wr ∧ ∃ j : Nat, j + 1 ≤ N ∧ i = .int .i64 ((j + 1 : Nat) : Int)) (fun i _ => N - (intOf i).toNat)
      case atStart => exact ⟨Gr.refl _, 0, by omega, rfl⟩
      case round =>
        obtain ⟨hg, j, hj, rfl⟩ := hrel
        have HG := Lib.hid hg
        clear hg
        obtain ⟨k, hk⟩ : ∃ k, j + 1 = k := ⟨_, rfl⟩
        rw [hk] at hj ⊢
        have fk : (k : Int) - 1 = j := by omega
        by_cases hlt2 : k < N
        · have c1 := cell_gr HG.out (HC.out k (by omega))
          have c0 := cell_gr HG.out (HC.out j (by omega))
          have d0 := cell_gr HG.out q0
          have d1 := cell_gr HG.out (HC.out 1 (by omega))
          have hw1 : T.sum N (k + 1) = T.sum N k + T.weight N (k + 1) := rfl
          have hw2 : T.sum N 2 = x0 + T.weight N 2 := by rw [← HX0.out]; rfl
          have bk := T.sum_le hN1 hN2 (i := k + 1) (by omega)
          have b2 := T.sum_le hN1 hN2 (i := 2) (by omega)
          have hwp := T.weight_pos hN1 hN2 (k := k + 1) (by omega) (by omega)
          have HW2 : Hid (2 ≤ k → k + 1 ≠ p → T.weight N (k + 1) ≤ T.weight N 2) := Lib.hid (fun e1 e2 => T.weight_two N (by omega) k (by omega) e1 hlt2 (by rw [HPK.out]; exact e2))
          rw [hk] at c0
          rw [show T.sum N (1 + 1) = T.sum N 2 from rfl] at d1
          obtain ⟨y1, hy1⟩ : ∃ y, T.sum N (k + 1) = y := ⟨_, rfl⟩
          obtain ⟨y0, hy0⟩ : ∃ y, T.sum N k = y := ⟨_, rfl⟩
          obtain ⟨z1, hz1⟩ : ∃ y, T.sum N 2 = y := ⟨_, rfl⟩
          obtain ⟨wk, hwk⟩ : ∃ y, T.weight N (k + 1) = y := ⟨_, rfl⟩
          obtain ⟨w2, hw22⟩ : ∃ y, T.weight N 2 = y := ⟨_, rfl⟩
          rw [hy1, hy0, hwk] at hw1
          rw [hz1, hw22] at hw2
          rw [hy1] at c1 bk
          rw [hy0] at c0
          rw [hz1] at d1 b2
          rw [hwk] at hwp HW2
          rw [hw22] at HW2
          clear hy1 hy0 hz1 hwk hw22
          have f1 : (y1 : Int) - y0 = wk := by omega
          have f8 : (1 : Int) < N := by omega
          have f9 : (0 : Int) < N := by omega
          have fw : IntKind.i64.wrap ((k : Int) + 1) = (k : Int) + 1 := by rw [IntKind.wrap_i64]; omega
          have f2 : (z1 : Int) - x0 = w2 := by omega
          have bw : wk ≤ 8388608 := by omega
          have bw2 : w2 ≤ 8388608 := by omega
          clear hw1 hw2
          go_wp2
          go_quiet (fail)
          go_wp2
          have hgW : Hid (Gr wr (wr.drewN nq)) := Lib.hid (show Gr wr _ from Gr.refl wr)
          have d0' : (wr.drewN nq).cell? ⟨ab, ao, none⟩ = some (.int .i64 (x0 : Int)) := d0
          have d1' : (wr.drewN nq).cell? ⟨ab, ao + 1, none⟩ = some (.int .i64 (z1 : Int)) := d1
          generalize wr.drewN nq = W at *
          go_cut [68] (fun s wx => s = .bool false ∧ Gr W wx)
          case first =>
            by_cases e1 : 2 ≤ k
            · by_cases e2 : k + 1 = p
              · have f3 : ((k : Int) + 1 != p) = false := by simp; omega
                have f4 : (1 : Int) < k := by omega
                have f5 : decide ((1 : Int) < k) = true := decide_eq_true f4
                go_quiet (fail)
                go_wp2
                go_meet
                exact ⟨rfl, Gr.refl W⟩
              · have f3 : ((k : Int) + 1 != p) = true := by simp; omega
                have f4 : (1 : Int) < k := by omega
                have f5 : decide ((1 : Int) < k) = true := decide_eq_true f4
                have f6 := HW2.out e1 e2
                have f7 : decide (w2 < wk) = false := decide_eq_false (by omega)
                go_quiet (fail)
                go_wp2
                go_meet
                exact ⟨by first | rfl | rw [f7], Gr.refl W⟩
            · have f4 : ¬ (1 : Int) < k := by omega
              have f5 : decide ((1 : Int) < k) = false := decide_eq_false f4
              go_quiet (fail)
              go_wp2
              go_meet
              exact ⟨rfl, Gr.refl W⟩
          case rest =>
            obtain ⟨rfl, hg2⟩ := hcut
            have HG2 := Lib.hid (Gr.trans HG.out (Gr.trans hgW.out hg2))
            clear hg2
            go_wp2
            exact ⟨⟨HG2.out, j + 1, by omega, by rw [hk]; go_num⟩, by simp [intOf]; omega⟩
        · have hkN : k = N := by omega
          obtain ⟨N9, h9⟩ : ∃ N9, N - 1 = N9 := ⟨_, rfl⟩
          have f9 : (N : Int) - 1 = N9 := by omega
          have f8 : N9 < N := by omega
          have ql := cell_gr HG.out (HC.out N9 f8)
          have bl := T.sum_le hN1 hN2 (i := N9 + 1) (by omega)
          obtain ⟨y, hy⟩ : ∃ y : Int, ((T.sum N (N9 + 1) : Nat) : Int) = y := ⟨_, rfl⟩
          have bl2 : y < 8388608 := by omega
          rw [hy] at ql
          clear hy hk hkN fk hpi bl h9
          go_wp2_with fail
          refine (tabWakes_any H.out _).mono ?_
          rintro e w7 ⟨rfl, hg7⟩
          have G7 := Lib.hid (Gr.trans G1.out (Gr.trans HG.out hg7))
          clear hg7
          go_wp2
          go_ret
          exact ⟨rfl, G7.out⟩
end Go.Proofs.Ytkmnhcegaagokaa
