/-
  Law DegreeShares, walked: each degree has just as many numbers as its weight.
-/
import Derived.Test.YtkmnhcegaagokaaTl
namespace Go.Proofs.Ytkmnhcegaagokaa
open Go.RowKit

theorem tabZ_mono {N : Nat} (h1 : 1 ≤ N) (h2 : N ≤ 64) {i j : Nat} (hij : i < j) (hj : j < N) : (T.tabZ N).getD i 0 < (T.tabZ N).getD j 0 := by
  rw [T.tabZ_at (by omega), T.tabZ_at hj]
  have := T.sum_lt h1 h2 (j + 1) (i + 1) (by omega) (by omega)
  omega
theorem tabZ_pos {N : Nat} (h1 : 1 ≤ N) (h2 : N ≤ 64) {j : Nat} (hj : j < N) : 1 ≤ (T.tabZ N).getD j 0 := by
  rw [T.tabZ_at hj]
  have := T.sum_lt h1 h2 (j + 1) 0 (by omega) (by omega)
  omega
theorem deg_first {N : Nat} (_ : 1 ≤ N) (_ : N ≤ 64) {k : Nat} (hk : k < N) {x : Int} (hx0 : 0 ≤ x) (hlo : ∀ i, i < k → (T.tabZ N).getD i 0 ≤ x) (hhi : x < (T.tabZ N).getD k 0) : T.deg (T.tabZ N) x = ((k + 1 : Nat) : Int) :=
  T.deg_at hx0 (by rw [T.tabZ_length]; exact hk) hlo hhi
set_option maxRecDepth 100000 in
set_option maxHeartbeats 1600000 in
theorem degreeShares_walk {At : World → Value → (Nat → Prop) → Nat → Prop} (O : SolOk At) (l k : Int) (w : World) :
    Calls Try.prog 5 #[.int .i64 l, .int .i64 k] w fun e w' => e = .returned (.bool true) ∧ Gr w w' := by
  have H := Lib.hid O
  clear O
  obtain ⟨p, hp, hp2⟩ : ∃ p : Nat, l % 64 = p ∧ p < 64 := ⟨(l % 64).toNat, by omega, by omega⟩
  have HP := Lib.hid hp
  clear hp
  go_enter Try.func5, Try.ntmps5
  go_wp2_with fail
  refine (within_any l 64 (by omega) (by omega) _).mono ?_
  rintro e w' ⟨rfl, rfl⟩
  rw [HP.out]
  go_wp2_with fail
  obtain ⟨N, hN, hN1, hN2⟩ : ∃ N : Nat, (1 : Int) + p = N ∧ 1 ≤ N ∧ N ≤ 64 := ⟨1 + p, by omega, by omega, by omega⟩
  rw [hN]
  clear hN
  have hNi := i64_tab (l := (N : Int)) ⟨by omega, by omega⟩
  have HNI := Lib.hid hNi
  clear hNi
  refine (H.out.table N _ HNI.out).mono ?_
  rintro e w1 ⟨v, rfl, hz, hg⟩
  have HZ := Lib.hid hz
  have G1 := Lib.hid hg
  rw [T.tab_in hN1 hN2] at hz
  obtain ⟨a, c, rfl, h1, h2, h3⟩ := Zs.at hz (by rw [T.tabZ_length]; omega)
  rw [T.tabZ_length] at h1 h3 HZ ⊢
  have HC := Lib.hid h3
  clear hz hg h3
  obtain ⟨m, hm, hm2⟩ : ∃ m : Nat, k % N = m ∧ m < N := by
    have q1 := Int.emod_nonneg k (by omega : (N : Int) ≠ 0)
    have q2 := Int.emod_lt_of_pos k (by omega : (0 : Int) < N)
    exact ⟨(k % N).toNat, by omega, by omega⟩
  have HM := Lib.hid hm
  clear hm
  go_wp2_with fail
  refine (within_any k N (by omega) (by omega) _).mono ?_
  rintro e w' ⟨rfl, rfl⟩
  rw [HM.out]
  have qm := HC.out m hm2
  obtain ⟨N9, h9⟩ : ∃ N9, N - 1 = N9 := ⟨_, rfl⟩
  have f9 : (N : Int) - 1 = N9 := by omega
  have ql := HC.out N9 (by omega)
  have hN9 : N9 < N := by omega
  have BM := tabZ_pos hN1 hN2 hm2
  have HD2 : Hid (T.deg (T.tabZ N) ((T.tabZ N).getD m 0 - 1) = ((m + 1 : Nat) : Int)) := Lib.hid (deg_first hN1 hN2 hm2 (by omega) (fun i hi => by have := tabZ_mono hN1 hN2 hi hm2; omega) (by omega))
  have HD3 : Hid (T.deg (T.tabZ N) ((T.tabZ N).getD N9 0) = 0) := Lib.hid (T.deg_none fun i hi => by
    rw [T.tabZ_length] at hi
    by_cases e : i = N9
    · rw [e]; exact Int.le_refl _
    · exact Int.le_of_lt (tabZ_mono hN1 hN2 (by omega) hN9))
  have BMU : (T.tabZ N).getD m 0 < 8388608 := by
    rw [T.tabZ_at hm2]
    have := T.sum_le hN1 hN2 (i := m + 1) (by omega)
    omega
  have BLU : (T.tabZ N).getD N9 0 < 8388608 := by
    rw [T.tabZ_at hN9]
    have := T.sum_le hN1 hN2 (i := N9 + 1) (by omega)
    omega
  have BL := tabZ_pos hN1 hN2 hN9
  obtain ⟨xm, hxm⟩ : ∃ x, (T.tabZ N).getD m 0 = x := ⟨_, rfl⟩
  obtain ⟨xl, hxl⟩ : ∃ x, (T.tabZ N).getD N9 0 = x := ⟨_, rfl⟩
  rw [hxm] at qm BM HD2 BMU
  rw [hxl] at ql BL HD3 BLU
  have HXM := Lib.hid hxm
  clear hxm hxl h9
  go_upto_if 20 with fail
  go_cut [6] (fun s wx => ∃ x : Int, s = .int .i64 x ∧ 0 ≤ x ∧ x < 8388608 ∧ T.deg (T.tabZ N) x = ((m + 1 : Nat) : Int) ∧ w1 = wx)
  case first =>
    by_cases hm0 : m = 0
    · subst hm0
      go_wp2_with fail
      go_meet
      exact ⟨0, rfl, by omega, by omega, deg_first hN1 hN2 hm2 (by omega) (fun i hi => by omega) (by rw [HXM.out]; omega), rfl⟩
    · obtain ⟨j, hj⟩ : ∃ j, m = j + 1 := ⟨m - 1, by omega⟩
      have fj : (m : Int) - 1 = j := by omega
      have hm1 : 0 < m := by omega
      have qj := HC.out j (by omega)
      have bj := tabZ_pos hN1 hN2 (by omega : j < N)
      have bl := tabZ_mono hN1 hN2 (by omega : j < m) hm2
      have HDJ : Hid (T.deg (T.tabZ N) ((T.tabZ N).getD j 0) = ((m + 1 : Nat) : Int)) := Lib.hid (deg_first hN1 hN2 hm2 (by omega) (fun i hi => by
        by_cases e : i = j
        · rw [e]; exact Int.le_refl _
        · exact Int.le_of_lt (tabZ_mono hN1 hN2 (by omega) (by omega))) bl)
      rw [HXM.out] at bl
      obtain ⟨xj, hxj⟩ : ∃ x, (T.tabZ N).getD j 0 = x := ⟨_, rfl⟩
      rw [hxj] at qj bj bl HDJ
      clear hxj hj hm0
      go_wp2_with fail
      go_meet
      exact ⟨xj, rfl, by omega, by omega, HDJ.out, rfl⟩
  case rest =>
    obtain ⟨x, rfl, hx0, hx1, hdx, rfl⟩ := hcut
    have HDX := Lib.hid hdx
    have HTI := Lib.hid (T.tab_in hN1 hN2)
    have HZ2 := Lib.hid HZ.out
    clear hdx HXM
    go_wp2_with fail
    refine (H.out.degree _ N x _ HNI.out (by unfold I64; omega) HZ.out).mono ?_
    rw [HTI.out, HDX.out]
    rintro e w2 ⟨rfl, hg2⟩
    have G2 := Lib.hid (Gr.trans G1.out hg2)
    have Z2 := Lib.hid (HZ.out.grown hg2)
    have qm2 := cell_gr hg2 qm
    have ql2 := cell_gr hg2 ql
    clear hg2 qm ql
    go_wp2_with fail
    refine (H.out.degree _ N (xm - 1) _ HNI.out (by unfold I64; omega) Z2.out).mono ?_
    rw [HTI.out, HD2.out]
    rintro e w3 ⟨rfl, hg3⟩
    have G3 := Lib.hid (Gr.trans G2.out hg3)
    have Z3 := Lib.hid (Z2.out.grown hg3)
    have ql3 := cell_gr hg3 ql2
    clear hg3 ql2 qm2
    go_wp2_with fail
    refine (H.out.degree _ N xl _ HNI.out (by unfold I64; omega) Z3.out).mono ?_
    rw [HTI.out, HD3.out]
    rintro e w4 ⟨rfl, hg4⟩
    have G4 := Lib.hid (Gr.trans G3.out hg4)
    have Z4 := Lib.hid (Z3.out.grown hg4)
    clear hg4 ql3
    go_wp2_with fail
    refine (H.out.degree _ N (-1) _ HNI.out (by unfold I64; omega) Z4.out).mono ?_
    rw [T.deg_low (by omega)]
    rintro e w5 ⟨rfl, hg5⟩
    have G5 := Lib.hid (Gr.trans G4.out hg5)
    clear hg5
    go_wp2_with fail
    refine (H.out.degree _ 0 0 _ (by unfold I64; omega) (by unfold I64; omega) (by rw [T.tab_out (by omega)]; exact Zs.nil _)).mono ?_
    rw [T.tab_out (by omega), T.deg_nil]
    rintro e w6 ⟨rfl, hg6⟩
    have G6 := Lib.hid (Gr.trans G5.out hg6)
    clear hg6
    go_wp2_with fail
    refine (tabWakes_any H.out _).mono ?_
    rintro e w7 ⟨rfl, hg7⟩
    have G7 := Lib.hid (Gr.trans G6.out hg7)
    clear hg7
    go_wp2
    go_ret
    exact ⟨rfl, G7.out⟩
end Go.Proofs.Ytkmnhcegaagokaa
