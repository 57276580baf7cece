/-
  Law MatSolves, walked: a product is solved by its right factor.
-/
import Derived.Test.YtgbdhdjcjilooaaCo
import Derived.Deep.RegionHeld3
namespace Go.Proofs.Ytgbdhdjcjilooaa
open Go.RowKit

set_option maxRecDepth 100000 in
set_option maxHeartbeats 1600000 in
theorem matSolves_walk (R : MatOk) (vl vr : Value) (l r : List Int) (n k : Int) (w : World) (hl : Bs w vl l) (hr : Bs w vr r) :
    Calls Try.prog 5 #[vl, vr, .int .i64 n, .int .i64 k] w fun e w' => e = .returned (.bool true) ∧ Gr w w' := by
  have H := Lib.hid R
  have HL := Lib.hid hl
  have HR := Lib.hid hr
  clear R hl hr
  obtain ⟨p, hp, hp2⟩ : ∃ p : Nat, n % 10 = p ∧ p < 10 := ⟨(n % 10).toNat, by omega, by omega⟩
  obtain ⟨q, hq, hq2⟩ : ∃ q : Nat, k % 4 = q ∧ q < 4 := ⟨(k % 4).toNat, by omega, by omega⟩
  have HP := Lib.hid hp
  have HQ := Lib.hid hq
  clear hp hq
  go_enter Try.func5, Try.ntmps5
  go_wp2_with fail
  refine (within_any n 10 (by omega) (by omega) _).mono ?_
  rintro e w' ⟨rfl, rfl⟩
  rw [HP.out]
  go_wp2_with fail
  refine (within_any k 4 (by omega) (by omega) _).mono ?_
  rintro e w' ⟨rfl, rfl⟩
  rw [HQ.out]
  go_wp2_with fail
  refine (cut_any vl l 130 w HL.out (by omega)).mono ?_
  rintro e w' ⟨v1, rfl, hv1, rfl⟩
  have hlen1 : (l.take 130).length ≤ 130 := by simp; omega
  generalize l.take 130 = l1 at *
  have V1 := Lib.hid hv1
  clear hv1
  go_wp2_with fail
  obtain ⟨N, hN, hN1, hN2⟩ : ∃ N : Nat, (1 : Int) + p = N ∧ 1 ≤ N ∧ N ≤ 10 := ⟨1 + p, by omega, by omega, by omega⟩
  rw [hN]
  have HN := Lib.hid hN
  clear hN
  refine (even_any v1 N l1 _ V1.out hN1 (by omega) (by omega)).mono ?_
  rintro e w1 ⟨va, rfl, ha, hg1⟩
  have WA := Lib.hid (even_wide (Bs.byt' V1.out) hN1 : Wide N (evenL N l1))
  have hAl : (evenL N l1).length ≤ 14 := by rw [evenL_length]; exact evenN_le _ _
  generalize evenL N l1 = A at *
  have VA := Lib.hid (Rws.bss ha)
  have G1 := Lib.hid hg1
  clear ha hg1
  go_wp2_with fail
  refine (cut_any vr r 60 _ (Bs.grown HR.out G1.out) (by omega)).mono ?_
  rintro e w' ⟨v2, rfl, hv2, rfl⟩
  have hlen2 : (r.take 60).length ≤ 60 := by simp; omega
  generalize r.take 60 = l2 at *
  have V2 := Lib.hid hv2
  clear hv2
  go_wp2_with fail
  obtain ⟨K, hK, hK1, hK2⟩ : ∃ K : Nat, (1 : Int) + q = K ∧ 1 ≤ K ∧ K ≤ 4 := ⟨1 + q, by omega, by omega, by omega⟩
  rw [hK]
  have HK := Lib.hid hK
  clear hK
  refine (even_any v2 K l2 _ V2.out hK1 (by omega) (by omega)).mono ?_
  rintro e w2 ⟨vx, rfl, hx, hg2⟩
  have WX := Lib.hid (even_wide (Bs.byt' V2.out) hK1 : Wide K (evenL K l2))
  have hXl : (evenL K l2).length ≤ 14 := by rw [evenL_length]; exact evenN_le _ _
  generalize evenL K l2 = X at *
  have VX := Lib.hid (Rws.bss hx)
  have VA2 := Lib.hid (Bss.grown VA.out hg2)
  have G2 := Lib.hid (Gr.trans G1.out hg2)
  clear hx hg2 G1 VA V1 V2 HL HR
  obtain ⟨oa, ca, rfl, a1, a2, a3, a4⟩ := VA2.out
  obtain ⟨ox, cx, rfl, x1, x2, x3, x4⟩ := VX.out
  generalize hm : A.length = m at *
  generalize hm2 : X.length = m2 at *
  have HM := Lib.hid hm
  have HM2 := Lib.hid hm2
  clear a2 a3 a4 x2 x3 x4 hm hm2 HN HK HP HQ
  by_cases hno : m = 0 ∨ m2 < N
  · have WK := Lib.hid (matWakes_any H.out)
    have hb : ((m : Int) == 0) = true ∨ (((m : Int) == 0) = false ∧ m2 < N) := by
      by_cases e : m = 0
      · exact .inl (by simp; omega)
      · exact .inr ⟨by simp; omega, by omega⟩
    clear hno
    rcases hb with hb | ⟨hb, hb2⟩
    all_goals
      go_wp2_with (first | (go_at_call 16; refine (WK.out _).mono ?_; rintro e w3 ⟨rfl, hg3⟩; have HG3 := Lib.hid hg3; clear hg3))
      go_ret
      exact ⟨rfl, Gr.trans G2.out HG3.out⟩
  · have hm0 : 0 < m := by omega
    have hmN : N ≤ m2 := by omega
    have hb : ((m : Int) == 0) = false := by simp; omega
    clear hno
    have hA0 : A ≠ [] := fun c => by
      have := HM.out
      rw [c] at this
      simp at this
      omega
    have HA0 := Lib.hid hA0
    clear hA0
    go_wp2_with fail
    refine (new_st _).mono ?_
    rintro e w3 ⟨b, rfl, hs⟩
    have F3 := Lib.hid hs.2
    have G3 := Lib.hid (Gr.trans G2.out hs.1)
    have VA3 := Lib.hid (Bss.grown VA2.out hs.1)
    have VX3 := Lib.hid (Bss.grown (Bss.take VX.out HM2.out N hmN) hs.1)
    have WX3 := Lib.hid (WX.out.take N)
    have hxl : (X.take N).length = N := by rw [List.length_take, HM2.out]; omega
    have HXL := Lib.hid hxl
    clear hs G2 VA2 VX WX HM2 x1 hxl hXl hmN hb
    generalize X.take N = Y at *
    have hwA : wd A = N := WA.out.wd (by rw [HM.out]; exact hm0)
    have hwY : wd Y = K := WX3.out.wd (by rw [HXL.out]; omega)
    have HWA := Lib.hid hwA
    have HWY := Lib.hid hwY
    have hMA := Lib.hid (Wide.may WA.out (by omega))
    have hMY := Lib.hid (Wide.may WX3.out (by omega))
    clear hwA hwY
    go_wp2_with fail
    refine (H.out.mul _ _ _ A Y _ F3.out VA3.out VX3.out (by rw [HM.out]; omega) (by rw [HXL.out]; omega) hMA.out hMY.out (.inr (by rw [HWA.out, HXL.out]))).mono ?_
    rintro e w4 ⟨vb, B, rfl, hb4, hg4, hmul⟩
    rw [HWY.out] at hmul
    have hbl : B.length = m := by rw [hmul.length, HM.out]
    have hwB : wd B = K := hmul.1.wd (by omega)
    have HWB := Lib.hid hwB
    have HMUL := Lib.hid hmul
    have VB4 := Lib.hid hb4
    have hMB := Lib.hid (Wide.may hmul.1 (by omega))
    obtain ⟨ob, cb, rfl, p1, p2, p3, p4⟩ := hb4
    rw [hbl] at VB4 p1 ⊢
    have HBL := Lib.hid hbl
    have G4 := Lib.hid hg4
    clear p2 p3 p4 hbl hwB hmul hg4
    go_wp2_with fail
    refine (H.out.solve _ _ _ A B _ (IsF.grown F3.out G4.out) (Bss.grown VA3.out G4.out) VB4.out (by rw [HM.out]; omega) (by rw [HM.out, HBL.out]) hMA.out hMB.out (fun _ => by rw [HWA.out, HWB.out]; omega)).mono ?_
    rintro e w5 ⟨vy, ny, S, rfl, hy5, hg5, hsol⟩
    have G5 := Lib.hid (Gr.trans G4.out hg5)
    have G45 := Lib.hid hg5
    have VS5 := Lib.hid hy5
    have SOL := Lib.hid hsol
    clear hg5 hsol hy5
    go_wp2_with fail
    refine (H.out.rank _ _ A _ (IsF.grown F3.out G5.out) (Bss.grown VA3.out G5.out) (by rw [HM.out]; omega) hMA.out).mono ?_
    rintro e w6 ⟨rfl, hg6⟩
    have G6 := Lib.hid (Gr.trans G5.out hg6)
    have G46 := Lib.hid (Gr.trans G45.out hg6)
    have G56 := Lib.hid hg6
    clear hg6
    have hrN : rkL A ≤ N := rkL_le_cols WA.out
    by_cases hlow : rkL A < N
    · obtain ⟨rfl, rfl⟩ := sol_low HA0.out (by rw [HWA.out]; exact hlow) SOL.out
      obtain ⟨oy, cy, rfl, y1, y2, y3, y4⟩ := VS5.out
      clear y2 y3 y4 SOL
      generalize rkL A = ρ at *
      go_wp2_with fail
      refine (matWakes_any H.out _).mono ?_
      rintro e w11 ⟨rfl, hg11⟩
      have HG11 := Lib.hid (Gr.trans G6.out hg11)
      clear hg11
      go_wp2_with fail
      go_ret
      exact ⟨rfl, Gr.trans G3.out HG11.out⟩
    · have hfull : rkL A = wd A := by rw [HWA.out]; omega
      obtain ⟨rfl, rfl⟩ := sol_back (by rw [HWA.out]; exact WA.out) HA0.out WX3.out (by rw [HXL.out, HWA.out]) HMUL.out HWB.out hfull SOL.out
      have HFULL := Lib.hid hfull
      have hrn : rkL A = N := by omega
      clear SOL hfull
      rw [hrn]
      clear hrn hlow hrN
      go_wp2_with fail
      have hB0 : (B.getD 0 []).length = K := (HMUL.out.1.at 0 (by rw [HBL.out]; exact hm0)).1
      have HB0 := Lib.hid hB0
      clear hB0
      refine (copies_own _ B _ (Bss.grown VB4.out G46.out) (by rw [HBL.out]; omega) (fun i hi => by
        have := (HMUL.out.1.at i hi).1
        omega)).mono ?_
      rintro e w7 ⟨vc, rfl, hc7, hg7⟩
      have G7 := Lib.hid (Gr.trans G6.out hg7)
      obtain ⟨gv, cv, g, c, rfl, q1, q2, q3, q4, q5, q6, q7⟩ := hc7.poke (by rw [HBL.out]; exact hm0) (by rw [HB0.out]; omega)
      rw [HBL.out] at q5 ⊢
      rw [HB0.out] at q1 q6
      have POKE := Lib.hid q7
      clear q7 hc7
      generalize (B.getD 0 []).getD 0 0 = z0 at *
      go_wp2_with fail
      have hz : Byt ((z0 + 1) % 256) := by unfold Byt; omega
      have hC := POKE.out _ hz
      have hg8 : Gr w6 (w7.setCell ⟨g, 0, none⟩ (.int .u8 ((z0 + 1) % 256))) := Gr.setCell hg7 q4 _
      have hWC : Wide K (B.set 0 ((B.getD 0 []).set 0 ((z0 + 1) % 256))) := HMUL.out.1.set 0 (by rw [List.length_set, HB0.out]) (fun x hx => by
        rcases List.mem_or_eq_of_mem_set hx with hx | rfl
        · exact (HMUL.out.1.at 0 (by rw [HBL.out]; exact hm0)).2 x hx
        · exact hz)
      have hCl : (B.set 0 ((B.getD 0 []).set 0 ((z0 + 1) % 256))).length = m := by rw [List.length_set, HBL.out]
      rw [HBL.out] at hC
      generalize w7.setCell ⟨g, 0, none⟩ (.int .u8 ((z0 + 1) % 256)) = w8 at *
      generalize B.set 0 ((B.getD 0 []).set 0 ((z0 + 1) % 256)) = C at *
      have G8 := Lib.hid (Gr.trans G6.out hg8)
      have VC8 := Lib.hid hC
      have WC := Lib.hid hWC
      have HCL := Lib.hid hCl
      have hwC : wd C = K := hWC.wd (by omega)
      have HWC := Lib.hid hwC
      have hMC := Lib.hid (Wide.may hWC (by omega))
      have VY8 := Lib.hid (Bss.grown VS5.out (Gr.trans G56.out hg8))
      clear POKE hC hWC hCl hg8 hz q1 q2 q3 q4 q6 hwC VS5 hg7 G7
      refine (H.out.solve _ _ _ A C _ (IsF.grown F3.out G8.out) (Bss.grown VA3.out G8.out) VC8.out (by rw [HM.out]; omega) (by rw [HM.out, HCL.out]) hMA.out hMC.out (fun _ => by rw [HWA.out, HWC.out]; omega)).mono ?_
      rintro e w9 ⟨vz, nz, Z, rfl, hz9, hg9, hsol⟩
      have G9 := Lib.hid (Gr.trans G8.out hg9)
      have VC9 := Lib.hid (Bss.grown VC8.out hg9)
      have VY9 := Lib.hid (Bss.grown VY8.out hg9)
      have VZ9 := Lib.hid hz9
      have SOL := Lib.hid (sol_any (by rw [HWA.out]; exact WA.out) HA0.out (by rw [HWC.out]; exact WC.out) (by rw [HCL.out, HM.out]) HFULL.out hsol)
      clear hg9 hsol hz9
      rcases SOL.out with ⟨rfl, s1, s2, s3⟩ | ⟨rfl, s1⟩
      · rw [HWC.out] at s2 s3
        rw [HWA.out] at s1
        have S1 := Lib.hid s1
        have S2 := Lib.hid s2
        have S3 := Lib.hid s3
        have hwZ : wd Z = K := s3.wd (by omega)
        have HWZ := Lib.hid hwZ
        have hMZ := Lib.hid (Wide.may s3 (by omega))
        clear s1 s2 s3 SOL hwZ
        go_wp2_with fail
        refine (H.out.mul _ _ _ A Z _ (IsF.grown F3.out G9.out) (Bss.grown VA3.out G9.out) VZ9.out (by rw [HM.out]; omega) (by rw [S1.out]; omega) hMA.out hMZ.out (.inr (by rw [HWA.out, S1.out]))).mono ?_
        rintro e w10 ⟨vd, D, rfl, hd10, hg10, hmul⟩
        rw [HWZ.out] at hmul
        obtain rfl : D = C := hmul.unique S2.out
        have G10 := Lib.hid (Gr.trans G9.out hg10)
        have VD10 := Lib.hid hd10
        have VC10 := Lib.hid (Bss.grown VC9.out hg10)
        have VY10 := Lib.hid (Bss.grown VY9.out hg10)
        clear hmul hg10 hd10
        go_wp2_with fail
        refine (rows_any _ _ _ _ _ VD10.out VC10.out).mono ?_
        rintro e w11 ⟨rfl, hg11⟩
        rw [show (D == D) = true by simp]
        have G11 := Lib.hid (Gr.trans G10.out hg11)
        have VY11 := Lib.hid (Bss.grown VY10.out hg11)
        clear hg11
        go_wp2_with fail
        refine (rows_any _ _ _ _ _ (Bss.grown VX3.out G11.out) VY11.out).mono ?_
        rintro e w12 ⟨rfl, hg12⟩
        rw [show (S == S) = true by simp]
        have G12 := Lib.hid (Gr.trans G11.out hg12)
        clear hg12
        go_wp2_with fail
        refine (matWakes_any H.out _).mono ?_
        rintro e w13 ⟨rfl, hg13⟩
        have HG13 := Lib.hid (Gr.trans G12.out hg13)
        clear hg13
        go_wp2_with fail
        go_ret
        exact ⟨rfl, Gr.trans G3.out HG13.out⟩
      · rw [HM.out, HWA.out] at s1
        have hb : ((m : Int) == (N : Int)) = false := by simp; omega
        clear s1 SOL
        go_wp2_with fail
        refine (rows_any _ _ _ _ _ (Bss.grown VX3.out G9.out) VY9.out).mono ?_
        rintro e w12 ⟨rfl, hg12⟩
        rw [show (S == S) = true by simp]
        have G12 := Lib.hid (Gr.trans G9.out hg12)
        clear hg12
        go_wp2_with fail
        refine (matWakes_any H.out _).mono ?_
        rintro e w13 ⟨rfl, hg13⟩
        have HG13 := Lib.hid (Gr.trans G12.out hg13)
        clear hg13
        go_wp2_with fail
        go_ret
        exact ⟨rfl, Gr.trans G3.out HG13.out⟩
end Go.Proofs.Ytgbdhdjcjilooaa
