/-
  Law MatReduced, walked: what rows are reduced to.
-/
import Derived.Test.YtgbdhdjcjilooaaMr
import Derived.BigQuiet
namespace Go.Proofs.Ytgbdhdjcjilooaa
open Go.RowKit

set_option maxRecDepth 100000 in
set_option maxHeartbeats 3200000 in
theorem matReduced_walk (R : MatOk) (E : LeadOk) (vl : Value) (l : List Int) (n turn : Int) (w : World) (hl : Bs w vl l) :
    Calls Try.prog 4 #[vl, .int .i64 n, .int .i64 turn] w fun e w' => e = .returned (.bool true) ∧ Gr w w' := by
  obtain ⟨i0, hi0, hz0, hz1, hz2⟩ := info_parts info22
  have I0 := Lib.hid hi0
  have I1 := Lib.hid hz0
  have I2 := Lib.hid hz1
  have I3 := Lib.hid hz2
  clear hi0 hz0 hz1 hz2
  have H := Lib.hid R
  have HL := Lib.hid hl
  have HE := Lib.hid E
  clear R E hl
  obtain ⟨p, hp, hp2⟩ : ∃ p : Nat, n % 12 = p ∧ p < 12 := ⟨(n % 12).toNat, by omega, by omega⟩
  have HP := Lib.hid hp
  clear hp
  go_enter Try.func4, Try.ntmps4
  go_wp2_with fail
  refine (within_any n 12 (by omega) (by omega) _).mono ?_
  rintro e w' ⟨rfl, rfl⟩
  rw [HP.out]
  go_wp2_with fail
  refine (cut_any vl l 140 w HL.out (by omega)).mono ?_
  rintro e w' ⟨v1, rfl, hv1, rfl⟩
  have hlen1 : (l.take 140).length ≤ 140 := by simp; omega
  generalize l.take 140 = l1 at *
  have V1 := Lib.hid hv1
  clear hv1
  go_wp2_with fail
  obtain ⟨N, hN, hN1, hN2⟩ : ∃ N : Nat, (1 : Int) + p = N ∧ 1 ≤ N ∧ N ≤ 12 := ⟨1 + p, by omega, by omega, by omega⟩
  rw [hN]
  have HN := Lib.hid hN
  clear hN
  refine (even_any v1 N l1 _ V1.out hN1 (by omega) (by omega)).mono ?_
  rintro e w1 ⟨va, rfl, ha, hg1⟩
  have WA := Lib.hid (even_wide (Bs.byt' V1.out) hN1 : Wide N (evenL N l1))
  have hAl : (evenL N l1).length ≤ 14 := by rw [evenL_length]; exact evenN_le _ _
  generalize evenL N l1 = A at *
  have VA := Lib.hid (Rws.bss ha)
  have G1 := Lib.hid hg1
  clear ha hg1
  go_wp2_with fail
  refine (new_st _).mono ?_
  rintro e w3 ⟨b, rfl, hs⟩
  have F3 := Lib.hid hs.2
  have G3 := Lib.hid (Gr.trans G1.out hs.1)
  have VA3 := Lib.hid (Bss.grown VA.out hs.1)
  have hMA := Lib.hid (Wide.may WA.out (by omega))
  clear hs G1 VA V1 HL HP HN
  go_wp2_with fail
  refine (H.out.reduce _ _ A _ F3.out VA3.out (by omega) hMA.out).mono ?_
  rintro e w4 ⟨vr, R, rfl, hr4, hg4, hred⟩
  have RED := Lib.hid (hred.widen WA.out)
  have G4 := Lib.hid hg4
  have VR4 := Lib.hid hr4
  obtain ⟨ps, hra⟩ := RED.out.redAt
  have RA := Lib.hid hra
  obtain ⟨oa, ca, rfl, a1, a2, a3, a4⟩ := VA3.out
  obtain ⟨or', cr, rfl, r1, r2, r3, r4⟩ := hr4
  have hle := RED.out.le WA.out
  generalize hm : A.length = m at *
  generalize hs : R.length = s at *
  have HM := Lib.hid hm
  have HS := Lib.hid hs
  have HRC := Lib.hid r4
  have HAN : Hid (oa = none → m = 0 ∧ ca = 0) := Lib.hid (fun h => ⟨by have := a3 h; omega, a3 h⟩)
  have HRN : Hid (or' = none → s = 0 ∧ cr = 0) := Lib.hid (fun h => ⟨by have := r3 h; omega, r3 h⟩)
  clear a2 a3 a4 r2 r3 r4 hm hs hra hred hg4
  go_wp2_with fail
  go_loop [31] (fun i => ∃ k : Nat, k ≤ s ∧ i = .int .i64 k) (fun i => s - (intOf i).toNat)
  case atStart => exact ⟨0, by omega, rfl⟩
  case round =>
    obtain ⟨k, hk, rfl⟩ := hrel
    by_cases hlt : k < s
    · cases or' with
      | none => exact absurd (HRN.out rfl).1 (by omega)
      | some br =>
        obtain ⟨u, q1, hu⟩ := HRC.out br rfl k hlt
        obtain ⟨_, ou, cu, rfl, _, _, _, _⟩ := hu
        rw [(RA.out.wide.at k (by rw [HS.out]; exact hlt)).1] at q1
        go_wp2
        exact ⟨⟨k + 1, by omega, by go_num⟩, by simp [intOf]; omega⟩
    · obtain rfl : s = k := by omega
      go_wp2
      go_loopw [10, 44] (fun z i wr => ∃ k : Nat, k ≤ s ∧ i = .int .i64 k ∧ z = .int .i64 (lastZ ps k) ∧ Gr w4 wr) (fun _ i _ => s - (intOf i).toNat)
      case atStart => exact ⟨0, by omega, rfl, rfl, Gr.refl _⟩
      case round =>
        obtain ⟨wo, hwo⟩ : ∃ x, x = wr := ⟨_, rfl⟩
        subst hwo
        obtain ⟨k, hk, rfl, rfl, hg⟩ := hrel
        by_cases hlt : k < s
        · cases or' with
          | none => exact absurd (HRN.out rfl).1 (by omega)
          | some br =>
            obtain ⟨u, q0, hu⟩ := HRC.out br rfl k hlt
            have q1 := cell_grown hg q0
            have hks : k < R.length := by rw [HS.out]; exact hlt
            have hlead := RA.out.lead k hks
            have hlast := RA.out.last k hks
            have hplt := RA.out.lt k hks
            have hone := RA.out.one k hks
            have hwl := (RA.out.wide.at k hks).1
            obtain ⟨ou, cu, rfl⟩ := hu.form
            rw [hwl] at q1 hu
            have HU := Lib.hid hu
            have HG := Lib.hid hg
            have HLD := Lib.hid hlead
            have HWL := Lib.hid hwl
            have HONE := Lib.hid hone
            have HAP : Hid (∀ j, j < s → j ≠ k → (R.getD j []).getD (ps.getD k 0) 0 = 0) := Lib.hid (fun j hj hne => RA.out.apart k j hks (by rw [HS.out]; exact hj) hne)
            have HLZ : Hid (lastZ ps (k + 1) = (ps.getD k 0 : Nat)) := Lib.hid rfl
            clear hu hg hlead hwl hone hks q0
            generalize ps.getD k 0 = pk at *
            generalize lastZ ps k = z at *
            go_wp2_with fail
            refine (HE.out _ (R.getD k []) _ (Bs.grown HU.out HG.out) (by rw [HWL.out]; omega)).mono ?_
            rw [HLD.out]
            rintro e w5 ⟨rfl, hg5⟩
            have HG5 := Lib.hid (Gr.trans HG.out hg5)
            have q5 := cell_grown hg5 q1
            obtain ⟨a, c', he, _, _, hcell⟩ := Bs.at (Bs.grown HU.out HG5.out) (by rw [HWL.out]; omega)
            obtain ⟨rfl, -, -⟩ : ou = some a ∧ N = (R.getD k []).length ∧ cu = c' := by simpa using he
            have q6 := hcell pk (by rw [HWL.out]; exact hplt)
            rw [HONE.out] at q6
            have HNC : Hid (∀ j, j < s → j ≠ k → ∃ aj cj, w5.cell? (br.add j) = some (.slice (some aj) N cj) ∧ w5.cell? (aj.add pk) = some (.int .u8 0)) := Lib.hid (fun j hj hne => by
              obtain ⟨v, t1, t2⟩ := HRC.out br rfl j hj
              have hlj := (RA.out.wide.at j (by rw [HS.out]; exact hj)).1
              obtain ⟨aj, cj, rfl, _, _, t3⟩ := Bs.at (Bs.grown t2 HG5.out) (by rw [hlj]; omega)
              have t4 := t3 pk (by rw [hlj]; exact hplt)
              rw [HAP.out j hj hne] at t4
              rw [hlj] at t1
              exact ⟨aj, cj, cell_grown HG5.out t1, t4⟩)
            clear hg5 he hcell q1
            go_wp2
            go_loop [67] (fun i => ∃ j : Nat, j ≤ s ∧ i = .int .i64 j) (fun i => s - (intOf i).toNat)
            case atStart => exact ⟨0, by omega, rfl⟩
            case round =>
              obtain ⟨j, hj, rfl⟩ := hrel
              by_cases hlt2 : j < s
              · by_cases hjk : j = k
                · have hb : ((j : Int) != (k : Int)) = false := by simp; omega
                  clear hjk
                  go_wp2
                  exact ⟨⟨j + 1, by omega, by go_num⟩, by simp [intOf]; omega⟩
                · obtain ⟨aj, cj, t1, t2⟩ := HNC.out j hlt2 hjk
                  have hb : ((j : Int) != (k : Int)) = true := by simp; omega
                  clear hjk
                  go_wp2
                  exact ⟨⟨j + 1, by omega, by go_num⟩, by simp [intOf]; omega⟩
              · obtain rfl : s = j := by omega
                go_wp2
                exact ⟨⟨k + 1, by omega, by go_num, by rw [HLZ.out], HG5.out⟩, by simp [intOf]; omega⟩
        · obtain rfl : s = k := by omega
          have HG := Lib.hid hg
          clear hg hlt
          obtain ⟨ua, hva⟩ := Bss.vals (Bss.grown VA3.out (Gr.trans G4.out HG.out))
          obtain ⟨ur, hvr⟩ := Bss.vals (Bss.grown VR4.out HG.out)
          have HVA := Lib.hid hva
          have HVR := Lib.hid hvr
          clear hva hvr
          go_wp2_with (first
            | (at_builtin; refine wpList_append_in rfl _ _ _ rfl wo.heap.size 22 i0 _ 24 Try.underlying24 I0.out I1.out I2.out I3.out rfl (.slice none 0 0) 0 [] rfl (World.ownsRow_nil _ _ _ _) oa m ca ua rfl HAN.out (by rw [HVA.out.1, HM.out]) HVA.out.2.1 HVA.out.2.2.2 (by unfold maxLen; omega) (by omega) (Nat.le_refl _) ?_; intro v5 w5 hown5 hgrow5)
            | (at_builtin; refine wpList_append_in rfl _ _ _ rfl wo.heap.size 22 i0 _ 24 Try.underlying24 I0.out I1.out I2.out I3.out rfl v5 (0 + m) ([] ++ ua) rfl hown5 or' s cr ur rfl HRN.out (by rw [HVR.out.1, HS.out]) ((HVR.out.grown (Gr.append (Gr.refl wo) hgrow5 (fun _ h => by cases h))).2.1) HVR.out.2.2.2 (by unfold maxLen; omega) (by omega) hgrow5.size ?_; intro v6 w6 hown6 hgrow6))
          have hg5 : Gr wo w5 := Gr.append (Gr.refl wo) hgrow5 (fun _ h => by cases h)
          have hg6 : Gr wo w6 := Gr.append hg5 hgrow6 (ownsRow_base hown5)
          rw [List.nil_append, Nat.zero_add] at hown6
          have hvb : Bss w6 v6 (A ++ R) := owns_bss hown6 (by rw [List.length_append, HM.out, HS.out]) (Vals.append (HVA.out.grown hg6) (HVR.out.grown hg6)).2
          have VB6 := Lib.hid hvb
          have G6 := Lib.hid (Gr.trans HG.out hg6)
          have HVA6 := Lib.hid (HVA.out.grown hg6)
          clear hown5 hown6 hgrow5 hgrow6 hg5 hg6 hvb HVA HVR HG
          refine (within_any turn ((m : Int) + 1) (by omega) (by omega) _).mono ?_
          rintro e w' ⟨rfl, rfl⟩
          obtain ⟨k, hk, hk2⟩ : ∃ k : Nat, turn % ((m : Int) + 1) = k ∧ k ≤ m := ⟨(turn % ((m : Int) + 1)).toNat, by have := Int.emod_nonneg turn (by omega : (m : Int) + 1 ≠ 0); omega, by have := Int.emod_lt_of_pos turn (by omega : 0 < (m : Int) + 1); have := Int.emod_nonneg turn (by omega : (m : Int) + 1 ≠ 0); omega⟩
          rw [hk]
          clear hk
          obtain ⟨O, hO⟩ : ∃ O, O = A.drop k ++ A.take k := ⟨_, rfl⟩
          have HO := Lib.hid hO
          have hWO : Wide N O := by rw [hO]; exact (WA.out.drop k).append (WA.out.take k)
          have hOl : O.length = m := by rw [hO, List.length_append, List.length_drop, List.length_take, HM.out]; omega
          have HLO : Hid (O.length ≤ 1000) := Lib.hid (by omega)
          have hMO := Lib.hid (hWO.may (by omega))
          have HRO : Hid (∀ R', IsRed (wd O) O R' → R' = R) := Lib.hid (fun R' h => IsRed.at_width hWO (RED.out.same (by rw [hO]; exact turn_same A k)) h)
          have HRR : Hid (∀ R', IsRed (wd R) R R' → R' = R) := Lib.hid (fun R' h => IsRed.at_width RA.out.wide RED.out.self h)
          have HLR : Hid (R.length ≤ 1000) := Lib.hid (by rw [HS.out]; omega)
          have hMR := Lib.hid (RA.out.wide.may (by omega))
          have HLA : Hid (A.length ≤ 1000) := Lib.hid (by rw [HM.out]; omega)
          have HLB : Hid ((A ++ R).length ≤ 1000) := Lib.hid (by rw [List.length_append, HM.out, HS.out]; omega)
          have hMB := Lib.hid ((WA.out.append RA.out.wide).may (by omega))
          have HRA : Hid (rkL A = s) := Lib.hid (by rw [← HS.out]; exact RED.out.rank)
          have HRB : Hid (rkL (A ++ R) = s) := Lib.hid (by rw [← HS.out]; exact RED.out.both)
          clear hO hWO hOl
          rcases oa with _ | ba
          · obtain ⟨rfl, rfl⟩ := HAN.out rfl
            obtain rfl : k = 0 := by omega
            obtain rfl : s = 0 := by omega
            go_wp2_with fail
            go_region_held3 (fun _ => True) (first | trivial) (first
              | (refine step_append_in rfl _ _ _ rfl w6.heap.size 22 i0 _ 24 Try.underlying24 I0.out I1.out I2.out I3.out rfl (.slice none 0 0) 0 [] (by rfl) (World.ownsRow_nil _ _ _ _) none 0 0 [] (by rfl) (fun _ => ⟨rfl, rfl⟩) rfl (fun _ h => by cases h) (by simp) (by unfold maxLen; omega) (by omega) (Nat.le_refl _) ?_; intro v7 w7 hown7 hgrow7)
              | (refine step_append_in rfl _ _ _ rfl w6.heap.size 22 i0 _ 24 Try.underlying24 I0.out I1.out I2.out I3.out rfl v7 (0 + 0) ([] ++ []) (by rfl) (by exact hown7) none 0 0 [] (by rfl) (fun _ => ⟨rfl, rfl⟩) rfl (fun _ h => by cases h) (by simp) (by unfold maxLen; omega) (by omega) (by exact hgrow7.size) ?_; intro v8 w8 hown8 hgrow8))
            have VO : Hid (Bss w8 v8 O) := Lib.hid (by
              obtain rfl : O = [] := by rw [HO.out, List.eq_nil_of_length_eq_zero HM.out]; rfl
              exact owns_bss hown8 rfl (fun i hi => by simp at hi))
            have G8 : Hid (Gr w6 w8) := Lib.hid (Gr.append (Gr.append (Gr.drew (Gr.refl w6)) hgrow7 (fun _ h => by cases h)) hgrow8 (ownsRow_base hown7))
            clear hown7 hown8 hgrow7 hgrow8
            have G9 := Lib.hid (Gr.trans (Gr.trans G4.out G6.out) G8.out)
            have VR9 := Lib.hid (Bss.grown VR4.out (Gr.trans G6.out G8.out))
            have VB9 := Lib.hid (Bss.grown VB6.out G8.out)
            go_wp2_with fail
            refine (H.out.rank _ _ A _ (IsF.grown F3.out G9.out) (Bss.grown VA3.out G9.out) HLA.out hMA.out).mono ?_
            rintro e w10 ⟨rfl, hg10⟩
            rw [HRA.out]
            have G10 := Lib.hid hg10
            clear hg10
            go_wp2_with fail
            refine (H.out.rank _ _ (A ++ R) _ (IsF.grown F3.out (Gr.trans G9.out G10.out)) (Bss.grown VB9.out G10.out) HLB.out hMB.out).mono ?_
            rintro e w11 ⟨rfl, hg11⟩
            rw [HRB.out]
            have G11 := Lib.hid (Gr.trans G10.out hg11)
            clear hg11
            go_wp2_with fail
            all_goals
              refine (H.out.reduce _ _ R _ (IsF.grown F3.out (Gr.trans G9.out G11.out)) (Bss.grown VR9.out G11.out) HLR.out hMR.out).mono ?_
              rintro e w12 ⟨vq, R', rfl, hq12, hg12, hred⟩
              rw [HRR.out _ hred] at hq12
              have G12 := Lib.hid (Gr.trans G11.out hg12)
              have VQ12 := Lib.hid hq12
              clear hg12 hq12 hred
              go_wp2_with fail
              refine (rows_any _ _ _ _ _ VQ12.out (Bss.grown VR9.out G12.out)).mono ?_
              rintro e w13 ⟨rfl, hg13⟩
              rw [show (R == R) = true by simp]
              have G13 := Lib.hid (Gr.trans G12.out hg13)
              clear hg13
              go_wp2_with fail
              refine (H.out.reduce _ _ O _ (IsF.grown F3.out (Gr.trans G9.out G13.out)) (Bss.grown VO.out G13.out) HLO.out hMO.out).mono ?_
              rintro e w14 ⟨vq2, R2, rfl, hq14, hg14, hred⟩
              rw [HRO.out _ hred] at hq14
              have G14 := Lib.hid (Gr.trans G13.out hg14)
              have VQ14 := Lib.hid hq14
              clear hg14 hq14 hred
              go_wp2_with fail
              refine (rows_any _ _ _ _ _ VQ14.out (Bss.grown VR9.out G14.out)).mono ?_
              rintro e w15 ⟨rfl, hg15⟩
              rw [show (R == R) = true by simp]
              have G15 := Lib.hid (Gr.trans G14.out hg15)
              clear hg15
              go_wp2_with fail
              refine (matWakes_any H.out _).mono ?_
              rintro e w16 ⟨rfl, hg16⟩
              have G16 := Lib.hid (Gr.trans (Gr.trans G3.out (Gr.trans G9.out G15.out)) hg16)
              clear hg16
              go_wp2_with fail
              go_ret
              exact ⟨rfl, G16.out⟩
          · have HVT := Lib.hid (HVA6.out.take k)
            have HVD := Lib.hid (HVA6.out.drop (k := k) (ca := ca) (by rw [HM.out]; omega) (by rw [HM.out]; omega))
            have hkca : k ≤ ca := by omega
            have htl : (A.take k).length = k := by rw [List.length_take, HM.out]; omega
            have hdl : (A.drop k).length = m - k := by rw [List.length_drop, HM.out]
            have HTL := Lib.hid htl
            have HDL := Lib.hid hdl
            clear htl hdl
            go_wp2_with fail
            go_region_held3 (fun _ => True) (first | trivial) (first
              | (refine step_append_in rfl _ _ _ rfl w6.heap.size 22 i0 _ 24 Try.underlying24 I0.out I1.out I2.out I3.out rfl (.slice none 0 0) 0 [] (by rfl) (World.ownsRow_nil _ _ _ _) (if ca = k then some ba else some (ba.add k)) (m - k) (ca - k) (ua.drop k) (by rfl) (fun h => by split at h <;> cases h) (by rw [HVD.out.1, HDL.out]) (by exact HVD.out.2.1) HVD.out.2.2.2 (by unfold maxLen; omega) (by omega) (Nat.le_refl _) ?_; intro v7 w7 hown7 hgrow7)
              | (refine step_append_in rfl _ _ _ rfl w6.heap.size 22 i0 _ 24 Try.underlying24 I0.out I1.out I2.out I3.out rfl v7 (0 + (m - k)) ([] ++ ua.drop k) (by rfl) (by exact hown7) (some ba) k ca (ua.take k) (by rfl) (fun h => by cases h) (by rw [HVT.out.1, HTL.out]) (by exact (HVT.out.grown (Gr.append (Gr.drew (Gr.refl w6)) hgrow7 (fun _ h => by cases h))).2.1) HVT.out.2.2.2 (by unfold maxLen; omega) (by omega) (by exact hgrow7.size) ?_; intro v8 w8 hown8 hgrow8))
            have VO : Hid (Bss w8 v8 O) := Lib.hid (by
              rw [HO.out]
              have g7 : Gr w6 w7 := Gr.append (Gr.drew (Gr.refl w6)) hgrow7 (fun _ h => by cases h)
              have g8 : Gr w6 w8 := Gr.append g7 hgrow8 (ownsRow_base hown7)
              rw [List.nil_append, Nat.zero_add] at hown8
              exact owns_bss hown8 (by rw [List.length_append, HTL.out, HDL.out]) (Vals.append (HVD.out.grown g8) (HVT.out.grown g8)).2)
            have G8 : Hid (Gr w6 w8) := Lib.hid (Gr.append (Gr.append (Gr.drew (Gr.refl w6)) hgrow7 (fun _ h => by cases h)) hgrow8 (ownsRow_base hown7))
            clear HVD
            generalize (if ca = k then some ba else some (ba.add k)) = od at *
            clear hown7 hown8 hgrow7 hgrow8
            have G9 := Lib.hid (Gr.trans (Gr.trans G4.out G6.out) G8.out)
            have VR9 := Lib.hid (Bss.grown VR4.out (Gr.trans G6.out G8.out))
            have VB9 := Lib.hid (Bss.grown VB6.out G8.out)
            go_wp2_with fail
            refine (H.out.rank _ _ A _ (IsF.grown F3.out G9.out) (Bss.grown VA3.out G9.out) HLA.out hMA.out).mono ?_
            rintro e w10 ⟨rfl, hg10⟩
            rw [HRA.out]
            have G10 := Lib.hid hg10
            clear hg10
            go_wp2_with fail
            refine (H.out.rank _ _ (A ++ R) _ (IsF.grown F3.out (Gr.trans G9.out G10.out)) (Bss.grown VB9.out G10.out) HLB.out hMB.out).mono ?_
            rintro e w11 ⟨rfl, hg11⟩
            rw [HRB.out]
            have G11 := Lib.hid (Gr.trans G10.out hg11)
            clear hg11
            go_wp2_with fail
            all_goals
              refine (H.out.reduce _ _ R _ (IsF.grown F3.out (Gr.trans G9.out G11.out)) (Bss.grown VR9.out G11.out) HLR.out hMR.out).mono ?_
              rintro e w12 ⟨vq, R', rfl, hq12, hg12, hred⟩
              rw [HRR.out _ hred] at hq12
              have G12 := Lib.hid (Gr.trans G11.out hg12)
              have VQ12 := Lib.hid hq12
              clear hg12 hq12 hred
              go_wp2_with fail
              refine (rows_any _ _ _ _ _ VQ12.out (Bss.grown VR9.out G12.out)).mono ?_
              rintro e w13 ⟨rfl, hg13⟩
              rw [show (R == R) = true by simp]
              have G13 := Lib.hid (Gr.trans G12.out hg13)
              clear hg13
              go_wp2_with fail
              refine (H.out.reduce _ _ O _ (IsF.grown F3.out (Gr.trans G9.out G13.out)) (Bss.grown VO.out G13.out) HLO.out hMO.out).mono ?_
              rintro e w14 ⟨vq2, R2, rfl, hq14, hg14, hred⟩
              rw [HRO.out _ hred] at hq14
              have G14 := Lib.hid (Gr.trans G13.out hg14)
              have VQ14 := Lib.hid hq14
              clear hg14 hq14 hred
              go_wp2_with fail
              refine (rows_any _ _ _ _ _ VQ14.out (Bss.grown VR9.out G14.out)).mono ?_
              rintro e w15 ⟨rfl, hg15⟩
              rw [show (R == R) = true by simp]
              have G15 := Lib.hid (Gr.trans G14.out hg15)
              clear hg15
              go_wp2_with fail
              refine (matWakes_any H.out _).mono ?_
              rintro e w16 ⟨rfl, hg16⟩
              have G16 := Lib.hid (Gr.trans (Gr.trans G3.out (Gr.trans G9.out G15.out)) hg16)
              clear hg16
              go_wp2_with fail
              go_ret
              exact ⟨rfl, G16.out⟩
end Go.Proofs.Ytgbdhdjcjilooaa
