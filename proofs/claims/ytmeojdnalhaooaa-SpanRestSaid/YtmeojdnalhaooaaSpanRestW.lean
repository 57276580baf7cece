/-
  Law SpanRest, walked: what is left of rows.
-/
import Derived.Test.YtmeojdnalhaooaaRt
namespace Go.Proofs.Ytmeojdnalhaooaa
open Go.RowKit

set_option maxRecDepth 100000 in
set_option maxHeartbeats 3200000 in
theorem spanRest_walk {At : World → Value → Value → (Nat → Prop) → Nat → List (List Int) → Prop} (E : LeadOk) (M : SumOk) (O : SpanOk At) (vl vr : Value) (l r : List Int) (n : Int) (w : World) (hl : Bs w vl l) (hr : Bs w vr r) :
    Calls Try.prog 4 #[vl, vr, .int .i64 n] w fun e w' => e = .returned (.bool true) ∧ Gr w w' := by
  have HE := Lib.hid E
  have HM := Lib.hid M
  have HS := Lib.hid O
  have HL := Lib.hid hl
  have HR := Lib.hid hr
  obtain ⟨ab, hab1, hab2⟩ := hl.lies
  have HAB1 := Lib.hid hab1
  have HAB2 := Lib.hid hab2
  clear E M O hl hr hab1 hab2
  obtain ⟨p, hp, hp2⟩ : ∃ p : Nat, n % 12 = p ∧ p < 12 := ⟨(n % 12).toNat, by omega, by omega⟩
  have HP := Lib.hid hp
  clear hp
  go_enter Try.func4, Try.ntmps4
  go_wp2_with fail
  refine (within_any n 12 (by omega) (by omega) _).mono ?_
  rintro e w' ⟨rfl, rfl⟩
  rw [HP.out]
  go_wp2_with fail
  obtain ⟨N, hN, hN1, hN2⟩ : ∃ N : Nat, (1 : Int) + p = N ∧ 1 ≤ N ∧ N ≤ 12 := ⟨1 + p, by omega, by omega, by omega⟩
  rw [hN]
  clear hN
  refine (new_st _).mono ?_
  rintro e w1 ⟨b, rfl, hs⟩
  have F1 := Lib.hid hs.2
  have G1 := Lib.hid hs.1
  clear hs
  go_wp2_with fail
  refine (HS.out.new _ N _ F1.out (by omega)).mono ?_
  rintro e w2 ⟨s, F, rfl, ha, hg, hF⟩
  obtain ⟨asp, rfl⟩ := HS.out.ptr ha
  have S2 : Hid (Sn At w1 w2 (.pointer (some ⟨b, 0, none⟩)) (.pointer (some asp)) F N []) := Lib.hid ⟨ha, hF, hg, F1.out⟩
  clear ha hg hF
  go_wp2_with fail
  refine (cut_in vl l 100 _ (Bs.grown HL.out (Gr.trans G1.out S2.out.2.2.1)) (by omega)).mono ?_
  rintro e w' ⟨v1, rfl, hv1, rfl, hin1⟩
  have hlen1 : (l.take 100).length ≤ 100 := by simp; omega
  have HPOS : Hid (0 < (l.take 100).length → ab < w.heap.size) := Lib.hid (fun h => HAB2.out (by rw [List.length_take] at h; omega))
  generalize l.take 100 = l1 at *
  have V1 := Lib.hid hv1
  have IN1 := Lib.hid (hin1 ab HAB1.out)
  clear hv1 hin1
  go_wp2_with fail
  refine (even_from ab v1 N l1 _ V1.out IN1.out hN1 (by omega) (by omega)).mono ?_
  rintro e w3 ⟨va, rfl, ha, hg3⟩
  have WA := Lib.hid (even_wide (Bs.byt' V1.out) hN1 : Wide N (evenL N l1))
  have hAl : (evenL N l1).length ≤ 14 := by rw [evenL_length]; exact evenN_le _ _
  have HPA : Hid (0 < (evenL N l1).length → ab < w.heap.size) := Lib.hid (fun h => HPOS.out (by
    rw [evenL_length] at h
    unfold evenN at h
    by_cases c : 0 < l1.length
    · exact c
    · have : l1.length = 0 := by omega
      rw [this, Nat.zero_div] at h
      omega))
  generalize evenL N l1 = A at *
  have S3 := Lib.hid (S2.out.grown HS.out hg3)
  obtain ⟨us, ho, hrw, hfrom⟩ := ha
  generalize hm : A.length = m at *
  have HML := Lib.hid hm
  have HO3 := Lib.hid ho
  have HRW3 := Lib.hid (fun i hi => (hrw i hi).1 : ∀ i, i < m → Bs w3 (us.getD i undef) (A.getD i []))
  have HFROM := Lib.hid hfrom
  have HUL := Lib.hid ho.1
  have HNF3 : Hid (∀ g, va.ownBlock = some g → ¬ F g) := Lib.hid (fun g hg e => by
    have h1 := ownsRow_base ho g hg
    have h2 := HS.out.lt S2.out.1 g e
    omega)
  have HNA3 : Hid (0 < m → ¬ F ab) := Lib.hid (fun h e => by
    have h1 := HPA.out h
    have h2 := S2.out.2.1 ab e
    have h3 := G1.out.size
    omega)
  obtain ⟨oo, co, rfl⟩ := ownsRow_form ho
  clear ho hrw hfrom hm hg3 S2
  go_wp2
  go_loopw [36] (fun i wr => ∃ (ii : Nat) (G : Nat → Prop) (LL : List (List Int)), ii ≤ m ∧ i = .int .i64 ii ∧ (LL.length = ii ∧ Wide N LL) ∧ Sn At w1 wr (.pointer (some ⟨b, 0, none⟩)) (.pointer (some asp)) G N LL ∧ wr.ownsRow w2.heap.size 23 1 (.slice oo m co) m us ∧ (∀ i, i < m → Bs wr (us.getD i undef) (A.getD i [])) ∧ (∀ g, (Value.slice oo m co).ownBlock = some g → ¬ G g) ∧ (0 < m → ¬ G ab)) (fun i _ => m - (intOf i).toNat)
  case atStart => exact ⟨0, F, [], by omega, rfl, ⟨rfl, Wide.nil N⟩, S3.out, HO3.out, HRW3.out, HNF3.out, HNA3.out⟩
  case round =>
    clear S3 HO3 HRW3 HNF3 HNA3
    obtain ⟨ii, G, LL, hii, rfl, hll, hs, hown, hrw, hnf, hna⟩ := hrel
    have HSS := Lib.hid hs
    have HOW := Lib.hid hown
    have HRW := Lib.hid hrw
    have HNF := Lib.hid hnf
    have HNA := Lib.hid hna
    have HLL := Lib.hid hll.1
    have HWW := Lib.hid hll.2
    clear hs hown hrw hnf hna hll
    by_cases hlt : ii < m
    · obtain ⟨g6, cc, he, hc1, hc2, hc3, hc4, hc5⟩ := ownsRow_cell HOW.out (by omega)
      cases he
      have hu := HRW.out ii hlt
      obtain ⟨wl, wb⟩ := WA.out.at ii (by rw [HML.out]; exact hlt)
      have q1 := hc5 ii hlt
      obtain ⟨ou, cu, hform⟩ := hu.form
      have haw : Away G (us.getD ii undef) := (HFROM.out ii (by have := HUL.out; omega)).away (HNA.out (by omega))
      rw [hform] at hu q1 haw
      rw [wl] at q1 hu haw
      have HU := Lib.hid hu
      have HWL := Lib.hid wl
      have HAW := Lib.hid haw
      have HWX : Hid (Wide N (LL ++ [A.getD ii []])) := Lib.hid (fun r hr => by
        rcases List.mem_append.1 hr with c | c
        · exact HWW.out r c
        · rw [List.mem_singleton.1 c]; exact ⟨wl, wb⟩)
      clear hu wl wb hform hc1 hc2 hc3 hc4 hc5 haw
      generalize A.getD ii [] = x at *
      go_wp2_with fail
      refine (HS.out.add _ _ _ G N LL x _ HSS.out.fld HSS.out.1 (by rw [HLL.out]; omega) HU.out HAW.out HWL.out).mono ?_
      rintro e w7 ⟨b2, G7, rfl, hb2, ha, hkp, hG7⟩
      have S7 := Lib.hid (HSS.out.step ha hkp hG7)
      have HO7 := Lib.hid (ownsRow_kn HOW.out hkp HNF.out)
      have HRW7 : Hid (∀ i, i < m → Bs w7 (us.getD i undef) (A.getD i [])) := Lib.hid (fun i hi => (HRW.out i hi).kp hkp ((HFROM.out i (by have := HUL.out; omega)).away (HNA.out (by omega))))
      have HNF7 : Hid (∀ g, (Value.slice (some ⟨g6, 0, none⟩) m co).ownBlock = some g → ¬ G7 g) := Lib.hid (fun g h1 h2 => by
        rcases hG7 g h2 with c | c
        · exact HNF.out g h1 c
        · have := ownsRow_lt HOW.out g h1
          omega)
      have HNA7 : Hid (0 < m → ¬ G7 ab) := Lib.hid (fun h1 h2 => by
        rcases hG7 ab h2 with c | c
        · exact HNA.out h1 c
        · have q1 := HPA.out h1
          have q2 := G1.out.size
          have q3 := HSS.out.2.2.1.size
          omega)
      clear ha hkp hG7 hb2
      go_wp2
      exact ⟨⟨ii + 1, G7, LL ++ [x], by omega, by go_num, ⟨by rw [List.length_append, HLL.out]; rfl, HWX.out⟩, S7.out, HO7.out, HRW7.out, HNF7.out, HNA7.out⟩, by simp [intOf]; omega⟩
    · obtain rfl : m = ii := by omega
      have hlen : LL.length ≤ 1000 := by rw [HLL.out]; omega
      clear HOW HRW HNF HNA HFROM HUL
      go_wp2_with fail
      refine (cut_any vr r 40 _ (Bs.grown HR.out (Gr.trans G1.out HSS.out.2.2.1)) (by omega)).mono ?_
      rintro e w' ⟨v2, rfl, hv2, rfl⟩
      have hlen2 : (r.take 40).length ≤ 40 := by simp; omega
      generalize r.take 40 = l2 at *
      have V2 := Lib.hid hv2
      clear hv2
      go_wp2_with fail
      refine (even_any v2 N l2 _ V2.out hN1 (by omega) (by omega)).mono ?_
      rintro e w9 ⟨vb, rfl, hb9, hg9⟩
      have WB := Lib.hid (even_wide (Bs.byt' V2.out) hN1 : Wide N (evenL N l2))
      have hBl : (evenL N l2).length ≤ 14 := by rw [evenL_length]; exact evenN_le _ _
      generalize evenL N l2 = B at *
      have VB := Lib.hid hb9.bss
      have S9 := Lib.hid (HSS.out.grown HS.out hg9)
      clear hb9 hg9 HSS
      obtain ⟨ob, cb, rfl, b1, b2, b3, b4⟩ := VB.out
      generalize hnb : B.length = nb at *
      have HNB := Lib.hid hnb
      have HB := Lib.hid b4
      have HBN := Lib.hid b3
      clear b2 b3 b4 hnb
      go_wp2
      go_loopw [49] (fun i wr => ∃ jj : Nat, jj ≤ nb ∧ i = .int .i64 jj ∧ Sn At w1 wr (.pointer (some ⟨b, 0, none⟩)) (.pointer (some asp)) G N LL ∧ Gr w9 wr) (fun i _ => nb - (intOf i).toNat)
      case atStart => exact ⟨0, by omega, rfl, S9.out, Gr.refl _⟩
      case round =>
        clear S9
        obtain ⟨wo, hwo⟩ : ∃ x, x = wr := ⟨_, rfl⟩
        subst hwo
        obtain ⟨jj, hjj, rfl, hs, hg⟩ := hrel
        have HSS := Lib.hid hs
        have HG := Lib.hid hg
        clear hs hg
        by_cases hlt2 : jj < nb
        · obtain ⟨abb, rfl⟩ : ∃ abb, ob = some abb := by
            cases ob with
            | none => exact absurd (HBN.out rfl) (by omega)
            | some abb => exact ⟨abb, rfl⟩
          obtain ⟨u, q0, hu⟩ := HB.out abb rfl jj hlt2
          have q1 := cell_grown HG.out q0
          have hu2 := Bs.grown hu HG.out
          obtain ⟨wl, wb⟩ := WB.out.at jj (by rw [HNB.out]; exact hlt2)
          obtain ⟨ou, cu, rfl⟩ := hu.form
          rw [wl] at q1 hu2
          have HU := Lib.hid hu2
          have HWL := Lib.hid wl
          have HWB := Lib.hid wb
          clear q0 hu hu2 wl wb
          generalize B.getD jj [] = x at *
          go_wp2_with fail
          refine (HS.out.rest _ _ _ G N LL x _ HSS.out.fld HSS.out.1 hlen HU.out HWL.out).mono ?_
          rintro e w10 ⟨vy, y, rfl, hy, hrest, hg10⟩
          have S10 := Lib.hid (HSS.out.grown HS.out hg10)
          have G10 := Lib.hid (Gr.trans HG.out hg10)
          have U10 := Lib.hid (Bs.grown HU.out hg10)
          have REST := Lib.hid hrest
          obtain ⟨oy, cy, rfl⟩ := hy.form
          have hyl := hrest.1
          rw [hyl] at hy ⊢
          have HY := Lib.hid hy
          have HYL := Lib.hid hyl
          clear hg10 hrest hy hyl HSS HU
          go_wp2_with fail
          refine (HE.out _ y _ HY.out (by rw [HYL.out]; omega)).mono ?_
          rintro e w11 ⟨rfl, hg11⟩
          have S11 := Lib.hid (S10.out.grown HS.out hg11)
          have G11 := Lib.hid (Gr.trans G10.out hg11)
          have U11 := Lib.hid (Bs.grown U10.out hg11)
          have Y11 := Lib.hid (Bs.grown HY.out hg11)
          clear hg11 S10 U10
          generalize hlz : leadL y = lz at *
          have HLZ := Lib.hid hlz
          clear hlz
          obtain ⟨R0, hR0⟩ := isRed_exists HWW.out
          have HSP : Hid (lz < 0 ↔ L.Sp (LL.map vec) (vec x)) := Lib.hid (by rw [← HLZ.out]; exact REST.out.spans hR0)
          have HRED0 := Lib.hid hR0
          clear hR0
          go_wp2_with fail
          refine (HS.out.has _ _ _ G N LL x _ S11.out.fld S11.out.1 hlen U11.out (by rw [HWL.out]; omega)).mono ?_
          rintro e w12 ⟨bh, rfl, hbh, hg12⟩
          obtain rfl : bh = decide (lz < 0) := by
            cases bh with
            | true => exact (decide_eq_true (HSP.out.2 (hbh.1 rfl).2)).symm
            | false =>
              refine (decide_eq_false fun c => ?_).symm
              have := hbh.2 ⟨HWL.out, HSP.out.1 c⟩
              cases this
          have S12 := Lib.hid (S11.out.grown HS.out hg12)
          have G12 := Lib.hid (Gr.trans G11.out hg12)
          have U12 := Lib.hid (Bs.grown U11.out hg12)
          have Y12 := Lib.hid (Bs.grown Y11.out hg12)
          clear hbh hg12 S11 U11 Y11
          go_wp2_with fail
          refine (HS.out.rows _ _ G N LL _ S12.out.fld S12.out.1 hlen).mono ?_
          rintro e w13 ⟨vr, R, rfl, hrw, hred, hg13⟩
          obtain ⟨ps, hps⟩ := hred.redAt
          have HPS := Lib.hid hps
          have HRED := Lib.hid hred
          have S13 := Lib.hid (S12.out.grown HS.out hg13)
          have G13 := Lib.hid (Gr.trans G12.out hg13)
          have U13 := Lib.hid (Bs.grown U12.out hg13)
          have Y13 := Lib.hid (Bs.grown Y12.out hg13)
          obtain ⟨o13, c13, rfl, r1, r2, r3, r4⟩ := hrw.bss
          obtain ⟨rn, hrn⟩ : ∃ rn, R.length = rn := ⟨_, rfl⟩
          rw [hrn] at r1 r4 ⊢
          have HRN := Lib.hid hrn
          have HR4 := Lib.hid r4
          have HR3 := Lib.hid r3
          clear hps hred hg13 hrw hrn r3 r4 S12 U12 Y12
          have hrn14 : rn ≤ 12 := by
            rw [← HRN.out, ← HRED.out.rank]
            exact Nat.le_trans (L.rk_le_cols HWW.out.supp) hN2
          go_wp2
          go_loopw [79] (fun i W => ∃ t : Nat, t ≤ rn ∧ i = .int .i64 t ∧ Gr w13 W) (fun i _ => rn - (intOf i).toNat)
          case atStart => exact ⟨0, by omega, rfl, Gr.refl _⟩
          case round =>
            obtain ⟨t, ht, rfl, hgt⟩ := hrel
            have GT := Lib.hid hgt
            clear hgt
            by_cases hlt3 : t < rn
            · obtain ⟨a13, rfl⟩ : ∃ a13, o13 = some a13 := by
                cases o13 with
                | none => exact absurd (HR3.out rfl) (by omega)
                | some a13 => exact ⟨a13, rfl⟩
              obtain ⟨u3, q0, hu3⟩ := HR4.out a13 rfl t hlt3
              have q3 := cell_grown GT.out q0
              have hu4 := Bs.grown hu3 GT.out
              have hwr := (HPS.out.wide.at t (by rw [HRN.out]; exact hlt3)).1
              obtain ⟨ou3, cu3, rfl⟩ := hu3.form
              rw [hwr] at q3 hu4
              have HU3 := Lib.hid hu4
              have HW3 := Lib.hid hwr
              have hld := HPS.out.lead t (by rw [HRN.out]; exact hlt3)
              have hkk := HPS.out.lt t (by rw [HRN.out]; exact hlt3)
              obtain ⟨kk, hk⟩ : ∃ kk, ps.getD t 0 = kk := ⟨_, rfl⟩
              rw [hk] at hld hkk
              have hy0 : y.getD kk 0 = 0 := by
                have := REST.out.2.2.2 R HRED.out (R.getD t []) (by
                  rw [List.getD_eq_getElem?_getD, List.getElem?_eq_getElem (by rw [HRN.out]; exact hlt3)]
                  exact List.getElem_mem _)
                rwa [hld, Int.toNat_natCast] at this
              obtain ⟨ay, cy', he, y1, y2, y3⟩ := Bs.at (Bs.grown Y13.out GT.out) (by rw [HYL.out]; omega)
              rw [HYL.out] at he y1 y3
              cases he
              have qy := y3 kk hkk
              rw [hy0] at qy
              have HLD := Lib.hid hld
              clear q0 hu3 hu4 hwr hld hk hy0 y3
              go_wp2_with fail
              refine (HE.out _ (R.getD t []) _ HU3.out (by rw [HW3.out]; omega)).mono ?_
              rw [HLD.out]
              rintro e w14 ⟨rfl, hg14⟩
              have qy2 := cell_grown hg14 qy
              have G14 := Lib.hid (Gr.trans GT.out hg14)
              clear hg14 qy q3
              go_wp2
              exact ⟨⟨t + 1, by omega, by go_num, G14.out⟩, by simp [intOf]; omega⟩
            · obtain rfl : t = rn := by omega
              have S14 := Lib.hid (S13.out.grown HS.out GT.out)
              have G14 := Lib.hid (Gr.trans G13.out GT.out)
              have U14 := Lib.hid (Bs.grown U13.out GT.out)
              have Y14 := Lib.hid (Bs.grown Y13.out GT.out)
              clear S13 U13 Y13 HR4 HR3
              go_wp2_with fail
              refine (HM.out _ _ x y _ U14.out Y14.out (by rw [HWL.out]; omega) (by rw [HYL.out, HWL.out])).mono ?_
              rintro e w15 ⟨vd, rfl, hnw⟩
              have S15 := Lib.hid (S14.out.grown HS.out hnw.1)
              have G15 := Lib.hid (Gr.trans G14.out hnw.1)
              have Y15 := Lib.hid (Bs.grown Y14.out hnw.1)
              have D15 := Lib.hid hnw.bs
              have HDL : Hid ((sumL x y).length = N) := Lib.hid (by rw [sumL_length]; exact HWL.out)
              have HDS := Lib.hid (REST.out.sum HWB.out HWL.out)
              clear hnw S14 U14 Y14
              generalize sumL x y = dd at *
              obtain ⟨od, cd, rfl⟩ := D15.out.form
              rw [HDL.out] at D15 ⊢
              go_wp2_with fail
              refine (HS.out.rest _ _ _ G N LL y _ S15.out.fld S15.out.1 hlen Y15.out HYL.out).mono ?_
              rintro e w16 ⟨vz, z, rfl, hz, hrz, hg16⟩
              have HZY := Lib.hid (REST.out.again hrz HRED0.out)
              have S16 := Lib.hid (S15.out.grown HS.out hg16)
              have G16 := Lib.hid (Gr.trans G15.out hg16)
              have Y16 := Lib.hid (Bs.grown Y15.out hg16)
              have D16 := Lib.hid (Bs.grown D15.out hg16)
              obtain ⟨oz, cz, rfl⟩ := hz.form
              have hzl := hrz.1
              rw [hzl] at hz ⊢
              have Z16 := Lib.hid hz
              clear hz hrz hg16 hzl S15 Y15 D15
              go_wp2_with fail
              refine (HS.out.has _ _ _ G N LL dd _ S16.out.fld S16.out.1 hlen D16.out (by rw [HDL.out]; omega)).mono ?_
              rintro e w17 ⟨bh, rfl, hbh, hg17⟩
              obtain rfl : bh = true := hbh.2 ⟨HDL.out, HDS.out⟩
              have S17 := Lib.hid (S16.out.grown HS.out hg17)
              have G17 := Lib.hid (Gr.trans G16.out hg17)
              have Y17 := Lib.hid (Bs.grown Y16.out hg17)
              have Z17 := Lib.hid (Bs.grown Z16.out hg17)
              clear hbh hg17 S16 Y16 Z16 D16
              go_wp2_with fail
              refine (same_any _ _ z y _ Z17.out Y17.out).mono ?_
              rw [HZY.out, beq_self_eq_true]
              rintro e w18 ⟨rfl, hg18⟩
              have S18 := Lib.hid (S17.out.grown HS.out hg18)
              have G18 := Lib.hid (Gr.trans G17.out hg18)
              clear hg18 S17
              go_wp2
              exact ⟨⟨jj + 1, by omega, by go_num, S18.out, G18.out⟩, by simp [intOf]; omega⟩
        · have HSX := HSS
          go_wp2_with fail
          refine (spanWakes_any HS.out _).mono ?_
          rintro e w14 ⟨rfl, hg14⟩
          have G14 := Lib.hid (Gr.trans (Gr.trans G1.out HSX.out.2.2.1) hg14)
          clear hg14
          go_wp2_with fail
          go_ret
          exact ⟨rfl, G14.out⟩
end Go.Proofs.Ytmeojdnalhaooaa
