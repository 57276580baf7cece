/-
  wellspringlaw13.PlanTells: the walk.
-/
import Derived.Test.YtdmcncpndogdlaaMgm
namespace Go.Proofs.Ytdmcncpndogdlaa
open Go.RowKit

/-- Small enough. -/
def SmallZ (L : List (List Int)) : Prop := L.length ≤ 100 ∧ ∀ c ∈ L, c.length ≤ 100
theorem SmallZ.good {N : Nat} {L : List (List Int)} (hN : N ≤ 64) (hl : L.length ≤ 100) (h : ∀ c ∈ L, MayRow N c) : SmallZ L :=
  ⟨hl, fun c hc => by have := rising_le (h c hc).2 (h c hc).1; omega⟩
theorem SmallZ.append {L M : List (List Int)} (hl : SmallZ L) (hm : SmallZ M) (hn : L.length + M.length ≤ 100) : SmallZ (L ++ M) :=
  ⟨by rw [List.length_append]; exact hn, fun c hc => (List.mem_append.1 hc).elim (hl.2 c) (hm.2 c)⟩
theorem SmallZ.big {L : List (List Int)} (h : SmallZ L) : L.length ≤ 1000 ∧ ∀ c ∈ L, c.length ≤ 1000 :=
  ⟨by have := h.1; omega, fun c hc => by have := h.2 c hc; omega⟩
/-- A row that Spare told. -/
theorem spare_singleZ {base : Nat} {W : World} {g6 nc : Nat} {l : List Int} (hi : Blz W g6 (l ++ [71, 71])) (hc : l.length = nc) (hz : ∀ x ∈ l, I64 x) (h1 : nc ≤ 1000) :
    ZsV base (W.alloc (.cells #[.slice (some ⟨g6, 0, none⟩) nc (nc + 2)] 23)) (some ⟨W.heap.size, 0, none⟩) 1 [l] := by
  have gA : Gr W (W.alloc (.cells #[.slice (some ⟨g6, 0, none⟩) nc (nc + 2)] 23)) := Gr.alloc (Gr.refl _) _ _
  subst hc
  have z := hi.zs_pre hz (by rw [List.length_append]; simp; omega)
  rw [List.length_append] at z
  refine ZsV.single (by rw [cell_of_row _ _ _ _ _ _ (heap_alloc_new _ _)]; rfl) (z.grown gA) fun a m c e hm => .inr ?_
  cases e
  exact ⟨_, keptRow gA hi⟩
theorem PN.Says.steps_le {n : Int} {R : List (List Int)} {st : List (Int × Int)} {de le : List Int} {ok : Bool} (h : PN.Says n R st de le ok) : st.length ≤ 64 := by
  rcases h with ⟨_, _, rfl, _⟩ | ⟨hm, _, rfl, _⟩
  · simp
  · have h1 := (PN.run_inv (n := n.toNat) (R := R) (fun c hc => by have h := hm.2.2 c hc; rwa [Int.toNat_of_nonneg hm.1]) n.toNat (Nat.le_refl _)).cnt
    have h2 := hm.2.1
    have : (PN.steps n.toNat R).length ≤ n.toNat := by show (PN.run n.toNat R n.toNat).steps.length ≤ _; omega
    omega
set_option maxRecDepth 100000 in
set_option maxHeartbeats 12800000 in
theorem planTells_walk (O : InactOk) (n : Int) (vl vm : Value) (L0 : List (List Int)) (l : List Int) (w : World) (h0 : Zss w vl L0) (hl : Zs w vm l) (hn : I64 n) :
    Calls Try.prog 3 #[.int .i64 n, vl, vm] w fun e w' => e = .returned (.bool true) ∧ Gr w w' := by
  have HO := Lib.hid O
  have HI := Lib.hid hn
  have HL := Lib.hid hl
  clear O hl hn
  obtain ⟨o0, c0, rfl⟩ := h0.form
  obtain ⟨m0, hm0⟩ : ∃ m, L0.length = m := ⟨_, rfl⟩
  rw [hm0] at h0 ⊢
  have H0 := Lib.hid h0
  have HM0 := Lib.hid hm0
  clear h0 hm0
  obtain ⟨N, hN, hN2⟩ : ∃ N : Nat, n % 20 = (N : Int) ∧ N ≤ 19 := ⟨(n % 20).toNat, by omega, by omega⟩
  have HN := Lib.hid hN
  clear hN
  by_cases hbig : 24 < m0
  · go_enter Try.func3, Try.ntmps3
    go_wp2_with fail
    refine (planWakes_any HO.out _).mono ?_
    rintro e w9 ⟨rfl, hg9⟩
    have G9 := Lib.hid hg9
    clear hg9
    go_wp2_with fail
    go_ret
    exact ⟨rfl, G9.out⟩
  have hm24 : m0 ≤ 24 := by omega
  have d24 : decide ((24 : Int) < m0) = false := decide_eq_false (by omega)
  clear hbig
  go_enter Try.func3, Try.ntmps3
  go_wp2_with fail
  go_loopw [24] (fun iv W => ∃ i : Nat, i ≤ m0 ∧ iv = .int .i64 i ∧ w = W ∧ ∀ j, j < i → (L0.getD j []).length ≤ 24) (fun iv _ => m0 - (intOf iv).toNat)
  case atStart => exact ⟨0, by omega, rfl, rfl, by omega⟩
  case round =>
    obtain ⟨i, hi, rfl, rfl, hsm⟩ := hrel
    have HSM := Lib.hid hsm
    clear hsm
    by_cases hlt : i < m0
    · obtain ⟨b0, rfl⟩ := Zss.addr H0.out (by omega)
      obtain ⟨u, q1, hu⟩ := Zss.rowAt H0.out hlt
      obtain ⟨oc, nc, cc, rfl⟩ := hu.form3
      have hnc := hu.parts.1
      by_cases h1 : 24 < nc
      · go_wp2_with fail
        refine (planWakes_any HO.out _).mono ?_
        rintro e w9 ⟨rfl, hg9⟩
        have G9 := Lib.hid hg9
        clear hg9
        go_wp2_with fail
        go_ret
        exact ⟨rfl, G9.out⟩
      · have hnew : (L0.getD i []).length ≤ 24 := by omega
        have HNEW := Lib.hid hnew
        clear hu hnc hnew
        go_wp2_with fail
        refine ⟨⟨i + 1, by omega, by go_num, trivial, fun j hj => ?_⟩, by simp [intOf]; omega⟩
        by_cases e : j = i
        · rw [e]; exact HNEW.out
        · exact HSM.out j (by omega)
    · obtain rfl : i = m0 := by omega
      have HS0 : Hid (SmallZ L0) := Lib.hid ⟨by rw [HM0.out]; omega, fun q hq => by
        obtain ⟨j, hj, rfl⟩ := List.getElem_of_mem hq
        have := HSM.out j (by rw [← HM0.out]; exact hj)
        rw [List.getD_eq_getElem?_getD, List.getElem?_eq_getElem hj] at this
        simp only [Option.getD_some] at this
        omega⟩
      clear HSM
      go_wp2_with fail
      refine (within_any n 20 (by omega) (by omega) _).mono ?_
      rintro e w' ⟨rfl, rfl⟩
      go_wp2_with fail
      rw [HN.out]
      refine (intRows_any _ l N 24 _ HL.out (by omega) (by omega)).mono ?_
      rintro e w1 ⟨v1, rfl, L1, ho1, hg1, hL1, hM1⟩
      obtain ⟨o1, c1, e1⟩ := ho1.form
      obtain ⟨m1, hm1⟩ : ∃ m, L1.length = m := ⟨_, rfl⟩
      rw [hm1] at e1 hL1
      subst e1
      have S1 : Hid (SmallZ L1) := Lib.hid (SmallZ.good (by omega) (by omega) hM1)
      have E1 := Lib.hid ho1.zss
      have G1 := Lib.hid hg1
      clear ho1 hg1 hM1
      go_wp2_with fail
      refine (intRows_any _ l N 12 _ (HL.out.grown G1.out) (by omega) (by omega)).mono ?_
      rintro e w2 ⟨v2, rfl, L2, ho2, hg2, hL2, hM2⟩
      obtain ⟨o2, c2, e2⟩ := ho2.form
      obtain ⟨m2, hm2⟩ : ∃ m, L2.length = m := ⟨_, rfl⟩
      rw [hm2] at e2 hL2
      subst e2
      have S2 : Hid (SmallZ L2) := Lib.hid (SmallZ.good (by omega) (by omega) hM2)
      have O2 := Lib.hid ho2
      have G2 := Lib.hid hg2
      have HM2 := Lib.hid hm2
      have V0 := Lib.hid ((H0.out.vals.grown (Gr.trans G1.out hg2)).mono G1.out.size)
      have HC0 : Hid (o0 = none → c0 = 0) := Lib.hid (fun e => by
        obtain ⟨o', c', he, _, _, h4, _⟩ := H0.out
        cases he
        exact h4 e)
      clear ho2 hg2 hM2 hm2
      go_wp2_with (at_builtin; refine wpList_append_zss rfl _ _ rfl w1.heap.size (.slice o2 m2 c2) L2 L0 rfl O2.out o0 i c0 rfl V0.out HC0.out (by rw [HM2.out]; omega) G2.out.size ?_; intro v4 w4 h4 hg4 hgr4; have L4 := Lib.hid h4; have G4 := Lib.hid (hg4 w1 G2.out (Nat.le_refl _)); clear h4 hg4 hgr4; obtain ⟨o4, c4, e4⟩ := L4.out.form; rw [List.length_append, HM2.out, HM0.out] at e4; subst e4)
      have TT : Hid (∀ t, t < 3 → ∃ o m c L, (w4.alloc (.cells #[.slice o0 i c0, .slice o1 m1 c1, .slice o4 (m2 + i) c4] 22)).cell? ⟨w4.heap.size, t, none⟩ = some (.slice o m c) ∧ Zss (w4.alloc (.cells #[.slice o0 i c0, .slice o1 m1 c1, .slice o4 (m2 + i) c4] 22)) (.slice o m c) L ∧ SmallZ L) := Lib.hid (fun t ht => by
        have hA : Gr w4 (w4.alloc (.cells #[.slice o0 i c0, .slice o1 m1 c1, .slice o4 (m2 + i) c4] 22)) := Gr.alloc (Gr.refl _) _ _
        have hcell := fun k => cell_of_row (w4.alloc (.cells #[.slice o0 i c0, .slice o1 m1 c1, .slice o4 (m2 + i) c4] 22)) w4.heap.size k _ _ _ (heap_alloc_new w4 _)
        have h3 : t = 0 ∨ t = 1 ∨ t = 2 := by omega
        rcases h3 with rfl | rfl | rfl
        · exact ⟨o0, i, c0, L0, by rw [hcell]; rfl, H0.out.grown (Gr.trans G1.out (Gr.trans G4.out hA)), HS0.out⟩
        · exact ⟨o1, m1, c1, L1, by rw [hcell]; rfl, E1.out.grown (Gr.trans G4.out hA), S1.out⟩
        · exact ⟨o4, m2 + i, c4, _, by rw [hcell]; rfl, L4.out.zss.grown hA, SmallZ.append S2.out HS0.out (by rw [HM2.out, HM0.out]; omega)⟩)
      have G9 : Hid (Gr w (w4.alloc (.cells #[.slice o0 i c0, .slice o1 m1 c1, .slice o4 (m2 + i) c4] 22))) := Lib.hid (Gr.trans G1.out (Gr.alloc G4.out _ _))
      clear V0 HC0 L4 G4 H0 HS0 S1 S2 E1 O2 G1 G2
      generalize w4.alloc (.cells #[.slice o0 i c0, .slice o1 m1 c1, .slice o4 (m2 + i) c4] 22) = w9 at *
      generalize w4.heap.size = gt at *
      go_loopw [48] (fun tv W => ∃ t : Nat, t ≤ 3 ∧ tv = .int .i64 t ∧ Gr w9 W) (fun tv _ => 3 - (intOf tv).toNat)
      case atStart => exact ⟨0, by omega, rfl, Gr.refl _⟩
      case round =>
        obtain ⟨wp, hwp⟩ : ∃ x, x = wr := ⟨_, rfl⟩
        subst hwp
        obtain ⟨t, ht, rfl, hgt⟩ := hrel
        have GT := Lib.hid hgt
        clear hgt
        by_cases htl : t < 3
        · obtain ⟨ox, mx, cx, Lx, qx, hx, hsx⟩ := TT.out t htl
          have qx := cell_gr GT.out qx
          have EX := Lib.hid (hx.grown GT.out)
          have HSX := Lib.hid hsx
          have HXM := Lib.hid hx.len
          have hmx : mx ≤ 100 := by have := hx.len; have := hsx.1; omega
          clear hx hsx
          go_upto_if 55 with fail
          go_cut [11] (fun cv wx => wx = wp ∧ ∃ C : Int, cv = .int .i64 C ∧ I64 C)
          case first =>
            by_cases h0 : t = 0
            · subst h0
              go_wp2_with fail
              go_meet
              exact ⟨rfl, _, rfl, HI.out⟩
            · go_wp2_with fail
              go_meet
              exact ⟨rfl, _, rfl, by unfold I64; omega⟩
          case rest =>
            obtain ⟨hwc, C, rfl, hC⟩ := hcut
            have HC := Lib.hid hC
            clear hC qx
            subst hwc
            go_wp2_with fail
            go_loopw [12, 59] (fun iv jv W => ∃ j : Nat, j ≤ mx ∧ jv = .int .i64 j ∧ ZwO wc.heap.size W iv (Lx.take j) ∧ Gr wc W) (fun _ jv _ => mx - (intOf jv).toNat)
            case atStart => exact ⟨0, by omega, rfl, ZwO.nil _ _, Gr.refl _⟩
            case round =>
              obtain ⟨wq, hwq⟩ : ∃ x, x = wr := ⟨_, rfl⟩
              subst hwq
              obtain ⟨j, hj, rfl, hin, hgj⟩ := hrel
              obtain ⟨oi, ci, ei⟩ := hin.form
              rw [List.length_take, HXM.out, Nat.min_eq_left hj] at ei
              subst ei
              have IN := Lib.hid hin
              have GJ := Lib.hid hgj
              clear hin hgj
              by_cases hjt : j < mx
              · obtain ⟨bx, rfl⟩ := Zss.addr EX.out (by omega)
                obtain ⟨u, q1, zc⟩ := Zss.rowAt (EX.out.grown GJ.out) hjt
                obtain ⟨oc, nc, cc, rfl⟩ := zc.form3
                have hbd := HSX.out.2 _ (getD_memL (L := Lx) (i := j) (by rw [HXM.out]; exact hjt))
                have htk := take_snoc Lx j [] (by rw [HXM.out]; exact hjt)
                generalize Lx.getD j [] = r at *
                have hnc := zc.parts.1
                rw [hnc] at hbd
                have ZC := Lib.hid zc
                have HNC := Lib.hid hnc
                have HTK := Lib.hid htk
                clear zc htk hnc
                go_wp2_with fail
                have hsp := spareZ_any _ r 71 _ ZC.out (by rw [HNC.out]; omega)
                rw [HNC.out] at hsp
                refine hsp.mono ?_
                rintro e w6 ⟨g6, rfl, hg6, hb6, hgr6⟩
                have EV := Lib.hid (spare_singleZ (base := wc.heap.size) hb6 HNC.out ZC.out.1 (by omega))
                have IA := Lib.hid (IN.out.grown (Gr.trans hgr6 (Gr.alloc (Gr.refl _) (#[.slice (some ⟨g6, 0, none⟩) nc (nc + 2)]) 23)))
                have GA := Lib.hid (Gr.trans GJ.out (Gr.trans hgr6 (Gr.alloc (Gr.refl _) (#[.slice (some ⟨g6, 0, none⟩) nc (nc + 2)]) 23)))
                clear hsp hg6 hb6 hgr6 IN GJ q1
                go_wp2_with (at_builtin; refine wpList_append_zss rfl _ _ rfl wc.heap.size (.slice oi j ci) (Lx.take j) [r] rfl IA.out (some ⟨w6.heap.size, 0, none⟩) 1 1 rfl EV.out (fun e => by cases e) (by rw [List.length_take]; omega) GA.out.size ?_; intro v8 w8 h8 hg8 hgr8; have L8 := Lib.hid h8; have GC8 := Lib.hid (hg8 wc GA.out (Nat.le_refl _)); clear h8 hg8 hgr8)
                exact ⟨⟨j + 1, by omega, by go_num, by rw [HTK.out]; exact L8.out, GC8.out⟩, by simp [intOf]; omega⟩
              · obtain rfl : j = mx := by omega
                have htk : Lx.take j = Lx := List.take_of_length_le (by rw [HXM.out]; exact Nat.le_refl _)
                rw [htk] at IN
                have EI := Lib.hid IN.out.zss
                have EXJ := Lib.hid (EX.out.grown GJ.out)
                clear IN EX htk
                go_wp2_with fail
                refine (HO.out.plan C _ Lx _ HC.out EI.out HSX.out.big.1 HSX.out.big.2).mono ?_
                rintro e wy ⟨sv, dv, lv, st, de, le, ok, rfl, hs, hd, hl, hg, hsy⟩
                obtain ⟨os, cs, e1⟩ := hs.form
                obtain ⟨ls, hls⟩ : ∃ m, st.length = m := ⟨_, rfl⟩
                rw [hls] at e1
                subst e1
                obtain ⟨od, md, cd, rfl⟩ := hd.form3
                obtain ⟨ol, ml, cl, rfl⟩ := hl.form3
                have gA : Gr wy (wy.alloc (.cells #[.slice os ls cs, .slice od md cd, .slice ol ml cl] 31)) := Gr.alloc (Gr.refl _) _ _
                have P1 : Hid ((wy.alloc (.cells #[.slice os ls cs, .slice od md cd, .slice ol ml cl] 31)).heap[wy.heap.size]? = some (.cells #[.slice os ls cs, .slice od md cd, .slice ol ml cl] 31 (0, 0))) := Lib.hid (heap_alloc_new _ _)
                have A1 := Lib.hid (hs.grown gA)
                have A2 := Lib.hid (hd.grown gA)
                have A3 := Lib.hid (hl.grown gA)
                have EI2 := Lib.hid (EI.out.grown (Gr.trans hg gA))
                have EX2 := Lib.hid (EXJ.out.grown (Gr.trans hg gA))
                have GY := Lib.hid (Gr.trans GJ.out (Gr.trans hg gA))
                have SY := Lib.hid hsy
                have HLS := Lib.hid hls
                clear hs hd hl hg hsy gA EI EXJ hls
                go_wp2_with fail
                generalize wy.alloc (.cells #[.slice os ls cs, .slice od md cd, .slice ol ml cl] 31) = w20 at *
                generalize wy.heap.size = gp at *
                refine (refPlan_any C _ Lx _ EX2.out HSX.out.big.1 HSX.out.big.2 HC.out).mono ?_
                rintro e wz ⟨sv2, dv2, lv2, st2, de2, le2, ok2, rfl, hs2, hd2, hl2, hg2, hsy2⟩
                obtain ⟨rfl, rfl, rfl, rfl⟩ := PN.Says.unique SY.out hsy2
                obtain ⟨os2, cs2, e1⟩ := hs2.form
                rw [HLS.out] at e1
                subst e1
                obtain ⟨od2, md2, cd2, rfl⟩ := hd2.form3
                obtain ⟨ol2, ml2, cl2, rfl⟩ := hl2.form3
                have gB : Gr wz (wz.alloc (.cells #[.slice os2 ls cs2, .slice od2 md2 cd2, .slice ol2 ml2 cl2] 31)) := Gr.alloc (Gr.refl _) _ _
                have hp1 := keptRow (Gr.trans hg2 gB) P1.out
                have p0 : (wz.alloc (.cells #[.slice os2 ls cs2, .slice od2 md2 cd2, .slice ol2 ml2 cl2] 31)).cell? ⟨gp, 0, none⟩ = some (.slice os ls cs) := by rw [cell_of_row _ _ _ _ _ _ hp1]; rfl
                have p1 : (wz.alloc (.cells #[.slice os2 ls cs2, .slice od2 md2 cd2, .slice ol2 ml2 cl2] 31)).cell? ⟨gp, 1, none⟩ = some (.slice od md cd) := by rw [cell_of_row _ _ _ _ _ _ hp1]; rfl
                have p2 : (wz.alloc (.cells #[.slice os2 ls cs2, .slice od2 md2 cd2, .slice ol2 ml2 cl2] 31)).cell? ⟨gp, 2, none⟩ = some (.slice ol ml cl) := by rw [cell_of_row _ _ _ _ _ _ hp1]; rfl
                have C1 := Lib.hid (A1.out.grown (Gr.trans hg2 gB))
                have C2 := Lib.hid (A2.out.grown (Gr.trans hg2 gB))
                have C3 := Lib.hid (A3.out.grown (Gr.trans hg2 gB))
                have B1 := Lib.hid (hs2.grown gB)
                have B2 := Lib.hid (hd2.grown gB)
                have B3 := Lib.hid (hl2.grown gB)
                have EI3 := Lib.hid (EI2.out.grown (Gr.trans hg2 gB))
                have EX3 := Lib.hid (EX2.out.grown (Gr.trans hg2 gB))
                have GZ := Lib.hid (Gr.trans GY.out (Gr.trans hg2 gB))
                have hsl := PN.Says.steps_le SY.out
                clear hs2 hd2 hl2 hg2 hsy2 gB hp1 A1 A2 A3 P1 EI2 EX2 GY SY
                go_wp2_with fail
                refine (samePlan_true _ _ _ _ _ _ st de le _ C1.out C2.out C3.out B1.out B2.out B3.out (by omega)).mono ?_
                rintro e wu ⟨rfl, hgu⟩
                have EI4 := Lib.hid (EI3.out.grown hgu)
                have EX4 := Lib.hid (EX3.out.grown hgu)
                have GU := Lib.hid (Gr.trans GZ.out hgu)
                clear hgu p0 p1 p2
                go_wp2_with fail
                refine (rowsZ_any _ _ Lx Lx _ EI4.out EX4.out).mono ?_
                rw [beq_self_eq_true]
                rintro e wt ⟨rfl, hgt⟩
                have GF := Lib.hid (Gr.trans GT.out (Gr.trans GU.out hgt))
                clear hgt
                go_wp2_with fail
                exact ⟨⟨t + 1, by omega, by go_num, GF.out⟩, by simp [intOf]; omega⟩
        · obtain rfl : t = 3 := by omega
          rw [show ((3 : Nat) : Int) = 3 from rfl]
          go_wp2_with fail
          refine (planWakes_any HO.out _).mono ?_
          rintro e wz ⟨rfl, hgz⟩
          have GZ := Lib.hid (Gr.trans G9.out (Gr.trans GT.out hgz))
          clear hgz
          go_wp2_with fail
          go_ret
          exact ⟨rfl, GZ.out⟩
end Go.Proofs.Ytdmcncpndogdlaa
