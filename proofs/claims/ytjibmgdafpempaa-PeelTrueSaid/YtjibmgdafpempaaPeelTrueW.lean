/-
  wellspringlaw12.PeelTrue: the walk.
-/
import Derived.Test.YtjibmgdafpempaaMgl
namespace Go.Proofs.Ytjibmgdafpempaa
open Go.RowKit

theorem two_of {l : List Int} (h : l.length = 2) : l = [l.getD 0 0, l.getD 1 0] := by
  match l, h with
  | [a, b], _ => rfl
theorem two_put {W : World} {g : Nat} {a0 a1 : Int} (h : W.heap[g]? = some (.cells #[.int .u8 a0, .int .u8 a1] 5 (0, 0))) (x y : Int) :
    (((W.setCell ⟨g, 0, none⟩ (.int .u8 x)).setCell ⟨g, 1, none⟩ (.int .u8 y)).drew).heap[g]? = some (.cells #[.int .u8 x, .int .u8 y] 5 (0, 0)) :=
  heap_setCell_same _ _ _ _ _ _ (heap_setCell_same _ _ _ _ _ _ h)
theorem two_far {W : World} {g k : Nat} {a0 a1 : Int} {od : Option Addr} {m cd : Nat} (h : W.heap[g]? = some (.cells #[.int .u8 a0, .int .u8 a1] 5 (0, 0))) (hc : W.cell? ⟨k, 1, none⟩ = some (.slice od m cd)) (x y : Int) :
    (((W.setCell ⟨g, 0, none⟩ (.int .u8 x)).setCell ⟨g, 1, none⟩ (.int .u8 y)).drew).cell? ⟨k, 1, none⟩ = some (.slice od m cd) := by
  have hne : k ≠ g := fun e => by
    subst e
    rw [cell_of_row _ _ 1 _ _ _ h] at hc
    simp at hc
  exact cell_far (cell_far hc (fun e => hne (by injection e))) (fun e => hne (by injection e))
theorem vec_two {a0 a1 y0 y1 : Int} (h0 : Byt a0) (h1 : Byt a1) (h2 : Byt y0) (h3 : Byt y1) : vec [addZ a0 y0, addZ a1 y1] = L.vadd (vec [a0, a1]) (vec [y0, y1]) := by
  have b1 : ∀ z ∈ [a0, a1], Byt z := fun z hz => by
    rcases List.mem_cons.1 hz with rfl | hz
    · exact h0
    · obtain rfl : z = a1 := by simpa using hz
      exact h1
  have b2 : ∀ z ∈ [y0, y1], Byt z := fun z hz => by
    rcases List.mem_cons.1 hz with rfl | hz
    · exact h2
    · obtain rfl : z = y1 := by simpa using hz
      exact h3
  rw [← vec_sum b1 b2 rfl]
  rfl
theorem drN_more {w W : World} (h : ∃ d, W = w.drewN d) (m : Nat) : ∃ d, W.drewN m = w.drewN d := by
  obtain ⟨d, rfl⟩ := h
  exact ⟨_, World.drewN_drewN _ _ _⟩
set_option maxRecDepth 100000 in
set_option maxHeartbeats 3200000 in
theorem peelTrue_walk (O : PeelOk) (n : Int) (vl vb : Value) (l b : List Int) (w : World) (hl : Zs w vl l) (hb : Bs w vb b) (hbl : b.length ≤ 9223372036854775807) :
    Calls Try.prog 4 #[.int .i64 n, vl, vb] w fun e w' => e = .returned (.bool true) ∧ Gr w w' := by
  have HO := Lib.hid O
  have HL := Lib.hid hl
  have HB := Lib.hid hb
  have HBB := Lib.hid (hb.1)
  clear O hl hb
  obtain ⟨N, hN, hN1, hN2⟩ : ∃ N : Nat, 1 + n % 14 = (N : Int) ∧ 0 < N ∧ N ≤ 14 := ⟨(1 + n % 14).toNat, by omega, by omega, by omega⟩
  have HN := Lib.hid hN
  clear hN
  go_enter Try.func4, Try.ntmps4
  go_wp2_with fail
  refine (within_any n 14 (by omega) (by omega) _).mono ?_
  rintro e w' ⟨rfl, rfl⟩
  go_wp2_with fail
  rw [HN.out]
  refine (vals_any _ b N 2 _ HB.out (by omega) (by omega) hbl).mono ?_
  rintro e w1 ⟨v1, rfl, hr1, hg1⟩
  have hw1 := valsL_wide HBB.out N 2
  have hl1 := valsL_length b N 2
  generalize valsL b N 2 = vs at *
  obtain ⟨o1, c1, e1⟩ := hr1.form3
  rw [hl1] at e1
  subst e1
  have B1 := Lib.hid hr1.bss
  have G1 := Lib.hid hg1
  have HW := Lib.hid hw1
  have HVL := Lib.hid hl1
  clear hr1 hg1 hw1 hl1 hbl
  go_wp2_with fail
  refine (eqRows_any _ _ l vs N 2 24 _ (HL.out.grown G1.out) B1.out hN1 (by omega) HVL.out HW.out (by omega) (by omega)).mono ?_
  rintro e w2 ⟨v2, rfl, Le, ho2, hg2, hL1, hL2⟩
  obtain ⟨o2, c2, e2⟩ := ho2.form
  subst e2
  have E2 := Lib.hid ho2.eqs
  have G2 := Lib.hid (Gr.trans G1.out hg2)
  have B2 := Lib.hid (B1.out.grown hg2)
  have HL2 := Lib.hid hL2
  clear ho2 hg2 hL2 B1 G1
  go_wp2_with fail
  refine (HO.out.peel N _ Le _ ⟨by omega, by omega⟩ E2.out (by omega) (fun q hq => ⟨by have h := HL2.out q hq; have := rising_le h.1.2 h.1.1; omega, by rw [(HL2.out q hq).2.1]; omega⟩)).mono ?_
  rintro e w3 ⟨vk, vv, vr, x, kn, us, rs, rfl, hk, hv, hr, hg, hs⟩
  obtain ⟨rfl, hT⟩ := peel_true (by omega) HW.out HVL.out HL2.out hs
  obtain ⟨ok, ck, e3⟩ := hk.form3
  obtain ⟨ov, nv, cv, rfl⟩ := hv.form3
  obtain ⟨or', cr, e5⟩ := hr.form
  have e4 : nv = us.length := hv.len3
  rw [hT.ulen] at e4
  rw [hT.len] at e3
  subst e3 e4 e5
  have hrl : rs.length ≤ 24 := by
    rw [hT.left]
    exact Nat.le_trans (leftE_le _ _ _) hL1
  obtain ⟨R, hR⟩ : ∃ R, rs.length = R := ⟨_, rfl⟩
  rw [hR] at hr hrl
  have HK := Lib.hid hk
  have HV := Lib.hid hv
  have HR := Lib.hid hr
  have G3 := Lib.hid (Gr.trans G2.out hg)
  have B3 := Lib.hid (B2.out.grown hg)
  have HT := Lib.hid hT
  have HRR := Lib.hid hR
  rw [hR]
  clear hk hv hr hg hs hT hR E2 HL2 G2 B2 HL HB HBB hL1
  go_wp2_with fail
  go_loopw [53] (fun iv W => ∃ i : Nat, i ≤ nv ∧ iv = .int .i64 i ∧ ∃ d, W = w3.drewN d) (fun iv _ => nv - (intOf iv).toNat)
  case atStart => exact ⟨0, by omega, rfl, 0, rfl⟩
  case round =>
    obtain ⟨wo, hwo⟩ : ∃ x, x = wr := ⟨_, rfl⟩
    subst hwo
    obtain ⟨i, hi, rfl, hd⟩ := hrel
    have HD := Lib.hid hd
    have hgd : Gr w3 wo := by
      obtain ⟨d, rfl⟩ := hd
      exact gr_drN w3 d
    clear hd
    by_cases hlt : i < nv
    · obtain ⟨ak, rfl⟩ := Bl.addr HK.out hN1
      obtain ⟨av, rfl⟩ := Bss.addr HV.out hN1
      obtain ⟨a1, rfl⟩ := Bss.addr B3.out hN1
      have q1 := Bl.cellAt (HK.out.grown hgd) hlt
      obtain ⟨u1, q2, hu1⟩ := Bss.rowAt (HV.out.grown hgd) hlt
      obtain ⟨u2, q3, hu2⟩ := Bss.rowAt (B3.out.grown hgd) hlt
      obtain ⟨x1, y1, z1, rfl⟩ := Bs.form4 hu1
      obtain ⟨x2, y2, z2, rfl⟩ := Bs.form4 hu2
      clear hgd
      by_cases hkn : kn.getD i false = true
      · have HC : Hid (∀ d, Calls Try.prog 17 #[.slice x1 y1 z1, .slice x2 y2 z2] (wo.drewN d) fun e w' => e = .returned (.bool true) ∧ ∃ m, w' = (wo.drewN d).drewN m) := Lib.hid (fun d => by
          have h := same_quiet _ _ _ _ _ (hu1.grown (gr_drN wo d)) (hu2.grown (gr_drN wo d))
          rw [HT.out.val i hkn, beq_self_eq_true] at h
          exact h)
        rw [hkn] at q1
        clear hu1 hu2 hkn
        go_wp2
        go_quiet (first | (go_at_call 17; refine Calls.quiet_of (HC.out _)))
        go_wp2
        exact ⟨⟨i + 1, by omega, by go_num, drN_more HD.out _⟩, by simp [intOf]; omega⟩
      · have hkf : kn.getD i false = false := by simpa using hkn
        have hy1 : y1 = 0 := by
          have h := hu1.parts.1
          rw [HT.out.no i hkf] at h
          simpa using h.symm
        subst hy1
        rw [hkf] at q1
        clear hu1 hu2 hkn hkf
        go_wp2
        go_quiet (fail)
        go_wp2
        exact ⟨⟨i + 1, by omega, by go_num, drN_more HD.out _⟩, by simp [intOf]; omega⟩
    · obtain rfl : i = nv := by omega
      have HRo := Lib.hid (HR.out.grown hgd)
      have B3o := Lib.hid (B3.out.grown hgd)
      have HKo := Lib.hid (HK.out.grown hgd)
      have G3o := Lib.hid (Gr.trans G3.out hgd)
      clear HK HV HR B3 G3 hgd HD
      go_wp2_with fail
      go_loopw [90] (fun iv W => ∃ t : Nat, t ≤ R ∧ iv = .int .i64 t ∧ Gr wo W) (fun iv _ => R - (intOf iv).toNat)
      case atStart => exact ⟨0, by omega, rfl, Gr.refl _⟩
      case round =>
        obtain ⟨wp, hwp⟩ : ∃ x, x = wr := ⟨_, rfl⟩
        subst hwp
        obtain ⟨t, ht, rfl, hgt⟩ := hrel
        have GT := Lib.hid hgt
        clear hgt
        by_cases htl : t < R
        · obtain ⟨bq, oq, rfl, _⟩ := HRo.out.lay (by omega)
          obtain ⟨oc, nc, cc, od, nd, cd, q1, q2, zc, zd⟩ := (HRo.out.grown GT.out).at htl
          have hqm := getD_memE (L := rs) (i := t) (by rw [HRR.out]; exact htl)
          obtain ⟨h2c, ⟨hmr, hdl, hdb, hdv⟩, hno⟩ := HT.out.two _ hqm
          generalize rs.getD t noE = r at *
          have hnc : r.c.length = nc := zc.parts.1
          have hnd : nd = 2 := by
            have := zd.parts.1
            omega
          subst hnd
          have h2n : 2 ≤ nc := by omega
          have hcn : nc ≤ 64 := by
            have := rising_le hmr.2 hmr.1
            omega
          have gA : Gr wp (wp.alloc (.cells #[.slice oc nc cc, .slice od 2 cd] 27)) := Gr.alloc (Gr.refl _) _ _
          have c0 : (wp.alloc (.cells #[.slice oc nc cc, .slice od 2 cd] 27)).cell? ⟨wp.heap.size, 0, none⟩ = some (.slice oc nc cc) := by rw [cell_of_row _ _ 0 _ _ _ (heap_alloc_new _ _)]; rfl
          have c1 : (wp.alloc (.cells #[.slice oc nc cc, .slice od 2 cd] 27)).cell? ⟨wp.heap.size, 1, none⟩ = some (.slice od 2 cd) := by rw [cell_of_row _ _ 1 _ _ _ (heap_alloc_new _ _)]; rfl
          have ZC := Lib.hid (zc.grown gA)
          have ZD := Lib.hid (zd.grown gA)
          have GT2 := Lib.hid (Gr.trans GT.out gA)
          have HMR := Lib.hid hmr
          have HDL := Lib.hid hdl
          have HDB := Lib.hid hdb
          have HDV := Lib.hid hdv
          have HNO := Lib.hid hno
          have HNC := Lib.hid hnc
          clear zc zd gA hmr hdl hdb hdv hno hnc h2c hqm
          go_wp2_with fail
          generalize hW5 : wp.alloc (.cells #[.slice oc nc cc, .slice od 2 cd] 27) = w5 at *
          generalize wp.heap.size = gq at *
          clear hW5
          refine (rises_any _ r.c _ ZC.out HMR.out.2 (by rw [HNC.out]; omega)).mono ?_
          rintro e w6 ⟨rfl, hg6⟩
          have c06 := cell_gr hg6 c0
          have c16 := cell_gr hg6 c1
          have G6 := Lib.hid hg6
          clear hg6 c0 c1
          have S0 : Hid (Gr w5 (w6.alloc (.cells #[.int .u8 0, .int .u8 0] 5)) ∧ (w6.alloc (.cells #[.int .u8 0, .int .u8 0] 5)).heap[w6.heap.size]? = some (.cells #[.int .u8 0, .int .u8 0] 5 (0, 0))) := Lib.hid ⟨Gr.trans G6.out (Gr.alloc (Gr.refl _) _ _), heap_alloc_new _ _⟩
          have c07 := cell_gr (Gr.alloc (Gr.refl w6) #[.int .u8 0, .int .u8 0] 5) c06
          have c17 := cell_gr (Gr.alloc (Gr.refl w6) #[.int .u8 0, .int .u8 0] 5) c16
          go_wp2_with fail
          have HGS : Hid (w5.heap.size ≤ w6.heap.size) := Lib.hid G6.out.size
          generalize w6.alloc (.cells #[.int .u8 0, .int .u8 0] 5) = w7 at *
          generalize w6.heap.size = gs at *
          have C17 := Lib.hid c17
          clear c06 c07 c16 c17
          go_loopw [114] (fun jv W => ∃ (j : Nat) (a0 a1 : Int), j ≤ nc ∧ jv = .int .i64 j ∧ W.heap[gs]? = some (.cells #[.int .u8 a0, .int .u8 a1] 5 (0, 0)) ∧ Byt a0 ∧ Byt a1 ∧ vec [a0, a1] = PL.tot VT (valV vs) ((r.c.take j).map Int.toNat) ∧ Gr w5 W ∧ W.cell? ⟨gq, 1, none⟩ = some (.slice od 2 cd)) (fun jv _ => nc - (intOf jv).toNat)
          case atStart => exact ⟨0, 0, 0, by omega, rfl, S0.out.2, ⟨by omega, by omega⟩, ⟨by omega, by omega⟩, vec_noughtsQ 2, S0.out.1, C17.out⟩
          case round =>
            clear S0 G6 C17
            obtain ⟨wk, hwk⟩ : ∃ x, x = wr := ⟨_, rfl⟩
            subst hwk
            obtain ⟨j, a0, a1, hj, rfl, hs, hb0, hb1, hvv, hgj, hck⟩ := hrel
            have HS := Lib.hid hs
            have HB0 := Lib.hid hb0
            have HB1 := Lib.hid hb1
            have HVV := Lib.hid hvv
            have GJ := Lib.hid hgj
            have C17 := Lib.hid hck
            clear hs hb0 hb1 hvv hgj hck
            by_cases hjt : j < nc
            · obtain ⟨ac, rfl⟩ := Zs.addr ZC.out (by omega)
              have p1 := Zs.cellAt (ZC.out.grown GJ.out) hjt
              have hxm : r.c.getD j 0 ∈ r.c := by
                rw [List.getD_eq_getElem?_getD, List.getElem?_eq_getElem (by rw [HNC.out]; exact hjt)]
                exact List.getElem_mem _
              have hx := HMR.out.1 _ hxm
              have hxk := HNO.out _ hxm
              have hsn := take_snoc r.c j 0 (by rw [HNC.out]; exact hjt)
              obtain ⟨X, hX⟩ : ∃ X : Nat, r.c.getD j 0 = (X : Int) := ⟨(r.c.getD j 0).toNat, by omega⟩
              rw [hX] at p1 hx hxk hsn
              rw [Int.toNat_natCast] at hxk
              have hXi : X < i := by omega
              obtain ⟨ak, rfl⟩ := Bl.addr HKo.out hN1
              obtain ⟨av, rfl⟩ := Bss.addr B3o.out hN1
              have hgo : Gr wo wk := Gr.trans GT2.out GJ.out
              have p2 := Bl.cellAt (HKo.out.grown hgo) hXi
              rw [hxk] at p2
              obtain ⟨uV, p3, huV⟩ := Bss.rowAt (B3o.out.grown hgo) hXi
              obtain ⟨oV, mV, cV, rfl⟩ := Bs.form4 huV
              have hvw := HW.out (vs.getD X []) (by rw [List.getD_eq_getElem?_getD, List.getElem?_eq_getElem (by rw [HVL.out]; exact hXi)]; exact List.getElem_mem _)
              have hmV : mV = 2 := by
                have := huV.parts.1
                omega
              subst hmV
              obtain ⟨aV, rfl⟩ := Bs.addr huV (by omega)
              have p4 := Bs.cellQ huV (i := 0) (by omega)
              have p5 := Bs.cellQ huV (i := 1) (by omega)
              rw [add_nought] at p4
              obtain ⟨bV, qV, sV⟩ := aV
              obtain rfl : sV = none := by simpa using World.cell?_spot p4
              have p5 : wk.cell? ⟨bV, qV + 1, none⟩ = some (.int .u8 ((vs.getD X []).getD 1 0)) := p5
              have hy0 := getD_byt hvw.2 0
              have hy1 := getD_byt hvw.2 1
              have hvx : valV vs X = vec [(vs.getD X []).getD 0 0, (vs.getD X []).getD 1 0] := by
                show vec (vs.getD X []) = _
                rw [← two_of hvw.1]
              generalize (vs.getD X []).getD 0 0 = y0 at *
              generalize (vs.getD X []).getD 1 0 = y1 at *
              have s0 : wk.cell? ⟨gs, 0, none⟩ = some (.int .u8 a0) := by rw [cell_of_row _ _ 0 _ _ _ HS.out]; rfl
              have s1 : wk.cell? ⟨gs, 1, none⟩ = some (.int .u8 a1) := by rw [cell_of_row _ _ 1 _ _ _ HS.out]; rfl
              have f0 : wk.frozen? ⟨gs, 0, none⟩ = false := frozen_of_row _ _ 0 _ _ HS.out
              have f1 : wk.frozen? ⟨gs, 1, none⟩ = false := frozen_of_row _ _ 1 _ _ HS.out
              have hx0 := xorZ _ _ HB0.out hy0
              have hx1 := xorZ _ _ HB1.out hy1
              have HX0 := Lib.hid hx0
              have HX1 := Lib.hid hx1
              have HY0 := Lib.hid hy0
              have HY1 := Lib.hid hy1
              have HSN := Lib.hid hsn
              have HVX := Lib.hid hvx
              have s2 : ∃ y, (wk.setCell ⟨gs, 0, none⟩ (.int .u8 (bits BinOp.xor IntKind.u8 a0 y0))).cell? ⟨gs, 1, none⟩ = some y := ⟨_, cell_far s1 (by simp)⟩
              have s3 : ∃ y, (wk.setCell ⟨gs, 1, none⟩ (.int .u8 (bits BinOp.xor IntKind.u8 a1 y1))).cell? ⟨gs, 0, none⟩ = some y := ⟨_, cell_far s0 (by simp)⟩
              obtain ⟨t2, s2⟩ := s2
              obtain ⟨t3, s3⟩ := s3
              clear hx0 hx1 hy0 hy1 hsn hvx huV hvw hgo hxm hxk hX
              go_wp2_with fail
              go_region
              rw [HX0.out, HX1.out]
              go_wp2_with fail
              refine ⟨⟨j + 1, addZ a0 y0, addZ a1 y1, by omega, by go_num, two_put HS.out _ _, addZ_byt HB0.out HY0.out, addZ_byt HB1.out HY1.out, ?_, Gr.drewQ (Gr.setCell (Gr.setCell GJ.out HGS.out _) HGS.out _), two_far HS.out C17.out _ _⟩, by simp [intOf]; omega⟩
              rw [HSN.out, List.map_append, PL.tot_append, ← HVV.out]
              show vec _ = L.vadd (vec [a0, a1]) (L.vadd (valV vs (Int.toNat (X : Int))) L.vzero)
              rw [Int.toNat_natCast, HVX.out, L.vadd_comm (vec [y0, y1]) L.vzero, L.vzero_add]
              exact vec_two HB0.out HB1.out HY0.out HY1.out
            · obtain rfl : j = nc := by omega
              have hbs : Bs wk (.slice (some ⟨gs, 0, none⟩) 2 2) [a0, a1] := by
                refine ⟨fun z hz => ?_, some ⟨gs, 0, none⟩, 2, rfl, Nat.le_refl _, by omega, (fun e => by cases e), fun a ha i hi => ?_⟩
                · rcases List.mem_cons.1 hz with rfl | hz
                  · exact HB0.out
                  · obtain rfl : z = a1 := by simpa using hz
                    exact HB1.out
                · cases ha
                  have h2 : i = 0 ∨ i = 1 := by
                    have : i < 2 := hi
                    omega
                  rcases h2 with rfl | rfl
                  · exact cell_of_row _ _ 0 _ _ _ HS.out
                  · exact cell_of_row _ _ 1 _ _ _ HS.out
              have heq : [a0, a1] = r.d := by
                refine vec_inj (by rw [HDL.out]; rfl) hbs.1 HDB.out ?_
                rw [HVV.out, HDV.out, ← HNC.out, List.take_length]
              rw [heq] at hbs
              have HBS := Lib.hid hbs
              have c1k := C17.out
              clear hbs heq
              go_wp2_with fail
              refine (same_any _ _ r.d r.d _ HBS.out (ZD.out.grown GJ.out)).mono ?_
              rw [beq_self_eq_true]
              rintro e w8 ⟨rfl, hg8⟩
              have G8 := Lib.hid (Gr.trans GT2.out (Gr.trans GJ.out hg8))
              clear hg8 c1k
              go_wp2_with fail
              exact ⟨⟨t + 1, by omega, by go_num, G8.out⟩, by simp [intOf]; omega⟩
        · obtain rfl : t = R := by omega
          go_wp2_with fail
          refine (peelWakes_any HO.out _).mono ?_
          rintro e w9 ⟨rfl, hg9⟩
          have G9 := Lib.hid (Gr.trans G3o.out (Gr.trans GT.out hg9))
          clear hg9
          go_wp2_with fail
          go_ret
          exact ⟨rfl, G9.out⟩
end Go.Proofs.Ytjibmgdafpempaa
