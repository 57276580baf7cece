/-
  wellspringlaw12.PeelTells: the walk.
-/
import Derived.Test.YtjibmgdafpempaaQn
namespace Go.Proofs.Ytjibmgdafpempaa
open Go.RowKit

set_option maxRecDepth 100000 in
set_option maxHeartbeats 12800000 in
theorem peelTells_walk (O : PeelOk) (n size turn : Int) (vl vm vb : Value) (L0 : List Eqn) (l b : List Int) (w : World) (h0 : Eqs w vl L0) (hl : Zs w vm l) (hb : Bs w vb b) (hbl : b.length ≤ 9223372036854775807) (hn : I64 n) :
    Calls Try.prog 3 #[.int .i64 n, vl, vm, vb, .int .i64 size, .int .i64 turn] w fun e w' => e = .returned (.bool true) ∧ Gr w w' := by
  have HO := Lib.hid O
  have HI := Lib.hid hn
  have HL := Lib.hid hl
  have HB := Lib.hid hb
  have HBB := Lib.hid (hb.1)
  clear O hl hb hn
  obtain ⟨o0, c0, rfl⟩ := h0.form
  obtain ⟨m0, hm0⟩ : ∃ m, L0.length = m := ⟨_, rfl⟩
  rw [hm0] at h0 ⊢
  have H0 := Lib.hid h0
  have HM0 := Lib.hid hm0
  clear h0 hm0
  obtain ⟨N, hN, hN1, hN2⟩ : ∃ N : Nat, 1 + n % 12 = (N : Int) ∧ 0 < N ∧ N ≤ 12 := ⟨(1 + n % 12).toNat, by omega, by omega, by omega⟩
  obtain ⟨S, hS, hS2⟩ : ∃ S : Nat, size % 4 = (S : Int) ∧ S ≤ 3 := ⟨(size % 4).toNat, by omega, by omega⟩
  have HN := Lib.hid hN
  have HS := Lib.hid hS
  clear hN hS
  by_cases hbig : 24 < m0
  · go_enter Try.func3, Try.ntmps3
    go_wp2_with fail
    refine (peelWakes_any HO.out _).mono ?_
    rintro e w9 ⟨rfl, hg9⟩
    have G9 := Lib.hid hg9
    clear hg9
    go_wp2_with fail
    go_ret
    exact ⟨rfl, G9.out⟩
  have hm24 : m0 ≤ 24 := by omega
  have d24 : decide ((24 : Int) < m0) = false := decide_eq_false (by omega)
  clear hbig
  go_enter Try.func3, Try.ntmps3
  go_wp2_with fail
  go_loopw [38] (fun iv W => ∃ i : Nat, i ≤ m0 ∧ iv = .int .i64 i ∧ w = W ∧ ∀ j, j < i → (L0.getD j noE).c.length ≤ 24 ∧ (L0.getD j noE).d.length ≤ 24) (fun iv _ => m0 - (intOf iv).toNat)
  case atStart => exact ⟨0, by omega, rfl, rfl, by omega⟩
  case round =>
    obtain ⟨i, hi, rfl, rfl, hsm⟩ := hrel
    have HSM := Lib.hid hsm
    clear hsm
    by_cases hlt : i < m0
    · obtain ⟨b0, q0, rfl, _⟩ := H0.out.lay (by omega)
      obtain ⟨oc, nc, cc, od, nd, cd, q1, q2, zc, zd⟩ := H0.out.at hlt
      have hnc := zc.parts.1
      have hnd := zd.parts.1
      by_cases h1 : 24 < nc
      · go_wp2_with fail
        refine (peelWakes_any HO.out _).mono ?_
        rintro e w9 ⟨rfl, hg9⟩
        have G9 := Lib.hid hg9
        clear hg9
        go_wp2_with fail
        go_ret
        exact ⟨rfl, G9.out⟩
      · by_cases h2 : 24 < nd
        · go_wp2_with fail
          refine (peelWakes_any HO.out _).mono ?_
          rintro e w9 ⟨rfl, hg9⟩
          have G9 := Lib.hid hg9
          clear hg9
          go_wp2_with fail
          go_ret
          exact ⟨rfl, G9.out⟩
        · have hnew : (L0.getD i noE).c.length ≤ 24 ∧ (L0.getD i noE).d.length ≤ 24 := ⟨by omega, by omega⟩
          have HNEW := Lib.hid hnew
          clear zc zd hnc hnd hnew
          go_wp2_with fail
          refine ⟨⟨i + 1, by omega, by go_num, trivial, fun j hj => ?_⟩, by simp [intOf]; omega⟩
          by_cases e : j = i
          · rw [e]; exact HNEW.out
          · exact HSM.out j (by omega)
    · obtain rfl : i = m0 := by omega
      have HS0 : Hid (SmallE L0) := Lib.hid ⟨by rw [HM0.out]; omega, fun q hq => by
        obtain ⟨j, hj, rfl⟩ := List.getElem_of_mem hq
        have := HSM.out j (by rw [← HM0.out]; exact hj)
        rw [List.getD_eq_getElem?_getD, List.getElem?_eq_getElem hj] at this
        simp only [Option.getD_some] at this
        omega⟩
      clear HSM
      go_wp2_with fail
      refine (within_any n 12 (by omega) (by omega) _).mono ?_
      rintro e w' ⟨rfl, rfl⟩
      go_wp2_with fail
      refine (within_any size 4 (by omega) (by omega) _).mono ?_
      rintro e w' ⟨rfl, rfl⟩
      rw [HS.out]
      go_wp2_with fail
      rw [HN.out]
      refine (vals_any _ b N S _ HB.out (by omega) (by omega) hbl).mono ?_
      rintro e w1 ⟨v1, rfl, hr1, hg1⟩
      have hw1 := valsL_wide HBB.out N S
      have hl1 := valsL_length b N S
      generalize valsL b N S = vs at *
      obtain ⟨o1, c1, e1⟩ := hr1.form3
      rw [hl1] at e1
      subst e1
      have B1 := Lib.hid hr1.bss
      have G1 := Lib.hid hg1
      have HW := Lib.hid hw1
      have HVL := Lib.hid hl1
      clear hr1 hg1 hw1 hl1 hbl
      go_wp2_with fail
      refine (eqRows_any _ _ l vs N S 20 _ (HL.out.grown G1.out) B1.out hN1 (by omega) HVL.out HW.out (by omega) (by omega)).mono ?_
      rintro e w2 ⟨v2, rfl, Le, ho2, hg2, hL1, hL2⟩
      obtain ⟨o2, c2, e2⟩ := ho2.form
      obtain ⟨R, hR⟩ : ∃ R, Le.length = R := ⟨_, rfl⟩
      rw [hR] at e2 hL1
      subst e2
      have E2 := Lib.hid ho2
      have G2 := Lib.hid (Gr.trans G1.out hg2)
      have G12 := Lib.hid hg2
      have HL2 := Lib.hid hL2
      have HRL := Lib.hid hR
      have HSE : Hid (SmallE Le) := Lib.hid (SmallE.good (by omega) (by omega) (by omega) hL2)
      clear ho2 hg2 hL2 B1 G1 hR HL HB HBB
      have HCO : Hid (o2 = none → c2 = 0) := Lib.hid (fun e => by
        rcases E2.out.lies with ⟨_, _, h⟩ | ⟨g, h, _⟩
        · exact h
        · rw [h] at e
          cases e)
      have V2 : Hid (EqsV w2.heap.size w2 o2 R Le) := Lib.hid (E2.out.vals.mono G12.out.size)
      go_upto_region 12 with (at_builtin; refine wpList_append_eqs rfl _ _ rfl w2.heap.size (.slice none 0 0) [] Le rfl (EqsO.nil _ _) o2 R c2 rfl V2.out HCO.out (by simp; omega) (Nat.le_refl _) ?_; intro v4 w4 h4 hg4 hgr4 hn4; have L4 := Lib.hid h4; have G4 := Lib.hid (hg4 w2 (Gr.refl _) (Nat.le_refl _)); clear h4 hg4 hgr4 hn4; obtain ⟨o4, c4, e4⟩ := L4.out.form; rw [List.nil_append, HRL.out] at e4; subst e4)
      rw [List.nil_append] at L4
      go_cut [86] (fun bv wx => wx = w4 ∧ ∃ t : Bool, bv = .bool t ∧ (t = true → 0 < R ∧ 0 < S))
      case first =>
        by_cases hR0 : 0 < R
        · rcases L4.out.lies with ⟨_, h, _⟩ | ⟨g4, rfl, hc4⟩
          · omega
          · obtain ⟨oc, nc, cc, od, nd, cd, q1, q2, zc, zd⟩ := L4.out.eqs.at hR0
            have hnd : nd = S := by
              have := zd.parts.1
              have := (HL2.out _ (getD_memE (L := Le) (i := 0) (by rw [HRL.out]; exact hR0))).2.1
              omega
            subst hnd
            have r0 : (0 : Int) < R := by omega
            clear zc zd
            by_cases hs3 : 3 < size
            · by_cases hS0 : 0 < nd
              · go_wp2_with fail
                go_meet
                exact ⟨rfl, _, rfl, fun _ => ⟨hR0, hS0⟩⟩
              · obtain rfl : nd = 0 := by omega
                go_wp2_with fail
                go_meet
                exact ⟨rfl, false, rfl, fun h => by cases h⟩
            · go_wp2_with fail
              go_meet
              exact ⟨rfl, false, rfl, fun h => by cases h⟩
        · obtain rfl : R = 0 := by omega
          go_wp2_with fail
          go_meet
          exact ⟨rfl, false, rfl, fun h => by cases h⟩
      case rest =>
        obtain ⟨hwc, t, rfl, ht⟩ := hcut
        subst hwc
        have HT := Lib.hid ht
        clear ht
        go_upto_if 86 with fail
        go_cut [] (fun wx => ∃ Lb, EqsO w2.heap.size wx (.slice o4 R c4) Lb ∧ SmallE Lb ∧ Lb.length = R ∧ Gr w2 wx)
        case first =>
          cases t
          · go_wp2_with fail
            go_meet
            exact ⟨Le, L4.out, HSE.out, HRL.out, G4.out⟩
          · obtain ⟨hR0, hS0⟩ := HT.out rfl
            rcases L4.out.lies with ⟨_, h, _⟩ | ⟨g4, rfl, hc4⟩
            · omega
            · obtain ⟨k, hk, hk2⟩ : ∃ k : Nat, turn % (R : Int) = (k : Int) ∧ k < R := by
                have h1 := Int.emod_nonneg turn (by omega : (R : Int) ≠ 0)
                have h2 := Int.emod_lt_of_pos turn (by omega : 0 < (R : Int))
                exact ⟨(turn % (R : Int)).toNat, by omega, by omega⟩
              have HK := Lib.hid hk
              clear hk
              obtain ⟨oc, nc, cc, od, nd, cd, q1, q2, zc, zd⟩ := L4.out.eqs.at hk2
              rw [Nat.zero_add] at q1 q2
              have hgd := HL2.out _ (getD_memE (L := Le) (i := k) (by rw [HRL.out]; exact hk2))
              have hnd : nd = S := by
                have := zd.parts.1
                have := hgd.2.1
                omega
              subst hnd
              obtain ⟨hg4, cur4, hb4⟩ := L4.out.block
              have ZD := Lib.hid zd
              have HG4 := Lib.hid hg4
              have HB4 := Lib.hid hb4
              have HGD := Lib.hid hgd
              clear zc zd hg4 hgd hb4
              go_wp2_with fail
              refine (within_any turn R (by omega) (by omega) _).mono ?_
              rintro e w' ⟨rfl, rfl⟩
              rw [HK.out]
              go_wp2_with (at_builtin; refine wpList_append_bytes rfl _ _ rfl wc.heap.size (.slice none 0 0) 0 [] rfl (World.ownsRow_nil _ _ _ _) od nd cd _ rfl ZD.out (by omega) (Nat.le_refl _) ?_; intro v5 w5 h1 h2; rw [Nat.zero_add, List.nil_append] at h1; obtain ⟨g5, c5, cur5, rfl, hg5, hb5, hn5, hc5, hcur5⟩ := own_bytes h1 HGD.out.2.1 hS0; have P5 := Lib.hid (gr_noneB h2); have HG5 := Lib.hid hg5; have HB5 := Lib.hid hb5; have HC5 := Lib.hid hcur5; have t1 := cell_gr P5.out q2; have t2 := frozen_of_row w5 g4 (k * 2 + 1) _ _ (keptRow P5.out HB4.out); obtain ⟨d0, hd0⟩ : ∃ y, (Le.getD k noE).d.getD 0 0 = y := ⟨_, rfl⟩; have t3 : (w5.setCell ⟨g4, k * 2 + 1, none⟩ (.slice (some ⟨g5, 0, none⟩) nd c5)).cell? ⟨g5, 0, none⟩ = some (.int .u8 d0) := bent_cell (keptRow P5.out HB4.out) hb5 (by rw [← hd0]; exact hcur5 0 hS0) _ _; have t4 : (w5.setCell ⟨g4, k * 2 + 1, none⟩ (.slice (some ⟨g5, 0, none⟩) nd c5)).frozen? ⟨g5, 0, none⟩ = false := bent_frz (keptRow P5.out HB4.out) hb5 _ _; obtain ⟨z, hz⟩ : ∃ z, IntKind.u8.wrap (d0 + 1) = z := ⟨_, rfl⟩; have HZ : Hid (Byt z) := Lib.hid (by rw [← hz]; exact wrap8_byt _); clear h1 h2 hg5 hb5 hcur5 hd0)
              go_meet
              refine ⟨_, EqsO.bent L4.out hk2 (fun cur hcur => ?_) (fun bk hbk hne => ?_) (bs_put (g := g5) ?_ HGD.out.2.1 hn5 hc5 HGD.out.2.2.1 HZ.out HC5.out hS0) (fun a m c e hm => ?_), HSE.out.set k (by rw [HRL.out]; exact hk2) (by rw [List.length_set, HGD.out.2.1]; omega), by rw [List.length_set, HRL.out], ?_⟩
              · rw [heap_setCell_other _ _ _ _ (fun e => bent_ne (keptRow P5.out HB4.out) HB5.out (by exact e.symm))]
                exact heap_setCell_same _ _ _ _ _ _ (keptRow P5.out hcur)
              · have h5 := HG5.out
                rw [heap_setCell_other _ _ _ _ (fun e => by have e : bk = g5 := e; omega), heap_setCell_other _ _ _ _ (fun e => hne (by have e : bk = g4 := e; rw [e]))]
                exact P5.out.2.2.2.2 bk hbk
              · exact heap_setCell_same _ _ _ _ _ _ (by rw [heap_setCell_other _ _ _ _ (bent_ne (keptRow P5.out HB4.out) HB5.out)]; exact HB5.out)
              · cases e
                exact .inr ⟨_, heap_setCell_same _ _ _ _ _ _ (by rw [heap_setCell_other _ _ _ _ (bent_ne (keptRow P5.out HB4.out) HB5.out)]; exact HB5.out)⟩
              · exact Gr.setCell (Gr.setCell (Gr.trans G4.out P5.out) HG4.out _) (by have h5 := HG5.out; have h6 := G4.out.size; show w2.heap.size ≤ g5; omega) _
        case rest =>
          obtain ⟨Lb, hLb, hsb, hlb, hgb⟩ := hcut
          have LB := Lib.hid hLb
          have HSB := Lib.hid hsb
          have GB := Lib.hid hgb
          have V2b := Lib.hid ((V2.out.grown hgb).mono hgb.size)
          have V0b := Lib.hid ((H0.out.vals.grown (Gr.trans G2.out hgb)).mono (Gr.trans G2.out hgb).size)
          have HC0 : Hid (o0 = none → c0 = 0) := Lib.hid (fun e => by
            obtain ⟨o', c', he, _, _, h4, _⟩ := H0.out
            cases he
            exact h4 e)
          clear hLb hsb hlb hgb V2 L4 G4 HT HL2
          go_wp2_with (first
            | (at_builtin; have hx7 := L7; refine wpList_append_eqs rfl _ _ rfl wc.heap.size (.slice o7 R c7) ([] ++ Le) L0 rfl L7.out o0 i c0 rfl (V0b.out.grown G7.out) HC0.out (by rw [List.nil_append, HRL.out]; omega) G7.out.size ?_; intro v8 w8 h8 hg8 hgr8 hn8; have L8 := Lib.hid h8; have G8 := Lib.hid (hg8 wc G7.out (Nat.le_refl _)); clear h8 hg8 hgr8 hn8; obtain ⟨o8, c8, e8⟩ := L8.out.form; rw [List.nil_append, List.length_append, HRL.out, HM0.out] at e8; subst e8)
            | (at_builtin; refine wpList_append_eqs rfl _ _ rfl wc.heap.size (.slice none 0 0) [] Le rfl (EqsO.nil _ _) o2 R c2 rfl V2b.out HCO.out (by simp; omega) (Nat.le_refl _) ?_; intro v7 w7 h7 hg7 hgr7 hn7; have L7 := Lib.hid h7; have G7 := Lib.hid (hg7 wc (Gr.refl _) (Nat.le_refl _)); clear h7 hg7 hgr7 hn7; obtain ⟨o7, c7, e7⟩ := L7.out.form; rw [List.nil_append, HRL.out] at e7; subst e7))
          have TT : Hid (∀ t, t < 4 → ∃ o m c L, (w8.alloc (.cells #[.slice o0 i c0, .slice o2 R c2, .slice o4 R c4, .slice o8 (R + i) c8] 22)).cell? ⟨w8.heap.size, t, none⟩ = some (.slice o m c) ∧ Eqs (w8.alloc (.cells #[.slice o0 i c0, .slice o2 R c2, .slice o4 R c4, .slice o8 (R + i) c8] 22)) (.slice o m c) L ∧ SmallE L) := Lib.hid (fun t ht => by
            have hA : Gr w8 (w8.alloc (.cells #[.slice o0 i c0, .slice o2 R c2, .slice o4 R c4, .slice o8 (R + i) c8] 22)) := Gr.alloc (Gr.refl _) _ _
            have hcell := fun k => cell_of_row (w8.alloc (.cells #[.slice o0 i c0, .slice o2 R c2, .slice o4 R c4, .slice o8 (R + i) c8] 22)) w8.heap.size k _ _ _ (heap_alloc_new w8 _)
            have h4 : t = 0 ∨ t = 1 ∨ t = 2 ∨ t = 3 := by omega
            rcases h4 with rfl | rfl | rfl | rfl
            · exact ⟨o0, i, c0, L0, by rw [hcell]; rfl, H0.out.grown (Gr.trans G2.out (Gr.trans GB.out (Gr.trans G8.out hA))), HS0.out⟩
            · exact ⟨o2, R, c2, Le, by rw [hcell]; rfl, E2.out.eqs.grown (Gr.trans GB.out (Gr.trans G8.out hA)), HSE.out⟩
            · exact ⟨o4, R, c4, Lb, by rw [hcell]; rfl, LB.out.eqs.grown (Gr.trans G8.out hA), HSB.out⟩
            · exact ⟨o8, R + i, c8, _, by rw [hcell]; rfl, L8.out.eqs.grown hA, by rw [List.nil_append]; exact SmallE.append HSE.out HS0.out (by rw [HRL.out, HM0.out]; omega)⟩)
          have G9 : Hid (Gr w (w8.alloc (.cells #[.slice o0 i c0, .slice o2 R c2, .slice o4 R c4, .slice o8 (R + i) c8] 22))) := Lib.hid (Gr.trans G2.out (Gr.trans GB.out (Gr.alloc G8.out _ _)))
          clear LB HSB GB V2b V0b HC0 L7 G7 L8 G8 H0 HS0 HSE E2 G2 G12
          generalize w8.alloc (.cells #[.slice o0 i c0, .slice o2 R c2, .slice o4 R c4, .slice o8 (R + i) c8] 22) = w9 at *
          generalize w8.heap.size = gt at *
          go_loopw [119] (fun tv W => ∃ t : Nat, t ≤ 4 ∧ tv = .int .i64 t ∧ Gr w9 W) (fun tv _ => 4 - (intOf tv).toNat)
          case atStart => exact ⟨0, by omega, rfl, Gr.refl _⟩
          case round =>
            obtain ⟨wp, hwp⟩ : ∃ x, x = wr := ⟨_, rfl⟩
            subst hwp
            obtain ⟨t, ht, rfl, hgt⟩ := hrel
            have GT := Lib.hid hgt
            clear hgt
            by_cases htl : t < 4
            · obtain ⟨ox, mx, cx, Lx, qx, hx, hsx⟩ := TT.out t htl
              have qx := cell_gr GT.out qx
              have EX := Lib.hid (hx.grown GT.out)
              have HSX := Lib.hid hsx
              have HXM := Lib.hid (show Lx.length = mx from by
                obtain ⟨o', c', he, _⟩ := hx
                cases he
                rfl)
              have hmx : mx ≤ 100 := by have := HXM.out; have := hsx.1; omega
              clear hx hsx
              go_upto_if 126 with fail
              go_cut [20] (fun cv wx => wx = wp ∧ ∃ C : Int, cv = .int .i64 C ∧ I64 C)
              case first =>
                by_cases h0 : t = 0
                · subst h0
                  go_wp2_with fail
                  go_meet
                  exact ⟨rfl, _, rfl, HI.out⟩
                · go_wp2_with fail
                  go_meet
                  exact ⟨rfl, _, rfl, by unfold I64; omega⟩
              case rest =>
                obtain ⟨hwc, C, rfl, hC⟩ := hcut
                have HC := Lib.hid hC
                clear hC qx
                subst hwc
                go_wp2_with fail
                go_loopw [21, 130] (fun iv jv W => ∃ j : Nat, j ≤ mx ∧ jv = .int .i64 j ∧ EqsO wc.heap.size W iv (Lx.take j) ∧ Gr wc W) (fun _ jv _ => mx - (intOf jv).toNat)
                case atStart => exact ⟨0, by omega, rfl, EqsO.nil _ _, Gr.refl _⟩
                case round =>
                  obtain ⟨wq, hwq⟩ : ∃ x, x = wr := ⟨_, rfl⟩
                  subst hwq
                  obtain ⟨j, hj, rfl, hin, hgj⟩ := hrel
                  obtain ⟨oi, ci, ei⟩ := hin.form
                  rw [List.length_take, HXM.out, Nat.min_eq_left hj] at ei
                  subst ei
                  have IN := Lib.hid hin
                  have GJ := Lib.hid hgj
                  clear hin hgj
                  by_cases hjt : j < mx
                  · obtain ⟨bx, qx, rfl, _⟩ := EX.out.lay (by omega)
                    obtain ⟨oc, nc, cc, od, nd, cd, q1, q2, zc, zd⟩ := (EX.out.grown GJ.out).at hjt
                    have hqm := getD_memE (L := Lx) (i := j) (by rw [HXM.out]; exact hjt)
                    have hbd := HSX.out.2 _ hqm
                    have htk := take_snoc Lx j noE (by rw [HXM.out]; exact hjt)
                    generalize Lx.getD j noE = r at *
                    have hnc := zc.parts.1
                    have hnd := zd.parts.1
                    rw [hnc, hnd] at hbd
                    have gA : Gr wq (wq.alloc (.cells #[.slice oc nc cc, .slice od nd cd] 27)) := Gr.alloc (Gr.refl _) _ _
                    have c0 : (wq.alloc (.cells #[.slice oc nc cc, .slice od nd cd] 27)).cell? ⟨wq.heap.size, 0, none⟩ = some (.slice oc nc cc) := by rw [cell_of_row _ _ 0 _ _ _ (heap_alloc_new _ _)]; rfl
                    have c1 : (wq.alloc (.cells #[.slice oc nc cc, .slice od nd cd] 27)).cell? ⟨wq.heap.size, 1, none⟩ = some (.slice od nd cd) := by rw [cell_of_row _ _ 1 _ _ _ (heap_alloc_new _ _)]; rfl
                    have ZC := Lib.hid (zc.grown gA)
                    have ZD := Lib.hid (zd.grown gA)
                    have IA := Lib.hid (IN.out.grown gA)
                    have HOL := Lib.hid IN.out.own_lt
                    have GA := Lib.hid (Gr.trans GJ.out gA)
                    have HNC := Lib.hid hnc
                    have HND := Lib.hid hnd
                    have HTK := Lib.hid htk
                    obtain ⟨hb1, hb2⟩ := hbd
                    clear zc zd gA hqm htk hnc hnd IN GJ
                    go_upto_region 26 with fail
                    generalize hWA : wq.alloc (.cells #[.slice oc nc cc, .slice od nd cd] 27) = wA at *
                    generalize wq.heap.size = gq at *
                    clear hWA
                    have HSI : Hid (∀ W, Gr wA W → Calls Try.prog 11 #[.slice oc nc cc, .int .i64 71] W fun e w' => ∃ g, e = .returned (.slice (some ⟨g, 0, none⟩) nc (nc + 2)) ∧ W.heap.size ≤ g ∧ Blz w' g (r.c ++ [71, 71]) ∧ Gr W w') := Lib.hid (fun W hW => by
                      have h := spareZ_any _ r.c 71 W (ZC.out.grown hW) (by rw [HNC.out]; omega)
                      rw [HNC.out] at h
                      exact h)
                    have HSB2 : Hid (∀ W, Gr wA W → Calls Try.prog 12 #[.slice od nd cd, .int .u8 71] W fun e w' => ∃ g, e = .returned (.slice (some ⟨g, 0, none⟩) nd (nd + 2)) ∧ W.heap.size ≤ g ∧ Blk w' g (r.d ++ [71, 71]) ∧ Gr W w') := Lib.hid (fun W hW => by
                      have h := spare_any _ r.d 71 W (ZD.out.grown hW) (by rw [HND.out]; omega)
                      rw [HND.out] at h
                      exact h)
                    have HG0 := Lib.hid (Gr.drewQ (Gr.refl wA))
                    go_region_held3 (fun W => W.cell? ⟨gq, 0, none⟩ = some (.slice oc nc cc) ∧ W.cell? ⟨gq, 1, none⟩ = some (.slice od nd cd))
                      (first | exact ⟨k80, k81⟩ | exact ⟨cell_gr GR7.out c0, cell_gr GR7.out c1⟩ | exact ⟨cell_gr (Gr.alloc GR7.out _ _) c0, cell_gr (Gr.alloc GR7.out _ _) c1⟩ | exact ⟨cell_gr GR6.out c0, cell_gr GR6.out c1⟩ | go_keep)
                      (first
                        | (have hx7 := GR7; refine step_append_eqs rfl _ _ (by rfl) wc.heap.size (.slice oi j ci) (Lx.take j) [r] (by rfl) (IA.out.grown (Gr.alloc GR7.out _ _)) (some ⟨w7.heap.size, 0, none⟩) 1 1 (by rfl) (spare_single GA.out GR7.out BI.out BB.out HNC.out HND.out ZC.out.1 ZD.out.1 (by omega) (by omega)) (fun e => by cases e) (by rw [List.length_take]; omega) (by have := GA.out.size; have := GR7.out.size; simp; omega) ?_; intro v8 w8' h8 hg8 hgr8; have L8 := Lib.hid h8; have k80 := hgr8.cell (cell_gr (Gr.alloc GR7.out _ _) c0) (fun e => by have := HOL.out gq e.symm; omega); have k81 := hgr8.cell (cell_gr (Gr.alloc GR7.out _ _) c1) (fun e => by have := HOL.out gq e.symm; omega); have GC8 := Lib.hid (hg8 wc (Gr.trans GA.out (Gr.alloc GR7.out _ _)) (Nat.le_refl _)); clear h8 hg8 hgr8; obtain ⟨o8, c8, e8⟩ := L8.out.form; rw [List.length_append, List.length_take, HXM.out, Nat.min_eq_left hj] at e8; subst e8)
                        | (go_at_call 12; have hx6 := GR6; refine (HSB2.out _ GR6.out).mono ?_; rintro e w7 ⟨g7, rfl, hg7, hb7, hgr7⟩; have BI := Lib.hid (Blz.grown BI6.out hgr7); have BB := Lib.hid hb7; have GR7 := Lib.hid (Gr.trans GR6.out hgr7); clear hg7 hb7 hgr7)
                        | (go_at_call 11; refine (HSI.out _ HG0.out).mono ?_; rintro e w6 ⟨g6, rfl, hg6, hb6, hgr6⟩; have BI6 := Lib.hid hb6; have GR6 := Lib.hid (Gr.trans HG0.out hgr6); clear hg6 hb6 hgr6))
                    all_goals
                      go_wp2_with fail
                      exact ⟨⟨j + 1, by omega, by go_num, by rw [HTK.out]; exact L8.out, GC8.out⟩, by simp [intOf]; omega⟩
                  · obtain rfl : j = mx := by omega
                    have htk : Lx.take j = Lx := List.take_of_length_le (by rw [HXM.out]; exact Nat.le_refl _)
                    rw [htk] at IN
                    have EI := Lib.hid IN.out.eqs
                    have EXJ := Lib.hid (EX.out.grown GJ.out)
                    clear IN EX htk
                    go_wp2_with fail
                    refine (HO.out.peel C _ Lx _ HC.out EI.out HSX.out.big.1 HSX.out.big.2).mono ?_
                    rintro e wy ⟨vk, vv, vr, x1, kn, us, rs, rfl, hk, hv, hr, hg, hs⟩
                    have EI2 := Lib.hid (EI.out.grown hg)
                    have EX2 := Lib.hid (EXJ.out.grown hg)
                    obtain ⟨ok, ck, rfl⟩ := hk.form3
                    obtain ⟨ov, nv, cv, rfl⟩ := hv.form3
                    obtain ⟨or', cr, rfl⟩ := hr.form
                    have K1 := Lib.hid hk
                    have V1 := Lib.hid hv
                    have R1 := Lib.hid hr
                    have GY := Lib.hid (Gr.trans GJ.out hg)
                    have HS1 := Lib.hid hs
                    clear hk hv hr hg hs EI EXJ
                    go_wp2_with fail
                    refine (refPeel_any C _ Lx _ EX2.out HSX.out.big.1 HSX.out.big.2).mono ?_
                    rintro e wz ⟨vk2, vv2, vr2, x2, kn2, us2, rs2, rfl, hk2, hv2, hr2, hg2, hs2⟩
                    obtain ⟨rfl, rfl, rfl, rfl⟩ := PeelSays.unique HS1.out hs2
                    obtain ⟨ok2, ck2, rfl⟩ := hk2.form3
                    obtain ⟨ov2, nv2, cv2, rfl⟩ := hv2.form3
                    obtain ⟨or2, cr2, rfl⟩ := hr2.form
                    have K2 := Lib.hid hk2
                    have V2 := Lib.hid hv2
                    have R2 := Lib.hid hr2
                    have K1z := Lib.hid (K1.out.grown hg2)
                    have V1z := Lib.hid (V1.out.grown hg2)
                    have R1z := Lib.hid (R1.out.grown hg2)
                    have EI3 := Lib.hid (EI2.out.grown hg2)
                    have EX3 := Lib.hid (EX2.out.grown hg2)
                    have GZ := Lib.hid (Gr.trans GY.out hg2)
                    have hrs : rs.length ≤ 1000 := Nat.le_trans (PeelSays.left_le HS1.out) HSX.out.big.1
                    clear hk2 hv2 hr2 hg2 hs2 K1 V1 R1 EI2 EX2 GY HS1
                    go_wp2_with fail
                    refine (sameLaw_true _ _ _ _ _ _ kn us rs _ K1z.out K2.out V1z.out V2.out R1z.out R2.out hrs).mono ?_
                    rintro e wu ⟨rfl, hgu⟩
                    have EI4 := Lib.hid (EI3.out.grown hgu)
                    have EX4 := Lib.hid (EX3.out.grown hgu)
                    have GU := Lib.hid (Gr.trans GZ.out hgu)
                    clear hgu
                    go_wp2_with fail
                    refine (sameEqs_true _ _ Lx _ EI4.out EX4.out HSX.out.big.1).mono ?_
                    rintro e wt ⟨rfl, hgt⟩
                    have GF := Lib.hid (Gr.trans GT.out (Gr.trans GU.out hgt))
                    clear hgt
                    go_wp2_with fail
                    exact ⟨⟨t + 1, by omega, by go_num, GF.out⟩, by simp [intOf]; omega⟩
            · obtain rfl : t = 4 := by omega
              rw [show ((4 : Nat) : Int) = 4 from rfl]
              go_wp2_with fail
              refine (peelWakes_any HO.out _).mono ?_
              rintro e wz ⟨rfl, hgz⟩
              have GZ := Lib.hid (Gr.trans G9.out (Gr.trans GT.out hgz))
              clear hgz
              go_wp2_with fail
              go_ret
              exact ⟨rfl, GZ.out⟩
end Go.Proofs.Ytjibmgdafpempaa
