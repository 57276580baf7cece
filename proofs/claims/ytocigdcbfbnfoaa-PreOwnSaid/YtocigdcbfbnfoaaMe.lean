/-
  Package mat as it was written: rows are reduced in place, column by column.
-/
import Derived.Test.YtocigdcbfbnfoaaMd
namespace Go.Proofs.Ytocigdcbfbnfoaa
open Go.RowKit

theorem gr_drew {W w2 : World} (h : Gr W.drew w2) : Gr W w2 := h
theorem gr_drewN {W w2 : World} {d : Nat} (h : Gr (W.drewN d) w2) : Gr W w2 := h
section
variable {w0 : World} {g n c k : Nat} {A Lm : List (List Int)} {ps : List Nat} {col : Nat} {us : List Value}
set_option maxRecDepth 100000 in
set_option maxHeartbeats 1600000 in
theorem sweep_any (w : World) (h : Mx w0 w g n c k A Lm ps col us) (ft : Nat) (hf : FieldAt w ft) (hfg : ft ≠ g) (d cl : Nat) (hd : ps.length ≤ d) (hd2 : d < n) (hcl : cl < k) (hone : (Lm.getD d []).getD cl 0 = 1) (hn : n ≤ 1000) (hk : k ≤ 1000) (hnc : n ≤ c) (hc : c ≤ 9223372036854775807) :
    Calls Try.prog 42 #[.pointer (some ⟨ft, 0, none⟩), .slice (some ⟨g, 0, none⟩) n c, .int .i64 d, .int .i64 cl] w fun e w' => e = .returned (.tuple #[]) ∧ FieldAt w' ft ∧
      ∃ L3 us3, Mx w0 w' g n c k A L3 ps col us3 ∧ (L3.getD d []).getD cl 0 = 1 ∧ ∀ s, s < n → s ≠ d → (L3.getD s []).getD cl 0 = 0 := by
  have HX := Lib.hid h
  have HF0 := Lib.hid hf
  have HO := Lib.hid hone
  have HFG := Lib.hid hfg
  clear h hf hone hfg
  go_enter Try.func42, Try.ntmps42
  go_wp2
  go_loopw [12] (fun i W => ∃ (j : Nat) (L3 : List (List Int)) (us3 : List Value), j ≤ n ∧ i = .int .i64 j ∧ Mx w0 W g n c k A L3 ps col us3 ∧ FieldAt W ft ∧ (L3.getD d []).getD cl 0 = 1 ∧ ∀ s, s < j → s ≠ d → (L3.getD s []).getD cl 0 = 0) (fun i _ => n - (intOf i).toNat)
  case atStart => exact ⟨0, Lm, us, by omega, rfl, HX.out, HF0.out, HO.out, by omega⟩
  case round =>
    clear HX HO HF0
    obtain ⟨j, L3, us3, hj, rfl, hx3, hft, hone, hzs⟩ := hrel
    have H3 := Lib.hid hx3
    have HF := Lib.hid hft
    have HONE := Lib.hid hone
    have HZS := Lib.hid hzs
    clear hx3 hone hzs hft
    by_cases hlt : j < n
    · obtain ⟨oj, cj, ej, qj, rj⟩ := H3.out.cell j hlt
      obtain ⟨bj, rfl, rqj⟩ := rj cl hcl
      clear rj
      by_cases hjd : j = d
      · subst hjd
        clear ej
        go_wp2
        refine ⟨⟨j + 1, L3, us3, by omega, by go_num, H3.out, HF.out, HONE.out, fun s s1 s2 => HZS.out s (by omega) s2⟩, by simp [intOf]; omega⟩
      · have hjd' : ((j : Int) != d) = true := by simp; omega
        have hbz := H3.out.wide.byt j cl
        generalize hzz : (L3.getD j []).getD cl 0 = z at *
        have HZZ := Lib.hid hzz
        have HEJ := Lib.hid ej
        have HJD := Lib.hid hjd
        clear hzz ej hjd
        by_cases hz0 : z = 0
        · subst hz0
          go_wp2
          refine ⟨⟨j + 1, L3, us3, by omega, by go_num, H3.out, HF.out, HONE.out, fun s s1 s2 => ?_⟩, by simp [intOf]; omega⟩
          by_cases e : s = j
          · rw [e, HZZ.out]
          · exact HZS.out s (by omega) s2
        · have hzb : (z != 0) = true := by simpa using hz0
          obtain ⟨od, cd, ed, qd, _⟩ := H3.out.cell d hd2
          have fj := H3.out.frozen j
          have hrj := (H3.out.row j hlt).1
          have hrd := (H3.out.row d hd2).1
          rw [HEJ.out] at hrj
          rw [ed] at hrd
          have RJ := Lib.hid hrj
          have RD := Lib.hid hrd
          have WJ : Hid ((L3.getD j []).length = k) := Lib.hid (H3.out.wide.at j (by rw [H3.out.len]; exact hlt)).1
          have WD : Hid ((L3.getD d []).length = k) := Lib.hid (H3.out.wide.at d (by rw [H3.out.len]; exact hd2)).1
          clear hrj hrd ed hz0
          go_wp2
          go_region_law (first
            | ((try go_simp); go_at_call 43; refine (ok_axpy _ _ _ z (L3.getD d []) (L3.getD j []) _ (Or.inr ⟨ft, rfl, by exact HF.out⟩) hbz (Bs.grown RD.out (Gr.drew (Gr.refl _))) (Bs.grown RJ.out (Gr.drew (Gr.refl _))) (by rw [WD.out]; omega) (by rw [WJ.out, WD.out])).mono ?_; rintro e w2 ⟨v2, rfl, hnw⟩; obtain ⟨o2, m2, c2', rfl⟩ := New.form3 hnw; have hc2 := cell_grown hnw.1 qj; have hf2 := frozen_grown hnw.1 qj fj; have HNW := Lib.hid hnw; clear hnw))
          all_goals
            go_wp2_with fail
            refine ⟨⟨j + 1, _, _, by omega, by go_num, (H3.out.grow (Gr.trans (Gr.drew (Gr.refl _)) HNW.out.1)).added j d hd hd2 hlt HJD.out hbz (New.bs HNW.out) (New.rb HNW.out _), FieldAt.put (FieldAt.grown HF.out (gr_drew HNW.out.1)) HFG.out, ?_, fun s s1 s2 => ?_⟩, by simp [intOf]; omega⟩
            · rw [getD_set_ne _ _ _ _ HJD.out, HONE.out]
            · by_cases e : s = j
              · rw [e, getD_set_self _ _ _ (by rw [H3.out.len]; exact hlt), axL_getD _ _ _ _ (by rw [WD.out]; exact hcl), HONE.out, HZZ.out, mulZ_one z hbz, addZ_self]
              · rw [getD_set_ne _ _ _ _ (fun c => e c.symm)]
                exact HZS.out s (by omega) s2
    · obtain rfl : j = n := by omega
      go_wp2
      go_end0
      exact ⟨rfl, HF.out, L3, us3, H3.out, HONE.out, fun s s1 s2 => HZS.out s s1 s2⟩
set_option maxRecDepth 100000 in
set_option maxHeartbeats 3200000 in
theorem eliminate_any (w : World) (h : Mx w0 w g n c k A A [] 0 us) (ft : Nat) (hf : FieldAt w ft) (hfg : ft ≠ g) (cols : Nat) (hcols : cols ≤ k) (hn : n ≤ 1000) (hk : k ≤ 1000) (hnc : n ≤ c) (hc : c ≤ 9223372036854775807) :
    Calls Try.prog 35 #[.pointer (some ⟨ft, 0, none⟩), .slice (some ⟨g, 0, none⟩) n c, .int .i64 cols] w fun e w' => ∃ (ps : List Nat) (Lm : List (List Int)) (us' : List Value), e = .returned (.int .i64 (ps.length : Nat)) ∧ Mx w0 w' g n c k A Lm ps cols us' := by
  have HX0 := Lib.hid h
  have HF0 := Lib.hid hf
  have HFG := Lib.hid hfg
  clear h hf hfg
  go_enter Try.func35, Try.ntmps35
  go_wp2
  go_loopw [7, 11] (fun dd cc W => ∃ (cl : Nat) (Lm : List (List Int)) (ps : List Nat) (us : List Value), cl ≤ cols ∧ cc = .int .i64 cl ∧ dd = .int .i64 (ps.length : Nat) ∧ FieldAt W ft ∧ Mx w0 W g n c k A Lm ps cl us) (fun _ cc _ => cols - (intOf cc).toNat)
  case atStart => exact ⟨0, A, [], us, by omega, rfl, rfl, HF0.out, HX0.out⟩
  case round =>
    clear HX0 HF0
    obtain ⟨cl, Lm, ps, us, hcl, rfl, rfl, hff, hx⟩ := hrel
    have HX := Lib.hid hx
    have HF := Lib.hid hff
    have hdn : ps.length ≤ n := by have := hx.ech.le; rw [List.length_map, hx.len] at this; exact this
    generalize hd : ps.length = d at *
    have HD := Lib.hid hd
    clear hx hd hff
    by_cases hend : cl < cols
    · have hck : cl < k := by omega
      go_wp2_with fail
      refine (beginning_any _ HX.out d cl hdn hck hn).mono ?_
      rintro e w1 ⟨hg1, ⟨rfl, h0⟩ | ⟨t, rfl, t1, t2, t3⟩⟩
      · have HX1 := Lib.hid (HX.out.grow hg1)
        have HF1 := Lib.hid (FieldAt.grown HF.out hg1)
        have H0 := Lib.hid h0
        clear HX h0 hg1
        go_wp2
        refine ⟨⟨cl + 1, Lm, ps, us, by omega, by go_num, by rw [HD.out], HF1.out, HX1.out.to (HX1.out.ech.skip fun s hs => ?_)⟩, by simp [intOf]; omega⟩
        rw [at_vec]
        by_cases e : s < n
        · rw [H0.out s (by rw [← HD.out]; exact hs) e, fb_zero]
        · have hnil : Lm.getD s [] = [] := by
            rw [List.getD_eq_getElem?_getD, List.getElem?_eq_none (by rw [HX1.out.len]; omega)]
            rfl
          rw [hnil]
          rfl
      · have HX1 := Lib.hid (HX.out.grow hg1)
        have HF1 := Lib.hid (FieldAt.grown HF.out hg1)
        have H0 := Lib.hid t3
        clear HX t3 hg1 HF
        have hd1 : d < n := by omega
        obtain ⟨oa1, ca1, ea, qa, _⟩ := HX1.out.cell t t2
        obtain ⟨od1, cd1, ed, qd, _⟩ := HX1.out.cell d hd1
        have ft1 := HX1.out.frozen t
        have fd1 := HX1.out.frozen d
        have HEA := Lib.hid ea
        have HED := Lib.hid ed
        clear ea ed
        obtain ⟨y, hy⟩ : ∃ y, (w1.setCell ⟨g, d, none⟩ (.slice oa1 k ca1)).cell? ⟨g, t, none⟩ = some y := by
          obtain ⟨_, ⟨he, _⟩ | ⟨g', c', cur, he, _, hg, hh1, hh2, hh3, _⟩⟩ := HX1.out.own
          · cases he
          · cases he
            have h2 := heap_setCell_same w1 g d cur _ (.slice oa1 k ca1) hg
            rw [cell_of_row _ g t _ _ _ h2]
            have : t < (cur.setIfInBounds d (.slice oa1 k ca1)).size := by simp; omega
            exact ⟨_, by rw [Array.getElem?_eq_getElem this]⟩
        go_wp2
        go_region
        have hsw := (HX1.out.swap d t (by rw [HD.out]; exact Nat.le_refl _) hd1 (by rw [HD.out]; exact t1) t2).grow (Gr.drew (Gr.refl _))
        rw [HEA.out, HED.out] at hsw
        have hz1 : (((Lm.set d (Lm.getD t [])).set t (Lm.getD d [])).getD d []).getD cl 0 ≠ 0 := by
          by_cases e : t = d
          · subst e
            rw [getD_set_self _ _ _ (by rw [List.length_set, HX1.out.len]; exact hd1)]
            exact H0.out
          · rw [getD_set_ne _ _ _ _ e, getD_set_self _ _ _ (by rw [HX1.out.len]; exact hd1)]
            exact H0.out
        have H1 := Lib.hid hsw
        have HZ1 := Lib.hid hz1
        have HF2 : Hid (FieldAt ((w1.setCell ⟨g, d, none⟩ (.slice oa1 k ca1)).setCell ⟨g, t, none⟩ (.slice od1 k cd1)).drew ft) := Lib.hid (FieldAt.grown (FieldAt.put (FieldAt.put HF1.out HFG.out) HFG.out) (Gr.drew (Gr.refl _)))
        clear hsw hz1 hy ft1 fd1 qa qd HEA HED H0 HX1 HF1
        generalize ((w1.setCell ⟨g, d, none⟩ (.slice oa1 k ca1)).setCell ⟨g, t, none⟩ (.slice od1 k cd1)).drew = W1 at *
        generalize (us.set d (.slice oa1 k ca1)).set t (.slice od1 k cd1) = us1 at *
        generalize (Lm.set d (Lm.getD t [])).set t (Lm.getD d []) = L1 at *
        obtain ⟨ob1, cb1, eb1, qb1, rb1⟩ := H1.out.cell d hd1
        obtain ⟨b1, rfl, rq1⟩ := rb1 cl hck
        have fr1 := H1.out.frozen d
        have hbz := H1.out.wide.byt d cl
        have hrow := (H1.out.row d hd1).1
        rw [eb1] at hrow
        have HROW := Lib.hid hrow
        have HLK : Hid ((L1.getD d []).length = k) := Lib.hid (H1.out.wide.at d (by rw [H1.out.len]; exact hd1)).1
        clear rb1 hrow eb1
        generalize hzz : (L1.getD d []).getD cl 0 = z at *
        have HZZ := Lib.hid hzz
        clear hzz
        go_upto_region 8 with fail
        go_cut [] (fun wx => ∃ L2 us2, Mx w0 wx g n c k A L2 ps cl us2 ∧ (L2.getD d []).getD cl 0 = 1 ∧ FieldAt wx ft)
        case first =>
          go_region_law (first
            | ((try go_simp); go_at_call 41; refine (inv_field ft z hbz _ (by exact HF2.out)).mono ?_; rintro e w' ⟨rfl, nd, rfl⟩)
            | ((try go_simp); go_at_call 40; refine (ok_scale _ _ (invZ z) (L1.getD d []) _ (Or.inr ⟨ft, rfl, by exact HF2.out⟩) (invZ_byt z) (by exact HROW.out) (by rw [HLK.out]; omega)).mono ?_; rintro e w2 ⟨v2, rfl, hnw⟩; obtain ⟨o2, m2, c2', rfl⟩ := New.form3 hnw; have hc2 := cell_grown hnw.1 (by exact qb1); have hf2 := frozen_grown hnw.1 (by exact qb1) (by exact fr1); have HG2 := Lib.hid (show Gr W1 _ from hnw.1); have HNW := Lib.hid hnw; clear hnw))
          all_goals
            go_wp2_with fail
            go_meet
            refine ⟨_, _, (H1.out.grow HG2.out).scaled d (by rw [HD.out]; exact Nat.le_refl _) hd1 (invZ_byt z) (invZ_ne hbz HZ1.out) (New.bs HNW.out) ?_, ?_, FieldAt.put (FieldAt.grown HF2.out HG2.out) HFG.out⟩
            · exact New.rb HNW.out _
            · rw [getD_set_self _ _ _ (by rw [H1.out.len]; exact hd1), scaleL_getD _ _ _ (by rw [HLK.out]; exact hck), HZZ.out, inv_mulZ hbz HZ1.out]
        case rest =>
          clear H1 HZ1 qb1 rq1 fr1 hbz HROW HLK HZZ HF2
          obtain ⟨L2, us2, hx2, hone, hf2⟩ := hcut
          have H2 := Lib.hid hx2
          have HONE := Lib.hid hone
          have HF3 := Lib.hid hf2
          clear hx2 hone hf2
          go_wp2_with fail
          refine (sweep_any _ H2.out ft HF3.out HFG.out d cl (by rw [HD.out]; exact Nat.le_refl _) hd1 hck HONE.out hn hk hnc hc).mono ?_
          rintro e w3 ⟨rfl, hf3, L3, us3, hx3, hone3, hzs⟩
          have H3 := Lib.hid hx3
          have HF4 := Lib.hid hf3
          have HONE3 := Lib.hid hone3
          have HZS := Lib.hid hzs
          clear hx3 hf3 hone3 hzs H2 HONE HF3
          go_wp2
          refine ⟨⟨cl + 1, L3, ps ++ [cl], us3, by omega, by go_num, by rw [List.length_append, HD.out]; go_num, HF4.out, H3.out.to (H3.out.ech.next ?_ ?_ fun s hs => ?_)⟩, by simp [intOf]; omega⟩
          · rw [List.length_map, H3.out.len, HD.out]; exact hd1
          · rw [at_vec, HD.out, HONE3.out, fb_one]
          · rw [at_vec]
            by_cases e : s < n
            · rw [HZS.out s e (by rw [← HD.out]; exact hs), fb_zero]
            · have hnil : L3.getD s [] = [] := by
                rw [List.getD_eq_getElem?_getD, List.getElem?_eq_none (by rw [H3.out.len]; omega)]
                rfl
              rw [hnil]
              rfl
    · obtain rfl : cl = cols := by omega
      go_wp2
      go_ret
      exact ⟨ps, Lm, us, by rw [HD.out]; rfl, HX.out⟩
end
set_option maxHeartbeats 400000 in
/-- Without columns there is nothing to do. -/
theorem eliminate_none (f v : Value) (w : World) :
    Calls Try.prog 35 #[f, v, .int .i64 0] w fun e w' => e = .returned (.int .i64 0) ∧ Gr w w' := by
  go_enter Try.func35, Try.ntmps35
  go_wp2
  go_loopw [7, 11] (fun dd cc W => dd = .int .i64 0 ∧ cc = .int .i64 0 ∧ W = w) (fun _ _ _ => 0)
  case atStart => exact ⟨rfl, rfl, rfl⟩
  case round =>
    obtain ⟨rfl, rfl, rfl⟩ := hrel
    go_wp2
    go_ret
    exact ⟨rfl, Gr.refl _⟩
end Go.Proofs.Ytocigdcbfbnfoaa
