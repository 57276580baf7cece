/-
  Texts laid behind one another: Me Az Mf Bc Mg Pd.
-/
import Derived.Test.YtedobcajbelcpaaGreatMgi
import Derived.Test.YtedobcajbelcpaaGreatMgg
import Derived.Test.YtedobcajbelcpaaGreatMgf
import Derived.Lib.AppendZerosOnto
import Derived.Lib.SliceRun
namespace Go.Proofs.YtedobcajbelcpaaGreat
open Go.RowKit

theorem gr_drew {W w2 : World} (h : Gr W.drew w2) : Gr W w2 := h
theorem gr_drewN {W w2 : World} {d : Nat} (h : Gr (W.drewN d) w2) : Gr W w2 := h
section
variable {w0 : World} {g n c k : Nat} {A Lm : List (List Int)} {ps : List Nat} {col : Nat} {us : List Value}
set_option maxRecDepth 100000 in
set_option maxHeartbeats 1600000 in
theorem sweep_any (w : World) (h : Mx w0 w g n c k A Lm ps col us) (ft : Nat) (hf : FieldAt w ft) (hfg : ft ≠ g) (d cl : Nat) (hd : ps.length ≤ d) (hd2 : d < n) (hcl : cl < k) (hone : (Lm.getD d []).getD cl 0 = 1) (hn : n ≤ 1000) (hk : k ≤ 1000) (hnc : n ≤ c) (hc : c ≤ 9223372036854775807) :
    Calls Tryz.prog 80 #[.pointer (some ⟨ft, 0, none⟩), .slice (some ⟨g, 0, none⟩) n c, .int .i64 d, .int .i64 cl] w fun e w' => e = .returned (.tuple #[]) ∧ FieldAt w' ft ∧
      ∃ L3 us3, Mx w0 w' g n c k A L3 ps col us3 ∧ (L3.getD d []).getD cl 0 = 1 ∧ ∀ s, s < n → s ≠ d → (L3.getD s []).getD cl 0 = 0 := by
  have HX := Lib.hid h
  have HF0 := Lib.hid hf
  have HO := Lib.hid hone
  have HFG := Lib.hid hfg
  clear h hf hone hfg
  go_enter Tryz.func80, Tryz.ntmps80
  go_wp2
  go_loopw [12] (fun i W => ∃ (j : Nat) (L3 : List (List Int)) (us3 : List Value), j ≤ n ∧ i = .int .i64 j ∧ Mx w0 W g n c k A L3 ps col us3 ∧ FieldAt W ft ∧ (L3.getD d []).getD cl 0 = 1 ∧ ∀ s, s < j → s ≠ d → (L3.getD s []).getD cl 0 = 0) (fun i _ => n - (intOf i).toNat)
  case atStart => exact ⟨0, Lm, us, by omega, rfl, HX.out, HF0.out, HO.out, by omega⟩
  case round =>
    clear HX HO HF0
    obtain ⟨j, L3, us3, hj, rfl, hx3, hft, hone, hzs⟩ := hrel
    have H3 := Lib.hid hx3
    have HF := Lib.hid hft
    have HONE := Lib.hid hone
    have HZS := Lib.hid hzs
    clear hx3 hone hzs hft
    by_cases hlt : j < n
    · obtain ⟨oj, cj, ej, qj, rj⟩ := H3.out.cell j hlt
      obtain ⟨bj, rfl, rqj⟩ := rj cl hcl
      clear rj
      by_cases hjd : j = d
      · subst hjd
        clear ej
        go_wp2
        refine ⟨⟨j + 1, L3, us3, by omega, by go_num, H3.out, HF.out, HONE.out, fun s s1 s2 => HZS.out s (by omega) s2⟩, by simp [intOf]; omega⟩
      · have hjd' : ((j : Int) != d) = true := by simp; omega
        have hbz := H3.out.wide.byt j cl
        generalize hzz : (L3.getD j []).getD cl 0 = z at *
        have HZZ := Lib.hid hzz
        have HEJ := Lib.hid ej
        have HJD := Lib.hid hjd
        clear hzz ej hjd
        by_cases hz0 : z = 0
        · subst hz0
          go_wp2
          refine ⟨⟨j + 1, L3, us3, by omega, by go_num, H3.out, HF.out, HONE.out, fun s s1 s2 => ?_⟩, by simp [intOf]; omega⟩
          by_cases e : s = j
          · rw [e, HZZ.out]
          · exact HZS.out s (by omega) s2
        · have hzb : (z != 0) = true := by simpa using hz0
          obtain ⟨od, cd, ed, qd, _⟩ := H3.out.cell d hd2
          have fj := H3.out.frozen j
          have hrj := (H3.out.row j hlt).1
          have hrd := (H3.out.row d hd2).1
          rw [HEJ.out] at hrj
          rw [ed] at hrd
          have RJ := Lib.hid hrj
          have RD := Lib.hid hrd
          have WJ : Hid ((L3.getD j []).length = k) := Lib.hid (H3.out.wide.at j (by rw [H3.out.len]; exact hlt)).1
          have WD : Hid ((L3.getD d []).length = k) := Lib.hid (H3.out.wide.at d (by rw [H3.out.len]; exact hd2)).1
          clear hrj hrd ed hz0
          go_wp2
          go_region_law (first
            | ((try go_simp); go_at_call 87; refine (ok_axpy _ _ _ z (L3.getD d []) (L3.getD j []) _ (Or.inr ⟨ft, rfl, by exact HF.out⟩) hbz (Bs.grown RD.out (Gr.drew (Gr.refl _))) (Bs.grown RJ.out (Gr.drew (Gr.refl _))) (by rw [WD.out]; omega) (by rw [WJ.out, WD.out])).mono ?_; rintro e w2 ⟨v2, rfl, hnw⟩; obtain ⟨o2, m2, c2', rfl⟩ := New.form3 hnw; have hc2 := cell_grown hnw.1 qj; have hf2 := frozen_grown hnw.1 qj fj; have HNW := Lib.hid hnw; clear hnw))
          all_goals
            go_wp2_with fail
            refine ⟨⟨j + 1, _, _, by omega, by go_num, (H3.out.grow (Gr.trans (Gr.drew (Gr.refl _)) HNW.out.1)).added j d hd hd2 hlt HJD.out hbz (New.bs HNW.out) (New.rb HNW.out _), FieldAt.put (FieldAt.grown HF.out (gr_drew HNW.out.1)) HFG.out, ?_, fun s s1 s2 => ?_⟩, by simp [intOf]; omega⟩
            · rw [getD_set_ne _ _ _ _ HJD.out, HONE.out]
            · by_cases e : s = j
              · rw [e, getD_set_self _ _ _ (by rw [H3.out.len]; exact hlt), axL_getD _ _ _ _ (by rw [WD.out]; exact hcl), HONE.out, HZZ.out, mulZ_one z hbz, addZ_self]
              · rw [getD_set_ne _ _ _ _ (fun c => e c.symm)]
                exact HZS.out s (by omega) s2
    · obtain rfl : j = n := by omega
      go_wp2
      go_end0
      exact ⟨rfl, HF.out, L3, us3, H3.out, HONE.out, fun s s1 s2 => HZS.out s s1 s2⟩
set_option maxRecDepth 100000 in
set_option maxHeartbeats 3200000 in
theorem eliminate_any (w : World) (h : Mx w0 w g n c k A A [] 0 us) (ft : Nat) (hf : FieldAt w ft) (hfg : ft ≠ g) (cols : Nat) (hcols : cols ≤ k) (hn : n ≤ 1000) (hk : k ≤ 1000) (hnc : n ≤ c) (hc : c ≤ 9223372036854775807) :
    Calls Tryz.prog 56 #[.pointer (some ⟨ft, 0, none⟩), .slice (some ⟨g, 0, none⟩) n c, .int .i64 cols] w fun e w' => ∃ (ps : List Nat) (Lm : List (List Int)) (us' : List Value), e = .returned (.int .i64 (ps.length : Nat)) ∧ Mx w0 w' g n c k A Lm ps cols us' := by
  have HX0 := Lib.hid h
  have HF0 := Lib.hid hf
  have HFG := Lib.hid hfg
  clear h hf hfg
  go_enter Tryz.func56, Tryz.ntmps56
  go_wp2
  go_loopw [7, 11] (fun dd cc W => ∃ (cl : Nat) (Lm : List (List Int)) (ps : List Nat) (us : List Value), cl ≤ cols ∧ cc = .int .i64 cl ∧ dd = .int .i64 (ps.length : Nat) ∧ FieldAt W ft ∧ Mx w0 W g n c k A Lm ps cl us) (fun _ cc _ => cols - (intOf cc).toNat)
  case atStart => exact ⟨0, A, [], us, by omega, rfl, rfl, HF0.out, HX0.out⟩
  case round =>
    clear HX0 HF0
    obtain ⟨cl, Lm, ps, us, hcl, rfl, rfl, hff, hx⟩ := hrel
    have HX := Lib.hid hx
    have HF := Lib.hid hff
    have hdn : ps.length ≤ n := by have := hx.ech.le; rw [List.length_map, hx.len] at this; exact this
    generalize hd : ps.length = d at *
    have HD := Lib.hid hd
    clear hx hd hff
    by_cases hend : cl < cols
    · have hck : cl < k := by omega
      go_wp2_with fail
      refine (beginning_any _ HX.out d cl hdn hck hn).mono ?_
      rintro e w1 ⟨hg1, ⟨rfl, h0⟩ | ⟨t, rfl, t1, t2, t3⟩⟩
      · have HX1 := Lib.hid (HX.out.grow hg1)
        have HF1 := Lib.hid (FieldAt.grown HF.out hg1)
        have H0 := Lib.hid h0
        clear HX h0 hg1
        go_wp2
        refine ⟨⟨cl + 1, Lm, ps, us, by omega, by go_num, by rw [HD.out], HF1.out, HX1.out.to (HX1.out.ech.skip fun s hs => ?_)⟩, by simp [intOf]; omega⟩
        rw [at_vec]
        by_cases e : s < n
        · rw [H0.out s (by rw [← HD.out]; exact hs) e, fb_zero]
        · have hnil : Lm.getD s [] = [] := by
            rw [List.getD_eq_getElem?_getD, List.getElem?_eq_none (by rw [HX1.out.len]; omega)]
            rfl
          rw [hnil]
          rfl
      · have HX1 := Lib.hid (HX.out.grow hg1)
        have HF1 := Lib.hid (FieldAt.grown HF.out hg1)
        have H0 := Lib.hid t3
        clear HX t3 hg1 HF
        have hd1 : d < n := by omega
        obtain ⟨oa1, ca1, ea, qa, _⟩ := HX1.out.cell t t2
        obtain ⟨od1, cd1, ed, qd, _⟩ := HX1.out.cell d hd1
        have ft1 := HX1.out.frozen t
        have fd1 := HX1.out.frozen d
        have HEA := Lib.hid ea
        have HED := Lib.hid ed
        clear ea ed
        obtain ⟨y, hy⟩ : ∃ y, (w1.setCell ⟨g, d, none⟩ (.slice oa1 k ca1)).cell? ⟨g, t, none⟩ = some y := by
          obtain ⟨_, ⟨he, _⟩ | ⟨g', c', cur, he, _, hg, hh1, hh2, hh3, _⟩⟩ := HX1.out.own
          · cases he
          · cases he
            have h2 := heap_setCell_same w1 g d cur _ (.slice oa1 k ca1) hg
            rw [cell_of_row _ g t _ _ _ h2]
            have : t < (cur.setIfInBounds d (.slice oa1 k ca1)).size := by simp; omega
            exact ⟨_, by rw [Array.getElem?_eq_getElem this]⟩
        go_wp2
        go_region
        have hsw := (HX1.out.swap d t (by rw [HD.out]; exact Nat.le_refl _) hd1 (by rw [HD.out]; exact t1) t2).grow (Gr.drew (Gr.refl _))
        rw [HEA.out, HED.out] at hsw
        have hz1 : (((Lm.set d (Lm.getD t [])).set t (Lm.getD d [])).getD d []).getD cl 0 ≠ 0 := by
          by_cases e : t = d
          · subst e
            rw [getD_set_self _ _ _ (by rw [List.length_set, HX1.out.len]; exact hd1)]
            exact H0.out
          · rw [getD_set_ne _ _ _ _ e, getD_set_self _ _ _ (by rw [HX1.out.len]; exact hd1)]
            exact H0.out
        have H1 := Lib.hid hsw
        have HZ1 := Lib.hid hz1
        have HF2 : Hid (FieldAt ((w1.setCell ⟨g, d, none⟩ (.slice oa1 k ca1)).setCell ⟨g, t, none⟩ (.slice od1 k cd1)).drew ft) := Lib.hid (FieldAt.grown (FieldAt.put (FieldAt.put HF1.out HFG.out) HFG.out) (Gr.drew (Gr.refl _)))
        clear hsw hz1 hy ft1 fd1 qa qd HEA HED H0 HX1 HF1
        generalize ((w1.setCell ⟨g, d, none⟩ (.slice oa1 k ca1)).setCell ⟨g, t, none⟩ (.slice od1 k cd1)).drew = W1 at *
        generalize (us.set d (.slice oa1 k ca1)).set t (.slice od1 k cd1) = us1 at *
        generalize (Lm.set d (Lm.getD t [])).set t (Lm.getD d []) = L1 at *
        obtain ⟨ob1, cb1, eb1, qb1, rb1⟩ := H1.out.cell d hd1
        obtain ⟨b1, rfl, rq1⟩ := rb1 cl hck
        have fr1 := H1.out.frozen d
        have hbz := H1.out.wide.byt d cl
        have hrow := (H1.out.row d hd1).1
        rw [eb1] at hrow
        have HROW := Lib.hid hrow
        have HLK : Hid ((L1.getD d []).length = k) := Lib.hid (H1.out.wide.at d (by rw [H1.out.len]; exact hd1)).1
        clear rb1 hrow eb1
        generalize hzz : (L1.getD d []).getD cl 0 = z at *
        have HZZ := Lib.hid hzz
        clear hzz
        go_upto_region 8 with fail
        go_cut [] (fun wx => ∃ L2 us2, Mx w0 wx g n c k A L2 ps cl us2 ∧ (L2.getD d []).getD cl 0 = 1 ∧ FieldAt wx ft)
        case first =>
          go_region_law (first
            | ((try go_simp); go_at_call 79; refine (inv_field ft z hbz _ (by exact HF2.out)).mono ?_; rintro e w' ⟨rfl, nd, rfl⟩)
            | ((try go_simp); go_at_call 78; refine (ok_scale _ _ (invZ z) (L1.getD d []) _ (Or.inr ⟨ft, rfl, by exact HF2.out⟩) (invZ_byt z) (by exact HROW.out) (by rw [HLK.out]; omega)).mono ?_; rintro e w2 ⟨v2, rfl, hnw⟩; obtain ⟨o2, m2, c2', rfl⟩ := New.form3 hnw; have hc2 := cell_grown hnw.1 (by exact qb1); have hf2 := frozen_grown hnw.1 (by exact qb1) (by exact fr1); have HG2 := Lib.hid (show Gr W1 _ from hnw.1); have HNW := Lib.hid hnw; clear hnw))
          all_goals
            go_wp2_with fail
            go_meet
            refine ⟨_, _, (H1.out.grow HG2.out).scaled d (by rw [HD.out]; exact Nat.le_refl _) hd1 (invZ_byt z) (invZ_ne hbz HZ1.out) (New.bs HNW.out) ?_, ?_, FieldAt.put (FieldAt.grown HF2.out HG2.out) HFG.out⟩
            · exact New.rb HNW.out _
            · rw [getD_set_self _ _ _ (by rw [H1.out.len]; exact hd1), scaleL_getD _ _ _ (by rw [HLK.out]; exact hck), HZZ.out, inv_mulZ hbz HZ1.out]
        case rest =>
          clear H1 HZ1 qb1 rq1 fr1 hbz HROW HLK HZZ HF2
          obtain ⟨L2, us2, hx2, hone, hf2⟩ := hcut
          have H2 := Lib.hid hx2
          have HONE := Lib.hid hone
          have HF3 := Lib.hid hf2
          clear hx2 hone hf2
          go_wp2_with fail
          refine (sweep_any _ H2.out ft HF3.out HFG.out d cl (by rw [HD.out]; exact Nat.le_refl _) hd1 hck HONE.out hn hk hnc hc).mono ?_
          rintro e w3 ⟨rfl, hf3, L3, us3, hx3, hone3, hzs⟩
          have H3 := Lib.hid hx3
          have HF4 := Lib.hid hf3
          have HONE3 := Lib.hid hone3
          have HZS := Lib.hid hzs
          clear hx3 hf3 hone3 hzs H2 HONE HF3
          go_wp2
          refine ⟨⟨cl + 1, L3, ps ++ [cl], us3, by omega, by go_num, by rw [List.length_append, HD.out]; go_num, HF4.out, H3.out.to (H3.out.ech.next ?_ ?_ fun s hs => ?_)⟩, by simp [intOf]; omega⟩
          · rw [List.length_map, H3.out.len, HD.out]; exact hd1
          · rw [at_vec, HD.out, HONE3.out, fb_one]
          · rw [at_vec]
            by_cases e : s < n
            · rw [HZS.out s e (by rw [← HD.out]; exact hs), fb_zero]
            · have hnil : L3.getD s [] = [] := by
                rw [List.getD_eq_getElem?_getD, List.getElem?_eq_none (by rw [H3.out.len]; omega)]
                rfl
              rw [hnil]
              rfl
    · obtain rfl : cl = cols := by omega
      go_wp2
      go_ret
      exact ⟨ps, Lm, us, by rw [HD.out]; rfl, HX.out⟩
end
set_option maxHeartbeats 400000 in
/-- Without columns there is nothing to do. -/
theorem eliminate_none (f v : Value) (w : World) :
    Calls Tryz.prog 56 #[f, v, .int .i64 0] w fun e w' => e = .returned (.int .i64 0) ∧ Gr w w' := by
  go_enter Tryz.func56, Tryz.ntmps56
  go_wp2
  go_loopw [7, 11] (fun dd cc W => dd = .int .i64 0 ∧ cc = .int .i64 0 ∧ W = w) (fun _ _ _ => 0)
  case atStart => exact ⟨rfl, rfl, rfl⟩
  case round =>
    obtain ⟨rfl, rfl, rfl⟩ := hrel
    go_wp2
    go_ret
    exact ⟨rfl, Gr.refl _⟩
end Go.Proofs.YtedobcajbelcpaaGreat
namespace Go.Proofs.YtedobcajbelcpaaGreat
open Go.RowKit

theorem bytes_cells {w : World} {o : Option Addr} {l : List Int} {n : Nat} (hl : l.length = n) (h : ∀ a, o = some a → ∀ i, i < n → w.cell? (a.add i) = some (.int .u8 (l.getD i 0))) :
    ∀ ad, o = some ad → ∀ i u, (l.map (Value.int .u8))[i]? = some u → w.cell? (ad.add i) = some u := by
  intro ad ha i u hu
  have hi : i < l.length := by
    have := (List.getElem?_eq_some_iff.1 hu).1
    rwa [List.length_map] at this
  rw [h ad ha i (by omega)]
  rw [List.getElem?_map, List.getElem?_eq_getElem hi] at hu
  rw [List.getD_eq_getElem?_getD, List.getElem?_eq_getElem hi]
  simpa using hu
theorem leadL_nought : ∀ l : List Int, leadL l = -1 → ∀ j, l.getD j 0 = 0
  | [], _, j => by simp
  | a :: l, h, j => by
    have hge := leadL_ge l
    unfold leadL at h
    split at h
    · rename_i ha
      split at h
      · rename_i hl
        cases j with
        | zero => simpa using ha
        | succ j => simpa using leadL_nought l hl j
      · omega
    · omega
theorem vec_nought {l : List Int} (h : leadL l = -1) : vec l = L.vzero := funext fun j => by
  show fb (l.getD j 0) = L.zero
  rw [leadL_nought l h j, fb_zero]
theorem vec_ne {l : List Int} (hb : ∀ x ∈ l, Byt x) (h : 0 ≤ leadL l) : vec l ≠ L.vzero := fun e => by
  have : leadL l = -1 := leadL_none l fun j _ => by
    have h1 : fb (l.getD j 0) = L.zero := congrFun e j
    exact fb_inj (getD_byt hb j) (by unfold Byt; omega) (by rw [h1, fb_zero])
  omega
theorem Bs.parts {w : World} {oa : Option Addr} {m c : Nat} {l : List Int} (h : Bs w (.slice oa m c) l) : l.length = m ∧ m ≤ c ∧ c ≤ 9223372036854775807 ∧ (oa = none → m = 0 ∧ c = 0) ∧ ∀ ad, oa = some ad → ∀ i u, (l.map (Value.int .u8))[i]? = some u → w.cell? (ad.add i) = some u := by
  obtain ⟨_, oa', c', he, h2, h3, h4, h5⟩ := h
  obtain ⟨rfl, rfl, rfl⟩ : oa = oa' ∧ m = l.length ∧ c = c' := by simpa using he
  exact ⟨rfl, h2, h3, fun e => ⟨by have := h4 e; omega, h4 e⟩, bytes_cells rfl h5⟩
/-- append of bytes that came in onto bytes of one's own. -/
theorem wpList_append_bytes {w : World} {ops : Array Oper} {rest : List Oper} {o : Oper} {a : Act} {Q : Exit → Act → World → Prop} (hgd : o.guard = none) (s x : Operand)
    (ho : o.op = .call { callee := .builtin .append, args := #[s, x], argTypes := #[41, 41] }) (base : Nat) (v : Value) (n : Nat) (l : List Int) (hs : a.eval s = v) (hown : w.ownsRow base 5 1 v n (l.map (Value.int .u8)))
    (oa : Option Addr) (m c : Nat) (l' : List Int) (hx : a.eval x = .slice oa m c) (hL : Bs w (.slice oa m c) l') (hm : n + m ≤ 1000000) (hbase : base ≤ w.heap.size)
    (h : ∀ v' w', w'.ownsRow base 5 1 v' (n + m) ((l ++ l').map (Value.int .u8)) → w.grownBy w' v.ownBlock → wpList Tryz.prog ops Q rest (a.put o.dst v') w') : wpList Tryz.prog ops Q (o :: rest) a w := by
  obtain ⟨i5, hi0, hz0, hz1, hz2⟩ := info_parts infoB
  obtain ⟨p1, p2, p3, p4, p5⟩ := hL.parts
  refine wpList_append_in hgd s x 41 ho base 5 i5 _ 1 Tryz.underlying41 hi0 hz0 hz1 hz2 rfl v n _ hs hown oa m c (l'.map (Value.int .u8)) hx p4 (by rw [List.length_map]; exact p1) p5 (ints_oneCell _ _) (by unfold maxLen; omega) (by omega) hbase ?_
  intro v' w' h1 h2
  exact h v' w' (by rw [List.map_append]; exact h1) h2
theorem step_append_bytes {w : World} {ops : Array Oper} {o : Oper} {a : Act} {K : Act → World → Prop} {Q : Exit → Act → World → Prop} {E : Prop} (hgd : o.guard = none) (s x : Operand)
    (ho : o.op = .call { callee := .builtin .append, args := #[s, x], argTypes := #[41, 41] }) (base : Nat) (v : Value) (n : Nat) (l : List Int) (hs : a.eval s = v) (hown : w.ownsRow base 5 1 v n (l.map (Value.int .u8)))
    (oa : Option Addr) (m c : Nat) (l' : List Int) (hx : a.eval x = .slice oa m c) (hL : Bs w (.slice oa m c) l') (hm : n + m ≤ 1000000) (hbase : base ≤ w.heap.size)
    (h : ∀ v' w', w'.ownsRow base 5 1 v' (n + m) ((l ++ l').map (Value.int .u8)) → w.grownBy w' v.ownBlock → K (a.put o.dst v') w') :
    if Region.wanted o (yielded ops a.tmps) = true then Oper.wp Tryz.prog o a w K Q else E := by
  obtain ⟨i5, hi0, hz0, hz1, hz2⟩ := info_parts infoB
  obtain ⟨p1, p2, p3, p4, p5⟩ := hL.parts
  refine step_append_in hgd s x 41 ho base 5 i5 _ 1 Tryz.underlying41 hi0 hz0 hz1 hz2 rfl v n _ hs hown oa m c (l'.map (Value.int .u8)) hx p4 (by rw [List.length_map]; exact p1) p5 (ints_oneCell _ _) (by unfold maxLen; omega) (by omega) hbase ?_
  intro v' w' h1 h2
  exact h v' w' (by rw [List.map_append]; exact h1) h2
theorem Bs.rb {w : World} {u : Value} {l : List Int} (h : Bs w u l) (w' : World) : Rb w.heap.size w' u := by
  intro a n c e hn
  obtain ⟨_, oa, cc, h1, h2, h3, h4, h5⟩ := h
  rw [h1] at e
  obtain ⟨rfl, rfl, rfl⟩ : oa = some a ∧ l.length = n ∧ cc = c := by simpa using e
  exact .inl (World.block_lt_of_cell? w _ (h5 a rfl 0 hn))
/-- A copy of the list of rows: new memory for the list, the rows as they were. -/
theorem wpList_append_rows {w : World} {ops : Array Oper} {rest : List Oper} {o : Oper} {a : Act} {Q : Exit → Act → World → Prop} (hgd : o.guard = none) (s x : Operand)
    (ho : o.op = .call { callee := .builtin .append, args := #[s, x], argTypes := #[31, 31] }) (hs : a.eval s = .slice none 0 0)
    (oa : Option Addr) (m c : Nat) (L : List (List Int)) (hx : a.eval x = .slice oa m c) (hl : L.length = m) (hL : Bss w (.slice oa m c) L) (hm : m ≤ 1000)
    (h : ∀ v' w' us, w'.ownsRow w.heap.size 41 1 v' m us → Gr w w' → (∀ i, i < m → Bs w' (us.getD i undef) (L.getD i []) ∧ Rb w.heap.size w' (us.getD i undef)) → wpList Tryz.prog ops Q rest (a.put o.dst v') w') : wpList Tryz.prog ops Q (o :: rest) a w := by
  obtain ⟨i0, hi0, hz0, hz1, hz2⟩ := info_parts info22
  obtain ⟨us, hv⟩ := hL.vals
  have hno : oa = none → m = 0 ∧ c = 0 := fun e => by
    obtain ⟨oa', c', he, h1, h2, h3, h4⟩ := hL
    obtain ⟨rfl, h5, rfl⟩ : oa = oa' ∧ m = L.length ∧ c = c' := by simpa using he
    have := h3 e
    omega
  refine wpList_append_in hgd s x 31 ho w.heap.size 41 i0 _ 24 Tryz.underlying31 hi0 hz0 hz1 hz2 rfl (.slice none 0 0) 0 [] hs (World.ownsRow_nil w _ 41 1) oa m c us hx hno (by rw [hv.1, hl]) hv.2.1 hv.2.2.2 (by unfold maxLen; omega) (by omega) (Nat.le_refl _) ?_
  intro v' w' hown hgrow
  rw [Nat.zero_add, List.nil_append] at hown
  have hg : Gr w w' := Gr.append (Gr.refl w) hgrow (fun _ h => by cases h)
  exact h v' w' us hown hg fun i hi => ⟨Bs.grown (hv.2.2.1 i (by omega)) hg, (hv.2.2.1 i (by omega)).rb w'⟩
theorem New.under {w w1 w2 : World} {v : Value} {l : List Int} (hg : Gr w w1) (h : New w1 w2 v l) : New w w2 v l := by
  obtain ⟨h1, h2, h3⟩ := h
  refine ⟨Gr.trans hg h1, h2, ?_⟩
  rcases h3 with h3 | ⟨g, c, cur, e1, e2, e3⟩
  · exact .inl h3
  · exact .inr ⟨g, c, cur, e1, Nat.le_trans hg.size e2, e3⟩
theorem zeroB (m : Nat) : Builtin.zeroCells (Value.int .u8 0).cells m = (List.replicate m (Value.int .u8 0)).toArray := by
  apply Array.ext
  · simp [Builtin.zeroCells, Value.cells]
  intro i h1 h2
  simp [Builtin.zeroCells, Value.cells, Nat.mod_one]
/-- append(v, make([]byte, m)...), v bytes of one's own. -/
theorem run_append_zeros (w : World) (ty : TypeId) (base : Nat) (v : Value) (n : Nat) (l : List Int) (hown : w.ownsRow base 5 1 v n (l.map (Value.int .u8))) (m : Nat) (hm : n + m ≤ 1000000) (hbase : base ≤ w.heap.size) :
    ∃ v' w', (Builtin.append_ #[41, 3] ty #[v, .int .i64 m]).run Tryz.prog w = .ok v' w' ∧ w'.ownsRow base 5 1 v' (n + m) ((l ++ List.replicate m 0).map (Value.int .u8)) ∧ w.grownBy w' v.ownBlock := by
  obtain ⟨i, hi, hz, hs, hb⟩ := info_parts infoB
  have ht := Tryz.underlying41
  have htn := Tryz.underlying3
  have hlen : ((l ++ List.replicate m 0).map (Value.int .u8)).length = n + m := by
    have := hown.1
    rw [List.length_map] at this
    rw [List.length_map, List.length_append, List.length_replicate]
    omega
  have hmap : (l ++ List.replicate m 0).map (Value.int .u8) = l.map (Value.int .u8) ++ List.replicate m (.int .u8 0) := by rw [List.map_append, List.map_replicate]
  have hln : (l.map (Value.int .u8)).length = n := by have := hown.1; omega
  have grown : ∀ (old : Nat) (row : Option Nat),
      (w.drew.alloc (.cells ((l.map (Value.int .u8)).toArray ++ Builtin.zeroCells (Value.int .u8 0).cells m ++ Builtin.zeroCells (Value.int .u8 0).cells (grownCap w (n + m) old 5 - (n + m))) 5)).ownsRow base 5 1
        (.slice (some ⟨w.heap.size, 0, none⟩) (n + m) (grownCap w (n + m) old 5)) (n + m) ((l ++ List.replicate m 0).map (Value.int .u8)) ∧
      w.grownBy (w.drew.alloc (.cells ((l.map (Value.int .u8)).toArray ++ Builtin.zeroCells (Value.int .u8 0).cells m ++ Builtin.zeroCells (Value.int .u8 0).cells (grownCap w (n + m) old 5 - (n + m))) 5)) row := by
    intro old row
    have hge := grownCap_ge w (n + m) old 5
    have hcm : grownCap w (n + m) old 5 ≤ maxLen := grownCap_le_maxLen w (n + m) old 5 (by unfold maxLen; omega)
    rw [zeroB, zeroB]
    refine ⟨⟨by rw [hlen, Nat.mul_one], .inr ⟨w.heap.size, _, _, rfl, hbase, heap_alloc_new w.drew _, hge, hcm, ?_, ?_⟩⟩, ⟨rfl, rfl, rfl, by simp, fun k hk _ => heap_alloc_old w.drew _ hk⟩⟩
    · simp only [Array.size_append, List.size_toArray, List.length_replicate, hln]
      omega
    · rw [hmap]
      simp only [Array.toList_append]
      rw [List.take_left' (by rw [List.length_append, hln, List.length_replicate, Nat.mul_one])]
  by_cases hm0 : m = 0
  · subst hm0
    rw [List.replicate_zero, List.append_nil] at *
    have hw : IntKind.i64.wrap (0 : Int) = 0 := by rw [IntKind.wrap_i64]; omega
    obtain ⟨_, ⟨rfl, rfl⟩ | ⟨g, cap, cur, rfl, hbg, hg, hnc, hcm, hcs, htake⟩⟩ := id hown
    · exact ⟨.slice none 0 0, w, by simp [Builtin.append_, run_underlying ht, run_underlying htn, sizeOf, typeInfo, hi, asInt, asIntOf, hw], hown, ⟨rfl, rfl, rfl, Nat.le_refl _, fun _ _ _ => rfl⟩⟩
    · exact ⟨_, w, by simp [Builtin.append_, run_underlying ht, run_underlying htn, sizeOf, typeInfo, hi, asInt, asIntOf, hw, hnc, storeCells], hown, ⟨rfl, rfl, rfl, Nat.le_refl _, fun _ _ _ => rfl⟩⟩
  · obtain ⟨_, ⟨rfl, rfl⟩ | ⟨g, cap, cur, rfl, hbg, hg, hnc, hcm, hcs, htake⟩⟩ := id hown
    · have hl0 : l = [] := by
        rw [List.length_map] at hln
        exact List.eq_nil_of_length_eq_zero hln
      subst hl0
      have hr := Lib.run_append_nil_zeros (P := Tryz.prog) w 41 3 ty 5 i _ .i64 .i64 ht htn hi hz m (by omega) (by rw [hs]; omega) (by omega) (by rw [hb]; omega)
      have hgr := grown 0 (Value.ownBlock (.slice none 0 0))
      simp only [Nat.zero_add, List.map_nil, Array.empty_append] at hgr ⊢
      exact ⟨_, _, hr, hgr.1, hgr.2⟩
    · by_cases hroom : n + m ≤ cap
      · have hw : IntKind.i64.wrap (m : Int) = m := by rw [IntKind.wrap_i64]; omega
        have hst := run_storeCells_at Tryz.prog g n 5 (List.replicate m (Value.int .u8 0)) 0 cur w hg (by rw [List.length_replicate]; omega) (by intro u hu; rw [(List.mem_replicate.1 hu).2]; rfl)
        simp only [Nat.add_zero] at hst
        have hneg : ¬ ((m : Int) < 0) := by omega
        have h48i : ¬ (281474976710656 < (m : Int)) := by omega
        refine ⟨.slice (some ⟨g, 0, none⟩) (n + m) cap, w.setRow g (cur.toList.take n ++ List.replicate m (Value.int .u8 0) ++ cur.toList.drop (n + m)).toArray, ?_, ?_, ?_⟩
        · simp [Builtin.append_, run_underlying ht, run_underlying htn, sizeOf, typeInfo, zeroValue, hi, hz, hs, hb, asInt, asIntOf, hw, hneg, h48i, hm0, hroom, Addr.add_lit, zeroB, hst]
        · refine ⟨by rw [hlen, Nat.mul_one], .inr ⟨g, cap, _, rfl, hbg, setRow_heap w g cur _ 5 _ hg, hroom, hcm, ?_, ?_⟩⟩
          · simp only [List.size_toArray, List.length_append, List.length_take, List.length_drop, Array.length_toList, List.length_replicate]
            omega
          · rw [hmap]
            simp only [List.append_assoc]
            rw [Nat.mul_one] at htake
            rw [htake, ← List.append_assoc, List.take_left' (by rw [List.length_append, hln, List.length_replicate, Nat.mul_one])]
        · exact ⟨rfl, rfl, rfl, by simp, fun k _ hk => setRow_other w g k _ (fun e => hk (by simp [Value.ownBlock, e]))⟩
      · have holds : ∀ j u, (l.map (Value.int .u8))[j]? = some u → w.cell? ((⟨g, 0, none⟩ : Addr).add j) = some u := hown.cells (g := g) rfl
        have hf := run_firstCells_some (P := Tryz.prog) w.drew i.size n ⟨g, 0, none⟩ n cap (l.map (Value.int .u8)) (by rw [hs, hln, Nat.mul_one]) (by simpa using holds)
        have hr := Lib.run_append_grow_zeros (P := Tryz.prog) w 41 3 ty 5 i _ .i64 .i64 ht htn hi hz (some ⟨g, 0, none⟩) n cap _ hf m (by omega) (by rw [hs]; omega) (by omega) (by omega) (by rw [hb]; omega) (by rw [hb]; exact growslice_fits (by omega) (by omega))
        have hgr := grown cap (Value.ownBlock (.slice (some ⟨g, 0, none⟩) n cap))
        exact ⟨_, _, hr, hgr.1, hgr.2⟩
theorem want_append_bytes {w : World} {ops : Array Oper} {rest : List Oper} {o : Oper} {a : Act} {Q : Exit → Act → World → Prop} (hw : Region.wanted o (yielded ops a.tmps) = true) (s x : Operand)
    (ho : o.op = .call { callee := .builtin .append, args := #[s, x], argTypes := #[41, 41] }) (base : Nat) (v : Value) (n : Nat) (l : List Int) (hs : a.eval s = v) (hown : w.ownsRow base 5 1 v n (l.map (Value.int .u8)))
    (oa : Option Addr) (m c : Nat) (l' : List Int) (hx : a.eval x = .slice oa m c) (hL : Bs w (.slice oa m c) l') (hm : n + m ≤ 1000000) (hbase : base ≤ w.heap.size)
    (h : ∀ v' w', w'.ownsRow base 5 1 v' (n + m) ((l ++ l').map (Value.int .u8)) → w.grownBy w' v.ownBlock → wpList Tryz.prog ops Q rest (a.put o.dst v') w') : wpList Tryz.prog ops Q (o :: rest) a w := by
  obtain ⟨i5, hi0, hz0, hz1, hz2⟩ := info_parts infoB
  obtain ⟨p1, p2, p3, p4, p5⟩ := hL.parts
  refine wpList_step fun K hK => ?_
  rw [if_pos hw]
  refine wp_append_in s x 41 ho base 5 i5 _ 1 Tryz.underlying41 hi0 hz0 hz1 hz2 rfl v n _ hs hown oa m c (l'.map (Value.int .u8)) hx p4 (by rw [List.length_map]; exact p1) p5 (ints_oneCell _ _) (by unfold maxLen; omega) (by omega) hbase ?_
  intro v' w' h1 h2
  exact hK _ _ (h v' w' (by rw [List.map_append]; exact h1) h2)
theorem want_append_zeros {w : World} {ops : Array Oper} {rest : List Oper} {o : Oper} {a : Act} {Q : Exit → Act → World → Prop} (hw : Region.wanted o (yielded ops a.tmps) = true) (s x : Operand)
    (ho : o.op = .call { callee := .builtin .append, args := #[s, x], argTypes := #[41, 3] }) (base : Nat) (v : Value) (n : Nat) (l : List Int) (hs : a.eval s = v) (hown : w.ownsRow base 5 1 v n (l.map (Value.int .u8)))
    (m : Nat) (hx : a.eval x = .int .i64 m) (hm : n + m ≤ 1000000) (hbase : base ≤ w.heap.size)
    (h : ∀ v' w', w'.ownsRow base 5 1 v' (n + m) ((l ++ List.replicate m 0).map (Value.int .u8)) → w.grownBy w' v.ownBlock → wpList Tryz.prog ops Q rest (a.put o.dst v') w') : wpList Tryz.prog ops Q (o :: rest) a w := by
  refine wpList_step fun K hK => ?_
  rw [if_pos hw]
  obtain ⟨v', w', hr, h2, h3⟩ := run_append_zeros w o.type base v n l hown m hm hbase
  unfold Oper.wp execOp
  simp only [ho, resolve, invoke, builtin, Sem.run_bind, Sem.run_pure, Result.andThen_ok, List.map_toArray, List.map_cons, List.map_nil, hs, hx, hr]
  exact hK _ _ (h v' w' h2 h3)
end Go.Proofs.YtedobcajbelcpaaGreat
namespace Go.Proofs.YtedobcajbelcpaaGreat
open Go.RowKit

set_option maxRecDepth 100000 in
set_option maxHeartbeats 800000 in
theorem reduce_nil (f : Value) (oa : Option Addr) (c : Nat) (w : World) (hf : IsF w f) (h : Bss w (.slice oa 0 c) []) :
    Calls Tryz.prog 40 #[f, .slice oa 0 c] w fun e w' => ∃ v R, e = .returned v ∧ Bss w' v R ∧ Gr w w' ∧ IsRed (wd []) [] R := by
  have HS := Lib.hid h
  have HF := Lib.hid hf
  clear h hf
  go_enter Tryz.func40, Tryz.ntmps40
  go_wp2_with fail
  refine (may_any _ [] w HS.out (by simp)).mono ?_
  rintro e w1 ⟨rfl, hg1⟩
  rw [show mayL [] = true from rfl]
  have G1 := Lib.hid hg1
  clear hg1
  go_wp2_with (first
    | (at_builtin; refine wpList_append_rows rfl _ _ rfl rfl oa 0 c [] rfl rfl (Bss.grown HS.out G1.out) (by omega) ?_; intro v2 w2 us hown hg2 hrow; obtain ⟨o2, c2, rfl⟩ := ownsRow_form hown; have HO := Lib.hid hown; have G2 := Lib.hid hg2; clear hown hg2 hrow)
    | (go_at_call 57; refine (mtabled_any f _ (IsF.grown HF.out (Gr.trans G1.out G2.out))).mono ?_; rintro e w3 ⟨b, rfl, hfb, hg3⟩; clear hfb; have G3 := Lib.hid hg3; clear hg3)
    | (go_at_call 58; refine (columns_any _ [] _ (Bss.grown HS.out (Gr.trans G1.out (Gr.trans G2.out G3.out)))).mono ?_; rw [wd_nil]; rintro e w4 ⟨rfl, hg4⟩; have G4 := Lib.hid hg4; clear hg4))
  refine (eliminate_none _ _ _).mono ?_
  rintro e w5 ⟨rfl, hg5⟩
  have GG := Lib.hid (Gr.trans G1.out (Gr.trans G2.out (Gr.trans G3.out (Gr.trans G4.out hg5))))
  have H5 := Lib.hid (Bss.grown (owns_bss (L := []) HO.out rfl (fun i hi => by simp at hi)) (Gr.trans G3.out (Gr.trans G4.out hg5)))
  have hc2 : c2 ≤ maxLen := by
    obtain ⟨_, ⟨he, _⟩ | ⟨g, c', cur, he, _, _, _, h2, _⟩⟩ := HO.out
    · cases he; omega
    · cases he; exact h2
  unfold maxLen at hc2
  clear G1 G2 G3 G4 hg5 HO HS
  go_wp2_with (first
    | (at_builtin; refine wpList_append_rows rfl _ _ rfl rfl o2 0 c2 [] rfl rfl H5.out (by omega) ?_; intro v6 w6 us6 hown hg6 hrow; obtain ⟨o6, c6, rfl⟩ := ownsRow_form hown; have HO6 := Lib.hid hown; have G6 := Lib.hid hg6; clear hown hg6 hrow))
  go_ret
  exact ⟨_, [], rfl, owns_bss HO6.out rfl (fun i hi => by simp at hi), Gr.trans GG.out G6.out, (by intro r hr; cases hr), [], rfl, L.Rref.nil, L.Same.refl _⟩
theorem field_block {w w' : World} {b g base n c : Nat} {us : List Value} {l : List Int} (h : FieldAt w b) (ho : w.ownsRow base 41 1 (.slice (some ⟨g, 0, none⟩) n c) n us) (h0 : 0 < n) (hb : Bs w' (us.getD 0 undef) l) : b ≠ g := by
  intro e
  subst e
  obtain ⟨g', c', he, _, _, _, _, hc⟩ := ownsRow_cell ho h0
  cases he
  have h1 := hc 0 h0
  rw [FieldAt.ex h 0 (by omega)] at h1
  obtain ⟨o, c2, hf⟩ := hb.form
  rw [hf] at h1
  cases h1
set_option maxRecDepth 100000 in
set_option maxHeartbeats 1600000 in
theorem reduce_pos (f va : Value) (A : List (List Int)) (w : World) (hf : IsF w f) (h : Bss w va A) (hl : A.length ≤ 1000) (hmay : mayL A = true) (h0 : 0 < A.length) :
    Calls Tryz.prog 40 #[f, va] w fun e w' => ∃ v R, e = .returned v ∧ Bss w' v R ∧ Gr w w' ∧ IsRed (wd A) A R := by
  have HW := Lib.hid (Wide.of_may hmay h.byt)
  have hk64 : wd A ≤ 64 := (mayL_at hmay 0 h0).2
  have HS := Lib.hid h
  have HF := Lib.hid hf
  have HM := Lib.hid hmay
  obtain ⟨oa, c0, rfl, h1, h2, _, _⟩ := h
  obtain ⟨n, hn⟩ : ∃ n, A.length = n := ⟨_, rfl⟩
  rw [hn] at HS h1 hl h0 ⊢
  obtain ⟨k, hk⟩ : ∃ k, wd A = k := ⟨_, rfl⟩
  have HN := Lib.hid hn
  have HK := Lib.hid hk
  rw [show (A.getD 0 []).length = wd A from rfl] at HW
  rw [hk] at hk64 HW ⊢
  clear hf hmay hn hk
  go_enter Tryz.func40, Tryz.ntmps40
  go_wp2_with fail
  refine (may_any _ A w HS.out (by rw [HN.out]; omega)).mono ?_
  rintro e w1 ⟨rfl, hg1⟩
  rw [HM.out]
  have G1 := Lib.hid hg1
  clear hg1
  go_wp2_with (first
    | (at_builtin; refine wpList_append_rows rfl _ _ rfl rfl oa n c0 A rfl HN.out (Bss.grown HS.out G1.out) hl ?_; intro v2 w2 us hown hg2 hrow; have HO := Lib.hid hown; obtain ⟨g, c, rfl, hc1, hc2, _, _, _⟩ := ownsRow_cell hown h0; have G2 := Lib.hid hg2; have HR := Lib.hid hrow; clear hown hg2 hrow)
    | (go_at_call 57; refine (mtabled_any f _ (IsF.grown HF.out (Gr.trans G1.out G2.out))).mono ?_; rintro e w3 ⟨b, rfl, hfb, hg3⟩; have HFB := Lib.hid hfb; clear hfb; have G3 := Lib.hid hg3; clear hg3)
    | (go_at_call 58; refine (columns_any _ A _ (Bss.grown HS.out (Gr.trans G1.out (Gr.trans G2.out G3.out)))).mono ?_; rw [HK.out]; rintro e w4 ⟨rfl, hg4⟩; have G4 := Lib.hid hg4; clear hg4))
  unfold maxLen at hc2
  have hx : Mx w1 w2 g n c k A A [] 0 us := ⟨HO.out, HR.out, HN.out, HW.out, L.Ech.start _, G2.out⟩
  have hx4 := hx.grow (Gr.trans G3.out G4.out)
  have hfg : b ≠ g := field_block HFB.out (HO.out.of_gr G3.out) h0 (HR.out 0 h0).1
  refine (eliminate_any _ hx4 b (FieldAt.grown HFB.out G4.out) hfg k (Nat.le_refl _) hl (by omega) hc1 hc2).mono ?_
  rintro e w5 ⟨ps, Lm, us5, rfl, hx5⟩
  obtain ⟨hrw, hgr, hred⟩ := hx5.out
  have hdn : ps.length ≤ n := by have := hx5.ech.le; rw [List.length_map, hx5.len] at this; exact this
  have hlt : (Lm.take ps.length).length = ps.length := by rw [List.length_take, hx5.len]; omega
  have HB5 := Lib.hid hrw.bss
  have GG := Lib.hid (Gr.trans G1.out hgr)
  have HRED := Lib.hid hred
  have HLT := Lib.hid hlt
  clear hx hx4 hfg hx5 hrw hgr hred hlt G2 G3 G4 HO HR HFB
  generalize Lm.take ps.length = R at *
  generalize ps.length = d at *
  go_wp2_with (first
    | (at_builtin; refine wpList_append_rows rfl _ _ rfl rfl (some ⟨g, 0, none⟩) d c R rfl HLT.out HB5.out (by omega) ?_; intro v6 w6 us6 hown hg6 hrow; obtain ⟨o6, c6, rfl⟩ := ownsRow_form hown; have HO6 := Lib.hid hown; have G6 := Lib.hid hg6; have HR6 := Lib.hid hrow; clear hown hg6 hrow))
  go_ret
  exact ⟨_, R, rfl, owns_bss HO6.out HLT.out (fun i hi => (HR6.out i (by rw [HLT.out] at hi; exact hi)).1), Gr.trans GG.out G6.out, HRED.out⟩
theorem ok_reduce : ∀ (f va : Value) (A : List (List Int)) (w : World), IsF w f → Bss w va A → A.length ≤ 1000 → mayL A = true →
    Calls Tryz.prog 40 #[f, va] w fun e w' => ∃ v R, e = .returned v ∧ Bss w' v R ∧ Gr w w' ∧ IsRed (wd A) A R :=
  fun f va A w hf ha hl hm => by
    by_cases h0 : 0 < A.length
    · exact reduce_pos f va A w hf ha hl hm h0
    · obtain rfl : A = [] := List.eq_nil_of_length_eq_zero (by omega)
      have hs := ha
      obtain ⟨oa, c, rfl, _, _, _, _⟩ := ha
      exact reduce_nil f oa c w hf hs
set_option maxHeartbeats 400000 in
theorem ok_rank : ∀ (f va : Value) (A : List (List Int)) (w : World), IsF w f → Bss w va A → A.length ≤ 1000 → mayL A = true →
    Calls Tryz.prog 27 #[f, va] w fun e w' => e = .returned (.int .i64 (rkL A)) ∧ Gr w w' := by
  intro f va A w hf ha hl hm
  have HS := Lib.hid ha
  have HF := Lib.hid hf
  have HM := Lib.hid hm
  clear ha hf hm
  go_enter Tryz.func27, Tryz.ntmps27
  go_wp2_with fail
  refine (ok_reduce f va A w HF.out HS.out hl HM.out).mono ?_
  rintro e w1 ⟨v, R, rfl, hv, hg, hred⟩
  have hrk : rkL A = R.length := hred.rank
  obtain ⟨o, c, rfl, h1, h2, _, _⟩ := hv
  have HG := Lib.hid hg
  have HRK := Lib.hid hrk
  clear hred hrk hg
  generalize R.length = s at *
  go_wp2_with fail
  go_ret
  exact ⟨by rw [HRK.out]; rfl, HG.out⟩
end Go.Proofs.YtedobcajbelcpaaGreat
namespace Go.Proofs.YtedobcajbelcpaaGreat
open Go.RowKit

/-- A block's cells that are nil rows. -/
def nils (n : Nat) : Array Value := (List.replicate n (Value.slice none 0 0)).toArray
theorem nils_made (n : Nat) : madeCells #[.slice none 0 0] n = nils n := by
  apply Array.ext'
  rw [toList_madeCells_one]
  simp [nils]
theorem make24 (l c : Nat) (h : l ≤ c) (hc : c ≤ 1000000) (w : World) :
    (Instr.makeSlice 31 (.int .i64 (l : Int)) (.int .i64 (c : Int))).run Tryz.prog w = .ok (.slice (some ⟨w.heap.size, 0, none⟩) l c) (w.alloc (.cells (nils c) 41)) := by
  obtain ⟨i, hi, hzz⟩ := Option.map_eq_some_iff.1 info22
  simp only [Prod.mk.injEq] at hzz
  obtain ⟨hz, hs, hb⟩ := hzz
  have hr := run_make (P := Tryz.prog) w 31 41 i _ Tryz.underlying31 hi hz .i64 .i64 l c (by omega) (by omega) (by rw [hb]; omega) (by omega)
  rw [Int.toNat_natCast, Int.toNat_natCast, hs, Nat.mul_one] at hr
  rw [hr, ← nils_made]
  rfl
end Go.Proofs.YtedobcajbelcpaaGreat
namespace Go.Proofs.YtedobcajbelcpaaGreat
open Go.RowKit

/-- Since w0, block g holds n rows, of which the first j are as P says. -/
structure Fill (w0 W : World) (g n : Nat) (P : Nat → List Int → Prop) (j : Nat) (us : List Value) (L : List (List Int)) : Prop where
  own : W.ownsRow w0.heap.size 41 1 (.slice (some ⟨g, 0, none⟩) n n) n us
  row : ∀ i, i < n → Bs W (us.getD i undef) (L.getD i []) ∧ Rb w0.heap.size W (us.getD i undef)
  len : L.length = n
  is : ∀ i, i < j → P i (L.getD i [])
  gr : Gr w0 W
section
variable {w0 W : World} {g n : Nat} {P : Nat → List Int → Prop} {j : Nat} {us : List Value} {L : List (List Int)}
theorem Fill.start (w : World) (n : Nat) (hn : n ≤ 1000000) (P : Nat → List Int → Prop) : Fill w (w.alloc (.cells (nils n) 41)) w.heap.size n P 0 (List.replicate n (.slice none 0 0)) (List.replicate n []) := by
  refine ⟨⟨by simp, .inr ⟨w.heap.size, n, nils n, rfl, Nat.le_refl _, heap_alloc_new _ _, Nat.le_refl _, by unfold maxLen; omega, by simp [nils], by simp [nils]⟩⟩, fun i hi => ?_, by simp, by omega, Gr.alloc (Gr.refl _) _ _⟩
  have e1 : (List.replicate n (Value.slice none 0 0)).getD i undef = .slice none 0 0 := by rw [List.getD_eq_getElem?_getD, List.getElem?_replicate, if_pos hi]; rfl
  have e2 : (List.replicate n ([] : List Int)).getD i [] = [] := by rw [List.getD_eq_getElem?_getD, List.getElem?_replicate, if_pos hi]; rfl
  rw [e1, e2]
  exact ⟨Bs.nil _, fun a n c e _ => by cases e⟩
theorem Fill.cell (h : Fill w0 W g n P j us L) (i : Nat) (hi : i < n) : W.cell? ⟨g, i, none⟩ = some (us.getD i undef) := by
  obtain ⟨g', c', he, _, _, _, _, hc⟩ := ownsRow_cell h.own (by omega)
  cases he
  exact hc i hi
theorem Fill.frozen (h : Fill w0 W g n P j us L) (i : Nat) : W.frozen? ⟨g, i, none⟩ = false := by
  obtain ⟨_, ⟨he, _⟩ | ⟨g', c', cur, he, _, hg, _⟩⟩ := h.own
  · cases he
  · cases he
    exact frozen_of_row W g i _ _ hg
theorem Fill.base (h : Fill w0 W g n P j us L) : w0.heap.size ≤ g := (ownsRow_not_bytes h.own g rfl).1
theorem Fill.grow {W' : World} (h : Fill w0 W g n P j us L) (hg : Gr W W') : Fill w0 W' g n P j us L :=
  ⟨h.own.of_gr hg, fun i hi => Rb.gr (h.row i hi).1 (h.row i hi).2 hg, h.len, h.is, Gr.trans h.gr hg⟩
theorem Fill.put {u : Value} {l : List Int} (h : Fill w0 W g n P j us L) (hj : j < n) (hb : Bs W u l) (hrb : Rb w0.heap.size W u) (hp : P j l) :
    Fill w0 (W.setCell ⟨g, j, none⟩ u) g n P (j + 1) (us.set j u) (L.set j l) := by
  obtain ⟨h1, h2⟩ := Rws.set h.own h.len h.row j hj hb hrb
  refine ⟨h1, h2, by rw [List.length_set]; exact h.len, fun i hi => ?_, Gr.setCell h.gr h.base u⟩
  by_cases e : i = j
  · subst e
    rw [getD_set_self _ _ _ (by rw [h.len]; exact hj)]
    exact hp
  · rw [getD_set_ne _ _ _ _ (fun c => e c.symm)]
    exact h.is i (by omega)
theorem Fill.bss (h : Fill w0 W g n P j us L) : Bss W (.slice (some ⟨g, 0, none⟩) n n) L := owns_bss h.own h.len fun i hi => (h.row i (by rw [← h.len]; exact hi)).1
end
theorem L.lc_snoc : ∀ (X : List L.V) (c y : L.V), L.lc c (X ++ [y]) = L.vadd (L.lc c X) (L.smul (c X.length) y)
  | [], c, y => by
    show L.vadd (L.smul (c 0) y) L.vzero = L.vadd L.vzero (L.smul (c 0) y)
    rw [L.vadd_zero, L.vzero_add]
  | x :: X, c, y => by
    show L.vadd (L.smul (c 0) x) (L.lc (fun i => c (i + 1)) (X ++ [y])) = L.vadd (L.vadd (L.smul (c 0) x) (L.lc (fun i => c (i + 1)) X)) (L.smul (c (X.length + 1)) y)
    rw [L.lc_snoc X, L.vadd_assoc]
theorem axL_byt {c : Int} {x y : List Int} (hy : ∀ z ∈ y, Byt z) : ∀ z ∈ axL c x y, Byt z := by
  rw [← lst_eq_ax]
  exact axF_byt fun i => getD_byt hy i
/-- l is the sum of the first rows of X, each times the element of r with its index. -/
def IsW (m : Nat) (r : List Int) (X : List (List Int)) (l : List Int) : Prop := l.length = m ∧ (∀ x ∈ l, Byt x) ∧ vec l = L.lc (vec r) (X.map vec)
theorem IsW.start (m : Nat) (r : List Int) : IsW m r [] (List.replicate m 0) := by
  refine ⟨by simp, fun x hx => ?_, ?_⟩
  · rw [(List.mem_replicate.1 hx).2]
    unfold Byt
    omega
  · funext i
    show fb ((List.replicate m 0).getD i 0) = L.zero
    rw [replicate_getD, fb_zero]
theorem IsW.next {m j : Nat} {r l : List Int} {X : List (List Int)} (h : IsW m r (X.take j) l) (hr : ∀ x ∈ r, Byt x) (hX : Wide m X) (hj : j < X.length) : IsW m r (X.take (j + 1)) (axL (r.getD j 0) (X.getD j []) l) := by
  obtain ⟨h1, h2, h3⟩ := h
  have hx := hX.at j hj
  have hlen : ((X.take j).map vec).length = j := by rw [List.length_map, List.length_take]; omega
  refine ⟨by rw [axL_length]; exact hx.1, axL_byt h2, ?_⟩
  rw [vec_ax (getD_byt hr j) hx.2 h2 (by rw [hx.1, h1]), h3, List.take_add_one, List.getElem?_eq_getElem hj]
  show _ = L.lc (vec r) ((X.take j ++ [X[j]]).map vec)
  rw [List.map_append, List.map_singleton, L.lc_snoc, hlen, List.getD_eq_getElem?_getD (l := X), List.getElem?_eq_getElem hj]
  rfl
theorem isMul_of {m : Nat} {A X o : List (List Int)} (hl : o.length = A.length) (h : ∀ i, i < A.length → IsW m (A.getD i []) X (o.getD i [])) : IsMul m A X o := by
  refine ⟨fun r hr => ?_, ?_⟩
  · obtain ⟨i, hi, rfl⟩ := List.getElem_of_mem hr
    have := h i (by omega)
    rw [List.getD_eq_getElem?_getD (l := o), List.getElem?_eq_getElem hi] at this
    exact ⟨this.1, this.2.1⟩
  · apply List.ext_getElem
    · simp [L.mulM, hl]
    intro i h1 h2
    rw [List.length_map] at h1
    have := (h i (by omega)).2.2
    rw [List.getD_eq_getElem?_getD (l := o), List.getElem?_eq_getElem h1, List.getD_eq_getElem?_getD (l := A), List.getElem?_eq_getElem (by omega)] at this
    simpa [L.mulM] using this
end Go.Proofs.YtedobcajbelcpaaGreat
namespace Go.Proofs.YtedobcajbelcpaaGreat
open Go.RowKit

/-- Row h while it is being written: the first j of the source symbols are there. -/
def midF (K h j : Nat) : Nat → Int := fun i => if i < K ∧ j ≤ i then 0 else aheadF K h i
theorem midF_zero (K H h : Nat) : lst (K + H) (midF K h 0) = unitL (K + H) (K + h) := by
  apply lst_congr
  intro i _
  unfold midF aheadF
  by_cases c : i < K
  · rw [if_pos ⟨c, by omega⟩, if_neg (by omega)]
  · rw [if_neg (by omega), if_neg c]
theorem midF_all (K H h : Nat) : lst (K + H) (midF K h K) = aheadRow K H h := by
  apply lst_congr
  intro i _
  unfold midF
  rw [if_neg (by omega)]
theorem midF_set {K h j : Nat} (N : Nat) (hj : j < K) : (lst N (midF K h j)).set j (aheadF K h j) = lst N (midF K h (j + 1)) := by
  rw [lst_set]
  apply lst_congr
  intro i _
  unfold midF
  by_cases e : i = j
  · subst e
    rw [if_pos rfl, if_neg (by omega)]
  · rw [if_neg e]
    by_cases c : i < K ∧ j ≤ i
    · rw [if_pos c, if_pos (by omega)]
    · rw [if_neg c, if_neg (by omega)]
theorem midF_byt (K h j i : Nat) : Byt (midF K h j i) := by
  unfold midF
  split
  · unfold Byt
    omega
  · exact aheadF_byt K h i
/-- The row in block g, of which the first j elements are written. -/
structure Mid (w W : World) (g N c : Nat) (K h j : Nat) : Prop where
  gr : Gr w W
  le : w.heap.size ≤ g
  cap : N ≤ c ∧ c ≤ 9223372036854775807
  blk : ∃ cur, W.heap[g]? = some (.cells cur 5 (0, 0)) ∧ ∀ i, i < N → cur[i]? = some (.int .u8 (midF K h j i))
theorem Mid.frozen {w W : World} {g N c K h j : Nat} (m : Mid w W g N c K h j) (i : Nat) : W.frozen? ⟨g, i, none⟩ = false := by
  obtain ⟨cur, h1, _⟩ := m.blk
  exact frozen_of_row W g i _ _ h1
theorem Mid.cell {w W : World} {g N c K h j : Nat} (m : Mid w W g N c K h j) (i : Nat) (hi : i < N) : W.cell? ⟨g, i, none⟩ = some (.int .u8 (midF K h j i)) := by
  obtain ⟨cur, h1, h2⟩ := m.blk
  rw [cell_of_row W g i _ _ _ h1, h2 i hi]
theorem Mid.more {w W W' : World} {g N c K h j : Nat} (m : Mid w W g N c K h j) (hg : Gr W W') : Mid w W' g N c K h j := by
  obtain ⟨cur, h1, h2⟩ := m.blk
  exact ⟨Gr.trans m.gr hg, m.le, m.cap, cur, keptRow hg h1, h2⟩
theorem Mid.put {w W : World} {g N c K h j : Nat} (m : Mid w W g N c K h j) (hj : j < K) (hN : K ≤ N) : Mid w (W.setCell ⟨g, j, none⟩ (.int .u8 (aheadF K h j))) g N c K h (j + 1) := by
  obtain ⟨cur, h1, h2⟩ := m.blk
  refine ⟨Gr.setCell m.gr m.le _, m.le, m.cap, _, heap_setCell_same _ _ _ _ _ _ h1, fun i hi => ?_⟩
  rw [Array.getElem?_setIfInBounds]
  have hs : j < cur.size := (Array.getElem?_eq_some_iff.1 (h2 j (by omega))).1
  unfold midF
  by_cases e : j = i
  · subst e
    rw [if_pos rfl, if_pos hs, if_neg (by omega)]
  · rw [if_neg e, h2 i hi]
    unfold midF
    by_cases c : i < K ∧ j ≤ i
    · rw [if_pos c, if_pos (by omega)]
    · rw [if_neg c, if_neg (by omega)]
theorem Mid.start {w W : World} {K H h : Nat} {v : Value} (hn : New w W v (unitL (K + H) (K + h))) (h0 : 0 < K + H) : ∃ g c, v = .slice (some ⟨g, 0, none⟩) ((K + H : Nat) : Nat) c ∧ Mid w W g (K + H) c K h 0 := by
  have hl : (unitL (K + H) (K + h)).length = K + H := lst_length _ _
  obtain ⟨hg, _, ⟨h1, _⟩ | ⟨g, c, cur, rfl, q1, q2, q3, q4, q5⟩⟩ := hn
  · rw [h1] at hl
    simp at hl
    omega
  · rw [hl] at q3 q5
    refine ⟨g, c, by rw [hl], hg, q1, ⟨q3, q4⟩, cur, q2, fun i hi => ?_⟩
    rw [q5 i hi, ← midF_zero, lst_getD _ _ _ hi]
theorem Mid.done {w W : World} {g N c K H h : Nat} (m : Mid w W g N c K h K) (hN : K + H = N) : New w W (.slice (some ⟨g, 0, none⟩) N c) (aheadRow K H h) := by
  subst hN
  obtain ⟨cur, h1, h2⟩ := m.blk
  refine ⟨m.gr, lst_byt fun i _ => aheadF_byt K h i, .inr ⟨g, c, cur, by rw [aheadRow_length], m.le, h1, by rw [aheadRow_length]; exact m.cap.1, m.cap.2, fun i hi => ?_⟩⟩
  rw [aheadRow_length] at hi
  rw [h2 i hi, ← midF_all, lst_getD _ _ _ hi]
set_option maxRecDepth 100000 in
set_option maxHeartbeats 800000 in
theorem precode_any (f : Value) (K H h : Nat) (S : Int) (w : World) (hf : IsF w f) (hm : MayP K H S) (hh : h < H) :
    Calls Tryz.prog 35 #[f, par K H S, .int .i64 (h : Int)] w fun e w' => ∃ v, e = .returned v ∧ New w w' v (aheadRow K H h) := by
  have HF := Lib.hid hf
  have hc : colsP K H S = ((K + H : Nat) : Int) := by unfold colsP; rw [if_pos hm]; omega
  have HC := Lib.hid hc
  obtain ⟨b1, b2, b3, b4, _, _⟩ := hm
  clear hf hc
  obtain ⟨N, hN⟩ : ∃ N, K + H = N := ⟨_, rfl⟩
  have hN64 : N ≤ 20 := by omega
  have HN := Lib.hid hN
  obtain ⟨q, hq⟩ : ∃ q : Nat, K + h = q := ⟨_, rfl⟩
  have hq' : (K : Int) + (h : Int) = (q : Int) := by omega
  have hwq : IntKind.i64.wrap (q : Int) = (q : Int) := by simp [IntKind.wrap, IntKind.bits, IntKind.signed]; omega
  have HQ := Lib.hid hq
  have P0 : Hid (Par (w.alloc (.cells #[.int .i64 (K : Int), .int .i64 (H : Int), .int .i64 S] 23)) w.heap.size K H S) := Lib.hid (heap_alloc_new _ _)
  have HG0 : Hid (Gr w (w.alloc (.cells #[.int .i64 (K : Int), .int .i64 (H : Int), .int .i64 S] 23))) := Lib.hid (Gr.alloc (Gr.refl _) _ _)
  go_enter Tryz.func35, Tryz.ntmps35
  go_wp2_with fail
  generalize w.alloc (.cells #[.int .i64 (K : Int), .int .i64 (H : Int), .int .i64 S] 23) = W0 at *
  generalize w.heap.size = gp at *
  have c0 := P0.out.cell0
  have c1 := P0.out.cell1
  have c2 := P0.out.cell2
  go_region_held3 (fun W => W.cell? ⟨gp, 0, none⟩ = some (.int .i64 (K : Int)) ∧ W.cell? ⟨gp, 1, none⟩ = some (.int .i64 (H : Int)) ∧ W.cell? ⟨gp, 2, none⟩ = some (.int .i64 S)) (first | exact ⟨k20, k21, k22⟩ | exact ⟨k10, k11, k12⟩ | go_keep)
    (first
      | (go_at_call 44; refine (ok_unit N q _ (by omega) (by omega) (by omega)).mono ?_; rintro e v2 ⟨y2, rfl, hn2⟩; have k20 := cell_grown hn2.1 (by exact k10); have k21 := cell_grown hn2.1 (by exact k11); have k22 := cell_grown hn2.1 (by exact k12); have N2 := Lib.hid hn2; clear hn2)
      | (go_at_call 29; refine (cols_pre K H S _).mono ?_; rw [HC.out, HN.out]; rintro e v1 ⟨rfl, hg1⟩; have k10 := cell_grown hg1 (by exact c0); have k11 := cell_grown hg1 (by exact c1); have k12 := cell_grown hg1 (by exact c2); have V1 : Hid (Gr W0 v1) := Lib.hid (by exact hg1); clear hg1))
  have P1 := Lib.hid (P0.out.grown V1.out)
  have G1 := Lib.hid (Gr.trans HG0.out V1.out)
  have hn : New v1 v2 y2 (unitL N q) := N2.out
  rw [← HN.out, ← HQ.out] at hn
  obtain ⟨g, c, rfl, hmid⟩ := Mid.start hn (by omega)
  rw [HN.out] at hmid ⊢
  have MK := Lib.hid hmid
  have P2 := Lib.hid (P1.out.grown hmid.gr)
  have c0 := P2.out.cell0
  clear hn hmid
  go_wp2_with fail
  go_loopw [18] (fun i W => ∃ j : Nat, j ≤ K ∧ i = .int .i64 j ∧ Mid v1 W g N c K h j) (fun i _ => K - (intOf i).toNat)
  case atStart => exact ⟨0, by omega, rfl, MK.out⟩
  case round =>
    clear MK P2
    obtain ⟨j, hj, rfl, hmm⟩ := hrel
    have HM := Lib.hid hmm
    have P3 := P1.out.grown hmm.gr
    have c0 := P3.cell0
    clear hmm P3
    by_cases hlj : j < K
    · have q3 := HM.out.cell j (by omega)
      have q4 := HM.out.frozen j
      have hE : ((h : Int) + 1) * ((j : Int) + 1) = (((h + 1) * (j + 1) : Nat) : Int) := by simp
      have hF : expZ (((h + 1) * (j + 1) : Nat) : Int) = aheadF K h j := by unfold aheadF; rw [if_pos hlj]
      have hle : (h + 1) * (j + 1) ≤ 64 := Nat.le_trans (Nat.mul_le_mul (by omega : h + 1 ≤ 4) (by omega : j + 1 ≤ 16)) (by omega)
      have hjN : (j : Int) < N := by omega
      obtain ⟨e, he⟩ : ∃ e : Nat, (h + 1) * (j + 1) = e := ⟨_, rfl⟩
      rw [he] at hE hF hle
      clear he
      go_wp2_with (first | (go_at_call 45; refine (exp_any f (e : Int) _ (IsF.grown HF.out (Gr.trans G1.out HM.out.gr))).mono ?_; rw [hF]; rintro e' w5 ⟨rfl, hg5⟩; have q3 := cell_grown hg5 q3; have q4 := (HM.out.more hg5).frozen j; have H5 := Lib.hid hg5; clear hg5))
      exact ⟨⟨j + 1, by omega, by go_num, (HM.out.more H5.out).put hlj (by omega)⟩, by simp [intOf]; omega⟩
    · obtain rfl : j = K := by omega
      go_wp2_with fail
      go_ret
      exact ⟨_, rfl, New.under G1.out (HM.out.done HN.out)⟩
theorem own_base8 {w : World} {base base' : Nat} {e : TypeId} {size : Nat} {v : Value} {n : Nat} {us : List Value} (h : w.ownsRow base' e size v n us) (hb : base ≤ base') : w.ownsRow base e size v n us := by
  obtain ⟨h0, h | ⟨g, c, cur, hv, h1, h2⟩⟩ := h
  · exact ⟨h0, .inl h⟩
  · exact ⟨h0, .inr ⟨g, c, cur, hv, Nat.le_trans hb h1, h2⟩⟩
/-- Since w0, block g holds H rows, of which the first j are rows ahead, in memory of their own. -/
structure FillN (w0 W : World) (g n K j : Nat) (us : List Value) (L : List (List Int)) : Prop where
  own : W.ownsRow w0.heap.size 41 1 (.slice (some ⟨g, 0, none⟩) n n) n us
  row : ∀ i, i < n → Bs W (us.getD i undef) (L.getD i []) ∧ Rn w0.heap.size W (us.getD i undef)
  len : L.length = n
  is : ∀ i, i < j → L.getD i [] = aheadRow K n i
  gr : Gr w0 W
theorem Rn.stay8 {base : Nat} {w w' : World} {u : Value} {row : Option Nat} (hr : Rn base w u)
    (hk : ∀ k, k < w.heap.size → some k ≠ row → w'.heap[k]? = w.heap[k]?) (hrow : ∀ g, row = some g → base ≤ g ∧ ∀ cur, w.heap[g]? ≠ some (.cells cur 5 (0, 0))) : Rn base w' u := fun a n c hu hn => by
  obtain ⟨h1, cur, h2⟩ := hr a n c hu hn
  refine ⟨h1, cur, ?_⟩
  rw [hk _ (Array.getElem?_eq_some_iff.1 h2).1 (fun e => (hrow a.block e.symm).2 cur h2)]
  exact h2
theorem Rn.rb8 {base : Nat} {w : World} {u : Value} (h : Rn base w u) : Rb base w u := fun a n c e hn => .inr (h a n c e hn).2
theorem Rn.gr8 {base : Nat} {w w' : World} {u : Value} (hr : Rn base w u) (hg : Gr w w') : Rn base w' u :=
  Rn.stay8 (row := none) hr (fun k hk _ => hg.2.2.2.2 k hk) (fun g h => by cases h)
theorem New.rn8 {w w' : World} {v : Value} {l : List Int} {base : Nat} (h : New w w' v l) (hb : base ≤ w.heap.size) : Rn base w' v := by
  intro a n c hv hn
  obtain ⟨_, _, ⟨rfl, oa, c', rfl, _⟩ | ⟨g, c', cur, rfl, q, h2, _⟩⟩ := h
  · cases hv
    omega
  · cases hv
    exact ⟨Nat.le_trans hb q, cur, h2⟩
section
variable {w0 W : World} {g n K j : Nat} {us : List Value} {L : List (List Int)}
theorem FillN.start (w : World) (n K : Nat) (hn : n ≤ 1000000) : FillN w (w.alloc (.cells (nils n) 41)) w.heap.size n K 0 (List.replicate n (.slice none 0 0)) (List.replicate n []) := by
  obtain ⟨h1, h2, h3, h4, h5⟩ := Fill.start w n hn (fun _ _ => True)
  refine ⟨h1, fun i hi => ⟨(h2 i hi).1, ?_⟩, h3, by omega, h5⟩
  have e1 : (List.replicate n (Value.slice none 0 0)).getD i undef = .slice none 0 0 := by rw [List.getD_eq_getElem?_getD, List.getElem?_replicate, if_pos hi]; rfl
  rw [e1]
  intro a n c e _
  cases e
theorem FillN.fill (h : FillN w0 W g n K j us L) : Fill w0 W g n (fun _ _ => True) j us L := ⟨h.own, fun i hi => ⟨(h.row i hi).1, (h.row i hi).2.rb8⟩, h.len, fun _ _ => trivial, h.gr⟩
theorem FillN.grow {W' : World} (h : FillN w0 W g n K j us L) (hg : Gr W W') : FillN w0 W' g n K j us L :=
  ⟨h.own.of_gr hg, fun i hi => ⟨Bs.grown (h.row i hi).1 hg, (h.row i hi).2.gr8 hg⟩, h.len, h.is, Gr.trans h.gr hg⟩
theorem FillN.put {u : Value} {l : List Int} (h : FillN w0 W g n K j us L) (hj : j < n) (hb : Bs W u l) (hrb : Rn w0.heap.size W u) (hp : l = aheadRow K n j) :
    FillN w0 (W.setCell ⟨g, j, none⟩ u) g n K (j + 1) (us.set j u) (L.set j l) := by
  obtain ⟨h1, h2⟩ := Rws.set h.own h.len (fun i hi => ⟨(h.row i hi).1, (h.row i hi).2.rb8⟩) j hj hb hrb.rb8
  have hrow := ownsRow_not_bytes h.own
  have hk : ∀ k, k < W.heap.size → some k ≠ (Value.slice (some ⟨g, 0, none⟩) n n).ownBlock → (W.setCell ⟨g, j, none⟩ u).heap[k]? = W.heap[k]? := by
    intro k _ hne
    have hne' : k ≠ g := fun e => hne (by rw [e]; rfl)
    exact heap_setCell_other _ _ _ _ hne'
  have hus : us.length = n := by have := h.own.1; omega
  refine ⟨h1, fun i hi => ⟨(h2 i hi).1, ?_⟩, by rw [List.length_set]; exact h.len, fun i hi => ?_, Gr.setCell h.gr h.fill.base u⟩
  · by_cases e : i = j
    · subst e
      rw [List.getD_eq_getElem?_getD, List.getElem?_set_self (by omega)]
      exact hrb.stay8 hk hrow
    · rw [List.getD_eq_getElem?_getD, List.getElem?_set_ne (fun c => e c.symm), ← List.getD_eq_getElem?_getD]
      exact (h.row i hi).2.stay8 hk hrow
  · by_cases e : i = j
    · subst e
      rw [getD_set_self _ _ _ (by rw [h.len]; exact hj)]
      exact hp
    · rw [getD_set_ne _ _ _ _ (fun c => e c.symm)]
      exact h.is i (by omega)
theorem FillN.done (h : FillN w0 W g n K n us L) (base : Nat) (hb : base ≤ w0.heap.size) : RwsN base W (.slice (some ⟨g, 0, none⟩) n n) (ahead K n) := by
  have e : L = ahead K n := by
    apply List.ext_getElem
    · rw [h.len]
      simp [ahead]
    intro i h1 h2
    have h3 := h.is i (by rw [← h.len]; exact h1)
    rw [List.getD_eq_getElem?_getD, List.getElem?_eq_getElem h1] at h3
    simpa [ahead] using h3
  have hl : (ahead K n).length = n := by simp [ahead]
  refine ⟨us, by rw [hl]; exact own_base8 h.own hb, fun i hi => ?_⟩
  rw [hl] at hi
  rw [← e]
  refine ⟨(h.row i hi).1, fun a m c ha hm => ?_⟩
  obtain ⟨q1, q2⟩ := (h.row i hi).2 a m c ha hm
  exact ⟨Nat.le_trans hb q1, q2⟩
end
set_option maxRecDepth 100000 in
set_option maxHeartbeats 800000 in
theorem rows_in (K H : Nat) (S : Int) (w : World) (hm : MayP K H S) :
    Calls Tryz.prog 21 #[par K H S] w fun e w' => ∃ v, e = .returned v ∧ RwsN w.heap.size w' v (ahead K H) ∧ Gr w w' := by
  have hd := decide_eq_true hm
  have HM := Lib.hid hm
  obtain ⟨b1, b2, b3, b4, _, _⟩ := hm
  have hmk := make24 H H (by omega) (by omega)
  have hR : ∃ cur, cur = nils H := ⟨_, rfl⟩
  obtain ⟨cur, hcur⟩ := hR
  rw [← hcur] at hmk
  have HC := Lib.hid hcur
  clear hcur
  have P0 : Hid (Par (w.alloc (.cells #[.int .i64 (K : Int), .int .i64 (H : Int), .int .i64 S] 23)) w.heap.size K H S) := Lib.hid (heap_alloc_new _ _)
  have HG0 : Hid (Gr w (w.alloc (.cells #[.int .i64 (K : Int), .int .i64 (H : Int), .int .i64 S] 23))) := Lib.hid (Gr.alloc (Gr.refl _) _ _)
  go_enter Tryz.func21, Tryz.ntmps21
  go_wp2_with fail
  generalize w.alloc (.cells #[.int .i64 (K : Int), .int .i64 (H : Int), .int .i64 S] 23) = W0 at *
  generalize hgp : w.heap.size = gp at *
  refine (may_pre K H S _).mono ?_
  rw [hd]
  rintro e w1 ⟨rfl, hg1⟩
  have P1 := Lib.hid (P0.out.grown hg1)
  have G1 := Lib.hid (Gr.trans HG0.out hg1)
  clear hg1 P0 HG0
  go_wp2_with fail
  refine (new_any _).mono ?_
  rintro e w2 ⟨b, rfl, hfb, hg2⟩
  have P2 := Lib.hid (P1.out.grown hg2)
  have G2 := Lib.hid (Gr.trans G1.out hg2)
  have HF : Hid (IsF w2 (.pointer (some ⟨b, 0, none⟩))) := Lib.hid (Or.inr ⟨b, rfl, hfb⟩)
  have c1 := P2.out.cell1
  clear hg2 hfb P1 G1
  go_wp2_with fail
  have FL : Hid (FillN w2 (w2.alloc (.cells cur 41)) w2.heap.size H K 0 (List.replicate H (.slice none 0 0)) (List.replicate H [])) := Lib.hid (by rw [HC.out]; exact FillN.start w2 H K (by omega))
  clear HC hmk c1
  generalize w2.alloc (.cells cur 41) = W3 at *
  generalize hgr : w2.heap.size = gr at *
  go_loopw [15] (fun i W => ∃ (j : Nat) (us : List Value) (L : List (List Int)), j ≤ H ∧ i = .int .i64 j ∧ FillN w2 W gr H K j us L) (fun i _ => H - (intOf i).toNat)
  case atStart => exact ⟨0, _, _, by omega, rfl, FL.out⟩
  case round =>
    clear FL
    obtain ⟨j, us, L, hj, rfl, hfl⟩ := hrel
    have HL := Lib.hid hfl
    clear hfl
    have P3 := P2.out.grown HL.out.gr
    have c0 := P3.cell0
    have c1 := P3.cell1
    have c2 := P3.cell2
    by_cases hlt : j < H
    · have q3 := HL.out.fill.cell j hlt
      have q4 := HL.out.fill.frozen j
      go_wp2_with fail
      refine (precode_any _ K H j S _ (IsF.grown HF.out HL.out.gr) HM.out hlt).mono ?_
      rintro e w5 ⟨v5, rfl, hn5⟩
      have q3 := cell_grown hn5.1 q3
      have q4 := (HL.out.fill.grow hn5.1).frozen j
      have N5 := Lib.hid hn5
      obtain ⟨o5, m5, c5, rfl⟩ := New.form3 hn5
      clear hn5
      go_wp2_with fail
      exact ⟨⟨j + 1, _, _, by omega, by go_num, (HL.out.grow N5.out.1).put hlt (New.bs N5.out) (New.rn8 N5.out HL.out.gr.size) rfl⟩, by simp [intOf]; omega⟩
    · obtain rfl : j = H := by omega
      go_wp2_with fail
      go_ret
      exact ⟨_, rfl, by rw [hgp]; exact HL.out.done gp (by rw [← hgp]; exact G2.out.size), Gr.trans G2.out HL.out.gr⟩
set_option maxHeartbeats 400000 in
theorem rows_ne (K H S : Int) (w : World) (hm : ¬ MayP K H S) :
    Calls Tryz.prog 21 #[par K H S] w fun e w' => e = .returned (.slice none 0 0) ∧ Gr w w' := by
  have hd := decide_eq_false hm
  clear hm
  have HG0 : Hid (Gr w (w.alloc (.cells #[.int .i64 K, .int .i64 H, .int .i64 S] 23))) := Lib.hid (Gr.alloc (Gr.refl _) _ _)
  go_enter Tryz.func21, Tryz.ntmps21
  go_wp2_with fail
  refine (may_pre K H S _).mono ?_
  rw [hd]
  rintro e w1 ⟨rfl, hg1⟩
  have G1 := Lib.hid (Gr.trans HG0.out hg1)
  clear hg1
  go_wp2_with fail
  go_ret
  exact ⟨rfl, G1.out⟩
theorem rows_pre (K H S : Int) (w : World) :
    Calls Tryz.prog 21 #[par K H S] w fun e w' => ∃ v, e = .returned v ∧ RwsN w.heap.size w' v (aheadP K H S) ∧ Gr w w' := by
  unfold aheadP
  by_cases hm : MayP K H S
  · rw [if_pos hm]
    obtain ⟨k, hk⟩ : ∃ k : Nat, K = k := ⟨K.toNat, by have := hm.1; omega⟩
    obtain ⟨h, hh⟩ : ∃ h : Nat, H = h := ⟨H.toNat, by have := hm.2.2.1; omega⟩
    subst hk hh
    rw [Int.toNat_natCast, Int.toNat_natCast]
    exact rows_in k h S w hm
  · rw [if_neg hm]
    refine (rows_ne K H S w hm).mono ?_
    rintro e w' ⟨rfl, hg⟩
    exact ⟨_, rfl, ⟨[], World.ownsRow_nil w' _ 41 1, fun i hi => absurd hi (by simp)⟩, hg⟩
theorem pre_ok : PreOk := ⟨may_pre, cols_pre, rows_pre⟩
end Go.Proofs.YtedobcajbelcpaaGreat
