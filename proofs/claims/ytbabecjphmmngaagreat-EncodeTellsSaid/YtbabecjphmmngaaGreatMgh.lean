/-
  Texts laid behind one another: Rd Ra Yc Yb Hd Yd Ye.
-/
import Derived.Test.YtbabecjphmmngaaGreatMgf
import Derived.BigRegion
import Derived.Deep.RegionLaw
import Derived.Laws.AppendOwnNone
import Derived.Deep.DeepCutAuto
import Derived.Test.YtbabecjphmmngaaGreatMgg
import Derived.Test.YtbabecjphmmngaaGreatMgb
import Derived.Test.YtbabecjphmmngaaGreatProg
import Derived.Deep.RegionHeld3
namespace Go.Proofs.YtbabecjphmmngaaGreat
open Go.RowKit

theorem info5' : (Tryz.prog.info? 5).map (fun i => (i.zero, i.size, i.bytes)) = some (some (.int .u8 0), 1, 1) := by kernel_rfl
set_option maxRecDepth 100000 in
set_option maxHeartbeats 3200000 in
theorem refReduce_any (va : Value) (A : List (List Int)) (w : World) (h : Bss w va A) (hl : A.length ≤ 1000) (hby : ∀ r ∈ A, ∀ x ∈ r, Byt x) (hmay : mayL A = true) :
    Calls Tryz.prog 76 #[va] w fun e w' => ∃ v R, e = .returned v ∧ Rws w.heap.size w' v R ∧ Gr w w' ∧ IsRed (A.getD 0 []).length A R := by
  obtain ⟨i0, hi0, hz0, hz1, hz2⟩ := info_parts info22
  have I0 := Lib.hid hi0
  have I1 := Lib.hid hz0
  have I2 := Lib.hid hz1
  have I3 := Lib.hid hz2
  clear hi0 hz0 hz1 hz2
  obtain ⟨i5, hi0, hz0, hz1, hz2⟩ := info_parts info5'
  have J0 := Lib.hid hi0
  have J1 := Lib.hid hz0
  have J2 := Lib.hid hz1
  have J3 := Lib.hid hz2
  clear hi0 hz0 hz1 hz2
  have HW := Lib.hid (Wide.of_may hmay hby)
  have hk64 : A.length = 0 ∨ (A.getD 0 []).length ≤ 64 := by
    by_cases h0 : 0 < A.length
    · exact .inr (mayL_at hmay 0 h0).2
    · exact .inl (by omega)
  have HS := Lib.hid h
  have HM := Lib.hid hmay
  obtain ⟨oa, c0, rfl, h1, h2, h3, h4⟩ := h
  have HA := Lib.hid h4
  generalize hn : A.length = n at *
  generalize hkk : (A.getD 0 []).length = k at *
  have HN := Lib.hid hn
  have HKK := Lib.hid hkk
  have hoa : n = 0 ∨ ∃ a, oa = some a := by
    cases oa with
    | none => exact .inl (by have := h3 rfl; omega)
    | some a => exact .inr ⟨a, rfl⟩
  clear h3 h4 hn hkk hmay hby
  go_enter Tryz.func76, Tryz.ntmps76
  go_wp2_with (go_at_call 52; refine (mayMat_any _ A w HS.out (by rw [HN.out]; omega)).mono ?_; rintro e w1 ⟨rfl, hg1⟩; rw [HM.out]; have G1 := Lib.hid hg1; clear hg1)
  go_loopw [3, 15] (fun o i wr => ∃ j : Nat, j ≤ n ∧ i = .int .i64 j ∧ Rws w.heap.size wr o (A.take j) ∧ Gr w wr) (fun _ i _ => n - (intOf i).toNat)
  case atStart => exact ⟨0, by omega, rfl, Rws.nil _ _, G1.out⟩
  case round =>
    obtain ⟨j, hj, rfl, hrs, hg⟩ := hrel
    by_cases hlt : j < n
    · obtain ⟨a, rfl⟩ : ∃ a, oa = some a := by
        rcases hoa with c1 | c1
        · omega
        · exact c1
      obtain ⟨u, q0, hu⟩ := HA.out a rfl j hlt
      have q1 := cell_grown hg q0
      have hlk : (A.take j).length = j := by rw [List.length_take, HN.out]; omega
      obtain ⟨us, ho, hr⟩ := hrs
      obtain ⟨oo, co, rfl⟩ := ownsRow_form ho
      obtain ⟨hwl, hwb⟩ := HW.out.at j (by rw [HN.out]; exact hlt)
      obtain ⟨_, ou, cu, rfl, m1, m2, m3, m4⟩ := Bs.grown hu hg
      rw [hwl] at q1 m1 m4
      rw [hlk] at ho hr ⊢
      have HO := Lib.hid ho
      have HRR := Lib.hid hr
      have HG := Lib.hid hg
      have HLK := Lib.hid hlk
      have hk64' : k ≤ 64 := by omega
      have fin : ∀ (v1 : Value) (w1 : World), New wr w1 v1 (A.getD j []) → ∀ gg cap w2,
          w2.ownsRow w.heap.size 25 1 (.slice (some ⟨gg, 0, none⟩) (j + 1) cap) (j + 1) (us ++ [v1]) → (w1.alloc (.cells #[v1] 25)).grownBy w2 (Value.slice oo j co).ownBlock →
          Rws w.heap.size w2 (.slice (some ⟨gg, 0, none⟩) (j + 1) cap) (A.take (j + 1)) ∧ Gr w w2 := by
        intro v1 w1 hnw gg cap w2 hown1 hgrow
        have hg1w : Gr wr (w1.alloc (.cells #[v1] 25)) := Gr.alloc hnw.1 _ _
        have hgw1 : Gr w1 (w1.alloc (.cells #[v1] 25)) := Gr.alloc (Gr.refl _) _ _
        have hrow : ∀ g, (Value.slice oo j co).ownBlock = some g → w.heap.size ≤ g := fun g hg => (ownsRow_not_bytes HO.out g hg).1
        have hnb := Rb.gr (New.bs hnw) (New.rb hnw w.heap.size) hgw1
        have hap := Rws.append (L := A.take j) (l := A.getD j []) (by rw [HLK.out]; exact (HO.out.of_gr hnw.1).alloc _) (fun i hi => Rb.gr (HRR.out i (by rwa [HLK.out] at hi)).1 (HRR.out i (by rwa [HLK.out] at hi)).2 hg1w)
          hnb.1 hnb.2 (by rw [HLK.out]; exact hown1) hgrow
        have htk : A.take j ++ [A.getD j []] = A.take (j + 1) := by
          rw [List.take_add_one, List.getD_eq_getElem?_getD, List.getElem?_eq_getElem (by rw [HN.out]; exact hlt)]
          rfl
        rw [htk] at hap
        exact ⟨hap, Gr.append (Gr.trans HG.out hg1w) hgrow hrow⟩
      have FIN := Lib.hid fin
      have NW : Hid (∀ (v1 : Value) (w1 : World), w1.ownsRow wr.heap.size 5 1 v1 k ((A.getD j []).map (Value.int .u8)) → Gr wr w1 → New wr w1 v1 (A.getD j [])) := Lib.hid (fun v1 w1 h1 h2 => New.of_row h2 hwb (by rw [hwl]; exact h1))
      have NC : Hid (∀ a, ou = some a → ∀ i u, ((A.getD j []).map (Value.int .u8))[i]? = some u → wr.cell? (a.add i) = some u) := Lib.hid (fun a ha i u hu => by
        have hi : i < (A.getD j []).length := by
          have := (List.getElem?_eq_some_iff.1 hu).1
          rwa [List.length_map] at this
        rw [m4 a ha i (by omega)]
        rw [List.getElem?_map, List.getElem?_eq_getElem hi] at hu
        rw [List.getD_eq_getElem?_getD, List.getElem?_eq_getElem hi]
        simpa using hu)
      have NL : Hid (((A.getD j []).map (Value.int .u8)).length = k * 1) := Lib.hid (by rw [List.length_map, hwl]; omega)
      have N1 : Hid (∀ u ∈ (A.getD j []).map (Value.int .u8), u.oneCell' = true) := Lib.hid (ints_oneCell _ _)
      clear fin ho hr hg hlk hwl hwb m4 hu q0
      generalize (A.getD j []).map (Value.int .u8) = cs at *
      cases ou with
      | none =>
        obtain rfl : cu = 0 := m3 rfl
        obtain rfl : k = 0 := by omega
        go_wp2_with (first
          | (at_builtin; refine wpList_append_own_none rfl _ _ 25 rfl wr.heap.size 5 i5 1 Tryz.underlying25 J0.out (.slice none 0 0) 0 [] rfl (World.ownsRow_nil _ _ _ _) rfl ?_)
          | (at_builtin; refine wpList_append_lies _ rfl _ _ _ rfl w.heap.size 25 i0 _ 1 24 Tryz.underlying44 I0.out I1.out I2.out I3.out rfl (by omega) (.slice oo j co) j us rfl (HO.out.alloc _)
                ⟨wr.heap.size, 0, none⟩ 1 1 [.slice none 0 0] rfl rfl (World.news_of_block (cs := #[.slice none 0 0]) (t := 25) (fr := (0, 0)) (heap_alloc_new wr _)) (by simp [Value.oneCell'])
                (by omega) (by unfold maxLen; omega) (by omega) (by have := HG.out.size; simp; omega) (wr.heap.size + 1) (by simp) ?_; intro gg cap w2 hown2 hgrow2 hat hlt2))
        have hcs : cs = [] := List.eq_nil_of_length_eq_zero (by have := NL.out; omega)
        obtain ⟨f1, f2⟩ := FIN.out _ _ (NW.out _ wr (by rw [hcs]; exact World.ownsRow_nil _ _ _ _) (Gr.refl _)) _ _ _ hown2 hgrow2
        exact ⟨⟨j + 1, by omega, by go_num, f1, f2⟩, by simp [intOf]; omega⟩
      | some b =>
        go_wp2_with (first
          | (at_builtin; refine wpList_append_own _ rfl _ _ 25 rfl wr.heap.size 5 i5 _ 1 1 Tryz.underlying25 J0.out J1.out J2.out J3.out rfl (by omega) (.slice none 0 0) 0 [] rfl (World.ownsRow_nil _ _ _ _) b k cu cs rfl NL.out (NC.out b rfl) N1.out (by unfold maxLen; omega) (by omega) (Nat.le_refl _) ?_; intro v1 w1 hown1 hgrow1 hnil1; clear hnil1; rw [Nat.zero_add, List.nil_append] at hown1; obtain ⟨o1, c1, rfl⟩ := ownsRow_form hown1; have H1 := Lib.hid hown1; have H2 := Lib.hid hgrow1; clear hown1 hgrow1)
          | (at_builtin; refine wpList_append_lies _ rfl _ _ _ rfl w.heap.size 25 i0 _ 1 24 Tryz.underlying44 I0.out I1.out I2.out I3.out rfl (by omega) (.slice oo j co) j us rfl (((HO.out.of_gr (Gr.append (Gr.refl wr) H2.out (fun _ h => by cases h)))).alloc _)
                ⟨w1.heap.size, 0, none⟩ 1 1 [.slice o1 k c1] rfl rfl (World.news_of_block (cs := #[.slice o1 k c1]) (t := 25) (fr := (0, 0)) (heap_alloc_new w1 _)) (by simp [Value.oneCell'])
                (by omega) (by unfold maxLen; omega) (by omega) (by have := HG.out.size; have := H2.out.size; simp; omega) (w1.heap.size + 1) (by simp) ?_; intro gg cap w2 hown2 hgrow2 hat hlt2))
        have hgw := Gr.append (Gr.refl wr) H2.out (fun _ h => by cases h)
        obtain ⟨f1, f2⟩ := FIN.out _ _ (NW.out _ _ H1.out hgw) _ _ _ hown2 hgrow2
        exact ⟨⟨j + 1, by omega, by go_num, f1, f2⟩, by simp [intOf]; omega⟩
    · obtain rfl : n = j := by omega
      rw [List.take_of_length_le (by rw [HN.out]; omega)] at hrs
      have HR := Lib.hid hrs
      have HG := Lib.hid hg
      clear hrs hg
      go_wp2
      by_cases hn0 : n = 0
      · subst hn0
        obtain rfl : A = [] := List.eq_nil_of_length_eq_zero HN.out
        have hred : IsRed k [] [] := ⟨(by intro r hr; cases hr), [], rfl, L.Rref.nil, L.Same.refl _⟩
        have HRED := Lib.hid hred
        obtain ⟨us, ho, _⟩ := HR.out
        have HO := Lib.hid ho
        obtain ⟨_, ⟨rfl, _⟩ | ⟨g, c, cur, rfl, _, _, _, hc2, _⟩⟩ := ho
        · clear hred HR HS HA
          go_loopw [5, 6] (fun dd cc W => dd = .int .i64 0 ∧ cc = .int .i64 0 ∧ W = wr) (fun _ _ _ => 0)
          case atStart => exact ⟨rfl, rfl, rfl⟩
          case round =>
            obtain ⟨rfl, rfl, rfl⟩ := hrel
            go_wp2
            go_ret
            exact ⟨_, rfl, [], ⟨us, HO.out, fun i hi => absurd hi (by simp)⟩, HG.out, HRED.out⟩
        · unfold maxLen at hc2
          clear hred HR HS HA
          go_loopw [5, 6] (fun dd cc W => dd = .int .i64 0 ∧ cc = .int .i64 0 ∧ W = wr) (fun _ _ _ => 0)
          case atStart => exact ⟨rfl, rfl, rfl⟩
          case round =>
            obtain ⟨rfl, rfl, rfl⟩ := hrel
            go_wp2
            go_ret
            exact ⟨_, rfl, [], ⟨us, HO.out, fun i hi => absurd hi (by simp)⟩, HG.out, HRED.out⟩
      · have hk64' : k ≤ 64 := by omega
        obtain ⟨us, ho, hr⟩ := HR.out
        rw [HN.out] at ho hr
        obtain ⟨g, c, rfl, c1, c2, _, _, _⟩ := ownsRow_cell ho (by omega)
        have hx : Mx w wr g n c k A A [] 0 us := ⟨ho, hr, HN.out, HW.out, L.Ech.start _, HG.out⟩
        have HX := Lib.hid hx
        unfold maxLen at c2
        clear hx ho hr HR HG hk64 hoa HS
        go_loopw [5, 6] (fun d cc W => ∃ (cl : Nat) (Lm : List (List Int)) (ps : List Nat) (us : List Value), cl ≤ k ∧ cc = .int .i64 cl ∧ d = .int .i64 (ps.length : Nat) ∧ Mx w W g n c k A Lm ps cl us) (fun _ cc _ => k - (intOf cc).toNat)
        case atStart => exact ⟨0, A, [], us, by omega, rfl, rfl, HX.out⟩
        case round =>
          clear HX
          obtain ⟨cl, Lm, ps, us, hcl, rfl, rfl, hx⟩ := hrel
          have HX := Lib.hid hx
          obtain ⟨o0, c0', _, q0, _⟩ := hx.cell 0 (by omega)
          have hdn : ps.length ≤ n := by have := hx.ech.le; rw [List.length_map, hx.len] at this; exact this
          generalize hd : ps.length = d at *
          have HD := Lib.hid hd
          clear hx hd
          have hnp : 0 < n := by omega
          have hdc : d ≤ c := by omega
          by_cases hend : cl < k
          · go_wp2
            go_loopw [7, 8] (fun a i W => W = wr ∧ ∃ ii : Nat, ii ≤ n ∧ d ≤ ii ∧ i = .int .i64 ii ∧ ((a = .int .i64 (-1) ∧ ∀ s, d ≤ s → s < ii → (Lm.getD s []).getD cl 0 = 0) ∨ ∃ t : Nat, a = .int .i64 t ∧ d ≤ t ∧ t < ii ∧ (Lm.getD t []).getD cl 0 ≠ 0)) (fun _ i _ => n - (intOf i).toNat)
            case atStart => exact ⟨rfl, d, hdn, Nat.le_refl _, rfl, .inl ⟨rfl, by omega⟩⟩
            case round =>
              obtain ⟨rfl, ii, hii, hdi, rfl, ht⟩ := hrel
              by_cases hlt : ii < n
              · obtain ⟨oi, ci, _, e1, e2⟩ := HX.out.cell ii hlt
                obtain ⟨b, rfl, e3⟩ := e2 cl hend
                have hbb := HX.out.wide.byt ii cl
                have HT := Lib.hid ht
                clear e2 ht
                obtain ⟨z, hz⟩ : ∃ z, (Lm.getD ii []).getD cl 0 = z := ⟨_, rfl⟩
                rw [hz] at e3 hbb
                have HZ := Lib.hid hz
                clear hz
                by_cases hz0 : z = 0
                · subst hz0
                  go_wp2
                  refine ⟨⟨trivial, ii + 1, by omega, by omega, by go_num, ?_⟩, by simp [intOf]; omega⟩
                  rcases HT.out with ⟨rfl, h0⟩ | ⟨t, rfl, t1, t2, t3⟩
                  · refine .inl ⟨rfl, fun s s1 s2 => ?_⟩
                    by_cases e : s = ii
                    · rw [e, HZ.out]
                    · exact h0 s s1 (by omega)
                  · exact .inr ⟨t, rfl, t1, by omega, t3⟩
                · have hzb : (z != 0) = true := by simpa using hz0
                  rcases HT.out with ⟨rfl, h0⟩ | ⟨t, rfl, t1, t2, t3⟩
                  · clear h0 HT
                    go_wp2
                    exact ⟨⟨trivial, ii + 1, by omega, by omega, by go_num, .inr ⟨ii, rfl, hdi, by omega, by rw [HZ.out]; exact hz0⟩⟩, by simp [intOf]; omega⟩
                  · have H3 := Lib.hid t3
                    clear t3 HT
                    go_wp2
                    exact ⟨⟨trivial, ii + 1, by omega, by omega, by go_num, .inr ⟨t, rfl, t1, by omega, H3.out⟩⟩, by simp [intOf]; omega⟩
              · obtain rfl : n = ii := by omega
                rcases ht with ⟨rfl, h0⟩ | ⟨t, rfl, t1, t2, t3⟩
                · have H0 := Lib.hid h0
                  clear h0
                  go_wp2
                  refine ⟨⟨cl + 1, Lm, ps, us, by omega, by go_num, by rw [HD.out], HX.out.to (HX.out.ech.skip fun s hs => ?_)⟩, by simp [intOf]; omega⟩
                  rw [at_vec]
                  by_cases e : s < n
                  · rw [H0.out s (by rw [← HD.out]; exact hs) e, fb_zero]
                  · have hnil : Lm.getD s [] = [] := by
                      rw [List.getD_eq_getElem?_getD, List.getElem?_eq_none (by rw [HX.out.len]; omega)]
                      rfl
                    rw [hnil]
                    rfl
                · have H0 := Lib.hid t3
                  clear t3
                  obtain ⟨oa1, ca1, ea, qa, _⟩ := HX.out.cell t t2
                  obtain ⟨od1, cd1, ed, qd, _⟩ := HX.out.cell d (by omega)
                  have ft := HX.out.frozen t
                  have fd := HX.out.frozen d
                  have HEA := Lib.hid ea
                  have HED := Lib.hid ed
                  clear ea ed
                  have hd1 : d < n := by omega
                  obtain ⟨y, hy⟩ : ∃ y, (wr.setCell ⟨g, t, none⟩ (.slice od1 k cd1)).cell? ⟨g, d, none⟩ = some y := by
                    obtain ⟨_, ⟨he, _⟩ | ⟨g', c', cur, he, _, hg, hh1, hh2, hh3, _⟩⟩ := HX.out.own
                    · cases he
                    · cases he
                      have h2 := heap_setCell_same wr g t cur _ (.slice od1 k cd1) hg
                      rw [cell_of_row _ g d _ _ _ h2]
                      have : d < (cur.setIfInBounds t (.slice od1 k cd1)).size := by simp; omega
                      exact ⟨_, by rw [Array.getElem?_eq_getElem this]⟩
                  go_wp2
                  go_region
                  have hsw := (HX.out.swap t d (by rw [HD.out]; exact t1) t2 (by rw [HD.out]; omega) hd1).grow (Gr.drew (Gr.refl _))
                  rw [HEA.out, HED.out] at hsw
                  have hz1 : (((Lm.set t (Lm.getD d [])).set d (Lm.getD t [])).getD d []).getD cl 0 ≠ 0 := by
                    rw [getD_set_self _ _ _ (by rw [List.length_set, HX.out.len]; exact hd1)]
                    exact H0.out
                  have H1 := Lib.hid hsw
                  have HZ1 := Lib.hid hz1
                  clear hsw hz1 hy q0 ft fd qa qd HEA HED H0 HX
                  generalize ((wr.setCell ⟨g, t, none⟩ (.slice od1 k cd1)).setCell ⟨g, d, none⟩ (.slice oa1 k ca1)).drew = W1 at *
                  generalize (us.set t (.slice od1 k cd1)).set d (.slice oa1 k ca1) = us1 at *
                  generalize (Lm.set t (Lm.getD d [])).set d (Lm.getD t []) = L1 at *
                  obtain ⟨ob1, cb1, eb1, qb1, rb1⟩ := H1.out.cell d hd1
                  obtain ⟨b1, rfl, rq1⟩ := rb1 cl hend
                  have fr1 := H1.out.frozen d
                  have hbz := H1.out.wide.byt d cl
                  have hrow := (H1.out.row d hd1).1
                  rw [eb1] at hrow
                  have HROW := Lib.hid hrow
                  have HLK : Hid ((L1.getD d []).length = k) := Lib.hid (H1.out.wide.at d (by rw [H1.out.len]; exact hd1)).1
                  clear rb1 hrow eb1
                  generalize hzz : (L1.getD d []).getD cl 0 = z at *
                  have HZZ := Lib.hid hzz
                  clear hzz
                  go_upto_region 21 with fail
                  go_cut [] (fun wx => ∃ L2 us2, Mx w wx g n c k A L2 ps cl us2 ∧ (L2.getD d []).getD cl 0 = 1)
                  case first =>
                    go_region_law (first
                      | ((try go_simp); go_at_call 54; refine (refInv_any z hbz _).mono ?_; rintro e w' ⟨rfl, rfl⟩)
                      | ((try go_simp); go_at_call 55; refine (refScale_new (invZ z) _ (L1.getD d []) _ (invZ_byt z) (Bs.grown HROW.out (Gr.drew (Gr.refl _))) (by rw [HLK.out]; omega)).mono ?_; rintro e w2 ⟨v2, rfl, hnw⟩; obtain ⟨o2, m2, c2', rfl⟩ := New.form3 hnw; have hc2 := cell_grown hnw.1 qb1; have hf2 := frozen_grown hnw.1 qb1 fr1; have HNW := Lib.hid hnw; clear hnw))
                    all_goals
                      go_wp2_with fail
                      go_meet
                      refine ⟨_, _, ((H1.out.grow (Gr.trans (Gr.drew (Gr.refl _)) HNW.out.1)).scaled d (by rw [HD.out]; exact Nat.le_refl _) hd1 (invZ_byt z) (invZ_ne hbz HZ1.out) (New.bs HNW.out) (New.rb HNW.out _)), ?_⟩
                      rw [getD_set_self _ _ _ (by rw [H1.out.len]; exact hd1), scaleL_getD _ _ _ (by rw [HLK.out]; exact hend), HZZ.out, inv_mulZ hbz HZ1.out]
                  case rest =>
                    clear H1 HZ1 qb1 rq1 fr1 hbz HROW HLK HZZ
                    obtain ⟨L2, us2, hx2, hone⟩ := hcut
                    have H2 := Lib.hid hx2
                    have HONE := Lib.hid hone
                    clear hx2 hone
                    go_wp2
                    go_loopw [94] (fun i W => ∃ (j : Nat) (L3 : List (List Int)) (us3 : List Value), j ≤ n ∧ i = .int .i64 j ∧ Mx w W g n c k A L3 ps cl us3 ∧ (L3.getD d []).getD cl 0 = 1 ∧ ∀ s, s < j → s ≠ d → (L3.getD s []).getD cl 0 = 0) (fun i _ => n - (intOf i).toNat)
                    case atStart => exact ⟨0, L2, us2, by omega, rfl, H2.out, HONE.out, by omega⟩
                    case round =>
                      clear H2 HONE
                      obtain ⟨j, L3, us3, hj, rfl, hx3, hone, hzs⟩ := hrel
                      have H3 := Lib.hid hx3
                      have HONE := Lib.hid hone
                      have HZS := Lib.hid hzs
                      clear hx3 hone hzs
                      by_cases hlt : j < n
                      · by_cases hjd : j = d
                        · obtain rfl : d = j := hjd.symm
                          clear hjd
                          go_wp2
                          refine ⟨⟨d + 1, L3, us3, by omega, by go_num, H3.out, HONE.out, fun s s1 s2 => HZS.out s (by omega) s2⟩, by simp [intOf]; omega⟩
                        · have hjd' : ((j : Int) != d) = true := by simp; omega
                          obtain ⟨oj, cj, ej, qj, rj⟩ := H3.out.cell j hlt
                          obtain ⟨bj, rfl, rqj⟩ := rj cl hend
                          have hbz := H3.out.wide.byt j cl
                          generalize hzz : (L3.getD j []).getD cl 0 = z at *
                          have HZZ := Lib.hid hzz
                          have HEJ := Lib.hid ej
                          have HJD := Lib.hid hjd
                          clear rj hzz ej hjd
                          by_cases hz0 : z = 0
                          · subst hz0
                            go_wp2
                            refine ⟨⟨j + 1, L3, us3, by omega, by go_num, H3.out, HONE.out, fun s s1 s2 => ?_⟩, by simp [intOf]; omega⟩
                            by_cases e : s = j
                            · rw [e, HZZ.out]
                            · exact HZS.out s (by omega) s2
                          · have hzb : (z != 0) = true := by simpa using hz0
                            obtain ⟨od, cd, ed, qd, _⟩ := H3.out.cell d hd1
                            have fj := H3.out.frozen j
                            have hrj := (H3.out.row j hlt).1
                            have hrd := (H3.out.row d hd1).1
                            rw [HEJ.out] at hrj
                            rw [ed] at hrd
                            have RJ := Lib.hid hrj
                            have RD := Lib.hid hrd
                            have WJ : Hid ((L3.getD j []).length = k) := Lib.hid (H3.out.wide.at j (by rw [H3.out.len]; exact hlt)).1
                            have WD : Hid ((L3.getD d []).length = k) := Lib.hid (H3.out.wide.at d (by rw [H3.out.len]; exact hd1)).1
                            clear hrj hrd ed hz0
                            go_wp2
                            go_region_law (first
                              | ((try go_simp); go_at_call 56; refine (refAxpy_new z _ _ (L3.getD d []) (L3.getD j []) _ hbz (Bs.grown RD.out (Gr.drew (Gr.refl _))) (Bs.grown RJ.out (Gr.drew (Gr.refl _))) (by rw [WJ.out, WD.out]) (by rw [WD.out]; omega)).mono ?_; rintro e w2 ⟨v2, rfl, hnw⟩; obtain ⟨o2, m2, c2', rfl⟩ := New.form3 hnw; have hc2 := cell_grown hnw.1 qj; have hf2 := frozen_grown hnw.1 qj fj; have HNW := Lib.hid hnw; clear hnw))
                            all_goals
                              go_wp2_with fail
                              refine ⟨⟨j + 1, _, _, by omega, by go_num, (H3.out.grow (Gr.trans (Gr.drew (Gr.refl _)) HNW.out.1)).added j d (by rw [HD.out]; exact Nat.le_refl _) hd1 hlt HJD.out hbz (New.bs HNW.out) (New.rb HNW.out _), ?_, fun s s1 s2 => ?_⟩, by simp [intOf]; omega⟩
                              · rw [getD_set_ne _ _ _ _ HJD.out, HONE.out]
                              · by_cases e : s = j
                                · rw [e, getD_set_self _ _ _ (by rw [H3.out.len]; exact hlt), axL_getD _ _ _ _ (by rw [WD.out]; exact hend), HONE.out, HZZ.out, mulZ_one z hbz, addZ_self]
                                · rw [getD_set_ne _ _ _ _ (fun c => e c.symm)]
                                  exact HZS.out s (by omega) s2
                      · obtain rfl : n = j := by omega
                        go_wp2
                        refine ⟨⟨cl + 1, L3, ps ++ [cl], us3, by omega, by go_num, by rw [List.length_append, HD.out]; rfl, H3.out.to (H3.out.ech.next ?_ ?_ fun s hs => ?_)⟩, by simp [intOf]; omega⟩
                        · rw [List.length_map, H3.out.len, HD.out]; exact hd1
                        · rw [at_vec, HD.out, HONE.out, fb_one]
                        · rw [at_vec]
                          by_cases e : s < n
                          · rw [HZS.out s e (by rw [← HD.out]; exact hs), fb_zero]
                          · have hnil : L3.getD s [] = [] := by
                              rw [List.getD_eq_getElem?_getD, List.getElem?_eq_none (by rw [H3.out.len]; omega)]
                              rfl
                            rw [hnil]
                            rfl
          · obtain rfl : k = cl := by omega
            go_wp2
            go_ret
            obtain ⟨r1, r2, r3⟩ := HX.out.out
            rw [HD.out] at r1 r3
            exact ⟨_, _, rfl, r1, r2, r3⟩
end Go.Proofs.YtbabecjphmmngaaGreat
namespace Go.Proofs.YtbabecjphmmngaaGreat
open Go.RowKit

set_option maxHeartbeats 400000 in
theorem refRank_any (va : Value) (A : List (List Int)) (w : World) (h : Bss w va A) (hl : A.length ≤ 1000) (hmay : mayL A = true) :
    Calls Tryz.prog 53 #[va] w fun e w' => e = .returned (.int .i64 (rkL A)) ∧ Gr w w' := by
  have HS := Lib.hid h
  have HM := Lib.hid hmay
  clear h hmay
  go_enter Tryz.func53, Tryz.ntmps53
  go_wp2_with fail
  refine (refReduce_any va A w HS.out hl HS.out.byt HM.out).mono ?_
  rintro e w1 ⟨v, R, rfl, hv, hg, hred⟩
  have hrk : rkL A = R.length := hred.rank
  obtain ⟨o, c, rfl, h1, h2, _, _⟩ := hv.bss
  have HG := Lib.hid hg
  have HRK := Lib.hid hrk
  clear hred hrk hg hv
  generalize R.length = s at *
  go_wp2_with fail
  go_ret
  exact ⟨by rw [HRK.out]; rfl, HG.out⟩
end Go.Proofs.YtbabecjphmmngaaGreat
namespace Go.Proofs.YtbabecjphmmngaaGreat
open Go.RowKit

set_option maxRecDepth 100000 in
set_option maxHeartbeats 1600000 in
theorem refMatrix_in (K H : Nat) (S : Int) (seed : Nat) (v : Value) (l : List Int) (w : World) (hm : MayP K H S) (hs : seed < 4294967296) (hz : Zs w v l) (hl : l.length ≤ 900) :
    Calls Tryz.prog 92 #[par K H S, .int .u32 (seed : Int), v] w fun e w' => ∃ u, e = .returned u ∧ Bss w' u (matP K H S seed l) ∧ Gr w w' := by
  have hd := decide_eq_true hm
  have HM := Lib.hid hm
  have HAH := Lib.hid fun W : World => refAhead_in K H S W hm
  obtain ⟨n, hn⟩ : ∃ n, l.length = n := ⟨_, rfl⟩
  obtain ⟨hzi, oa, ca, rfl, z2, z3, z4, z5⟩ := hz
  rw [hn] at z2 z5 hl ⊢
  have HI := Lib.hid hzi
  have HC := Lib.hid z5
  have HN := Lib.hid hn
  have hoa : n = 0 ∨ ∃ a, oa = some a := by
    cases oa with
    | none => exact .inl (by have := z4 rfl; omega)
    | some a => exact .inr ⟨a, rfl⟩
  have P0 : Hid (Par (w.alloc (.cells #[.int .i64 (K : Int), .int .i64 (H : Int), .int .i64 S] 23)) w.heap.size K H S) := Lib.hid (heap_alloc_new _ _)
  have HG0 : Hid (Gr w (w.alloc (.cells #[.int .i64 (K : Int), .int .i64 (H : Int), .int .i64 S] 23))) := Lib.hid (Gr.alloc (Gr.refl _) _ _)
  clear hzi z5 hn z4 z2 z3 hm
  go_enter Tryz.func92, Tryz.ntmps92
  go_wp2_with fail
  generalize w.alloc (.cells #[.int .i64 (K : Int), .int .i64 (H : Int), .int .i64 S] 23) = W0 at *
  generalize hgp : w.heap.size = gp at *
  refine (refMay_any K H S _).mono ?_
  rw [hd]
  rintro e w1 ⟨rfl, hg1⟩
  have P1 := Lib.hid (P0.out.grown hg1)
  have HG1 := Lib.hid (Gr.trans HG0.out hg1)
  clear hg1 P0 HG0
  have c0 := P1.out.cell0
  have c1 := P1.out.cell1
  have c2 := P1.out.cell2
  go_wp2_with fail
  refine (HAH.out _).mono ?_
  rintro e w2 ⟨v2, rfl, hr2, hg2⟩
  have P2 := Lib.hid (P1.out.grown hg2)
  have HG2 := Lib.hid (Gr.trans HG1.out hg2)
  have R2 : Hid (Rws w1.heap.size w2 v2 (matP K H S seed (l.take 0))) := Lib.hid (by
    rw [List.take_zero, matP_in HM.out]
    simpa using hr2)
  have HB : Hid (w.heap.size ≤ w1.heap.size) := Lib.hid HG1.out.size
  have HB2 : Hid (w1.heap.size ≤ w2.heap.size) := Lib.hid hg2.size
  generalize w1.heap.size = b1 at *
  obtain ⟨o2, m2, c2', rfl⟩ := R2.out.form4
  clear hr2 hg2 P1 HG1 c0 c1 c2
  go_wp2_with fail
  go_loopw [7, 17] (fun ov iv W => ∃ i : Nat, i ≤ n ∧ iv = .int .i64 i ∧ Rws b1 W ov (matP K H S seed (l.take i)) ∧ Par W gp K H S ∧ Gr w W ∧ b1 ≤ W.heap.size) (fun _ iv _ => n - (intOf iv).toNat)
  case atStart => exact ⟨0, by omega, rfl, R2.out, P2.out, HG2.out, HB2.out⟩
  case round =>
    clear R2 P2 HG2
    obtain ⟨wo, hwo⟩ : ∃ x, x = wr := ⟨_, rfl⟩
    subst hwo
    obtain ⟨i, hin, rfl, hr, hp, hg, hb1⟩ := hrel
    obtain ⟨oo, mo, co, rfl⟩ := hr.form4
    have c0 := hp.cell0
    have c1 := hp.cell1
    have c2 := hp.cell2
    have HR := Lib.hid hr
    have HP := Lib.hid hp
    have HG := Lib.hid hg
    have HB1 := Lib.hid hb1
    clear hr hp hg hb1
    by_cases hlt : i < n
    · obtain ⟨a, rfl⟩ : ∃ a, oa = some a := by
        rcases hoa with c1 | c1
        · omega
        · exact c1
      have q1 := cell_grown HG.out (HC.out a rfl i hlt)
      obtain ⟨x, hx⟩ : ∃ x, l.getD i 0 = x := ⟨_, rfl⟩
      rw [hx] at q1
      have hxi : I64 x := by rw [← hx]; exact HI.out _ (by rw [List.getD_eq_getElem?_getD, List.getElem?_eq_getElem (by rw [HN.out]; exact hlt)]; exact List.getElem_mem _)
      have HXI := Lib.hid hxi
      have HML := Lib.hid (matP_length K H S seed (l.take i))
      have HLL : Hid ((l.take i).length = i) := Lib.hid (by rw [List.length_take, HN.out]; omega)
      have HS : Hid (matP K H S seed (l.take (i + 1)) = matP K H S seed (l.take i) ++ if MayP K H S ∧ MayI x then [rowP K H S seed x] else []) := Lib.hid (by
        rw [List.take_add_one, List.getElem?_eq_getElem (by rw [HN.out]; exact hlt), ← hx, List.getD_eq_getElem?_getD, List.getElem?_eq_getElem (by rw [HN.out]; exact hlt)]
        exact matP_snoc K H S seed (l.take i) _)
      clear hx
      go_wp2_with fail
      refine (refMayID_any x _).mono ?_
      rintro e w' ⟨rfl, rfl⟩
      by_cases hi : MayI x
      · have hdi := decide_eq_true hi
        have HII := Lib.hid hi
        rw [hdi]
        clear hi hdi
        go_wp2_with fail
        refine (refRow_new K H S seed x _ hs).mono ?_
        rintro e w3 ⟨v3, rfl, hn3⟩
        obtain ⟨o3, m3, c3, rfl⟩ := New.form3 hn3
        have NW := Lib.hid hn3
        have HR3 := Lib.hid (HR.out.grown hn3.1)
        have HP3 := Lib.hid (HP.out.grown hn3.1)
        have HG3 := Lib.hid (Gr.trans HG.out hn3.1)
        have HB3 : Hid (b1 ≤ w3.heap.size) := Lib.hid (Nat.le_trans HB1.out hn3.1.size)
        clear hn3 HR HP HG HB1 c0 c1 c2
        go_wp2_with (at_builtin; refine wpList_append_row rfl _ _ rfl b1 (.slice oo mo co) (matP K H S seed (l.take i)) rfl (HR3.out.grown (Gr.alloc (Gr.refl _) _ _)) w3.heap.size (.slice o3 m3 c3) (rowP K H S seed x) rfl (by rw [cell_of_row _ _ 0 _ _ _ (heap_alloc_new w3 _)]; rfl) (Bs.grown (New.bs NW.out) (Gr.alloc (Gr.refl _) _ _)) (Rb.gr (New.bs NW.out) (New.rb NW.out b1) (Gr.alloc (Gr.refl _) _ _)).2 (by have := HML.out; rw [HLL.out] at this; omega) (by have := HB3.out; simp; omega) ?_; intro v5 w5 hr5 hg5 hk5; have R5 := Lib.hid hr5; have G5 := Lib.hid hg5; have K5 := Lib.hid hk5; clear hr5 hg5 hk5)
        have hg3 : Gr w (w3.alloc (.cells #[.slice o3 m3 c3] 25)) := Gr.alloc HG3.out _ _
        exact ⟨⟨i + 1, by omega, by go_num, by rw [HS.out, if_pos ⟨HM.out, HII.out⟩]; exact R5.out, K5.out.2 _ _ _ _ (HP3.out.grown (Gr.alloc (Gr.refl _) _ _)) (by decide), G5.out w hg3 HB.out, Nat.le_trans HB3.out (Nat.le_trans (by simp) K5.out.1)⟩, by simp [intOf]; omega⟩
      · have hdi := decide_eq_false hi
        have HII := Lib.hid hi
        rw [hdi]
        clear hi hdi
        go_wp2_with fail
        exact ⟨⟨i + 1, by omega, by go_num, by rw [HS.out, if_neg (fun h => HII.out h.2), List.append_nil]; exact HR.out, HP.out, HG.out, HB1.out⟩, by simp [intOf]; omega⟩
    · obtain rfl : i = n := by omega
      go_wp2_with fail
      go_ret
      refine ⟨_, rfl, ?_, HG.out⟩
      have := HR.out.bss
      rwa [List.take_of_length_le (by rw [HN.out]; exact Nat.le_refl _)] at this
set_option maxRecDepth 100000 in
set_option maxHeartbeats 400000 in
theorem refMatrix_ne (K H S : Int) (seed : Nat) (v : Value) (l : List Int) (w : World) (hm : ¬ MayP K H S) (hz : Zs w v l) :
    Calls Tryz.prog 92 #[par K H S, .int .u32 (seed : Int), v] w fun e w' => e = .returned (.slice none 0 0) ∧ Gr w w' := by
  have hd := decide_eq_false hm
  obtain ⟨o, c, rfl⟩ := hz.form
  have HG0 : Hid (Gr w (w.alloc (.cells #[.int .i64 K, .int .i64 H, .int .i64 S] 23))) := Lib.hid (Gr.alloc (Gr.refl _) _ _)
  clear hm hz
  go_enter Tryz.func92, Tryz.ntmps92
  go_wp2_with fail
  refine (refMay_any K H S _).mono ?_
  rw [hd]
  rintro e w1 ⟨rfl, hg1⟩
  have HG1 := Lib.hid (Gr.trans HG0.out hg1)
  clear hg1
  go_wp2_with fail
  go_ret
  exact ⟨rfl, HG1.out⟩
theorem refMatrix_any (K H S : Int) (seed : Nat) (v : Value) (l : List Int) (w : World) (hs : seed < 4294967296) (hz : Zs w v l) (hl : l.length ≤ 900) :
    Calls Tryz.prog 92 #[par K H S, .int .u32 (seed : Int), v] w fun e w' => ∃ u, e = .returned u ∧ Bss w' u (matP K H S seed l) ∧ Gr w w' := by
  by_cases hm : MayP K H S
  · obtain ⟨k, rfl⟩ : ∃ k : Nat, K = k := ⟨K.toNat, by have := hm.1; omega⟩
    obtain ⟨h, rfl⟩ : ∃ h : Nat, H = h := ⟨H.toNat, by have := hm.2.2.1; omega⟩
    exact refMatrix_in k h S seed v l w hm hs hz hl
  · rw [matP_ne hm]
    refine (refMatrix_ne K H S seed v l w hm hz).mono ?_
    rintro e w' ⟨rfl, hg⟩
    exact ⟨_, rfl, Bss.nil _, hg⟩
set_option maxRecDepth 100000 in
set_option maxHeartbeats 400000 in
theorem refRankOf_any (K H S : Int) (seed : Nat) (v : Value) (l : List Int) (w : World) (hs : seed < 4294967296) (hz : Zs w v l) (hl : l.length ≤ 900) :
    Calls Tryz.prog 74 #[par K H S, .int .u32 (seed : Int), v] w fun e w' => e = .returned (.int .i64 (rkL (matP K H S seed l))) ∧ Gr w w' := by
  have HG0 : Hid (Gr w (w.alloc (.cells #[.int .i64 K, .int .i64 H, .int .i64 S] 23))) := Lib.hid (Gr.alloc (Gr.refl _) _ _)
  have HZ := Lib.hid hz
  obtain ⟨o, c, rfl⟩ := hz.form
  have HL := Lib.hid hl
  have HLE := Lib.hid (matP_length K H S seed l)
  clear hz hl
  generalize hn : l.length = n at *
  go_enter Tryz.func74, Tryz.ntmps74
  go_wp2_with fail
  refine (refMatrix_any K H S seed _ l _ hs (HZ.out.grown HG0.out) (by have := HL.out; omega)).mono ?_
  rintro e w1 ⟨u, rfl, hb, hg⟩
  obtain ⟨ou, mu, cu, rfl⟩ := hb.form3
  have HB := Lib.hid hb
  have HG1 := Lib.hid (Gr.trans HG0.out hg)
  clear hb hg
  go_wp2_with fail
  refine (refRank_any _ (matP K H S seed l) _ HB.out (by have := HLE.out; have := HL.out; omega) (matP_may K H S seed l)).mono ?_
  rintro e w2 ⟨rfl, hg⟩
  have HG2 := Lib.hid (Gr.trans HG1.out hg)
  clear hg
  go_wp2_with fail
  go_ret
  exact ⟨rfl, HG2.out⟩
end Go.Proofs.YtbabecjphmmngaaGreat
namespace Go.Proofs.YtbabecjphmmngaaGreat
open Go.RowKit

end Go.Proofs.YtbabecjphmmngaaGreat
namespace Go.Proofs.YtbabecjphmmngaaGreat

/-- An operation whose guard says no is passed. -/
theorem wpAnyH_skip {P : Program} {md : Region.Mode} {ops : Array Oper} {Q : Exit → Act → World → Prop} {S : World → Prop} {i d : Nat} {oi : Oper} {fuel : Nat} {listed : Array Bool} {a : Act} {w : World} (hi : ops[i]? = some oi) (hd : oi.dst = some d)
    (hs : Region.noSelect ops = true) (hf : Region.free md ops listed i = true) (hr : (Region.ready md ops listed).contains i = true)
    (hQ : ∀ c a w, Q (.panic c) (a.put oi.dst undef) w → Q (.panic c) a w) (hw : Region.wanted oi (yielded ops a.tmps) = false) (hS : S w)
    (h : wpAnyH P md ops Q S fuel (listed.setIfInBounds i true) { a with tmps := a.tmps.setIfInBounds d undef } w) : wpAnyH P md ops Q S (fuel + 1) listed a w :=
  wpAnyH_take hi hs hf hr hQ (.inr ⟨hw, rfl⟩) hS (by rw [hd]; exact h)
/-- An operation that yields v is taken. -/
theorem wpAnyH_yield {P : Program} {md : Region.Mode} {ops : Array Oper} {Q : Exit → Act → World → Prop} {S : World → Prop} {i d : Nat} {oi : Oper} {v : Value} {fuel : Nat} {listed : Array Bool} {a : Act} {w : World} (hi : ops[i]? = some oi) (hd : oi.dst = some d)
    (hs : Region.noSelect ops = true) (hf : Region.free md ops listed i = true) (hr : (Region.ready md ops listed).contains i = true)
    (hQ : ∀ c a w, Q (.panic c) (a.put oi.dst v) w → Q (.panic c) a w) (hy : YieldsIf P ops S oi v a) (hS : S w)
    (h : wpAnyH P md ops Q S fuel (listed.setIfInBounds i true) { a with tmps := a.tmps.setIfInBounds d v } w) : wpAnyH P md ops Q S (fuel + 1) listed a w :=
  wpAnyH_take hi hs hf hr hQ hy hS (by rw [hd]; exact h)
end Go.Proofs.YtbabecjphmmngaaGreat
namespace Go.Proofs.YtbabecjphmmngaaGreat
open Go.RowKit

set_option maxRecDepth 100000 in
set_option maxHeartbeats 800000 in
theorem refFull_any (K H S : Int) (seed : Nat) (v : Value) (l : List Int) (w : World) (hs : seed < 4294967296) (hz : Zs w v l) (hl : l.length ≤ 900) :
    Calls Tryz.prog 49 #[par K H S, .int .u32 (seed : Int), v] w fun e w' => e = .returned (.bool (decide (FullP K H S seed l))) ∧ Gr w w' := by
  have HG0 : Hid (Gr w (w.alloc (.cells #[.int .i64 K, .int .i64 H, .int .i64 S] 23))) := Lib.hid (Gr.alloc (Gr.refl _) _ _)
  have P0 : Hid (Par (w.alloc (.cells #[.int .i64 K, .int .i64 H, .int .i64 S] 23)) w.heap.size K H S) := Lib.hid (heap_alloc_new _ _)
  have HZ := Lib.hid hz
  obtain ⟨o, m, c, rfl⟩ : ∃ o m c, v = .slice o m c := by
    obtain ⟨o, c, h⟩ := hz.form
    exact ⟨o, _, c, h⟩
  have HL := Lib.hid hl
  obtain ⟨r, hr⟩ : ∃ r, rkL (matP K H S seed l) = r := ⟨_, rfl⟩
  obtain ⟨q, hq⟩ : ∃ q, colsP K H S = q := ⟨_, rfl⟩
  have HF : Hid (decide (FullP K H S seed l) = (decide (MayP K H S) && ((r : Int) == q))) := Lib.hid (by
    have h : FullP K H S seed l ↔ (MayP K H S ∧ (r : Int) = q) := by unfold FullP; rw [hr, hq]
    exact (decide_eq_decide.2 h).trans (by rw [Bool.decide_and]; rfl))
  have HR := Lib.hid hr
  have HQ := Lib.hid hq
  clear hz hl hr hq
  by_cases hm : MayP K H S
  · have hd := decide_eq_true hm
    have HD := Lib.hid hd
    clear hm
    go_enter Tryz.func49, Tryz.ntmps49
    go_wp2_with fail
    generalize w.alloc (.cells #[.int .i64 K, .int .i64 H, .int .i64 S] 23) = W0 at *
    generalize w.heap.size = gp at *
    have c0 := P0.out.cell0
    have c1 := P0.out.cell1
    have c2 := P0.out.cell2
    go_region_held3 (fun W => W.cell? ⟨gp, 0, none⟩ = some (.int .i64 K) ∧ W.cell? ⟨gp, 1, none⟩ = some (.int .i64 H) ∧ W.cell? ⟨gp, 2, none⟩ = some (.int .i64 S)) (first | exact ⟨k30, k31, k32⟩ | exact ⟨k20, k21, k22⟩ | exact ⟨k10, k11, k12⟩ | go_keep)
      (first
        | (go_at_call 51; refine (refCols_any K H S _).mono ?_; rw [HQ.out]; rintro e v3 ⟨rfl, hg3⟩; have k30 := cell_grown hg3 (by exact k20); have k31 := cell_grown hg3 (by exact k21); have k32 := cell_grown hg3 (by exact k22); have V3 : Hid (Gr v2 v3) := Lib.hid hg3)
        | (go_at_call 74; refine (refRankOf_any K H S seed _ l _ hs (HZ.out.grown (Gr.trans HG0.out V1.out)) HL.out).mono ?_; rw [HR.out]; rintro e v2 ⟨rfl, hg2⟩; have k20 := cell_grown hg2 (by exact k10); have k21 := cell_grown hg2 (by exact k11); have k22 := cell_grown hg2 (by exact k12); have V2 : Hid (Gr v1 v2) := Lib.hid hg2)
        | (go_at_call 25; refine (refMay_any K H S _).mono ?_; rw [hd]; rintro e v1 ⟨rfl, hg1⟩; have k10 := cell_grown hg1 (by exact c0); have k11 := cell_grown hg1 (by exact c1); have k12 := cell_grown hg1 (by exact c2); have V1 : Hid (Gr W0 v1) := Lib.hid (by exact hg1)))
    have HGZ := Lib.hid (Gr.trans HG0.out (Gr.trans V1.out (Gr.trans V2.out V3.out)))
    go_wp2_with fail
    go_ret
    refine ⟨?_, HGZ.out⟩
    rw [HF.out, HD.out, Bool.true_and]
    rfl
  · have hd := decide_eq_false hm
    have HD := Lib.hid hd
    clear hm
    go_enter Tryz.func49, Tryz.ntmps49
    go_wp2_with fail
    generalize w.alloc (.cells #[.int .i64 K, .int .i64 H, .int .i64 S] 23) = W0 at *
    generalize w.heap.size = gp at *
    have c0 := P0.out.cell0
    have c1 := P0.out.cell1
    have c2 := P0.out.cell2
    refine wp_region_held_drew (S := fun W => W.cell? ⟨gp, 0, none⟩ = some (.int .i64 K) ∧ W.cell? ⟨gp, 1, none⟩ = some (.int .i64 H) ∧ W.cell? ⟨gp, 2, none⟩ = some (.int .i64 S)) (by kernel_rfl) (by exact ⟨c0, c1, c2⟩) (fun hHeld => ?_)
    refine wpAnyH_yield (i := 0) (v := par K H S) rfl rfl (by kernel_rfl) (by kernel_rfl) (by kernel_rfl) (fun _ _ _ h => h) (Or.inl ⟨by rfl, fun W hW => by obtain ⟨h0, h1, h2⟩ := hW; go_simp⟩) (by assumption) ?_
    simp only [List.setIfInBounds_toArray, List.set_cons_zero, List.set_cons_succ]
    refine wpAnyH_ready (rs := [1]) (by kernel_rfl) (by simp) ?_
    refine AllReadyH.cons rfl (fun K' hK => ?_) AllReadyH.nil
    go_simp
    go_at_call 25
    refine (refMay_any K H S _).mono ?_
    rw [hd]
    rintro e v1 ⟨rfl, hg1⟩
    go_wp2_with fail
    refine hK.out _ _ ⟨cell_grown hg1 c0, cell_grown hg1 c1, cell_grown hg1 c2⟩ (fun hHeld => ?_)
    clear hK
    refine wpAnyH_yield (i := 2) (v := .bool false) rfl rfl (by kernel_rfl) (by kernel_rfl) (by kernel_rfl) (fun _ _ _ h => h) (Or.inl ⟨by rfl, fun W hW => by first | (go_simp; done) | (go_simp; with_reducible rfl)⟩) (by assumption) ?_
    simp only [List.setIfInBounds_toArray, List.set_cons_zero, List.set_cons_succ]
    refine wpAnyH_skip (i := 3) rfl rfl (by kernel_rfl) (by kernel_rfl) (by kernel_rfl) (fun _ _ _ h => h) (by rfl) (by assumption) ?_
    simp only [List.setIfInBounds_toArray, List.set_cons_zero, List.set_cons_succ]
    refine wpAnyH_skip (i := 4) rfl rfl (by kernel_rfl) (by kernel_rfl) (by kernel_rfl) (fun _ _ _ h => h) (by rfl) (by assumption) ?_
    simp only [List.setIfInBounds_toArray, List.set_cons_zero, List.set_cons_succ]
    refine wpAnyH_skip (i := 5) rfl rfl (by kernel_rfl) (by kernel_rfl) (by kernel_rfl) (fun _ _ _ h => h) (by rfl) (by assumption) ?_
    simp only [List.setIfInBounds_toArray, List.set_cons_zero, List.set_cons_succ]
    refine wpAnyH_skip (i := 6) rfl rfl (by kernel_rfl) (by kernel_rfl) (by kernel_rfl) (fun _ _ _ h => h) (by rfl) (by assumption) ?_
    simp only [List.setIfInBounds_toArray, List.set_cons_zero, List.set_cons_succ]
    refine wpAnyH_skip (i := 7) rfl rfl (by kernel_rfl) (by kernel_rfl) (by kernel_rfl) (fun _ _ _ h => h) (by rfl) (by assumption) ?_
    simp only [List.setIfInBounds_toArray, List.set_cons_zero, List.set_cons_succ]
    refine wpAnyH_skip (i := 8) rfl rfl (by kernel_rfl) (by kernel_rfl) (by kernel_rfl) (fun _ _ _ h => h) (by rfl) (by assumption) ?_
    simp only [List.setIfInBounds_toArray, List.set_cons_zero, List.set_cons_succ]
    refine wpAnyH_skip (i := 9) rfl rfl (by kernel_rfl) (by kernel_rfl) (by kernel_rfl) (fun _ _ _ h => h) (by rfl) (by assumption) ?_
    simp only [List.setIfInBounds_toArray, List.set_cons_zero, List.set_cons_succ]
    refine wpAnyH_yield (i := 10) (v := .bool false) rfl rfl (by kernel_rfl) (by kernel_rfl) (by kernel_rfl) (fun _ _ _ h => h) (Or.inl ⟨by rfl, fun W hW => by first | (go_simp; done) | (go_simp; with_reducible rfl)⟩) (by assumption) ?_
    simp only [List.setIfInBounds_toArray, List.set_cons_zero, List.set_cons_succ]
    refine wpAnyH_yield (i := 11) (v := .bool false) rfl rfl (by kernel_rfl) (by kernel_rfl) (by kernel_rfl) (fun _ _ _ h => h) (Or.inl ⟨by rfl, fun W hW => by first | (go_simp; done) | (go_simp; with_reducible rfl)⟩) (by assumption) ?_
    simp only [List.setIfInBounds_toArray, List.set_cons_zero, List.set_cons_succ]
    refine wpAnyH_done (by kernel_rfl) ?_ _
    have HGZ : Hid (Gr W0 v1) := Lib.hid (by exact hg1)
    clear hg1 hHeld
    go_wp2_with fail
    go_ret
    refine ⟨?_, Gr.trans HG0.out HGZ.out⟩
    rw [HF.out, HD.out, Bool.false_and]
    rfl
set_option maxRecDepth 100000 in
set_option maxHeartbeats 800000 in
theorem refRight_in (K H : Nat) (S : Int) (seed : Nat) (w : World) (hm : MayP K H S) (hs : seed < 4294967296) :
    Calls Tryz.prog 26 #[par K H S, .int .u32 (seed : Int)] w fun e w' => e = .returned (.bool (decide (RightP K H S seed))) ∧ Gr w w' := by
  have hd := decide_eq_true hm
  have hK : K ≤ 16 := by have := hm.2.1; omega
  have HRP : Hid (decide (RightP K H S seed) = decide (FullP K H S seed (firstI K))) := Lib.hid (by
    refine decide_eq_decide.2 ?_
    unfold RightP
    rw [Int.toNat_natCast])
  have P0 : Hid (Par (w.alloc (.cells #[.int .i64 (K : Int), .int .i64 (H : Int), .int .i64 S] 23)) w.heap.size K H S) := Lib.hid (heap_alloc_new _ _)
  have HG0 : Hid (Gr w (w.alloc (.cells #[.int .i64 (K : Int), .int .i64 (H : Int), .int .i64 S] 23))) := Lib.hid (Gr.alloc (Gr.refl _) _ _)
  clear hm
  go_enter Tryz.func26, Tryz.ntmps26
  go_wp2_with fail
  have HB0 : Hid (w.heap.size ≤ (w.alloc (.cells #[.int .i64 (K : Int), .int .i64 (H : Int), .int .i64 S] 23)).heap.size) := Lib.hid HG0.out.size
  generalize w.alloc (.cells #[.int .i64 (K : Int), .int .i64 (H : Int), .int .i64 S] 23) = W0 at *
  generalize hgp : w.heap.size = gp at *
  go_loopw [5, 6] (fun lv iv W => ∃ i : Nat, i ≤ K ∧ iv = .int .i64 i ∧ W.ownsRow W0.heap.size 3 1 lv i ((firstI i).map (Value.int .i64)) ∧ Gr W0 W) (fun _ iv _ => K - (intOf iv).toNat)
  case atStart => exact ⟨0, by omega, rfl, World.ownsRow_nil _ _ _ _, Gr.refl _⟩
  case round =>
    obtain ⟨wo, hwo⟩ : ∃ x, x = wr := ⟨_, rfl⟩
    subst hwo
    obtain ⟨i, hi, rfl, ho, hg⟩ := hrel
    obtain ⟨oo, co, rfl⟩ := ownsRow_form'' ho
    have HO := Lib.hid ho
    have HG := Lib.hid hg
    have HP := Lib.hid (P0.out.grown hg)
    have c0 := HP.out.cell0
    have c1 := HP.out.cell1
    have c2 := HP.out.cell2
    clear ho hg
    by_cases hlt : i < K
    · go_wp2_with fail
      refine (refMay_any K H S _).mono ?_
      rw [hd]
      rintro e w1 ⟨rfl, hg1⟩
      have HG1 := Lib.hid hg1
      clear hg1
      go_wp2_with (at_builtin; refine wpList_append_zs rfl _ _ rfl W0.heap.size (.slice oo i co) i (firstI i) rfl ((HO.out.of_gr HG1.out).of_gr (Gr.alloc (Gr.refl _) _ _)) _ 1 1 [(i : Int)] rfl (one_zs _ ⟨by omega, by omega⟩) (by omega) (by have := HG.out.size; have := HG1.out.size; simp; omega) ?_; intro v2 w2 hown hgrow; have O2 := Lib.hid hown; have G2 := Lib.hid hgrow; clear hown hgrow)
      exact ⟨⟨i + 1, by omega, by go_num, by rw [firstI_succ]; exact O2.out, gr_by_own (Gr.alloc (Gr.trans HG.out HG1.out) _ _) G2.out ((HO.out.of_gr HG1.out).of_gr (Gr.alloc (Gr.refl _) _ _)) (Nat.le_refl _)⟩, by simp [intOf]; omega⟩
    · obtain rfl : i = K := by omega
      go_wp2_with fail
      have Z := owns_zs HO.out (firstI_length i) (firstI_i64 (by omega))
      refine (refFull_any i H S seed _ (firstI i) _ hs Z (by rw [firstI_length]; omega)).mono ?_
      rw [← HRP.out]
      rintro e w2 ⟨rfl, hg2⟩
      have HG2 := Lib.hid (Gr.trans HG0.out (Gr.trans HG.out hg2))
      clear hg2
      go_wp2_with fail
      go_ret
      exact ⟨rfl, HG2.out⟩
set_option maxRecDepth 100000 in
set_option maxHeartbeats 800000 in
theorem refRight_ne (K H S : Int) (seed : Nat) (w : World) (hm : ¬ MayP K H S) (hs : seed < 4294967296) :
    Calls Tryz.prog 26 #[par K H S, .int .u32 (seed : Int)] w fun e w' => e = .returned (.bool (decide (RightP K H S seed))) ∧ Gr w w' := by
  have hd := decide_eq_false hm
  have hf : decide (FullP K H S seed []) = false := decide_eq_false fun h => hm h.1
  have hr : decide (RightP K H S seed) = false := decide_eq_false fun h => hm h.1
  rw [hr]
  have P0 : Hid (Par (w.alloc (.cells #[.int .i64 K, .int .i64 H, .int .i64 S] 23)) w.heap.size K H S) := Lib.hid (heap_alloc_new _ _)
  have HG0 : Hid (Gr w (w.alloc (.cells #[.int .i64 K, .int .i64 H, .int .i64 S] 23))) := Lib.hid (Gr.alloc (Gr.refl _) _ _)
  clear hm hr
  have HF := Lib.hid hf
  clear hf
  go_enter Tryz.func26, Tryz.ntmps26
  go_wp2_with fail
  generalize w.alloc (.cells #[.int .i64 K, .int .i64 H, .int .i64 S] 23) = W0 at *
  generalize hgp : w.heap.size = gp at *
  go_loopw [5, 6] (fun lv iv W => iv = .int .i64 0 ∧ lv = .slice none 0 0 ∧ W = W0) (fun _ iv _ => 0)
  case atStart => exact ⟨rfl, rfl, rfl⟩
  case round =>
    obtain ⟨rfl, rfl, rfl⟩ := hrel
    have c0 := P0.out.cell0
    have c1 := P0.out.cell1
    have c2 := P0.out.cell2
    by_cases h0 : 0 < K
    · go_wp2_with fail
      refine (refMay_any K H S _).mono ?_
      rw [hd]
      rintro e w1 ⟨rfl, hg1⟩
      have HG1 := Lib.hid (Gr.trans HG0.out hg1)
      have HP1 := Lib.hid (P0.out.grown hg1)
      clear hg1 c0 c1 c2
      have c0 := HP1.out.cell0
      have c1 := HP1.out.cell1
      have c2 := HP1.out.cell2
      go_wp2_with fail
      refine (refFull_any K H S seed _ [] _ hs (Zs.nil _) (by simp)).mono ?_
      rw [HF.out]
      rintro e w2 ⟨rfl, hg2⟩
      have HG2 := Lib.hid (Gr.trans HG1.out hg2)
      clear hg2
      go_wp2_with fail
      go_ret
      exact ⟨rfl, HG2.out⟩
    · go_wp2_with fail
      refine (refFull_any K H S seed _ [] _ hs (Zs.nil _) (by simp)).mono ?_
      rw [HF.out]
      rintro e w2 ⟨rfl, hg2⟩
      have HG2 := Lib.hid (Gr.trans HG0.out hg2)
      clear hg2
      go_wp2_with fail
      go_ret
      exact ⟨rfl, HG2.out⟩
theorem refRight_any (K H S : Int) (seed : Nat) (w : World) (hs : seed < 4294967296) :
    Calls Tryz.prog 26 #[par K H S, .int .u32 (seed : Int)] w fun e w' => e = .returned (.bool (decide (RightP K H S seed))) ∧ Gr w w' := by
  by_cases hm : MayP K H S
  · obtain ⟨k, rfl⟩ : ∃ k : Nat, K = k := ⟨K.toNat, by have := hm.1; omega⟩
    obtain ⟨h, rfl⟩ : ∃ h : Nat, H = h := ⟨H.toNat, by have := hm.2.2.1; omega⟩
    exact refRight_in k h S seed w hm hs
  · exact refRight_ne K H S seed w hm hs
/-- The contracts of package system. -/
structure SystemOk : Prop where
  matrix : ∀ (K H S : Int) (seed : Nat) (v : Value) (l : List Int) (w : World), seed < 4294967296 → Zs w v l → l.length ≤ 900 →
    Calls Tryz.prog 22 #[par K H S, .int .u32 (seed : Int), v] w fun e w' => ∃ u, e = .returned u ∧ Bss w' u (matP K H S seed l) ∧ Gr w w'
  rank : ∀ (K H S : Int) (seed : Nat) (v : Value) (l : List Int) (w : World), seed < 4294967296 → Zs w v l → l.length ≤ 900 →
    Calls Tryz.prog 66 #[par K H S, .int .u32 (seed : Int), v] w fun e w' => e = .returned (.int .i64 (rkL (matP K H S seed l))) ∧ Gr w w'
  full : ∀ (K H S : Int) (seed : Nat) (v : Value) (l : List Int) (w : World), seed < 4294967296 → Zs w v l → l.length ≤ 900 →
    Calls Tryz.prog 36 #[par K H S, .int .u32 (seed : Int), v] w fun e w' => e = .returned (.bool (decide (FullP K H S seed l))) ∧ Gr w w'
  right : ∀ (K H S : Int) (seed : Nat) (w : World), seed < 4294967296 →
    Calls Tryz.prog 20 #[par K H S, .int .u32 (seed : Int)] w fun e w' => e = .returned (.bool (decide (RightP K H S seed))) ∧ Gr w w'
end Go.Proofs.YtbabecjphmmngaaGreat
namespace Go.Proofs.YtbabecjphmmngaaGreat
open Go.RowKit

theorem sysWake_rank : rkL (matP 2 1 1 1 []) = 1 := by
  rw [matP_nil]
  have h := aheadP_in (K := 2) (H := 1) (S := 1) (by unfold MayP; omega)
  rw [show aheadP 2 1 1 = ahead 2 1 from h, ahead_rk]
theorem sysWake_len : (matP 2 1 1 1 []).length = 1 := by
  rw [matP_nil]
  have h := aheadP_in (K := 2) (H := 1) (S := 1) (by unfold MayP; omega)
  rw [show aheadP 2 1 1 = ahead 2 1 from h, ahead_length]
theorem sysWake_full : decide (FullP 2 1 1 1 []) = false := decide_eq_false fun h => by
  have h2 := h.2
  rw [sysWake_rank] at h2
  have : colsP 2 1 1 = 3 := by unfold colsP; rw [if_pos (by unfold MayP; omega)]; rfl
  omega
/-- 0, 1, .., n - 1, without k. -/
def lessI (n k : Nat) : List Int := (firstI n).filter fun i => decide (i ≠ (k : Int))
theorem lessI_succ (n k : Nat) : lessI (n + 1) k = if n = k then lessI n k else lessI n k ++ [(n : Int)] := by
  unfold lessI
  rw [firstI_succ, List.filter_append]
  by_cases e : n = k
  · subst e
    rw [if_pos rfl]
    simp
  · rw [if_neg e]
    have : ¬ ((n : Int) = (k : Int)) := by omega
    simp [this]
theorem lessI_le (n k : Nat) : (lessI n k).length ≤ n := by
  have := List.length_filter_le (fun i => decide (i ≠ (k : Int))) (firstI n)
  rw [firstI_length] at this
  exact this
theorem lessI_lt {n k : Nat} (h : k < n) : (lessI n k).length < n := by
  induction n with
  | zero => omega
  | succ n ih =>
    rw [lessI_succ]
    by_cases e : n = k
    · rw [if_pos e]
      have := lessI_le n k
      omega
    · rw [if_neg e, List.length_append]
      have := ih (by omega)
      simp
      omega
theorem lessI_i64 {n k : Nat} (h : n ≤ 1000) : ∀ x ∈ lessI n k, I64 x := fun x hx => firstI_i64 h x (List.mem_filter.1 hx).1
theorem few_not_full {K H : Nat} {S : Int} (hm : MayP K H S) (seed : Nat) (l : List Int) (h : l.length < K) : ¬ FullP K H S seed l := fun hf => by
  have h2 := hf.2
  have hw := rkL_le_rows (matP_wide hm seed l)
  have hl : (matP K H S seed l).length ≤ H + l.length := by
    rw [matP_in hm, List.length_append, ahead_length, List.length_map]
    have := List.length_filter_le (fun i => decide (MayI i)) l
    omega
  have : colsP K H S = K + H := by unfold colsP; rw [if_pos hm]
  omega
end Go.Proofs.YtbabecjphmmngaaGreat
