/-
  The document's own answer: what rows are reduced to.
-/
import Derived.Test.YtmeojdnalhaooaaMx
import Derived.BigRegion
import Derived.Deep.RegionLaw
import Derived.Laws.AppendOwnNone
import Derived.Deep.DeepCutAuto
namespace Go.Proofs.Ytmeojdnalhaooaa
open Go.RowKit

theorem info5' : (Try.prog.info? 5).map (fun i => (i.zero, i.size, i.bytes)) = some (some (.int .u8 0), 1, 1) := by kernel_rfl
set_option maxRecDepth 100000 in
set_option maxHeartbeats 3200000 in
theorem refReduce_any (va : Value) (A : List (List Int)) (w : World) (h : Bss w va A) (hl : A.length ≤ 1000) (hby : ∀ r ∈ A, ∀ x ∈ r, Byt x) (hmay : mayL A = true) :
    Calls Try.prog 17 #[va] w fun e w' => ∃ v R, e = .returned v ∧ Rws w.heap.size w' v R ∧ Gr w w' ∧ IsRed (A.getD 0 []).length A R := by
  obtain ⟨i0, hi0, hz0, hz1, hz2⟩ := info_parts info22
  have I0 := Lib.hid hi0
  have I1 := Lib.hid hz0
  have I2 := Lib.hid hz1
  have I3 := Lib.hid hz2
  clear hi0 hz0 hz1 hz2
  obtain ⟨i5, hi0, hz0, hz1, hz2⟩ := info_parts info5'
  have J0 := Lib.hid hi0
  have J1 := Lib.hid hz0
  have J2 := Lib.hid hz1
  have J3 := Lib.hid hz2
  clear hi0 hz0 hz1 hz2
  have HW := Lib.hid (Wide.of_may hmay hby)
  have hk64 : A.length = 0 ∨ (A.getD 0 []).length ≤ 64 := by
    by_cases h0 : 0 < A.length
    · exact .inr (mayL_at hmay 0 h0).2
    · exact .inl (by omega)
  have HS := Lib.hid h
  have HM := Lib.hid hmay
  obtain ⟨oa, c0, rfl, h1, h2, h3, h4⟩ := h
  have HA := Lib.hid h4
  generalize hn : A.length = n at *
  generalize hkk : (A.getD 0 []).length = k at *
  have HN := Lib.hid hn
  have HKK := Lib.hid hkk
  have hoa : n = 0 ∨ ∃ a, oa = some a := by
    cases oa with
    | none => exact .inl (by have := h3 rfl; omega)
    | some a => exact .inr ⟨a, rfl⟩
  clear h3 h4 hn hkk hmay hby
  go_enter Try.func17, Try.ntmps17
  go_wp2_with (go_at_call 37; refine (mayMat_any _ A w HS.out (by rw [HN.out]; omega)).mono ?_; rintro e w1 ⟨rfl, hg1⟩; rw [HM.out]; have G1 := Lib.hid hg1; clear hg1)
  go_loopw [3, 15] (fun o i wr => ∃ j : Nat, j ≤ n ∧ i = .int .i64 j ∧ Rws w.heap.size wr o (A.take j) ∧ Gr w wr) (fun _ i _ => n - (intOf i).toNat)
  case atStart => exact ⟨0, by omega, rfl, Rws.nil _ _, G1.out⟩
  case round =>
    obtain ⟨j, hj, rfl, hrs, hg⟩ := hrel
    by_cases hlt : j < n
    · obtain ⟨a, rfl⟩ : ∃ a, oa = some a := by
        rcases hoa with c1 | c1
        · omega
        · exact c1
      obtain ⟨u, q0, hu⟩ := HA.out a rfl j hlt
      have q1 := cell_grown hg q0
      have hlk : (A.take j).length = j := by rw [List.length_take, HN.out]; omega
      obtain ⟨us, ho, hr⟩ := hrs
      obtain ⟨oo, co, rfl⟩ := ownsRow_form ho
      obtain ⟨hwl, hwb⟩ := HW.out.at j (by rw [HN.out]; exact hlt)
      obtain ⟨_, ou, cu, rfl, m1, m2, m3, m4⟩ := Bs.grown hu hg
      rw [hwl] at q1 m1 m4
      rw [hlk] at ho hr ⊢
      have HO := Lib.hid ho
      have HRR := Lib.hid hr
      have HG := Lib.hid hg
      have HLK := Lib.hid hlk
      have hk64' : k ≤ 64 := by omega
      have fin : ∀ (v1 : Value) (w1 : World), New wr w1 v1 (A.getD j []) → ∀ gg cap w2,
          w2.ownsRow w.heap.size 23 1 (.slice (some ⟨gg, 0, none⟩) (j + 1) cap) (j + 1) (us ++ [v1]) → (w1.alloc (.cells #[v1] 23)).grownBy w2 (Value.slice oo j co).ownBlock →
          Rws w.heap.size w2 (.slice (some ⟨gg, 0, none⟩) (j + 1) cap) (A.take (j + 1)) ∧ Gr w w2 := by
        intro v1 w1 hnw gg cap w2 hown1 hgrow
        have hg1w : Gr wr (w1.alloc (.cells #[v1] 23)) := Gr.alloc hnw.1 _ _
        have hgw1 : Gr w1 (w1.alloc (.cells #[v1] 23)) := Gr.alloc (Gr.refl _) _ _
        have hrow : ∀ g, (Value.slice oo j co).ownBlock = some g → w.heap.size ≤ g := fun g hg => (ownsRow_not_bytes HO.out g hg).1
        have hnb := Rb.gr (New.bs hnw) (New.rb hnw w.heap.size) hgw1
        have hap := Rws.append (L := A.take j) (l := A.getD j []) (by rw [HLK.out]; exact (HO.out.of_gr hnw.1).alloc _) (fun i hi => Rb.gr (HRR.out i (by rwa [HLK.out] at hi)).1 (HRR.out i (by rwa [HLK.out] at hi)).2 hg1w)
          hnb.1 hnb.2 (by rw [HLK.out]; exact hown1) hgrow
        have htk : A.take j ++ [A.getD j []] = A.take (j + 1) := by
          rw [List.take_add_one, List.getD_eq_getElem?_getD, List.getElem?_eq_getElem (by rw [HN.out]; exact hlt)]
          rfl
        rw [htk] at hap
        exact ⟨hap, Gr.append (Gr.trans HG.out hg1w) hgrow hrow⟩
      have FIN := Lib.hid fin
      have NW : Hid (∀ (v1 : Value) (w1 : World), w1.ownsRow wr.heap.size 5 1 v1 k ((A.getD j []).map (Value.int .u8)) → Gr wr w1 → New wr w1 v1 (A.getD j [])) := Lib.hid (fun v1 w1 h1 h2 => New.of_row h2 hwb (by rw [hwl]; exact h1))
      have NC : Hid (∀ a, ou = some a → ∀ i u, ((A.getD j []).map (Value.int .u8))[i]? = some u → wr.cell? (a.add i) = some u) := Lib.hid (fun a ha i u hu => by
        have hi : i < (A.getD j []).length := by
          have := (List.getElem?_eq_some_iff.1 hu).1
          rwa [List.length_map] at this
        rw [m4 a ha i (by omega)]
        rw [List.getElem?_map, List.getElem?_eq_getElem hi] at hu
        rw [List.getD_eq_getElem?_getD, List.getElem?_eq_getElem hi]
        simpa using hu)
      have NL : Hid (((A.getD j []).map (Value.int .u8)).length = k * 1) := Lib.hid (by rw [List.length_map, hwl]; omega)
      have N1 : Hid (∀ u ∈ (A.getD j []).map (Value.int .u8), u.oneCell' = true) := Lib.hid (ints_oneCell _ _)
      clear fin ho hr hg hlk hwl hwb m4 hu q0
      generalize (A.getD j []).map (Value.int .u8) = cs at *
      cases ou with
      | none =>
        obtain rfl : cu = 0 := m3 rfl
        obtain rfl : k = 0 := by omega
        go_wp2_with (first
          | (at_builtin; refine wpList_append_own_none rfl _ _ 23 rfl wr.heap.size 5 i5 1 Try.underlying23 J0.out (.slice none 0 0) 0 [] rfl (World.ownsRow_nil _ _ _ _) rfl ?_)
          | (at_builtin; refine wpList_append_lies _ rfl _ _ _ rfl w.heap.size 23 i0 _ 1 24 Try.underlying22 I0.out I1.out I2.out I3.out rfl (by omega) (.slice oo j co) j us rfl (HO.out.alloc _)
                ⟨wr.heap.size, 0, none⟩ 1 1 [.slice none 0 0] rfl rfl (World.news_of_block (cs := #[.slice none 0 0]) (t := 23) (fr := (0, 0)) (heap_alloc_new wr _)) (by simp [Value.oneCell'])
                (by omega) (by unfold maxLen; omega) (by omega) (by have := HG.out.size; simp; omega) (wr.heap.size + 1) (by simp) ?_; intro gg cap w2 hown2 hgrow2 hat hlt2))
        have hcs : cs = [] := List.eq_nil_of_length_eq_zero (by have := NL.out; omega)
        obtain ⟨f1, f2⟩ := FIN.out _ _ (NW.out _ wr (by rw [hcs]; exact World.ownsRow_nil _ _ _ _) (Gr.refl _)) _ _ _ hown2 hgrow2
        exact ⟨⟨j + 1, by omega, by go_num, f1, f2⟩, by simp [intOf]; omega⟩
      | some b =>
        go_wp2_with (first
          | (at_builtin; refine wpList_append_own _ rfl _ _ 23 rfl wr.heap.size 5 i5 _ 1 1 Try.underlying23 J0.out J1.out J2.out J3.out rfl (by omega) (.slice none 0 0) 0 [] rfl (World.ownsRow_nil _ _ _ _) b k cu cs rfl NL.out (NC.out b rfl) N1.out (by unfold maxLen; omega) (by omega) (Nat.le_refl _) ?_; intro v1 w1 hown1 hgrow1 hnil1; clear hnil1; rw [Nat.zero_add, List.nil_append] at hown1; obtain ⟨o1, c1, rfl⟩ := ownsRow_form hown1; have H1 := Lib.hid hown1; have H2 := Lib.hid hgrow1; clear hown1 hgrow1)
          | (at_builtin; refine wpList_append_lies _ rfl _ _ _ rfl w.heap.size 23 i0 _ 1 24 Try.underlying22 I0.out I1.out I2.out I3.out rfl (by omega) (.slice oo j co) j us rfl (((HO.out.of_gr (Gr.append (Gr.refl wr) H2.out (fun _ h => by cases h)))).alloc _)
                ⟨w1.heap.size, 0, none⟩ 1 1 [.slice o1 k c1] rfl rfl (World.news_of_block (cs := #[.slice o1 k c1]) (t := 23) (fr := (0, 0)) (heap_alloc_new w1 _)) (by simp [Value.oneCell'])
                (by omega) (by unfold maxLen; omega) (by omega) (by have := HG.out.size; have := H2.out.size; simp; omega) (w1.heap.size + 1) (by simp) ?_; intro gg cap w2 hown2 hgrow2 hat hlt2))
        have hgw := Gr.append (Gr.refl wr) H2.out (fun _ h => by cases h)
        obtain ⟨f1, f2⟩ := FIN.out _ _ (NW.out _ _ H1.out hgw) _ _ _ hown2 hgrow2
        exact ⟨⟨j + 1, by omega, by go_num, f1, f2⟩, by simp [intOf]; omega⟩
    · obtain rfl : n = j := by omega
      rw [List.take_of_length_le (by rw [HN.out]; omega)] at hrs
      have HR := Lib.hid hrs
      have HG := Lib.hid hg
      clear hrs hg
      go_wp2
      by_cases hn0 : n = 0
      · subst hn0
        obtain rfl : A = [] := List.eq_nil_of_length_eq_zero HN.out
        have hred : IsRed k [] [] := ⟨(by intro r hr; cases hr), [], rfl, L.Rref.nil, L.Same.refl _⟩
        have HRED := Lib.hid hred
        obtain ⟨us, ho, _⟩ := HR.out
        have HO := Lib.hid ho
        obtain ⟨_, ⟨rfl, _⟩ | ⟨g, c, cur, rfl, _, _, _, hc2, _⟩⟩ := ho
        · clear hred HR HS HA
          go_loopw [5, 6] (fun dd cc W => dd = .int .i64 0 ∧ cc = .int .i64 0 ∧ W = wr) (fun _ _ _ => 0)
          case atStart => exact ⟨rfl, rfl, rfl⟩
          case round =>
            obtain ⟨rfl, rfl, rfl⟩ := hrel
            go_wp2
            go_ret
            exact ⟨_, rfl, [], ⟨us, HO.out, fun i hi => absurd hi (by simp)⟩, HG.out, HRED.out⟩
        · unfold maxLen at hc2
          clear hred HR HS HA
          go_loopw [5, 6] (fun dd cc W => dd = .int .i64 0 ∧ cc = .int .i64 0 ∧ W = wr) (fun _ _ _ => 0)
          case atStart => exact ⟨rfl, rfl, rfl⟩
          case round =>
            obtain ⟨rfl, rfl, rfl⟩ := hrel
            go_wp2
            go_ret
            exact ⟨_, rfl, [], ⟨us, HO.out, fun i hi => absurd hi (by simp)⟩, HG.out, HRED.out⟩
      · have hk64' : k ≤ 64 := by omega
        obtain ⟨us, ho, hr⟩ := HR.out
        rw [HN.out] at ho hr
        obtain ⟨g, c, rfl, c1, c2, _, _, _⟩ := ownsRow_cell ho (by omega)
        have hx : Mx w wr g n c k A A [] 0 us := ⟨ho, hr, HN.out, HW.out, L.Ech.start _, HG.out⟩
        have HX := Lib.hid hx
        unfold maxLen at c2
        clear hx ho hr HR HG hk64 hoa HS
        go_loopw [5, 6] (fun d cc W => ∃ (cl : Nat) (Lm : List (List Int)) (ps : List Nat) (us : List Value), cl ≤ k ∧ cc = .int .i64 cl ∧ d = .int .i64 (ps.length : Nat) ∧ Mx w W g n c k A Lm ps cl us) (fun _ cc _ => k - (intOf cc).toNat)
        case atStart => exact ⟨0, A, [], us, by omega, rfl, rfl, HX.out⟩
        case round =>
          clear HX
          obtain ⟨cl, Lm, ps, us, hcl, rfl, rfl, hx⟩ := hrel
          have HX := Lib.hid hx
          obtain ⟨o0, c0', _, q0, _⟩ := hx.cell 0 (by omega)
          have hdn : ps.length ≤ n := by have := hx.ech.le; rw [List.length_map, hx.len] at this; exact this
          generalize hd : ps.length = d at *
          have HD := Lib.hid hd
          clear hx hd
          have hnp : 0 < n := by omega
          have hdc : d ≤ c := by omega
          by_cases hend : cl < k
          · go_wp2
            go_loopw [7, 8] (fun a i W => W = wr ∧ ∃ ii : Nat, ii ≤ n ∧ d ≤ ii ∧ i = .int .i64 ii ∧ ((a = .int .i64 (-1) ∧ ∀ s, d ≤ s → s < ii → (Lm.getD s []).getD cl 0 = 0) ∨ ∃ t : Nat, a = .int .i64 t ∧ d ≤ t ∧ t < ii ∧ (Lm.getD t []).getD cl 0 ≠ 0)) (fun _ i _ => n - (intOf i).toNat)
            case atStart => exact ⟨rfl, d, hdn, Nat.le_refl _, rfl, .inl ⟨rfl, by omega⟩⟩
            case round =>
              obtain ⟨rfl, ii, hii, hdi, rfl, ht⟩ := hrel
              by_cases hlt : ii < n
              · obtain ⟨oi, ci, _, e1, e2⟩ := HX.out.cell ii hlt
                obtain ⟨b, rfl, e3⟩ := e2 cl hend
                have hbb := HX.out.wide.byt ii cl
                have HT := Lib.hid ht
                clear e2 ht
                obtain ⟨z, hz⟩ : ∃ z, (Lm.getD ii []).getD cl 0 = z := ⟨_, rfl⟩
                rw [hz] at e3 hbb
                have HZ := Lib.hid hz
                clear hz
                by_cases hz0 : z = 0
                · subst hz0
                  go_wp2
                  refine ⟨⟨trivial, ii + 1, by omega, by omega, by go_num, ?_⟩, by simp [intOf]; omega⟩
                  rcases HT.out with ⟨rfl, h0⟩ | ⟨t, rfl, t1, t2, t3⟩
                  · refine .inl ⟨rfl, fun s s1 s2 => ?_⟩
                    by_cases e : s = ii
                    · rw [e, HZ.out]
                    · exact h0 s s1 (by omega)
                  · exact .inr ⟨t, rfl, t1, by omega, t3⟩
                · have hzb : (z != 0) = true := by simpa using hz0
                  rcases HT.out with ⟨rfl, h0⟩ | ⟨t, rfl, t1, t2, t3⟩
                  · clear h0 HT
                    go_wp2
                    exact ⟨⟨trivial, ii + 1, by omega, by omega, by go_num, .inr ⟨ii, rfl, hdi, by omega, by rw [HZ.out]; exact hz0⟩⟩, by simp [intOf]; omega⟩
                  · have H3 := Lib.hid t3
                    clear t3 HT
                    go_wp2
                    exact ⟨⟨trivial, ii + 1, by omega, by omega, by go_num, .inr ⟨t, rfl, t1, by omega, H3.out⟩⟩, by simp [intOf]; omega⟩
              · obtain rfl : n = ii := by omega
                rcases ht with ⟨rfl, h0⟩ | ⟨t, rfl, t1, t2, t3⟩
                · have H0 := Lib.hid h0
                  clear h0
                  go_wp2
                  refine ⟨⟨cl + 1, Lm, ps, us, by omega, by go_num, by rw [HD.out], HX.out.to (HX.out.ech.skip fun s hs => ?_)⟩, by simp [intOf]; omega⟩
                  rw [at_vec]
                  by_cases e : s < n
                  · rw [H0.out s (by rw [← HD.out]; exact hs) e, fb_zero]
                  · have hnil : Lm.getD s [] = [] := by
                      rw [List.getD_eq_getElem?_getD, List.getElem?_eq_none (by rw [HX.out.len]; omega)]
                      rfl
                    rw [hnil]
                    rfl
                · have H0 := Lib.hid t3
                  clear t3
                  obtain ⟨oa1, ca1, ea, qa, _⟩ := HX.out.cell t t2
                  obtain ⟨od1, cd1, ed, qd, _⟩ := HX.out.cell d (by omega)
                  have ft := HX.out.frozen t
                  have fd := HX.out.frozen d
                  have HEA := Lib.hid ea
                  have HED := Lib.hid ed
                  clear ea ed
                  have hd1 : d < n := by omega
                  obtain ⟨y, hy⟩ : ∃ y, (wr.setCell ⟨g, t, none⟩ (.slice od1 k cd1)).cell? ⟨g, d, none⟩ = some y := by
                    obtain ⟨_, ⟨he, _⟩ | ⟨g', c', cur, he, _, hg, hh1, hh2, hh3, _⟩⟩ := HX.out.own
                    · cases he
                    · cases he
                      have h2 := heap_setCell_same wr g t cur _ (.slice od1 k cd1) hg
                      rw [cell_of_row _ g d _ _ _ h2]
                      have : d < (cur.setIfInBounds t (.slice od1 k cd1)).size := by simp; omega
                      exact ⟨_, by rw [Array.getElem?_eq_getElem this]⟩
                  go_wp2
                  go_region
                  have hsw := (HX.out.swap t d (by rw [HD.out]; exact t1) t2 (by rw [HD.out]; omega) hd1).grow (Gr.drew (Gr.refl _))
                  rw [HEA.out, HED.out] at hsw
                  have hz1 : (((Lm.set t (Lm.getD d [])).set d (Lm.getD t [])).getD d []).getD cl 0 ≠ 0 := by
                    rw [getD_set_self _ _ _ (by rw [List.length_set, HX.out.len]; exact hd1)]
                    exact H0.out
                  have H1 := Lib.hid hsw
                  have HZ1 := Lib.hid hz1
                  clear hsw hz1 hy q0 ft fd qa qd HEA HED H0 HX
                  generalize ((wr.setCell ⟨g, t, none⟩ (.slice od1 k cd1)).setCell ⟨g, d, none⟩ (.slice oa1 k ca1)).drew = W1 at *
                  generalize (us.set t (.slice od1 k cd1)).set d (.slice oa1 k ca1) = us1 at *
                  generalize (Lm.set t (Lm.getD d [])).set d (Lm.getD t []) = L1 at *
                  obtain ⟨ob1, cb1, eb1, qb1, rb1⟩ := H1.out.cell d hd1
                  obtain ⟨b1, rfl, rq1⟩ := rb1 cl hend
                  have fr1 := H1.out.frozen d
                  have hbz := H1.out.wide.byt d cl
                  have hrow := (H1.out.row d hd1).1
                  rw [eb1] at hrow
                  have HROW := Lib.hid hrow
                  have HLK : Hid ((L1.getD d []).length = k) := Lib.hid (H1.out.wide.at d (by rw [H1.out.len]; exact hd1)).1
                  clear rb1 hrow eb1
                  generalize hzz : (L1.getD d []).getD cl 0 = z at *
                  have HZZ := Lib.hid hzz
                  clear hzz
                  go_upto_region 21 with fail
                  go_cut [] (fun wx => ∃ L2 us2, Mx w wx g n c k A L2 ps cl us2 ∧ (L2.getD d []).getD cl 0 = 1)
                  case first =>
                    go_region_law (first
                      | ((try go_simp); go_at_call 39; refine (refInv_any z hbz _).mono ?_; rintro e w' ⟨rfl, rfl⟩)
                      | ((try go_simp); go_at_call 38; refine (refScale_new (invZ z) _ (L1.getD d []) _ (invZ_byt z) (Bs.grown HROW.out (Gr.drew (Gr.refl _))) (by rw [HLK.out]; omega)).mono ?_; rintro e w2 ⟨v2, rfl, hnw⟩; obtain ⟨o2, m2, c2', rfl⟩ := New.form3 hnw; have hc2 := cell_grown hnw.1 qb1; have hf2 := frozen_grown hnw.1 qb1 fr1; have HNW := Lib.hid hnw; clear hnw))
                    all_goals
                      go_wp2_with fail
                      go_meet
                      refine ⟨_, _, ((H1.out.grow (Gr.trans (Gr.drew (Gr.refl _)) HNW.out.1)).scaled d (by rw [HD.out]; exact Nat.le_refl _) hd1 (invZ_byt z) (invZ_ne hbz HZ1.out) (New.bs HNW.out) (New.rb HNW.out _)), ?_⟩
                      rw [getD_set_self _ _ _ (by rw [H1.out.len]; exact hd1), scaleL_getD _ _ _ (by rw [HLK.out]; exact hend), HZZ.out, inv_mulZ hbz HZ1.out]
                  case rest =>
                    clear H1 HZ1 qb1 rq1 fr1 hbz HROW HLK HZZ
                    obtain ⟨L2, us2, hx2, hone⟩ := hcut
                    have H2 := Lib.hid hx2
                    have HONE := Lib.hid hone
                    clear hx2 hone
                    go_wp2
                    go_loopw [94] (fun i W => ∃ (j : Nat) (L3 : List (List Int)) (us3 : List Value), j ≤ n ∧ i = .int .i64 j ∧ Mx w W g n c k A L3 ps cl us3 ∧ (L3.getD d []).getD cl 0 = 1 ∧ ∀ s, s < j → s ≠ d → (L3.getD s []).getD cl 0 = 0) (fun i _ => n - (intOf i).toNat)
                    case atStart => exact ⟨0, L2, us2, by omega, rfl, H2.out, HONE.out, by omega⟩
                    case round =>
                      clear H2 HONE
                      obtain ⟨j, L3, us3, hj, rfl, hx3, hone, hzs⟩ := hrel
                      have H3 := Lib.hid hx3
                      have HONE := Lib.hid hone
                      have HZS := Lib.hid hzs
                      clear hx3 hone hzs
                      by_cases hlt : j < n
                      · by_cases hjd : j = d
                        · obtain rfl : d = j := hjd.symm
                          clear hjd
                          go_wp2
                          refine ⟨⟨d + 1, L3, us3, by omega, by go_num, H3.out, HONE.out, fun s s1 s2 => HZS.out s (by omega) s2⟩, by simp [intOf]; omega⟩
                        · have hjd' : ((j : Int) != d) = true := by simp; omega
                          obtain ⟨oj, cj, ej, qj, rj⟩ := H3.out.cell j hlt
                          obtain ⟨bj, rfl, rqj⟩ := rj cl hend
                          have hbz := H3.out.wide.byt j cl
                          generalize hzz : (L3.getD j []).getD cl 0 = z at *
                          have HZZ := Lib.hid hzz
                          have HEJ := Lib.hid ej
                          have HJD := Lib.hid hjd
                          clear rj hzz ej hjd
                          by_cases hz0 : z = 0
                          · subst hz0
                            go_wp2
                            refine ⟨⟨j + 1, L3, us3, by omega, by go_num, H3.out, HONE.out, fun s s1 s2 => ?_⟩, by simp [intOf]; omega⟩
                            by_cases e : s = j
                            · rw [e, HZZ.out]
                            · exact HZS.out s (by omega) s2
                          · have hzb : (z != 0) = true := by simpa using hz0
                            obtain ⟨od, cd, ed, qd, _⟩ := H3.out.cell d hd1
                            have fj := H3.out.frozen j
                            have hrj := (H3.out.row j hlt).1
                            have hrd := (H3.out.row d hd1).1
                            rw [HEJ.out] at hrj
                            rw [ed] at hrd
                            have RJ := Lib.hid hrj
                            have RD := Lib.hid hrd
                            have WJ : Hid ((L3.getD j []).length = k) := Lib.hid (H3.out.wide.at j (by rw [H3.out.len]; exact hlt)).1
                            have WD : Hid ((L3.getD d []).length = k) := Lib.hid (H3.out.wide.at d (by rw [H3.out.len]; exact hd1)).1
                            clear hrj hrd ed hz0
                            go_wp2
                            go_region_law (first
                              | ((try go_simp); go_at_call 18; refine (refAxpy_new z _ _ (L3.getD d []) (L3.getD j []) _ hbz (Bs.grown RD.out (Gr.drew (Gr.refl _))) (Bs.grown RJ.out (Gr.drew (Gr.refl _))) (by rw [WJ.out, WD.out]) (by rw [WD.out]; omega)).mono ?_; rintro e w2 ⟨v2, rfl, hnw⟩; obtain ⟨o2, m2, c2', rfl⟩ := New.form3 hnw; have hc2 := cell_grown hnw.1 qj; have hf2 := frozen_grown hnw.1 qj fj; have HNW := Lib.hid hnw; clear hnw))
                            all_goals
                              go_wp2_with fail
                              refine ⟨⟨j + 1, _, _, by omega, by go_num, (H3.out.grow (Gr.trans (Gr.drew (Gr.refl _)) HNW.out.1)).added j d (by rw [HD.out]; exact Nat.le_refl _) hd1 hlt HJD.out hbz (New.bs HNW.out) (New.rb HNW.out _), ?_, fun s s1 s2 => ?_⟩, by simp [intOf]; omega⟩
                              · rw [getD_set_ne _ _ _ _ HJD.out, HONE.out]
                              · by_cases e : s = j
                                · rw [e, getD_set_self _ _ _ (by rw [H3.out.len]; exact hlt), axL_getD _ _ _ _ (by rw [WD.out]; exact hend), HONE.out, HZZ.out, mulZ_one z hbz, addZ_self]
                                · rw [getD_set_ne _ _ _ _ (fun c => e c.symm)]
                                  exact HZS.out s (by omega) s2
                      · obtain rfl : n = j := by omega
                        go_wp2
                        refine ⟨⟨cl + 1, L3, ps ++ [cl], us3, by omega, by go_num, by rw [List.length_append, HD.out]; rfl, H3.out.to (H3.out.ech.next ?_ ?_ fun s hs => ?_)⟩, by simp [intOf]; omega⟩
                        · rw [List.length_map, H3.out.len, HD.out]; exact hd1
                        · rw [at_vec, HD.out, HONE.out, fb_one]
                        · rw [at_vec]
                          by_cases e : s < n
                          · rw [HZS.out s e (by rw [← HD.out]; exact hs), fb_zero]
                          · have hnil : L3.getD s [] = [] := by
                              rw [List.getD_eq_getElem?_getD, List.getElem?_eq_none (by rw [H3.out.len]; omega)]
                              rfl
                            rw [hnil]
                            rfl
          · obtain rfl : k = cl := by omega
            go_wp2
            go_ret
            obtain ⟨r1, r2, r3⟩ := HX.out.out
            rw [HD.out] at r1 r3
            exact ⟨_, _, rfl, r1, r2, r3⟩
end Go.Proofs.Ytmeojdnalhaooaa
