import Derived.Test.YtfogljjegibkaaaRe
namespace Go.Proofs.Ytfogljjegibkaaa
open Go.RowKit

set_option maxRecDepth 100000 in
set_option maxHeartbeats 4000000 in
theorem rowTells_walk (R : RowOk) (oa ob : Option Addr) (xn yn ca cb : Nat) (x y : List Int) (c n k : Int) (z : Bool) (w : World)
    (ha : Bs w (.slice oa xn ca) x) (hb : Bs w (.slice ob yn cb) y) (hx : x.length = xn) (hy : y.length = yn) (hc : Byt c) :
    Calls Try.prog 3 #[.slice oa xn ca, .slice ob yn cb, .int .u8 c, .int .i64 n, .int .i64 k, .bool z] w fun e w' => e = .returned (.bool true) ∧ Gr w w' := by
  have H := Lib.hid R
  have HA := Lib.hid ha
  have HB := Lib.hid hb
  have HX := Lib.hid hx
  have HY := Lib.hid hy
  have hx1 : x.length ≤ xn := by omega
  have hx2 : xn ≤ x.length := by omega
  have hy1 : y.length ≤ yn := by omega
  have hy2 : yn ≤ y.length := by omega
  clear R ha hb hx hy
  by_cases hs : xn ≤ 200 ∧ yn ≤ 200
  · obtain ⟨s1, s2⟩ := hs
    go_enter Try.func3, Try.ntmps3
    go_wp2_with fail
    refine (new_st _).mono ?_
    rintro e W' ⟨b, rfl, hs⟩
    cases z with
    | true =>
      have hE : Hid (Env w W' (.pointer none) [(.slice oa xn ca, x), (.slice ob yn cb, y)] []) := Lib.hid ⟨⟨hs.1, Or.inl rfl⟩, Al.grown (Al.cons HA.out (Al.cons HB.out fun p hp => by simp at hp)) hs.1, fun p hp => by simp at hp⟩
      clear hs HA HB
      go_wp2_with fail
      refine (spare_any _ x 71 _ (hE.out.bs (.slice oa xn ca) x (by simp)) (by omega)).mono ?_
      rintro e W' ⟨g1, rfl, _, hk, hg⟩
      rw [HX.out]
      have hB := Blk.bs_pre hk (hE.out.bs (.slice oa xn ca) x (by simp)).1 (by simp; omega)
      rw [List.length_append, HX.out] at hB
      have hE2 := Lib.hid (Env.addK (Env.add (Env.step hE.out hg) hB) hk)
      clear hE hg hk hB
      have hE := hE2
      clear hE2
      go_wp2_with fail
      refine (spare_any _ y 71 _ (hE.out.bs (.slice ob yn cb) y (by simp)) (by omega)).mono ?_
      rintro e W' ⟨g2, rfl, _, hk, hg⟩
      rw [HY.out]
      have hB := Blk.bs_pre hk (hE.out.bs (.slice ob yn cb) y (by simp)).1 (by simp; omega)
      rw [List.length_append, HY.out] at hB
      have hE2 := Lib.hid (Env.addK (Env.add (Env.step hE.out hg) hB) hk)
      clear hE hg hk hB
      have hE := hE2
      clear hE2
      by_cases hl : yn = xn
      · subst hl
        have HL : Hid (y.length = x.length) := Lib.hid (by rw [HX.out, HY.out])
        go_wp2_with fail
        refine (H.out.sum _ _ x y _ (hE.out.bs (.slice (some ⟨g1, 0, none⟩) yn (yn + 2)) x (by simp)) (hE.out.bs (.slice (some ⟨g2, 0, none⟩) yn (yn + 2)) y (by simp)) (by omega) HL.out).mono ?_
        rintro e W' ⟨s, rfl, hn⟩
        have hE2 := Lib.hid (Env.add (Env.step hE.out hn.1) (New.bs hn))
        clear hE
        have hE := hE2
        clear hE2
        clear hn
        go_wp2_with fail
        refine (H.out.axpy _ _ _ c x y _ hE.out.f hc (hE.out.bs (.slice (some ⟨g1, 0, none⟩) yn (yn + 2)) x (by simp)) (hE.out.bs (.slice (some ⟨g2, 0, none⟩) yn (yn + 2)) y (by simp)) (by omega) HL.out).mono ?_
        rintro e W' ⟨t, rfl, hn⟩
        have hE2 := Lib.hid (Env.add (Env.step hE.out hn.1) (New.bs hn))
        clear hE
        have hE := hE2
        clear hE2
        clear hn
        go_wp2_with fail
        refine (H.out.dot _ _ _ x y _ hE.out.f (hE.out.bs (.slice (some ⟨g1, 0, none⟩) yn (yn + 2)) x (by simp)) (hE.out.bs (.slice (some ⟨g2, 0, none⟩) yn (yn + 2)) y (by simp)) (by omega) HL.out).mono ?_
        rintro e W' ⟨rfl, hg⟩
        have hE2 := Lib.hid (Env.step hE.out hg)
        clear hE hg
        have hE := hE2
        clear hE2
        go_wp2_with fail
        refine (H.out.scale _ _ c x _ hE.out.f hc (hE.out.bs (.slice (some ⟨g1, 0, none⟩) yn (yn + 2)) x (by simp)) (by omega)).mono ?_
        rintro e W' ⟨p, rfl, hn⟩
        have hE2 := Lib.hid (Env.add (Env.step hE.out hn.1) (New.bs hn))
        clear hE
        have hE := hE2
        clear hE2
        clear hn
        go_wp2_with fail
        refine (refScale_out c _ x _ hc (hE.out.bs (.slice oa yn ca) x (by simp)) (by omega)).mono ?_
        rintro e W' ⟨q, rfl, hm, hg⟩
        have hE2 := Lib.hid (Env.add (Env.step hE.out hg) hm)
        clear hE hm hg
        have hE := hE2
        clear hE2
        go_wp2_with fail
        refine (same_eq (hE.out.bs p (scaleL c x) (by simp)) (hE.out.bs q (scaleL c x) (by simp)) rfl).mono ?_
        rintro e W' ⟨rfl, hg⟩
        have hE2 := Lib.hid (Env.step hE.out hg)
        clear hE hg
        have hE := hE2
        clear hE2
        go_wp2_with fail
        refine (H.out.lead _ x _ (hE.out.bs (.slice (some ⟨g1, 0, none⟩) yn (yn + 2)) x (by simp)) (by omega)).mono ?_
        rintro e W' ⟨rfl, hg⟩
        have hE2 := Lib.hid (Env.step hE.out hg)
        clear hE hg
        have hE := hE2
        clear hE2
        go_wp2_with fail
        refine (refLead_any _ x _ (hE.out.bs (.slice oa yn ca) x (by simp)) (by omega)).mono ?_
        rintro e W' ⟨rfl, hg⟩
        have hE2 := Lib.hid (Env.step hE.out hg)
        clear hE hg
        have hE := hE2
        clear hE2
        go_wp2_with fail
        refine (refSum_out _ _ x y _ (hE.out.bs (.slice oa yn ca) x (by simp)) (hE.out.bs (.slice ob yn cb) y (by simp)) HL.out (by omega)).mono ?_
        rintro e W' ⟨s2, rfl, hm, hg⟩
        have hE2 := Lib.hid (Env.add (Env.step hE.out hg) hm)
        clear hE hm hg
        have hE := hE2
        clear hE2
        go_wp2_with fail
        refine (same_eq (hE.out.bs s (sumL x y) (by simp)) (hE.out.bs s2 (sumL x y) (by simp)) rfl).mono ?_
        rintro e W' ⟨rfl, hg⟩
        have hE2 := Lib.hid (Env.step hE.out hg)
        clear hE hg
        have hE := hE2
        clear hE2
        go_wp2_with fail
        refine (refAxpy_out c _ _ x y _ hc (hE.out.bs (.slice oa yn ca) x (by simp)) (hE.out.bs (.slice ob yn cb) y (by simp)) HL.out (by omega)).mono ?_
        rintro e W' ⟨t2, rfl, hm, hg⟩
        have hE2 := Lib.hid (Env.add (Env.step hE.out hg) hm)
        clear hE hm hg
        have hE := hE2
        clear hE2
        go_wp2_with fail
        refine (same_eq (hE.out.bs t (axL c x y) (by simp)) (hE.out.bs t2 (axL c x y) (by simp)) rfl).mono ?_
        rintro e W' ⟨rfl, hg⟩
        have hE2 := Lib.hid (Env.step hE.out hg)
        clear hE hg
        have hE := hE2
        clear hE2
        go_wp2_with fail
        refine (refDot_any _ _ x y _ (hE.out.bs (.slice oa yn ca) x (by simp)) (hE.out.bs (.slice ob yn cb) y (by simp)) HL.out.symm (by omega)).mono ?_
        rintro e W' ⟨rfl, hg⟩
        have hE2 := Lib.hid (Env.step hE.out hg)
        clear hE hg
        have hE := hE2
        clear hE2
        by_cases hmay : 1 ≤ n ∧ n ≤ 64 ∧ 0 ≤ k ∧ k < n
        · obtain ⟨m1, m2, m3, m4⟩ := hmay
          obtain ⟨nn, rfl⟩ := Int.eq_ofNat_of_zero_le (by omega : 0 ≤ n)
          obtain ⟨kk, rfl⟩ := Int.eq_ofNat_of_zero_le m3
          go_wp2_with fail
          refine (H.out.unit nn kk _ (by omega) (by omega) (by omega)).mono ?_
          rintro e W' ⟨u, rfl, hn⟩
          obtain ⟨g3, c3, rfl, c3l, c3m⟩ := New.shape hn (by rw [unitL_length]; omega)
          rw [unitL_length] at c3l hn ⊢
          have hE2 := Lib.hid (Env.add (Env.step hE.out hn.1) (New.bs hn))
          clear hE hn
          have hE := hE2
          clear hE2
          go_wp2_with fail
          refine (H.out.lead _ (unitL nn kk) _ (hE.out.bs (.slice (some ⟨g3, 0, none⟩) nn c3) (unitL nn kk) (by simp)) (by (repeat (first | rw [sumL_length] | rw [axL_length] | rw [scaleL_length] | rw [unitL_length])) <;> omega)).mono ?_
          rintro e W' ⟨rfl, hg⟩
          have hE2 := Lib.hid (Env.step hE.out hg)
          clear hE hg
          have hE := hE2
          clear hE2
          rw [leadL_unit nn kk (by omega)]
          have hcell := Bs.cell_at (A := unitL nn kk) (hE.out.bs (.slice (some ⟨g3, 0, none⟩) nn c3) (unitL nn kk) (by simp)) kk (by (repeat (first | rw [sumL_length] | rw [axL_length] | rw [scaleL_length] | rw [unitL_length])) <;> omega)
          rw [unitL_getD _ _ _ (by omega), if_pos rfl, Addr.add_mid, Nat.zero_add] at hcell
          have hT := Bs.slice (t := unitL nn kk) (hE.out.bs (.slice (some ⟨g3, 0, none⟩) nn c3) (unitL nn kk) (by simp)) (unitL_length nn kk) (kk + 1) nn (by omega) (by omega)
          rw [Addr.add_mid, Nat.zero_add] at hT
          by_cases q : c3 = kk + 1
          · subst q
            rw [if_pos rfl, Nat.sub_self, show nn - (kk + 1) = 0 from by omega] at hT
            have HT := Lib.hid hT
            clear hT
            go_wp2_with fail
            refine (H.out.lead _ _ _ HT.out (by rw [List.length_take]; omega)).mono ?_
            rintro e W' ⟨rfl, hg⟩
            rw [leadL_behind nn kk _ (by omega)]
            have hE2 := Lib.hid (Env.step hE.out hg)
            clear hE hg HT hcell
            have hE := hE2
            clear hE2
            go_wp2_with fail
            have KT := Lib.hid (kept_true g1 x _ 71 _ (hE.out.blk g1 (x ++ [71, 71]) (by simp)) (hE.out.bs (.slice oa yn ca) x (by simp)).1 (hE.out.bs (.slice oa yn ca) x (by simp)) (by omega))
            rw [HX.out] at KT
            refine KT.out.mono ?_
            rintro e W' ⟨rfl, hg⟩
            have hE2 := Lib.hid (Env.step hE.out hg)
            clear hE hg KT
            have hE := hE2
            clear hE2
            go_wp2_with fail
            have KT := Lib.hid (kept_true g2 y _ 71 _ (hE.out.blk g2 (y ++ [71, 71]) (by simp)) (hE.out.bs (.slice ob yn cb) y (by simp)).1 (hE.out.bs (.slice ob yn cb) y (by simp)) (by omega))
            rw [HY.out] at KT
            refine KT.out.mono ?_
            rintro e W' ⟨rfl, hg⟩
            have hE2 := Lib.hid (Env.step hE.out hg)
            clear hE hg KT
            have hE := hE2
            clear hE2
            go_wp2_with fail
            refine (rowWakes_any H.out _).mono ?_
            rintro e W' ⟨rfl, hg⟩
            have G := Lib.hid (Gr.trans hE.out.1.1 hg)
            clear hg
            go_wp2_with fail
            go_ret
            exact ⟨rfl, G.out⟩
          · rw [if_neg q] at hT
            have HQ := Lib.hid q
            have HT := Lib.hid hT
            clear hT
            go_wp2_with fail
            refine (H.out.lead _ _ _ HT.out (by rw [List.length_take]; omega)).mono ?_
            rintro e W' ⟨rfl, hg⟩
            rw [leadL_behind nn kk _ (by omega)]
            have hE2 := Lib.hid (Env.step hE.out hg)
            clear hE hg HT hcell
            have hE := hE2
            clear hE2
            go_wp2_with fail
            have KT := Lib.hid (kept_true g1 x _ 71 _ (hE.out.blk g1 (x ++ [71, 71]) (by simp)) (hE.out.bs (.slice oa yn ca) x (by simp)).1 (hE.out.bs (.slice oa yn ca) x (by simp)) (by omega))
            rw [HX.out] at KT
            refine KT.out.mono ?_
            rintro e W' ⟨rfl, hg⟩
            have hE2 := Lib.hid (Env.step hE.out hg)
            clear hE hg KT
            have hE := hE2
            clear hE2
            go_wp2_with fail
            have KT := Lib.hid (kept_true g2 y _ 71 _ (hE.out.blk g2 (y ++ [71, 71]) (by simp)) (hE.out.bs (.slice ob yn cb) y (by simp)).1 (hE.out.bs (.slice ob yn cb) y (by simp)) (by omega))
            rw [HY.out] at KT
            refine KT.out.mono ?_
            rintro e W' ⟨rfl, hg⟩
            have hE2 := Lib.hid (Env.step hE.out hg)
            clear hE hg KT
            have hE := hE2
            clear hE2
            go_wp2_with fail
            refine (rowWakes_any H.out _).mono ?_
            rintro e W' ⟨rfl, hg⟩
            have G := Lib.hid (Gr.trans hE.out.1.1 hg)
            clear hg
            go_wp2_with fail
            go_ret
            exact ⟨rfl, G.out⟩
        · have hM := Lib.hid hmay
          go_wp2_with fail
          refine (H.out.unitNe n k _ hM.out).mono ?_
          rintro e W' ⟨u, rfl, hn⟩
          obtain ⟨o3, c3, rfl⟩ := New.empty hn
          have hE2 := Lib.hid (Env.step hE.out hn.1)
          clear hE hn hmay
          have hE := hE2
          clear hE2
          by_cases m1 : 1 ≤ n
          · by_cases m2 : n ≤ 64
            · by_cases m3 : 0 ≤ k
              · by_cases m4 : k < n
                · exact absurd ⟨m1, m2, m3, m4⟩ hM.out
                · go_wp2_with fail
                  have KT := Lib.hid (kept_true g1 x _ 71 _ (hE.out.blk g1 (x ++ [71, 71]) (by simp)) (hE.out.bs (.slice oa yn ca) x (by simp)).1 (hE.out.bs (.slice oa yn ca) x (by simp)) (by omega))
                  rw [HX.out] at KT
                  refine KT.out.mono ?_
                  rintro e W' ⟨rfl, hg⟩
                  have hE2 := Lib.hid (Env.step hE.out hg)
                  clear hE hg KT
                  have hE := hE2
                  clear hE2
                  go_wp2_with fail
                  have KT := Lib.hid (kept_true g2 y _ 71 _ (hE.out.blk g2 (y ++ [71, 71]) (by simp)) (hE.out.bs (.slice ob yn cb) y (by simp)).1 (hE.out.bs (.slice ob yn cb) y (by simp)) (by omega))
                  rw [HY.out] at KT
                  refine KT.out.mono ?_
                  rintro e W' ⟨rfl, hg⟩
                  have hE2 := Lib.hid (Env.step hE.out hg)
                  clear hE hg KT
                  have hE := hE2
                  clear hE2
                  go_wp2_with fail
                  refine (rowWakes_any H.out _).mono ?_
                  rintro e W' ⟨rfl, hg⟩
                  have G := Lib.hid (Gr.trans hE.out.1.1 hg)
                  clear hg
                  go_wp2_with fail
                  go_ret
                  exact ⟨rfl, G.out⟩
              · go_wp2_with fail
                have KT := Lib.hid (kept_true g1 x _ 71 _ (hE.out.blk g1 (x ++ [71, 71]) (by simp)) (hE.out.bs (.slice oa yn ca) x (by simp)).1 (hE.out.bs (.slice oa yn ca) x (by simp)) (by omega))
                rw [HX.out] at KT
                refine KT.out.mono ?_
                rintro e W' ⟨rfl, hg⟩
                have hE2 := Lib.hid (Env.step hE.out hg)
                clear hE hg KT
                have hE := hE2
                clear hE2
                go_wp2_with fail
                have KT := Lib.hid (kept_true g2 y _ 71 _ (hE.out.blk g2 (y ++ [71, 71]) (by simp)) (hE.out.bs (.slice ob yn cb) y (by simp)).1 (hE.out.bs (.slice ob yn cb) y (by simp)) (by omega))
                rw [HY.out] at KT
                refine KT.out.mono ?_
                rintro e W' ⟨rfl, hg⟩
                have hE2 := Lib.hid (Env.step hE.out hg)
                clear hE hg KT
                have hE := hE2
                clear hE2
                go_wp2_with fail
                refine (rowWakes_any H.out _).mono ?_
                rintro e W' ⟨rfl, hg⟩
                have G := Lib.hid (Gr.trans hE.out.1.1 hg)
                clear hg
                go_wp2_with fail
                go_ret
                exact ⟨rfl, G.out⟩
            · go_wp2_with fail
              have KT := Lib.hid (kept_true g1 x _ 71 _ (hE.out.blk g1 (x ++ [71, 71]) (by simp)) (hE.out.bs (.slice oa yn ca) x (by simp)).1 (hE.out.bs (.slice oa yn ca) x (by simp)) (by omega))
              rw [HX.out] at KT
              refine KT.out.mono ?_
              rintro e W' ⟨rfl, hg⟩
              have hE2 := Lib.hid (Env.step hE.out hg)
              clear hE hg KT
              have hE := hE2
              clear hE2
              go_wp2_with fail
              have KT := Lib.hid (kept_true g2 y _ 71 _ (hE.out.blk g2 (y ++ [71, 71]) (by simp)) (hE.out.bs (.slice ob yn cb) y (by simp)).1 (hE.out.bs (.slice ob yn cb) y (by simp)) (by omega))
              rw [HY.out] at KT
              refine KT.out.mono ?_
              rintro e W' ⟨rfl, hg⟩
              have hE2 := Lib.hid (Env.step hE.out hg)
              clear hE hg KT
              have hE := hE2
              clear hE2
              go_wp2_with fail
              refine (rowWakes_any H.out _).mono ?_
              rintro e W' ⟨rfl, hg⟩
              have G := Lib.hid (Gr.trans hE.out.1.1 hg)
              clear hg
              go_wp2_with fail
              go_ret
              exact ⟨rfl, G.out⟩
          · go_wp2_with fail
            have KT := Lib.hid (kept_true g1 x _ 71 _ (hE.out.blk g1 (x ++ [71, 71]) (by simp)) (hE.out.bs (.slice oa yn ca) x (by simp)).1 (hE.out.bs (.slice oa yn ca) x (by simp)) (by omega))
            rw [HX.out] at KT
            refine KT.out.mono ?_
            rintro e W' ⟨rfl, hg⟩
            have hE2 := Lib.hid (Env.step hE.out hg)
            clear hE hg KT
            have hE := hE2
            clear hE2
            go_wp2_with fail
            have KT := Lib.hid (kept_true g2 y _ 71 _ (hE.out.blk g2 (y ++ [71, 71]) (by simp)) (hE.out.bs (.slice ob yn cb) y (by simp)).1 (hE.out.bs (.slice ob yn cb) y (by simp)) (by omega))
            rw [HY.out] at KT
            refine KT.out.mono ?_
            rintro e W' ⟨rfl, hg⟩
            have hE2 := Lib.hid (Env.step hE.out hg)
            clear hE hg KT
            have hE := hE2
            clear hE2
            go_wp2_with fail
            refine (rowWakes_any H.out _).mono ?_
            rintro e W' ⟨rfl, hg⟩
            have G := Lib.hid (Gr.trans hE.out.1.1 hg)
            clear hg
            go_wp2_with fail
            go_ret
            exact ⟨rfl, G.out⟩
      · have HL : Hid (y.length ≠ x.length) := Lib.hid (by rw [HX.out, HY.out]; exact hl)
        have hb : ((xn : Int) == yn) = false := by simp; omega
        clear hl
        go_wp2_with fail
        refine (H.out.sumNe _ _ x y _ (hE.out.bs (.slice (some ⟨g1, 0, none⟩) xn (xn + 2)) x (by simp)) (hE.out.bs (.slice (some ⟨g2, 0, none⟩) yn (yn + 2)) y (by simp)) (by omega) (by omega) HL.out).mono ?_
        rintro e W' ⟨s, rfl, hn⟩
        have hE2 := Lib.hid (Env.step hE.out hn.1)
        clear hE
        have hE := hE2
        clear hE2
        obtain ⟨os, cs, rfl⟩ := New.empty hn
        clear hn
        go_wp2_with fail
        refine (H.out.axpyNe _ _ _ c x y _ hE.out.f hc (hE.out.bs (.slice (some ⟨g1, 0, none⟩) xn (xn + 2)) x (by simp)) (hE.out.bs (.slice (some ⟨g2, 0, none⟩) yn (yn + 2)) y (by simp)) (by omega) (by omega) HL.out).mono ?_
        rintro e W' ⟨t, rfl, hn⟩
        have hE2 := Lib.hid (Env.step hE.out hn.1)
        clear hE
        have hE := hE2
        clear hE2
        obtain ⟨ot, ct, rfl⟩ := New.empty hn
        clear hn
        go_wp2_with fail
        refine (H.out.dotNe _ _ _ x y _ hE.out.f (hE.out.bs (.slice (some ⟨g1, 0, none⟩) xn (xn + 2)) x (by simp)) (hE.out.bs (.slice (some ⟨g2, 0, none⟩) yn (yn + 2)) y (by simp)) (by omega) (by omega) HL.out).mono ?_
        rintro e W' ⟨rfl, hg⟩
        have hE2 := Lib.hid (Env.step hE.out hg)
        clear hE hg
        have hE := hE2
        clear hE2
        go_wp2_with fail
        refine (H.out.scale _ _ c x _ hE.out.f hc (hE.out.bs (.slice (some ⟨g1, 0, none⟩) xn (xn + 2)) x (by simp)) (by omega)).mono ?_
        rintro e W' ⟨p, rfl, hn⟩
        have hE2 := Lib.hid (Env.add (Env.step hE.out hn.1) (New.bs hn))
        clear hE
        have hE := hE2
        clear hE2
        clear hn
        go_wp2_with fail
        refine (refScale_out c _ x _ hc (hE.out.bs (.slice oa xn ca) x (by simp)) (by omega)).mono ?_
        rintro e W' ⟨q, rfl, hm, hg⟩
        have hE2 := Lib.hid (Env.add (Env.step hE.out hg) hm)
        clear hE hm hg
        have hE := hE2
        clear hE2
        go_wp2_with fail
        refine (same_eq (hE.out.bs p (scaleL c x) (by simp)) (hE.out.bs q (scaleL c x) (by simp)) rfl).mono ?_
        rintro e W' ⟨rfl, hg⟩
        have hE2 := Lib.hid (Env.step hE.out hg)
        clear hE hg
        have hE := hE2
        clear hE2
        go_wp2_with fail
        refine (H.out.lead _ x _ (hE.out.bs (.slice (some ⟨g1, 0, none⟩) xn (xn + 2)) x (by simp)) (by omega)).mono ?_
        rintro e W' ⟨rfl, hg⟩
        have hE2 := Lib.hid (Env.step hE.out hg)
        clear hE hg
        have hE := hE2
        clear hE2
        go_wp2_with fail
        refine (refLead_any _ x _ (hE.out.bs (.slice oa xn ca) x (by simp)) (by omega)).mono ?_
        rintro e W' ⟨rfl, hg⟩
        have hE2 := Lib.hid (Env.step hE.out hg)
        clear hE hg
        have hE := hE2
        clear hE2
        by_cases hmay : 1 ≤ n ∧ n ≤ 64 ∧ 0 ≤ k ∧ k < n
        · obtain ⟨m1, m2, m3, m4⟩ := hmay
          obtain ⟨nn, rfl⟩ := Int.eq_ofNat_of_zero_le (by omega : 0 ≤ n)
          obtain ⟨kk, rfl⟩ := Int.eq_ofNat_of_zero_le m3
          go_wp2_with fail
          refine (H.out.unit nn kk _ (by omega) (by omega) (by omega)).mono ?_
          rintro e W' ⟨u, rfl, hn⟩
          obtain ⟨g3, c3, rfl, c3l, c3m⟩ := New.shape hn (by rw [unitL_length]; omega)
          rw [unitL_length] at c3l hn ⊢
          have hE2 := Lib.hid (Env.add (Env.step hE.out hn.1) (New.bs hn))
          clear hE hn
          have hE := hE2
          clear hE2
          go_wp2_with fail
          refine (H.out.lead _ (unitL nn kk) _ (hE.out.bs (.slice (some ⟨g3, 0, none⟩) nn c3) (unitL nn kk) (by simp)) (by (repeat (first | rw [sumL_length] | rw [axL_length] | rw [scaleL_length] | rw [unitL_length])) <;> omega)).mono ?_
          rintro e W' ⟨rfl, hg⟩
          have hE2 := Lib.hid (Env.step hE.out hg)
          clear hE hg
          have hE := hE2
          clear hE2
          rw [leadL_unit nn kk (by omega)]
          have hcell := Bs.cell_at (A := unitL nn kk) (hE.out.bs (.slice (some ⟨g3, 0, none⟩) nn c3) (unitL nn kk) (by simp)) kk (by (repeat (first | rw [sumL_length] | rw [axL_length] | rw [scaleL_length] | rw [unitL_length])) <;> omega)
          rw [unitL_getD _ _ _ (by omega), if_pos rfl, Addr.add_mid, Nat.zero_add] at hcell
          have hT := Bs.slice (t := unitL nn kk) (hE.out.bs (.slice (some ⟨g3, 0, none⟩) nn c3) (unitL nn kk) (by simp)) (unitL_length nn kk) (kk + 1) nn (by omega) (by omega)
          rw [Addr.add_mid, Nat.zero_add] at hT
          by_cases q : c3 = kk + 1
          · subst q
            rw [if_pos rfl, Nat.sub_self, show nn - (kk + 1) = 0 from by omega] at hT
            have HT := Lib.hid hT
            clear hT
            go_wp2_with fail
            refine (H.out.lead _ _ _ HT.out (by rw [List.length_take]; omega)).mono ?_
            rintro e W' ⟨rfl, hg⟩
            rw [leadL_behind nn kk _ (by omega)]
            have hE2 := Lib.hid (Env.step hE.out hg)
            clear hE hg HT hcell
            have hE := hE2
            clear hE2
            go_wp2_with fail
            have KT := Lib.hid (kept_true g1 x _ 71 _ (hE.out.blk g1 (x ++ [71, 71]) (by simp)) (hE.out.bs (.slice oa xn ca) x (by simp)).1 (hE.out.bs (.slice oa xn ca) x (by simp)) (by omega))
            rw [HX.out] at KT
            refine KT.out.mono ?_
            rintro e W' ⟨rfl, hg⟩
            have hE2 := Lib.hid (Env.step hE.out hg)
            clear hE hg KT
            have hE := hE2
            clear hE2
            go_wp2_with fail
            have KT := Lib.hid (kept_true g2 y _ 71 _ (hE.out.blk g2 (y ++ [71, 71]) (by simp)) (hE.out.bs (.slice ob yn cb) y (by simp)).1 (hE.out.bs (.slice ob yn cb) y (by simp)) (by omega))
            rw [HY.out] at KT
            refine KT.out.mono ?_
            rintro e W' ⟨rfl, hg⟩
            have hE2 := Lib.hid (Env.step hE.out hg)
            clear hE hg KT
            have hE := hE2
            clear hE2
            go_wp2_with fail
            refine (rowWakes_any H.out _).mono ?_
            rintro e W' ⟨rfl, hg⟩
            have G := Lib.hid (Gr.trans hE.out.1.1 hg)
            clear hg
            go_wp2_with fail
            go_ret
            exact ⟨rfl, G.out⟩
          · rw [if_neg q] at hT
            have HQ := Lib.hid q
            have HT := Lib.hid hT
            clear hT
            go_wp2_with fail
            refine (H.out.lead _ _ _ HT.out (by rw [List.length_take]; omega)).mono ?_
            rintro e W' ⟨rfl, hg⟩
            rw [leadL_behind nn kk _ (by omega)]
            have hE2 := Lib.hid (Env.step hE.out hg)
            clear hE hg HT hcell
            have hE := hE2
            clear hE2
            go_wp2_with fail
            have KT := Lib.hid (kept_true g1 x _ 71 _ (hE.out.blk g1 (x ++ [71, 71]) (by simp)) (hE.out.bs (.slice oa xn ca) x (by simp)).1 (hE.out.bs (.slice oa xn ca) x (by simp)) (by omega))
            rw [HX.out] at KT
            refine KT.out.mono ?_
            rintro e W' ⟨rfl, hg⟩
            have hE2 := Lib.hid (Env.step hE.out hg)
            clear hE hg KT
            have hE := hE2
            clear hE2
            go_wp2_with fail
            have KT := Lib.hid (kept_true g2 y _ 71 _ (hE.out.blk g2 (y ++ [71, 71]) (by simp)) (hE.out.bs (.slice ob yn cb) y (by simp)).1 (hE.out.bs (.slice ob yn cb) y (by simp)) (by omega))
            rw [HY.out] at KT
            refine KT.out.mono ?_
            rintro e W' ⟨rfl, hg⟩
            have hE2 := Lib.hid (Env.step hE.out hg)
            clear hE hg KT
            have hE := hE2
            clear hE2
            go_wp2_with fail
            refine (rowWakes_any H.out _).mono ?_
            rintro e W' ⟨rfl, hg⟩
            have G := Lib.hid (Gr.trans hE.out.1.1 hg)
            clear hg
            go_wp2_with fail
            go_ret
            exact ⟨rfl, G.out⟩
        · have hM := Lib.hid hmay
          go_wp2_with fail
          refine (H.out.unitNe n k _ hM.out).mono ?_
          rintro e W' ⟨u, rfl, hn⟩
          obtain ⟨o3, c3, rfl⟩ := New.empty hn
          have hE2 := Lib.hid (Env.step hE.out hn.1)
          clear hE hn hmay
          have hE := hE2
          clear hE2
          by_cases m1 : 1 ≤ n
          · by_cases m2 : n ≤ 64
            · by_cases m3 : 0 ≤ k
              · by_cases m4 : k < n
                · exact absurd ⟨m1, m2, m3, m4⟩ hM.out
                · go_wp2_with fail
                  have KT := Lib.hid (kept_true g1 x _ 71 _ (hE.out.blk g1 (x ++ [71, 71]) (by simp)) (hE.out.bs (.slice oa xn ca) x (by simp)).1 (hE.out.bs (.slice oa xn ca) x (by simp)) (by omega))
                  rw [HX.out] at KT
                  refine KT.out.mono ?_
                  rintro e W' ⟨rfl, hg⟩
                  have hE2 := Lib.hid (Env.step hE.out hg)
                  clear hE hg KT
                  have hE := hE2
                  clear hE2
                  go_wp2_with fail
                  have KT := Lib.hid (kept_true g2 y _ 71 _ (hE.out.blk g2 (y ++ [71, 71]) (by simp)) (hE.out.bs (.slice ob yn cb) y (by simp)).1 (hE.out.bs (.slice ob yn cb) y (by simp)) (by omega))
                  rw [HY.out] at KT
                  refine KT.out.mono ?_
                  rintro e W' ⟨rfl, hg⟩
                  have hE2 := Lib.hid (Env.step hE.out hg)
                  clear hE hg KT
                  have hE := hE2
                  clear hE2
                  go_wp2_with fail
                  refine (rowWakes_any H.out _).mono ?_
                  rintro e W' ⟨rfl, hg⟩
                  have G := Lib.hid (Gr.trans hE.out.1.1 hg)
                  clear hg
                  go_wp2_with fail
                  go_ret
                  exact ⟨rfl, G.out⟩
              · go_wp2_with fail
                have KT := Lib.hid (kept_true g1 x _ 71 _ (hE.out.blk g1 (x ++ [71, 71]) (by simp)) (hE.out.bs (.slice oa xn ca) x (by simp)).1 (hE.out.bs (.slice oa xn ca) x (by simp)) (by omega))
                rw [HX.out] at KT
                refine KT.out.mono ?_
                rintro e W' ⟨rfl, hg⟩
                have hE2 := Lib.hid (Env.step hE.out hg)
                clear hE hg KT
                have hE := hE2
                clear hE2
                go_wp2_with fail
                have KT := Lib.hid (kept_true g2 y _ 71 _ (hE.out.blk g2 (y ++ [71, 71]) (by simp)) (hE.out.bs (.slice ob yn cb) y (by simp)).1 (hE.out.bs (.slice ob yn cb) y (by simp)) (by omega))
                rw [HY.out] at KT
                refine KT.out.mono ?_
                rintro e W' ⟨rfl, hg⟩
                have hE2 := Lib.hid (Env.step hE.out hg)
                clear hE hg KT
                have hE := hE2
                clear hE2
                go_wp2_with fail
                refine (rowWakes_any H.out _).mono ?_
                rintro e W' ⟨rfl, hg⟩
                have G := Lib.hid (Gr.trans hE.out.1.1 hg)
                clear hg
                go_wp2_with fail
                go_ret
                exact ⟨rfl, G.out⟩
            · go_wp2_with fail
              have KT := Lib.hid (kept_true g1 x _ 71 _ (hE.out.blk g1 (x ++ [71, 71]) (by simp)) (hE.out.bs (.slice oa xn ca) x (by simp)).1 (hE.out.bs (.slice oa xn ca) x (by simp)) (by omega))
              rw [HX.out] at KT
              refine KT.out.mono ?_
              rintro e W' ⟨rfl, hg⟩
              have hE2 := Lib.hid (Env.step hE.out hg)
              clear hE hg KT
              have hE := hE2
              clear hE2
              go_wp2_with fail
              have KT := Lib.hid (kept_true g2 y _ 71 _ (hE.out.blk g2 (y ++ [71, 71]) (by simp)) (hE.out.bs (.slice ob yn cb) y (by simp)).1 (hE.out.bs (.slice ob yn cb) y (by simp)) (by omega))
              rw [HY.out] at KT
              refine KT.out.mono ?_
              rintro e W' ⟨rfl, hg⟩
              have hE2 := Lib.hid (Env.step hE.out hg)
              clear hE hg KT
              have hE := hE2
              clear hE2
              go_wp2_with fail
              refine (rowWakes_any H.out _).mono ?_
              rintro e W' ⟨rfl, hg⟩
              have G := Lib.hid (Gr.trans hE.out.1.1 hg)
              clear hg
              go_wp2_with fail
              go_ret
              exact ⟨rfl, G.out⟩
          · go_wp2_with fail
            have KT := Lib.hid (kept_true g1 x _ 71 _ (hE.out.blk g1 (x ++ [71, 71]) (by simp)) (hE.out.bs (.slice oa xn ca) x (by simp)).1 (hE.out.bs (.slice oa xn ca) x (by simp)) (by omega))
            rw [HX.out] at KT
            refine KT.out.mono ?_
            rintro e W' ⟨rfl, hg⟩
            have hE2 := Lib.hid (Env.step hE.out hg)
            clear hE hg KT
            have hE := hE2
            clear hE2
            go_wp2_with fail
            have KT := Lib.hid (kept_true g2 y _ 71 _ (hE.out.blk g2 (y ++ [71, 71]) (by simp)) (hE.out.bs (.slice ob yn cb) y (by simp)).1 (hE.out.bs (.slice ob yn cb) y (by simp)) (by omega))
            rw [HY.out] at KT
            refine KT.out.mono ?_
            rintro e W' ⟨rfl, hg⟩
            have hE2 := Lib.hid (Env.step hE.out hg)
            clear hE hg KT
            have hE := hE2
            clear hE2
            go_wp2_with fail
            refine (rowWakes_any H.out _).mono ?_
            rintro e W' ⟨rfl, hg⟩
            have G := Lib.hid (Gr.trans hE.out.1.1 hg)
            clear hg
            go_wp2_with fail
            go_ret
            exact ⟨rfl, G.out⟩
    | false =>
      have hE : Hid (Env w W' (.pointer (some ⟨b, 0, none⟩)) [(.slice oa xn ca, x), (.slice ob yn cb, y)] []) := Lib.hid ⟨hs, Al.grown (Al.cons HA.out (Al.cons HB.out fun p hp => by simp at hp)) hs.1, fun p hp => by simp at hp⟩
      clear hs HA HB
      go_wp2_with fail
      refine (spare_any _ x 71 _ (hE.out.bs (.slice oa xn ca) x (by simp)) (by omega)).mono ?_
      rintro e W' ⟨g1, rfl, _, hk, hg⟩
      rw [HX.out]
      have hB := Blk.bs_pre hk (hE.out.bs (.slice oa xn ca) x (by simp)).1 (by simp; omega)
      rw [List.length_append, HX.out] at hB
      have hE2 := Lib.hid (Env.addK (Env.add (Env.step hE.out hg) hB) hk)
      clear hE hg hk hB
      have hE := hE2
      clear hE2
      go_wp2_with fail
      refine (spare_any _ y 71 _ (hE.out.bs (.slice ob yn cb) y (by simp)) (by omega)).mono ?_
      rintro e W' ⟨g2, rfl, _, hk, hg⟩
      rw [HY.out]
      have hB := Blk.bs_pre hk (hE.out.bs (.slice ob yn cb) y (by simp)).1 (by simp; omega)
      rw [List.length_append, HY.out] at hB
      have hE2 := Lib.hid (Env.addK (Env.add (Env.step hE.out hg) hB) hk)
      clear hE hg hk hB
      have hE := hE2
      clear hE2
      by_cases hl : yn = xn
      · subst hl
        have HL : Hid (y.length = x.length) := Lib.hid (by rw [HX.out, HY.out])
        go_wp2_with fail
        refine (H.out.sum _ _ x y _ (hE.out.bs (.slice (some ⟨g1, 0, none⟩) yn (yn + 2)) x (by simp)) (hE.out.bs (.slice (some ⟨g2, 0, none⟩) yn (yn + 2)) y (by simp)) (by omega) HL.out).mono ?_
        rintro e W' ⟨s, rfl, hn⟩
        have hE2 := Lib.hid (Env.add (Env.step hE.out hn.1) (New.bs hn))
        clear hE
        have hE := hE2
        clear hE2
        clear hn
        go_wp2_with fail
        refine (H.out.axpy _ _ _ c x y _ hE.out.f hc (hE.out.bs (.slice (some ⟨g1, 0, none⟩) yn (yn + 2)) x (by simp)) (hE.out.bs (.slice (some ⟨g2, 0, none⟩) yn (yn + 2)) y (by simp)) (by omega) HL.out).mono ?_
        rintro e W' ⟨t, rfl, hn⟩
        have hE2 := Lib.hid (Env.add (Env.step hE.out hn.1) (New.bs hn))
        clear hE
        have hE := hE2
        clear hE2
        clear hn
        go_wp2_with fail
        refine (H.out.dot _ _ _ x y _ hE.out.f (hE.out.bs (.slice (some ⟨g1, 0, none⟩) yn (yn + 2)) x (by simp)) (hE.out.bs (.slice (some ⟨g2, 0, none⟩) yn (yn + 2)) y (by simp)) (by omega) HL.out).mono ?_
        rintro e W' ⟨rfl, hg⟩
        have hE2 := Lib.hid (Env.step hE.out hg)
        clear hE hg
        have hE := hE2
        clear hE2
        go_wp2_with fail
        refine (H.out.scale _ _ c x _ hE.out.f hc (hE.out.bs (.slice (some ⟨g1, 0, none⟩) yn (yn + 2)) x (by simp)) (by omega)).mono ?_
        rintro e W' ⟨p, rfl, hn⟩
        have hE2 := Lib.hid (Env.add (Env.step hE.out hn.1) (New.bs hn))
        clear hE
        have hE := hE2
        clear hE2
        clear hn
        go_wp2_with fail
        refine (refScale_out c _ x _ hc (hE.out.bs (.slice oa yn ca) x (by simp)) (by omega)).mono ?_
        rintro e W' ⟨q, rfl, hm, hg⟩
        have hE2 := Lib.hid (Env.add (Env.step hE.out hg) hm)
        clear hE hm hg
        have hE := hE2
        clear hE2
        go_wp2_with fail
        refine (same_eq (hE.out.bs p (scaleL c x) (by simp)) (hE.out.bs q (scaleL c x) (by simp)) rfl).mono ?_
        rintro e W' ⟨rfl, hg⟩
        have hE2 := Lib.hid (Env.step hE.out hg)
        clear hE hg
        have hE := hE2
        clear hE2
        go_wp2_with fail
        refine (H.out.lead _ x _ (hE.out.bs (.slice (some ⟨g1, 0, none⟩) yn (yn + 2)) x (by simp)) (by omega)).mono ?_
        rintro e W' ⟨rfl, hg⟩
        have hE2 := Lib.hid (Env.step hE.out hg)
        clear hE hg
        have hE := hE2
        clear hE2
        go_wp2_with fail
        refine (refLead_any _ x _ (hE.out.bs (.slice oa yn ca) x (by simp)) (by omega)).mono ?_
        rintro e W' ⟨rfl, hg⟩
        have hE2 := Lib.hid (Env.step hE.out hg)
        clear hE hg
        have hE := hE2
        clear hE2
        go_wp2_with fail
        refine (refSum_out _ _ x y _ (hE.out.bs (.slice oa yn ca) x (by simp)) (hE.out.bs (.slice ob yn cb) y (by simp)) HL.out (by omega)).mono ?_
        rintro e W' ⟨s2, rfl, hm, hg⟩
        have hE2 := Lib.hid (Env.add (Env.step hE.out hg) hm)
        clear hE hm hg
        have hE := hE2
        clear hE2
        go_wp2_with fail
        refine (same_eq (hE.out.bs s (sumL x y) (by simp)) (hE.out.bs s2 (sumL x y) (by simp)) rfl).mono ?_
        rintro e W' ⟨rfl, hg⟩
        have hE2 := Lib.hid (Env.step hE.out hg)
        clear hE hg
        have hE := hE2
        clear hE2
        go_wp2_with fail
        refine (refAxpy_out c _ _ x y _ hc (hE.out.bs (.slice oa yn ca) x (by simp)) (hE.out.bs (.slice ob yn cb) y (by simp)) HL.out (by omega)).mono ?_
        rintro e W' ⟨t2, rfl, hm, hg⟩
        have hE2 := Lib.hid (Env.add (Env.step hE.out hg) hm)
        clear hE hm hg
        have hE := hE2
        clear hE2
        go_wp2_with fail
        refine (same_eq (hE.out.bs t (axL c x y) (by simp)) (hE.out.bs t2 (axL c x y) (by simp)) rfl).mono ?_
        rintro e W' ⟨rfl, hg⟩
        have hE2 := Lib.hid (Env.step hE.out hg)
        clear hE hg
        have hE := hE2
        clear hE2
        go_wp2_with fail
        refine (refDot_any _ _ x y _ (hE.out.bs (.slice oa yn ca) x (by simp)) (hE.out.bs (.slice ob yn cb) y (by simp)) HL.out.symm (by omega)).mono ?_
        rintro e W' ⟨rfl, hg⟩
        have hE2 := Lib.hid (Env.step hE.out hg)
        clear hE hg
        have hE := hE2
        clear hE2
        by_cases hmay : 1 ≤ n ∧ n ≤ 64 ∧ 0 ≤ k ∧ k < n
        · obtain ⟨m1, m2, m3, m4⟩ := hmay
          obtain ⟨nn, rfl⟩ := Int.eq_ofNat_of_zero_le (by omega : 0 ≤ n)
          obtain ⟨kk, rfl⟩ := Int.eq_ofNat_of_zero_le m3
          go_wp2_with fail
          refine (H.out.unit nn kk _ (by omega) (by omega) (by omega)).mono ?_
          rintro e W' ⟨u, rfl, hn⟩
          obtain ⟨g3, c3, rfl, c3l, c3m⟩ := New.shape hn (by rw [unitL_length]; omega)
          rw [unitL_length] at c3l hn ⊢
          have hE2 := Lib.hid (Env.add (Env.step hE.out hn.1) (New.bs hn))
          clear hE hn
          have hE := hE2
          clear hE2
          go_wp2_with fail
          refine (H.out.lead _ (unitL nn kk) _ (hE.out.bs (.slice (some ⟨g3, 0, none⟩) nn c3) (unitL nn kk) (by simp)) (by (repeat (first | rw [sumL_length] | rw [axL_length] | rw [scaleL_length] | rw [unitL_length])) <;> omega)).mono ?_
          rintro e W' ⟨rfl, hg⟩
          have hE2 := Lib.hid (Env.step hE.out hg)
          clear hE hg
          have hE := hE2
          clear hE2
          rw [leadL_unit nn kk (by omega)]
          have hcell := Bs.cell_at (A := unitL nn kk) (hE.out.bs (.slice (some ⟨g3, 0, none⟩) nn c3) (unitL nn kk) (by simp)) kk (by (repeat (first | rw [sumL_length] | rw [axL_length] | rw [scaleL_length] | rw [unitL_length])) <;> omega)
          rw [unitL_getD _ _ _ (by omega), if_pos rfl, Addr.add_mid, Nat.zero_add] at hcell
          have hT := Bs.slice (t := unitL nn kk) (hE.out.bs (.slice (some ⟨g3, 0, none⟩) nn c3) (unitL nn kk) (by simp)) (unitL_length nn kk) (kk + 1) nn (by omega) (by omega)
          rw [Addr.add_mid, Nat.zero_add] at hT
          by_cases q : c3 = kk + 1
          · subst q
            rw [if_pos rfl, Nat.sub_self, show nn - (kk + 1) = 0 from by omega] at hT
            have HT := Lib.hid hT
            clear hT
            go_wp2_with fail
            refine (H.out.lead _ _ _ HT.out (by rw [List.length_take]; omega)).mono ?_
            rintro e W' ⟨rfl, hg⟩
            rw [leadL_behind nn kk _ (by omega)]
            have hE2 := Lib.hid (Env.step hE.out hg)
            clear hE hg HT hcell
            have hE := hE2
            clear hE2
            go_wp2_with fail
            have KT := Lib.hid (kept_true g1 x _ 71 _ (hE.out.blk g1 (x ++ [71, 71]) (by simp)) (hE.out.bs (.slice oa yn ca) x (by simp)).1 (hE.out.bs (.slice oa yn ca) x (by simp)) (by omega))
            rw [HX.out] at KT
            refine KT.out.mono ?_
            rintro e W' ⟨rfl, hg⟩
            have hE2 := Lib.hid (Env.step hE.out hg)
            clear hE hg KT
            have hE := hE2
            clear hE2
            go_wp2_with fail
            have KT := Lib.hid (kept_true g2 y _ 71 _ (hE.out.blk g2 (y ++ [71, 71]) (by simp)) (hE.out.bs (.slice ob yn cb) y (by simp)).1 (hE.out.bs (.slice ob yn cb) y (by simp)) (by omega))
            rw [HY.out] at KT
            refine KT.out.mono ?_
            rintro e W' ⟨rfl, hg⟩
            have hE2 := Lib.hid (Env.step hE.out hg)
            clear hE hg KT
            have hE := hE2
            clear hE2
            go_wp2_with fail
            refine (rowWakes_any H.out _).mono ?_
            rintro e W' ⟨rfl, hg⟩
            have G := Lib.hid (Gr.trans hE.out.1.1 hg)
            clear hg
            go_wp2_with fail
            go_ret
            exact ⟨rfl, G.out⟩
          · rw [if_neg q] at hT
            have HQ := Lib.hid q
            have HT := Lib.hid hT
            clear hT
            go_wp2_with fail
            refine (H.out.lead _ _ _ HT.out (by rw [List.length_take]; omega)).mono ?_
            rintro e W' ⟨rfl, hg⟩
            rw [leadL_behind nn kk _ (by omega)]
            have hE2 := Lib.hid (Env.step hE.out hg)
            clear hE hg HT hcell
            have hE := hE2
            clear hE2
            go_wp2_with fail
            have KT := Lib.hid (kept_true g1 x _ 71 _ (hE.out.blk g1 (x ++ [71, 71]) (by simp)) (hE.out.bs (.slice oa yn ca) x (by simp)).1 (hE.out.bs (.slice oa yn ca) x (by simp)) (by omega))
            rw [HX.out] at KT
            refine KT.out.mono ?_
            rintro e W' ⟨rfl, hg⟩
            have hE2 := Lib.hid (Env.step hE.out hg)
            clear hE hg KT
            have hE := hE2
            clear hE2
            go_wp2_with fail
            have KT := Lib.hid (kept_true g2 y _ 71 _ (hE.out.blk g2 (y ++ [71, 71]) (by simp)) (hE.out.bs (.slice ob yn cb) y (by simp)).1 (hE.out.bs (.slice ob yn cb) y (by simp)) (by omega))
            rw [HY.out] at KT
            refine KT.out.mono ?_
            rintro e W' ⟨rfl, hg⟩
            have hE2 := Lib.hid (Env.step hE.out hg)
            clear hE hg KT
            have hE := hE2
            clear hE2
            go_wp2_with fail
            refine (rowWakes_any H.out _).mono ?_
            rintro e W' ⟨rfl, hg⟩
            have G := Lib.hid (Gr.trans hE.out.1.1 hg)
            clear hg
            go_wp2_with fail
            go_ret
            exact ⟨rfl, G.out⟩
        · have hM := Lib.hid hmay
          go_wp2_with fail
          refine (H.out.unitNe n k _ hM.out).mono ?_
          rintro e W' ⟨u, rfl, hn⟩
          obtain ⟨o3, c3, rfl⟩ := New.empty hn
          have hE2 := Lib.hid (Env.step hE.out hn.1)
          clear hE hn hmay
          have hE := hE2
          clear hE2
          by_cases m1 : 1 ≤ n
          · by_cases m2 : n ≤ 64
            · by_cases m3 : 0 ≤ k
              · by_cases m4 : k < n
                · exact absurd ⟨m1, m2, m3, m4⟩ hM.out
                · go_wp2_with fail
                  have KT := Lib.hid (kept_true g1 x _ 71 _ (hE.out.blk g1 (x ++ [71, 71]) (by simp)) (hE.out.bs (.slice oa yn ca) x (by simp)).1 (hE.out.bs (.slice oa yn ca) x (by simp)) (by omega))
                  rw [HX.out] at KT
                  refine KT.out.mono ?_
                  rintro e W' ⟨rfl, hg⟩
                  have hE2 := Lib.hid (Env.step hE.out hg)
                  clear hE hg KT
                  have hE := hE2
                  clear hE2
                  go_wp2_with fail
                  have KT := Lib.hid (kept_true g2 y _ 71 _ (hE.out.blk g2 (y ++ [71, 71]) (by simp)) (hE.out.bs (.slice ob yn cb) y (by simp)).1 (hE.out.bs (.slice ob yn cb) y (by simp)) (by omega))
                  rw [HY.out] at KT
                  refine KT.out.mono ?_
                  rintro e W' ⟨rfl, hg⟩
                  have hE2 := Lib.hid (Env.step hE.out hg)
                  clear hE hg KT
                  have hE := hE2
                  clear hE2
                  go_wp2_with fail
                  refine (rowWakes_any H.out _).mono ?_
                  rintro e W' ⟨rfl, hg⟩
                  have G := Lib.hid (Gr.trans hE.out.1.1 hg)
                  clear hg
                  go_wp2_with fail
                  go_ret
                  exact ⟨rfl, G.out⟩
              · go_wp2_with fail
                have KT := Lib.hid (kept_true g1 x _ 71 _ (hE.out.blk g1 (x ++ [71, 71]) (by simp)) (hE.out.bs (.slice oa yn ca) x (by simp)).1 (hE.out.bs (.slice oa yn ca) x (by simp)) (by omega))
                rw [HX.out] at KT
                refine KT.out.mono ?_
                rintro e W' ⟨rfl, hg⟩
                have hE2 := Lib.hid (Env.step hE.out hg)
                clear hE hg KT
                have hE := hE2
                clear hE2
                go_wp2_with fail
                have KT := Lib.hid (kept_true g2 y _ 71 _ (hE.out.blk g2 (y ++ [71, 71]) (by simp)) (hE.out.bs (.slice ob yn cb) y (by simp)).1 (hE.out.bs (.slice ob yn cb) y (by simp)) (by omega))
                rw [HY.out] at KT
                refine KT.out.mono ?_
                rintro e W' ⟨rfl, hg⟩
                have hE2 := Lib.hid (Env.step hE.out hg)
                clear hE hg KT
                have hE := hE2
                clear hE2
                go_wp2_with fail
                refine (rowWakes_any H.out _).mono ?_
                rintro e W' ⟨rfl, hg⟩
                have G := Lib.hid (Gr.trans hE.out.1.1 hg)
                clear hg
                go_wp2_with fail
                go_ret
                exact ⟨rfl, G.out⟩
            · go_wp2_with fail
              have KT := Lib.hid (kept_true g1 x _ 71 _ (hE.out.blk g1 (x ++ [71, 71]) (by simp)) (hE.out.bs (.slice oa yn ca) x (by simp)).1 (hE.out.bs (.slice oa yn ca) x (by simp)) (by omega))
              rw [HX.out] at KT
              refine KT.out.mono ?_
              rintro e W' ⟨rfl, hg⟩
              have hE2 := Lib.hid (Env.step hE.out hg)
              clear hE hg KT
              have hE := hE2
              clear hE2
              go_wp2_with fail
              have KT := Lib.hid (kept_true g2 y _ 71 _ (hE.out.blk g2 (y ++ [71, 71]) (by simp)) (hE.out.bs (.slice ob yn cb) y (by simp)).1 (hE.out.bs (.slice ob yn cb) y (by simp)) (by omega))
              rw [HY.out] at KT
              refine KT.out.mono ?_
              rintro e W' ⟨rfl, hg⟩
              have hE2 := Lib.hid (Env.step hE.out hg)
              clear hE hg KT
              have hE := hE2
              clear hE2
              go_wp2_with fail
              refine (rowWakes_any H.out _).mono ?_
              rintro e W' ⟨rfl, hg⟩
              have G := Lib.hid (Gr.trans hE.out.1.1 hg)
              clear hg
              go_wp2_with fail
              go_ret
              exact ⟨rfl, G.out⟩
          · go_wp2_with fail
            have KT := Lib.hid (kept_true g1 x _ 71 _ (hE.out.blk g1 (x ++ [71, 71]) (by simp)) (hE.out.bs (.slice oa yn ca) x (by simp)).1 (hE.out.bs (.slice oa yn ca) x (by simp)) (by omega))
            rw [HX.out] at KT
            refine KT.out.mono ?_
            rintro e W' ⟨rfl, hg⟩
            have hE2 := Lib.hid (Env.step hE.out hg)
            clear hE hg KT
            have hE := hE2
            clear hE2
            go_wp2_with fail
            have KT := Lib.hid (kept_true g2 y _ 71 _ (hE.out.blk g2 (y ++ [71, 71]) (by simp)) (hE.out.bs (.slice ob yn cb) y (by simp)).1 (hE.out.bs (.slice ob yn cb) y (by simp)) (by omega))
            rw [HY.out] at KT
            refine KT.out.mono ?_
            rintro e W' ⟨rfl, hg⟩
            have hE2 := Lib.hid (Env.step hE.out hg)
            clear hE hg KT
            have hE := hE2
            clear hE2
            go_wp2_with fail
            refine (rowWakes_any H.out _).mono ?_
            rintro e W' ⟨rfl, hg⟩
            have G := Lib.hid (Gr.trans hE.out.1.1 hg)
            clear hg
            go_wp2_with fail
            go_ret
            exact ⟨rfl, G.out⟩
      · have HL : Hid (y.length ≠ x.length) := Lib.hid (by rw [HX.out, HY.out]; exact hl)
        have hb : ((xn : Int) == yn) = false := by simp; omega
        clear hl
        go_wp2_with fail
        refine (H.out.sumNe _ _ x y _ (hE.out.bs (.slice (some ⟨g1, 0, none⟩) xn (xn + 2)) x (by simp)) (hE.out.bs (.slice (some ⟨g2, 0, none⟩) yn (yn + 2)) y (by simp)) (by omega) (by omega) HL.out).mono ?_
        rintro e W' ⟨s, rfl, hn⟩
        have hE2 := Lib.hid (Env.step hE.out hn.1)
        clear hE
        have hE := hE2
        clear hE2
        obtain ⟨os, cs, rfl⟩ := New.empty hn
        clear hn
        go_wp2_with fail
        refine (H.out.axpyNe _ _ _ c x y _ hE.out.f hc (hE.out.bs (.slice (some ⟨g1, 0, none⟩) xn (xn + 2)) x (by simp)) (hE.out.bs (.slice (some ⟨g2, 0, none⟩) yn (yn + 2)) y (by simp)) (by omega) (by omega) HL.out).mono ?_
        rintro e W' ⟨t, rfl, hn⟩
        have hE2 := Lib.hid (Env.step hE.out hn.1)
        clear hE
        have hE := hE2
        clear hE2
        obtain ⟨ot, ct, rfl⟩ := New.empty hn
        clear hn
        go_wp2_with fail
        refine (H.out.dotNe _ _ _ x y _ hE.out.f (hE.out.bs (.slice (some ⟨g1, 0, none⟩) xn (xn + 2)) x (by simp)) (hE.out.bs (.slice (some ⟨g2, 0, none⟩) yn (yn + 2)) y (by simp)) (by omega) (by omega) HL.out).mono ?_
        rintro e W' ⟨rfl, hg⟩
        have hE2 := Lib.hid (Env.step hE.out hg)
        clear hE hg
        have hE := hE2
        clear hE2
        go_wp2_with fail
        refine (H.out.scale _ _ c x _ hE.out.f hc (hE.out.bs (.slice (some ⟨g1, 0, none⟩) xn (xn + 2)) x (by simp)) (by omega)).mono ?_
        rintro e W' ⟨p, rfl, hn⟩
        have hE2 := Lib.hid (Env.add (Env.step hE.out hn.1) (New.bs hn))
        clear hE
        have hE := hE2
        clear hE2
        clear hn
        go_wp2_with fail
        refine (refScale_out c _ x _ hc (hE.out.bs (.slice oa xn ca) x (by simp)) (by omega)).mono ?_
        rintro e W' ⟨q, rfl, hm, hg⟩
        have hE2 := Lib.hid (Env.add (Env.step hE.out hg) hm)
        clear hE hm hg
        have hE := hE2
        clear hE2
        go_wp2_with fail
        refine (same_eq (hE.out.bs p (scaleL c x) (by simp)) (hE.out.bs q (scaleL c x) (by simp)) rfl).mono ?_
        rintro e W' ⟨rfl, hg⟩
        have hE2 := Lib.hid (Env.step hE.out hg)
        clear hE hg
        have hE := hE2
        clear hE2
        go_wp2_with fail
        refine (H.out.lead _ x _ (hE.out.bs (.slice (some ⟨g1, 0, none⟩) xn (xn + 2)) x (by simp)) (by omega)).mono ?_
        rintro e W' ⟨rfl, hg⟩
        have hE2 := Lib.hid (Env.step hE.out hg)
        clear hE hg
        have hE := hE2
        clear hE2
        go_wp2_with fail
        refine (refLead_any _ x _ (hE.out.bs (.slice oa xn ca) x (by simp)) (by omega)).mono ?_
        rintro e W' ⟨rfl, hg⟩
        have hE2 := Lib.hid (Env.step hE.out hg)
        clear hE hg
        have hE := hE2
        clear hE2
        by_cases hmay : 1 ≤ n ∧ n ≤ 64 ∧ 0 ≤ k ∧ k < n
        · obtain ⟨m1, m2, m3, m4⟩ := hmay
          obtain ⟨nn, rfl⟩ := Int.eq_ofNat_of_zero_le (by omega : 0 ≤ n)
          obtain ⟨kk, rfl⟩ := Int.eq_ofNat_of_zero_le m3
          go_wp2_with fail
          refine (H.out.unit nn kk _ (by omega) (by omega) (by omega)).mono ?_
          rintro e W' ⟨u, rfl, hn⟩
          obtain ⟨g3, c3, rfl, c3l, c3m⟩ := New.shape hn (by rw [unitL_length]; omega)
          rw [unitL_length] at c3l hn ⊢
          have hE2 := Lib.hid (Env.add (Env.step hE.out hn.1) (New.bs hn))
          clear hE hn
          have hE := hE2
          clear hE2
          go_wp2_with fail
          refine (H.out.lead _ (unitL nn kk) _ (hE.out.bs (.slice (some ⟨g3, 0, none⟩) nn c3) (unitL nn kk) (by simp)) (by (repeat (first | rw [sumL_length] | rw [axL_length] | rw [scaleL_length] | rw [unitL_length])) <;> omega)).mono ?_
          rintro e W' ⟨rfl, hg⟩
          have hE2 := Lib.hid (Env.step hE.out hg)
          clear hE hg
          have hE := hE2
          clear hE2
          rw [leadL_unit nn kk (by omega)]
          have hcell := Bs.cell_at (A := unitL nn kk) (hE.out.bs (.slice (some ⟨g3, 0, none⟩) nn c3) (unitL nn kk) (by simp)) kk (by (repeat (first | rw [sumL_length] | rw [axL_length] | rw [scaleL_length] | rw [unitL_length])) <;> omega)
          rw [unitL_getD _ _ _ (by omega), if_pos rfl, Addr.add_mid, Nat.zero_add] at hcell
          have hT := Bs.slice (t := unitL nn kk) (hE.out.bs (.slice (some ⟨g3, 0, none⟩) nn c3) (unitL nn kk) (by simp)) (unitL_length nn kk) (kk + 1) nn (by omega) (by omega)
          rw [Addr.add_mid, Nat.zero_add] at hT
          by_cases q : c3 = kk + 1
          · subst q
            rw [if_pos rfl, Nat.sub_self, show nn - (kk + 1) = 0 from by omega] at hT
            have HT := Lib.hid hT
            clear hT
            go_wp2_with fail
            refine (H.out.lead _ _ _ HT.out (by rw [List.length_take]; omega)).mono ?_
            rintro e W' ⟨rfl, hg⟩
            rw [leadL_behind nn kk _ (by omega)]
            have hE2 := Lib.hid (Env.step hE.out hg)
            clear hE hg HT hcell
            have hE := hE2
            clear hE2
            go_wp2_with fail
            have KT := Lib.hid (kept_true g1 x _ 71 _ (hE.out.blk g1 (x ++ [71, 71]) (by simp)) (hE.out.bs (.slice oa xn ca) x (by simp)).1 (hE.out.bs (.slice oa xn ca) x (by simp)) (by omega))
            rw [HX.out] at KT
            refine KT.out.mono ?_
            rintro e W' ⟨rfl, hg⟩
            have hE2 := Lib.hid (Env.step hE.out hg)
            clear hE hg KT
            have hE := hE2
            clear hE2
            go_wp2_with fail
            have KT := Lib.hid (kept_true g2 y _ 71 _ (hE.out.blk g2 (y ++ [71, 71]) (by simp)) (hE.out.bs (.slice ob yn cb) y (by simp)).1 (hE.out.bs (.slice ob yn cb) y (by simp)) (by omega))
            rw [HY.out] at KT
            refine KT.out.mono ?_
            rintro e W' ⟨rfl, hg⟩
            have hE2 := Lib.hid (Env.step hE.out hg)
            clear hE hg KT
            have hE := hE2
            clear hE2
            go_wp2_with fail
            refine (rowWakes_any H.out _).mono ?_
            rintro e W' ⟨rfl, hg⟩
            have G := Lib.hid (Gr.trans hE.out.1.1 hg)
            clear hg
            go_wp2_with fail
            go_ret
            exact ⟨rfl, G.out⟩
          · rw [if_neg q] at hT
            have HQ := Lib.hid q
            have HT := Lib.hid hT
            clear hT
            go_wp2_with fail
            refine (H.out.lead _ _ _ HT.out (by rw [List.length_take]; omega)).mono ?_
            rintro e W' ⟨rfl, hg⟩
            rw [leadL_behind nn kk _ (by omega)]
            have hE2 := Lib.hid (Env.step hE.out hg)
            clear hE hg HT hcell
            have hE := hE2
            clear hE2
            go_wp2_with fail
            have KT := Lib.hid (kept_true g1 x _ 71 _ (hE.out.blk g1 (x ++ [71, 71]) (by simp)) (hE.out.bs (.slice oa xn ca) x (by simp)).1 (hE.out.bs (.slice oa xn ca) x (by simp)) (by omega))
            rw [HX.out] at KT
            refine KT.out.mono ?_
            rintro e W' ⟨rfl, hg⟩
            have hE2 := Lib.hid (Env.step hE.out hg)
            clear hE hg KT
            have hE := hE2
            clear hE2
            go_wp2_with fail
            have KT := Lib.hid (kept_true g2 y _ 71 _ (hE.out.blk g2 (y ++ [71, 71]) (by simp)) (hE.out.bs (.slice ob yn cb) y (by simp)).1 (hE.out.bs (.slice ob yn cb) y (by simp)) (by omega))
            rw [HY.out] at KT
            refine KT.out.mono ?_
            rintro e W' ⟨rfl, hg⟩
            have hE2 := Lib.hid (Env.step hE.out hg)
            clear hE hg KT
            have hE := hE2
            clear hE2
            go_wp2_with fail
            refine (rowWakes_any H.out _).mono ?_
            rintro e W' ⟨rfl, hg⟩
            have G := Lib.hid (Gr.trans hE.out.1.1 hg)
            clear hg
            go_wp2_with fail
            go_ret
            exact ⟨rfl, G.out⟩
        · have hM := Lib.hid hmay
          go_wp2_with fail
          refine (H.out.unitNe n k _ hM.out).mono ?_
          rintro e W' ⟨u, rfl, hn⟩
          obtain ⟨o3, c3, rfl⟩ := New.empty hn
          have hE2 := Lib.hid (Env.step hE.out hn.1)
          clear hE hn hmay
          have hE := hE2
          clear hE2
          by_cases m1 : 1 ≤ n
          · by_cases m2 : n ≤ 64
            · by_cases m3 : 0 ≤ k
              · by_cases m4 : k < n
                · exact absurd ⟨m1, m2, m3, m4⟩ hM.out
                · go_wp2_with fail
                  have KT := Lib.hid (kept_true g1 x _ 71 _ (hE.out.blk g1 (x ++ [71, 71]) (by simp)) (hE.out.bs (.slice oa xn ca) x (by simp)).1 (hE.out.bs (.slice oa xn ca) x (by simp)) (by omega))
                  rw [HX.out] at KT
                  refine KT.out.mono ?_
                  rintro e W' ⟨rfl, hg⟩
                  have hE2 := Lib.hid (Env.step hE.out hg)
                  clear hE hg KT
                  have hE := hE2
                  clear hE2
                  go_wp2_with fail
                  have KT := Lib.hid (kept_true g2 y _ 71 _ (hE.out.blk g2 (y ++ [71, 71]) (by simp)) (hE.out.bs (.slice ob yn cb) y (by simp)).1 (hE.out.bs (.slice ob yn cb) y (by simp)) (by omega))
                  rw [HY.out] at KT
                  refine KT.out.mono ?_
                  rintro e W' ⟨rfl, hg⟩
                  have hE2 := Lib.hid (Env.step hE.out hg)
                  clear hE hg KT
                  have hE := hE2
                  clear hE2
                  go_wp2_with fail
                  refine (rowWakes_any H.out _).mono ?_
                  rintro e W' ⟨rfl, hg⟩
                  have G := Lib.hid (Gr.trans hE.out.1.1 hg)
                  clear hg
                  go_wp2_with fail
                  go_ret
                  exact ⟨rfl, G.out⟩
              · go_wp2_with fail
                have KT := Lib.hid (kept_true g1 x _ 71 _ (hE.out.blk g1 (x ++ [71, 71]) (by simp)) (hE.out.bs (.slice oa xn ca) x (by simp)).1 (hE.out.bs (.slice oa xn ca) x (by simp)) (by omega))
                rw [HX.out] at KT
                refine KT.out.mono ?_
                rintro e W' ⟨rfl, hg⟩
                have hE2 := Lib.hid (Env.step hE.out hg)
                clear hE hg KT
                have hE := hE2
                clear hE2
                go_wp2_with fail
                have KT := Lib.hid (kept_true g2 y _ 71 _ (hE.out.blk g2 (y ++ [71, 71]) (by simp)) (hE.out.bs (.slice ob yn cb) y (by simp)).1 (hE.out.bs (.slice ob yn cb) y (by simp)) (by omega))
                rw [HY.out] at KT
                refine KT.out.mono ?_
                rintro e W' ⟨rfl, hg⟩
                have hE2 := Lib.hid (Env.step hE.out hg)
                clear hE hg KT
                have hE := hE2
                clear hE2
                go_wp2_with fail
                refine (rowWakes_any H.out _).mono ?_
                rintro e W' ⟨rfl, hg⟩
                have G := Lib.hid (Gr.trans hE.out.1.1 hg)
                clear hg
                go_wp2_with fail
                go_ret
                exact ⟨rfl, G.out⟩
            · go_wp2_with fail
              have KT := Lib.hid (kept_true g1 x _ 71 _ (hE.out.blk g1 (x ++ [71, 71]) (by simp)) (hE.out.bs (.slice oa xn ca) x (by simp)).1 (hE.out.bs (.slice oa xn ca) x (by simp)) (by omega))
              rw [HX.out] at KT
              refine KT.out.mono ?_
              rintro e W' ⟨rfl, hg⟩
              have hE2 := Lib.hid (Env.step hE.out hg)
              clear hE hg KT
              have hE := hE2
              clear hE2
              go_wp2_with fail
              have KT := Lib.hid (kept_true g2 y _ 71 _ (hE.out.blk g2 (y ++ [71, 71]) (by simp)) (hE.out.bs (.slice ob yn cb) y (by simp)).1 (hE.out.bs (.slice ob yn cb) y (by simp)) (by omega))
              rw [HY.out] at KT
              refine KT.out.mono ?_
              rintro e W' ⟨rfl, hg⟩
              have hE2 := Lib.hid (Env.step hE.out hg)
              clear hE hg KT
              have hE := hE2
              clear hE2
              go_wp2_with fail
              refine (rowWakes_any H.out _).mono ?_
              rintro e W' ⟨rfl, hg⟩
              have G := Lib.hid (Gr.trans hE.out.1.1 hg)
              clear hg
              go_wp2_with fail
              go_ret
              exact ⟨rfl, G.out⟩
          · go_wp2_with fail
            have KT := Lib.hid (kept_true g1 x _ 71 _ (hE.out.blk g1 (x ++ [71, 71]) (by simp)) (hE.out.bs (.slice oa xn ca) x (by simp)).1 (hE.out.bs (.slice oa xn ca) x (by simp)) (by omega))
            rw [HX.out] at KT
            refine KT.out.mono ?_
            rintro e W' ⟨rfl, hg⟩
            have hE2 := Lib.hid (Env.step hE.out hg)
            clear hE hg KT
            have hE := hE2
            clear hE2
            go_wp2_with fail
            have KT := Lib.hid (kept_true g2 y _ 71 _ (hE.out.blk g2 (y ++ [71, 71]) (by simp)) (hE.out.bs (.slice ob yn cb) y (by simp)).1 (hE.out.bs (.slice ob yn cb) y (by simp)) (by omega))
            rw [HY.out] at KT
            refine KT.out.mono ?_
            rintro e W' ⟨rfl, hg⟩
            have hE2 := Lib.hid (Env.step hE.out hg)
            clear hE hg KT
            have hE := hE2
            clear hE2
            go_wp2_with fail
            refine (rowWakes_any H.out _).mono ?_
            rintro e W' ⟨rfl, hg⟩
            have G := Lib.hid (Gr.trans hE.out.1.1 hg)
            clear hg
            go_wp2_with fail
            go_ret
            exact ⟨rfl, G.out⟩
  · have hs2 : 200 < xn ∨ 200 < yn := by omega
    clear hs
    have done : ∀ w, Calls Try.prog 7 #[] w fun e w' => e = .returned (.bool true) ∧ Gr w w' := rowWakes_any H.out
    have D := Lib.hid done
    clear done
    by_cases h1 : 200 < xn
    · clear hs2
      go_enter Try.func3, Try.ntmps3
      go_wp2_with (go_at_call 7; refine (D.out _).mono ?_; rintro e W' ⟨rfl, hg⟩; have G := Lib.hid hg; clear hg)
      go_ret
      exact ⟨rfl, G.out⟩
    · have h2 : 200 < yn := by omega
      clear hs2
      go_enter Try.func3, Try.ntmps3
      go_wp2_with (go_at_call 7; refine (D.out _).mono ?_; rintro e W' ⟨rfl, hg⟩; have G := Lib.hid hg; clear hg)
      go_ret
      exact ⟨rfl, G.out⟩
end Go.Proofs.Ytfogljjegibkaaa
