/-
  Law SpanPlays, walked: rows, one by one, as the document's own answers say.
-/
import Derived.Test.YtmeojdnalhaooaaPl
namespace Go.Proofs.Ytmeojdnalhaooaa
open Go.RowKit

set_option maxRecDepth 100000 in
set_option maxHeartbeats 3200000 in
theorem spanPlays_walk {At : World → Value → Value → (Nat → Prop) → Nat → List (List Int) → Prop} (O : SpanOk At) (n : Int) (vl vr : Value) (LL : List (List Int)) (r : List Int) (w : World) (hl : Bss w vl LL) (hr : Bs w vr r) :
    Calls Try.prog 3 #[.int .i64 n, vl, vr] w fun e w' => e = .returned (.bool true) ∧ Gr w w' := by
  have HS := Lib.hid O
  have HR := Lib.hid hr
  obtain ⟨ol, cl, rfl, l1, l2, l3, l4⟩ := hl
  obtain ⟨m, hm⟩ : ∃ m, LL.length = m := ⟨_, rfl⟩
  rw [hm] at l1 l4 ⊢
  have HL4 := Lib.hid l4
  have HL3 := Lib.hid l3
  have HM := Lib.hid hm
  clear O hr l3 l4 hm
  obtain ⟨i0, hi0, hz0, hz1, hz2⟩ := info_parts info22
  have I0 := Lib.hid hi0
  have I1 := Lib.hid hz0
  have I2 := Lib.hid hz1
  have I3 := Lib.hid hz2
  clear hi0 hz0 hz1 hz2
  by_cases hin : 0 ≤ n ∧ n ≤ 64
  · obtain ⟨hn0, hn1⟩ := hin
    obtain ⟨N, rfl⟩ : ∃ N : Nat, n = N := ⟨n.toNat, by omega⟩
    go_enter Try.func3, Try.ntmps3
    go_wp2_with fail
    refine (new_st _).mono ?_
    rintro e w1 ⟨b, rfl, hs⟩
    have F1 := Lib.hid hs.2
    have G1 := Lib.hid hs.1
    clear hs
    go_wp2_with fail
    refine (HS.out.new _ N _ F1.out (by omega)).mono ?_
    rintro e w2 ⟨s, F, rfl, ha, hg, hF⟩
    obtain ⟨asp, rfl⟩ := HS.out.ptr ha
    have S2 : Hid (Sn At w1 w2 (.pointer (some ⟨b, 0, none⟩)) (.pointer (some asp)) F N []) := Lib.hid ⟨ha, hF, hg, F1.out⟩
    clear ha hg hF
    have hn1' : N ≤ 64 := by omega
    by_cases hm24 : m ≤ 24
    · go_wp2_with fail
      refine (cut_any vr r N _ (Bs.grown HR.out (Gr.trans G1.out S2.out.2.2.1)) (by omega)).mono ?_
      rintro e w' ⟨v3, rfl, hv3, rfl⟩
      have hk : (r.take N).length ≤ N := by rw [List.length_take]; omega
      generalize r.take N = r0 at *
      obtain ⟨o3, c3, rfl⟩ := hv3.form
      obtain ⟨k, hkk⟩ : ∃ k, r0.length = k := ⟨_, rfl⟩
      rw [hkk] at hv3 hk ⊢
      obtain ⟨d, hd⟩ : ∃ d, k + d = N := ⟨N - k, by omega⟩
      have V3 := Lib.hid hv3
      have HKK := Lib.hid hkk
      clear hv3 hkk
      go_wp2_with (first
        | (at_builtin; refine want_append_bytes rfl _ _ rfl w2.heap.size (.slice none 0 0) 0 [] rfl (World.ownsRow_nil _ _ _ _) o3 k c3 r0 rfl V3.out (by omega) (Nat.le_refl _) ?_; intro v4 w4 hown4 hgrow4; rw [Nat.zero_add, List.nil_append] at hown4; obtain ⟨o4, c4, rfl⟩ := ownsRow_form hown4; have HO4 := Lib.hid hown4; have G4 : Hid (Gr w2 w4) := Lib.hid (Gr.append (Gr.refl _) hgrow4 (fun _ h => by cases h)); clear hown4 hgrow4)
        | (at_builtin; refine want_append_zeros rfl _ _ rfl w2.heap.size _ k r0 rfl HO4.out d (congrArg (Value.int .i64) (by omega)) (by omega) G4.out.size ?_; intro v5 w5 hown5 hgrow5; obtain ⟨o5, c5, rfl⟩ := ownsRow_form hown5; have HO5 := Lib.hid hown5; have G5 : Hid (Gr w2 w5) := Lib.hid (Gr.append G4.out hgrow5 (ownsRow_base HO4.out)); clear hown5 hgrow5))
      have hlen5 : (r0 ++ List.replicate d 0).length = N := by rw [List.length_append, List.length_replicate, HKK.out, hd]
      have hb5 : ∀ x ∈ r0 ++ List.replicate d 0, Byt x := fun x hx => by
        rcases List.mem_append.1 hx with c | c
        · exact V3.out.1 x c
        · rw [(List.mem_replicate.1 c).2]; unfold Byt; omega
      have NR : Hid (New w2 w5 (.slice o5 N c5) (r0 ++ List.replicate d 0)) := Lib.hid (New.of_row G5.out hb5 (by rw [hlen5]; have := HO5.out; rw [hd] at this; exact this))
      have HRL := Lib.hid hlen5
      have HRB := Lib.hid hb5
      generalize r0 ++ List.replicate d 0 = rr at *
      have R5 : Hid (RowF w1.heap.size F w5 (.slice o5 N c5) rr) := Lib.hid (NR.out.rowF (HS.out.lt S2.out.1))
      have S5 := Lib.hid (S2.out.grown HS.out G5.out)
      clear hlen5 hb5 NR HO5 HO4 G4 G5 V3 HKK S2 hd hk
      go_loopw [8, 55] (fun va i W => ∃ (ii : Nat) (F : Nat → Prop) (A : List (List Int)) (us : List Value), ii ≤ m ∧ i = .int .i64 ii ∧ (A.length ≤ ii ∧ Wide N A) ∧ Sn At w1 W (.pointer (some ⟨b, 0, none⟩)) (.pointer (some asp)) F N A ∧ Alls w1.heap.size F W va A us ∧ RowF w1.heap.size F W (.slice o5 N c5) rr) (fun _ i _ => m - (intOf i).toNat)
      case atStart => exact ⟨0, F, [], [], by omega, rfl, ⟨Nat.le_refl _, Wide.nil N⟩, S5.out, Alls.nil, R5.out⟩
      case round =>
        clear S5 R5
        obtain ⟨wo, hwo⟩ : ∃ x, x = wr := ⟨_, rfl⟩
        subst hwo
        obtain ⟨ii, F2, A, us, hii, rfl, hal, hs, hall, hrr⟩ := hrel
        have SS := Lib.hid hs
        have AL := Lib.hid hall
        have RR := Lib.hid hrr
        have HWA := Lib.hid hal.2
        have hA24 : A.length ≤ 24 := by omega
        have hAii := hal.1
        obtain ⟨oa, ca, rfl⟩ := ownsRow_form hall.own
        obtain ⟨na, hna⟩ : ∃ na, A.length = na := ⟨_, rfl⟩
        rw [hna] at AL hA24 hAii ⊢
        have HNA := Lib.hid hna
        have HAO : Hid (wo.ownsRow w1.heap.size 23 1 (.slice oa na ca) na us) := Lib.hid (by rw [← hna]; exact hall.own)
        have GW : Hid (Gr w wo) := Lib.hid (Gr.trans G1.out hs.2.2.1)
        clear hs hall hrr hal hna
        by_cases hlt : ii < m
        · obtain ⟨al, rfl⟩ : ∃ al, ol = some al := by
            cases ol with
            | none => exact absurd (HL3.out rfl) (by omega)
            | some al => exact ⟨al, rfl⟩
          obtain ⟨u, q0, hu⟩ := HL4.out al rfl ii hlt
          have q1 := cell_grown GW.out q0
          obtain ⟨ab, hin, hpos⟩ := hu.lies
          obtain ⟨ou, cu, rfl⟩ := hu.form
          obtain ⟨l0, hl0⟩ : ∃ l0, LL.getD ii [] = l0 := ⟨_, rfl⟩
          rw [hl0] at hu hin hpos q1
          obtain ⟨lu, hlu⟩ : ∃ lu, l0.length = lu := ⟨_, rfl⟩
          rw [hlu] at hu hin hpos q1
          have HU := Lib.hid hu
          have HIN := Lib.hid hin
          have HPOS := Lib.hid hpos
          have HLU := Lib.hid hlu
          clear q0 hu hin hpos hl0 hlu
          go_wp2_with fail
          have e1 : (N : Int) + 1 = ((N + 1 : Nat) : Int) := by omega
          rw [e1]
          refine (cut_in _ l0 (N + 1) _ (Bs.grown HU.out GW.out) (by omega)).mono ?_
          rintro e w' ⟨vx, rfl, hvx, rfl, hinx⟩
          have hxl : (l0.take (N + 1)).length ≤ N + 1 := by rw [List.length_take]; omega
          have hxp : 0 < (l0.take (N + 1)).length → ab < w.heap.size := fun h => HPOS.out (by rw [List.length_take] at h; rw [← HLU.out]; omega)
          have hrow : RowF w1.heap.size F2 wo vx (l0.take (N + 1)) := by
            have hab : ∀ a n c, vx = .slice (some a) n c → 0 < n → a.block < w.heap.size := fun a n c e hn => by
              rw [hinx ab HIN.out a n c e]
              apply hxp
              obtain ⟨o9, c9, h9⟩ := hvx.form
              rw [h9] at e
              cases e
              exact hn
            exact ⟨hvx, fun a n c e hn => .inl (Nat.lt_of_lt_of_le (hab a n c e hn) G1.out.size), fun a n c e hn hf => by
              have h1 := hab a n c e hn
              have h2 := SS.out.2.1 _ hf
              have h3 := G1.out.size
              omega⟩
          generalize l0.take (N + 1) = x0 at *
          obtain ⟨ox, cx, rfl⟩ := hvx.form
          obtain ⟨kx, hkx⟩ : ∃ kx, x0.length = kx := ⟨_, rfl⟩
          rw [hkx] at hrow hxl ⊢
          have XR := Lib.hid hrow
          have HKX := Lib.hid hkx
          clear hvx hinx hxp hrow hkx e1 HU HIN HPOS HLU q1
          go_upto_region 13 with fail
          go_cut [73] (fun sb wx => ∃ bb : Bool, sb = .bool bb ∧ (bb = true → kx < N) ∧ wo = wx)
          case first =>
            by_cases hkN : kx < N
            · by_cases hi3 : 0 < ii % 3
              · go_wp2_with fail
                go_meet
                exact ⟨_, rfl, fun _ => hkN, rfl⟩
              · go_wp2_with fail
                go_meet
                exact ⟨_, rfl, fun _ => hkN, rfl⟩
            · by_cases hi3 : 0 < ii % 3
              · go_wp2_with fail
                go_meet
                exact ⟨false, rfl, fun h => (by cases h), rfl⟩
              · go_wp2_with fail
                go_meet
                exact ⟨false, rfl, fun h => (by cases h), rfl⟩
          case rest =>
            obtain ⟨bb, rfl, hbb, rfl⟩ := hcut
            go_upto_if 73 with fail
            go_cut [10] (fun sx wx => ∃ o1 k1 c1 x1, sx = .slice o1 k1 c1 ∧ RowF w1.heap.size F2 wx (.slice o1 k1 c1) x1 ∧ x1.length = k1 ∧ k1 ≤ N + 1 ∧ Gr wo wx)
            case first =>
              cases bb with
              | false =>
                go_wp2_with fail
                go_meet
                exact ⟨_, _, _, x0, rfl, XR.out, HKX.out, hxl, Gr.refl _⟩
              | true =>
                have hkN := hbb rfl
                obtain ⟨d, hd⟩ : ∃ d, kx + d = N := ⟨N - kx, by omega⟩
                go_wp2_with (first
                  | (at_builtin; refine want_append_bytes rfl _ _ rfl wo.heap.size (.slice none 0 0) 0 [] rfl (World.ownsRow_nil _ _ _ _) ox kx cx x0 rfl XR.out.bs (by omega) (Nat.le_refl _) ?_; intro v4 w4 hown4 hgrow4; rw [Nat.zero_add, List.nil_append] at hown4; obtain ⟨o4, c4, rfl⟩ := ownsRow_form hown4; have HO4 := Lib.hid hown4; have G4 : Hid (Gr wo w4) := Lib.hid (Gr.append (Gr.refl _) hgrow4 (fun _ h => by cases h)); clear hown4 hgrow4)
                  | (at_builtin; refine want_append_zeros rfl _ _ rfl wo.heap.size _ kx x0 rfl HO4.out d (congrArg (Value.int .i64) (by omega)) (by omega) G4.out.size ?_; intro v5 w5 hown5 hgrow5; obtain ⟨o5, c5, rfl⟩ := ownsRow_form hown5; have HO5 := Lib.hid hown5; have G5 : Hid (Gr wo w5) := Lib.hid (Gr.append G4.out hgrow5 (ownsRow_base HO4.out)); clear hown5 hgrow5))
                go_meet
                have hlen5 : (x0 ++ List.replicate d 0).length = kx + d := by rw [List.length_append, List.length_replicate, HKX.out]
                have hb5 : ∀ x ∈ x0 ++ List.replicate d 0, Byt x := fun x hx => by
                  rcases List.mem_append.1 hx with c | c
                  · exact XR.out.bs.1 x c
                  · rw [(List.mem_replicate.1 c).2]; unfold Byt; omega
                have hnew : New wo _ _ (x0 ++ List.replicate d 0) := New.of_row G5.out hb5 (by rw [hlen5]; exact HO5.out)
                exact ⟨_, _, _, _, by first | rfl | rw [hd], hnew.rowF (HS.out.lt SS.out.1), hlen5, by omega, G5.out⟩
            case rest =>
              obtain ⟨o1, k1, c1, x1, rfl, hx1, hk1, hk1N, hg1⟩ := hcut
              have XR1 := Lib.hid hx1
              have HK1 := Lib.hid hk1
              have SS1 := Lib.hid (SS.out.grown HS.out hg1)
              have AL1 := Lib.hid (AL.out.grown hg1)
              have RR1 := Lib.hid (RR.out.grown hg1)
              have HAO1 := Lib.hid (HAO.out.of_gr hg1)
              have HMA : Hid (mayL A = true) := Lib.hid (HWA.out.may hn1')
              clear hx1 hk1 hg1 XR HKX hxl hbb SS AL RR HAO
              go_wp2_with fail
              refine (refRank_any _ A _ AL1.out.bss (by rw [HNA.out]; omega) HMA.out).mono ?_
              obtain ⟨ρ, hρ⟩ : ∃ ρ, rkL A = ρ := ⟨_, rfl⟩
              rw [hρ]
              have HRHO := Lib.hid hρ
              clear hρ
              rintro e w6 ⟨rfl, hg6⟩
              have SS6 := Lib.hid (SS1.out.grown HS.out hg6)
              have AL6 := Lib.hid (AL1.out.grown hg6)
              have RR6 := Lib.hid (RR1.out.grown hg6)
              have XR6 := Lib.hid (XR1.out.grown hg6)
              have HAO6 := Lib.hid (HAO1.out.of_gr hg6)
              clear hg6 SS1 AL1 RR1 XR1 HAO1
              go_upto_if 86 with fail
              go_cut [8, 12] (fun sa sn wx => ∃ oa2 na2 ca2 A2 us2 bn, sa = .slice oa2 na2 ca2 ∧ A2.length = na2 ∧ sn = .bool bn ∧ Alls w1.heap.size F2 wx (.slice oa2 na2 ca2) A2 us2 ∧ Sn At w1 wx (.pointer (some ⟨b, 0, none⟩)) (.pointer (some asp)) F2 N A ∧ RowF w1.heap.size F2 wx (.slice o1 k1 c1) x1 ∧ RowF w1.heap.size F2 wx (.slice o5 N c5) rr ∧ Wide N A2 ∧ na2 ≤ ii + 1 ∧
                ((x1.length = N ∧ A2 = A ++ [x1] ∧ (bn = true ↔ ¬ L.Sp (A.map vec) (vec x1))) ∨ (x1.length ≠ N ∧ A2 = A ∧ bn = false)))
              case first =>
                by_cases hkN : N = k1
                · subst hkN
                  have W2 := Lib.hid (show Wide N (A ++ [x1]) from fun r hr => by
                    rcases List.mem_append.1 hr with c | c
                    · exact HWA.out r c
                    · rw [List.mem_singleton.1 c]; exact ⟨HK1.out, XR6.out.bs.1⟩)
                  go_wp2_with (first
                    | (at_builtin; refine wpList_append_lies _ rfl _ _ _ rfl w1.heap.size 23 i0 _ 1 24 Try.underlying22 I0.out I1.out I2.out I3.out rfl (by omega) (.slice oa na ca) na us rfl (HAO6.out.alloc _)
                        ⟨w6.heap.size, 0, none⟩ 1 1 [.slice o1 N c1] rfl rfl (World.news_of_block (cs := #[.slice o1 N c1]) (t := 23) (fr := (0, 0)) (heap_alloc_new w6 _)) (by simp [Value.oneCell'])
                        (by omega) (by unfold maxLen; omega) (by omega) (by have := SS6.out.2.2.1.size; simp; omega) (w6.heap.size + 1) (by simp) ?_; intro gg cap w7 hown7 hgrow7 hat7 hlt7; have HO7 := Lib.hid hown7; have HG7 := Lib.hid hgrow7; have HAT7 := Lib.hid hat7; clear hown7 hgrow7 hat7 hlt7))
                  obtain ⟨al7, hk7, keep7⟩ := AL6.out.more XR6.out (HS.out.lt SS6.out.1) (by rw [HNA.out]; exact HO7.out) HG7.out HAT7.out
                  rw [HNA.out] at al7
                  have AL7 := Lib.hid al7
                  have HB7 : ∀ g, (Value.slice oa na ca).ownBlock = some g → w1.heap.size ≤ g := ownsRow_base HAO6.out
                  have SS7 := Lib.hid (SS6.out.other HS.out hk7 HB7 (fun k hk e => AL6.out.aw k e hk))
                  have XR7 := Lib.hid (keep7 _ _ XR6.out)
                  have RR7 := Lib.hid (keep7 _ _ RR6.out)
                  have HL2 : Hid ((A ++ [x1]).length = na + 1) := Lib.hid (by rw [List.length_append, HNA.out]; rfl)
                  have HNEW := Lib.hid (rk_new HWA.out HK1.out)
                  clear al7 hk7 keep7 HB7 SS6 AL6 RR6 XR6 HAO6 HO7 HG7 HAT7
                  refine (refRank_any _ (A ++ [x1]) _ AL7.out.bss (by rw [HL2.out]; omega) (W2.out.may hn1')).mono ?_
                  obtain ⟨ρ2, hρ2⟩ : ∃ ρ2, rkL (A ++ [x1]) = ρ2 := ⟨_, rfl⟩
                  rw [hρ2]
                  rw [hρ2, HRHO.out] at HNEW
                  clear hρ2
                  rintro e w8 ⟨rfl, hg8⟩
                  go_wp2_with fail
                  go_meet
                  refine ⟨_, _, _, A ++ [x1], us ++ [.slice o1 N c1], decide (ρ < ρ2), rfl, HL2.out, rfl, AL7.out.grown hg8, SS7.out.grown HS.out hg8, XR7.out.grown hg8, RR7.out.grown hg8, W2.out, by omega, .inl ⟨HK1.out, rfl, ?_⟩⟩
                  rw [decide_eq_true_iff]
                  exact HNEW.out
                · have hne : ((k1 : Int) == N) = false := by simp; omega
                  go_wp2_with fail
                  go_meet
                  exact ⟨_, _, _, A, us, false, rfl, HNA.out, rfl, AL6.out, SS6.out, XR6.out, RR6.out, HWA.out, by omega, .inr ⟨by rw [HK1.out]; omega, rfl, rfl⟩⟩
              case rest =>
                obtain ⟨oa2, na2, ca2, A2, us2, bn, rfl, hna2, rfl, hal, hss, hxr, hrr, hwa2, hna3, hcase⟩ := hcut
                have HNA2 := Lib.hid hna2
                have HWA2 := Lib.hid hwa2
                have HCASE := Lib.hid hcase
                have AL7 := Lib.hid hal
                have SS7 := Lib.hid hss
                have XR7 := Lib.hid hxr
                have RR7 := Lib.hid hrr
                have HMA2 : Hid (mayL A2 = true) := Lib.hid (hwa2.may hn1')
                clear hna2 hwa2 hcase hal hss hxr hrr SS6 AL6 RR6 XR6 HAO6
                go_wp2_with fail
                have hsp := spare_any (.slice o1 k1 c1) x1 71 wc XR7.out.bs (by rw [HK1.out]; omega)
                rw [HK1.out] at hsp
                refine hsp.mono ?_
                rintro e w8 ⟨g8, rfl, hge8, hblk8, hg8⟩
                have SS8 := Lib.hid (SS7.out.grown HS.out hg8)
                have AL8 := Lib.hid (AL7.out.grown hg8)
                have RR8 := Lib.hid (RR7.out.grown hg8)
                have XR8 := Lib.hid (XR7.out.grown hg8)
                have BLK8 := Lib.hid hblk8
                have HNF8 : Hid (¬ F2 g8) := Lib.hid (fun e => by have := HS.out.lt SS7.out.1 _ e; omega)
                have HIN8 : Hid (Bs w8 (.slice (some ⟨g8, 0, none⟩) k1 (k1 + 2)) x1) := Lib.hid (by
                  have := Blk.bs_pre hblk8 XR7.out.bs.1 (by simp [HK1.out]; omega)
                  rw [List.length_append, HK1.out] at this
                  exact this)
                have HAW8 : Hid (Away F2 (.slice (some ⟨g8, 0, none⟩) k1 (k1 + 2))) := Lib.hid (fun a m' c' he _ hf => by
                  cases he
                  exact HNF8.out hf)
                clear hsp hge8 hblk8 hg8 SS7 AL7 RR7 XR7
                go_wp2_with fail
                refine (HS.out.both _ _ _ F2 N A A2 x1 bn _ SS8.out.fld SS8.out.1 (by rw [HNA.out]; omega) HIN8.out HAW8.out (by rw [HK1.out]; omega) HCASE.out).mono ?_
                rintro e w9 ⟨F9, rfl, ha9, hk9, hF9⟩
                have SS9 := Lib.hid (SS8.out.step ha9 hk9 hF9)
                have AL9 := Lib.hid (AL8.out.add hk9 hF9)
                have RR9 := Lib.hid (RR8.out.add hk9 hF9)
                have XR9 := Lib.hid (XR8.out.add hk9 hF9)
                have BLK9 : Hid (Blk w9 g8 (x1 ++ [71, 71])) := Lib.hid (hk9.block BLK8.out HNF8.out)
                clear ha9 hk9 hF9 SS8 AL8 RR8 XR8 BLK8 HIN8 HAW8 HNF8 HCASE HMA
                go_wp2_with fail
                have hkp := kept_true g8 x1 (.slice o1 k1 c1) 71 w9 BLK9.out XR9.out.bs.1 XR9.out.bs (by rw [HK1.out]; omega)
                rw [HK1.out] at hkp
                refine hkp.mono ?_
                rintro e w10 ⟨rfl, hg10⟩
                have SS10 := Lib.hid (SS9.out.grown HS.out hg10)
                have AL10 := Lib.hid (AL9.out.grown hg10)
                have RR10 := Lib.hid (RR9.out.grown hg10)
                clear hkp hg10 SS9 AL9 RR9 XR9 BLK9
                have hA2l : A2.length ≤ 1000 := by rw [HNA2.out]; omega
                obtain ⟨ρ2, hρ2⟩ : ∃ ρ2, rkL A2 = ρ2 := ⟨_, rfl⟩
                have HR2 := Lib.hid hρ2
                clear hρ2
                go_wp2_with fail
                refine (HS.out.rank _ _ F9 N A2 _ SS10.out.fld SS10.out.1 hA2l).mono ?_
                rw [HR2.out]
                rintro e w11 ⟨rfl, hg11⟩
                have SS11 := Lib.hid (SS10.out.grown HS.out hg11)
                have AL11 := Lib.hid (AL10.out.grown hg11)
                have RR11 := Lib.hid (RR10.out.grown hg11)
                clear hg11 SS10 AL10 RR10
                go_wp2_with fail
                refine (refRank_any _ A2 _ AL11.out.bss hA2l HMA2.out).mono ?_
                rw [HR2.out]
                rintro e w12 ⟨rfl, hg12⟩
                have SS12 := Lib.hid (SS11.out.grown HS.out hg12)
                have AL12 := Lib.hid (AL11.out.grown hg12)
                have RR12 := Lib.hid (RR11.out.grown hg12)
                clear hg12 SS11 AL11 RR11
                go_wp2_with (first
                  | (at_builtin; refine wpList_append_rows rfl _ _ rfl rfl oa2 na2 ca2 A2 rfl HNA2.out AL12.out.bss (by omega) ?_; intro v13 w13 us13 hown13 hg13 hrow13; obtain ⟨o13, c13, rfl⟩ := ownsRow_form hown13; have HO13 := Lib.hid hown13; have G13 := Lib.hid hg13; have HR13 := Lib.hid hrow13; clear hown13 hg13 hrow13)
                  | (at_builtin; refine wpList_append_lies _ rfl _ _ _ rfl w12.heap.size 23 i0 _ 1 24 Try.underlying22 I0.out I1.out I2.out I3.out rfl (by omega) (.slice o13 na2 c13) na2 us13 rfl (HO13.out.alloc _)
                      ⟨w13.heap.size, 0, none⟩ 1 1 [.slice o5 N c5] rfl rfl (World.news_of_block (cs := #[.slice o5 N c5]) (t := 23) (fr := (0, 0)) (heap_alloc_new w13 _)) (by simp [Value.oneCell'])
                      (by omega) (by unfold maxLen; omega) (by omega) (by have := G13.out.size; simp; omega) (w13.heap.size + 1) (by simp) ?_; intro gg cap w14 hown14 hgrow14 hat14 hlt14; have HO14 := Lib.hid hown14; have HG14 := Lib.hid hgrow14; clear hown14 hgrow14 hat14 hlt14))
                have hmore := Rws.more (w0 := w12) (l := rr) HNA2.out HO13.out HR13.out (Bs.grown RR12.out.bs G13.out) (RR12.out.bs.rb w13) (Gr.refl w13) HO14.out HG14.out G13.out (Nat.le_refl _)
                have VB14 := Lib.hid hmore.1.bss
                have G14 := Lib.hid hmore.2
                have W3 := Lib.hid (show Wide N (A2 ++ [rr]) from fun q hq => by
                  rcases List.mem_append.1 hq with c | c
                  · exact HWA2.out q c
                  · rw [List.mem_singleton.1 c]; exact ⟨HRL.out, HRB.out⟩)
                have HL3' : Hid ((A2 ++ [rr]).length ≤ 1000) := Lib.hid (by rw [List.length_append, HNA2.out, List.length_singleton]; omega)
                have SS14 := Lib.hid (SS12.out.grown HS.out G14.out)
                have AL14 := Lib.hid (AL12.out.grown G14.out)
                have RR14 := Lib.hid (RR12.out.grown G14.out)
                have HOLD := Lib.hid (rk_old HWA2.out HRL.out)
                clear hmore HO13 G13 HR13 HO14 HG14 SS12 AL12 RR12 G14
                refine (refRank_any _ (A2 ++ [rr]) _ VB14.out HL3'.out (W3.out.may hn1')).mono ?_
                obtain ⟨ρ3, hρ3⟩ : ∃ ρ3, rkL (A2 ++ [rr]) = ρ3 := ⟨_, rfl⟩
                rw [hρ3]
                rw [hρ3, HR2.out] at HOLD
                clear hρ3
                rintro e w15 ⟨rfl, hg15⟩
                have SS15 := Lib.hid (SS14.out.grown HS.out hg15)
                have AL15 := Lib.hid (AL14.out.grown hg15)
                have RR15 := Lib.hid (RR14.out.grown hg15)
                clear hg15 SS14 AL14 RR14 VB14 W3 HL3'
                go_wp2_with fail
                refine (refRank_any _ A2 _ AL15.out.bss hA2l HMA2.out).mono ?_
                rw [HR2.out]
                rintro e w16 ⟨rfl, hg16⟩
                have SS16 := Lib.hid (SS15.out.grown HS.out hg16)
                have AL16 := Lib.hid (AL15.out.grown hg16)
                have RR16 := Lib.hid (RR15.out.grown hg16)
                clear hg16 SS15 AL15 RR15
                go_wp2_with fail
                refine (HS.out.has _ _ _ F9 N A2 rr _ SS16.out.fld SS16.out.1 hA2l RR16.out.bs (by rw [HRL.out]; omega)).mono ?_
                rintro e w17 ⟨bh, rfl, hbh, hg17⟩
                obtain rfl : bh = ((ρ3 : Int) == ρ2) := by
                  rw [Bool.eq_iff_iff, hbh]
                  refine ⟨fun c => ?_, fun c => ⟨HRL.out, ?_⟩⟩
                  · have := HOLD.out.2 c.2
                    simp
                    omega
                  · refine HOLD.out.1 ?_
                    simp at c
                    omega
                have SS17 := Lib.hid (SS16.out.grown HS.out hg17)
                have AL17 := Lib.hid (AL16.out.grown hg17)
                have RR17 := Lib.hid (RR16.out.grown hg17)
                clear hg17 hbh SS16 AL16 RR16
                go_wp2
                exact ⟨⟨ii + 1, F9, A2, us2, by omega, by go_num, ⟨by rw [HNA2.out]; omega, HWA2.out⟩, SS17.out, AL17.out, RR17.out⟩, by simp [intOf]; omega⟩
        · obtain rfl : ii = m := by omega
          have hAl : A.length ≤ 1000 := by rw [HNA.out]; omega
          have HMA : Hid (mayL A = true) := Lib.hid (HWA.out.may hn1')
          clear HAO
          go_wp2_with fail
          refine (refReduce_any _ A _ AL.out.bss hAl AL.out.bss.byt HMA.out).mono ?_
          rintro e w20 ⟨v20, R, rfl, hR, hg20, hred0⟩
          have hred : IsRed N A R := IsRed.widen HWA.out hred0
          obtain ⟨ps, hps⟩ := hred.redAt
          have HRED := Lib.hid hred
          have HPS := Lib.hid hps
          have SS20 := Lib.hid (SS.out.grown HS.out hg20)
          have RR20 := Lib.hid (RR.out.grown hg20)
          have VR20 := Lib.hid hR.bss
          obtain ⟨oR, cR, rfl, r1, r2, r3, r4⟩ := hR.bss
          obtain ⟨rn, hrn⟩ : ∃ rn, R.length = rn := ⟨_, rfl⟩
          rw [hrn] at VR20 r1 r4 ⊢
          have HRN := Lib.hid hrn
          have HR3 := Lib.hid r3
          have HR4 := Lib.hid r4
          have hrn64 : rn ≤ 64 := by
            rw [← hrn, ← hred.rank]
            exact Nat.le_trans (L.rk_le_cols HWA.out.supp) hn1'
          clear hred0 hred hps hR hg20 r3 r4 hrn AL SS RR
          go_wp2_with (first
            | (at_builtin; refine want_append_bytes rfl _ _ rfl w20.heap.size (.slice none 0 0) 0 [] rfl (World.ownsRow_nil _ _ _ _) o5 N c5 rr rfl RR20.out.bs (by omega) (Nat.le_refl _) ?_; intro v21 w21 hown21 hgrow21; rw [Nat.zero_add, List.nil_append] at hown21; obtain ⟨o21, c21, rfl⟩ := ownsRow_form hown21; have NW21 : Hid (New w20 w21 (.slice o21 N c21) rr) := Lib.hid (New.of_row (Gr.append (Gr.refl _) hgrow21 (fun _ h => by cases h)) RR20.out.bs.1 (by rw [HRL.out]; exact hown21)); clear hown21 hgrow21))
          go_loopw [16, 136] (fun sv i W => ∃ (t : Nat) (y : List Int), t ≤ rn ∧ i = .int .i64 t ∧ New w20 W sv y ∧ Want N A rr ps t y) (fun _ i _ => rn - (intOf i).toNat)
          case atStart => exact ⟨0, rr, by omega, rfl, NW21.out, Want.start ps HRL.out HRB.out⟩
          case round =>
            clear NW21
            obtain ⟨t, y, ht, rfl, hnw, hwt⟩ := hrel
            obtain ⟨oy, cy, hyf⟩ := hnw.bs.form
            subst hyf
            rw [hwt.len] at hnw ⊢
            have NW := Lib.hid hnw
            have WT := Lib.hid hwt
            clear hnw hwt
            by_cases hlt3 : t < rn
            · obtain ⟨aR, rfl⟩ : ∃ aR, oR = some aR := by
                cases oR with
                | none => exact absurd (HR3.out rfl) (by omega)
                | some aR => exact ⟨aR, rfl⟩
              have htl : t < R.length := by rw [HRN.out]; exact hlt3
              obtain ⟨u3, q0, hu3⟩ := HR4.out aR rfl t hlt3
              have q3 := cell_grown NW.out.1 q0
              have hu4 := Bs.grown hu3 NW.out.1
              have hwr := (HPS.out.wide.at t htl).1
              obtain ⟨ou3, cu3, rfl⟩ := hu3.form
              rw [hwr] at q3 hu4
              have HU3 := Lib.hid hu4
              have HW3 := Lib.hid hwr
              have hld := HPS.out.lead t htl
              have hkk := HPS.out.lt t htl
              have HNX := Lib.hid (WT.out.next HRED.out HPS.out htl)
              obtain ⟨kk, hk⟩ : ∃ kk, ps.getD t 0 = kk := ⟨_, rfl⟩
              rw [hk] at hld hkk HNX
              obtain ⟨ay, cy', he, y1, y2, y3⟩ := Bs.at NW.out.bs (by rw [WT.out.len]; omega)
              rw [WT.out.len] at he y1 y3
              cases he
              have qy := y3 kk hkk
              have hzb := getD_byt WT.out.byt kk
              obtain ⟨z, hz⟩ : ∃ z, y.getD kk 0 = z := ⟨_, rfl⟩
              rw [hz] at qy hzb HNX
              have HLD := Lib.hid hld
              clear q0 hu3 hu4 hwr hld hk y3 hz htl
              go_wp2_with fail
              refine (refLead_any _ (R.getD t []) _ HU3.out (by rw [HW3.out]; omega)).mono ?_
              rw [HLD.out]
              rintro e w22 ⟨rfl, hg22⟩
              have qy2 := cell_grown hg22 qy
              have NW22 : Hid (Bs w22 (.slice (some ay) N cy) y) := Lib.hid (Bs.grown NW.out.bs hg22)
              have HU22 := Lib.hid (Bs.grown HU3.out hg22)
              have G22 := Lib.hid (Gr.trans NW.out.1 hg22)
              clear hg22 qy q3 NW HU3
              go_wp2_with fail
              refine (refAxpy_new z _ _ (R.getD t []) y _ hzb HU22.out NW22.out (by rw [WT.out.len, HW3.out]) (by rw [HW3.out]; omega)).mono ?_
              rintro e w23 ⟨v23, rfl, hnw⟩
              have NW23 := Lib.hid (New.under G22.out hnw)
              clear hnw
              go_wp2
              exact ⟨⟨t + 1, _, by omega, by go_num, NW23.out, HNX.out⟩, by simp [intOf]; omega⟩
            · obtain rfl : t = rn := by omega
              have HWR : Hid (IsRest N A rr y) := Lib.hid (Want.done (R := R) (by rw [HRN.out]; exact WT.out) HRED.out HPS.out)
              have hyl := WT.out.len
              have SS24 := Lib.hid (SS20.out.grown HS.out NW.out.1)
              have RR24 := Lib.hid (RR20.out.grown NW.out.1)
              have VR24 := Lib.hid (Bss.grown VR20.out NW.out.1)
              have Y24 := Lib.hid NW.out.bs
              clear WT NW HR3 HR4 SS20 RR20 VR20
              go_wp2_with fail
              refine (HS.out.rest _ _ _ F2 N A rr _ SS24.out.fld SS24.out.1 hAl RR24.out.bs HRL.out).mono ?_
              rintro e w25 ⟨v25, y2, rfl, hy2, hrest, hg25⟩
              have HYE := Lib.hid (HWR.out.unique hrest HRED.out)
              have hy2l := hrest.1
              obtain ⟨oy2, cy2, rfl⟩ := hy2.form
              rw [hy2l] at hy2 ⊢
              have Y25' := Lib.hid hy2
              have SS25 := Lib.hid (SS24.out.grown HS.out hg25)
              have RR25 := Lib.hid (RR24.out.grown hg25)
              have VR25 := Lib.hid (Bss.grown VR24.out hg25)
              have Y25 := Lib.hid (Bs.grown Y24.out hg25)
              clear hy2 hrest hg25 hy2l SS24 RR24 VR24 Y24
              go_wp2_with (first
                | (at_builtin; refine want_append_bytes rfl _ _ rfl w25.heap.size (.slice none 0 0) 0 [] rfl (World.ownsRow_nil _ _ _ _) o5 N c5 rr rfl RR25.out.bs (by omega) (Nat.le_refl _) ?_; intro v26 w26 hown26 hgrow26; rw [Nat.zero_add, List.nil_append] at hown26; obtain ⟨o26, c26, rfl⟩ := ownsRow_form hown26; have HO26 := Lib.hid hown26; have G26 : Hid (Gr w25 w26) := Lib.hid (Gr.append (Gr.refl _) hgrow26 (fun _ h => by cases h)); clear hown26 hgrow26)
                | (at_builtin; refine want_append_bytes rfl _ _ rfl w25.heap.size (.slice o26 N c26) N rr rfl (HO26.out.alloc _) (some ⟨w26.heap.size, 0, none⟩) 1 1 [1] rfl (lit_bs1 [1] (by simp [Byt]) (by simp)) (by omega) (by have := G26.out.size; simp; omega) ?_; intro v27 w27 hown27 hgrow27; obtain ⟨o27, c27, rfl⟩ := ownsRow_form hown27; have HO27 := Lib.hid hown27; have G27 : Hid (Gr w25 w27) := Lib.hid (Gr.append (Gr.alloc G26.out _ _) hgrow27 (ownsRow_base HO26.out)); clear hown27 hgrow27))
              have hlong : (rr ++ [1]).length = N + 1 := by rw [List.length_append, HRL.out]; rfl
              have NW27 : Hid (New w25 w27 (.slice o27 (N + 1) c27) (rr ++ [1])) := Lib.hid (New.of_row G27.out (fun x hx => by
                rcases List.mem_append.1 hx with c | c
                · exact HRB.out x c
                · rw [List.mem_singleton.1 c]; unfold Byt; omega) (by rw [hlong]; exact HO27.out))
              have SS27 := Lib.hid (SS25.out.grown HS.out G27.out)
              have RR27 := Lib.hid (RR25.out.grown G27.out)
              have VR27 := Lib.hid (Bss.grown VR25.out G27.out)
              have Y27 := Lib.hid (Bs.grown Y25.out G27.out)
              have Y27' := Lib.hid (Bs.grown Y25'.out G27.out)
              have HLONG := Lib.hid hlong
              clear hlong HO26 HO27 G26 G27 SS25 RR25 VR25 Y25 Y25'
              refine (HS.out.restNe _ _ _ F2 N A (rr ++ [1]) _ SS27.out.fld SS27.out.1 hAl NW27.out.bs (by rw [HLONG.out]; omega) (by rw [HLONG.out]; omega)).mono ?_
              rintro e w28 ⟨u28, rfl, hu28, hg28⟩
              obtain ⟨o28, c28, rfl⟩ := hu28.form
              have SS28 := Lib.hid (SS27.out.grown HS.out hg28)
              have RR28 := Lib.hid (RR27.out.grown hg28)
              have VR28 := Lib.hid (Bss.grown VR27.out hg28)
              have Y28 := Lib.hid (Bs.grown Y27.out hg28)
              have Y28' := Lib.hid (Bs.grown Y27'.out hg28)
              clear hu28 hg28 SS27 RR27 VR27 Y27 Y27' NW27 HLONG
              go_wp2_with fail
              refine (same_any _ _ y2 y _ Y28'.out Y28.out).mono ?_
              rw [HYE.out, beq_self_eq_true]
              rintro e w29 ⟨rfl, hg29⟩
              have SS29 := Lib.hid (SS28.out.grown HS.out hg29)
              have RR29 := Lib.hid (RR28.out.grown hg29)
              have VR29 := Lib.hid (Bss.grown VR28.out hg29)
              clear hg29 SS28 RR28 VR28 Y28 Y28'
              go_wp2_with fail
              refine (HS.out.rows _ _ F2 N A _ SS29.out.fld SS29.out.1 hAl).mono ?_
              rintro e w30 ⟨v30, R2, rfl, hrw, hred2, hg30⟩
              obtain rfl : R2 = R := hred2.unique HRED.out
              have SS30 := Lib.hid (SS29.out.grown HS.out hg30)
              have RR30 := Lib.hid (RR29.out.grown hg30)
              have VR30 := Lib.hid (Bss.grown VR29.out hg30)
              have VS30 := Lib.hid hrw.bss
              obtain ⟨o30, c30, rfl, _, _, _, _⟩ := hrw.bss
              rw [HRN.out] at VS30 ⊢
              clear hrw hred2 hg30 SS29 RR29 VR29
              go_wp2_with fail
              refine (rows_any _ _ R2 R2 _ VS30.out VR30.out).mono ?_
              rw [beq_self_eq_true]
              rintro e w31 ⟨rfl, hg31⟩
              have SS31 := Lib.hid (SS30.out.grown HS.out hg31)
              have RR31 := Lib.hid (RR30.out.grown hg31)
              clear hg31 SS30 RR30 VR30 VS30
              go_wp2_with (first
                | (at_builtin; refine want_append_bytes rfl _ _ rfl w31.heap.size (.slice none 0 0) 0 [] rfl (World.ownsRow_nil _ _ _ _) o5 N c5 rr rfl RR31.out.bs (by omega) (Nat.le_refl _) ?_; intro v26 w26 hown26 hgrow26; rw [Nat.zero_add, List.nil_append] at hown26; obtain ⟨o26, c26, rfl⟩ := ownsRow_form hown26; have HO26 := Lib.hid hown26; have G26 : Hid (Gr w31 w26) := Lib.hid (Gr.append (Gr.refl _) hgrow26 (fun _ h => by cases h)); clear hown26 hgrow26)
                | (at_builtin; refine want_append_bytes rfl _ _ rfl w31.heap.size (.slice o26 N c26) N rr rfl (HO26.out.alloc _) (some ⟨w26.heap.size, 0, none⟩) 1 1 [0] rfl (lit_bs1 [0] (by simp [Byt]) (by simp)) (by omega) (by have := G26.out.size; simp; omega) ?_; intro v27 w27 hown27 hgrow27; obtain ⟨o27, c27, rfl⟩ := ownsRow_form hown27; have HO27 := Lib.hid hown27; have G27 : Hid (Gr w31 w27) := Lib.hid (Gr.append (Gr.alloc G26.out _ _) hgrow27 (ownsRow_base HO26.out)); clear hown27 hgrow27))
              have hlong : (rr ++ [0]).length = N + 1 := by rw [List.length_append, HRL.out]; rfl
              have NW32 : Hid (New w31 w27 (.slice o27 (N + 1) c27) (rr ++ [0])) := Lib.hid (New.of_row G27.out (fun x hx => by
                rcases List.mem_append.1 hx with c | c
                · exact HRB.out x c
                · rw [List.mem_singleton.1 c]; unfold Byt; omega) (by rw [hlong]; exact HO27.out))
              have SS32 := Lib.hid (SS31.out.grown HS.out G27.out)
              have HLONG := Lib.hid hlong
              clear hlong HO26 HO27 G26 G27 SS31 RR31
              refine (HS.out.has _ _ _ F2 N A (rr ++ [0]) _ SS32.out.fld SS32.out.1 hAl NW32.out.bs (by rw [HLONG.out]; omega)).mono ?_
              rintro e w33 ⟨bh, rfl, hbh, hg33⟩
              obtain rfl : bh = false := by
                cases bh with
                | false => rfl
                | true => have := (hbh.1 rfl).1; rw [HLONG.out] at this; omega
              have G33 := Lib.hid (Gr.trans SS32.out.2.2.1 hg33)
              clear hbh hg33 SS32 NW32 HLONG
              go_wp2_with fail
              refine (spanWakes_any HS.out _).mono ?_
              rintro e w34 ⟨rfl, hg34⟩
              have G34 := Lib.hid (Gr.trans G1.out (Gr.trans G33.out hg34))
              clear hg34
              go_wp2
              go_ret
              exact ⟨rfl, G34.out⟩
    · go_wp2_with fail
      refine (spanWakes_any HS.out _).mono ?_
      rintro e w34 ⟨rfl, hg34⟩
      have G34 := Lib.hid (Gr.trans G1.out (Gr.trans S2.out.2.2.1 hg34))
      clear hg34
      go_wp2
      go_ret
      exact ⟨rfl, G34.out⟩
  · go_enter Try.func3, Try.ntmps3
    go_wp2_with fail
    refine (new_st _).mono ?_
    rintro e w1 ⟨b, rfl, hs⟩
    have F1 := Lib.hid hs.2
    have G1 := Lib.hid hs.1
    clear hs
    go_wp2_with fail
    refine (HS.out.newNe _ n _ F1.out hin).mono ?_
    rintro e w2 ⟨rfl, hg⟩
    have G2 := Lib.hid (Gr.trans G1.out hg)
    clear hg
    by_cases hn0 : 0 ≤ n
    · have hn1 : 64 < n := by omega
      go_wp2_with fail
      refine (spanWakes_any HS.out _).mono ?_
      rintro e w34 ⟨rfl, hg34⟩
      have G34 := Lib.hid (Gr.trans G2.out hg34)
      clear hg34
      go_wp2
      go_ret
      exact ⟨rfl, G34.out⟩
    · have hn1 : n < 0 := by omega
      go_wp2_with fail
      refine (spanWakes_any HS.out _).mono ?_
      rintro e w34 ⟨rfl, hg34⟩
      have G34 := Lib.hid (Gr.trans G2.out hg34)
      clear hg34
      go_wp2
      go_ret
      exact ⟨rfl, G34.out⟩
end Go.Proofs.Ytmeojdnalhaooaa
