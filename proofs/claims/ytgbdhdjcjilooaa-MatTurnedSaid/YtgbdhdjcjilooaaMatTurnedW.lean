/-
  Law MatTurned, walked: its rank is its columns'; a product's is no greater.
-/
import Derived.Test.YtgbdhdjcjilooaaMs
import Derived.Deep.RegionHeld3
namespace Go.Proofs.Ytgbdhdjcjilooaa
open Go.RowKit

set_option maxRecDepth 100000 in
set_option maxHeartbeats 1600000 in
theorem matTurned_walk (R : MatOk) (vl vr : Value) (l r : List Int) (n k : Int) (w : World) (hl : Bs w vl l) (hr : Bs w vr r) :
    Calls Try.prog 6 #[vl, vr, .int .i64 n, .int .i64 k] w fun e w' => e = .returned (.bool true) ∧ Gr w w' := by
  obtain ⟨i0, hi0, hz0, hz1, hz2⟩ := info_parts info22
  have I0 := Lib.hid hi0
  have I1 := Lib.hid hz0
  have I2 := Lib.hid hz1
  have I3 := Lib.hid hz2
  clear hi0 hz0 hz1 hz2
  obtain ⟨i5, hi0, hz0, hz1, hz2⟩ := info_parts infoB
  have J0 := Lib.hid hi0
  have J1 := Lib.hid hz0
  have J2 := Lib.hid hz1
  have J3 := Lib.hid hz2
  clear hi0 hz0 hz1 hz2
  have H := Lib.hid R
  have HL := Lib.hid hl
  have HR := Lib.hid hr
  clear R hl hr
  obtain ⟨p, hp, hp2⟩ : ∃ p : Nat, n % 10 = p ∧ p < 10 := ⟨(n % 10).toNat, by omega, by omega⟩
  obtain ⟨q, hq, hq2⟩ : ∃ q : Nat, k % 10 = q ∧ q < 10 := ⟨(k % 10).toNat, by omega, by omega⟩
  have HP := Lib.hid hp
  have HQ := Lib.hid hq
  clear hp hq
  go_enter Try.func6, Try.ntmps6
  go_wp2_with fail
  refine (within_any n 10 (by omega) (by omega) _).mono ?_
  rintro e w' ⟨rfl, rfl⟩
  rw [HP.out]
  go_wp2_with fail
  refine (within_any k 10 (by omega) (by omega) _).mono ?_
  rintro e w' ⟨rfl, rfl⟩
  rw [HQ.out]
  go_wp2_with fail
  refine (cut_any vl l 130 w HL.out (by omega)).mono ?_
  rintro e w' ⟨v1, rfl, hv1, rfl⟩
  have hlen1 : (l.take 130).length ≤ 130 := by simp; omega
  generalize l.take 130 = l1 at *
  have V1 := Lib.hid hv1
  clear hv1
  go_wp2_with fail
  obtain ⟨N, hN, hN1, hN2⟩ : ∃ N : Nat, (1 : Int) + p = N ∧ 1 ≤ N ∧ N ≤ 10 := ⟨1 + p, by omega, by omega, by omega⟩
  rw [hN]
  have HN := Lib.hid hN
  clear hN
  refine (even_any v1 N l1 _ V1.out hN1 (by omega) (by omega)).mono ?_
  rintro e w1 ⟨va, rfl, ha, hg1⟩
  have WA := Lib.hid (even_wide (Bs.byt' V1.out) hN1 : Wide N (evenL N l1))
  have hAl : (evenL N l1).length ≤ 14 := by rw [evenL_length]; exact evenN_le _ _
  generalize evenL N l1 = A at *
  have VA := Lib.hid (Rws.bss ha)
  have G1 := Lib.hid hg1
  clear ha hg1
  go_wp2_with fail
  refine (cut_any vr r 100 _ (Bs.grown HR.out G1.out) (by omega)).mono ?_
  rintro e w' ⟨v2, rfl, hv2, rfl⟩
  have hlen2 : (r.take 100).length ≤ 100 := by simp; omega
  generalize r.take 100 = l2 at *
  have V2 := Lib.hid hv2
  clear hv2
  go_wp2_with fail
  obtain ⟨K, hK, hK1, hK2⟩ : ∃ K : Nat, (1 : Int) + q = K ∧ 1 ≤ K ∧ K ≤ 10 := ⟨1 + q, by omega, by omega, by omega⟩
  rw [hK]
  have HK := Lib.hid hK
  clear hK
  refine (even_any v2 K l2 _ V2.out hK1 (by omega) (by omega)).mono ?_
  rintro e w2 ⟨vx, rfl, hx, hg2⟩
  have WX := Lib.hid (even_wide (Bs.byt' V2.out) hK1 : Wide K (evenL K l2))
  have hXl : (evenL K l2).length ≤ 14 := by rw [evenL_length]; exact evenN_le _ _
  generalize evenL K l2 = X at *
  have VX := Lib.hid (Rws.bss hx)
  have VA2 := Lib.hid (Bss.grown VA.out hg2)
  have G2 := Lib.hid (Gr.trans G1.out hg2)
  clear hx hg2 G1 VA V1 V2 HL HR
  go_wp2_with fail
  refine (new_st _).mono ?_
  rintro e w3 ⟨b, rfl, hs⟩
  have F3 := Lib.hid hs.2
  have G3 := Lib.hid (Gr.trans G2.out hs.1)
  have VA3 := Lib.hid (Bss.grown VA2.out hs.1)
  have VX3 := Lib.hid (Bss.grown VX.out hs.1)
  clear hs G2 VA2 VX
  obtain ⟨oa, ca, rfl, a1, a2, a3, a4⟩ := VA3.out
  obtain ⟨ox, cx, rfl, x1, x2, x3, x4⟩ := VX3.out
  generalize hm : A.length = m at *
  generalize hm2 : X.length = m2 at *
  have HM := Lib.hid hm
  have HM2 := Lib.hid hm2
  have HA := Lib.hid a4
  have hoa : m = 0 ∨ ∃ a, oa = some a := by
    cases oa with
    | none => exact .inl (by have := a3 rfl; omega)
    | some a => exact .inr ⟨a, rfl⟩
  clear a2 a3 a4 x2 x3 x4 hm hm2
  go_wp2_with fail
  go_loopw [12, 13] (fun t j wr => ∃ jj : Nat, jj ≤ N ∧ (m = 0 → jj = 0) ∧ j = .int .i64 jj ∧ Rws w3.heap.size wr t (trZ jj A) ∧ Gr w3 wr) (fun _ j _ => N - (intOf j).toNat)
  case atStart => exact ⟨0, by omega, fun _ => rfl, rfl, Rws.nil _ _, Gr.refl _⟩
  case round =>
    obtain ⟨wo, hwo⟩ : ∃ x, x = wr := ⟨_, rfl⟩
    subst hwo
    obtain ⟨j, hj, hj0, rfl, hrs, hg⟩ := hrel
    by_cases hgo : j < N ∧ 0 < m
    · obtain ⟨hlt, hm0⟩ := hgo
      obtain ⟨a, rfl⟩ : ∃ a, oa = some a := by
        rcases hoa with c1 | c1
        · omega
        · exact c1
      obtain ⟨us, ho, hr⟩ := hrs
      rw [trZ_length] at ho hr
      obtain ⟨oo, co, rfl⟩ := ownsRow_form ho
      have HO := Lib.hid ho
      have HRR := Lib.hid hr
      have HG := Lib.hid hg
      clear ho hr hg hoa hj0
      go_wp2
      go_loopw [14, 45] (fun c i W => ∃ ii : Nat, ii ≤ m ∧ i = .int .i64 ii ∧ W.ownsRow wo.heap.size 5 1 c ii ((colZ (A.take ii) j).map (Value.int .u8)) ∧ Gr wo W) (fun _ i _ => m - (intOf i).toNat)
      case atStart => exact ⟨0, by omega, rfl, World.ownsRow_nil _ _ _ _, Gr.refl _⟩
      case round =>
        obtain ⟨i, hi, rfl, hown, hgi⟩ := hrel
        by_cases hlt2 : i < m
        · obtain ⟨u, q0, hu⟩ := HA.out a rfl i hlt2
          have q1 := cell_grown (Gr.trans HG.out hgi) q0
          have hwl := (WA.out.at i (by rw [HM.out]; exact hlt2)).1
          obtain ⟨_, ou, cu, rfl, y1, y2, y3, y4⟩ := Bs.grown hu (Gr.trans HG.out hgi)
          rw [hwl] at q1 y1 y4
          obtain ⟨bb, rfl⟩ : ∃ bb, ou = some bb := by
            cases ou with
            | none => exact absurd (y3 rfl) (by omega)
            | some bb => exact ⟨bb, rfl⟩
          have q2 := y4 bb rfl j hlt
          obtain ⟨oc, cc, rfl⟩ := ownsRow_form hown
          have HOC := Lib.hid hown
          have HGI := Lib.hid hgi
          have HCS : Hid ((colZ (A.take i) j).map (Value.int .u8) ++ [.int .u8 ((A.getD i []).getD j 0)] = (colZ (A.take (i + 1)) j).map (Value.int .u8)) := Lib.hid (by
            rw [colZ_succ A j i (by rw [HM.out]; exact hlt2), List.map_append]
            rfl)
          clear hown hgi q0 hu hwl y2 y3 y4
          generalize (colZ (A.take i) j).map (Value.int .u8) = cs at *
          generalize (A.getD i []).getD j 0 = z at *
          have hbase : wo.heap.size ≤ wr.heap.size := HGI.out.size
          go_wp2_with (at_builtin; refine wpList_append_lies _ rfl _ _ _ rfl wo.heap.size 5 i5 _ 1 1 Try.underlying22 J0.out J1.out J2.out J3.out rfl (by omega) (.slice oc i cc) i cs rfl (HOC.out.alloc _) ⟨wr.heap.size, 0, none⟩ 1 1 [.int .u8 z] rfl rfl (World.news_of_block (cs := #[.int .u8 z]) (t := 5) (fr := (0, 0)) (heap_alloc_new wr _)) (by simp [Value.oneCell']) (by omega) (by unfold maxLen; omega) (by omega) (by simp; omega) (wr.heap.size + 1) (by simp) ?_; intro gg cap w4 hown1 hgrow hat hlt4)
          exact ⟨⟨i + 1, by omega, by go_num, by rw [← HCS.out]; exact hown1, Gr.append (Gr.alloc HGI.out _ _) hgrow (ownsRow_base HOC.out)⟩, by simp [intOf]; omega⟩
        · obtain rfl : m = i := by omega
          rw [List.take_of_length_le (by rw [HM.out]; omega)] at hown
          have hnw : New wo wr u14 (colZ A j) := New.of_row hgi (colZ_byt WA.out j) (by rw [colZ_length, HM.out]; exact hown)
          obtain ⟨oc, mc, cc, rfl⟩ := New.form3 hnw
          have HW := Lib.hid hnw
          have HGI := Lib.hid hgi
          clear hnw hown hgi
          have hbase : w3.heap.size ≤ wr.heap.size := Nat.le_trans HG.out.size HGI.out.size
          go_wp2_with (at_builtin; refine wpList_append_lies _ rfl _ _ _ rfl w3.heap.size 22 i0 _ 1 24 Try.underlying24 I0.out I1.out I2.out I3.out rfl (by omega) (.slice oo j co) j us rfl ((HO.out.of_gr HGI.out).alloc _) ⟨wr.heap.size, 0, none⟩ 1 1 [.slice oc mc cc] rfl rfl (World.news_of_block (cs := #[.slice oc mc cc]) (t := 22) (fr := (0, 0)) (heap_alloc_new wr _)) (by simp [Value.oneCell']) (by omega) (by unfold maxLen; omega) (by omega) (by simp; omega) (wr.heap.size + 1) (by simp) ?_; intro gg cap w4 hown1 hgrow hat hlt4)
          obtain ⟨f1, f2⟩ := Rws.more (l := colZ A j) (trZ_length j A) HO.out HRR.out (New.bs HW.out) (New.rb HW.out _) HGI.out hown1 hgrow HG.out (Nat.le_refl _)
          rw [← trZ_succ] at f1
          exact ⟨⟨j + 1, by omega, fun h => absurd h (by omega), by go_num, f1, f2⟩, by simp [intOf]; omega⟩
    · have HT : Hid (Bss wo u12 (if m = 0 then [] else trZ N A)) := Lib.hid (by
        by_cases e : m = 0
        · rw [if_pos e]
          have := hj0 e
          subst this
          exact hrs.bss
        · obtain rfl : j = N := by omega
          rw [if_neg e]
          exact hrs.bss)
      have HTR : Hid (rkL (if m = 0 then [] else trZ N A) = rkL A) := Lib.hid (by
        by_cases e : m = 0
        · rw [if_pos e]
          obtain rfl : A = [] := List.eq_nil_of_length_eq_zero (by rw [HM.out]; exact e)
          rfl
        · rw [if_neg e]
          exact trZ_rk WA.out)
      have HTM : Hid (mayL (if m = 0 then [] else trZ N A) = true ∧ (if m = 0 then [] else trZ N A).length ≤ 1000) := Lib.hid (by
        by_cases e : m = 0
        · rw [if_pos e]
          exact ⟨rfl, by simp⟩
        · rw [if_neg e]
          exact ⟨Wide.may (trZ_wide WA.out N) (by rw [HM.out]; omega), by rw [trZ_length]; omega⟩)
      have HG := Lib.hid hg
      generalize (if m = 0 then [] else trZ N A) = TT at *
      clear hrs hg hj0
      clear HA hoa HN HK
      generalize hrk : rkL A = ρ at *
      have HRK := Lib.hid hrk
      clear hrk
      go_wp2_with fail
      all_goals
        refine (H.out.rank _ _ TT _ (IsF.grown F3.out HG.out) HT.out HTM.out.2 HTM.out.1).mono ?_
        rintro e w5 ⟨rfl, hg5⟩
        rw [HTR.out]
        have HG5 := Lib.hid (Gr.trans HG.out hg5)
        clear hg5
        go_wp2_with fail
        refine (H.out.rank _ _ A _ (IsF.grown F3.out HG5.out) (Bss.grown VA3.out HG5.out) (by rw [HM.out]; omega) (Wide.may WA.out (by omega))).mono ?_
        rintro e w6 ⟨rfl, hg6⟩
        rw [HRK.out]
        have HG6 := Lib.hid (Gr.trans HG5.out hg6)
        clear hg6
        go_wp2_with fail
        have hwx : wd X ≤ 10 ∧ Wide (wd X) X := by
          by_cases e : X = []
          · subst e
            exact ⟨by rw [wd_nil]; omega, Wide.nil _⟩
          · rw [WX.out.wd (List.length_pos_iff.2 e)]
            exact ⟨hK2, WX.out⟩
        have HWX := Lib.hid hwx.2
        have hwx := hwx.1
        have hMA := Lib.hid (Wide.may WA.out (by omega))
        have hMX := Lib.hid (Wide.may WX.out (by omega))
        by_cases hok : m = 0 ∨ m2 = N
        · refine (H.out.mul _ _ _ A X _ (IsF.grown F3.out HG6.out) (Bss.grown VA3.out HG6.out) (Bss.grown VX3.out HG6.out) (by rw [HM.out]; omega) (by rw [HM2.out]; omega) hMA.out hMX.out (by
            rcases hok with e | e
            · exact .inl (List.eq_nil_of_length_eq_zero (by rw [HM.out]; exact e))
            · by_cases e2 : m = 0
              · exact .inl (List.eq_nil_of_length_eq_zero (by rw [HM.out]; exact e2))
              · exact .inr (by rw [HM2.out, WA.out.wd (by rw [HM.out]; omega), e]))).mono ?_
          rintro e w7 ⟨vp, out, rfl, hp7, hg7, hmul⟩
          have hol : out.length = m := by rw [hmul.length, HM.out]
          have HRO := Lib.hid (hmul.rk WA.out HWX.out)
          have HMO := Lib.hid (Wide.may hmul.1 (by omega))
          have HP := Lib.hid hp7
          obtain ⟨op, cp, rfl, p1, p2, p3, p4⟩ := hp7
          rw [hol] at HP p1 ⊢
          have HOL := Lib.hid hol
          have HG7 := Lib.hid (Gr.trans HG6.out hg7)
          clear p1 p2 p3 p4 hol hg7 hmul
          generalize hro : rkL out = ρo at *
          have HR1 := Lib.hid hro
          clear hro
          generalize hrx : rkL X = ρx at *
          have HR2 := Lib.hid hrx
          clear hrx
          have hle : ρo ≤ ρ ∧ ρo ≤ ρx := by have := HRO.out; rw [HRK.out] at this; exact this
          have hcs2 : ¬ 0 < m ∨ (0 < m ∧ ((m2 : Int) != (N : Int)) = false) := by
            by_cases e : 0 < m
            · exact .inr ⟨e, by simp; omega⟩
            · exact .inl e
          clear hok hgo
          rcases hcs2 with e | ⟨e, e'⟩
          all_goals
            go_wp2_with fail
            refine (H.out.rank _ _ out _ (IsF.grown F3.out HG7.out) HP.out (by rw [HOL.out]; omega) HMO.out).mono ?_
            rintro e w8 ⟨rfl, hg8⟩
            rw [HR1.out]
            have HG8 := Lib.hid (Gr.trans HG7.out hg8)
            clear hg8
            go_wp2_with fail
            refine (H.out.rank _ _ A _ (IsF.grown F3.out HG8.out) (Bss.grown VA3.out HG8.out) (by rw [HM.out]; omega) hMA.out).mono ?_
            rintro e w9 ⟨rfl, hg9⟩
            rw [HRK.out]
            have HG9 := Lib.hid (Gr.trans HG8.out hg9)
            clear hg9
            go_wp2_with fail
            refine (H.out.rank _ _ X _ (IsF.grown F3.out HG9.out) (Bss.grown VX3.out HG9.out) (by rw [HM2.out]; omega) hMX.out).mono ?_
            rintro e w10 ⟨rfl, hg10⟩
            rw [HR2.out]
            have HG10 := Lib.hid (Gr.trans HG9.out hg10)
            clear hg10
            go_wp2_with fail
            all_goals
              refine (matWakes_any H.out _).mono ?_
              rintro e w11 ⟨rfl, hg11⟩
              have HG11 := Lib.hid (Gr.trans HG10.out hg11)
              clear hg11
              go_wp2_with fail
              go_ret
              exact ⟨rfl, Gr.trans G3.out HG11.out⟩
        · first
          | (exfalso; omega)
          | (have hb : ((m2 : Int) != (N : Int)) = true := by simp; omega
             have hm0 : 0 < m := by omega
             refine (H.out.mulNe _ _ _ A X _ (IsF.grown F3.out HG6.out) (Bss.grown VA3.out HG6.out) (Bss.grown VX3.out HG6.out) (by rw [HM.out]; omega) (by rw [HM2.out]; omega) hMA.out hMX.out (fun c => by
               have := HM.out
               rw [c] at this
               simp at this
               omega) (by rw [HM2.out, WA.out.wd (by rw [HM.out]; omega)]; omega)).mono ?_
             rintro e w7 ⟨vp, rfl, hp7, hg7⟩
             obtain ⟨op, cp, rfl, p1, p2, p3, p4⟩ := hp7
             have HG7 := Lib.hid (Gr.trans HG6.out hg7)
             clear hok hgo p2 p3 p4 hg7
             go_wp2_with fail
             refine (matWakes_any H.out _).mono ?_
             rintro e w11 ⟨rfl, hg11⟩
             have HG11 := Lib.hid (Gr.trans HG7.out hg11)
             clear hg11
             go_wp2_with fail
             go_ret
             exact ⟨rfl, Gr.trans G3.out HG11.out⟩)
end Go.Proofs.Ytgbdhdjcjilooaa
