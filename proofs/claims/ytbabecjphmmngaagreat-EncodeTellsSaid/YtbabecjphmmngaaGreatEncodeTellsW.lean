/-
  Law EncodeTells, walked.
-/
import Derived.Test.YtbabecjphmmngaaGreatMgj
import Derived.Deep.CutBlock
namespace Go.Proofs.YtbabecjphmmngaaGreat
open Go.RowKit

set_option maxRecDepth 100000 in
set_option maxHeartbeats 6400000 in
theorem encodeTells_walk {At : World → Value → (Nat → Prop) → Nat → Nat → Nat → Nat → List (List Int) → Prop} (P : PreOk) (O : SystemOk) (E : EncOk At) (K H S a b c sd : Int) (vd vl : Value) (D l : List Int) (fit : Bool) (w : World) (hd : Bs w vd D) (hz : Zs w vl l) :
    Calls Tryz.prog 3 #[par K H S, .int .i64 a, .int .i64 b, .int .i64 c, .int .u64 sd, vd, vl, .bool fit] w fun e w' => e = .returned (.bool true) ∧ Gr w w' := by
  have HO := Lib.hid O
  have HPR := Lib.hid P
  have HE := Lib.hid E
  have HD := Lib.hid hd
  have HZ := Lib.hid hz
  obtain ⟨od, cd, rfl⟩ := hd.form
  obtain ⟨ol, ml, cl, rfl⟩ := hz.form3
  obtain ⟨nd, hnd⟩ : ∃ n, D.length = n := ⟨_, rfl⟩
  rw [hnd] at HD ⊢
  have HND := Lib.hid hnd
  clear O P E hd hz hnd
  obtain ⟨s0, hs0, hs1⟩ : ∃ s : Nat, sd % 4294967296 = s ∧ s < 4294967296 := ⟨(sd % 4294967296).toNat, by omega, by omega⟩
  have hw32 : IntKind.u32.wrap sd = (s0 : Int) := by rw [← hs0]; simp [IntKind.wrap, IntKind.bits, IntKind.signed]
  have HP0 : Hid (Par (w.alloc (.cells #[.int .i64 K, .int .i64 H, .int .i64 S] 23)) w.heap.size K H S) := Lib.hid (heap_alloc_new _ _)
  have HG0 : Hid (Gr w (w.alloc (.cells #[.int .i64 K, .int .i64 H, .int .i64 S] 23))) := Lib.hid (Gr.alloc (Gr.refl _) _ _)
  by_cases hbig : 400 < nd
  · go_enter Tryz.func3, Tryz.ntmps3
    go_wp2_with fail
    refine (encWakes_any HE.out _).mono ?_
    rintro e w2 ⟨rfl, hg2⟩
    have G2 := Lib.hid (Gr.trans HG0.out hg2)
    clear hg2
    go_wp2_with fail
    go_ret
    exact ⟨rfl, G2.out⟩
  · have hsm : nd ≤ 400 := by omega
    clear hbig
    go_enter Tryz.func3, Tryz.ntmps3
    go_wp2_with fail
    generalize w.alloc (.cells #[.int .i64 K, .int .i64 H, .int .i64 S] 23) = w3 at *
    generalize w.heap.size = gp at *
    have c0 := HP0.out.cell0
    have c1 := HP0.out.cell1
    have c2 := HP0.out.cell2
    go_region_held3 (fun W => W.cell? ⟨gp, 0, none⟩ = some (.int .i64 K) ∧ W.cell? ⟨gp, 1, none⟩ = some (.int .i64 H) ∧ W.cell? ⟨gp, 2, none⟩ = some (.int .i64 S)) (first | exact ⟨c10, c11, c12⟩ | exact ⟨cell_grown (Gr.alloc (Gr.refl _) _ _) c10, cell_grown (Gr.alloc (Gr.refl _) _ _) c11, cell_grown (Gr.alloc (Gr.refl _) _ _) c12⟩ | go_keep)
      (first | (go_at_call 5; refine (params_any a b c _).mono ?_; rintro e w1 ⟨rfl, hg⟩; have c10 := cell_grown hg (by exact c0); have c11 := cell_grown hg (by exact c1); have c12 := cell_grown hg (by exact c2); have G1 : Hid (Gr w3 w1) := Lib.hid (by exact hg); clear hg))
    have HF : Hid (Twos (w1.alloc (.cells #[.int .i64 K, .int .i64 H, .int .i64 S, .int .i64 (1 + a % 16), .int .i64 (1 + b % 4), .int .i64 (1 + c % 24)] 23)) w1.heap.size) := Lib.hid (by
      intro t ht
      have hb := heap_alloc_new w1 (.cells #[.int .i64 K, .int .i64 H, .int .i64 S, .int .i64 (1 + a % 16), .int .i64 (1 + b % 4), .int .i64 (1 + c % 24)] 23)
      rw [cell_of_row _ _ (t * 3) _ _ _ hb, cell_of_row _ _ (t * 3 + 1) _ _ _ hb, cell_of_row _ _ (t * 3 + 2) _ _ _ hb]
      have : t = 0 ∨ t = 1 := by omega
      rcases this with rfl | rfl
      · exact ⟨_, _, _, rfl, rfl, rfl⟩
      · exact ⟨_, _, _, rfl, rfl, rfl⟩)
    have HGW : Hid (Gr w3 (w1.alloc (.cells #[.int .i64 K, .int .i64 H, .int .i64 S, .int .i64 (1 + a % 16), .int .i64 (1 + b % 4), .int .i64 (1 + c % 24)] 23))) := Lib.hid (Gr.alloc G1.out _ _)
    have HG1 := Lib.hid (Gr.trans HG0.out HGW.out)
    clear c0 c1 c2 c10 c11 c12 G1 HGW HP0 HG0
    generalize w1.alloc (.cells #[.int .i64 K, .int .i64 H, .int .i64 S, .int .i64 (1 + a % 16), .int .i64 (1 + b % 4), .int .i64 (1 + c % 24)] 23) = W2 at *
    generalize w1.heap.size = gl at *
    go_wp2_with fail
    go_loopw [38] (fun i wr => ∃ t : Nat, t ≤ 2 ∧ i = .int .i64 t ∧ Twos wr gl ∧ Gr w wr) (fun i _ => 2 - (intOf i).toNat)
    case atStart => exact ⟨0, by omega, rfl, HF.out, HG1.out⟩
    case round =>
      clear HF HG1
      obtain ⟨wo, hwo⟩ : ∃ x, x = wr := ⟨_, rfl⟩
      subst hwo
      obtain ⟨t, ht, rfl, hf, hg⟩ := hrel
      have HF := Lib.hid hf
      have HG := Lib.hid hg
      clear hf hg
      by_cases hlt : t < 2
      · obtain ⟨p, q, r, q0, q1, q2⟩ := HF.out t hlt
        go_upto_region 7 with fail
        have hga : Gr wo (wo.alloc (.cells #[.int .i64 p, .int .i64 q, .int .i64 r] 23)) := Gr.alloc (Gr.refl _) _ _
        have HG3 := Lib.hid (Gr.trans HG.out hga)
        have HF3 := Lib.hid (HF.out.grown hga)
        have HQP : Hid (Par (wo.alloc (.cells #[.int .i64 p, .int .i64 q, .int .i64 r] 23)) wo.heap.size p q r) := Lib.hid (heap_alloc_new _ _)
        clear hga HF HG q0 q1 q2
        generalize wo.alloc (.cells #[.int .i64 p, .int .i64 q, .int .i64 r] 23) = W3 at *
        generalize wo.heap.size = gq at *
        go_cut [49] (fun bv W => bv = .bool (fit && decide (MayP p q r)) ∧ Gr W3 W)
        case first =>
          have c0 := HQP.out.cell0
          have c1 := HQP.out.cell1
          have c2 := HQP.out.cell2
          cases fit with
          | false =>
            go_wp2_with fail
            go_meet
            exact ⟨rfl, Gr.refl _⟩
          | true =>
            go_wp2_with fail
            refine (HPR.out.may p q r _).mono ?_
            rintro e w5 ⟨rfl, hg5⟩
            have G5 := Lib.hid hg5
            clear hg5
            go_wp2_with fail
            go_meet
            exact ⟨rfl, G5.out⟩
        case rest =>
          obtain ⟨rfl, hgc⟩ := hcut
          have HQC := Lib.hid (HQP.out.grown hgc)
          have HFC := Lib.hid (HF3.out.grown hgc)
          have HGC := Lib.hid (Gr.trans HG3.out hgc)
          clear HQP HF3 HG3 hgc
          go_upto_if 49 with fail
          go_cut [19, 20] (fun sv xv W => ∃ s X ox nx cx, sv = .int .u32 ((s : Nat) : Int) ∧ s < 4294967296 ∧ xv = .slice ox nx cx ∧ Bs W (.slice ox nx cx) X ∧ X.length = nx ∧ nx ≤ 400 ∧ Gr wc W)
          case first =>
            cases hfm : (fit && decide (MayP p q r)) with
            | false =>
              go_wp2_with fail
              go_meet
              exact ⟨s0, D, od, nd, cd, rfl, hs1, rfl, HD.out.grown HGC.out, HND.out, hsm, Gr.refl _⟩
            | true =>
              have hm : MayP p q r := by
                rw [Bool.and_eq_true] at hfm
                exact of_decide_eq_true hfm.2
              obtain ⟨k, rfl⟩ : ∃ k : Nat, p = k := ⟨p.toNat, by unfold MayP at hm; omega⟩
              obtain ⟨r, rfl⟩ : ∃ k : Nat, r = k := ⟨r.toNat, by unfold MayP at hm; omega⟩
              have hb : 1 ≤ k ∧ k ≤ 16 ∧ 1 ≤ r ∧ r ≤ 24 := by unfold MayP at hm; omega
              obtain ⟨b1, b2, b3, b4⟩ := hb
              obtain ⟨Q, hQ⟩ : ∃ Q, k * r = Q := ⟨_, rfl⟩
              have hQ1 : 1 ≤ Q := by rw [← hQ]; exact Nat.mul_pos b1 b3
              have hQ2 : Q ≤ 384 := by rw [← hQ]; exact Nat.le_trans (Nat.mul_le_mul b2 b4) (by omega)
              have hQi : (k : Int) * (r : Int) = (Q : Int) := by rw [← hQ]; simp
              have hQw : IntKind.i64.wrap (Q : Int) = Q := by simp [IntKind.wrap, IntKind.bits, IntKind.signed]; omega
              have c0 := HQC.out.cell0
              have c1 := HQC.out.cell1
              have c2 := HQC.out.cell2
              clear hQ hm hfm
              go_wp2_with fail
              go_region_held3 (fun W => W.cell? ⟨gq, 0, none⟩ = some (.int .i64 (k : Int)) ∧ W.cell? ⟨gq, 1, none⟩ = some (.int .i64 q) ∧ W.cell? ⟨gq, 2, none⟩ = some (.int .i64 (r : Int))) (first | exact ⟨k20, k21, k22⟩ | exact ⟨k10, k11, k12⟩ | go_keep)
                (first
                  | (go_at_call 8; have hv := V1.out; refine (data_any _ D Q _ (HD.out.grown (Gr.trans HGC.out V1.out)) hQ1 (by omega)).mono ?_; rintro e v2 ⟨y2, rfl, hn2⟩; have k20 := cell_grown hn2.1 (by exact k10); have k21 := cell_grown hn2.1 (by exact k11); have k22 := cell_grown hn2.1 (by exact k12); obtain ⟨ox, cx, hf⟩ := (New.bs hn2).form; rw [dataL_length] at hf; subst hf; have N2 := Lib.hid hn2; clear hn2)
                  | (go_at_call 7; refine (seed_any HO.out k q r sd _).mono ?_; rintro e v1 ⟨s1, rfl, hs2, hg1⟩; have k10 := cell_grown hg1 (by exact c0); have k11 := cell_grown hg1 (by exact c1); have k12 := cell_grown hg1 (by exact c2); have V1 : Hid (Gr wc v1) := Lib.hid (by exact hg1); have HS1 := Lib.hid hs2; clear hg1 hs2))
              all_goals
                go_wp2_with fail
                go_meet
                exact ⟨s1, dataL D Q, ox, Q, cx, rfl, HS1.out, rfl, New.bs N2.out, dataL_length _ _, by omega, Gr.trans V1.out N2.out.1⟩
          case rest =>
            obtain ⟨s, X, ox, nx, cx, rfl, hs, rfl, hbx, hlx, hnx, hgx⟩ := hcut
            have HQ4 := Lib.hid (HQC.out.grown hgx)
            have HF4 := Lib.hid (HFC.out.grown hgx)
            have HG4 := Lib.hid (Gr.trans HGC.out hgx)
            have HBX := Lib.hid hbx
            have HLX := Lib.hid hlx
            have HS := Lib.hid hs
            clear hs hbx hlx hgx HQC HFC HGC hs0 hs1 hw32
            have c0 := HQ4.out.cell0
            have c1 := HQ4.out.cell1
            have c2 := HQ4.out.cell2
            have hsp := spare_any (.slice ox nx cx) X 71 _ HBX.out (by rw [HLX.out]; omega)
            rw [HLX.out] at hsp
            go_wp2_with fail
            refine hsp.mono ?_
            rintro e w5 ⟨gi, rfl, hgi, hbk, hg5⟩
            have HQ5 := Lib.hid (HQ4.out.grown hg5)
            have HF5 := Lib.hid (HF4.out.grown hg5)
            have HG5 := Lib.hid (Gr.trans HG4.out hg5)
            have HX5 := Lib.hid (HBX.out.grown hg5)
            have HBK := Lib.hid hbk
            clear hsp hgi hbk hg5 HQ4 HF4 HG4 HBX c0 c1 c2
            have c0 := HQ5.out.cell0
            have c1 := HQ5.out.cell1
            have c2 := HQ5.out.cell2
            go_wp2_with fail
            have HIN : Hid (Bs w5 (.slice (some ⟨gi, 0, none⟩) nx (nx + 2)) X) := Lib.hid (by
              have := Blk.bs_pre HBK.out HX5.out.1 (by simp; rw [HLX.out]; omega)
              simpa [HLX.out] using this)
            have HKP : Hid (∀ W, Gr w5 W → Calls Tryz.prog 12 #[.slice (some ⟨gi, 0, none⟩) nx (nx + 2), .slice ox nx cx, .int .u8 71] W fun e w' => e = .returned (.bool true) ∧ Gr W w') := Lib.hid (fun W hW => by
              have := kept_true gi X (.slice ox nx cx) 71 W (Blk.grown HBK.out hW) HX5.out.1 (HX5.out.grown hW) (by rw [HLX.out]; omega)
              rwa [HLX.out] at this)
            clear HBK
            by_cases hok : MayP p q r ∧ (X.length : Int) = p * r
            · obtain ⟨hm, hxl⟩ := hok
              obtain ⟨k, rfl⟩ : ∃ k : Nat, p = k := ⟨p.toNat, by unfold MayP at hm; omega⟩
              obtain ⟨h, rfl⟩ : ∃ k : Nat, q = k := ⟨q.toNat, by unfold MayP at hm; omega⟩
              obtain ⟨r, rfl⟩ : ∃ k : Nat, r = k := ⟨r.toNat, by unfold MayP at hm; omega⟩
              have hxn : X.length = k * r := by
                have : ((X.length : Nat) : Int) = ((k * r : Nat) : Int) := by rw [hxl]; simp
                omega
              have HXN := Lib.hid hxn
              have HM := Lib.hid hm
              clear hxl hxn hm
              by_cases hr : RightP k h r s
              · refine (HE.out.new k h r s _ X _ HS.out HIN.out HM.out HXN.out hr).mono ?_
                rintro e w6 ⟨y, F, M, rfl, hmid, hat, hg6, _⟩
                obtain ⟨ay, rfl⟩ := HE.out.ptr hat
                have HAT := Lib.hid hat
                have HMI := Lib.hid hmid
                have HQ6 := Lib.hid (HQ5.out.grown hg6)
                have HX6 := Lib.hid (HX5.out.grown hg6)
                have V6 := Lib.hid hg6
                clear hg6 hmid hat c0 c1 c2
                have c0 := HQ6.out.cell0
                have c1 := HQ6.out.cell1
                have c2 := HQ6.out.cell2
                go_wp2_with fail
                refine (refNew_any k h r s _ X _ HM.out HS.out HX6.out HXN.out hr).mono ?_
                rintro e w7 ⟨g2, M', rfl, hmid', hrb, hg7⟩
                obtain rfl : M = M' := IsMid.unique hr HMI.out hmid'
                have HRB := Lib.hid hrb
                have V7 := Lib.hid (Gr.trans V6.out hg7)
                have HAT7 := Lib.hid (HE.out.grown HAT.out hg7)
                clear hg7 hrb hmid' HAT c0 c1 c2
                go_wp2_with fail
                refine (HKP.out _ V7.out).mono ?_
                rintro e w8 ⟨rfl, hg8⟩
                have HRB8 := Lib.hid (HRB.out.grown hg8)
                have HAT8 := Lib.hid (HE.out.grown HAT7.out hg8)
                have V8 := Lib.hid (Gr.trans V7.out hg8)
                clear hg8 HRB HAT7 V7 V6
                obtain ⟨o2, c2', hrow, hbm⟩ := HRB8.out
                have q4 : w8.cell? ⟨g2, 4, none⟩ = some (.slice o2 M.length c2') := by rw [cell_of_row _ _ 4 _ _ _ hrow]; rfl
                have HBM := Lib.hid hbm
                clear hrow hbm
                go_wp2_with fail
                go_region_held3 (fun W => W.cell? ⟨g2, 4, none⟩ = some (.slice o2 M.length c2')) (first | exact k2 | exact k1 | go_keep)
                  (first
                    | (go_at_call 13; refine (rows_any _ _ M M _ B1.out (HBM.out.grown V1.out)).mono ?_; rw [beq_self_eq_true]; rintro e v2 ⟨rfl, hg2⟩; have k2 := cell_grown hg2 (by exact k1); have V2 : Hid (Gr w8 v2) := Lib.hid (Gr.trans V1.out hg2); clear hg2)
                    | (go_at_call 14; refine (HE.out.mid _ F k h r s M _ HM.out HS.out (HE.out.grown HAT8.out (Gr.drew (Gr.refl _))) HMI.out.wide HMI.out.len).mono ?_; rintro e v1 ⟨y1, rfl, hr1, hg1⟩; have B1 := Lib.hid hr1.bss; obtain ⟨o1, m1, d1, rfl⟩ := hr1.bss.form3; have k1 := cell_grown hg1 (by exact q4); have V1 : Hid (Gr w8 v1) := Lib.hid (by exact hg1); clear hr1 hg1))
                all_goals
                  have HRB9 := Lib.hid (HRB8.out.grown V2.out)
                  have HAT9 := Lib.hid (HE.out.grown HAT8.out V2.out)
                  have W9 := Lib.hid (Gr.trans V8.out V2.out)
                  go_wp2_with fail
                  clear V1 V2 B1 HBM
                  go_loopw [26] (fun iv W => ∃ i : Nat, i ≤ 20 ∧ iv = .int .i64 i ∧ At W (.pointer (some ay)) F k h r s M ∧ RBlk W g2 k h r s M ∧ Gr w5 W) (fun iv _ => 20 - (intOf iv).toNat)
                  case atStart => exact ⟨0, by omega, rfl, HAT9.out, HRB9.out, W9.out⟩
                  case round =>
                    clear HAT9 HRB9 W9
                    obtain ⟨wi, hwi⟩ : ∃ x, x = wr := ⟨_, rfl⟩
                    subst hwi
                    obtain ⟨i, hi, rfl, hat, hrb, hgi⟩ := hrel
                    have HAI := Lib.hid hat
                    have HRI := Lib.hid hrb
                    have HGI := Lib.hid hgi
                    clear hat hrb hgi
                    by_cases hc : i < ml ∧ i < 20
                    · obtain ⟨hc1, hc2⟩ := hc
                      obtain ⟨al, rfl⟩ := HZ.out.addr (by omega)
                      have ql := (HZ.out.grown (Gr.trans HG5.out HGI.out)).cellAt hc1
                      have hidr := HZ.out.rng i (by rw [HZ.out.parts.1]; exact hc1)
                      obtain ⟨id, hid⟩ : ∃ id, l.getD i 0 = id := ⟨_, rfl⟩
                      rw [hid] at ql hidr
                      have HIR := Lib.hid hidr
                      obtain ⟨Y1, hY1⟩ : ∃ Y, symP k h r s M id = Y := ⟨_, rfl⟩
                      obtain ⟨Y2, hY2⟩ : ∃ Y, symP k h r s M (i : Int) = Y := ⟨_, rfl⟩
                      have HY1 := Lib.hid hY1
                      have HY2 := Lib.hid hY2
                      clear hid hidr hY1 hY2
                      go_wp2_with fail
                      go_region_held3 (fun W => W.cell? (al.add i) = some (.int .i64 id)) (first | exact k6 | exact k5 | exact k4 | exact k3 | exact k2 | exact k1 | go_keep)
                        (first
                          | (go_at_call 15; have hx := V5; refine (same_any _ _ Y2 Y2 _ (Bs.grown (New.bs N4.out) (New.grown N5.out)) (New.bs N5.out)).mono ?_; rw [beq_self_eq_true]; rintro e v6 ⟨rfl, hg6⟩; have k6 := cell_grown hg6 (by exact k5); have V6 : Hid (Gr wi v6) := Lib.hid (Gr.trans V5.out hg6); clear hg6)
                          | (go_at_call 17; have hx := V4; refine (refSymbol_any g2 k h r s M _ _ HM.out HS.out (HRI.out.grown V4.out) HMI.out.wide HMI.out.len).mono ?_; rw [HY2.out]; rintro e v5 ⟨y5, rfl, hn5⟩; obtain ⟨o5, m5, d5, rfl⟩ := New.form3 hn5; have N5 := Lib.hid hn5; have k5 := cell_grown hn5.1 (by exact k4); have V5 : Hid (Gr wi v5) := Lib.hid (Gr.trans V4.out hn5.1); clear hn5)
                          | (go_at_call 16; have hx := V3; refine (HE.out.symbol _ F k h r s M _ _ HM.out HS.out (HE.out.grown HAI.out V3.out) HMI.out.wide HMI.out.len ⟨by omega, by omega⟩).mono ?_; rw [HY2.out]; rintro e v4 ⟨y4, rfl, hn4⟩; obtain ⟨o4, m4, d4, rfl⟩ := New.form3 hn4; have N4 := Lib.hid hn4; have k4 := cell_grown hn4.1 (by exact k3); have V4 : Hid (Gr wi v4) := Lib.hid (Gr.trans V3.out hn4.1); clear hn4)
                          | (go_at_call 15; have hx := V2; refine (same_any _ _ Y1 Y1 _ (Bs.grown (New.bs N1.out) (New.grown N2.out)) (New.bs N2.out)).mono ?_; rw [beq_self_eq_true]; rintro e v3 ⟨rfl, hg3⟩; have k3 := cell_grown hg3 (by exact k2); have V3 : Hid (Gr wi v3) := Lib.hid (Gr.trans V2.out hg3); clear hg3)
                          | (go_at_call 17; have hx := V1; refine (refSymbol_any g2 k h r s M _ _ HM.out HS.out (HRI.out.grown V1.out) HMI.out.wide HMI.out.len).mono ?_; rw [HY1.out]; rintro e v2 ⟨y2, rfl, hn2⟩; obtain ⟨o2, m2, d2, rfl⟩ := New.form3 hn2; have N2 := Lib.hid hn2; have k2 := cell_grown hn2.1 (by exact k1); have V2 : Hid (Gr wi v2) := Lib.hid (Gr.trans V1.out hn2.1); clear hn2)
                          | (go_at_call 16; refine (HE.out.symbol _ F k h r s M _ _ HM.out HS.out (HE.out.grown HAI.out (Gr.drew (Gr.refl _))) HMI.out.wide HMI.out.len HIR.out).mono ?_; rw [HY1.out]; rintro e v1 ⟨y1, rfl, hn1⟩; obtain ⟨o1, m1, d1, rfl⟩ := New.form3 hn1; have N1 := Lib.hid hn1; have k1 := cell_grown hn1.1 (by exact ql); have V1 : Hid (Gr wi v1) := Lib.hid (by exact hn1.1); clear hn1))
                      all_goals
                        have HAZ := Lib.hid (HE.out.grown HAI.out V6.out)
                        have HRZ := Lib.hid (HRI.out.grown V6.out)
                        have HGZ := Lib.hid (Gr.trans HGI.out V6.out)
                        go_wp2_with fail
                        exact ⟨⟨i + 1, by omega, by go_num, HAZ.out, HRZ.out, HGZ.out⟩, by simp [intOf]; omega⟩
                    · have hcb : (decide ((i : Int) < (ml : Int)) && decide ((i : Int) < 20)) = false := by
                        rw [Bool.and_eq_false_iff, decide_eq_false_iff_not, decide_eq_false_iff_not]
                        omega
                      by_cases h1 : i < ml
                      · have h2 : ¬ i < 20 := fun h2 => hc ⟨h1, h2⟩
                        go_wp2_with fail
                        exact ⟨⟨t + 1, by omega, by go_num, HF5.out.grown HGI.out, Gr.trans HG5.out HGI.out⟩, by simp [intOf]; omega⟩
                      · go_wp2_with fail
                        exact ⟨⟨t + 1, by omega, by go_num, HF5.out.grown HGI.out, Gr.trans HG5.out HGI.out⟩, by simp [intOf]; omega⟩
              · refine (HE.out.newSeed k h r s _ X _ HS.out HIN.out HM.out HXN.out hr).mono ?_
                rintro e w6 ⟨rfl, hg6⟩
                have HQ6 := Lib.hid (HQ5.out.grown hg6)
                have HX6 := Lib.hid (HX5.out.grown hg6)
                have V6 := Lib.hid hg6
                clear hg6 c0 c1 c2
                have c0 := HQ6.out.cell0
                have c1 := HQ6.out.cell1
                have c2 := HQ6.out.cell2
                go_wp2_with fail
                refine (refNew_seed k h r s _ X _ HM.out HS.out HX6.out HXN.out hr).mono ?_
                rintro e w7 ⟨rfl, hg7⟩
                have V7 := Lib.hid (Gr.trans V6.out hg7)
                clear hg7
                go_wp2_with fail
                refine (HKP.out _ V7.out).mono ?_
                rintro e w8 ⟨rfl, hg8⟩
                have V8 := Lib.hid (Gr.trans V7.out hg8)
                clear hg8
                go_wp2_with fail
                exact ⟨⟨t + 1, by omega, by go_num, HF5.out.grown V8.out, Gr.trans HG5.out V8.out⟩, by simp [intOf]; omega⟩
            · refine (HE.out.newArg p q r s _ X _ HS.out HIN.out (by rw [HLX.out]; omega) hok).mono ?_
              rintro e w6 ⟨rfl, hg6⟩
              have HQ6 := Lib.hid (HQ5.out.grown hg6)
              have HX6 := Lib.hid (HX5.out.grown hg6)
              have V6 := Lib.hid hg6
              clear hg6 c0 c1 c2
              have c0 := HQ6.out.cell0
              have c1 := HQ6.out.cell1
              have c2 := HQ6.out.cell2
              go_wp2_with fail
              refine (refNew_arg p q r s _ X _ HX6.out (by rw [HLX.out]; omega) hok).mono ?_
              rintro e w7 ⟨rfl, hg7⟩
              have V7 := Lib.hid (Gr.trans V6.out hg7)
              clear hg7
              go_wp2_with fail
              refine (HKP.out _ V7.out).mono ?_
              rintro e w8 ⟨rfl, hg8⟩
              have V8 := Lib.hid (Gr.trans V7.out hg8)
              clear hg8
              go_wp2_with fail
              exact ⟨⟨t + 1, by omega, by go_num, HF5.out.grown V8.out, Gr.trans HG5.out V8.out⟩, by simp [intOf]; omega⟩
      · have hlt5 : ((t : Int) < 2) = False := by simp; omega
        go_wp2_with fail
        refine (encWakes_any HE.out _).mono ?_
        rintro e w2 ⟨rfl, hg2⟩
        have G2 := Lib.hid (Gr.trans HG.out hg2)
        clear hg2
        go_wp2_with fail
        go_ret
        exact ⟨rfl, G2.out⟩
end Go.Proofs.YtbabecjphmmngaaGreat
