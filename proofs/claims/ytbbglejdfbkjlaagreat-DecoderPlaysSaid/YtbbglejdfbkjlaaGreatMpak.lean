/-
  Texts laid behind one another: Jz DecoderPlaysW Ds Pc.
-/
import Derived.Test.YtbbglejdfbkjlaaGreatMpaj
import Derived.Test.YtbbglejdfbkjlaaGreatMpah
import Derived.Test.YtbbglejdfbkjlaaGreatMpab
import Derived.Test.YtbbglejdfbkjlaaGreatMpac
import Derived.Test.YtbbglejdfbkjlaaGreatMpae
namespace Go.Proofs.YtbbglejdfbkjlaaGreat
open Go.RowKit
noncomputable def playsTail : Code := ((Tryz.f7.body.bind (atRegion 17)).getD .skip)
set_option maxRecDepth 1000000 in
set_option maxHeartbeats 12800000 in
theorem plays_tail {At' : World → Value → (Nat → Prop) → Nat → Nat → Nat → Nat → List Symb → Prop} (P : PreOk) (O : SystemOk) (C : DecOk At') (K H S s gp m cl B : Nat) (ol : Option Addr) (ad : Addr) (F0 : Nat → Prop) (Lx : List Symb) (w W : World) (v0 v1 v2 v3 v4 v5 v6 v7 v8 v9 v10 v11 v12 v13 v14 v15 v16 v17 v18 v19 v22 v23 v26 v27 v28 v29 v30 v31 v32 v33 v34 v35 v36 v37 v38 v39 v40 v41 v42 v43 v44 v45 v46 v47 v48 v49 v50 v51 v52 v53 v54 v55 v56 v57 v58 v59 v60 v61 v62 v63 v64 v65 v66 v67 v68 v69 v70 v71 v72 v73 v74 v75 v76 v77 v78 v79 v80 v81 v82 v83 v84 v85 v86 v87 v88 v89 v90 v91 v92 v93 v94 v95 v96 v97 v98 v99 v100 v101 v102 v103 v104 v105 v106 v107 v108 v109 v110 v111 v112 v113 v114 v115 v116 v117 v118 v119 v120 v121 v122 v123 v124 v125 v126 v127 v128 v129 v130 v131 v132 v133 v134 v135 v136 v137 v138 v139 v140 v141 v142 v143 v144 v145 v146 v147 v148 v149 v150 v151 v152 v153 v154 v155 v156 v157 v158 v159 v160 v161 v162 v163 v164 v165 v166 v167 v168 v169 v170 v171 v172 v173 v174 v175 v176 v177 v178 v179 v180 v181 v182 v183 v184 v185 v186 v187 v188 v189 v190 v191 v192 v193 v194 v195 v196 v197 v198 v199 v200 v201 v202 v203 v204 v205 v206 v207 v208 v209 v210 v211 v212 v213 v214 v215 : Value)
  (hm : MayP K H S) (hs : s < 4294967296) (hKb : K ≤ 16 ∧ H ≤ 4 ∧ S ≤ 24) (hat : At' W (.pointer (some ad)) F0 K H S s []) (hF : ∀ k, F0 k → w.heap.size ≤ k) (hl : SymsO (fun q => ¬ F0 q ∧ q < W.heap.size) B W (.slice ol m cl) Lx) (hlF : ∀ g, (Value.slice ol m cl).ownBlock = some g → ¬ F0 g) (hlen : Lx.length = m) (hm31 : m ≤ 31) (hsz : ∀ q ∈ Lx, q.d.length ≤ 60) (hpar : Par W gp K H S) (hgp : ¬ F0 gp) (hgw : Gr w W) (hB : B ≤ W.heap.size) :
  Code.wp Tryz.prog playsTail (bodyPost Tryz.prog Tryz.f7 fun e w' => e = .returned (.bool true) ∧ Gr w w') ⟨#[v0, v1, v2, v3, v4, v5, v6, v7, v8, v9, v10, v11, v12, v13, v14, v15, v16, v17, v18, v19, .pointer (some ⟨gp, 0, none⟩), .int .u32 (s : Int), v22, v23, .pointer (some ad), .slice ol m cl, v26, v27, v28, v29, v30, v31, v32, v33, v34, v35, v36, v37, v38, v39, v40, v41, v42, v43, v44, v45, v46, v47, v48, v49, v50, v51, v52, v53, v54, v55, v56, v57, v58, v59, v60, v61, v62, v63, v64, v65, v66, v67, v68, v69, v70, v71, v72, v73, v74, v75, v76, v77, v78, v79, v80, v81, v82, v83, v84, v85, v86, v87, v88, v89, v90, v91, v92, v93, v94, v95, v96, v97, v98, v99, v100, v101, v102, v103, v104, v105, v106, v107, v108, v109, v110, v111, v112, v113, v114, v115, v116, v117, v118, v119, v120, v121, v122, v123, v124, v125, v126, v127, v128, v129, v130, v131, v132, v133, v134, v135, v136, v137, v138, v139, v140, v141, v142, v143, v144, v145, v146, v147, v148, v149, v150, v151, v152, v153, v154, v155, v156, v157, v158, v159, v160, v161, v162, v163, v164, v165, v166, v167, v168, v169, v170, v171, v172, v173, v174, v175, v176, v177, v178, v179, v180, v181, v182, v183, v184, v185, v186, v187, v188, v189, v190, v191, v192, v193, v194, v195, v196, v197, v198, v199, v200, v201, v202, v203, v204, v205, v206, v207, v208, v209, v210, v211, v212, v213, v214, v215], []⟩ W := by
 have HPR := Lib.hid P
 have HO := Lib.hid O
 have HC := Lib.hid C
 have HM := Lib.hid hm
 have HS := Lib.hid hs
 have HL := Lib.hid hl
 have HLF := Lib.hid hlF
 have HLEN := Lib.hid hlen
 have HSZ := Lib.hid hsz
 have HPA := Lib.hid hpar
 have HGP := Lib.hid hgp
 have HGW := Lib.hid hgw
 have HF0 := Lib.hid hF
 have HBW := Lib.hid hB
 have PL0 : Hid (Plays At' W F0 K H S s (.pointer (some ad)) (.slice none 0 0) (.slice none 0 0) [] [] [] F0 W) := Lib.hid ⟨Kp.refl _ _, fun _ h => .inl h, hat, SymsO.nil _ _, World.ownsRow_nil _ _ _ _, (fun _ e => by cases e), (fun _ e => by cases e)⟩
 obtain ⟨hKb1, hKb2, hKb3⟩ := hKb
 have hs24 : 1 ≤ S := by unfold MayP at hm; omega
 clear P O C hm hs hat hF hl hlF hlen hsz hpar hgp hgw hB
 conv => arg 2; whnf
 go_wp2_with fail
 go_loopw [27, 28, 110] (fun av hv iv wx => ∃ i F, i ≤ m ∧ iv = .int .i64 ((i : Nat) : Int) ∧ Plays At' W F0 K H S s (.pointer (some ad)) av hv (okY S (Lx.take i)) (okY S (Lx.take i)) (okY S (Lx.take i)) F wx) (fun _ _ iv _ => m - (intOf iv).toNat)
 case atStart => exact ⟨0, F0, by omega, rfl, by simpa [okY] using PL0.out⟩
 case round =>
  obtain ⟨wp, hwp⟩ : ∃ x, x = wr := ⟨_, rfl⟩
  subst hwp
  obtain ⟨i, F, hi, rfl, hpl⟩ := hrel
  have PL := Lib.hid hpl
  have HYA : Hid (AllY K H S (okY S (Lx.take i))) := Lib.hid (okY_all HM.out _)
  have hyl : (okY S (Lx.take i)).length ≤ 31 := Nat.le_trans (okY_length _ _) (by rw [List.length_take, HLEN.out]; omega)
  by_cases him : i < m
  ·have htI : MayI (Lx.getD i noY).i ∧ (Lx.getD i noY).d.length = S → okY S (Lx.take (i + 1)) = okY S (Lx.take i) ++ [Lx.getD i noY] := okY_snoc_in (by rw [HLEN.out]; exact him)
   have htO : ¬ (MayI (Lx.getD i noY).i ∧ (Lx.getD i noY).d.length = S) → okY S (Lx.take (i + 1)) = okY S (Lx.take i) := okY_snoc_out (by rw [HLEN.out]; exact him)
   have HTI := Lib.hid htI
   have HTO := Lib.hid htO
   have hdl := HSZ.out _ (getD_memY (L := Lx) (i := i) (by rw [HLEN.out]; exact him))
   have hlr : SymsO (fun q => ¬ F0 q ∧ q < W.heap.size) B wp (.slice ol m cl) Lx := HL.out.kp hpl.kp HLF.out fun b h => h.1
   have HPR2 := Lib.hid (HPA.out.kp hpl.kp HGP.out)
   clear htI htO hpl
   generalize okY S (Lx.take i) = Y at *
   obtain ⟨n, hn⟩ : ∃ n, Y.length = n := ⟨_, rfl⟩
   have HN := Lib.hid hn
   rw [hn] at hyl
   obtain ⟨oa, ca, ea⟩ := PL.out.all.form
   obtain ⟨oh, ch, eh⟩ := ownsRow_form PL.out.ids
   rw [hn] at ea eh
   subst ea eh
   clear hn
   rcases hlr.lies with ⟨rfl, rfl, rfl⟩ | ⟨g2, rfl, hc2⟩
   ·omega
   obtain ⟨ud, q1, q2, hq⟩ := hlr.at him
   obtain ⟨q, hqq⟩ : ∃ q, Lx.getD i noY = q := ⟨_, rfl⟩
   rw [hqq] at hq q1 hdl HTI HTO
   have hq64 := hq.2.1
   have HQV := Lib.hid hq
   have hqb := hq.2.2.1
   obtain ⟨od, cd, e2⟩ := hqb.form
   subst e2
   obtain ⟨nd, hnd⟩ : ∃ n, q.d.length = n := ⟨_, rfl⟩
   rw [hnd] at hdl q2 HQV
   have HND := Lib.hid hnd
   clear hq hqb hnd hqq hlr
   go_upto_region 22 with fail
   have hgz : wp.heap.size = wp.heap.size := rfl
   have CZ0 : Hid ((wp.alloc (.cells #[.int .i64 q.i, .slice od nd cd] 30)).cell? ⟨wp.heap.size, 0, none⟩ = some (.int .i64 q.i)) := Lib.hid (by rw [cell_of_row _ _ 0 _ _ _ (heap_alloc_new _ _)]; rfl)
   have CZ1 : Hid ((wp.alloc (.cells #[.int .i64 q.i, .slice od nd cd] 30)).cell? ⟨wp.heap.size, 1, none⟩ = some (.slice od nd cd)) := Lib.hid (by rw [cell_of_row _ _ 1 _ _ _ (heap_alloc_new _ _)]; rfl)
   have hPA : Plays At' W F0 K H S s (.pointer (some ad)) (.slice oa n ca) (.slice oh n ch) Y Y Y F (wp.alloc (.cells #[.int .i64 q.i, .slice od nd cd] 30)) := PL.out.gr HC.out (Gr.alloc (Gr.refl _) _ _)
   have PA := Lib.hid hPA
   have HPRA := Lib.hid (HPR2.out.grown (Gr.alloc (Gr.refl wp) #[.int .i64 q.i, .slice od nd cd] 30))
   have HQA := Lib.hid (HQV.out.gr (Gr.alloc (Gr.refl wp) #[.int .i64 q.i, .slice od nd cd] 30))
   have HAG : Hid (∀ g, (Value.slice oa n ca).ownBlock = some g → g ≠ wp.heap.size) := Lib.hid fun g h e => by have := PL.out.all.own_lt g h; omega
   have HHG : Hid (∀ g, (Value.slice oh n ch).ownBlock = some g → g ≠ wp.heap.size) := Lib.hid fun g h e => by have := own_in PL.out.ids h; omega
   have HFZ : Hid (¬ F wp.heap.size) := Lib.hid fun c => by have := HC.out.lt PL.out.at_ _ c; omega
   have HWZ : Hid (W.heap.size ≤ wp.heap.size) := Lib.hid PL.out.kp.size
   generalize hgz0 : wp.heap.size = gz at *
   generalize hwA : wp.alloc (.cells #[.int .i64 q.i, .slice od nd cd] 30) = wA at *
   clear hPA hgz PL HPR2 HQV
   have k0 := CZ0.out
   have k1 := CZ1.out
   have c2 := HPRA.out.cell2
   go_cut [31] (fun mv wx => mv = .bool (decide (MayI q.i ∧ nd = S)) ∧ wx = wA)
   case first =>
    by_cases h0 : 0 ≤ q.i
    ·by_cases h1 : q.i ≤ 65535
     ·by_cases h2 : (nd : Int) = S
      ·go_wp2_with fail
       go_meet
       refine ⟨?_, rfl⟩
       rw [decide_eq_true (show MayI q.i ∧ nd = S from ⟨⟨by omega, by omega⟩, by omega⟩)]
      ·go_wp2_with fail
       go_meet
       refine ⟨?_, rfl⟩
       rw [decide_eq_false (show ¬ (MayI q.i ∧ nd = S) from fun c => h2 (by have := c.2; omega))]
       simp [h2]
     ·go_wp2_with fail
      go_meet
      refine ⟨?_, rfl⟩
      rw [decide_eq_false (show ¬ (MayI q.i ∧ nd = S) from fun c => by have := c.1; unfold MayI at this; omega)]
    ·go_wp2_with fail
     go_meet
     refine ⟨?_, rfl⟩
     rw [decide_eq_false (show ¬ (MayI q.i ∧ nd = S) from fun c => by have := c.1; unfold MayI at this; omega)]
   case rest =>
    obtain ⟨rfl, hwc⟩ := hcut
    subst hwc
    obtain ⟨bm, hbm⟩ : ∃ b, decide (MayI q.i ∧ nd = S) = b := ⟨_, rfl⟩
    rw [hbm]
    have HBM := Lib.hid hbm
    clear hbm
    go_upto_region 23 with fail
    go_cut [138] (fun bv wx => bv = .bool false ∧ ∃ F' Y', Plays At' W F0 K H S s (.pointer (some ad)) (.slice oa n ca) (.slice oh n ch) Y' Y Y F' wx ∧ Y' = okY S (Lx.take (i + 1)) ∧ wx.cell? ⟨gz, 0, none⟩ = some (.int .i64 q.i) ∧ wx.cell? ⟨gz, 1, none⟩ = some (.slice od nd cd) ∧ SyVal (fun q => ¬ F0 q ∧ q < W.heap.size) W.heap.size wx (.int .i64 q.i) (.slice od nd cd) q)
    case first =>
     have HK3 : Hid (∀ {w3 : World}, Kp F wc w3 → SyVal (fun q => ¬ F0 q ∧ q < W.heap.size) W.heap.size w3 (.int .i64 q.i) (.slice od nd cd) q) := Lib.hid fun hk3 => (HQA.out.mono HBW.out).kp hk3 fun b hb c => (PA.out.fp b c).elim hb.1 fun c2 => by have := hb.2; omega
     by_cases hok : MayI q.i ∧ nd = S
     ·obtain rfl : bm = true := by rw [← HBM.out]; exact decide_eq_true hok
      have HOK := Lib.hid hok
      clear hok
      go_wp2_with fail
      refine (HC.out.add (.pointer (some ad)) F K H S s Y q.i (.slice od nd cd) q.d _ HM.out HS.out PA.out.at_ HYA.out (by rw [HN.out]; omega) HOK.out.1 HQA.out.2.2.1 (fun a m c e hm' hc' => (PA.out.fp _ hc').elim (HQA.out.2.2.2.2 a m c e hm').1 fun c2 => by have := (HQA.out.2.2.2.2 a m c e hm').2; omega) (by rw [HND.out]; exact HOK.out.2)).mono ?_
      rintro e w3 ⟨F', rfl, hat3, hk3, hF3⟩
      have P3 := Lib.hid (PA.out.call hk3 hat3 hF3)
      have k30 := hk3.cell k0 (fun c => HFZ.out c)
      have k31 := hk3.cell k1 (fun c => HFZ.out c)
      have HQ3 := Lib.hid (HK3.out hk3)
      clear hat3 hk3 hF3
      go_wp2_with fail
      go_meet
      exact ⟨rfl, F', _, P3.out, (HTI.out ⟨HOK.out.1, by rw [HND.out]; exact HOK.out.2⟩).symm, k30, k31, HQ3.out⟩
     ·obtain rfl : bm = false := by rw [← HBM.out]; exact decide_eq_false hok
      go_wp2_with fail
      refine (HC.out.addNe (.pointer (some ad)) F K H S s Y q.i (.slice od nd cd) q.d _ HM.out HS.out PA.out.at_ HYA.out (by rw [HN.out]; omega) hq64 HQA.out.2.2.1 (by rw [HND.out]; omega) (by rw [HND.out]; exact hok)).mono ?_
      rintro e w3 ⟨F', rfl, hat3, hk3, hF3⟩
      have P3 := Lib.hid (PA.out.call hk3 hat3 hF3)
      have k30 := hk3.cell k0 (fun c => HFZ.out c)
      have k31 := hk3.cell k1 (fun c => HFZ.out c)
      have HQ3 := Lib.hid (HK3.out hk3)
      clear hat3 hk3 hF3
      go_wp2_with fail
      go_meet
      exact ⟨rfl, F', _, P3.out, (HTO.out (by rw [HND.out]; exact hok)).symm, k30, k31, HQ3.out⟩
    case rest =>
     obtain ⟨rfl, F', Y', hp3, hY', k30, k31, hq3⟩ := hcut
     have P3 := Lib.hid hp3
     have HY3 := Lib.hid hY'
     clear k0 k1 c2 hp3 hY' PA HQA CZ0 CZ1 HPRA
     obtain ⟨w3, hw3⟩ : ∃ x, x = wc := ⟨_, rfl⟩
     subst hw3
     go_upto_if 139 with fail
     go_cut [27, 28] (fun av hv wx => ∃ F' Y', Plays At' W F0 K H S s (.pointer (some ad)) av hv Y' Y' Y' F' wx ∧ Y' = okY S (Lx.take (i + 1)))
     case first =>
      by_cases hok : MayI q.i ∧ nd = S
      ·obtain rfl : bm = true := by rw [← HBM.out]; exact decide_eq_true hok
       have HYQ : Hid (Y' = Y ++ [q]) := Lib.hid (by rw [HY3.out, HTI.out ⟨hok.1, by rw [HND.out]; exact hok.2⟩])
       clear hok
       have HAL : Hid (∀ g, (Value.slice oa n ca).ownBlock = some g → g < w3.heap.size) := Lib.hid fun g h => P3.out.all.own_lt g h
       have HW3 : Hid (W.heap.size ≤ w3.heap.size) := Lib.hid P3.out.kp.size
       have HQ3 : Hid (∀ {W' : World}, Gr w3 W' → SyVal (fun q => ¬ F0 q ∧ q < W.heap.size) W.heap.size W' (.int .i64 q.i) (.slice od nd cd) q) := Lib.hid fun hg => hq3.gr hg
       clear hq3
       go_wp2_with fail
       go_region_held3 (fun W => W.cell? ⟨gz, 0, none⟩ = some (.int .i64 q.i) ∧ W.cell? ⟨gz, 1, none⟩ = some (.slice od nd cd)) (first | exact ⟨k60, k61⟩ | exact ⟨k50, k51⟩ | exact ⟨cell_grown (Gr.alloc (Gr.refl _) _ _) k50, cell_grown (Gr.alloc (Gr.refl _) _ _) k51⟩ | go_keep)
        (first
          | (have hx5 := P5; refine step_append_zL rfl _ _ (by rfl) W.heap.size (.slice oh n ch) n (idsY Y) (by rfl) (by have h := P5.out.ids; rw [HN.out] at h; first | exact h | exact h.of_gr (Gr.alloc (Gr.refl _) _ _)) _ q.i (by rfl) (by first | exact litZ (by first | rfl | simp) | exact HGR5.out _ _ (by simp) (by first | exact litZ (by first | rfl | simp) | exact lit_on _ _ (litZ (by first | rfl | simp)))) (by omega) (by first | exact P5.out.kp.size | exact Nat.le_trans P5.out.kp.size (Gr.alloc (Gr.refl _) _ _).size) ?_; intro g6 c6 w6 h6 hgr6 hl6; have P6 : Hid (Plays At' W F0 K H S s (.pointer (some ad)) (.slice (some ⟨g5, 0, none⟩) (Y.length + 1) c5) (.slice (some ⟨g6, 0, none⟩) (n + 1) c6) Y' (Y ++ [q]) (Y ++ [q]) F' w6) := Lib.hid ((P5.out.gr HC.out (by first | exact Gr.refl _ | exact Gr.alloc (Gr.refl _) _ _)).ids' HC.out (by rw [List.length_append, HN.out, idsY_snoc]; exact h6) hgr6 hl6); have k60 := hgr6.cell (by first | exact k50 | exact cell_grown (Gr.alloc (Gr.refl _) _ _) k50) (fun e => HHG.out gz e.symm rfl); have k61 := hgr6.cell (by first | exact k51 | exact cell_grown (Gr.alloc (Gr.refl _) _ _) k51) (fun e => HHG.out gz e.symm rfl); clear h6 hgr6 hl6)
          | (refine step_append_syL rfl _ _ (by rfl) W.heap.size (.slice oa n ca) Y (by rfl) (P3.out.gr HC.out (by first | exact Gr.alloc (Gr.drew (Gr.refl _)) _ _ | exact Gr.alloc (Gr.alloc (Gr.drew (Gr.refl _)) _ _) _ _)).all _ (.int .i64 q.i) (.slice od nd cd) q (by rfl) (by first | exact litY0 (by first | rfl | simp) | exact lit_on _ _ (litY0 (by first | rfl | simp))) (by first | exact litY1 (by first | rfl | simp) | exact lit_on _ _ (litY1 (by first | rfl | simp))) (HQ3.out (by first | exact Gr.alloc (Gr.drew (Gr.refl _)) _ _ | exact Gr.alloc (Gr.alloc (Gr.drew (Gr.refl _)) _ _) _ _)) (by rw [HN.out]; omega) (Nat.le_trans HW3.out (Gr.size (by first | exact Gr.alloc (Gr.drew (Gr.refl _)) _ _ | exact Gr.alloc (Gr.alloc (Gr.drew (Gr.refl _)) _ _) _ _))) ?_; intro g5 c5 w5 h5 hgr5 hl5; have P5 := Lib.hid ((P3.out.gr HC.out (by first | exact Gr.alloc (Gr.drew (Gr.refl _)) _ _ | exact Gr.alloc (Gr.alloc (Gr.drew (Gr.refl _)) _ _) _ _)).all' HC.out h5 hgr5 hl5); have k50 := hgr5.cell (cell_grown (by first | exact Gr.alloc (Gr.drew (Gr.refl _)) _ _ | exact Gr.alloc (Gr.alloc (Gr.drew (Gr.refl _)) _ _) _ _) k30) (fun e => HAG.out gz e.symm rfl); have k51 := hgr5.cell (cell_grown (by first | exact Gr.alloc (Gr.drew (Gr.refl _)) _ _ | exact Gr.alloc (Gr.alloc (Gr.drew (Gr.refl _)) _ _) _ _) k31) (fun e => HAG.out gz e.symm rfl); have HGR5 := Lib.hid (fun (x : Value) (b : Nat) (hb : w3.heap.size ≤ b) h => World.grownBy.cell (a := ⟨b, 0, none⟩) (v := x) hgr5 h (fun e => by have := HAL.out b e.symm; omega)); clear h5 hgr5 hl5))
       all_goals (go_wp2_with fail; go_meet)
       all_goals exact ⟨F', Y', by have h := P6.out; rw [← HYQ.out] at h; exact h, HY3.out⟩
      ·obtain rfl : bm = false := by rw [← HBM.out]; exact decide_eq_false hok
       have HYQ : Hid (Y' = Y) := Lib.hid (by rw [HY3.out, HTO.out (by rw [HND.out]; exact hok)])
       go_wp2_with fail
       go_meet
       exact ⟨F', Y', by have h := P3.out; rw [← HYQ.out] at h; exact h, HY3.out⟩
     case rest =>
      obtain ⟨F2, Y2, hp2, hY2⟩ := hcut
      obtain ⟨wq, hwq⟩ : ∃ x, x = wc := ⟨_, rfl⟩
      subst hwq
      have HYN : Hid (Y2 = okY S (Lx.take (i + 1))) := Lib.hid hY2
      have HYL : Hid (AllY K H S Y2 ∧ Y2.length ≤ 31) := Lib.hid ⟨by rw [hY2]; exact okY_all HM.out _, by rw [hY2]; exact Nat.le_trans (okY_length _ _) (by rw [List.length_take, HLEN.out]; omega)⟩
      have HYD : Hid (∀ q ∈ Y2, q.d.length ≤ 60) := Lib.hid fun q hq => by rw [hY2] at hq; unfold okY at hq; exact HSZ.out q (List.mem_of_mem_take (List.mem_filter.1 hq).1)
      have P2 := Lib.hid hp2
      have HPA2 := Lib.hid (HPA.out.kp hp2.kp HGP.out)
      have HPF : Hid (∀ {F : Nat → Prop}, (∀ k, F k → F0 k ∨ W.heap.size ≤ k) → ¬ F gp) := Lib.hid fun hf c => (hf gp c).elim HGP.out fun h => by have := (Array.getElem?_eq_some_iff.1 HPA.out).1; omega
      clear hp2 hY2 P3 HY3 hq3 k30 k31
      obtain ⟨n2, hn2⟩ : ∃ n, Y2.length = n := ⟨_, rfl⟩
      have HN2 := Lib.hid hn2
      have hn231 : n2 ≤ 31 := by rw [← hn2]; exact HYL.out.2
      obtain ⟨oa2, ca2, ea⟩ := P2.out.all.form
      obtain ⟨oh2, ch2, eh⟩ := ownsRow_form P2.out.ids
      rw [hn2] at ea eh
      subst ea eh
      obtain ⟨N, hN, hN2⟩ : ∃ N : Nat, K + H = N ∧ N ≤ 20 := ⟨_, rfl, by omega⟩
      have HCO : Hid (colsP (K : Int) (H : Int) (S : Int) = (N : Int)) := Lib.hid (by unfold colsP; rw [if_pos HM.out]; omega)
      obtain ⟨rr, hrr⟩ : ∃ r, rkL (matP K H S s (idsY Y2)) = r := ⟨_, rfl⟩
      have HRR := Lib.hid hrr
      have HRB : Hid (rr ≤ 1000) := Lib.hid (by have h := rkL_le_cols (matP_wide HM.out s (idsY Y2)); omega)
      have HNE : Hid ((K : Int) + (H : Int) - (rr : Int) = (N : Int) - (rr : Int)) := Lib.hid (by omega)
      have hwr : IntKind.i64.wrap ((N : Int) - (rr : Int)) = (N : Int) - (rr : Int) := by have := HRB.out; simp [IntKind.wrap, IntKind.bits, IntKind.signed]; omega
      have HAI : Hid (∀ x ∈ idsY Y2, I64 x) := Lib.hid fun x hx => by have := idsY_may HYL.out.1 x hx; unfold MayI at this; unfold I64; omega
      clear hn2 hN hrr
      have c0 := HPA2.out.cell0
      have c1 := HPA2.out.cell1
      have c2 := HPA2.out.cell2
      go_upto_region 27 with fail
      go_region_held3 (fun W => W.cell? ⟨gp, 0, none⟩ = some (.int .i64 (K : Int)) ∧ W.cell? ⟨gp, 1, none⟩ = some (.int .i64 (H : Int)) ∧ W.cell? ⟨gp, 2, none⟩ = some (.int .i64 (S : Int))) (first | exact ⟨k70, k71, k72⟩ | exact ⟨k60, k61, k62⟩ | exact ⟨k50, k51, k52⟩ | go_keep)
       (first
         | (go_at_call 28; refine (HO.out.rank K H S s (.slice oh2 n2 ch2) (idsY Y2) _ HS.out (by have h := P6.out.ids; rw [HN2.out] at h; exact owns_zs h (by rw [idsY_length, HN2.out]) HAI.out) (by rw [idsY_length]; have := HYL.out.2; omega)).mono ?_; rw [HRR.out]; rintro e w7 ⟨rfl, hg7⟩; have k70 := cell_grown hg7 (by exact k60); have k71 := cell_grown hg7 (by exact k61); have k72 := cell_grown hg7 (by exact k62); have P7 := Lib.hid (P6.out.gr HC.out (by exact hg7)); clear hg7; (try go_simp))
         | (go_at_call 27; refine (HPR.out.cols K H S _).mono ?_; rw [HCO.out]; rintro e w6 ⟨rfl, hg6⟩; have k60 := cell_grown hg6 (by exact k50); have k61 := cell_grown hg6 (by exact k51); have k62 := cell_grown hg6 (by exact k52); have P6 := Lib.hid (P5.out.gr HC.out (by exact hg6)); clear hg6; (try go_simp))
         | (go_at_call 26; refine (HC.out.need (.pointer (some ad)) F2 K H S s Y2 wq.drew HM.out HS.out (P2.out.gr HC.out (Gr.drew (Gr.refl _))).at_ HYL.out.1 (by have := HYL.out.2; omega)).mono ?_; rw [HRR.out, HNE.out]; rintro e w5 ⟨F3, rfl, hat5, hk5, hF5⟩; have k50 := hk5.cell (by exact c0) (fun c => HPF.out P2.out.fp c); have k51 := hk5.cell (by exact c1) (fun c => HPF.out P2.out.fp c); have k52 := hk5.cell (by exact c2) (fun c => HPF.out P2.out.fp c); have P5 := Lib.hid ((P2.out.gr HC.out (Gr.drew (Gr.refl _))).call hk5 hat5 hF5); clear hat5 hk5 hF5; (try go_simp)))
      clear P2 HPA2 P5 P6 c0 c1 c2 k50 k51 k52 k60 k61 k62 hwr
      go_upto_region 29 with fail
      obtain ⟨w8, hw8⟩ : ∃ x, x = w7 := ⟨_, rfl⟩
      subst hw8
      go_cut [168] (fun bv wx => (∃ b, bv = .bool b) ∧ wx = w8)
      case first =>
       go_wp2_with fail
       all_goals go_meet
       all_goals exact ⟨⟨_, rfl⟩, rfl⟩
      case rest =>
       obtain ⟨⟨b, rfl⟩, hwx⟩ := hcut
       subst hwx
       cases b with
       | false =>
        go_wp2_with fail
        exact ⟨⟨i + 1, F3, by omega, by go_num, by rw [← HYN.out]; exact P7.out⟩, by simp [intOf]; omega⟩
       | true =>
        go_wp2_with fail
        refine (HC.out.blockM (.pointer (some ad)) F3 K H S s Y2 _ HM.out HS.out P7.out.at_ HYL.out.1 (by have := HYL.out.2; omega)).mono ?_
        rintro e w9 ⟨F4, u1, x1, out1, rfl, hbs1, hsays1, hat9, hk9, hF9⟩
        have k90 := hk9.cell k70 (fun c => HPF.out P7.out.fp c)
        have k91 := hk9.cell k71 (fun c => HPF.out P7.out.fp c)
        have k92 := hk9.cell k72 (fun c => HPF.out P7.out.fp c)
        have P9 := Lib.hid (P7.out.call hk9 hat9 hF9)
        obtain ⟨lu, hlu⟩ : ∃ n, out1.length = n := ⟨_, rfl⟩
        obtain ⟨o1, d1, e1⟩ := hbs1.form
        rw [hlu] at e1
        subst e1
        have B9 := Lib.hid hbs1
        have S9 := Lib.hid hsays1
        have HLU := Lib.hid hlu
        clear hat9 hk9 hF9 hbs1 hsays1 hlu P7 k70 k71 k72
        go_wp2_with fail
        refine (refDecode_any K H S s (.slice oa2 n2 ca2) Y2 _ HS.out P9.out.all.syms (by have := HYL.out.2; omega) (fun q hq => Nat.le_trans (HYD.out q hq) (by omega))).mono ?_
        rintro e w10 ⟨u2, x2, out2, rfl, hbs2, hg10, hsays2⟩
        obtain ⟨rfl, rfl⟩ := DecSays.unique S9.out hsays2
        have P10 := Lib.hid (P9.out.gr HC.out hg10)
        have B10 := Lib.hid (B9.out.grown hg10)
        have B11 := Lib.hid hbs2
        obtain ⟨o2, d2, e2⟩ := hbs2.form
        rw [HLU.out] at e2
        subst e2
        clear hg10 hbs2 hsays2 P9 B9 S9 k90 k91 k92
        go_wp2_with fail
        refine (same_any _ _ out1 out1 _ B10.out B11.out).mono ?_
        rw [beq_self_eq_true]
        rintro e w11 ⟨rfl, hg11⟩
        have P11 := Lib.hid (P10.out.gr HC.out hg11)
        clear hg11 P10 B10 B11
        go_wp2_with fail
        exact ⟨⟨i + 1, F4, by omega, by go_num, by rw [← HYN.out]; exact P11.out⟩, by simp [intOf]; omega⟩
  ·obtain rfl : i = m := by omega
   have HGE : Hid (Gr w wp) := Lib.hid (hpl.kp.gr HGW.out HF0.out)
   clear hpl PL HYA hyl him hi
   go_wp2_with fail
   refine (HC.out.blockNil _).mono ?_
   rintro e w3 ⟨u, rfl, hb, hg3⟩
   obtain ⟨oz, cz, rfl⟩ := hb.form
   have HG3 := Lib.hid (Gr.trans HGE.out hg3)
   clear hb hg3 HGE
   go_wp2_with fail
   refine (HC.out.needNil _).mono ?_
   rintro e w4 ⟨rfl, hg4⟩
   have HG4 := Lib.hid (Gr.trans HG3.out hg4)
   clear hg4 HG3
   go_wp2_with fail
   refine (HC.out.addNil 1 (.slice none 0 0) [] _ ⟨by omega, by omega⟩ (Bs.nil _) (by simp)).mono ?_
   rintro e w5 ⟨rfl, hg5⟩
   have HG5 := Lib.hid (Gr.trans HG4.out hg5)
   clear hg5 HG4
   go_wp2_with fail
   refine (decWakes_any HC.out _).mono ?_
   rintro e w6 ⟨rfl, hg6⟩
   have HG6 := Lib.hid (Gr.trans HG5.out hg6)
   clear hg6 HG5
   go_wp2_with fail
   go_ret
   exact ⟨rfl, HG6.out⟩
end Go.Proofs.YtbbglejdfbkjlaaGreat
namespace Go.Proofs.YtbbglejdfbkjlaaGreat
open Go.RowKit
set_option maxRecDepth 100000 in
set_option maxHeartbeats 12800000 in
theorem decoderPlays_walk {At : World → Value → (Nat → Prop) → Nat → Nat → Nat → Nat → List (List Int) → Prop} {At' : World → Value → (Nat → Prop) → Nat → Nat → Nat → Nat → List Symb → Prop} (P : PreOk) (O : SystemOk) (E : EncOk At) (C : DecOk At') (p1 p2 p3 a b c sd : Int) (vd vi vx : Value) (D il xd : List Int) (xi tn : Int) (w : World) (hd : Bs w vd D) (hi : Zs w vi il) (hx : Bs w vx xd) (hxi : I64 xi) :
  Calls Tryz.prog 7 #[par p1 p2 p3, .int .i64 a, .int .i64 b, .int .i64 c, .int .u64 sd, vd, vi, .agg #[.int .i64 xi, vx], .int .i64 tn] w fun e w' => e = .returned (.bool true) ∧ Gr w w' := by
 have HPR := Lib.hid P
 have HO := Lib.hid O
 have HE := Lib.hid E
 have HC := Lib.hid C
 have HD := Lib.hid hd
 have HI := Lib.hid hi
 have HXX := Lib.hid hx
 have HXI := Lib.hid hxi
 obtain ⟨od, md, cd, rfl⟩ := Bs.form4 hd
 obtain ⟨oi, ci, rfl⟩ := hi.form
 obtain ⟨oxx, cxx, rfl⟩ := hx.form
 obtain ⟨nx, hnx⟩ : ∃ n, xd.length = n := ⟨_, rfl⟩
 rw [hnx] at HXX ⊢
 have HNX := Lib.hid hnx
 clear P O E C hd hi hx hxi hnx
 obtain ⟨K, hK, K1, K2⟩ : ∃ K : Nat, 1 + a % 16 = K ∧ 1 ≤ K ∧ K ≤ 16 := ⟨(1 + a % 16).toNat, by omega, by omega, by omega⟩
 obtain ⟨H, hH, H1, H2⟩ : ∃ K : Nat, 1 + b % 4 = K ∧ 1 ≤ K ∧ K ≤ 4 := ⟨(1 + b % 4).toNat, by omega, by omega, by omega⟩
 obtain ⟨S, hS, S1, S2⟩ : ∃ K : Nat, 1 + c % 24 = K ∧ 1 ≤ K ∧ K ≤ 24 := ⟨(1 + c % 24).toNat, by omega, by omega, by omega⟩
 have hm : MayP K H S := by unfold MayP; omega
 have HM := Lib.hid hm
 obtain ⟨Q, hQ⟩ : ∃ Q, K * S = Q := ⟨_, rfl⟩
 have hQ1 : 1 ≤ Q := by rw [← hQ]; exact Nat.mul_pos K1 S1
 have hQ2 : Q ≤ 384 := by rw [← hQ]; exact Nat.le_trans (Nat.mul_le_mul K2 S2) (by omega)
 have hQi : (K : Int) * (S : Int) = (Q : Int) := by rw [← hQ]; simp
 have hQw : IntKind.i64.wrap (Q : Int) = Q := by simp [IntKind.wrap, IntKind.bits, IntKind.signed]; omega
 have HQ := Lib.hid hQ
 clear hm hQ
 obtain ⟨s0, hs0, hs1⟩ : ∃ s : Nat, sd % 4294967296 = s ∧ s < 4294967296 := ⟨(sd % 4294967296).toNat, by omega, by omega⟩
 have hw32 : IntKind.u32.wrap sd = (s0 : Int) := by rw [← hs0]; simp [IntKind.wrap, IntKind.bits, IntKind.signed]
 have GP0 : Hid (Gr w ((w.alloc (.cells #[.int .i64 p1, .int .i64 p2, .int .i64 p3] 23)).alloc (.cells #[.int .i64 xi, .slice oxx nx cxx] 30))) := Lib.hid (Gr.alloc (Gr.alloc (Gr.refl _) _ _) _ _)
 have PP0 : Hid (Par ((w.alloc (.cells #[.int .i64 p1, .int .i64 p2, .int .i64 p3] 23)).alloc (.cells #[.int .i64 xi, .slice oxx nx cxx] 30)) w.heap.size p1 p2 p3) := Lib.hid (heap_alloc2_old _ _ _)
 have PX0 : Hid (((w.alloc (.cells #[.int .i64 p1, .int .i64 p2, .int .i64 p3] 23)).alloc (.cells #[.int .i64 xi, .slice oxx nx cxx] 30)).heap[w.heap.size + 1]? = some (.cells #[.int .i64 xi, .slice oxx nx cxx] 30 (0, 0))) := Lib.hid (heap_alloc2_new _ _ _)
 go_enter Tryz.func7, Tryz.ntmps7
 by_cases hbig : 60 < nx
 ·go_wp2_with fail
  refine (decWakes_any HC.out _).mono ?_
  rintro e w9 ⟨rfl, hg9⟩
  have G9 := Lib.hid (Gr.trans GP0.out hg9)
  clear hg9
  go_wp2_with fail
  go_ret
  exact ⟨rfl, G9.out⟩
 go_upto_region 3 with fail
 generalize hgp0 : w.heap.size = gpp at *
 generalize (w.alloc (.cells #[.int .i64 p1, .int .i64 p2, .int .i64 p3] 23)).alloc (.cells #[.int .i64 xi, .slice oxx nx cxx] 30) = WP at *
 have c0 := PP0.out.cell0
 have c1 := PP0.out.cell1
 have c2 := PP0.out.cell2
 go_cut [19] (fun dv wx => Gr WP wx ∧ ∃ oa, dv = .pointer oa ∧ oa.isSome = decide (MayP p1 p2 p3))
 case first =>
  by_cases hm : MayP p1 p2 p3
  ·obtain ⟨k, h, z, rfl, rfl, rfl⟩ := may_nats hm
   go_wp2_with fail
   refine (HC.out.new k h z s0 _ hs1 hm).mono ?_
   rintro e w1 ⟨d, F, rfl, hat, hg, _⟩
   obtain ⟨ad, rfl⟩ := HC.out.ptr hat
   have G1 := Lib.hid hg
   clear hat hg
   go_wp2_with fail
   go_meet
   exact ⟨G1.out, _, rfl, by rw [decide_eq_true hm]; rfl⟩
  ·go_wp2_with fail
   refine (HC.out.newNe p1 p2 p3 s0 _ hs1 hm).mono ?_
   rintro e w1 ⟨rfl, hg⟩
   have G1 := Lib.hid hg
   clear hg
   go_wp2_with fail
   go_meet
   exact ⟨G1.out, _, rfl, by rw [decide_eq_false hm]; rfl⟩
 case rest =>
  obtain ⟨hgc, oa, rfl, hoa⟩ := hcut
  have GC := Lib.hid hgc
  have HOA := Lib.hid hoa
  have PPC := Lib.hid (PP0.out.grown hgc)
  clear hgc hoa c0 c1 c2
  have c0 := PPC.out.cell0
  have c1 := PPC.out.cell1
  have c2 := PPC.out.cell2
  go_upto_region 4 with fail
  go_cut [52] (fun bv wx => bv = .bool false ∧ Gr WP wx)
  case first =>
   go_wp2_with fail
   refine (HPR.out.may p1 p2 p3 _).mono ?_
   rintro e w3 ⟨rfl, hg3⟩
   have G3 := Lib.hid (Gr.trans GC.out hg3)
   clear hg3
   rcases oa with _ | aa
   ·have e : decide (MayP p1 p2 p3) = false := by rw [← HOA.out]; rfl
    rw [e]
    go_wp2_with fail
    go_meet
    exact ⟨rfl, G3.out⟩
   ·have e : decide (MayP p1 p2 p3) = true := by rw [← HOA.out]; rfl
    rw [e]
    go_wp2_with fail
    go_meet
    exact ⟨rfl, G3.out⟩
  case rest =>
   obtain ⟨rfl, hgc⟩ := hcut
   have GP2 := Lib.hid hgc
   have hd2 := HD.out.grown GP0.out
   have hi2 := HI.out.grown GP0.out
   have hx2 := HXX.out.grown GP0.out
   clear hgc GC HOA PPC c0 c1 c2 HD HI HXX
   have HD := Lib.hid hd2
   have HI := Lib.hid hi2
   have HXX := Lib.hid hx2
   clear hd2 hi2 hx2
   go_wp2_with fail
   refine (params_any a b c _).mono ?_
   rintro e w1 ⟨rfl, hgx⟩
   have hg := Gr.trans GP2.out hgx
   rw [hK, hH, hS]
   clear hK hH hS
   go_wp2_with fail
   have HP : Hid (Par (w1.alloc (.cells #[.int .i64 (K : Int), .int .i64 (H : Int), .int .i64 (S : Int)] 23)) w1.heap.size K H S) := Lib.hid (heap_alloc_new _ _)
   have HG : Hid (Gr WP (w1.alloc (.cells #[.int .i64 (K : Int), .int .i64 (H : Int), .int .i64 (S : Int)] 23))) := Lib.hid (Gr.alloc hg _ _)
   clear hg
   generalize w1.alloc (.cells #[.int .i64 (K : Int), .int .i64 (H : Int), .int .i64 (S : Int)] 23) = W0 at *
   generalize w1.heap.size = gp at *
   have c0 := HP.out.cell0
   have c1 := HP.out.cell1
   have c2 := HP.out.cell2
   go_wp2_with fail
   refine (seed_any HO.out K H S sd _).mono ?_
   rintro e w2 ⟨s, rfl, hs, hg2⟩
   have HP2 := Lib.hid (HP.out.grown hg2)
   have HG2 := Lib.hid (Gr.trans HG.out hg2)
   have HS := Lib.hid hs
   clear hg2 HP HG c0 c1 c2 hs
   have c0 := HP2.out.cell0
   have c1 := HP2.out.cell1
   have c2 := HP2.out.cell2
   go_wp2_with fail
   obtain ⟨X, hX⟩ : ∃ X, dataL D Q = X := ⟨_, rfl⟩
   have HX := Lib.hid hX
   have HXB : Hid (∀ z ∈ X, Byt z) := Lib.hid (by rw [← hX]; exact dataL_byt HD.out.1 Q)
   have HXL : Hid (X.length = Q) := Lib.hid (by rw [← hX]; exact dataL_length D Q)
   clear hX
   by_cases hr : RightP K H S s
   ·have HR := Lib.hid hr
    clear hr
    go_region_held3 (fun W => W.cell? ⟨gp, 0, none⟩ = some (.int .i64 (K : Int)) ∧ W.cell? ⟨gp, 1, none⟩ = some (.int .i64 (H : Int)) ∧ W.cell? ⟨gp, 2, none⟩ = some (.int .i64 (S : Int))) (first | exact ⟨k20, k21, k22⟩ | exact ⟨k10, k11, k12⟩ | go_keep)
     (first
       | (go_at_call 12; refine (HE.out.new K H S s _ X _ HS.out B1.out HM.out (by rw [HXL.out, HQ.out]) HR.out).mono ?_; rintro e v2 ⟨y, F, M, rfl, hmid, hat, hg4, hF⟩; obtain ⟨ay, rfl⟩ := HE.out.ptr hat; have k20 := cell_grown hg4 (by exact k10); have k21 := cell_grown hg4 (by exact k11); have k22 := cell_grown hg4 (by exact k12); have HMI := Lib.hid hmid; have HAT := Lib.hid hat; have V2 : Hid (Gr w2 v2) := Lib.hid (Gr.trans V1.out hg4); clear hmid hat hg4 hF)
       | (go_at_call 13; refine (data_any _ D Q _ (Bs.grown HD.out (Gr.trans HG2.out (Gr.drew (Gr.refl _)))) hQ1 (by omega)).mono ?_; rw [HX.out]; rintro e v1 ⟨y1, rfl, hn1⟩; obtain ⟨o1, d1, hf1⟩ := (New.bs hn1).form; rw [HXL.out] at hf1; subst hf1; have B1 := Lib.hid (New.bs hn1); have hg1 := hn1.1; have k10 := cell_grown hg1 (by exact c0); have k11 := cell_grown hg1 (by exact c1); have k12 := cell_grown hg1 (by exact c2); have V1 : Hid (Gr w2 v1) := Lib.hid (by exact hg1); clear hn1 hg1))
    have HP4 := Lib.hid (HP2.out.grown V2.out)
    have HG4 := Lib.hid (Gr.trans HG2.out V2.out)
    clear HP2 HG2 V2 V1 B1 c0 c1 c2 k10 k11 k12 k20 k21 k22
    go_wp2_with fail
    refine (HC.out.new K H S s _ HS.out HM.out).mono ?_
    rintro e w3 ⟨dd, F0, rfl, hat3, hg3, hF3⟩
    obtain ⟨ad, rfl⟩ := HC.out.ptr hat3
    have HP3 := Lib.hid (HP4.out.grown hg3)
    have HG3 := Lib.hid (Gr.trans HG4.out hg3)
    have HA3 := Lib.hid (HE.out.grown HAT.out hg3)
    have HF3 : Hid (∀ k, F0 k → WP.heap.size ≤ k ∧ k < w3.heap.size) := Lib.hid fun k hk => ⟨Nat.le_trans HG4.out.size (hF3 k hk), HC.out.lt hat3 k hk⟩
    have DAT := Lib.hid hat3
    have HGF : Hid (¬ F0 gp) := Lib.hid fun c => by have h1 := hF3 gp c; have h2 := (Array.getElem?_eq_some_iff.1 HP4.out).1; omega
    clear hat3 hg3 hF3 HP4 HG4 HAT
    go_wp2_with fail
    refine (symbols_any HE.out _ _ F K H S s 30 M il _ HM.out HS.out HA3.out HMI.out.wide HMI.out.len (HI.out.grown HG3.out) (by omega)).mono ?_
    rintro e w5 ⟨v5, rfl, ho5, hg5⟩
    have HIM := Lib.hid (ids60_may il 30)
    have hil : (ids60 il 30).length ≤ 30 := by rw [ids60_length]; omega
    generalize ids60 il 30 = ids at *
    obtain ⟨R, hR⟩ : ∃ n, ids.length = n := ⟨_, rfl⟩
    obtain ⟨o5, c5, e5⟩ := ho5.form
    rw [symY_length, hR] at e5
    subst e5
    rw [hR] at hil
    have HSA := Lib.hid (symY_all (seed := s) HM.out HMI.out.wide HMI.out.len HIM.out)
    have HRL : Hid ((symY K H S s M ids).length = R) := Lib.hid (by rw [symY_length, hR])
    generalize symY K H S s M ids = Le at *
    have HO5 := Lib.hid ho5
    have HP5 := Lib.hid (HP3.out.grown hg5)
    have HG5 := Lib.hid (Gr.trans HG3.out hg5)
    have DA5 := Lib.hid (HC.out.grown DAT.out hg5)
    have HX5 := Lib.hid (HXX.out.grown HG5.out)
    have PX5 : Hid (w5.heap[gpp + 1]? = some (.cells #[.int .i64 xi, .slice oxx nx cxx] 30 (0, 0))) := Lib.hid (keptRow HG5.out PX0.out)
    have H35 := Lib.hid hg5.size
    clear ho5 hg5 HP3 HG3 HA3 DAT hR HIM
    obtain ⟨k, hk, hk2⟩ : ∃ k : Nat, tn % ((R : Int) + 1) = (k : Int) ∧ k ≤ R := by
     have h1 := Int.emod_nonneg tn (by omega : (R : Int) + 1 ≠ 0)
     have h2 := Int.emod_lt_of_pos tn (by omega : 0 < (R : Int) + 1)
     exact ⟨(tn % ((R : Int) + 1)).toNat, by omega, by omega⟩
    have HK := Lib.hid hk
    clear hk
    go_wp2_with fail
    refine (within_any tn ((R : Int) + 1) (by omega) (by omega) _).mono ?_
    rintro e w' ⟨rfl, rfl⟩
    rw [HK.out]
    have x0 : w5.cell? ⟨gpp + 1, 0, none⟩ = some (.int .i64 xi) := by rw [cell_of_row w5 (gpp + 1) 0 _ _ _ PX5.out]; rfl
    have x1 : w5.cell? ⟨gpp + 1, 1, none⟩ = some (.slice oxx nx cxx) := by rw [cell_of_row w5 (gpp + 1) 1 _ _ _ PX5.out]; rfl
    go_upto_region 15 with fail
    have hP5 : ∀ q, w3.heap.size ≤ q → q < w5.heap.size → ¬ F0 q ∧ q < w5.heap.size := fun q h1 h2 => ⟨fun c => by have := (HF3.out q c).2; omega, h2⟩
    have hPx : ∀ q, q < WP.heap.size → ¬ F0 q ∧ q < w5.heap.size := fun q h => ⟨fun c => by have := (HF3.out q c).1; omega, by have := HG5.out.size; omega⟩
    have hyx : SyVal (fun q => ¬ F0 q ∧ q < w5.heap.size) w5.heap.size w5 (.int .i64 xi) (.slice oxx nx cxx) ⟨xi, xd⟩ := ((SyVal.of HXI.out HXX.out hPx).mono HG5.out.size).gr HG5.out
    have HYX := Lib.hid hyx
    have HL1 : Hid (∀ W W' : World, Gr w5 W → Gr (W.alloc (.cells #[.int .i64 xi, .slice oxx nx cxx] 30)) W' → SymsV (fun q => ¬ F0 q ∧ q < w5.heap.size) w5.heap.size W' (some ⟨W.heap.size, 0, none⟩) 1 [⟨xi, xd⟩]) := Lib.hid fun W W' h1 h2 => by
     refine SymsV.single (uc := .int .i64 xi) (ud := .slice oxx nx cxx) (cell_grown h2 ?_) (cell_grown h2 ?_) (HYX.out.gr (Gr.trans (Gr.alloc h1 _ _) h2))
     ·rw [cell_of_row _ _ 0 _ _ _ (heap_alloc_new W _)]; rfl
     ·rw [cell_of_row _ _ 1 _ _ _ (heap_alloc_new W _)]; rfl
    have hg0 : Gr w5 w5.drew := Gr.drew (Gr.refl _)
    have hg1 : Gr w5 (w5.drew.alloc (.cells #[.int .i64 xi, .slice oxx nx cxx] 30)) := Gr.alloc hg0 _ _
    have G0 := Lib.hid hg0
    have G1 := Lib.hid hg1
    have HT0 : Hid ((Le.take k).length = k) := Lib.hid (by rw [List.length_take, HRL.out]; omega)
    have HT1 : Hid ((Le.take k ++ [(⟨xi, xd⟩ : Symb)]).length = k + 1) := Lib.hid (by rw [List.length_append, HT0.out]; rfl)
    have HT2 : Hid ((Le.take k ++ [(⟨xi, xd⟩ : Symb)] ++ Le.drop k).length = R + 1) := Lib.hid (by rw [List.length_append, HT1.out, List.length_drop, HRL.out]; omega)
    clear hg0 hg1 hyx hPx
    go_cut [25] (fun lv wx => SymsO (fun q => ¬ F0 q ∧ q < w5.heap.size) w5.heap.size wx lv (Le.take k ++ [⟨xi, xd⟩] ++ Le.drop k) ∧ Gr w5 wx)
    case first =>
     -- S1
     rcases HO5.out.lies with ⟨rfl, rfl, rfl⟩ | ⟨g2, rfl, hc2⟩
     ·obtain rfl : Le = [] := List.eq_nil_of_length_eq_zero HRL.out
      obtain rfl : k = 0 := by omega
      have VT : Hid (SymsV (fun q => ¬ F0 q ∧ q < w5.heap.size) w5.heap.size w5 none 0 (List.take 0 ([] : List Symb))) := Lib.hid (SymsV.nil _ _ _)
      have VD : Hid (SymsV (fun q => ¬ F0 q ∧ q < w5.heap.size) w5.heap.size w5 none 0 (List.drop 0 ([] : List Symb))) := Lib.hid (SymsV.nil _ _ _)
      clear hP5
      go_region_held3 (fun W => W.cell? ⟨gpp + 1, 0, none⟩ = some (.int .i64 xi) ∧ W.cell? ⟨gpp + 1, 1, none⟩ = some (.slice oxx nx cxx)) (first | exact ⟨cell_grown G9.out x0, cell_grown G9.out x1⟩ | exact ⟨cell_grown G8.out x0, cell_grown G8.out x1⟩ | exact ⟨cell_grown G6.out x0, cell_grown G6.out x1⟩ | exact ⟨cell_grown (Gr.alloc G6.out _ _) x0, cell_grown (Gr.alloc G6.out _ _) x1⟩ | exact ⟨cell_grown G1.out x0, cell_grown G1.out x1⟩ | go_keep)
       (first
         | (have hx8 := L8; refine step_append_sys rfl _ _ (by rfl) w5.heap.size (.slice o8 (0 + 1) c8) (List.take 0 ([] : List Symb) ++ [⟨xi, xd⟩]) (List.drop 0 ([] : List Symb)) (by rfl) L8.out none 0 0 (by rfl) (VD.out.grown G8.out) (fun _ => rfl) (by rw [HT1.out]; omega) G8.out.size ?_; intro v9 w9 h9 hg9 hgr9; have L9 := Lib.hid h9; have G9 := Lib.hid (hg9 w5 G8.out (Nat.le_refl _)); clear h9 hg9 hgr9)
         | (have hx6 := L6; refine step_append_sys rfl _ _ (by rfl) w5.heap.size (.slice o6 0 c6) ([] ++ List.take 0 ([] : List Symb)) [⟨xi, xd⟩] (by rfl) (by first | exact L6.out | exact L6.out.grown (Gr.alloc (Gr.refl _) _ _)) _ 1 1 (by rfl) (by first | exact HL1.out _ _ (Gr.drew (Gr.refl _)) P6.out | exact HL1.out _ _ G6.out (Gr.refl _)) (fun e => by cases e) (by rw [List.nil_append, HT0.out]; omega) (by have := G6.out.size; simp; omega) ?_; intro v8 w8 h8 hg8 hgr8; rw [List.nil_append] at h8; have L8 := Lib.hid h8; have G8 : Hid (Gr w5 w8) := Lib.hid (by first | exact hg8 w5 G6.out (Nat.le_refl _) | exact hg8 w5 (Gr.alloc G6.out _ _) (Nat.le_refl _)); clear h8 hg8 hgr8; obtain ⟨o8, c8, e8⟩ := L8.out.form; rw [HT1.out] at e8; subst e8)
         | (refine step_append_sys rfl _ _ (by rfl) w5.heap.size (.slice none 0 0) [] (List.take 0 ([] : List Symb)) (by rfl) (SymsO.nil _ _) none 0 0 (by rfl) (by first | exact VT.out.grown G0.out | exact VT.out.grown G1.out) (fun _ => rfl) (by simp) (by simp) ?_; intro v6 w6 h6 hg6 hgr6; have L6 := Lib.hid h6; have G6 : Hid (Gr w5 w6) := Lib.hid (by first | exact hg6 w5 G0.out (Nat.le_refl _) | exact hg6 w5 G1.out (Nat.le_refl _)); have P6 := Lib.hid (Gr.append (Gr.refl _) hgr6 (fun _ h => by cases h)); clear h6 hg6 hgr6; obtain ⟨o6, c6, e6⟩ := L6.out.form; rw [List.nil_append, HT0.out] at e6; subst e6))
      all_goals (go_wp2_with fail; go_meet)
      all_goals exact ⟨L9.out, G9.out⟩
     ·have hV0 : SymsV (fun q => ¬ F0 q ∧ q < w5.heap.size) w5.heap.size w5 (some ⟨g2, 0, none⟩) R Le := (HO5.out.vals.mono H35.out).below hP5
      obtain ⟨od2, hod, hVd⟩ : ∃ od, (if c5 = k then some (⟨g2, 0, none⟩ : Addr) else some ⟨g2, k * 2, none⟩) = some od ∧ SymsV (fun q => ¬ F0 q ∧ q < w5.heap.size) w5.heap.size w5 (some od) (R - k) (Le.drop k) := by
       by_cases e : c5 = k
       ·rw [if_pos e]
        have h1 : R - k = 0 := by omega
        have h2 : Le.drop k = [] := List.drop_eq_nil_of_le (by rw [HRL.out]; omega)
        rw [h1, h2]
        exact ⟨_, rfl, SymsV.nil _ _ _⟩
       ·rw [if_neg e]
        refine ⟨_, rfl, ?_⟩
        have h := hV0.drop k
        rw [Addr.add_mid, Nat.zero_add] at h
        exact h
      obtain ⟨y, hy⟩ : ∃ y, R - k = y := ⟨_, rfl⟩
      obtain ⟨z, hz⟩ : ∃ z, c5 - k = z := ⟨_, rfl⟩
      rw [hy] at hVd
      have VD := Lib.hid hVd
      have VT := Lib.hid (hV0.take hk2)
      have hyl : y ≤ 30 := by omega
      have b1 : (k : Int) ≤ R := by omega
      have b2 : (R : Int) ≤ c5 := by omega
      have b3 : (k : Int) ≤ c5 := by omega
      clear hVd hV0 hP5
      go_region_held3 (fun W => W.cell? ⟨gpp + 1, 0, none⟩ = some (.int .i64 xi) ∧ W.cell? ⟨gpp + 1, 1, none⟩ = some (.slice oxx nx cxx)) (first | exact ⟨cell_grown G9.out x0, cell_grown G9.out x1⟩ | exact ⟨cell_grown G8.out x0, cell_grown G8.out x1⟩ | exact ⟨cell_grown G6.out x0, cell_grown G6.out x1⟩ | exact ⟨cell_grown (Gr.alloc G6.out _ _) x0, cell_grown (Gr.alloc G6.out _ _) x1⟩ | exact ⟨cell_grown G1.out x0, cell_grown G1.out x1⟩ | go_keep)
       (first
         | (have hx8 := L8; refine step_append_sys rfl _ _ (by rfl) w5.heap.size (.slice o8 (k + 1) c8) (Le.take k ++ [⟨xi, xd⟩]) (Le.drop k) (by rfl) L8.out (some od2) y z (by rfl) (VD.out.grown G8.out) (fun e => by cases e) (by rw [HT1.out]; omega) G8.out.size ?_; intro v9 w9 h9 hg9 hgr9; have L9 := Lib.hid h9; have G9 := Lib.hid (hg9 w5 G8.out (Nat.le_refl _)); clear h9 hg9 hgr9)
         | (have hx6 := L6; refine step_append_sys rfl _ _ (by rfl) w5.heap.size (.slice o6 k c6) ([] ++ (Le.take k)) [⟨xi, xd⟩] (by rfl) (by first | exact L6.out | exact L6.out.grown (Gr.alloc (Gr.refl _) _ _)) _ 1 1 (by rfl) (by first | exact HL1.out _ _ (Gr.drew (Gr.refl _)) P6.out | exact HL1.out _ _ G6.out (Gr.refl _)) (fun e => by cases e) (by rw [List.nil_append, HT0.out]; omega) (by have := G6.out.size; simp; omega) ?_; intro v8 w8 h8 hg8 hgr8; rw [List.nil_append] at h8; have L8 := Lib.hid h8; have G8 : Hid (Gr w5 w8) := Lib.hid (by first | exact hg8 w5 G6.out (Nat.le_refl _) | exact hg8 w5 (Gr.alloc G6.out _ _) (Nat.le_refl _)); clear h8 hg8 hgr8; obtain ⟨o8, c8, e8⟩ := L8.out.form; rw [HT1.out] at e8; subst e8)
         | (refine step_append_sys rfl _ _ (by rfl) w5.heap.size (.slice none 0 0) [] (Le.take k) (by rfl) (SymsO.nil _ _) (some ⟨g2, 0, none⟩) k c5 (by rfl) (by first | exact VT.out.grown G0.out | exact VT.out.grown G1.out) (fun e => by cases e) (by simp; omega) (by simp) ?_; intro v6 w6 h6 hg6 hgr6; have L6 := Lib.hid h6; have G6 : Hid (Gr w5 w6) := Lib.hid (by first | exact hg6 w5 G0.out (Nat.le_refl _) | exact hg6 w5 G1.out (Nat.le_refl _)); have P6 := Lib.hid (Gr.append (Gr.refl _) hgr6 (fun _ h => by cases h)); clear h6 hg6 hgr6; obtain ⟨o6, c6, e6⟩ := L6.out.form; rw [List.nil_append, HT0.out] at e6; subst e6))
      all_goals (go_wp2_with fail; go_meet)
      all_goals exact ⟨L9.out, G9.out⟩
     -- E1
    case rest =>
     obtain ⟨hl9, hg9⟩ := hcut
     have hsz : ∀ q ∈ Le.take k ++ [(⟨xi, xd⟩ : Symb)] ++ Le.drop k, q.d.length ≤ 60 := fun q hq => by
      have hle : q ∈ Le → q.d.length ≤ 60 := fun h => by have := (HSA.out.2 q h).2; omega
      rcases List.mem_append.1 hq with h | h
      ·rcases List.mem_append.1 h with h | h
       ·exact hle (List.mem_of_mem_take h)
       ·obtain rfl := List.mem_singleton.1 h
        show xd.length ≤ 60
        have := HNX.out
        omega
      ·exact hle (List.mem_of_mem_drop h)
     have hlen := HT2.out
     generalize Le.take k ++ [(⟨xi, xd⟩ : Symb)] ++ Le.drop k = L9 at *
     obtain ⟨us, ho9, _⟩ := id hl9
     have hb9 := sy_base ho9
     obtain ⟨ol9, cl9, e9⟩ := hl9.form
     rw [hlen] at e9
     subst e9
     have hl10 := hl9.imp (P' := fun q => ¬ F0 q ∧ q < wc.heap.size) (fun q h => ⟨h.1, Nat.lt_of_lt_of_le h.2 hg9.size⟩)
     have hF9 : ∀ k, F0 k → w.heap.size ≤ k := fun k h => Nat.le_trans GP0.out.size (HF3.out k h).1
     have hlF9 : ∀ g, (Value.slice ol9 (R + 1) cl9).ownBlock = some g → ¬ F0 g := fun g h c => by have h1 := hb9 g h; have h2 := (HF3.out g c).2; have h3 := H35.out; omega
     have hat9 := HC.out.grown DA5.out hg9
     have hpar9 := HP5.out.grown hg9
     have hgw9 := Gr.trans GP0.out (Gr.trans HG5.out hg9)
     apply_assumption
     exact plays_tail HPR.out HO.out HC.out K H S s gp (R + 1) cl9 w5.heap.size ol9 ad F0 L9 w wc _ _ _ _ _ _ _ _ _ _ _ _ _ _ _ _ _ _ _ _ _ _ _ _ _ _ _ _ _ _ _ _ _ _ _ _ _ _ _ _ _ _ _ _ _ _ _ _ _ _ _ _ _ _ _ _ _ _ _ _ _ _ _ _ _ _ _ _ _ _ _ _ _ _ _ _ _ _ _ _ _ _ _ _ _ _ _ _ _ _ _ _ _ _ _ _ _ _ _ _ _ _ _ _ _ _ _ _ _ _ _ _ _ _ _ _ _ _ _ _ _ _ _ _ _ _ _ _ _ _ _ _ _ _ _ _ _ _ _ _ _ _ _ _ _ _ _ _ _ _ _ _ _ _ _ _ _ _ _ _ _ _ _ _ _ _ _ _ _ _ _ _ _ _ _ _ _ _ _ _ _ _ _ _ _ _ _ _ _ _ _ _ _ _ _ _ _ _ _ _ _ _ _ _ _ _ _ _ _ _ _ _ HM.out HS.out ⟨K2, H2, S2⟩ hat9 hF9 hl10 hlF9 hlen (by omega) hsz hpar9 HGF.out hgw9 hg9.size
   ·have HR := Lib.hid hr
    clear hr
    go_region_held3 (fun W => W.cell? ⟨gp, 0, none⟩ = some (.int .i64 (K : Int)) ∧ W.cell? ⟨gp, 1, none⟩ = some (.int .i64 (H : Int)) ∧ W.cell? ⟨gp, 2, none⟩ = some (.int .i64 (S : Int))) (first | exact ⟨k20, k21, k22⟩ | exact ⟨k10, k11, k12⟩ | go_keep)
     (first
       | (go_at_call 12; refine (HE.out.newSeed K H S s _ X _ HS.out B1.out HM.out (by rw [HXL.out, HQ.out]) HR.out).mono ?_; rintro e v2 ⟨rfl, hg4⟩; have k20 := cell_grown hg4 (by exact k10); have k21 := cell_grown hg4 (by exact k11); have k22 := cell_grown hg4 (by exact k12); have V2 : Hid (Gr w2 v2) := Lib.hid (Gr.trans V1.out hg4); clear hg4)
       | (go_at_call 13; refine (data_any _ D Q _ (Bs.grown HD.out (Gr.trans HG2.out (Gr.drew (Gr.refl _)))) hQ1 (by omega)).mono ?_; rw [HX.out]; rintro e v1 ⟨y1, rfl, hn1⟩; obtain ⟨o1, d1, hf1⟩ := (New.bs hn1).form; rw [HXL.out] at hf1; subst hf1; have B1 := Lib.hid (New.bs hn1); have hg1 := hn1.1; have k10 := cell_grown hg1 (by exact c0); have k11 := cell_grown hg1 (by exact c1); have k12 := cell_grown hg1 (by exact c2); have V1 : Hid (Gr w2 v1) := Lib.hid (by exact hg1); clear hn1 hg1))
    have HG4 := Lib.hid (Gr.trans HG2.out V2.out)
    go_wp2_with fail
    refine (decWakes_any HC.out _).mono ?_
    rintro e w5 ⟨rfl, hg5⟩
    have HG5 := Lib.hid (Gr.trans HG4.out hg5)
    clear hg5
    go_wp2_with fail
    go_ret
    exact ⟨rfl, Gr.trans GP0.out HG5.out⟩
end Go.Proofs.YtbbglejdfbkjlaaGreat
namespace Go.Proofs.YtbbglejdfbkjlaaGreat
open Go.RowKit
theorem own_front {w : World} {base n : Nat} {v : Value} {us : List Value} {e : TypeId} (h : w.ownsRow base e 1 v n us) : ∃ o c, v = .slice o n c ∧ w.ownsRow base e 1 (.slice o 0 c) 0 [] := by
 obtain ⟨h0, ⟨rfl, rfl⟩ | ⟨g, c, cur, rfl, hb, hg, h1, h2, h3, h4⟩⟩ := h
 ·exact ⟨none, 0, rfl, World.ownsRow_nil _ _ _ _⟩
 ·exact ⟨_, c, rfl, by simp, .inr ⟨g, c, cur, rfl, hb, hg, by omega, h2, h3, by simp⟩⟩
set_option maxRecDepth 100000 in
set_option maxHeartbeats 1600000 in
theorem dgrow_any (n : Nat) (w : World) (hn : n ≤ 100000) :
  Calls Tryz.prog 92 #[.slice none 0 0, .int .i64 (n : Int)] w fun e w' => ∃ v, e = .returned v ∧ w'.ownsRow w.heap.size 5 1 v 0 [] ∧ Gr w w' := by
 by_cases h0 : 0 < n
 ·have hd : decide ((0 : Int) < (n : Int)) = true := by simpa using h0
  go_enter Tryz.func92, Tryz.ntmps92
  go_wp2_with (at_builtin; refine want_append_zeros (by rfl) _ _ rfl w.heap.size (.slice none 0 0) 0 [] rfl (World.ownsRow_nil _ _ _ _) n rfl (by omega) (Nat.le_refl _) ?_; intro v' w' h1 h2; rw [Nat.zero_add] at h1; obtain ⟨o, c, rfl, hf⟩ := own_front h1; have HF := Lib.hid hf; have G := Lib.hid (Gr.append (Gr.refl w) h2 (fun _ h => by cases h)); clear h1 h2 hf)
  go_ret
  exact ⟨_, rfl, HF.out, G.out⟩
 ·obtain rfl : n = 0 := by omega
  go_enter Tryz.func92, Tryz.ntmps92
  go_wp2_with fail
  go_ret
  exact ⟨_, rfl, World.ownsRow_nil _ _ _ _, Gr.refl _⟩
theorem flat_snoc {L : List (List Int)} {i : Nat} (h : i < L.length) : (L.take (i + 1)).flatten = (L.take i).flatten ++ L.getD i [] := by
 rw [List.take_add_one, List.getElem?_eq_getElem h, List.getD_eq_getElem?_getD, List.getElem?_eq_getElem h, List.flatten_append]
 simp
theorem flat_le (L : List (List Int)) (i : Nat) : (L.take i).flatten.length ≤ L.flatten.length := by
 have h : L = L.take i ++ L.drop i := (List.take_append_drop i L).symm
 have h2 : L.flatten = (L.take i).flatten ++ (L.drop i).flatten := by
  conv => lhs; rw [h]
  rw [List.flatten_append]
 rw [h2, List.length_append]
 omega
set_option maxRecDepth 100000 in
set_option maxHeartbeats 3200000 in
theorem dconcat_any (v : Value) (L : List (List Int)) (w : World) (h : Bss w v L) (hl : L.length ≤ 1000) (hf : L.flatten.length ≤ 100000) :
  Calls Tryz.prog 51 #[v] w fun e w' => ∃ u, e = .returned u ∧ New w w' u L.flatten := by
 have HB := Lib.hid h
 obtain ⟨o, c, rfl, h1, h2, h3, h4⟩ := h
 obtain ⟨n, hn⟩ : ∃ n, L.length = n := ⟨_, rfl⟩
 rw [hn] at HB hl ⊢
 have HN := Lib.hid hn
 have HC := Lib.hid h4
 have HO : Hid (o = none → n = 0) := Lib.hid fun e => by have := h3 e; omega
 have HFL := Lib.hid hf
 have HBY : Hid (∀ r ∈ L, ∀ x ∈ r, Byt x) := Lib.hid HB.out.byt
 have ROW : ∀ i, i < n → ∃ a oo m cc, o = some a ∧ w.cell? (a.add i) = some (.slice oo m cc) ∧ Bs w (.slice oo m cc) (L.getD i []) ∧ (L.getD i []).length = m := fun i hi => by
  cases ho : o with
  | none => exact absurd (HO.out ho) (by omega)
  | some a =>
   obtain ⟨u, q1, q2⟩ := HC.out a ho i (by rw [HN.out]; exact hi)
   obtain ⟨oo, cc, rfl⟩ := q2.form
   exact ⟨a, oo, _, cc, rfl, q1, q2, rfl⟩
 have HROW := Lib.hid ROW
 clear h1 h2 h3 h4 hn hf ROW HC HO
 go_enter Tryz.func51, Tryz.ntmps51
 go_wp2_with fail
 go_loopw [3, 11] (fun sv iv W => W = w ∧ ∃ i : Nat, i ≤ n ∧ iv = .int .i64 i ∧ sv = .int .i64 (((L.take i).flatten.length : Nat) : Int)) (fun _ iv _ => n - (intOf iv).toNat)
 case atStart => exact ⟨rfl, 0, by omega, rfl, rfl⟩
 case round =>
  obtain ⟨hw, i, hi, rfl, rfl⟩ := hrel
  subst hw
  obtain ⟨w0, hw0⟩ : ∃ x, x = wr := ⟨_, rfl⟩
  subst hw0
  obtain ⟨s, hs⟩ : ∃ s, (L.take i).flatten.length = s := ⟨_, rfl⟩
  have hs5 : s ≤ 100000 := by rw [← hs]; exact Nat.le_trans (flat_le L i) HFL.out
  rw [hs]
  have HS := Lib.hid hs
  clear hs
  by_cases hlt : i < n
  ·obtain ⟨a, oo, m, cc, rfl, q1, q2, q3⟩ := HROW.out i hlt
   have hst : (L.take (i + 1)).flatten.length = s + m := by rw [flat_snoc (by rw [HN.out]; exact hlt), List.length_append, HS.out, q3]
   have hm5 : s + m ≤ 100000 := by rw [← hst]; exact Nat.le_trans (flat_le L _) HFL.out
   have HST := Lib.hid hst
   clear hst q2 q3
   go_wp2_with fail
   exact ⟨⟨trivial, i + 1, by omega, by go_num, by rw [HST.out]; go_num⟩, by simp [intOf]; omega⟩
  ·obtain rfl : i = n := by omega
   go_wp2_with fail
   refine (dgrow_any s _ hs5).mono ?_
   rintro e w1 ⟨v1, rfl, ho1, hg1⟩
   obtain ⟨o1, c1, rfl⟩ := ownsRow_form'' ho1
   have O1 := Lib.hid ho1
   have G1 := Lib.hid hg1
   clear ho1 hg1
   go_wp2_with fail
   go_loopw [6, 27] (fun sv iv W => ∃ j : Nat, j ≤ i ∧ iv = .int .i64 j ∧ W.ownsRow w0.heap.size 5 1 sv ((L.take j).flatten.length) (((L.take j).flatten).map (Value.int .u8)) ∧ Gr w0 W) (fun _ iv _ => i - (intOf iv).toNat)
   case atStart => exact ⟨0, by omega, rfl, by simpa using O1.out, G1.out⟩
   case round =>
    clear O1 G1
    obtain ⟨wi, hwi⟩ : ∃ x, x = wr := ⟨_, rfl⟩
    subst hwi
    obtain ⟨j, hj, rfl, ho, hg⟩ := hrel
    obtain ⟨t, ht⟩ : ∃ t, (L.take j).flatten.length = t := ⟨_, rfl⟩
    have ht5 : t ≤ 100000 := by rw [← ht]; exact Nat.le_trans (flat_le L j) HFL.out
    rw [ht] at ho
    obtain ⟨o2, c2, rfl⟩ := ownsRow_form'' ho
    have OO := Lib.hid ho
    have GG := Lib.hid hg
    have HT := Lib.hid ht
    clear ho hg ht
    by_cases hlt2 : j < i
    ·obtain ⟨a, oo, m, cc, rfl, q1, q2, q3⟩ := HROW.out j hlt2
     have q1 := cell_gr GG.out q1
     have hst := flat_snoc (L := L) (i := j) (by rw [HN.out]; exact hlt2)
     have hml : t + m ≤ 100000 := by
      have := flat_le L (j + 1)
      rw [hst, List.length_append, HT.out, q3] at this
      exact Nat.le_trans this HFL.out
     have HST := Lib.hid hst
     have Q2 := Lib.hid (q2.grown GG.out)
     have HML : Hid (t + m ≤ 1000000) := Lib.hid (by omega)
     have HLM := Lib.hid q3
     clear hst q2 q3
     go_wp2_with (at_builtin; refine wpList_append_bytes rfl _ _ rfl w0.heap.size (.slice o2 t c2) t ((L.take j).flatten) rfl OO.out oo m cc (L.getD j []) rfl Q2.out HML.out GG.out.size ?_; intro v' w' h1 h2; have O3 := Lib.hid h1; have G3 := Lib.hid (gr_by_own GG.out h2 OO.out (Nat.le_refl _)); clear h1 h2)
     refine ⟨⟨j + 1, by omega, by go_num, ?_, G3.out⟩, by simp [intOf]; omega⟩
     rw [HST.out, List.length_append, HT.out, HLM.out]
     exact O3.out
    ·obtain rfl : j = i := by omega
     go_wp2_with fail
     go_ret
     refine ⟨.slice o2 t c2, rfl, ?_⟩
     have e : L.take j = L := List.take_of_length_le (by rw [HN.out]; exact Nat.le_refl _)
     have h5 := OO.out
     have e2 : t = L.flatten.length := by rw [← HT.out, e]
     rw [e] at h5
     rw [e2] at h5 ⊢
     exact New.of_row GG.out (fun x hx => by
       obtain ⟨r, hr, hxr⟩ := List.mem_flatten.1 hx
       exact HBY.out r hr x hxr) h5
end Go.Proofs.YtbbglejdfbkjlaaGreat
namespace Go.Proofs.YtbbglejdfbkjlaaGreat
open Go.RowKit
theorem upTo_pre (m n : Int) (w : World) :
  Calls Tryz.prog 48 #[.int .i64 m, .int .i64 n] w fun e w' => e = .returned (.bool (decide (1 ≤ n ∧ n ≤ m))) ∧ w = w' := by
 by_cases h : 1 ≤ n
 ·rw [show decide (1 ≤ n ∧ n ≤ m) = decide (n ≤ m) from by rw [decide_eq_decide]; omega]
  go_enter Tryz.func48, Tryz.ntmps48
  go_wp2
  go_ret
  exact ⟨rfl, rfl⟩
 ·rw [decide_eq_false (by omega : ¬ (1 ≤ n ∧ n ≤ m))]
  go_enter Tryz.func48, Tryz.ntmps48
  go_wp2
  go_ret
  exact ⟨rfl, rfl⟩
set_option maxHeartbeats 800000 in
theorem may_pre (K H S : Int) (w : World) :
  Calls Tryz.prog 24 #[par K H S] w fun e w' => e = .returned (.bool (decide (MayP K H S))) ∧ Gr w w' := by
 have hd : decide (MayP K H S) = (decide (1 ≤ K ∧ K ≤ 16) && (decide (1 ≤ H ∧ H ≤ 4) && decide (1 ≤ S ∧ S ≤ 24))) := by
  rw [← Bool.decide_and, ← Bool.decide_and, decide_eq_decide]
  unfold MayP
  omega
 rw [hd]
 have b1 : ∀ x : Int, ∃ b : Bool, decide (1 ≤ x ∧ x ≤ 16) = b := fun x => ⟨_, rfl⟩
 obtain ⟨p, hp⟩ := b1 K
 obtain ⟨q, hq⟩ : ∃ b : Bool, decide (1 ≤ H ∧ H ≤ 4) = b := ⟨_, rfl⟩
 obtain ⟨r, hr⟩ : ∃ b : Bool, decide (1 ≤ S ∧ S ≤ 24) = b := ⟨_, rfl⟩
 have HP := Lib.hid hp
 have HQ := Lib.hid hq
 have HR := Lib.hid hr
 rw [hp, hq, hr]
 clear hp hq hr hd b1
 have P0 : Hid (Par (w.alloc (.cells #[.int .i64 K, .int .i64 H, .int .i64 S] 23)) w.heap.size K H S) := Lib.hid (heap_alloc_new _ _)
 have HG0 : Hid (Gr w (w.alloc (.cells #[.int .i64 K, .int .i64 H, .int .i64 S] 23))) := Lib.hid (Gr.alloc (Gr.refl _) _ _)
 go_enter Tryz.func24, Tryz.ntmps24
 cases p with
 | false =>
  go_wp2_with fail
  refine (upTo_pre 16 K _).mono ?_
  rw [HP.out]
  rintro e w1 ⟨rfl, rfl⟩
  go_wp2_with fail
  go_ret
  exact ⟨rfl, HG0.out⟩
 | true =>
  have c1 := P0.out.cell1
  have c2 := P0.out.cell2
  cases q with
  | false =>
   go_wp2_with fail
   refine (upTo_pre 16 K _).mono ?_
   rw [HP.out]
   rintro e w1 ⟨rfl, rfl⟩
   go_wp2_with fail
   refine (upTo_pre 4 H _).mono ?_
   rw [HQ.out]
   rintro e w1 ⟨rfl, rfl⟩
   go_wp2_with fail
   go_ret
   exact ⟨rfl, HG0.out⟩
  | true =>
   go_wp2_with fail
   refine (upTo_pre 16 K _).mono ?_
   rw [HP.out]
   rintro e w1 ⟨rfl, rfl⟩
   go_wp2_with fail
   refine (upTo_pre 4 H _).mono ?_
   rw [HQ.out]
   rintro e w1 ⟨rfl, rfl⟩
   go_wp2_with fail
   refine (upTo_pre 24 S _).mono ?_
   rw [HR.out]
   rintro e w1 ⟨rfl, rfl⟩
   go_wp2_with fail
   go_ret
   exact ⟨by simp, HG0.out⟩
set_option maxHeartbeats 400000 in
theorem cols_pre (K H S : Int) (w : World) :
  Calls Tryz.prog 27 #[par K H S] w fun e w' => e = .returned (.int .i64 (colsP K H S)) ∧ Gr w w' := by
 unfold colsP
 by_cases hm : MayP K H S
 ·have hd := decide_eq_true hm
  have HM := Lib.hid hm
  rw [if_pos hm]
  have hk : -9223372036854775808 ≤ K + H ∧ K + H ≤ 9223372036854775807 := by have := hm; unfold MayP at this; omega
  have hwr : IntKind.i64.wrap (K + H) = K + H := by have := hk; simp [IntKind.wrap, IntKind.bits, IntKind.signed]; omega
  clear hm
  go_enter Tryz.func27, Tryz.ntmps27
  go_wp2_with fail
  refine (may_pre K H S _).mono ?_
  rw [hd]
  rintro e w1 ⟨rfl, hg⟩
  have P1 : Par w1 w.heap.size K H S := Par.grown (heap_alloc_new w _) hg
  have c0 := P1.cell0
  have c1 := P1.cell1
  have G1 := Lib.hid (Gr.trans (Gr.alloc (Gr.refl w) _ _) hg)
  clear hg P1
  go_wp2_with fail
  go_ret
  exact ⟨rfl, G1.out⟩
 ·have hd := decide_eq_false hm
  rw [if_neg hm]
  clear hm
  go_enter Tryz.func27, Tryz.ntmps27
  go_wp2_with fail
  refine (may_pre K H S _).mono ?_
  rw [hd]
  rintro e w1 ⟨rfl, hg⟩
  have G1 := Lib.hid (Gr.trans (Gr.alloc (Gr.refl w) _ _) hg)
  clear hg
  go_wp2_with fail
  go_ret
  exact ⟨rfl, G1.out⟩
end Go.Proofs.YtbbglejdfbkjlaaGreat
