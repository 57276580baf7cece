/-
  Texts laid behind one another: Jx Jv DecodeTellsW Ds Pc.
-/
import Derived.Test.YtbbglejdfbkjlaaGreatMtaj
import Derived.Test.YtbbglejdfbkjlaaGreatMtah
import Derived.Test.YtbbglejdfbkjlaaGreatMtai
import Derived.Test.YtbbglejdfbkjlaaGreatMtab
import Derived.Test.YtbbglejdfbkjlaaGreatMtac
import Derived.Test.YtbbglejdfbkjlaaGreatMtae
namespace Go.Proofs.YtbbglejdfbkjlaaGreat
open Go.RowKit
noncomputable def tellsIf : Code := ((Tryz.f3.body.bind (atRegion 14)).getD .skip)
set_option maxRecDepth 1000000 in
set_option maxHeartbeats 12800000 in
theorem tells_if {At : World → Value → (Nat → Prop) → Nat → Nat → Nat → Nat → List (List Int) → Prop} (E : EncOk At) (K H S s gl gp gpp ci i c0' : Nat) (p1 p2 p3 tn : Int) (oi o0 : Option Addr) (il X : List Int) (L0 : List Symb) (ay : Addr) (F : Nat → Prop) (M : List (List Int)) (w wc : World) (Q0 : Exit → Act → World → Prop) (v1 v2 v3 v4 v5 v10 v11 v12 v13 v14 v15 v16 v17 v18 v19 v24 v25 v26 v27 v28 v29 v30 v31 v32 v33 v34 v35 v36 v37 v38 v39 v40 v41 v42 v43 v44 v45 v46 v47 v48 v49 v50 v51 v52 v53 v54 v55 v56 v57 v58 v59 v60 v61 v62 v63 v64 v65 v66 v67 v68 v69 v70 v71 v72 v73 v74 v75 v76 v77 v78 v79 v80 v81 v82 v83 v84 v85 v86 v87 v88 v89 v90 v91 v92 v93 v94 v95 v96 v97 v98 v99 v100 v101 v102 v103 v104 v105 v106 v107 v108 v109 v110 v111 v112 v113 v114 v115 v116 v117 v118 v119 v120 v121 v122 v123 v124 v125 v126 v127 v128 v129 v130 v131 v132 v133 v134 v135 v136 v137 v138 v139 v140 v141 v142 v143 v144 v145 v146 v147 v148 v149 v150 v151 v152 v153 v154 v155 v156 v157 v158 v159 v160 v161 v162 v163 v164 v165 v166 v167 v168 v169 v170 v171 v172 v173 v174 v175 v176 v177 v178 v179 v180 v181 v182 v183 v184 v185 v186 v187 v188 v189 v190 v191 v192 v193 v194 v195 v196 v197 v198 v199 v200 v201 v202 v203 v204 v205 v206 v207 v208 v209 v210 v211 v212 v213 v214 v215 v216 v217 v218 v219 v220 v221 v222 v223 v224 v225 v226 v227 v228 v229 v230 v231 v232 v233 v234 v235 v236 v237 : Value)
  (hm : MayP K H S) (S1 : 1 ≤ S) (S2 : S ≤ 24) (hs : s < 4294967296) (hmid : IsMid K H S s X M) (hat : At wc (.pointer (some ay)) F K H S s M) (hi : Zs w (.slice oi il.length ci) il) (h0 : Syms w (.slice o0 i c0') L0) (hs0 : SmallY L0) (hm0 : L0.length = i) (hm24 : i ≤ 12)
  (hlc : wc.heap[gl]? = some (.cells #[.slice o0 i c0'] 27 (0, 0))) (hgw : Gr w wc) (hpc : Par wc gp K H S) (hpp : Par wc gpp p1 p2 p3) (hglb : w.heap.size ≤ gl)
  (hexit : ∀ (n25 n26 n27 n28 n42 n43 n44 n45 n46 n49 n50 n51 n52 n53 n54 n55 n56 n57 n58 n59 n60 n61 n62 n63 n64 n65 n66 n67 n68 n69 n70 n71 n72 n73 n74 n75 n76 n77 n78 n79 n80 n81 n82 n83 n84 n85 n86 n87 n88 n89 n90 n91 n92 n93 n94 n95 n96 n97 n98 n99 n100 n101 n102 n103 n104 n105 n106 n107 n108 n109 n110 n111 n112 n113 n114 n115 n116 n117 n118 n119 n120 n121 n122 n123 n124 n125 n126 n127 n128 n129 n130 n131 n132 n133 n134 n135 n136 n137 n138 n139 n140 n141 n142 n143 n147 n148 n149 n150 n151 n152 n153 n154 n155 n156 n157 n158 n162 n163 n164 n168 n169 n170 n171 n172 n173 n174 n175 n176 n177 n178 n179 n180 n181 n182 n183 n184 n185 n186 n187 n188 n189 n190 n191 n192 n193 n194 n195 n196 n197 n198 n199 n200 n201 n202 n203 n204 n207 n208 n209 n210 n211 n212 n213 n214 n215 n216 n217 n218 n219 n220 n221 n222 n223 n224 n225 n226 n227 n228 n229 n230 n231 n232 n233 n234 n235 n236 n237 : Value) (g9 T cp : Nat) (wx : World), 1 ≤ T ∧ T ≤ 4 ∧ T ≤ cp ∧ (∀ t, t < T → ∃ o m c Lx, wx.cell? ⟨g9, t, none⟩ = some (.slice o m c) ∧ Syms wx (.slice o m c) Lx ∧ SmallY Lx) ∧ Gr w wx ∧ Par wx gp K H S ∧ Par wx gpp p1 p2 p3 → Q0 .normal ⟨#[par p1 p2 p3, v1, v2, v3, v4, v5, .slice oi il.length ci, .slice o0 i c0', .int .i64 tn, .pointer (some ⟨gpp, 0, none⟩), v10, v11, v12, v13, v14, v15, v16, v17, v18, v19, .pointer (some ⟨gp, 0, none⟩), .int .u32 (s : Int), .slice (some ⟨g9, 0, none⟩) T cp, .pointer (some ay), v24, n25, n26, n27, n28, v29, v30, v31, v32, v33, v34, v35, v36, v37, v38, v39, v40, v41, n42, n43, n44, n45, n46, v47, v48, n49, n50, n51, n52, n53, n54, n55, n56, n57, n58, n59, n60, n61, n62, n63, n64, n65, n66, n67, n68, n69, n70, n71, n72, n73, n74, n75, n76, n77, n78, n79, n80, n81, n82, n83, n84, n85, n86, n87, n88, n89, n90, n91, n92, n93, n94, n95, n96, n97, n98, n99, n100, n101, n102, n103, n104, n105, n106, n107, n108, n109, n110, n111, n112, n113, n114, n115, n116, n117, n118, n119, n120, n121, n122, n123, n124, n125, n126, n127, n128, n129, n130, n131, n132, n133, n134, n135, n136, n137, n138, n139, n140, n141, n142, n143, v144, v145, v146, n147, n148, n149, n150, n151, n152, n153, n154, n155, n156, n157, n158, v159, v160, v161, n162, n163, n164, v165, v166, v167, n168, n169, n170, n171, n172, n173, n174, n175, n176, n177, n178, n179, n180, n181, n182, n183, n184, n185, n186, n187, n188, n189, n190, n191, n192, n193, n194, n195, n196, n197, n198, n199, n200, n201, n202, n203, n204, v205, v206, n207, n208, n209, n210, n211, n212, n213, n214, n215, n216, n217, n218, n219, n220, n221, n222, n223, n224, n225, n226, n227, n228, n229, n230, n231, n232, n233, n234, n235, n236, n237], []⟩ wx) :
  Code.wp Tryz.prog tellsIf Q0 ⟨#[par p1 p2 p3, v1, v2, v3, v4, v5, .slice oi il.length ci, .slice o0 i c0', .int .i64 tn, .pointer (some ⟨gpp, 0, none⟩), v10, v11, v12, v13, v14, v15, v16, v17, v18, v19, .pointer (some ⟨gp, 0, none⟩), .int .u32 (s : Int), .slice (some ⟨gl, 0, none⟩) 1 1, .pointer (some ay), v24, v25, v26, v27, v28, v29, v30, v31, v32, v33, v34, v35, v36, v37, v38, v39, v40, v41, v42, v43, v44, v45, v46, v47, v48, v49, v50, v51, v52, v53, v54, v55, v56, v57, v58, v59, v60, v61, v62, v63, v64, v65, v66, v67, v68, v69, v70, v71, v72, v73, v74, v75, v76, v77, v78, v79, v80, v81, v82, v83, v84, v85, v86, v87, v88, v89, v90, v91, v92, v93, v94, v95, v96, v97, v98, v99, v100, v101, v102, v103, v104, v105, v106, v107, v108, v109, v110, v111, v112, v113, v114, v115, v116, v117, v118, v119, v120, v121, v122, v123, v124, v125, v126, v127, v128, v129, v130, v131, v132, v133, v134, v135, v136, v137, v138, v139, v140, v141, v142, v143, v144, v145, v146, v147, v148, v149, v150, v151, v152, v153, v154, v155, v156, v157, v158, v159, v160, v161, v162, v163, v164, v165, v166, v167, v168, v169, v170, v171, v172, v173, v174, v175, v176, v177, v178, v179, v180, v181, v182, v183, v184, v185, v186, v187, v188, v189, v190, v191, v192, v193, v194, v195, v196, v197, v198, v199, v200, v201, v202, v203, v204, v205, v206, v207, v208, v209, v210, v211, v212, v213, v214, v215, v216, v217, v218, v219, v220, v221, v222, v223, v224, v225, v226, v227, v228, v229, v230, v231, v232, v233, v234, v235, v236, v237], []⟩ wc := by
 have HE := Lib.hid E
 have HM := Lib.hid hm
 have HS := Lib.hid hs
 have HI := Lib.hid hi
 have H0 := Lib.hid h0
 have HS0 := Lib.hid hs0
 have HM0 := Lib.hid hm0
 have HLC := Lib.hid hlc
 have HGW := Lib.hid hgw
 have HPC := Lib.hid hpc
 have HPP := Lib.hid hpp
 have HGLB := Lib.hid hglb
 have HEX := Lib.hid hexit
 clear E hm hs hi h0 hs0 hm0 hlc hgw hpc hpp hglb hexit
 let _fpost : Exit → Act → World → Prop := bodyPost Tryz.prog Tryz.f3 fun _ _ => True
 conv => arg 2; whnf
 have HMI := Lib.hid hmid
 have HAT := Lib.hid hat
 clear hmid hat
 go_wp2_with fail
 refine (symbols_any HE.out _ _ F K H S s 34 M il _ HM.out HS.out HAT.out HMI.out.wide HMI.out.len (HI.out.grown HGW.out) (by omega)).mono ?_
 rintro e w5 ⟨v5, rfl, ho5, hg5⟩
 have HIM := Lib.hid (ids60_may il 34)
 have hil : (ids60 il 34).length ≤ 34 := by rw [ids60_length]; omega
 generalize ids60 il 34 = ids at *
 obtain ⟨R, hR⟩ : ∃ n, ids.length = n := ⟨_, rfl⟩
 obtain ⟨o5, c5, e5⟩ := ho5.form
 rw [symY_length, hR] at e5
 subst e5
 rw [hR] at hil
 have HSA := Lib.hid (symY_all (seed := s) HM.out HMI.out.wide HMI.out.len HIM.out)
 have HRL : Hid ((symY K H S s M ids).length = R) := Lib.hid (by rw [symY_length, hR])
 have HBY := Lib.hid ho5.syms.byt
 generalize symY K H S s M ids = Le at *
 have HSE : Hid (SmallY Le) := Lib.hid ⟨by rw [HRL.out]; omega, fun q hq => by have := (HSA.out.2 q hq).2; omega⟩
 have HO5 := Lib.hid ho5
 have HG5 := Lib.hid (Gr.trans HGW.out hg5)
 have HL5 := Lib.hid (keptRow hg5 HLC.out)
 have HP5 := Lib.hid (HPC.out.grown hg5)
 have HQ5 := Lib.hid (HPP.out.grown hg5)
 have HCS := Lib.hid hg5.size
 clear ho5 hg5 hR HAT
 have HCO : Hid (o5 = none → c5 = 0) := Lib.hid (fun e => by
   rcases HO5.out.lies with ⟨_, _, h⟩ | ⟨g, h, _⟩
   · exact h
   · rw [h] at e
     cases e)
 have V5 : Hid (SymsV (fun _ => True) w5.heap.size w5 o5 R Le) := Lib.hid ((HO5.out.vals.mono HCS.out).imp fun _ _ => trivial)
 go_upto_region 16 with (at_builtin; refine wpList_append_sys rfl _ _ rfl w5.heap.size (.slice none 0 0) [] Le rfl (SymsO.nil _ _) o5 R c5 rfl V5.out HCO.out (by simp; omega) (Nat.le_refl _) ?_; intro v6 w6 h6 hg6 hgr6 hn6; have L6 := Lib.hid h6; have G6 := Lib.hid (hg6 w5 (Gr.refl _) (Nat.le_refl _)); clear h6 hg6 hgr6 hn6; obtain ⟨o6, c6, e6⟩ := L6.out.form; rw [List.nil_append, HRL.out] at e6; subst e6)
 rw [List.nil_append] at L6
 go_cut [100] (fun bv wx => wx = w6 ∧ ∃ t : Bool, bv = .bool t ∧ (t = true → 0 < R))
 case first =>
  by_cases hR0 : 0 < R
  ·have r0 : (0 : Int) < R := by omega
   go_wp2_with fail
   go_meet
   exact ⟨rfl, _, rfl, fun _ => hR0⟩
  ·obtain rfl : R = 0 := by omega
   go_wp2_with fail
   go_meet
   exact ⟨rfl, false, rfl, fun h => by cases h⟩
 case rest =>
  obtain ⟨hwc, t, rfl, ht⟩ := hcut
  subst hwc
  have HT := Lib.hid ht
  clear ht
  go_upto_if 100 with fail
  go_cut [] (fun wx => ∃ Lb, SymsO (fun _ => True) w5.heap.size wx (.slice o6 R c6) Lb ∧ SmallY Lb ∧ Lb.length = R ∧ Gr w5 wx)
  case first =>
   -- S2
   cases t
   ·go_wp2_with fail
    go_meet
    exact ⟨Le, L6.out, HSE.out, HRL.out, G6.out⟩
   ·have hR0 := HT.out rfl
    rcases L6.out.lies with ⟨_, h, _⟩ | ⟨g6, rfl, hc6⟩
    ·omega
    ·obtain ⟨k, hk, hk2⟩ : ∃ k : Nat, tn % (R : Int) = (k : Int) ∧ k < R := by
      have h1 := Int.emod_nonneg tn (by omega : (R : Int) ≠ 0)
      have h2 := Int.emod_lt_of_pos tn (by omega : 0 < (R : Int))
      exact ⟨(tn % (R : Int)).toNat, by omega, by omega⟩
     have HK := Lib.hid hk
     clear hk
     obtain ⟨od6, nd, cd6, q1, q2, _, zd⟩ := L6.out.syms.at hk2
     rw [Nat.zero_add] at q1 q2
     have hqS := (HSA.out.2 _ (getD_memY (L := Le) (i := k) (by rw [HRL.out]; exact hk2))).2
     have hnd : nd = S := by
      obtain ⟨o', c', he⟩ := zd.form
      cases he
      omega
     subst hnd
     obtain ⟨hg6, cur6, hb6⟩ := L6.out.block
     have ZD := Lib.hid zd
     have HG6 := Lib.hid hg6
     have HB6 := Lib.hid hb6
     have HQS := Lib.hid (show (Le.getD k noY).d.length = nd by omega)
     have HQ2 := Lib.hid q2
     clear zd hg6 hqS hb6 q1
     go_wp2_with fail
     refine (within_any tn R (by omega) (by omega) _).mono ?_
     rintro e w' ⟨rfl, rfl⟩
     rw [HK.out]
     go_wp2_with (at_builtin; refine wpList_append_bytes rfl _ _ rfl wc.heap.size (.slice none 0 0) 0 [] rfl (World.ownsRow_nil _ _ _ _) od6 nd cd6 _ rfl ZD.out (by omega) (Nat.le_refl _) ?_; intro v7 w7 h1 h2; rw [Nat.zero_add, List.nil_append] at h1; have P7 := Lib.hid (Gr.append (Gr.refl _) h2 (fun _ e => by cases e) : Gr wc w7); obtain ⟨g7, c7, cur7, rfl, hg7, hb7, hn7, hc7, hcur7⟩ := own_bytesY h1 HQS.out (by omega); have HG7 := Lib.hid hg7; have HB7 := Lib.hid hb7; have HC7 := Lib.hid hcur7; have t1 := cell_gr P7.out HQ2.out; have t2 := frozen_of_row w7 g6 (k * 2 + 1) _ _ (keptRow P7.out HB6.out); clear h1 h2 hg7 hb7 hcur7)
     have hne : g6 ≠ g7 := fun e => by
      have h1 := (Array.getElem?_eq_some_iff.1 HB6.out).1
      have h2 := HG7.out
      omega
     have H86 : Hid ((w7.setCell ⟨g6, k * 2 + 1, none⟩ (.slice (some ⟨g7, 0, none⟩) nd c7)).heap[g6]? = some (.cells (cur6.setIfInBounds (k * 2 + 1) (.slice (some ⟨g7, 0, none⟩) nd c7)) 30 (0, 0))) := Lib.hid (heap_setCell_same _ _ _ _ _ _ (keptRow P7.out HB6.out))
     have HBU : Hid (Bump (w7.setCell ⟨g6, k * 2 + 1, none⟩ (.slice (some ⟨g7, 0, none⟩) nd c7)) (w7.setCell ⟨g6, k * 2 + 1, none⟩ (.slice (some ⟨g7, 0, none⟩) nd c7)) g7 nd (Le.getD k noY).d) := Lib.hid ⟨Kp.refl _ _, HQS.out, ZD.out.1, cur7, by rw [heap_setCell_other _ _ _ _ (fun e => hne e.symm)]; exact HB7.out, HC7.out⟩
     have HOT : Hid (∀ b, b < wc.heap.size → b ≠ g6 → (w7.setCell ⟨g6, k * 2 + 1, none⟩ (.slice (some ⟨g7, 0, none⟩) nd c7)).heap[b]? = wc.heap[b]?) := Lib.hid (fun b hb hb6 => by
       rw [heap_setCell_other _ _ _ _ hb6]
       exact P7.out.2.2.2.2 b hb)
     have G8 : Hid (Gr w5 (w7.setCell ⟨g6, k * 2 + 1, none⟩ (.slice (some ⟨g7, 0, none⟩) nd c7))) := Lib.hid (Gr.setCell (Gr.trans G6.out P7.out) HG6.out _)
     have HCU : Hid ((cur6.setIfInBounds (k * 2 + 1) (.slice (some ⟨g7, 0, none⟩) nd c7))[k * 2 + 1]? = some (.slice (some ⟨g7, 0, none⟩) nd c7)) := Lib.hid (by
       have h := HQ2.out
       rw [cell_of_row _ _ _ _ _ _ HB6.out] at h
       exact Array.getElem?_setIfInBounds_self_of_lt (Array.getElem?_eq_some_iff.1 h).1)
     clear t1 t2 P7 HB7 HC7
     generalize w7.setCell ⟨g6, k * 2 + 1, none⟩ (.slice (some ⟨g7, 0, none⟩) nd c7) = w8 at *
     go_loopw [121] (fun iv W => ∃ j d, j ≤ nd ∧ iv = .int .i64 ((j : Nat) : Int) ∧ Bump w8 W g7 nd d) (fun iv _ => nd - (intOf iv).toNat)
     case atStart => exact ⟨0, _, by omega, rfl, HBU.out⟩
     case round =>
      obtain ⟨wj, hwj⟩ : ∃ x, x = wr := ⟨_, rfl⟩
      subst hwj
      obtain ⟨j, d, hj, rfl, hbu⟩ := hrel
      have HBJ := Lib.hid hbu
      clear hbu
      by_cases hlj : j < nd
      ·have x1 : wj.cell? ⟨g6, k * 2 + 1, none⟩ = some (.slice (some ⟨g7, 0, none⟩) nd c7) := by
        rw [cell_of_row _ _ _ _ _ _ (HBJ.out.kp.block H86.out (fun e => hne e))]
        exact HCU.out
       have x2 := HBJ.out.cell hlj
       have x3 := HBJ.out.frozen j
       obtain ⟨z0, hz0⟩ : ∃ z, d.getD j 0 = z := ⟨_, rfl⟩
       rw [hz0] at x2
       clear hz0
       go_wp2_with fail
       exact ⟨⟨j + 1, d.set j ((z0 + 1) % 256), by omega, by go_num, HBJ.out.put hlj (by unfold Byt; omega)⟩, by simp [intOf]; omega⟩
      ·obtain rfl : j = nd := by omega
       go_wp2_with fail
       go_meet
       have hn7' := hn7
       refine ⟨_, SymsO.bent L6.out hk2 (fun cur hcur => ?_) (fun b hb hb6 => ?_) (HBJ.out.bs hn7 hc7) (fun a m c e hm => ?_) (fun _ _ _ _ _ => trivial), HSE.out.set k (by rw [HBJ.out.len]; omega), by rw [List.length_set, HRL.out], HBJ.out.kp.gr G8.out (fun q e => ?_)⟩
       ·have hcc : cur = cur6 := by
         have h := HB6.out
         rw [hcur] at h
         simpa using h
        rw [hcc]
        exact HBJ.out.kp.block H86.out (fun e => hne e)
       ·have h1 := HOT.out b hb (fun e => hb6 (by rw [e]))
        have h2 : b < w8.heap.size := by
         rcases Nat.lt_or_ge b w8.heap.size with h | h
         ·exact h
         ·rw [Array.getElem?_eq_none h, Array.getElem?_eq_getElem hb] at h1
          cases h1
        rw [← h1]
        refine HBJ.out.kp.2.2.2.2 b h2 fun e => ?_
        have h3 := HG7.out
        have h4 : b = g7 := e
        omega
       ·obtain ⟨curz, hz, _⟩ := HBJ.out.blk
        cases e
        exact .inr ⟨curz, hz⟩
       ·have h3 := HG7.out
        have h4 := G6.out.size
        have h5 : q = g7 := e
        omega
   -- E2
  case rest =>
   obtain ⟨Lb, hLb, hsb, hlb, hgb⟩ := hcut
   have LB := Lib.hid hLb
   have HSB := Lib.hid hsb
   have GB := Lib.hid hgb
   have V5b := Lib.hid ((V5.out.grown hgb).mono hgb.size)
   have GWB := Lib.hid (Gr.trans HG5.out hgb)
   have V0b : Hid (SymsV (fun _ => True) wc.heap.size wc o0 i L0) := Lib.hid (((H0.out.vals fun _ _ => trivial).grown GWB.out).mono GWB.out.size)
   have HC0 : Hid (o0 = none → c0' = 0) := Lib.hid (fun e => by
     obtain ⟨o', c', he, _, _, h4, _⟩ := H0.out
     cases he
     exact h4 e)
   have HLB := Lib.hid (keptRow hgb HL5.out)
   clear hLb hsb hlb hgb HT
   go_wp2_with (first
     | (at_builtin; have hx7 := L7; refine wpList_append_sys rfl _ _ rfl wc.heap.size (.slice o7 R c7) ([] ++ Le) L0 rfl L7.out o0 i c0' rfl (V0b.out.grown G7.out) HC0.out (by rw [List.nil_append, HRL.out]; omega) G7.out.size ?_; intro v8 w8 h8 hg8 hgr8 hn8; have L8 := Lib.hid h8; have G8 := Lib.hid (hg8 wc G7.out (Nat.le_refl _)); clear h8 hg8 hgr8 hn8; obtain ⟨o8, c8, e8⟩ := L8.out.form; rw [List.nil_append, List.length_append, HRL.out, HM0.out] at e8; subst e8)
     | (at_builtin; refine wpList_append_sys rfl _ _ rfl wc.heap.size (.slice none 0 0) [] Le rfl (SymsO.nil _ _) o5 R c5 rfl V5b.out HCO.out (by simp; omega) (Nat.le_refl _) ?_; intro v7 w7 h7 hg7 hgr7 hn7; have L7 := Lib.hid h7; have G7 := Lib.hid (hg7 wc (Gr.refl _) (Nat.le_refl _)); clear h7 hg7 hgr7 hn7; obtain ⟨o7, c7, e7⟩ := L7.out.form; rw [List.nil_append, HRL.out] at e7; subst e7)
     | (at_builtin; have hx8 := L8; refine wpList_append_lots rfl _ _ rfl gl (.slice o0 i c0') (.slice o5 R c5) (.slice o6 R c6) (.slice o8 (R + i) c8) rfl (keptRow (Gr.alloc G8.out _ _) HLB.out) w8.heap.size rfl (heap_alloc_new w8 _) ⟨rfl, rfl, rfl⟩ ?_; intro g9 c9 w9 hcp e0 e1 e2 e3 hgr9; have E0 := Lib.hid e0; have E1 := Lib.hid e1; have E2 := Lib.hid e2; have E3 := Lib.hid e3; have R9 := Lib.hid hgr9; have HCP := Lib.hid hcp; clear e0 e1 e2 e3 hgr9 hcp))
   have gA : Gr w8 (w8.alloc (.cells #[.slice o5 R c5, .slice o6 R c6, .slice o8 (R + i) c8] 27)) := Gr.alloc (Gr.refl _) _ _
   have gcB := Gr.trans G8.out gA
   have hgl9 := keptRow gcB HLB.out
   have gB := Gr.trans GWB.out gcB
   have g5B := Gr.trans GB.out gcB
   refine HEX.out _ _ _ _ _ _ _ _ _ _ _ _ _ _ _ _ _ _ _ _ _ _ _ _ _ _ _ _ _ _ _ _ _ _ _ _ _ _ _ _ _ _ _ _ _ _ _ _ _ _ _ _ _ _ _ _ _ _ _ _ _ _ _ _ _ _ _ _ _ _ _ _ _ _ _ _ _ _ _ _ _ _ _ _ _ _ _ _ _ _ _ _ _ _ _ _ _ _ _ _ _ _ _ _ _ _ _ _ _ _ _ _ _ _ _ _ _ _ _ _ _ _ _ _ _ _ _ _ _ _ _ _ _ _ _ _ _ _ _ _ _ _ _ _ _ _ _ _ _ _ _ _ _ _ _ _ _ _ _ _ _ _ _ _ _ _ _ _ _ _ _ _ _ _ _ _ _ _ _ _ _ _ _ _ _ _ _ g9 4 c9 w9 ⟨by omega, by omega, HCP.out, fun t ht => ?_, Gr.append gB R9.out (fun q e => by have h : q = gl := (Option.some.inj e).symm; have := HGLB.out; omega), (HP5.out.grown g5B).past hgl9 (by decide) R9.out, (HQ5.out.grown g5B).past hgl9 (by decide) R9.out⟩
   have h4 : t = 0 ∨ t = 1 ∨ t = 2 ∨ t = 3 := by omega
   rcases h4 with rfl | rfl | rfl | rfl
   ·exact ⟨_, _, _, L0, E0.out, (H0.out.grown gB).past hgl9 R9.out, HS0.out⟩
   ·exact ⟨_, _, _, Le, E1.out, (HO5.out.syms.grown g5B).past hgl9 R9.out, HSE.out⟩
   ·exact ⟨_, _, _, Lb, E2.out, (LB.out.syms.grown gcB).past hgl9 R9.out, HSB.out⟩
   ·exact ⟨_, _, _, _, E3.out, (L8.out.syms.grown gA).past hgl9 R9.out, by rw [List.nil_append]; exact SmallY.append HSE.out HS0.out (by rw [HRL.out, HM0.out]; omega)⟩
end Go.Proofs.YtbbglejdfbkjlaaGreat
namespace Go.Proofs.YtbbglejdfbkjlaaGreat
open Go.RowKit
noncomputable def tellsTail : Code := ((Tryz.f3.body.bind (atRegion 25)).getD .skip)
set_option maxRecDepth 1000000 in
set_option maxHeartbeats 12800000 in
theorem tells_tail {At' : World → Value → (Nat → Prop) → Nat → Nat → Nat → Nat → List Symb → Prop} (C : DecOk At') (K H S s g9 T cp gp gpp : Nat) (p1 p2 p3 : Int) (w W : World) (v0 v1 v2 v3 v4 v5 v6 v7 v8 v10 v11 v12 v13 v14 v15 v16 v17 v18 v19 v23 v24 v25 v26 v27 v28 v29 v30 v31 v32 v33 v34 v35 v36 v37 v38 v39 v40 v41 v42 v43 v44 v45 v46 v47 v48 v49 v50 v51 v52 v53 v54 v55 v56 v57 v58 v59 v60 v61 v62 v63 v64 v65 v66 v67 v68 v69 v70 v71 v72 v73 v74 v75 v76 v77 v78 v79 v80 v81 v82 v83 v84 v85 v86 v87 v88 v89 v90 v91 v92 v93 v94 v95 v96 v97 v98 v99 v100 v101 v102 v103 v104 v105 v106 v107 v108 v109 v110 v111 v112 v113 v114 v115 v116 v117 v118 v119 v120 v121 v122 v123 v124 v125 v126 v127 v128 v129 v130 v131 v132 v133 v134 v135 v136 v137 v138 v139 v140 v141 v142 v143 v144 v145 v146 v147 v148 v149 v150 v151 v152 v153 v154 v155 v156 v157 v158 v159 v160 v161 v162 v163 v164 v165 v166 v167 v168 v169 v170 v171 v172 v173 v174 v175 v176 v177 v178 v179 v180 v181 v182 v183 v184 v185 v186 v187 v188 v189 v190 v191 v192 v193 v194 v195 v196 v197 v198 v199 v200 v201 v202 v203 v204 v205 v206 v207 v208 v209 v210 v211 v212 v213 v214 v215 v216 v217 v218 v219 v220 v221 v222 v223 v224 v225 v226 v227 v228 v229 v230 v231 v232 v233 v234 v235 v236 v237 : Value)
  (hs : s < 4294967296) (hT4 : T ≤ 4) (hTc : T ≤ cp) (htt : ∀ t, t < T → ∃ o m c Lx, W.cell? ⟨g9, t, none⟩ = some (.slice o m c) ∧ Syms W (.slice o m c) Lx ∧ SmallY Lx) (hgw : Gr w W) (hpq : Par W gp K H S) (hpp : Par W gpp p1 p2 p3) :
  Code.wp Tryz.prog tellsTail (bodyPost Tryz.prog Tryz.f3 fun e w' => e = .returned (.bool true) ∧ Gr w w') ⟨#[v0, v1, v2, v3, v4, v5, v6, v7, v8, .pointer (some ⟨gpp, 0, none⟩), v10, v11, v12, v13, v14, v15, v16, v17, v18, v19, .pointer (some ⟨gp, 0, none⟩), .int .u32 (s : Int), .slice (some ⟨g9, 0, none⟩) T cp, v23, v24, v25, v26, v27, v28, v29, v30, v31, v32, v33, v34, v35, v36, v37, v38, v39, v40, v41, v42, v43, v44, v45, v46, v47, v48, v49, v50, v51, v52, v53, v54, v55, v56, v57, v58, v59, v60, v61, v62, v63, v64, v65, v66, v67, v68, v69, v70, v71, v72, v73, v74, v75, v76, v77, v78, v79, v80, v81, v82, v83, v84, v85, v86, v87, v88, v89, v90, v91, v92, v93, v94, v95, v96, v97, v98, v99, v100, v101, v102, v103, v104, v105, v106, v107, v108, v109, v110, v111, v112, v113, v114, v115, v116, v117, v118, v119, v120, v121, v122, v123, v124, v125, v126, v127, v128, v129, v130, v131, v132, v133, v134, v135, v136, v137, v138, v139, v140, v141, v142, v143, v144, v145, v146, v147, v148, v149, v150, v151, v152, v153, v154, v155, v156, v157, v158, v159, v160, v161, v162, v163, v164, v165, v166, v167, v168, v169, v170, v171, v172, v173, v174, v175, v176, v177, v178, v179, v180, v181, v182, v183, v184, v185, v186, v187, v188, v189, v190, v191, v192, v193, v194, v195, v196, v197, v198, v199, v200, v201, v202, v203, v204, v205, v206, v207, v208, v209, v210, v211, v212, v213, v214, v215, v216, v217, v218, v219, v220, v221, v222, v223, v224, v225, v226, v227, v228, v229, v230, v231, v232, v233, v234, v235, v236, v237], []⟩ W := by
 have HC := Lib.hid C
 have TT := Lib.hid htt
 have GW := Lib.hid hgw
 have PQ := Lib.hid hpq
 have PP := Lib.hid hpp
 have HS := Lib.hid hs
 clear C htt hgw hpq hpp hs
 conv => arg 2; whnf
 go_wp2_with fail
 go_loopw [146] (fun tv wx => ∃ t : Nat, t ≤ T ∧ tv = .int .i64 t ∧ Gr W wx) (fun tv _ => T - (intOf tv).toNat)
 case atStart => exact ⟨0, by omega, rfl, Gr.refl _⟩
 case round =>
  obtain ⟨wp, hwp⟩ : ∃ x, x = wr := ⟨_, rfl⟩
  subst hwp
  obtain ⟨t, ht, rfl, hgt⟩ := hrel
  have GT := Lib.hid hgt
  clear hgt
  by_cases htl : t < T
  ·obtain ⟨ox, mx, cx, Lx, qx, hx, hsx⟩ := TT.out t htl
   have qx := cell_gr GT.out qx
   have EX := Lib.hid hx
   have HSX := Lib.hid hsx
   have HXM := Lib.hid (show Lx.length = mx from by
     obtain ⟨o', c', he⟩ := hx.form
     cases he
     rfl)
   have c0 := (PQ.out.grown GT.out).cell0
   have c1 := (PQ.out.grown GT.out).cell1
   have c2 := (PQ.out.grown GT.out).cell2
   have PPT := Lib.hid (PP.out.grown GT.out)
   have PQT := Lib.hid (PQ.out.grown GT.out)
   clear hx hsx
   go_upto_region 29 with fail
   have PS : Hid (Par (wp.alloc (.cells #[.int .i64 (K : Int), .int .i64 (H : Int), .int .i64 (S : Int)] 23)) wp.heap.size K H S) := Lib.hid (heap_alloc_new _ _)
   have gS : Gr wp (wp.alloc (.cells #[.int .i64 (K : Int), .int .i64 (H : Int), .int .i64 (S : Int)] 23)) := Gr.alloc (Gr.refl _) _ _
   have GS := Lib.hid (Gr.trans GT.out gS)
   have PPS := Lib.hid (PPT.out.grown gS)
   have PQS := Lib.hid (PQT.out.grown gS)
   have HGS : Hid (W.heap.size ≤ wp.heap.size) := Lib.hid GT.out.size
   clear gS c0 c1 c2 qx PPT PQT
   generalize wp.alloc (.cells #[.int .i64 (K : Int), .int .i64 (H : Int), .int .i64 (S : Int)] 23) = wA at *
   generalize wp.heap.size = gps at *
   go_cut [154] (fun bv wx => wx = wA ∧ ∃ tb : Bool, bv = .bool tb)
   case first =>
    go_wp2_with fail
    go_meet
    exact ⟨rfl, _, rfl⟩
   case rest =>
    obtain ⟨hwc, tb, rfl⟩ := hcut
    subst hwc
    go_upto_if 154 with fail
    go_cut [31] (fun pv wx => ∃ g n cq, pv = .slice (some ⟨g, 0, none⟩) n cq ∧ n ≤ 2 ∧ n ≤ cq ∧ (∀ r, r < n → ∃ x y z : Int, wx.cell? ⟨g, r * 3, none⟩ = some (.int .i64 x) ∧ wx.cell? ⟨g, r * 3 + 1, none⟩ = some (.int .i64 y) ∧ wx.cell? ⟨g, r * 3 + 2, none⟩ = some (.int .i64 z)) ∧ Gr W wx)
    case first =>
     cases tb
     ·go_wp2_with fail
      go_meet
      refine ⟨gps, 1, 1, rfl, by omega, by omega, fun r hr => ?_, GS.out⟩
      obtain rfl : r = 0 := by omega
      exact ⟨_, _, _, PS.out.cell0, PS.out.cell1, PS.out.cell2⟩
     ·have c0 := PPS.out.cell0
      have c1 := PPS.out.cell1
      have c2 := PPS.out.cell2
      have gB : Gr wc (wc.alloc (.cells #[.int .i64 p1, .int .i64 p2, .int .i64 p3] 23)) := Gr.alloc (Gr.refl _) _ _
      have PSB := Lib.hid (PS.out.grown gB)
      have GSB := Lib.hid (Gr.trans GS.out gB)
      clear gB
      go_wp2_with (at_builtin; refine wpList_append_par rfl _ _ rfl gps K H S p1 p2 p3 rfl PSB.out wc.heap.size rfl (heap_alloc_new wc _) ?_; intro g4 c4 w4 hc4 e0 e1 e2 e3 e4 e5 hg4; have E0 := Lib.hid e0; have E1 := Lib.hid e1; have E2 := Lib.hid e2; have E3 := Lib.hid e3; have E4 := Lib.hid e4; have E5 := Lib.hid e5; have HC4 := Lib.hid hc4; have R4 := Lib.hid hg4; clear e0 e1 e2 e3 e4 e5 hc4 hg4)
      go_meet
      refine ⟨g4, 2, c4, rfl, by omega, HC4.out, fun r hr => ?_, Gr.append GSB.out R4.out fun q e => by have h : q = gps := (Option.some.inj e).symm; have := HGS.out; omega⟩
      have h2 : r = 0 ∨ r = 1 := by omega
      rcases h2 with rfl | rfl
      ·exact ⟨_, _, _, E0.out, E1.out, E2.out⟩
      ·exact ⟨_, _, _, E3.out, E4.out, E5.out⟩
    case rest =>
     obtain ⟨g2, n, cq, rfl, hn2, hnc, hps, hgc⟩ := hcut
     have HPS := Lib.hid hps
     have GC := Lib.hid hgc
     clear hps hgc PS PPS PQS GS GT
     go_wp2_with fail
     go_loopw [161] (fun rv wx => ∃ r : Nat, r ≤ n ∧ rv = .int .i64 r ∧ Gr wc wx) (fun rv _ => n - (intOf rv).toNat)
     case atStart => exact ⟨0, by omega, rfl, Gr.refl _⟩
     case round =>
      obtain ⟨wq, hwq⟩ : ∃ x, x = wr := ⟨_, rfl⟩
      subst hwq
      obtain ⟨r, hr, rfl, hgr⟩ := hrel
      have GR := Lib.hid hgr
      clear hgr
      by_cases hrl : r < n
      ·obtain ⟨x, y, z, e0, e1, e2⟩ := HPS.out r hrl
       have e0 := cell_gr GR.out e0
       have e1 := cell_gr GR.out e1
       have e2 := cell_gr GR.out e2
       go_upto_region 33 with fail
       go_cut [33] (fun rv wx => ∃ gr, rv = .pointer (some ⟨gr, 0, none⟩) ∧ Par wx gr x y z ∧ Gr wc wx)
       case first =>
        go_wp2_with fail
        go_meet
        exact ⟨_, rfl, heap_alloc_new _ _, Gr.alloc GR.out _ _⟩
       case rest =>
        obtain ⟨gr, rfl, hpr, hgr⟩ := hcut
        have GRA := Lib.hid hgr
        have EXA := Lib.hid (EX.out.grown (Gr.trans GC.out hgr))
        clear hgr
        rename_i hk
        refine hk _ _ ?_
        refine tells_inner HC.out s gr mx cx x y z ox Lx _ _ _ _ _ _ _ _ _ _ _ _ _ _ _ _ _ _ _ _ _ _ _ _ _ _ _ _ _ _ _ _ _ _ _ _ _ _ _ _ _ _ _ _ _ _ _ _ _ _ _ _ _ _ _ _ _ _ _ _ _ _ _ _ _ _ _ _ _ _ _ _ _ _ _ _ _ _ _ _ _ _ _ _ _ _ _ _ _ _ _ _ _ _ _ _ _ _ _ _ _ _ _ _ _ _ _ _ _ _ _ _ _ _ _ _ _ _ _ _ _ _ _ _ _ _ _ _ _ _ _ _ _ _ _ _ _ _ _ _ _ _ _ _ _ _ _ _ _ _ _ _ _ _ _ _ _ _ _ _ _ _ _ _ _ _ _ _ _ _ _ _ _ _ _ _ _ _ _ _ _ _ _ _ _ _ _ _ _ _ _ _ _ _ _ _ _ _ _ _ _ _ _ _ _ _ _ _ _ _ _ _ _ _ _ _ _ _ _ _ _ _ _ _ _ _ _ _ _ _ _ _ _ _ _ _ _ HS.out HSX.out HXM.out EXA.out hpr ?_
        intro n18 n34 n36 n37 n38 n39 n40 n41 n165 n166 n167 n168 n169 n170 n171 n172 n173 n174 n175 n176 n177 n178 n179 n180 n181 n182 n183 n184 n185 n186 n187 n188 n189 n190 n191 n192 n193 n194 n195 n196 n197 n198 n199 n200 n201 n202 n203 n204 n205 n206 n207 n208 n209 n210 n211 n212 n213 n214 n215 n216 n217 n218 n219 n220 n221 n222 n223 n224 n225 n226 n227 n228 n229 n230 n231 n232 n233 n234 wx hgx
        have GZ := Lib.hid (Gr.trans GRA.out hgx)
        clear hgx
        go_wp2_with fail
        exact ⟨⟨r + 1, by omega, by go_num, GZ.out⟩, by simp [intOf]; omega⟩
      ·obtain rfl : r = n := by omega
       go_wp2_with fail
       exact ⟨⟨t + 1, by omega, by go_num, Gr.trans GC.out GR.out⟩, by simp [intOf]; omega⟩
  ·obtain rfl : t = T := by omega
   go_wp2_with fail
   refine (decWakes_any HC.out _).mono ?_
   rintro e wz ⟨rfl, hgz⟩
   have GZ := Lib.hid (Gr.trans GW.out (Gr.trans GT.out hgz))
   clear hgz
   go_wp2_with fail
   go_ret
   exact ⟨rfl, GZ.out⟩
end Go.Proofs.YtbbglejdfbkjlaaGreat
namespace Go.Proofs.YtbbglejdfbkjlaaGreat
open Go.RowKit
set_option maxRecDepth 100000 in
set_option maxHeartbeats 12800000 in
theorem decodeTells_walk {At : World → Value → (Nat → Prop) → Nat → Nat → Nat → Nat → List (List Int) → Prop} {At' : World → Value → (Nat → Prop) → Nat → Nat → Nat → Nat → List Symb → Prop} (O : SystemOk) (E : EncOk At) (C : DecOk At') (p1 p2 p3 a b c sd : Int) (vd vi vl : Value) (D il : List Int) (L0 : List Symb) (tn : Int) (w : World) (hd : Bs w vd D) (hi : Zs w vi il) (h0 : Syms w vl L0) :
  Calls Tryz.prog 3 #[par p1 p2 p3, .int .i64 a, .int .i64 b, .int .i64 c, .int .u64 sd, vd, vi, vl, .int .i64 tn] w fun e w' => e = .returned (.bool true) ∧ Gr w w' := by
 have HO := Lib.hid O
 have HE := Lib.hid E
 have HC := Lib.hid C
 have HD := Lib.hid hd
 have HI := Lib.hid hi
 obtain ⟨od, md, cd, rfl⟩ := Bs.form4 hd
 obtain ⟨oi, ci, rfl⟩ := hi.form
 clear O E C hd hi
 obtain ⟨o0, c0', rfl⟩ := h0.form
 obtain ⟨m0, hm0⟩ : ∃ m, L0.length = m := ⟨_, rfl⟩
 rw [hm0] at h0 ⊢
 have H0 := Lib.hid h0
 have HM0 := Lib.hid hm0
 clear h0 hm0
 obtain ⟨K, hK, K1, K2⟩ : ∃ K : Nat, 1 + a % 16 = K ∧ 1 ≤ K ∧ K ≤ 16 := ⟨(1 + a % 16).toNat, by omega, by omega, by omega⟩
 obtain ⟨H, hH, H1, H2⟩ : ∃ K : Nat, 1 + b % 4 = K ∧ 1 ≤ K ∧ K ≤ 4 := ⟨(1 + b % 4).toNat, by omega, by omega, by omega⟩
 obtain ⟨S, hS, S1, S2⟩ : ∃ K : Nat, 1 + c % 24 = K ∧ 1 ≤ K ∧ K ≤ 24 := ⟨(1 + c % 24).toNat, by omega, by omega, by omega⟩
 have hm : MayP K H S := by unfold MayP; omega
 have HM := Lib.hid hm
 obtain ⟨Q, hQ⟩ : ∃ Q, K * S = Q := ⟨_, rfl⟩
 have hQ1 : 1 ≤ Q := by rw [← hQ]; exact Nat.mul_pos K1 S1
 have hQ2 : Q ≤ 384 := by rw [← hQ]; exact Nat.le_trans (Nat.mul_le_mul K2 S2) (by omega)
 have hQi : (K : Int) * (S : Int) = (Q : Int) := by rw [← hQ]; simp
 have hQw : IntKind.i64.wrap (Q : Int) = Q := by simp [IntKind.wrap, IntKind.bits, IntKind.signed]; omega
 have HQ := Lib.hid hQ
 clear hm hQ
 have PP0 : Hid (Par (w.alloc (.cells #[.int .i64 p1, .int .i64 p2, .int .i64 p3] 23)) w.heap.size p1 p2 p3) := Lib.hid (heap_alloc_new _ _)
 have GP0 : Hid (Gr w (w.alloc (.cells #[.int .i64 p1, .int .i64 p2, .int .i64 p3] 23))) := Lib.hid (Gr.alloc (Gr.refl _) _ _)
 by_cases hbig : 12 < m0
 ·go_enter Tryz.func3, Tryz.ntmps3
  go_wp2_with fail
  refine (decWakes_any HC.out _).mono ?_
  rintro e w9 ⟨rfl, hg9⟩
  have G9 := Lib.hid (Gr.trans GP0.out hg9)
  clear hg9
  go_wp2_with fail
  go_ret
  exact ⟨rfl, G9.out⟩
 have hm24 : m0 ≤ 12 := by omega
 have d24 : decide ((12 : Int) < m0) = false := decide_eq_false (by omega)
 clear hbig
 go_enter Tryz.func3, Tryz.ntmps3
 go_wp2_with fail
 generalize w.alloc (.cells #[.int .i64 p1, .int .i64 p2, .int .i64 p3] 23) = WP at *
 generalize hgpp : w.heap.size = gpp at *
 go_loopw [48] (fun iv W => ∃ i : Nat, i ≤ m0 ∧ iv = .int .i64 i ∧ WP = W ∧ ∀ j, j < i → (L0.getD j noY).d.length ≤ 30) (fun iv _ => m0 - (intOf iv).toNat)
 case atStart => exact ⟨0, by omega, rfl, rfl, by omega⟩
 case round =>
  obtain ⟨i, hi, rfl, rfl, hsm⟩ := hrel
  have HSM := Lib.hid hsm
  clear hsm
  by_cases hlt : i < m0
  ·obtain ⟨b0, q0, rfl, _⟩ := H0.out.lay (by omega)
   obtain ⟨odx, nd, cdx, q1, q2, _, zd⟩ := (H0.out.grown GP0.out).at hlt
   have hnd : nd = (L0.getD i noY).d.length := by
    obtain ⟨o', c', he⟩ := zd.form
    cases he
    rfl
   have HND := Lib.hid hnd
   clear hnd
   by_cases h2 : 30 < nd
   ·go_wp2_with fail
    refine (decWakes_any HC.out _).mono ?_
    rintro e w9 ⟨rfl, hg9⟩
    have G9 := Lib.hid (Gr.trans GP0.out hg9)
    clear hg9
    go_wp2_with fail
    go_ret
    exact ⟨rfl, G9.out⟩
   ·have hnew : (L0.getD i noY).d.length ≤ 30 := by have := HND.out; omega
    have HNEW := Lib.hid hnew
    clear zd hnew
    go_wp2_with fail
    refine ⟨⟨i + 1, by omega, by go_num, trivial, fun j hj => ?_⟩, by simp [intOf]; omega⟩
    by_cases e : j = i
    ·rw [e]; exact HNEW.out
    ·exact HSM.out j (by omega)
  ·obtain rfl : i = m0 := by omega
   have HS0 : Hid (SmallY L0) := Lib.hid ⟨by rw [HM0.out]; omega, fun q hq => by
     obtain ⟨j, hj, rfl⟩ := List.getElem_of_mem hq
     have := HSM.out j (by rw [← HM0.out]; exact hj)
     rw [List.getD_eq_getElem?_getD, List.getElem?_eq_getElem hj] at this
     simp only [Option.getD_some] at this
     omega⟩
   clear HSM
   go_wp2_with fail
   refine (params_any a b c _).mono ?_
   rintro e w1 ⟨rfl, hgx⟩
   have hg := Gr.trans GP0.out hgx
   rw [hK, hH, hS]
   clear hK hH hS
   go_wp2_with fail
   have HP : Hid (Par (w1.alloc (.cells #[.int .i64 (K : Int), .int .i64 (H : Int), .int .i64 (S : Int)] 23)) w1.heap.size K H S) := Lib.hid (heap_alloc_new _ _)
   have HG : Hid (Gr w (w1.alloc (.cells #[.int .i64 (K : Int), .int .i64 (H : Int), .int .i64 (S : Int)] 23))) := Lib.hid (Gr.alloc hg _ _)
   have PP1 : Hid (Par (w1.alloc (.cells #[.int .i64 (K : Int), .int .i64 (H : Int), .int .i64 (S : Int)] 23)) gpp p1 p2 p3) := Lib.hid (PP0.out.grown (Gr.alloc hgx _ _))
   clear hg hgx
   generalize w1.alloc (.cells #[.int .i64 (K : Int), .int .i64 (H : Int), .int .i64 (S : Int)] 23) = W0 at *
   generalize w1.heap.size = gp at *
   have c0 := HP.out.cell0
   have c1 := HP.out.cell1
   have c2 := HP.out.cell2
   go_wp2_with fail
   refine (seed_any HO.out K H S sd _).mono ?_
   rintro e w2 ⟨s, rfl, hs, hg2⟩
   have HP2 := Lib.hid (HP.out.grown hg2)
   have HG2 := Lib.hid (Gr.trans HG.out hg2)
   have PP2 := Lib.hid (PP1.out.grown hg2)
   have HS := Lib.hid hs
   clear hg2 HP HG c0 c1 c2 hs
   have c0 := HP2.out.cell0
   have c1 := HP2.out.cell1
   have c2 := HP2.out.cell2
   go_wp2_with fail
   have gl : Gr w2 (w2.alloc (.cells #[.slice o0 i c0'] 27)) := Gr.alloc (Gr.refl _) _ _
   have HL3 : Hid ((w2.alloc (.cells #[.slice o0 i c0'] 27)).heap[w2.heap.size]? = some (.cells #[.slice o0 i c0'] 27 (0, 0))) := Lib.hid (heap_alloc_new _ _)
   have HP3 := Lib.hid (HP2.out.grown gl)
   have PP3 := Lib.hid (PP2.out.grown gl)
   have HG3 := Lib.hid (Gr.trans HG2.out gl)
   have HGLB : Hid (w.heap.size ≤ w2.heap.size) := Lib.hid HG2.out.size
   clear gl HP2 HG2 PP1 PP2 c0 c1 c2
   generalize w2.alloc (.cells #[.slice o0 i c0'] 27) = w3 at *
   generalize hgl : w2.heap.size = gl at *
   obtain ⟨X, hX⟩ : ∃ X, dataL D Q = X := ⟨_, rfl⟩
   have HX := Lib.hid hX
   have HXB : Hid (∀ z ∈ X, Byt z) := Lib.hid (by rw [← hX]; exact dataL_byt HD.out.1 Q)
   have HXL : Hid (X.length = Q) := Lib.hid (by rw [← hX]; exact dataL_length D Q)
   clear hX
   have c0 := HP3.out.cell0
   have c1 := HP3.out.cell1
   have c2 := HP3.out.cell2
   go_cut [23, 24] (fun yv ev wx => Gr w3 wx ∧ ((∃ ay F M, yv = .pointer (some ay) ∧ ev = .int .i64 0 ∧ IsMid K H S s X M ∧ At wx yv F K H S s M) ∨ (yv = .pointer none ∧ ev = .int .i64 8)))
   case first =>
    focus
     by_cases hr : RightP K H S s
     ·have HR := Lib.hid hr
      clear hr
      go_region_held3 (fun W => W.cell? ⟨gp, 0, none⟩ = some (.int .i64 (K : Int)) ∧ W.cell? ⟨gp, 1, none⟩ = some (.int .i64 (H : Int)) ∧ W.cell? ⟨gp, 2, none⟩ = some (.int .i64 (S : Int))) (first | exact ⟨k20, k21, k22⟩ | exact ⟨k10, k11, k12⟩ | go_keep)
       (first
         | (go_at_call 12; refine (HE.out.new K H S s _ X _ HS.out B1.out HM.out (by rw [HXL.out, HQ.out]) HR.out).mono ?_; rintro e v2 ⟨y, F, M, rfl, hmid, hat, hg4, hF⟩; obtain ⟨ay, rfl⟩ := HE.out.ptr hat; have k20 := cell_grown hg4 (by exact k10); have k21 := cell_grown hg4 (by exact k11); have k22 := cell_grown hg4 (by exact k12); have HMI := Lib.hid hmid; have HAT := Lib.hid hat; have V2 : Hid (Gr w3 v2) := Lib.hid (Gr.trans V1.out hg4); clear hmid hat hg4 hF)
         | (go_at_call 13; refine (data_any _ D Q _ (Bs.grown HD.out (Gr.trans HG3.out (Gr.drew (Gr.refl _)))) hQ1 (by omega)).mono ?_; rw [HX.out]; rintro e v1 ⟨y1, rfl, hn1⟩; obtain ⟨o1, d1, hf1⟩ := (New.bs hn1).form; rw [HXL.out] at hf1; subst hf1; have B1 := Lib.hid (New.bs hn1); have hg1 := hn1.1; have k10 := cell_grown hg1 (by exact c0); have k11 := cell_grown hg1 (by exact c1); have k12 := cell_grown hg1 (by exact c2); have V1 : Hid (Gr w3 v1) := Lib.hid (by exact hg1); clear hn1 hg1))
      go_wp2_with fail
      go_meet
      exact ⟨V2.out, .inl ⟨_, F, M, rfl, rfl, HMI.out, HAT.out⟩⟩
     ·have HR := Lib.hid hr
      clear hr
      go_region_held3 (fun W => W.cell? ⟨gp, 0, none⟩ = some (.int .i64 (K : Int)) ∧ W.cell? ⟨gp, 1, none⟩ = some (.int .i64 (H : Int)) ∧ W.cell? ⟨gp, 2, none⟩ = some (.int .i64 (S : Int))) (first | exact ⟨k20, k21, k22⟩ | exact ⟨k10, k11, k12⟩ | go_keep)
       (first
         | (go_at_call 12; refine (HE.out.newSeed K H S s _ X _ HS.out B1.out HM.out (by rw [HXL.out, HQ.out]) HR.out).mono ?_; rintro e v2 ⟨rfl, hg4⟩; have k20 := cell_grown hg4 (by exact k10); have k21 := cell_grown hg4 (by exact k11); have k22 := cell_grown hg4 (by exact k12); have V2 : Hid (Gr w3 v2) := Lib.hid (Gr.trans V1.out hg4); clear hg4)
         | (go_at_call 13; refine (data_any _ D Q _ (Bs.grown HD.out (Gr.trans HG3.out (Gr.drew (Gr.refl _)))) hQ1 (by omega)).mono ?_; rw [HX.out]; rintro e v1 ⟨y1, rfl, hn1⟩; obtain ⟨o1, d1, hf1⟩ := (New.bs hn1).form; rw [HXL.out] at hf1; subst hf1; have B1 := Lib.hid (New.bs hn1); have hg1 := hn1.1; have k10 := cell_grown hg1 (by exact c0); have k11 := cell_grown hg1 (by exact c1); have k12 := cell_grown hg1 (by exact c2); have V1 : Hid (Gr w3 v1) := Lib.hid (by exact hg1); clear hn1 hg1))
      go_wp2_with fail
      go_meet
      exact ⟨V2.out, .inr ⟨rfl, rfl⟩⟩
   case rest =>
    obtain ⟨hgc, hcc⟩ := hcut
    have HGC := Lib.hid hgc
    have HCC := Lib.hid hcc
    clear hgc hcc c0 c1 c2
    go_upto_region 13 with fail
    go_cut [87] (fun tv wx => wx = wc ∧ ∃ t : Bool, tv = .bool t ∧ (t = true → ∃ ay F M, u23 = .pointer (some ay) ∧ IsMid K H S s X M ∧ At wc u23 F K H S s M))
    case first =>
     rcases HCC.out with ⟨ay, F, M, rfl, rfl, hm, ha⟩ | ⟨rfl, rfl⟩
     ·go_wp2_with fail
      go_meet
      exact ⟨rfl, _, rfl, fun _ => ⟨ay, F, M, rfl, hm, ha⟩⟩
     ·go_wp2_with fail
      go_meet
      exact ⟨rfl, false, rfl, fun h => by cases h⟩
    case rest =>
     obtain ⟨hwc, t, rfl, ht⟩ := hcut
     subst hwc
     have HT := Lib.hid ht
     clear ht
     have HPC := Lib.hid (HP3.out.grown HGC.out)
     have HLC := Lib.hid (keptRow HGC.out HL3.out)
     have HGW := Lib.hid (Gr.trans HG3.out HGC.out)
     have HPP := Lib.hid (PP3.out.grown HGC.out)
     go_upto_if 87 with fail
     go_cut [22] (fun lv wx => ∃ g T cp, lv = .slice (some ⟨g, 0, none⟩) T cp ∧ 1 ≤ T ∧ T ≤ 4 ∧ T ≤ cp ∧ (∀ t, t < T → ∃ o m c Lx, wx.cell? ⟨g, t, none⟩ = some (.slice o m c) ∧ Syms wx (.slice o m c) Lx ∧ SmallY Lx) ∧ Gr w wx ∧ Par wx gp K H S ∧ Par wx gpp p1 p2 p3)
     case first =>
      focus
       cases t
       ·go_wp2_with fail
        go_meet
        refine ⟨gl, 1, 1, rfl, by omega, by omega, by omega, fun t ht => ⟨o0, i, c0', L0, ?_, H0.out.grown HGW.out, HS0.out⟩, HGW.out, HPC.out, HPP.out⟩
        obtain rfl : t = 0 := by omega
        rw [cell_of_row _ _ _ _ _ _ HLC.out]
        rfl
       ·obtain ⟨ay, F, M, rfl, hmid, hat⟩ := HT.out rfl
        refine wp_cond (t := true) rfl ?_
        refine tells_if HE.out K H S s gl gp gpp ci i c0' p1 p2 p3 tn oi o0 il X L0 ay F M w wc _ _ _ _ _ _ _ _ _ _ _ _ _ _ _ _ _ _ _ _ _ _ _ _ _ _ _ _ _ _ _ _ _ _ _ _ _ _ _ _ _ _ _ _ _ _ _ _ _ _ _ _ _ _ _ _ _ _ _ _ _ _ _ _ _ _ _ _ _ _ _ _ _ _ _ _ _ _ _ _ _ _ _ _ _ _ _ _ _ _ _ _ _ _ _ _ _ _ _ _ _ _ _ _ _ _ _ _ _ _ _ _ _ _ _ _ _ _ _ _ _ _ _ _ _ _ _ _ _ _ _ _ _ _ _ _ _ _ _ _ _ _ _ _ _ _ _ _ _ _ _ _ _ _ _ _ _ _ _ _ _ _ _ _ _ _ _ _ _ _ _ _ _ _ _ _ _ _ _ _ _ _ _ _ _ _ _ _ _ _ _ _ _ _ _ _ _ _ _ _ _ _ _ _ _ _ _ _ _ _ _ _ _ _ _ _ _ _ _ _ _ _ _ _ _ _ _ _ _ _ HM.out S1 S2 HS.out hmid hat HI.out H0.out HS0.out HM0.out hm24 HLC.out HGW.out HPC.out HPP.out (by have h := HGLB.out; omega) ?_
        intro n25 n26 n27 n28 n42 n43 n44 n45 n46 n49 n50 n51 n52 n53 n54 n55 n56 n57 n58 n59 n60 n61 n62 n63 n64 n65 n66 n67 n68 n69 n70 n71 n72 n73 n74 n75 n76 n77 n78 n79 n80 n81 n82 n83 n84 n85 n86 n87 n88 n89 n90 n91 n92 n93 n94 n95 n96 n97 n98 n99 n100 n101 n102 n103 n104 n105 n106 n107 n108 n109 n110 n111 n112 n113 n114 n115 n116 n117 n118 n119 n120 n121 n122 n123 n124 n125 n126 n127 n128 n129 n130 n131 n132 n133 n134 n135 n136 n137 n138 n139 n140 n141 n142 n143 n147 n148 n149 n150 n151 n152 n153 n154 n155 n156 n157 n158 n162 n163 n164 n168 n169 n170 n171 n172 n173 n174 n175 n176 n177 n178 n179 n180 n181 n182 n183 n184 n185 n186 n187 n188 n189 n190 n191 n192 n193 n194 n195 n196 n197 n198 n199 n200 n201 n202 n203 n204 n207 n208 n209 n210 n211 n212 n213 n214 n215 n216 n217 n218 n219 n220 n221 n222 n223 n224 n225 n226 n227 n228 n229 n230 n231 n232 n233 n234 n235 n236 n237 g9 T cp wx hrel
        go_wp2_with fail
        go_meet
        exact ⟨g9, T, cp, rfl, hrel⟩
     case rest =>
      obtain ⟨g9, T, cp, rfl, hT1, hT4, hTc, htt, hgw, hpq, hpp⟩ := hcut
      apply_assumption
      exact tells_tail HC.out K H S s g9 T cp gp gpp p1 p2 p3 w wc _ _ _ _ _ _ _ _ _ _ _ _ _ _ _ _ _ _ _ _ _ _ _ _ _ _ _ _ _ _ _ _ _ _ _ _ _ _ _ _ _ _ _ _ _ _ _ _ _ _ _ _ _ _ _ _ _ _ _ _ _ _ _ _ _ _ _ _ _ _ _ _ _ _ _ _ _ _ _ _ _ _ _ _ _ _ _ _ _ _ _ _ _ _ _ _ _ _ _ _ _ _ _ _ _ _ _ _ _ _ _ _ _ _ _ _ _ _ _ _ _ _ _ _ _ _ _ _ _ _ _ _ _ _ _ _ _ _ _ _ _ _ _ _ _ _ _ _ _ _ _ _ _ _ _ _ _ _ _ _ _ _ _ _ _ _ _ _ _ _ _ _ _ _ _ _ _ _ _ _ _ _ _ _ _ _ _ _ _ _ _ _ _ _ _ _ _ _ _ _ _ _ _ _ _ _ _ _ _ _ _ _ _ _ _ _ _ _ _ _ _ _ _ _ _ _ _ _ _ _ _ _ _ _ HS.out hT4 hTc htt hgw hpq hpp
end Go.Proofs.YtbbglejdfbkjlaaGreat
namespace Go.Proofs.YtbbglejdfbkjlaaGreat
open Go.RowKit
theorem own_front {w : World} {base n : Nat} {v : Value} {us : List Value} {e : TypeId} (h : w.ownsRow base e 1 v n us) : ∃ o c, v = .slice o n c ∧ w.ownsRow base e 1 (.slice o 0 c) 0 [] := by
 obtain ⟨h0, ⟨rfl, rfl⟩ | ⟨g, c, cur, rfl, hb, hg, h1, h2, h3, h4⟩⟩ := h
 ·exact ⟨none, 0, rfl, World.ownsRow_nil _ _ _ _⟩
 ·exact ⟨_, c, rfl, by simp, .inr ⟨g, c, cur, rfl, hb, hg, by omega, h2, h3, by simp⟩⟩
set_option maxRecDepth 100000 in
set_option maxHeartbeats 1600000 in
theorem dgrow_any (n : Nat) (w : World) (hn : n ≤ 100000) :
  Calls Tryz.prog 92 #[.slice none 0 0, .int .i64 (n : Int)] w fun e w' => ∃ v, e = .returned v ∧ w'.ownsRow w.heap.size 5 1 v 0 [] ∧ Gr w w' := by
 by_cases h0 : 0 < n
 ·have hd : decide ((0 : Int) < (n : Int)) = true := by simpa using h0
  go_enter Tryz.func92, Tryz.ntmps92
  go_wp2_with (at_builtin; refine want_append_zeros (by rfl) _ _ rfl w.heap.size (.slice none 0 0) 0 [] rfl (World.ownsRow_nil _ _ _ _) n rfl (by omega) (Nat.le_refl _) ?_; intro v' w' h1 h2; rw [Nat.zero_add] at h1; obtain ⟨o, c, rfl, hf⟩ := own_front h1; have HF := Lib.hid hf; have G := Lib.hid (Gr.append (Gr.refl w) h2 (fun _ h => by cases h)); clear h1 h2 hf)
  go_ret
  exact ⟨_, rfl, HF.out, G.out⟩
 ·obtain rfl : n = 0 := by omega
  go_enter Tryz.func92, Tryz.ntmps92
  go_wp2_with fail
  go_ret
  exact ⟨_, rfl, World.ownsRow_nil _ _ _ _, Gr.refl _⟩
theorem flat_snoc {L : List (List Int)} {i : Nat} (h : i < L.length) : (L.take (i + 1)).flatten = (L.take i).flatten ++ L.getD i [] := by
 rw [List.take_add_one, List.getElem?_eq_getElem h, List.getD_eq_getElem?_getD, List.getElem?_eq_getElem h, List.flatten_append]
 simp
theorem flat_le (L : List (List Int)) (i : Nat) : (L.take i).flatten.length ≤ L.flatten.length := by
 have h : L = L.take i ++ L.drop i := (List.take_append_drop i L).symm
 have h2 : L.flatten = (L.take i).flatten ++ (L.drop i).flatten := by
  conv => lhs; rw [h]
  rw [List.flatten_append]
 rw [h2, List.length_append]
 omega
set_option maxRecDepth 100000 in
set_option maxHeartbeats 3200000 in
theorem dconcat_any (v : Value) (L : List (List Int)) (w : World) (h : Bss w v L) (hl : L.length ≤ 1000) (hf : L.flatten.length ≤ 100000) :
  Calls Tryz.prog 51 #[v] w fun e w' => ∃ u, e = .returned u ∧ New w w' u L.flatten := by
 have HB := Lib.hid h
 obtain ⟨o, c, rfl, h1, h2, h3, h4⟩ := h
 obtain ⟨n, hn⟩ : ∃ n, L.length = n := ⟨_, rfl⟩
 rw [hn] at HB hl ⊢
 have HN := Lib.hid hn
 have HC := Lib.hid h4
 have HO : Hid (o = none → n = 0) := Lib.hid fun e => by have := h3 e; omega
 have HFL := Lib.hid hf
 have HBY : Hid (∀ r ∈ L, ∀ x ∈ r, Byt x) := Lib.hid HB.out.byt
 have ROW : ∀ i, i < n → ∃ a oo m cc, o = some a ∧ w.cell? (a.add i) = some (.slice oo m cc) ∧ Bs w (.slice oo m cc) (L.getD i []) ∧ (L.getD i []).length = m := fun i hi => by
  cases ho : o with
  | none => exact absurd (HO.out ho) (by omega)
  | some a =>
   obtain ⟨u, q1, q2⟩ := HC.out a ho i (by rw [HN.out]; exact hi)
   obtain ⟨oo, cc, rfl⟩ := q2.form
   exact ⟨a, oo, _, cc, rfl, q1, q2, rfl⟩
 have HROW := Lib.hid ROW
 clear h1 h2 h3 h4 hn hf ROW HC HO
 go_enter Tryz.func51, Tryz.ntmps51
 go_wp2_with fail
 go_loopw [3, 11] (fun sv iv W => W = w ∧ ∃ i : Nat, i ≤ n ∧ iv = .int .i64 i ∧ sv = .int .i64 (((L.take i).flatten.length : Nat) : Int)) (fun _ iv _ => n - (intOf iv).toNat)
 case atStart => exact ⟨rfl, 0, by omega, rfl, rfl⟩
 case round =>
  obtain ⟨hw, i, hi, rfl, rfl⟩ := hrel
  subst hw
  obtain ⟨w0, hw0⟩ : ∃ x, x = wr := ⟨_, rfl⟩
  subst hw0
  obtain ⟨s, hs⟩ : ∃ s, (L.take i).flatten.length = s := ⟨_, rfl⟩
  have hs5 : s ≤ 100000 := by rw [← hs]; exact Nat.le_trans (flat_le L i) HFL.out
  rw [hs]
  have HS := Lib.hid hs
  clear hs
  by_cases hlt : i < n
  ·obtain ⟨a, oo, m, cc, rfl, q1, q2, q3⟩ := HROW.out i hlt
   have hst : (L.take (i + 1)).flatten.length = s + m := by rw [flat_snoc (by rw [HN.out]; exact hlt), List.length_append, HS.out, q3]
   have hm5 : s + m ≤ 100000 := by rw [← hst]; exact Nat.le_trans (flat_le L _) HFL.out
   have HST := Lib.hid hst
   clear hst q2 q3
   go_wp2_with fail
   exact ⟨⟨trivial, i + 1, by omega, by go_num, by rw [HST.out]; go_num⟩, by simp [intOf]; omega⟩
  ·obtain rfl : i = n := by omega
   go_wp2_with fail
   refine (dgrow_any s _ hs5).mono ?_
   rintro e w1 ⟨v1, rfl, ho1, hg1⟩
   obtain ⟨o1, c1, rfl⟩ := ownsRow_form'' ho1
   have O1 := Lib.hid ho1
   have G1 := Lib.hid hg1
   clear ho1 hg1
   go_wp2_with fail
   go_loopw [6, 27] (fun sv iv W => ∃ j : Nat, j ≤ i ∧ iv = .int .i64 j ∧ W.ownsRow w0.heap.size 5 1 sv ((L.take j).flatten.length) (((L.take j).flatten).map (Value.int .u8)) ∧ Gr w0 W) (fun _ iv _ => i - (intOf iv).toNat)
   case atStart => exact ⟨0, by omega, rfl, by simpa using O1.out, G1.out⟩
   case round =>
    clear O1 G1
    obtain ⟨wi, hwi⟩ : ∃ x, x = wr := ⟨_, rfl⟩
    subst hwi
    obtain ⟨j, hj, rfl, ho, hg⟩ := hrel
    obtain ⟨t, ht⟩ : ∃ t, (L.take j).flatten.length = t := ⟨_, rfl⟩
    have ht5 : t ≤ 100000 := by rw [← ht]; exact Nat.le_trans (flat_le L j) HFL.out
    rw [ht] at ho
    obtain ⟨o2, c2, rfl⟩ := ownsRow_form'' ho
    have OO := Lib.hid ho
    have GG := Lib.hid hg
    have HT := Lib.hid ht
    clear ho hg ht
    by_cases hlt2 : j < i
    ·obtain ⟨a, oo, m, cc, rfl, q1, q2, q3⟩ := HROW.out j hlt2
     have q1 := cell_gr GG.out q1
     have hst := flat_snoc (L := L) (i := j) (by rw [HN.out]; exact hlt2)
     have hml : t + m ≤ 100000 := by
      have := flat_le L (j + 1)
      rw [hst, List.length_append, HT.out, q3] at this
      exact Nat.le_trans this HFL.out
     have HST := Lib.hid hst
     have Q2 := Lib.hid (q2.grown GG.out)
     have HML : Hid (t + m ≤ 1000000) := Lib.hid (by omega)
     have HLM := Lib.hid q3
     clear hst q2 q3
     go_wp2_with (at_builtin; refine wpList_append_bytes rfl _ _ rfl w0.heap.size (.slice o2 t c2) t ((L.take j).flatten) rfl OO.out oo m cc (L.getD j []) rfl Q2.out HML.out GG.out.size ?_; intro v' w' h1 h2; have O3 := Lib.hid h1; have G3 := Lib.hid (gr_by_own GG.out h2 OO.out (Nat.le_refl _)); clear h1 h2)
     refine ⟨⟨j + 1, by omega, by go_num, ?_, G3.out⟩, by simp [intOf]; omega⟩
     rw [HST.out, List.length_append, HT.out, HLM.out]
     exact O3.out
    ·obtain rfl : j = i := by omega
     go_wp2_with fail
     go_ret
     refine ⟨.slice o2 t c2, rfl, ?_⟩
     have e : L.take j = L := List.take_of_length_le (by rw [HN.out]; exact Nat.le_refl _)
     have h5 := OO.out
     have e2 : t = L.flatten.length := by rw [← HT.out, e]
     rw [e] at h5
     rw [e2] at h5 ⊢
     exact New.of_row GG.out (fun x hx => by
       obtain ⟨r, hr, hxr⟩ := List.mem_flatten.1 hx
       exact HBY.out r hr x hxr) h5
end Go.Proofs.YtbbglejdfbkjlaaGreat
namespace Go.Proofs.YtbbglejdfbkjlaaGreat
open Go.RowKit
theorem upTo_pre (m n : Int) (w : World) :
  Calls Tryz.prog 48 #[.int .i64 m, .int .i64 n] w fun e w' => e = .returned (.bool (decide (1 ≤ n ∧ n ≤ m))) ∧ w = w' := by
 by_cases h : 1 ≤ n
 ·rw [show decide (1 ≤ n ∧ n ≤ m) = decide (n ≤ m) from by rw [decide_eq_decide]; omega]
  go_enter Tryz.func48, Tryz.ntmps48
  go_wp2
  go_ret
  exact ⟨rfl, rfl⟩
 ·rw [decide_eq_false (by omega : ¬ (1 ≤ n ∧ n ≤ m))]
  go_enter Tryz.func48, Tryz.ntmps48
  go_wp2
  go_ret
  exact ⟨rfl, rfl⟩
set_option maxHeartbeats 800000 in
theorem may_pre (K H S : Int) (w : World) :
  Calls Tryz.prog 24 #[par K H S] w fun e w' => e = .returned (.bool (decide (MayP K H S))) ∧ Gr w w' := by
 have hd : decide (MayP K H S) = (decide (1 ≤ K ∧ K ≤ 16) && (decide (1 ≤ H ∧ H ≤ 4) && decide (1 ≤ S ∧ S ≤ 24))) := by
  rw [← Bool.decide_and, ← Bool.decide_and, decide_eq_decide]
  unfold MayP
  omega
 rw [hd]
 have b1 : ∀ x : Int, ∃ b : Bool, decide (1 ≤ x ∧ x ≤ 16) = b := fun x => ⟨_, rfl⟩
 obtain ⟨p, hp⟩ := b1 K
 obtain ⟨q, hq⟩ : ∃ b : Bool, decide (1 ≤ H ∧ H ≤ 4) = b := ⟨_, rfl⟩
 obtain ⟨r, hr⟩ : ∃ b : Bool, decide (1 ≤ S ∧ S ≤ 24) = b := ⟨_, rfl⟩
 have HP := Lib.hid hp
 have HQ := Lib.hid hq
 have HR := Lib.hid hr
 rw [hp, hq, hr]
 clear hp hq hr hd b1
 have P0 : Hid (Par (w.alloc (.cells #[.int .i64 K, .int .i64 H, .int .i64 S] 23)) w.heap.size K H S) := Lib.hid (heap_alloc_new _ _)
 have HG0 : Hid (Gr w (w.alloc (.cells #[.int .i64 K, .int .i64 H, .int .i64 S] 23))) := Lib.hid (Gr.alloc (Gr.refl _) _ _)
 go_enter Tryz.func24, Tryz.ntmps24
 cases p with
 | false =>
  go_wp2_with fail
  refine (upTo_pre 16 K _).mono ?_
  rw [HP.out]
  rintro e w1 ⟨rfl, rfl⟩
  go_wp2_with fail
  go_ret
  exact ⟨rfl, HG0.out⟩
 | true =>
  have c1 := P0.out.cell1
  have c2 := P0.out.cell2
  cases q with
  | false =>
   go_wp2_with fail
   refine (upTo_pre 16 K _).mono ?_
   rw [HP.out]
   rintro e w1 ⟨rfl, rfl⟩
   go_wp2_with fail
   refine (upTo_pre 4 H _).mono ?_
   rw [HQ.out]
   rintro e w1 ⟨rfl, rfl⟩
   go_wp2_with fail
   go_ret
   exact ⟨rfl, HG0.out⟩
  | true =>
   go_wp2_with fail
   refine (upTo_pre 16 K _).mono ?_
   rw [HP.out]
   rintro e w1 ⟨rfl, rfl⟩
   go_wp2_with fail
   refine (upTo_pre 4 H _).mono ?_
   rw [HQ.out]
   rintro e w1 ⟨rfl, rfl⟩
   go_wp2_with fail
   refine (upTo_pre 24 S _).mono ?_
   rw [HR.out]
   rintro e w1 ⟨rfl, rfl⟩
   go_wp2_with fail
   go_ret
   exact ⟨by simp, HG0.out⟩
set_option maxHeartbeats 400000 in
theorem cols_pre (K H S : Int) (w : World) :
  Calls Tryz.prog 27 #[par K H S] w fun e w' => e = .returned (.int .i64 (colsP K H S)) ∧ Gr w w' := by
 unfold colsP
 by_cases hm : MayP K H S
 ·have hd := decide_eq_true hm
  have HM := Lib.hid hm
  rw [if_pos hm]
  have hk : -9223372036854775808 ≤ K + H ∧ K + H ≤ 9223372036854775807 := by have := hm; unfold MayP at this; omega
  have hwr : IntKind.i64.wrap (K + H) = K + H := by have := hk; simp [IntKind.wrap, IntKind.bits, IntKind.signed]; omega
  clear hm
  go_enter Tryz.func27, Tryz.ntmps27
  go_wp2_with fail
  refine (may_pre K H S _).mono ?_
  rw [hd]
  rintro e w1 ⟨rfl, hg⟩
  have P1 : Par w1 w.heap.size K H S := Par.grown (heap_alloc_new w _) hg
  have c0 := P1.cell0
  have c1 := P1.cell1
  have G1 := Lib.hid (Gr.trans (Gr.alloc (Gr.refl w) _ _) hg)
  clear hg P1
  go_wp2_with fail
  go_ret
  exact ⟨rfl, G1.out⟩
 ·have hd := decide_eq_false hm
  rw [if_neg hm]
  clear hm
  go_enter Tryz.func27, Tryz.ntmps27
  go_wp2_with fail
  refine (may_pre K H S _).mono ?_
  rw [hd]
  rintro e w1 ⟨rfl, hg⟩
  have G1 := Lib.hid (Gr.trans (Gr.alloc (Gr.refl w) _ _) hg)
  clear hg
  go_wp2_with fail
  go_ret
  exact ⟨rfl, G1.out⟩
end Go.Proofs.YtbbglejdfbkjlaaGreat
