/-
  Package peel as it was written: what is left, and Peel itself: the contract of the package.
-/
import Derived.Test.YtjibmgdafpempaaGc
import Derived.Test.YtjibmgdafpempaaMgk
namespace Go.Proofs.Ytjibmgdafpempaa
open Go.RowKit

/-- What is told of the equations that are left. -/
def LeftOut (L : List Eqn) (kn : List Bool) (vs : List (List Int)) (w : World) (e : Ending) (w' : World) : Prop :=
  (∃ vr, e = .returned (.tuple #[vr, .bool true]) ∧ EqsO w.heap.size w' vr (leftE kn vs L) ∧ Gr w w' ∧ ∀ q ∈ L, openL kn q.c = [] → leadL (restL kn vs q.c q.d) = -1) ∨
  (e = .returned (.tuple #[.slice none 0 0, .bool false]) ∧ Gr w w' ∧ ∃ q ∈ L, openL kn q.c = [] ∧ 0 ≤ leadL (restL kn vs q.c q.d))
set_option maxRecDepth 100000 in
set_option maxHeartbeats 3200000 in
theorem remaining_any (N S : Nat) (v vk vv : Value) (L : List Eqn) (kn : List Bool) (vs : List (List Int)) (w : World) (h : Eqs w v L) (hk : Bl w vk kn) (hv : Bss w vv vs) (hl : L.length ≤ 1000) (hc : ∀ q ∈ L, q.c.length ≤ 1000 ∧ q.d.length ≤ 1000) (hN : N ≤ 64) (hkn : kn.length = N) (hV : Valed S kn vs) (hm : ∀ q ∈ L, MayRow N q.c ∧ q.d.length = S) :
    Calls Try.prog 23 #[v, vk, vv] w (LeftOut L kn vs w) := by
  have HE := Lib.hid h
  have HCL := Lib.hid hc
  have HBY := Lib.hid h.byt
  have HMY := Lib.hid hm
  have HK := Lib.hid hk
  have HV := Lib.hid hv
  have HVL := Lib.hid hV
  obtain ⟨oa, ca, rfl⟩ := h.form
  obtain ⟨ok, ck, rfl⟩ := hk.form3
  obtain ⟨ov, nv, cv, rfl⟩ := hv.form3
  obtain ⟨m, hmm⟩ : ∃ m, L.length = m := ⟨_, rfl⟩
  rw [hmm] at HE hl ⊢
  rw [hkn] at HK ⊢
  have HM := Lib.hid hmm
  have HKN := Lib.hid hkn
  clear h hc hmm hm hk hv hV hkn
  go_enter Try.func23, Try.ntmps23
  go_wp2_with fail
  go_loopw [8, 14] (fun lv iv W => ∃ i : Nat, i ≤ m ∧ iv = .int .i64 i ∧ EqsO w.heap.size W lv (leftE kn vs (L.take i)) ∧ Gr w W ∧ ∀ j, j < i → openL kn (L.getD j noE).c = [] → leadL (restL kn vs (L.getD j noE).c (L.getD j noE).d) = -1) (fun _ iv _ => m - (intOf iv).toNat)
  case atStart => exact ⟨0, by omega, rfl, EqsO.nil _ _, Gr.refl _, by omega⟩
  case round =>
    obtain ⟨wo, hwo⟩ : ∃ x, x = wr := ⟨_, rfl⟩
    subst hwo
    obtain ⟨i, hi, rfl, hlf, hg, hz⟩ := hrel
    obtain ⟨ol, cl, rfl⟩ := hlf.form
    have HLF := Lib.hid hlf
    have HG := Lib.hid hg
    have HZ := Lib.hid hz
    clear hlf hg hz
    by_cases hlt : i < m
    · obtain ⟨b, o, rfl, _⟩ := HE.out.lay (by omega)
      obtain ⟨oc, nc, cc, od, nd, cd, q1, q2, zc, zd⟩ := (HE.out.grown HG.out).at hlt
      have hqm := getD_memE (L := L) (i := i) (by rw [HM.out]; exact hlt)
      have hcl := HCL.out _ hqm
      have hmr := HMY.out _ hqm
      have hst : leftE kn vs (L.take (i + 1)) = leftE kn vs (L.take i) ++ (if 0 < (openL kn (L.getD i noE).c).length then [⟨openL kn (L.getD i noE).c, restL kn vs (L.getD i noE).c (L.getD i noE).d⟩] else []) := by
        rw [take_snoc L i noE (by rw [HM.out]; exact hlt), leftE_snoc]
      have HST := Lib.hid hst
      have HQM := Lib.hid hqm
      have HQL := Lib.hid hcl
      have HMR := Lib.hid hmr
      have ZC := Lib.hid zc
      have ZD := Lib.hid zd
      have HLL := Lib.hid (leftE_le kn vs (L.take i))
      have HTL : Hid ((L.take i).length ≤ 1000) := Lib.hid (by rw [List.length_take, HM.out]; omega)
      clear zc zd hqm hcl hmr hst
      obtain ⟨qe, hqe⟩ : ∃ q, L.getD i noE = q := ⟨_, rfl⟩
      rw [hqe] at HQM HQL HMR ZC ZD HST
      have HQE := Lib.hid hqe
      clear hqe
      go_upto_region 5 with fail
      have hga : Gr wo (wo.alloc (.cells #[.slice oc nc cc, .slice od nd cd] 27)) := Gr.alloc (Gr.refl _) _ _
      have c0 : (wo.alloc (.cells #[.slice oc nc cc, .slice od nd cd] 27)).cell? ⟨wo.heap.size, 0, none⟩ = some (.slice oc nc cc) := by rw [cell_of_row _ _ 0 _ _ _ (heap_alloc_new _ _)]; rfl
      have c1 : (wo.alloc (.cells #[.slice oc nc cc, .slice od nd cd] 27)).cell? ⟨wo.heap.size, 1, none⟩ = some (.slice od nd cd) := by rw [cell_of_row _ _ 1 _ _ _ (heap_alloc_new _ _)]; rfl
      have HG1 := Lib.hid (Gr.trans HG.out hga)
      have L1 := Lib.hid (HLF.out.grown hga)
      have Z1 := Lib.hid (ZC.out.grown hga)
      have D1 := Lib.hid (ZD.out.grown hga)
      clear hga q1 q2 ZC ZD HG HLF
      generalize wo.alloc (.cells #[.slice oc nc cc, .slice od nd cd] 27) = W1 at *
      generalize wo.heap.size = gq at *
      have K1 := Lib.hid (HK.out.grown HG1.out)
      have V1 := Lib.hid (HV.out.grown HG1.out)
      go_upto_region 6 with (first
        | (go_at_call 31; refine (reduced_any _ _ _ _ qe.c qe.d kn vs S _ Z1.out D1.out K1.out V1.out (by rw [HKN.out]; exact HMR.out.1.1) HQL.out.1 (by rw [HKN.out]; omega) HMR.out.2 (by have := HQL.out.2; have := HMR.out.2; omega) HVL.out).mono ?_; rintro e w2 ⟨uc, ud, rfl, hev, hg2⟩; obtain ⟨od3, nd3, cd3, rfl⟩ := hev.2.2.1.form4; obtain ⟨oc3, cc3, rfl⟩ := hev.1.form; have EV := Lib.hid hev; have G2 := Lib.hid hg2; clear hev hg2))
      clear c0 c1 Z1 D1 K1 V1
      have gA : Gr w2 (w2.alloc (.cells #[.slice oc3 (openL kn qe.c).length cc3, .slice od3 nd3 cd3] 27)) := Gr.alloc (Gr.refl _) _ _
      have e0 : (w2.alloc (.cells #[.slice oc3 (openL kn qe.c).length cc3, .slice od3 nd3 cd3] 27)).cell? ⟨w2.heap.size, 0, none⟩ = some (.slice oc3 (openL kn qe.c).length cc3) := by rw [cell_of_row _ _ 0 _ _ _ (heap_alloc_new _ _)]; rfl
      have e1 : (w2.alloc (.cells #[.slice oc3 (openL kn qe.c).length cc3, .slice od3 nd3 cd3] 27)).cell? ⟨w2.heap.size, 1, none⟩ = some (.slice od3 nd3 cd3) := by rw [cell_of_row _ _ 1 _ _ _ (heap_alloc_new _ _)]; rfl
      have EV2 := Lib.hid (EV.out.gr gA)
      have L2 := Lib.hid (L1.out.grown (Gr.trans G2.out gA))
      have HG2 := Lib.hid (Gr.trans HG1.out (Gr.trans G2.out gA))
      clear EV L1 HG1 G2 gA
      generalize w2.alloc (.cells #[.slice oc3 (openL kn qe.c).length cc3, .slice od3 nd3 cd3] 27) = W2 at *
      generalize w2.heap.size = gr at *
      by_cases h1 : 0 < (openL kn qe.c).length
      · rw [if_pos h1] at HST
        have h1i : (0 : Int) < ((openL kn qe.c).length : Int) := by omega
        have GA : Hid (Gr W2 (W2.alloc (.cells #[.slice oc3 (openL kn qe.c).length cc3, .slice od3 nd3 cd3] 27))) := Lib.hid (Gr.alloc (Gr.refl _) _ _)
        have CE0 : Hid ((W2.alloc (.cells #[.slice oc3 (openL kn qe.c).length cc3, .slice od3 nd3 cd3] 27)).cell? ⟨W2.heap.size, 0, none⟩ = some (.slice oc3 (openL kn qe.c).length cc3)) := Lib.hid (by rw [cell_of_row _ _ 0 _ _ _ (heap_alloc_new _ _)]; rfl)
        have CE1 : Hid ((W2.alloc (.cells #[.slice oc3 (openL kn qe.c).length cc3, .slice od3 nd3 cd3] 27)).cell? ⟨W2.heap.size, 1, none⟩ = some (.slice od3 nd3 cd3)) := Lib.hid (by rw [cell_of_row _ _ 1 _ _ _ (heap_alloc_new _ _)]; rfl)
        have EV3 := Lib.hid ((EV2.out.gr GA.out).any w.heap.size)
        go_wp2_with (at_builtin; refine wpList_append_eq rfl _ _ rfl w.heap.size (.slice ol (leftE kn vs (L.take i)).length cl) (leftE kn vs (L.take i)) rfl (L2.out.grown GA.out) W2.heap.size (.slice oc3 (openL kn qe.c).length cc3) (.slice od3 nd3 cd3) _ rfl CE0.out CE1.out EV3.out (by have := HLL.out; have := HTL.out; omega) (by have := HG2.out.size; simp; omega) ?_; intro v5 w5 h5 hg5 hgr5 hn5; have L5 := Lib.hid h5; have G5 := Lib.hid hg5; clear h5 hg5 hgr5 hn5)
        have hgr := G5.out w (Gr.trans HG2.out GA.out) (Nat.le_refl _)
        refine ⟨⟨i + 1, by omega, by go_num, by rw [HST.out]; exact L5.out, hgr, fun j hj e => ?_⟩, by simp [intOf]; omega⟩
        by_cases ej : j = i
        · rw [ej, HQE.out] at e
          rw [e] at h1
          simp at h1
        · exact HZ.out j (by omega) e
      · have h0 : openL kn qe.c = [] := List.eq_nil_of_length_eq_zero (by omega)
        have hz0 : (openL kn qe.c).length = 0 := by omega
        rw [if_neg h1, List.append_nil] at HST
        have H0 := Lib.hid h0
        have hrl := restL_ok HVL.out qe.c qe.d HMR.out.2 (HBY.out qe HQM.out)
        have HRL := Lib.hid hrl
        have hge := leadL_ge (restL kn vs qe.c qe.d)
        obtain ⟨ld, hld⟩ : ∃ x, leadL (restL kn vs qe.c qe.d) = x := ⟨_, rfl⟩
        rw [hld] at hge
        have HLD := Lib.hid hld
        clear hld h0 h1 hrl
        go_wp2_with fail
        refine (ok_lead _ (restL kn vs qe.c qe.d) _ EV2.out.2.2.1 (by have := HRL.out.1; have := HMR.out.2; have := HQL.out.2; omega)).mono ?_
        rw [HLD.out]
        rintro e w6 ⟨rfl, hg6⟩
        have G6 := Lib.hid hg6
        clear hg6
        by_cases hneg : 0 ≤ ld
        · go_wp2_with fail
          go_ret2
          exact .inr ⟨rfl, Gr.trans HG2.out G6.out, qe, HQM.out, H0.out, by rw [HLD.out]; exact hneg⟩
        · go_wp2_with fail
          refine ⟨⟨i + 1, by omega, by go_num, by rw [HST.out]; exact L2.out.grown G6.out, Gr.trans HG2.out G6.out, fun j hj e => ?_⟩, by simp [intOf]; omega⟩
          by_cases ej : j = i
          · rw [ej, HQE.out, HLD.out]
            omega
          · exact HZ.out j (by omega) e
    · obtain rfl : m = i := by omega
      have hall : L.take m = L := List.take_of_length_le (by rw [HM.out]; exact Nat.le_refl _)
      rw [hall] at HLF ⊢
      go_wp2_with fail
      go_ret2
      refine .inl ⟨_, rfl, HLF.out, HG.out, fun q hq ho => ?_⟩
      obtain ⟨j, hj, rfl⟩ := List.getElem_of_mem hq
      have := HZ.out j (by rw [HM.out] at hj; exact hj)
      rw [List.getD_eq_getElem?_getD, List.getElem?_eq_getElem hj] at this
      exact this ho
open Classical in
set_option maxRecDepth 100000 in
set_option maxHeartbeats 1600000 in
theorem ok_peel (n : Int) (v : Value) (L : List Eqn) (w : World) (h : Eqs w v L) (hl : L.length ≤ 1000) (hc : ∀ q ∈ L, q.c.length ≤ 1000 ∧ q.d.length ≤ 1000) :
    Calls Try.prog 13 #[.int .i64 n, v] w fun e w' => PeelOut n L w e w' := by
  have HE := Lib.hid h
  have HCL := Lib.hid hc
  have HL := Lib.hid hl
  have HBY := Lib.hid h.byt
  obtain ⟨oa, ca, rfl⟩ := h.form
  clear h hc hl
  by_cases hm : MayEqs n L
  · have hd := decide_eq_true hm
    obtain ⟨N, rfl⟩ : ∃ N : Nat, n = N := ⟨n.toNat, by have := hm.1; omega⟩
    have hN : N ≤ 64 := by have := hm.2.1; omega
    have HD := Lib.hid hd
    have HMY := Lib.hid hm
    clear hd hm
    go_enter Try.func13, Try.ntmps13
    go_wp2_with fail
    refine (pmay_any _ _ L _ HE.out HL.out HCL.out).mono ?_
    rw [HD.out]
    rintro e w1 ⟨rfl, hg1⟩
    have G1 := Lib.hid hg1
    clear hg1
    go_wp2_with fail
    refine (solved_any N _ L _ (HE.out.grown G1.out) HL.out HCL.out HMY.out).mono ?_
    rintro e w2 ⟨gk, gv, kn, vs, us, rfl, hkv, hin, hcl⟩
    have KV2 := Lib.hid hkv
    have IN := Lib.hid hin
    have CL := Lib.hid hcl
    have G2 := Lib.hid (Gr.trans G1.out hkv.gr)
    clear hkv hin hcl
    go_wp2_with fail
    refine (remaining_any N (dlen L) _ _ _ L kn vs _ (HE.out.grown G2.out) (KV2.out.bl (by omega)) KV2.out.bss HL.out HCL.out hN IN.out.len IN.out.val HMY.out.2.2).mono ?_
    rintro e w3 hlo
    have HDER := Lib.hid (PeelInv.closed (fun q hq => (HMY.out.2.2 q hq).1) IN.out CL.out)
    rcases hlo with ⟨vr, rfl, ho, hg3, hz⟩ | ⟨rfl, hg3, q, hq, h0, hge⟩
    · obtain ⟨or3, cr3, rfl⟩ := ho.form
      have HO := Lib.hid ho
      have G3 := Lib.hid hg3
      have HZ := Lib.hid hz
      clear ho hg3 hz
      go_wp2_with fail
      try simp only [Exit.inBlock, Exit.then]
      refine bodyPost_ret (results_tmp4 rfl _ _ _) rfl ?_
      exact PeelOut.ok HMY.out ((KV2.out.bl (by omega)).grown G3.out) (KV2.out.bss.grown G3.out) HO.out.eqs (Gr.trans G2.out G3.out) (PeelInv.done (fun q hq => ⟨(HMY.out.2.2 q hq).2, HBY.out q hq⟩) IN.out HDER.out HZ.out)
    · have hno := IN.out.clash hq (HMY.out.2.2 q hq).2 (HBY.out q hq) h0 hge
      have HNO := Lib.hid hno
      have G3 := Lib.hid hg3
      clear hno hg3 hq h0 hge
      go_wp2_with fail
      try simp only [Exit.inBlock, Exit.then]
      refine bodyPost_ret (results_tmp4 rfl _ _ _) rfl ?_
      exact PeelOut.clash HMY.out HNO.out (Gr.trans G2.out G3.out)
  · have hd := decide_eq_false hm
    have HD := Lib.hid hd
    have HMY := Lib.hid hm
    clear hd hm
    go_enter Try.func13, Try.ntmps13
    go_wp2_with fail
    refine (pmay_any _ _ L _ HE.out HL.out HCL.out).mono ?_
    rw [HD.out]
    rintro e w1 ⟨rfl, hg1⟩
    have G1 := Lib.hid hg1
    clear hg1
    go_wp2_with fail
    try simp only [Exit.inBlock, Exit.then]
    refine bodyPost_ret (results_tmp4 rfl _ _ _) rfl ?_
    exact PeelOut.arg HMY.out G1.out
theorem Bs.len_le {w : World} {v : Value} {l : List Int} (h : Bs w v l) : l.length ≤ 9223372036854775807 := by
  obtain ⟨_, oa, c, _, h1, h2, _⟩ := h
  omega
theorem peel_ok : PeelOk := ⟨fun n v L w _ h hl hc => ok_peel n v L w h hl hc⟩
end Go.Proofs.Ytjibmgdafpempaa
