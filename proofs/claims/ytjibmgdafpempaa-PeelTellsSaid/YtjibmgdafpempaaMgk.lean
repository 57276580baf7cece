/-
  Texts laid behind one another: Qe Qi Qj Qk.
-/
import Derived.Test.YtjibmgdafpempaaMgj
namespace Go.Proofs.Ytjibmgdafpempaa
open Go.RowKit

def PeelOut (n : Int) (L : List Eqn) (w : World) (e : Ending) (w' : World) : Prop := ∃ vk vv vr x kn vs rs, e = .returned (.tuple #[vk, vv, vr, .int .i64 x]) ∧ Bl w' vk kn ∧ Bss w' vv vs ∧ Eqs w' vr rs ∧ Gr w w' ∧ PeelSays n L kn vs rs x
theorem PeelOut.arg {n : Int} {L : List Eqn} {w w' : World} (h : ¬ MayEqs n L) (hg : Gr w w') : PeelOut n L w (.returned (.tuple #[.slice none 0 0, .slice none 0 0, .slice none 0 0, .int .i64 1])) w' :=
  ⟨_, _, _, _, [], [], [], rfl, Bl.nil _, Bss.nil _, Eqs.nil _, hg, .inl ⟨h, rfl, rfl, rfl, rfl⟩⟩
theorem PeelOut.clash {n : Int} {L : List Eqn} {w w' : World} (hm : MayEqs n L) (h : ¬ ∃ v, PL.Holds VT (L.map toE) v) (hg : Gr w w') : PeelOut n L w (.returned (.tuple #[.slice none 0 0, .slice none 0 0, .slice none 0 0, .int .i64 10])) w' :=
  ⟨_, _, _, _, [], [], [], rfl, Bl.nil _, Bss.nil _, Eqs.nil _, hg, .inr (.inl ⟨hm, h, rfl, rfl, rfl, rfl⟩)⟩
theorem PeelOut.ok {n : Int} {L : List Eqn} {w w' : World} {vk vv vr : Value} {kn : List Bool} {vs : List (List Int)} (hm : MayEqs n L) (h1 : Bl w' vk kn) (h2 : Bss w' vv vs) (h3 : Eqs w' vr (leftE kn vs L)) (hg : Gr w w') (h : PeelOkIs n.toNat (dlen L) (L.map toE) kn vs) : PeelOut n L w (.returned (.tuple #[vk, vv, vr, .int .i64 0])) w' :=
  ⟨_, _, _, _, kn, vs, _, rfl, h1, h2, h3, hg, .inr (.inr ⟨hm, rfl, h, rfl⟩)⟩
open Classical in
set_option maxRecDepth 100000 in
set_option maxHeartbeats 3200000 in
theorem refPeel_any (n : Int) (v : Value) (L : List Eqn) (w : World) (h : Eqs w v L) (hl : L.length ≤ 1000) (hc : ∀ q ∈ L, q.c.length ≤ 1000 ∧ q.d.length ≤ 1000) :
    Calls Try.prog 14 #[.int .i64 n, v] w fun e w' => PeelOut n L w e w' := by
  have HE := Lib.hid h
  have HCL := Lib.hid hc
  have HBY := Lib.hid h.byt
  obtain ⟨oa, ca, rfl⟩ := h.form
  obtain ⟨m, hm⟩ : ∃ m, L.length = m := ⟨_, rfl⟩
  rw [hm] at HE hl ⊢
  have HM := Lib.hid hm
  clear h hc hm
  by_cases hn : 0 ≤ n ∧ n ≤ 64
  · obtain ⟨hn1, hn2⟩ := hn
    go_enter Try.func14, Try.ntmps14
    go_wp2_with fail
    go_loopw [29] (fun iv W => ∃ i : Nat, i ≤ m ∧ iv = .int .i64 i ∧ Gr w W ∧ ∀ j, j < i → RowOkE n L (L.getD j noE)) (fun iv _ => m - (intOf iv).toNat)
    case atStart => exact ⟨0, by omega, rfl, Gr.refl _, by omega⟩
    case round =>
      obtain ⟨wo, hwo⟩ : ∃ x, x = wr := ⟨_, rfl⟩
      subst hwo
      obtain ⟨i, hi, rfl, hg, hs⟩ := hrel
      have HG := Lib.hid hg
      have HS := Lib.hid hs
      clear hg hs
      by_cases hlt : i < m
      · obtain ⟨b, o, rfl, _⟩ := HE.out.lay (by omega)
        obtain ⟨oc, nc, cc, od, nd, cd, q1, q2, zc, zd⟩ := (HE.out.grown HG.out).at hlt
        obtain ⟨oc0, nc0, cc0, od0, nd0, cd0, p1, p2, _, zd0⟩ := (HE.out.grown HG.out).at (i := 0) (by omega)
        have hqm := getD_memE (L := L) (i := i) (by rw [HM.out]; exact hlt)
        have hcl := HCL.out _ hqm
        have HND : Hid (nd = (L.getD i noE).d.length) := Lib.hid (zd.parts.1).symm
        have HND0 : Hid (nd0 = dlen L) := Lib.hid (by rw [← dlen_at (by rw [HM.out]; omega)]; exact (zd0.parts.1).symm)
        have HCC := Lib.hid hcl
        have HQM := Lib.hid hqm
        have ZC := Lib.hid zc
        clear zc zd zd0 p1 hcl hqm
        rw [Nat.zero_mul, Nat.add_zero] at p2
        go_upto_region 6 with fail
        have hga : Gr wo (wo.alloc (.cells #[.slice oc nc cc, .slice od nd cd] 27)) := Gr.alloc (Gr.refl _) _ _
        have c0 : (wo.alloc (.cells #[.slice oc nc cc, .slice od nd cd] 27)).cell? ⟨wo.heap.size, 0, none⟩ = some (.slice oc nc cc) := by rw [cell_of_row _ _ 0 _ _ _ (heap_alloc_new _ _)]; rfl
        have c1 : (wo.alloc (.cells #[.slice oc nc cc, .slice od nd cd] 27)).cell? ⟨wo.heap.size, 1, none⟩ = some (.slice od nd cd) := by rw [cell_of_row _ _ 1 _ _ _ (heap_alloc_new _ _)]; rfl
        have c2 := cell_gr hga p2
        have GA := Lib.hid hga
        have ZA := Lib.hid (ZC.out.grown hga)
        clear hga p2 q1 q2 ZC
        generalize wo.alloc (.cells #[.slice oc nc cc, .slice od nd cd] 27) = W1 at *
        generalize wo.heap.size = gq at *
        have GZ0 := Lib.hid (Gr.trans HG.out GA.out)
        by_cases hmr : MayRow n (L.getD i noE).c
        · have hd := decide_eq_true hmr
          have HD := Lib.hid hd
          have HMR := Lib.hid hmr
          have HCALL : Hid (∀ d, Calls Try.prog 24 #[.int .i64 n, .slice oc nc cc] (W1.drewN d) fun e w' => e = .returned (.bool true) ∧ w' = W1.drewN d) := Lib.hid (fun d => by
            have hq := mayRow_any n (.slice oc nc cc) (L.getD i noE).c (W1.drewN d) (ZA.out.grown (gr_drN W1 d)) HCC.out.1
            rwa [HD.out] at hq)
          clear hd hmr
          by_cases he : nd = nd0
          · have heb : ((nd : Int) != (nd0 : Int)) = false := by simp; omega
            have HEQ : Hid ((L.getD i noE).d.length = dlen L) := Lib.hid (by rw [← HND.out, ← HND0.out, he])
            clear he
            go_quiet (first | (go_at_call 24; refine Calls.quiet_of_same (HCALL.out _)))
            go_wp2_with fail
            exact ⟨⟨i + 1, by omega, by go_num, GZ0.out, fun j hj => by
              by_cases e : j = i
              · rw [e]; exact ⟨HMR.out, HEQ.out⟩
              · exact HS.out j (by omega)⟩, by simp [intOf]; omega⟩
          · have heb : ((nd : Int) != (nd0 : Int)) = true := by simp; omega
            have hne : ¬ MayEqs n L := fun h => he (by rw [HND.out, HND0.out]; exact (h.2.2 _ HQM.out).2)
            have HNE := Lib.hid hne
            have GZ := GZ0
            clear he hne
            go_quiet (first | (go_at_call 24; refine Calls.quiet_of_same (HCALL.out _)))
            go_wp2_with fail
            try simp only [Exit.inBlock, Exit.then]
            refine bodyPost_ret (results_tmp4 rfl _ _ _) rfl ?_
            exact PeelOut.arg HNE.out GZ.out
        · have hd := decide_eq_false hmr
          have HD := Lib.hid hd
          have hne : ¬ MayEqs n L := fun h => hmr (h.2.2 _ HQM.out).1
          have HNE := Lib.hid hne
          have GZ := GZ0
          have HCALL : Hid (∀ d, Calls Try.prog 24 #[.int .i64 n, .slice oc nc cc] (W1.drewN d) fun e w' => e = .returned (.bool false) ∧ w' = W1.drewN d) := Lib.hid (fun d => by
            have hq := mayRow_any n (.slice oc nc cc) (L.getD i noE).c (W1.drewN d) (ZA.out.grown (gr_drN W1 d)) HCC.out.1
            rwa [HD.out] at hq)
          clear hd hmr hne
          go_quiet (first | (go_at_call 24; refine Calls.quiet_of_same (HCALL.out _)))
          go_wp2_with fail
          try simp only [Exit.inBlock, Exit.then]
          refine bodyPost_ret (results_tmp4 rfl _ _ _) rfl ?_
          exact PeelOut.arg HNE.out GZ.out
      · have hmay : MayEqs n L := ⟨hn1, hn2, fun q hq => by
          obtain ⟨j, hj, rfl⟩ := List.getElem_of_mem hq
          have := HS.out j (by rw [HM.out] at hj; omega)
          rw [List.getD_eq_getElem?_getD, List.getElem?_eq_getElem hj] at this
          exact this⟩
        have HMY := Lib.hid hmay
        clear hmay HS
        obtain ⟨N, rfl⟩ : ∃ N : Nat, n = N := ⟨n.toNat, by omega⟩
        have hmT := makeT N (by omega)
        have hmV := fun W => make24 N N (by omega) (by omega) W
        go_wp2_with fail
        go_cut [10, 11] (fun kv vv W => ∃ gk gv, kv = .slice (some ⟨gk, 0, none⟩) N N ∧ vv = .slice (some ⟨gv, 0, none⟩) N N ∧ KV w W gk gv N (List.replicate N false) (List.replicate N []) (List.replicate N (.slice none 0 0)))
        case first =>
          go_region
          all_goals
            go_wp2_with fail
            go_meet
            first
              | exact ⟨_, _, rfl, rfl, (KV.start N (by omega) HG.out).grow (Gr.drew (Gr.refl _))⟩
              | exact ⟨_, _, rfl, rfl, (KV.start' N (by omega) HG.out).grow (Gr.drew (Gr.refl _))⟩
        case rest =>
          obtain ⟨gk, gv, rfl, rfl, hkv⟩ := hcut
          go_wp2_with fail
          have HKV := Lib.hid hkv
          clear hkv
          go_loopw [12] (fun av W => ∃ bg kn vs us, av = .bool bg ∧ KV w W gk gv N kn vs us ∧ PeelInv N (dlen L) (L.map toE) kn vs ∧ (bg = false → ∀ q ∈ L, (openL kn q.c).length ≠ 1)) (fun av W => 2 * unkW W gk N + (if av = .bool true then 1 else 0))
          case atStart => exact ⟨true, _, _, _, rfl, HKV.out, PeelInv.start _ _ _, fun e => by cases e⟩
          case round =>
            clear HKV
            obtain ⟨wp, hwp⟩ : ∃ x, x = wr := ⟨_, rfl⟩
            subst hwp
            obtain ⟨bg, kn, vs, us, rfl, hkv, hin, hcl⟩ := hrel
            have HKV := Lib.hid hkv
            have HIN := Lib.hid hin
            have HCLO := Lib.hid hcl
            clear hkv hin hcl
            cases bg with
            | true =>
              clear HCLO
              go_wp2_with fail
              go_loopw [12, 57] (fun av iv W => ∃ i : Nat, i ≤ m ∧ iv = .int .i64 i ∧ ∃ bg kn' vs' us', av = .bool bg ∧ KV w W gk gv N kn' vs' us' ∧ PeelInv N (dlen L) (L.map toE) kn' vs' ∧ (bg = false → kn' = kn ∧ ∀ j, j < i → (openL kn (L.getD j noE).c).length ≠ 1) ∧ (bg = true → unk kn' N < unk kn N)) (fun _ iv _ => m - (intOf iv).toNat)
              case atStart => exact ⟨0, by omega, rfl, false, kn, vs, us, rfl, HKV.out, HIN.out, fun _ => ⟨rfl, by omega⟩, fun e => by cases e⟩
              case round =>
                obtain ⟨wo, hwo⟩ : ∃ x, x = wr := ⟨_, rfl⟩
                subst hwo
                obtain ⟨i, hi, rfl, bg, kn', vs', us', rfl, hkv, hin, hf, ht⟩ := hrel
                have HKO := Lib.hid hkv
                have HIO := Lib.hid hin
                have HF := Lib.hid hf
                have HT := Lib.hid ht
                clear hkv hin hf ht
                by_cases hlt : i < m
                · obtain ⟨b, o, rfl, _⟩ := HE.out.lay (by omega)
                  obtain ⟨oc, nc, cc, od, nd, cd, q1, q2, zc, zd⟩ := (HE.out.grown HKO.out.gr).at hlt
                  have hqm := getD_memE (L := L) (i := i) (by rw [HM.out]; exact hlt)
                  have hcl := HCL.out _ hqm
                  have hmr := HMY.out.2.2 _ hqm
                  have HQM := Lib.hid hqm
                  have HQL := Lib.hid hcl
                  have HMR := Lib.hid hmr
                  have ZC := Lib.hid zc
                  have ZD := Lib.hid zd
                  clear zc zd hqm hcl hmr
                  obtain ⟨qe, hqe⟩ : ∃ q, L.getD i noE = q := ⟨_, rfl⟩
                  rw [hqe] at HQM HQL HMR ZC ZD
                  have HQE := Lib.hid hqe
                  clear hqe
                  go_upto_region 16 with fail
                  have hga : Gr wo (wo.alloc (.cells #[.slice oc nc cc, .slice od nd cd] 27)) := Gr.alloc (Gr.refl _) _ _
                  have c0 : (wo.alloc (.cells #[.slice oc nc cc, .slice od nd cd] 27)).cell? ⟨wo.heap.size, 0, none⟩ = some (.slice oc nc cc) := by rw [cell_of_row _ _ 0 _ _ _ (heap_alloc_new _ _)]; rfl
                  have c1 : (wo.alloc (.cells #[.slice oc nc cc, .slice od nd cd] 27)).cell? ⟨wo.heap.size, 1, none⟩ = some (.slice od nd cd) := by rw [cell_of_row _ _ 1 _ _ _ (heap_alloc_new _ _)]; rfl
                  have HK1 := Lib.hid (HKO.out.grow hga)
                  have Z1 := Lib.hid (ZC.out.grown hga)
                  have D1 := Lib.hid (ZD.out.grown hga)
                  have HGV : Hid (gv < wo.heap.size) := Lib.hid (by
                    obtain ⟨cur, hg⟩ := HKO.out.rowV
                    exact (Array.getElem?_eq_some_iff.1 hg).1)
                  clear hga q1 q2 ZC ZD HKO
                  generalize wo.alloc (.cells #[.slice oc nc cc, .slice od nd cd] 27) = W1 at *
                  generalize wo.heap.size = gq at *
                  go_wp2_with fail
                  refine (open_any _ _ qe.c kn' _ Z1.out (HK1.out.bl (by omega)) (by rw [HIO.out.len]; exact HMR.out.1.1) HQL.out.1 (by rw [HIO.out.len]; omega)).mono ?_
                  rintro e w2 ⟨v2, rfl, hz2, _, hg2⟩
                  obtain ⟨o2, c2, rfl⟩ := hz2.form
                  have Z2 := Lib.hid hz2
                  have HK2 := Lib.hid (HK1.out.grow hg2)
                  have D2 := Lib.hid (D1.out.grown hg2)
                  have E2 := Lib.hid (Z1.out.grown hg2)
                  have c0 := cell_gr hg2 c0
                  have c1 := cell_gr hg2 c1
                  clear hz2 hg2 HK1 D1 Z1
                  by_cases h1 : (openL kn' qe.c).length = 1
                  · rw [h1] at Z2 ⊢
                    obtain ⟨y, hy⟩ : ∃ y, openL kn' qe.c = [y] := List.length_eq_one_iff.1 h1
                    have hyc := (openL_mem.1 (show y ∈ openL kn' qe.c by rw [hy]; simp)).1
                    have hyr := HMR.out.1.1 y hyc
                    obtain ⟨x, rfl⟩ : ∃ x : Nat, y = (x : Int) := ⟨y.toNat, by omega⟩
                    have hxN : x < N := by omega
                    have hko := (openL_mem.1 (show (x : Int) ∈ openL kn' qe.c by rw [hy]; simp)).2
                    rw [Int.toNat_natCast] at hko
                    rw [hy] at Z2
                    obtain ⟨ao, rfl⟩ := Z2.out.addr (by omega)
                    have ca := Z2.out.cellAt (i := 0) (by omega)
                    rw [add_nought] at ca
                    have ca : w2.cell? ao = some (.int .i64 (x : Int)) := ca
                    have nk : ao ≠ ⟨gk, x, none⟩ := fun e => by
                      rw [e, HK2.out.cellK x hxN] at ca
                      simp at ca
                    have nv : ao ≠ ⟨gv, x, none⟩ := fun e => by
                      rw [e, HK2.out.cellV x hxN] at ca
                      obtain ⟨o, c, hf⟩ := (HK2.out.row x hxN).1.form
                      rw [hf] at ca
                      simp at ca
                    have n0k : (⟨gq, 0, none⟩ : Addr) ≠ ⟨gk, x, none⟩ := fun e => by
                      rw [e, HK2.out.cellK x hxN] at c0
                      simp at c0
                    have n1k : (⟨gq, 1, none⟩ : Addr) ≠ ⟨gk, x, none⟩ := fun e => by
                      rw [e, HK2.out.cellK x hxN] at c1
                      simp at c1
                    have n0v : (⟨gq, 0, none⟩ : Addr) ≠ ⟨gv, x, none⟩ := fun e => by
                      have h1 : gq = gv := congrArg Addr.block e
                      have := HGV.out
                      omega
                    have n1v : (⟨gq, 1, none⟩ : Addr) ≠ ⟨gv, x, none⟩ := fun e => by
                      have h1 : gq = gv := congrArg Addr.block e
                      have := HGV.out
                      omega
                    have hstep := PeelInv.step (fun q hq => ⟨(HMY.out.2.2 q hq).1, (HMY.out.2.2 q hq).2, HBY.out q hq⟩) HIO.out HQM.out hy
                    have HY := Lib.hid hy
                    have HST := Lib.hid hstep
                    have HKO := Lib.hid hko
                    clear h1 hy hyc hyr hko hstep
                    go_upto_region 18 with fail
                    go_region_held3 (fun W => W.cell? ao = some (.int .i64 (x : Int)) ∧ W.cell? ⟨gq, 0, none⟩ = some (.slice oc nc cc) ∧ W.cell? ⟨gq, 1, none⟩ = some (.slice od nd cd)) (first | exact ⟨t0, t1, t2⟩ | exact ⟨s0, s1, s2⟩ | exact ⟨r0, r1, r2⟩ | go_keep)
                      (first
                        | (go_at_call 26; refine (rest_any _ _ _ _ qe.c qe.d kn' vs' (dlen L) _ (E2.out.grown (Gr.drew (Gr.refl _))) (D2.out.grown (Gr.drew (Gr.refl _))) ((HK2.out.bl (by omega)).grown (Gr.drew (Gr.refl _))) (HK2.out.bss.grown (Gr.drew (Gr.refl _))) (by rw [HIO.out.len]; exact HMR.out.1.1) HQL.out.1 (by rw [HIO.out.len]; omega) HMR.out.2 (by have := HQL.out.2; have := HMR.out.2; omega) HIO.out.val).mono ?_; rintro e v1 ⟨y1, rfl, hn1⟩; obtain ⟨o1, m1, d1, rfl⟩ := New.form3 hn1; have N1 := Lib.hid hn1; have r0 := cell_gr hn1.1 (by exact ca); have r1 := cell_gr hn1.1 (by exact c0); have r2 := cell_gr hn1.1 (by exact c1); have V1 : Hid (Gr w2 v1) := Lib.hid (by exact hn1.1); clear hn1; have K1 := Lib.hid (HK2.out.grow V1.out); have k1 := K1.out.cellV x hxN; have k2 := K1.out.frozenV x; have K2 := Lib.hid (K1.out.putV hxN (New.bs N1.out) (New.rb N1.out w.heap.size)); have k3 := K2.out.cellK x hxN; have k4 := K2.out.k.frozen x; have s0 := cell_far (v := .slice o1 m1 d1) r0 nv; have s1 := cell_far (v := .slice o1 m1 d1) r1 n0v; have s2 := cell_far (v := .slice o1 m1 d1) r2 n1v; have t0 := cell_far (v := .bool true) s0 nk; have t1 := cell_far (v := .bool true) s1 n0k; have t2 := cell_far (v := .bool true) s2 n1k))
                    all_goals
                      have hlt2 : unk (kn'.set x true) N < unk kn N := by
                        have h1 := unk_set HIO.out.len hxN HKO.out
                        cases bg with
                        | false => rw [(HF.out rfl).1] at h1 ⊢; exact h1
                        | true => have := HT.out rfl; omega
                      have HLT := Lib.hid hlt2
                      have K3 := Lib.hid (K2.out.putK x true)
                      clear hlt2 k1 k2 k3 k4 s0 s1 s2 t0 t1 t2 r0 r1 r2 ca c0 c1
                      go_wp2_with fail
                      exact ⟨⟨i + 1, by omega, by go_num, true, _, _, _, rfl, K3.out, HST.out, fun e => (by cases e), fun _ => HLT.out⟩, by simp [intOf]; omega⟩
                  · have h1b : (((openL kn' qe.c).length : Int) == 1) = false := by simp; omega
                    go_wp2_with fail
                    refine ⟨⟨i + 1, by omega, by go_num, bg, kn', vs', us', rfl, HK2.out, HIO.out, fun e => ?_, HT.out⟩, by simp [intOf]; omega⟩
                    obtain ⟨h2, h3⟩ := HF.out e
                    refine ⟨h2, fun j hj => ?_⟩
                    by_cases ej : j = i
                    · rw [ej, HQE.out, ← h2]
                      exact h1
                    · exact h3 j (by omega)
                · obtain rfl : m = i := by omega
                  go_wp2_with fail
                  refine ⟨⟨bg, kn', vs', us', rfl, HKO.out, HIO.out, fun e q hq => ?_⟩, ?_⟩
                  · obtain ⟨h2, h3⟩ := HF.out e
                    obtain ⟨j, hj, rfl⟩ := List.getElem_of_mem hq
                    have := h3 j (by rw [HM.out] at hj; exact hj)
                    rw [List.getD_eq_getElem?_getD, List.getElem?_eq_getElem hj] at this
                    rw [h2]
                    exact this
                  · rw [HKO.out.unkW, HKV.out.unkW]
                    cases bg with
                    | false => rw [(HF.out rfl).1]; simp
                    | true => have := HT.out rfl; simp; omega
            | false =>
              have hder := PeelInv.closed (fun q hq => (HMY.out.2.2 q hq).1) HIN.out (HCLO.out rfl)
              have HDER := Lib.hid hder
              clear hder HCLO
              go_wp2_with fail
              go_loopw [16, 85] (fun lv iv W => ∃ i : Nat, i ≤ m ∧ iv = .int .i64 i ∧ EqsO w.heap.size W lv (leftE kn vs (L.take i)) ∧ KV w W gk gv N kn vs us ∧ ∀ j, j < i → openL kn (L.getD j noE).c = [] → leadL (restL kn vs (L.getD j noE).c (L.getD j noE).d) = -1) (fun _ iv _ => m - (intOf iv).toNat)
              case atStart => exact ⟨0, by omega, rfl, EqsO.nil _ _, HKV.out, by omega⟩
              case round =>
                clear HKV
                obtain ⟨wo, hwo⟩ : ∃ x, x = wr := ⟨_, rfl⟩
                subst hwo
                obtain ⟨i, hi, rfl, hlf, hkv, hz⟩ := hrel
                obtain ⟨ol, cl, rfl⟩ := hlf.form
                have HLF := Lib.hid hlf
                have HKO := Lib.hid hkv
                have HZ := Lib.hid hz
                clear hlf hkv hz
                by_cases hlt : i < m
                · obtain ⟨b, o, rfl, _⟩ := HE.out.lay (by omega)
                  obtain ⟨oc, nc, cc, od, nd, cd, q1, q2, zc, zd⟩ := (HE.out.grown HKO.out.gr).at hlt
                  have hqm := getD_memE (L := L) (i := i) (by rw [HM.out]; exact hlt)
                  have hcl := HCL.out _ hqm
                  have hmr := HMY.out.2.2 _ hqm
                  have hst : leftE kn vs (L.take (i + 1)) = leftE kn vs (L.take i) ++ (if 0 < (openL kn (L.getD i noE).c).length then [⟨openL kn (L.getD i noE).c, restL kn vs (L.getD i noE).c (L.getD i noE).d⟩] else []) := by
                    rw [take_snoc L i noE (by rw [HM.out]; exact hlt), leftE_snoc]
                  have HST := Lib.hid hst
                  have HQM := Lib.hid hqm
                  have HQL := Lib.hid hcl
                  have HMR := Lib.hid hmr
                  have ZC := Lib.hid zc
                  have ZD := Lib.hid zd
                  have HLL := Lib.hid (leftE_le kn vs (L.take i))
                  have HTL : Hid ((L.take i).length ≤ 1000) := Lib.hid (by rw [List.length_take, HM.out]; omega)
                  clear zc zd hqm hcl hmr hst
                  obtain ⟨qe, hqe⟩ : ∃ q, L.getD i noE = q := ⟨_, rfl⟩
                  rw [hqe] at HQM HQL HMR ZC ZD HST
                  have HQE := Lib.hid hqe
                  clear hqe
                  go_upto_region 24 with fail
                  have hga : Gr wo (wo.alloc (.cells #[.slice oc nc cc, .slice od nd cd] 27)) := Gr.alloc (Gr.refl _) _ _
                  have c0 : (wo.alloc (.cells #[.slice oc nc cc, .slice od nd cd] 27)).cell? ⟨wo.heap.size, 0, none⟩ = some (.slice oc nc cc) := by rw [cell_of_row _ _ 0 _ _ _ (heap_alloc_new _ _)]; rfl
                  have c1 : (wo.alloc (.cells #[.slice oc nc cc, .slice od nd cd] 27)).cell? ⟨wo.heap.size, 1, none⟩ = some (.slice od nd cd) := by rw [cell_of_row _ _ 1 _ _ _ (heap_alloc_new _ _)]; rfl
                  have HK1 := Lib.hid (HKO.out.grow hga)
                  have L1 := Lib.hid (HLF.out.grown hga)
                  have Z1 := Lib.hid (ZC.out.grown hga)
                  have D1 := Lib.hid (ZD.out.grown hga)
                  clear hga q1 q2 ZC ZD HKO HLF
                  generalize wo.alloc (.cells #[.slice oc nc cc, .slice od nd cd] 27) = W1 at *
                  generalize wo.heap.size = gq at *
                  go_region_held3 (fun W => W.cell? ⟨gq, 0, none⟩ = some (.slice oc nc cc) ∧ W.cell? ⟨gq, 1, none⟩ = some (.slice od nd cd)) (first | exact ⟨k20, k21⟩ | exact ⟨k10, k11⟩ | go_keep)
                    (first
                      | (go_at_call 26; refine (rest_any _ _ _ _ qe.c qe.d kn vs (dlen L) _ (Z1.out.grown V1.out) (D1.out.grown V1.out) ((HK1.out.grow V1.out).bl (by omega)) (HK1.out.grow V1.out).bss (by rw [HIN.out.len]; exact HMR.out.1.1) HQL.out.1 (by rw [HIN.out.len]; omega) HMR.out.2 (by have := HQL.out.2; have := HMR.out.2; omega) HIN.out.val).mono ?_; rintro e v2 ⟨y2, rfl, hn2⟩; obtain ⟨o2, m2, d2, rfl⟩ := New.form3 hn2; have N2 := Lib.hid hn2; have k20 := cell_gr hn2.1 (by exact k10); have k21 := cell_gr hn2.1 (by exact k11); have V2 : Hid (Gr W1 v2) := Lib.hid (Gr.trans V1.out hn2.1); clear hn2)
                      | (go_at_call 25; refine (open_any _ _ qe.c kn _ (Z1.out.grown (Gr.drew (Gr.refl _))) ((HK1.out.bl (by omega)).grown (Gr.drew (Gr.refl _))) (by rw [HIN.out.len]; exact HMR.out.1.1) HQL.out.1 (by rw [HIN.out.len]; omega)).mono ?_; rintro e v1 ⟨y1, rfl, hz1, hi1, hg1⟩; obtain ⟨o1, d1, rfl⟩ := hz1.form; have Z3 := Lib.hid hz1; have I3 := Lib.hid hi1; have k10 := cell_gr hg1 (by exact c0); have k11 := cell_gr hg1 (by exact c1); have V1 : Hid (Gr W1 v1) := Lib.hid (by exact hg1); clear hz1 hi1 hg1))
                  all_goals
                    have HK2 := Lib.hid (HK1.out.grow V2.out)
                    have L2 := Lib.hid (L1.out.grown V2.out)
                    have W2 := Lib.hid (HK2.out.gr)
                    by_cases h1 : 0 < (openL kn qe.c).length
                    · have gA : Gr v2 (v2.alloc (.cells #[.slice o1 (openL kn qe.c).length d1, .slice o2 m2 d2] 27)) := Gr.alloc (Gr.refl _) _ _
                      have GA := Lib.hid gA
                      have CE0 : Hid ((v2.alloc (.cells #[.slice o1 (openL kn qe.c).length d1, .slice o2 m2 d2] 27)).cell? ⟨v2.heap.size, 0, none⟩ = some (.slice o1 (openL kn qe.c).length d1)) := Lib.hid (by rw [cell_of_row _ _ 0 _ _ _ (heap_alloc_new _ _)]; rfl)
                      have CE1 : Hid ((v2.alloc (.cells #[.slice o1 (openL kn qe.c).length d1, .slice o2 m2 d2] 27)).cell? ⟨v2.heap.size, 1, none⟩ = some (.slice o2 m2 d2)) := Lib.hid (by rw [cell_of_row _ _ 1 _ _ _ (heap_alloc_new _ _)]; rfl)
                      have EV : Hid (EqVal w.heap.size (v2.alloc (.cells #[.slice o1 (openL kn qe.c).length d1, .slice o2 m2 d2] 27)) (.slice o1 (openL kn qe.c).length d1) (.slice o2 m2 d2) ⟨openL kn qe.c, restL kn vs qe.c qe.d⟩) := Lib.hid (by
                        have z := Rz.gr (base := w.heap.size) Z3.out (fun a n c e h => .inr (I3.out a n c e h)) (Gr.trans N2.out.1 gA)
                        have r := Rb.gr (New.bs N2.out) (New.rb N2.out w.heap.size) gA
                        exact ⟨z.1, z.2, r.1, r.2⟩)
                      rw [if_pos h1] at HST
                      clear gA
                      go_wp2_with (at_builtin; refine wpList_append_eq rfl _ _ rfl w.heap.size (.slice ol (leftE kn vs (L.take i)).length cl) (leftE kn vs (L.take i)) rfl (L2.out.grown GA.out) v2.heap.size (.slice o1 (openL kn qe.c).length d1) (.slice o2 m2 d2) _ rfl CE0.out CE1.out EV.out (by have := HLL.out; have := HTL.out; omega) (by have := W2.out.size; simp; omega) ?_; intro v5 w5 h5 hg5 hgr5 hn5; have L5 := Lib.hid h5; have G5 := Lib.hid hg5; have R5 := Lib.hid hgr5; have T5 := Lib.hid hn5; clear h5 hg5 hgr5 hn5)
                      have hgr := G5.out w (Gr.trans W2.out GA.out) (Nat.le_refl _)
                      refine ⟨⟨i + 1, by omega, by go_num, by rw [HST.out]; exact L5.out, (HK2.out.grow GA.out).through R5.out (fun t ht => T5.out t ht) hgr, fun j hj e => ?_⟩, by simp [intOf]; omega⟩
                      by_cases ej : j = i
                      · rw [ej, HQE.out] at e
                        rw [e] at h1
                        simp at h1
                      · exact HZ.out j (by omega) e
                    · have h0 : openL kn qe.c = [] := List.eq_nil_of_length_eq_zero (by omega)
                      have hz0 : (openL kn qe.c).length = 0 := by omega
                      rw [if_neg h1, List.append_nil] at HST
                      have H0 := Lib.hid h0
                      have hrl := restL_ok HIN.out.val qe.c qe.d HMR.out.2 (HBY.out qe HQM.out)
                      have HRL := Lib.hid hrl
                      have hge := leadL_ge (restL kn vs qe.c qe.d)
                      obtain ⟨ld, hld⟩ : ∃ x, leadL (restL kn vs qe.c qe.d) = x := ⟨_, rfl⟩
                      rw [hld] at hge
                      have HLD := Lib.hid hld
                      clear hld h0 h1 hrl
                      go_wp2_with fail
                      refine (refLead_any _ (restL kn vs qe.c qe.d) _ (New.bs N2.out) (by have := HRL.out.1; have := HMR.out.2; have := HQL.out.2; omega)).mono ?_
                      rw [HLD.out]
                      rintro e w6 ⟨rfl, hg6⟩
                      have G6 := Lib.hid hg6
                      clear hg6
                      by_cases hneg : 0 ≤ ld
                      · go_wp2_with fail
                        try simp only [Exit.inBlock, Exit.then]
                        refine bodyPost_ret (results_tmp4 rfl _ _ _) rfl ?_
                        exact PeelOut.clash HMY.out (HIN.out.clash HQM.out HMR.out.2 (HBY.out qe HQM.out) H0.out (by rw [HLD.out]; exact hneg)) (Gr.trans W2.out G6.out)
                      · go_wp2_with fail
                        refine ⟨⟨i + 1, by omega, by go_num, by rw [HST.out]; exact L2.out.grown G6.out, HK2.out.grow G6.out, fun j hj e => ?_⟩, by simp [intOf]; omega⟩
                        by_cases ej : j = i
                        · rw [ej, HQE.out, HLD.out]
                          omega
                        · exact HZ.out j (by omega) e
                · obtain rfl : m = i := by omega
                  have hall : L.take m = L := List.take_of_length_le (by rw [HM.out]; exact Nat.le_refl _)
                  rw [hall] at HLF ⊢
                  go_wp2_with fail
                  try simp only [Exit.inBlock, Exit.then]
                  refine bodyPost_ret (results_tmp4 rfl _ _ _) rfl ?_
                  refine PeelOut.ok HMY.out (HKO.out.bl (by omega)) HKO.out.bss HLF.out.eqs HKO.out.gr (PeelInv.done (fun q hq => ⟨(HMY.out.2.2 q hq).2, HBY.out q hq⟩) HIN.out HDER.out fun q hq ho => ?_)
                  obtain ⟨j, hj, rfl⟩ := List.getElem_of_mem hq
                  have := HZ.out j (by rw [HM.out] at hj; exact hj)
                  rw [List.getD_eq_getElem?_getD, List.getElem?_eq_getElem hj] at this
                  exact this ho
  · have hne : ¬ MayEqs n L := fun h => hn ⟨h.1, h.2.1⟩
    have HNE := Lib.hid hne
    clear hne
    by_cases h0 : n < 0
    · clear hn
      go_enter Try.func14, Try.ntmps14
      go_wp2_with fail
      try simp only [Exit.inBlock, Exit.then]
      refine bodyPost_ret (results_tmp4 rfl _ _ _) rfl ?_
      exact PeelOut.arg HNE.out (Gr.refl _)
    · have h1 : 64 < n := by omega
      clear hn
      go_enter Try.func14, Try.ntmps14
      go_wp2_with fail
      try simp only [Exit.inBlock, Exit.then]
      refine bodyPost_ret (results_tmp4 rfl _ _ _) rfl ?_
      exact PeelOut.arg HNE.out (Gr.refl _)
end Go.Proofs.Ytjibmgdafpempaa
namespace Go.Proofs.Ytjibmgdafpempaa
open Go.RowKit

/-- The contract of package peel. -/
structure PeelOk : Prop where
  peel : ∀ (n : Int) (v : Value) (L : List Eqn) (w : World), I64 n → Eqs w v L → L.length ≤ 1000 → (∀ q ∈ L, q.c.length ≤ 1000 ∧ q.d.length ≤ 1000) → Calls Try.prog 13 #[.int .i64 n, v] w fun e w' => PeelOut n L w e w'
set_option maxRecDepth 100000 in
set_option maxHeartbeats 800000 in
theorem sameEqs_true (va vb : Value) (A : List Eqn) (w : World) (ha : Eqs w va A) (hb : Eqs w vb A) (hl : A.length ≤ 1000) :
    Calls Try.prog 16 #[va, vb] w fun e w' => e = .returned (.bool true) ∧ Gr w w' := by
  obtain ⟨n, hn⟩ : ∃ n, A.length = n := ⟨_, rfl⟩
  have HA := Lib.hid ha
  have HB := Lib.hid hb
  obtain ⟨oa, ca, rfl⟩ := ha.form
  obtain ⟨ob, cb, rfl⟩ := hb.form
  rw [hn] at HA HB hl ⊢
  clear ha hb hn
  go_enter Try.func16, Try.ntmps16
  go_wp2_with fail
  go_loopw [13] (fun iv W => ∃ i : Nat, i ≤ n ∧ iv = .int .i64 i ∧ Gr w W) (fun iv _ => n - (intOf iv).toNat)
  case atStart => exact ⟨0, by omega, rfl, Gr.refl _⟩
  case round =>
    obtain ⟨wo, hwo⟩ : ∃ x, x = wr := ⟨_, rfl⟩
    subst hwo
    obtain ⟨i, hi, rfl, hg⟩ := hrel
    have HG := Lib.hid hg
    clear hg
    by_cases hlt : i < n
    · obtain ⟨b, o, rfl, _⟩ := HA.out.lay (by omega)
      obtain ⟨b', o', rfl, _⟩ := HB.out.lay (by omega)
      obtain ⟨oc, nc, cc, od, nd, cd, q1, q2, zc, zd⟩ := (HA.out.grown HG.out).at hlt
      obtain ⟨oc', nc', cc', od', nd', cd', p1, p2, yc, yd⟩ := (HB.out.grown HG.out).at hlt
      have ZC := Lib.hid zc
      have ZD := Lib.hid zd
      have YC := Lib.hid yc
      have YD := Lib.hid yd
      clear zc zd yc yd
      go_wp2_with fail
      go_region_held3 (fun W => W.cell? ⟨b, o + i * 2, none⟩ = some (.slice oc nc cc) ∧ W.cell? ⟨b, o + i * 2 + 1, none⟩ = some (.slice od nd cd) ∧ W.cell? ⟨b', o' + i * 2, none⟩ = some (.slice oc' nc' cc') ∧ W.cell? ⟨b', o' + i * 2 + 1, none⟩ = some (.slice od' nd' cd')) (first | exact ⟨s1, s2, s3, s4⟩ | exact ⟨r1, r2, r3, r4⟩ | go_keep)
        (first
          | (go_at_call 17; refine (same_any _ _ _ _ _ (ZD.out.grown V1.out) (YD.out.grown V1.out)).mono ?_; rw [beq_self_eq_true]; rintro e v2 ⟨rfl, hg2⟩; have s1 := cell_gr hg2 (by exact r1); have s2 := cell_gr hg2 (by exact r2); have s3 := cell_gr hg2 (by exact r3); have s4 := cell_gr hg2 (by exact r4); have V2 : Hid (Gr wo v2) := Lib.hid (Gr.trans V1.out hg2); clear hg2)
          | (go_at_call 28; refine (sameZ_any _ _ _ _ _ (ZC.out.grown (Gr.drew (Gr.refl _))) (YC.out.grown (Gr.drew (Gr.refl _)))).mono ?_; rw [beq_self_eq_true]; rintro e v1 ⟨rfl, hg1⟩; have r1 := cell_gr hg1 (by exact q1); have r2 := cell_gr hg1 (by exact q2); have r3 := cell_gr hg1 (by exact p1); have r4 := cell_gr hg1 (by exact p2); have V1 : Hid (Gr wo v1) := Lib.hid (by exact hg1); clear hg1))
      all_goals
        have HZ := Lib.hid (Gr.trans HG.out V2.out)
        go_wp2_with fail
        exact ⟨⟨i + 1, by omega, by go_num, HZ.out⟩, by simp [intOf]; omega⟩
    · obtain rfl : n = i := by omega
      go_wp2_with fail
      go_ret
      exact ⟨rfl, HG.out⟩
/-- The law's comparison of two answers that are alike. -/
theorem sameLaw_true (k l u v q r : Value) (kn : List Bool) (vs : List (List Int)) (rs : List Eqn) (w : World) (h1 : Bl w k kn) (h2 : Bl w l kn) (h3 : Bss w u vs) (h4 : Bss w v vs) (h5 : Eqs w q rs) (h6 : Eqs w r rs) (hl : rs.length ≤ 1000) :
    Calls Try.prog 15 #[k, l, u, v, q, r] w fun e w' => e = .returned (.bool true) ∧ Gr w w' := by
  have HU := Lib.hid h3
  have HV := Lib.hid h4
  have HQ := Lib.hid h5
  have HR := Lib.hid h6
  have H1 := Lib.hid h1
  have H2 := Lib.hid h2
  have HL := Lib.hid hl
  clear h1 h2 h3 h4 h5 h6 hl
  go_enter Try.func15, Try.ntmps15
  go_wp2_with fail
  refine (sameB_any _ _ kn kn _ H1.out H2.out).mono ?_
  rw [beq_self_eq_true]
  rintro e w1 ⟨rfl, hg1⟩
  have G1 := Lib.hid hg1
  clear hg1
  go_wp2_with fail
  refine (rows_any _ _ vs vs _ (HU.out.grown G1.out) (HV.out.grown G1.out)).mono ?_
  rw [beq_self_eq_true]
  rintro e w2 ⟨rfl, hg2⟩
  have G2 := Lib.hid (Gr.trans G1.out hg2)
  clear hg2
  go_wp2_with fail
  refine (sameEqs_true _ _ rs _ (HQ.out.grown G2.out) (HR.out.grown G2.out) HL.out).mono ?_
  rintro e w3 ⟨rfl, hg3⟩
  have G3 := Lib.hid (Gr.trans G2.out hg3)
  clear hg3
  go_wp2_with fail
  go_ret
  exact ⟨rfl, G3.out⟩
theorem Blk.put {w : World} {g : Nat} {L : List Int} (h : Blk w g L) (i : Nat) (x : Int) : Blk (w.setCell ⟨g, i, none⟩ (.int .u8 x)) g (L.set i x) := by
  unfold Blk at *
  rw [heap_setCell_same _ _ _ _ _ _ h, rowB_set]
theorem Blk.frz {w : World} {g : Nat} {L : List Int} (h : Blk w g L) (i : Nat) : w.frozen? ⟨g, i, none⟩ = false := frozen_of_row w g i _ _ h
theorem lst_put {S k : Nat} (f : Nat → Int) (_ : k < S) : (lst S fun j => if j < k then f j else 0).set k (f k) = lst S fun j => if j < k + 1 then f j else 0 := by
  apply ext_getD (by rw [List.length_set, lst_length, lst_length])
  intro j hj
  rw [List.length_set, lst_length] at hj
  rw [lst_getD _ _ _ hj]
  by_cases e : k = j
  · subst e
    rw [List.getD_eq_getElem?_getD, List.getElem?_set_self (by rw [lst_length]; exact hj), if_pos (by omega)]
    rfl
  · rw [List.getD_eq_getElem?_getD, List.getElem?_set_ne e, ← List.getD_eq_getElem?_getD, lst_getD _ _ _ hj]
    by_cases h : j < k
    · rw [if_pos h, if_pos (by omega)]
    · rw [if_neg h, if_neg (by omega)]
theorem lst_skip {S k : Nat} (f : Nat → Int) (h : f k = 0) : (lst S fun j => if j < k then f j else 0) = lst S fun j => if j < k + 1 then f j else 0 := by
  apply ext_getD (by rw [lst_length, lst_length])
  intro j hj
  rw [lst_length] at hj
  rw [lst_getD _ _ _ hj, lst_getD _ _ _ hj]
  by_cases e : j = k
  · subst e
    rw [if_neg (by omega), if_pos (by omega), h]
  · by_cases h2 : j < k
    · rw [if_pos h2, if_pos (by omega)]
    · rw [if_neg h2, if_neg (by omega)]
theorem lst_full (S : Nat) (f : Nat → Int) : (lst S fun j => if j < S then f j else 0) = lst S f := lst_congr _ _ _ fun _ hi => if_pos hi
/-- Values of bytes: each of so many bytes. -/
def valsL (b : List Int) (n S : Nat) : List (List Int) := (List.range n).map fun i => lst S fun k => b.getD (i * S + k) 0
theorem valsL_length (b : List Int) (n S : Nat) : (valsL b n S).length = n := by simp [valsL]
theorem valsL_wide {b : List Int} (hb : ∀ z ∈ b, Byt z) (n S : Nat) : Wide S (valsL b n S) := fun r hr => by
  obtain ⟨i, _, rfl⟩ := List.mem_map.1 hr
  exact ⟨lst_length _ _, lst_byt fun k _ => getD_byt hb _⟩
theorem valsL_succ (b : List Int) (n S : Nat) : valsL b (n + 1) S = valsL b n S ++ [lst S fun k => b.getD (n * S + k) 0] := by simp [valsL, List.range_succ]
set_option maxRecDepth 100000 in
set_option maxHeartbeats 1600000 in
theorem vals_any (v : Value) (b : List Int) (n S : Nat) (w : World) (hb : Bs w v b) (hn : n ≤ 100) (hS : S ≤ 100) (hl : b.length ≤ 9223372036854775807) :
    Calls Try.prog 10 #[v, .int .i64 n, .int .i64 S] w fun e w' => ∃ u, e = .returned u ∧ Rws w.heap.size w' u (valsL b n S) ∧ Gr w w' := by
  have hmk := make22 S S (by omega) (by omega)
  have HB := Lib.hid hb
  obtain ⟨ob, cb, rfl⟩ := hb.form
  obtain ⟨m, hm⟩ : ∃ m, b.length = m := ⟨_, rfl⟩
  rw [hm] at HB hl ⊢
  have HM := Lib.hid hm
  clear hb hm
  go_enter Try.func10, Try.ntmps10
  go_wp2_with fail
  go_loopw [7, 8] (fun ov iv W => ∃ i : Nat, i ≤ n ∧ iv = .int .i64 i ∧ Rws w.heap.size W ov (valsL b i S) ∧ Gr w W) (fun _ iv _ => n - (intOf iv).toNat)
  case atStart => exact ⟨0, by omega, rfl, Rws.nil _ _, Gr.refl _⟩
  case round =>
    obtain ⟨wo, hwo⟩ : ∃ x, x = wr := ⟨_, rfl⟩
    subst hwo
    obtain ⟨i, hi, rfl, hr, hg⟩ := hrel
    obtain ⟨oo, co, hf⟩ := hr.form3
    rw [valsL_length] at hf
    subst hf
    have HR := Lib.hid hr
    have HG := Lib.hid hg
    clear hr hg
    by_cases hlt : i < n
    · obtain ⟨lo, hlo⟩ : ∃ lo, i * S = lo := ⟨_, rfl⟩
      have hli : (i : Int) * (S : Int) = (lo : Int) := by rw [← hlo]; simp
      have hlb : lo ≤ 10000 := by rw [← hlo]; exact Nat.le_trans (Nat.mul_le_mul (by omega : i ≤ 100) hS) (by omega)
      have HLO := Lib.hid hlo
      clear hlo
      have B0 : Hid (Blk (wo.alloc (.cells (rowB (List.replicate S 0)) 5)) wo.heap.size (lst S fun j => if j < 0 then b.getD (lo + j) 0 else 0)) := Lib.hid (by
        have : (lst S fun j => if j < 0 then b.getD (lo + j) 0 else 0) = List.replicate S 0 := by
          apply ext_getD (by rw [lst_length]; simp)
          intro j hj
          rw [lst_length] at hj
          rw [lst_getD _ _ _ hj, if_neg (by omega), replicate_getD]
        rw [this]
        exact heap_alloc_new _ _)
      have G0 : Hid (Gr wo (wo.alloc (.cells (rowB (List.replicate S 0)) 5))) := Lib.hid (Gr.alloc (Gr.refl _) _ _)
      go_wp2_with fail
      generalize hW : wo.alloc (.cells (rowB (List.replicate S 0)) 5) = W0 at *
      generalize hgx : wo.heap.size = gx at *
      go_loopw [20] (fun kv W => ∃ k : Nat, k ≤ S ∧ kv = .int .i64 k ∧ Blk W gx (lst S fun j => if j < k then b.getD (lo + j) 0 else 0) ∧ Gr wo W) (fun kv _ => S - (intOf kv).toNat)
      case atStart => exact ⟨0, by omega, rfl, B0.out, G0.out⟩
      case round =>
        clear B0 G0
        obtain ⟨wi, hwi⟩ : ∃ x, x = wr := ⟨_, rfl⟩
        subst hwi
        obtain ⟨k, hk, rfl, hb, hg⟩ := hrel
        have BK := Lib.hid hb
        have GK := Lib.hid hg
        clear hb hg
        by_cases hks : k < S
        · by_cases hin : lo + k < m
          · obtain ⟨ab, rfl⟩ := Bs.addr HB.out (by omega)
            have q := (HB.out.grown (Gr.trans HG.out GK.out)).parts.2.2.2.2 ab rfl (lo + k) (.int .u8 (b.getD (lo + k) 0)) (by
              rw [List.getElem?_map, List.getElem?_eq_getElem (by rw [HM.out]; exact hin), List.getD_eq_getElem?_getD, List.getElem?_eq_getElem (by rw [HM.out]; exact hin)]
              rfl)
            have q2 := BK.out.cell k (by rw [lst_length]; exact hks)
            have q3 := BK.out.frz k
            have hst := lst_put (fun j => b.getD (lo + j) 0) hks
            have B2 := BK.out.put k (b.getD (lo + k) 0)
            rw [hst] at B2
            have HB2 := Lib.hid B2
            clear hst B2
            have e1 : (lo : Int) + (k : Int) = ((lo + k : Nat) : Int) := by omega
            generalize b.getD (lo + k) 0 = y at *
            generalize (lst S fun j => if j < k then b.getD (lo + j) 0 else 0).getD k 0 = old at *
            obtain ⟨pos, hpos⟩ : ∃ p, lo + k = p := ⟨_, rfl⟩
            rw [hpos] at q e1 hin
            clear hpos
            go_wp2_with fail
            exact ⟨⟨k + 1, by omega, by go_num, HB2.out, Gr.setCell GK.out (by have := hgx; simp; omega) _⟩, by simp [intOf]; omega⟩
          · have hz : b.getD (lo + k) 0 = 0 := getD_out (by rw [HM.out]; omega)
            have hst := lst_skip (S := S) (k := k) (fun j => b.getD (lo + j) 0) hz
            have B2 := BK.out
            rw [hst] at B2
            have HB2 := Lib.hid B2
            clear hst B2 hz
            go_wp2_with fail
            exact ⟨⟨k + 1, by omega, by go_num, HB2.out, GK.out⟩, by simp [intOf]; omega⟩
        · obtain rfl : S = k := by omega
          have NW : Hid (New wo wi (.slice (some ⟨gx, 0, none⟩) S S) (lst S fun j => b.getD (lo + j) 0)) := Lib.hid (by
            have := BK.out
            rw [lst_full] at this
            exact new_block GK.out (by omega) this (lst_length _ _) (lst_byt fun j _ => getD_byt HB.out.1 _) (by omega))
          have RA := Lib.hid (HR.out.grown GK.out)
          have CE : Hid ((wi.alloc (.cells #[.slice (some ⟨gx, 0, none⟩) S S] 24)).cell? ⟨wi.heap.size, 0, none⟩ = some (.slice (some ⟨gx, 0, none⟩) S S)) := Lib.hid (by rw [cell_of_row _ _ 0 _ _ _ (heap_alloc_new _ _)]; rfl)
          have GA : Hid (Gr wi (wi.alloc (.cells #[.slice (some ⟨gx, 0, none⟩) S S] 24))) := Lib.hid (Gr.alloc (Gr.refl _) _ _)
          go_wp2_with (at_builtin; refine wpList_append_rowA rfl _ _ rfl w.heap.size (.slice oo i co) (valsL b i S) rfl (RA.out.grown GA.out) wi.heap.size (.slice (some ⟨gx, 0, none⟩) S S) (lst S fun j => b.getD (lo + j) 0) rfl CE.out (Bs.grown (New.bs NW.out) GA.out) (Rb.gr (New.bs NW.out) (New.rb NW.out w.heap.size) GA.out).2 (by rw [valsL_length]; omega) (by have := HG.out.size; have := GK.out.size; simp; omega) ?_; intro v5 w5 hr5 hg5 hk5 ha5; have R5 := Lib.hid hr5; have G5 := Lib.hid hg5; clear hr5 hg5 hk5 ha5)
          exact ⟨⟨i + 1, by omega, by go_num, by rw [valsL_succ, HLO.out]; exact R5.out, G5.out w (Gr.trans HG.out (Gr.trans GK.out GA.out)) (Nat.le_refl _)⟩, by simp [intOf]; omega⟩
    · obtain rfl : n = i := by omega
      go_wp2_with fail
      go_ret
      exact ⟨_, rfl, HR.out, HG.out⟩
end Go.Proofs.Ytjibmgdafpempaa
namespace Go.Proofs.Ytjibmgdafpempaa
open Go.RowKit

def wakeE : List Eqn := [⟨[0], [1]⟩, ⟨[0, 1], [3]⟩]
theorem wakeE_may : MayEqs 2 wakeE := ⟨by omega, by omega, fun q hq => by
  simp [wakeE] at hq
  rcases hq with rfl | rfl
  · exact ⟨⟨by simp, fun i hi => by simp at hi⟩, rfl⟩
  · refine ⟨⟨by simp, fun i hi => ?_⟩, rfl⟩
    simp at hi
    obtain rfl : i = 0 := by omega
    simp⟩
theorem byt_one (x : Int) (h : 0 ≤ x ∧ x ≤ 255) : ∀ z ∈ [x], Byt z := fun z hz => by
  obtain rfl : z = x := by simpa using hz
  unfold Byt
  omega
theorem wake_ok : PeelOkIs 2 1 (wakeE.map toE) [true, true] [[1], [2]] := by
  have h12 : L.vadd (vec [1]) (vec [2]) = vec [3] := by
    rw [← vec_sum (byt_one 1 (by omega)) (byt_one 2 (by omega)) rfl]
    congr 1
  have d0 : PL.Der (wakeE.map toE) 0 := .by_row (toE ⟨[0], [1]⟩) 0 (by simp [wakeE]) (by simp [toE]) fun d hd hne => by
    simp [toE] at hd
    exact absurd hd hne
  have d1 : PL.Der (wakeE.map toE) 1 := .by_row (toE ⟨[0, 1], [3]⟩) 1 (by simp [wakeE]) (by simp [toE]) fun d hd hne => by
    simp [toE] at hd
    rcases hd with rfl | rfl
    · exact d0
    · exact absurd rfl hne
  refine ⟨rfl, ⟨rfl, fun x hx => ?_⟩, fun x hx => ?_, fun x => ⟨fun hx => ?_, fun hx => ?_⟩, fun q hq _ => ?_⟩
  · match x with
    | 0 => exact ⟨rfl, byt_one 1 (by omega)⟩
    | 1 => exact ⟨rfl, byt_one 2 (by omega)⟩
    | x + 2 => simp at hx
  · match x with
    | 0 => simp at hx
    | 1 => simp at hx
    | x + 2 => rfl
  · match x with
    | 0 => exact d0
    | 1 => exact d1
    | x + 2 => simp at hx
  · have := PL.Der.lt (n := 2) (fun q hq c hc => by
      simp [wakeE] at hq
      rcases hq with rfl | rfl
      · simp [toE] at hc
        omega
      · simp [toE] at hc
        omega) hx
    match x with
    | 0 => rfl
    | 1 => rfl
    | x + 2 => omega
  · simp [wakeE] at hq
    rcases hq with rfl | rfl
    · show L.vadd (vec [1]) L.vzero = vec [1]
      exact L.vadd_zero _
    · show L.vadd (vec [1]) (L.vadd (vec [2]) L.vzero) = vec [3]
      rw [L.vadd_zero, h12]
theorem wake_peel {kn : List Bool} {vs : List (List Int)} {rs : List Eqn} {e : Int} (h : PeelSays 2 wakeE kn vs rs e) : kn = [true, true] ∧ vs = [[1], [2]] ∧ rs = [] ∧ e = 0 := by
  have h2 : PeelSays 2 wakeE [true, true] [[1], [2]] (leftE [true, true] [[1], [2]] wakeE) 0 := .inr (.inr ⟨wakeE_may, rfl, wake_ok, rfl⟩)
  obtain ⟨h3, h4, h5, h6⟩ := PeelSays.unique h h2
  exact ⟨h3, h4, by rw [h5]; rfl, h6⟩
theorem lit_eqs {W : World} {g : Nat} {a b c d : Value} {q0 q1 : Eqn} (h : W.heap[g]? = some (.cells #[a, b, c, d] 27 (0, 0))) (ha : Zs W a q0.c) (hb : Bs W b q0.d) (hc : Zs W c q1.c) (hd : Bs W d q1.d) : Eqs W (.slice (some ⟨g, 0, none⟩) 2 2) [q0, q1] := by
  refine ⟨_, 2, rfl, by simp, by omega, (fun e => by cases e), fun _ => ⟨g, 0, rfl, fun i hi => ?_⟩⟩
  obtain ⟨oa, na, ca, rfl⟩ := ha.form3
  obtain ⟨ob, nb, cb, rfl⟩ := hb.form4
  obtain ⟨oc, nc, cc, rfl⟩ := hc.form3
  obtain ⟨od, nd, cd, rfl⟩ := hd.form4
  have : i = 0 ∨ i = 1 := by simp at hi; omega
  rcases this with rfl | rfl
  · exact ⟨_, _, _, _, _, _, by rw [cell_of_row _ _ _ _ _ _ h]; rfl, by rw [cell_of_row _ _ _ _ _ _ h]; rfl, ha, hb⟩
  · exact ⟨_, _, _, _, _, _, by rw [cell_of_row _ _ _ _ _ _ h]; rfl, by rw [cell_of_row _ _ _ _ _ _ h]; rfl, hc, hd⟩
theorem wake_lit (w : World) :
    Eqs (((((w.alloc (.cells #[.int .i64 0] 3)).alloc (.cells #[.int .u8 1] 5)).alloc (.cells #[.int .i64 0, .int .i64 1] 3)).alloc (.cells #[.int .u8 3] 5)).alloc (.cells #[.slice (some ⟨w.heap.size, 0, none⟩) 1 1, .slice (some ⟨w.heap.size + 1, 0, none⟩) 1 1, .slice (some ⟨w.heap.size + 1 + 1, 0, none⟩) 2 2, .slice (some ⟨w.heap.size + 1 + 1 + 1, 0, none⟩) 1 1] 27))
      (.slice (some ⟨w.heap.size + 1 + 1 + 1 + 1, 0, none⟩) 2 2) wakeE := by
  have z0 := one_zs (w := w) 0 ⟨by omega, by omega⟩
  have b0 := lit_bs1 (w := w.alloc (.cells #[.int .i64 0] 3)) [1] (byt_one 1 (by omega)) (by simp)
  have z1 := two_zs (w := (w.alloc (.cells #[.int .i64 0] 3)).alloc (.cells #[.int .u8 1] 5)) 0 1 ⟨by omega, by omega⟩ ⟨by omega, by omega⟩
  have b1 := lit_bs1 (w := ((w.alloc (.cells #[.int .i64 0] 3)).alloc (.cells #[.int .u8 1] 5)).alloc (.cells #[.int .i64 0, .int .i64 1] 3)) [3] (byt_one 3 (by omega)) (by simp)
  simp only [World.size_alloc] at b0 z1 b1
  have hh := heap_alloc_new ((((w.alloc (.cells #[.int .i64 0] 3)).alloc (.cells #[.int .u8 1] 5)).alloc (.cells #[.int .i64 0, .int .i64 1] 3)).alloc (.cells #[.int .u8 3] 5)) (.cells #[.slice (some ⟨w.heap.size, 0, none⟩) 1 1, .slice (some ⟨w.heap.size + 1, 0, none⟩) 1 1, .slice (some ⟨w.heap.size + 1 + 1, 0, none⟩) 2 2, .slice (some ⟨w.heap.size + 1 + 1 + 1, 0, none⟩) 1 1] 27)
  simp only [World.size_alloc] at hh
  exact lit_eqs hh (z0.grown (Gr.alloc (Gr.alloc (Gr.alloc (Gr.alloc (Gr.refl _) _ _) _ _) _ _) _ _)) (b0.grown (Gr.alloc (Gr.alloc (Gr.alloc (Gr.refl _) _ _) _ _) _ _)) (z1.grown (Gr.alloc (Gr.alloc (Gr.refl _) _ _) _ _)) (b1.grown (Gr.alloc (Gr.refl _) _ _))
set_option maxRecDepth 100000 in
set_option maxHeartbeats 1600000 in
theorem peelWakes_any (O : PeelOk) (w : World) : Calls Try.prog 7 #[] w fun e w' => e = .returned (.bool true) ∧ Gr w w' := by
  have HO := Lib.hid O
  clear O
  go_enter Try.func7, Try.ntmps7
  have HL := Lib.hid (wake_lit w)
  have HG : Hid (Gr w (((((w.alloc (.cells #[.int .i64 0] 3)).alloc (.cells #[.int .u8 1] 5)).alloc (.cells #[.int .i64 0, .int .i64 1] 3)).alloc (.cells #[.int .u8 3] 5)).alloc (.cells #[.slice (some ⟨w.heap.size, 0, none⟩) 1 1, .slice (some ⟨w.heap.size + 1, 0, none⟩) 1 1, .slice (some ⟨w.heap.size + 1 + 1, 0, none⟩) 2 2, .slice (some ⟨w.heap.size + 1 + 1 + 1, 0, none⟩) 1 1] 27))) := Lib.hid (Gr.alloc (Gr.alloc (Gr.alloc (Gr.alloc (Gr.alloc (Gr.refl _) _ _) _ _) _ _) _ _) _ _)
  go_wp2_with fail
  refine (HO.out.peel 2 _ wakeE _ ⟨by omega, by omega⟩ HL.out (by simp [wakeE]) (by simp [wakeE])).mono ?_
  rintro e w1 ⟨vk, vv, vr, x, kn, vs, rs, rfl, hk, hv, hr, hg, hs⟩
  obtain ⟨rfl, rfl, rfl, rfl⟩ := wake_peel hs
  obtain ⟨ok, ck, rfl⟩ := hk.form3
  obtain ⟨ov, nv, cv, rfl⟩ := hv.form3
  obtain ⟨or', cr, rfl⟩ := hr.form
  have hnv : nv = 2 := hv.len3
  subst hnv
  have HG1 := Lib.hid (Gr.trans HG.out hg)
  obtain ⟨ak, rfl⟩ := hk.addr (m := 2) (by omega)
  have k0 := hk.cellAt (m := 2) (i := 0) (by omega)
  have k1 := hk.cellAt (m := 2) (i := 1) (by omega)
  rw [add_nought] at k0
  obtain ⟨bk, qk, sk⟩ := ak
  obtain rfl : sk = none := by simpa using World.cell?_spot k0
  have k0 : w1.cell? ⟨bk, qk, none⟩ = some (.bool true) := k0
  have k1 : w1.cell? ⟨bk, qk + 1, none⟩ = some (.bool true) := k1
  obtain ⟨av, rfl⟩ := hv.addr (by omega)
  obtain ⟨u, q1, hu⟩ := hv.rowAt (i := 1) (by omega)
  obtain ⟨ou, mu, cu, rfl⟩ := hu.form4
  have q1 : w1.cell? ⟨av.block, av.off + 1, none⟩ = some (.slice ou mu cu) := q1
  have HU := Lib.hid hu
  clear hu hs hk hv hr hg HL HG
  rw [show ([true, true] : List Bool).length = 2 from rfl, show ([] : List Eqn).length = 0 from rfl]
  go_wp2_with fail
  refine (same_any _ _ [2] [2] _ (HU.out.grown (Gr.alloc (Gr.refl _) _ _)) (lit_bs1 (w := w1) [2] (byt_one 2 (by omega)) (by simp))).mono ?_
  rw [beq_self_eq_true]
  rintro e w2 ⟨rfl, hg2⟩
  have G2 := Lib.hid (Gr.trans HG1.out (Gr.trans (Gr.alloc (Gr.refl _) _ _) hg2))
  clear hg2
  go_wp2_with fail
  go_ret
  exact ⟨rfl, G2.out⟩
end Go.Proofs.Ytjibmgdafpempaa
namespace Go.Proofs.Ytjibmgdafpempaa
open Go.RowKit

theorem own_type {w : World} {base : Nat} {e t : TypeId} {size : Nat} {v : Value} {n g : Nat} {us : List Value} {cur : Array Value} (h : w.ownsRow base e size v n us) (hg : w.heap[g]? = some (.cells cur t (0, 0))) (ht : t ≠ e) : v.ownBlock ≠ some g := fun hv => by
  obtain ⟨_, ⟨rfl, _⟩ | ⟨g', c, cur', rfl, hb, hgg, _⟩⟩ := h
  · cases hv
  · simp [Value.ownBlock] at hv
    subst hv
    rw [hg] at hgg
    simp at hgg
    exact ht hgg.2
/-- A row of ones under way: its columns, and its Data. -/
structure QAt (W0 W : World) (gq gd : Nat) (vc : Value) (cs : List Int) (S : Nat) (d : List Int) : Prop where
  blk : W.heap[gq]? = some (.cells #[vc, .slice (some ⟨gd, 0, none⟩) S S] 27 (0, 0))
  own : W.ownsRow W0.heap.size 3 1 vc cs.length (cs.map (Value.int .i64))
  data : Blk W gd d
  len : d.length = S
  low : W0.heap.size ≤ gq
  dlow : W0.heap.size ≤ gd
  gr : Gr W0 W
theorem QAt.ne {W0 W : World} {gq gd : Nat} {vc : Value} {cs : List Int} {S : Nat} {d : List Int} (h : QAt W0 W gq gd vc cs S d) : gq ≠ gd := fun e => by
  have h1 := h.blk
  have h2 := h.data
  unfold Blk at h2
  rw [e, h2] at h1
  simp at h1
theorem QAt.cell0 {W0 W : World} {gq gd : Nat} {vc : Value} {cs : List Int} {S : Nat} {d : List Int} (h : QAt W0 W gq gd vc cs S d) : W.cell? ⟨gq, 0, none⟩ = some vc := by
  rw [cell_of_row W gq 0 _ _ _ h.blk]
  rfl
theorem QAt.cell1 {W0 W : World} {gq gd : Nat} {vc : Value} {cs : List Int} {S : Nat} {d : List Int} (h : QAt W0 W gq gd vc cs S d) : W.cell? ⟨gq, 1, none⟩ = some (.slice (some ⟨gd, 0, none⟩) S S) := by
  rw [cell_of_row W gq 1 _ _ _ h.blk]
  rfl
theorem QAt.grown {W0 W W' : World} {gq gd : Nat} {vc : Value} {cs : List Int} {S : Nat} {d : List Int} (h : QAt W0 W gq gd vc cs S d) (hg : Gr W W') : QAt W0 W' gq gd vc cs S d :=
  ⟨keptRow hg h.blk, h.own.of_gr hg, h.data.grown hg, h.len, h.low, h.dlow, h.gr.trans hg⟩
/-- One column more. -/
theorem QAt.app {W0 W W' : World} {gq gd g cap : Nat} {vc : Value} {cs : List Int} {S : Nat} {d : List Int} {x : Int} (h : QAt W0 W gq gd vc cs S d)
    (ho : W'.ownsRow W0.heap.size 3 1 (.slice (some ⟨g, 0, none⟩) (cs.length + 1) cap) (cs.length + 1) ((cs ++ [x]).map (Value.int .i64))) (hg : W.grownBy W' vc.ownBlock) :
    QAt W0 (W'.setCell ⟨gq, 0, none⟩ (.slice (some ⟨g, 0, none⟩) (cs.length + 1) cap)) gq gd (.slice (some ⟨g, 0, none⟩) (cs.length + 1) cap) (cs ++ [x]) S d := by
  have hd := h.data
  unfold Blk at hd
  have hq' : W'.heap[gq]? = some (.cells #[vc, .slice (some ⟨gd, 0, none⟩) S S] 27 (0, 0)) := by
    rw [hg.block gq (Array.getElem?_eq_some_iff.1 h.blk).1 (fun e => own_type h.own h.blk (by decide) e.symm)]
    exact h.blk
  have hd' : W'.heap[gd]? = some (.cells (rowB d) 5 (0, 0)) := by
    rw [hg.block gd (Array.getElem?_eq_some_iff.1 hd).1 (fun e => own_type h.own hd (by decide) e.symm)]
    exact hd
  refine ⟨?_, ?_, ?_, h.len, h.low, h.dlow, Gr.setCell (Gr.append h.gr hg fun g hv => ownsRow_base h.own g hv) h.low _⟩
  · rw [heap_setCell_same _ _ _ _ _ _ hq']
    rfl
  · rw [List.length_append, List.length_singleton]
    obtain ⟨h0, ⟨he, _⟩ | ⟨g', c, cur, he, hb, hgg, h2⟩⟩ := ho
    · cases he
    · cases he
      refine ⟨h0, .inr ⟨g, cap, cur, rfl, hb, ?_, h2⟩⟩
      rw [heap_setCell_other _ _ _ _ (fun e => ?_)]
      · exact hgg
      · have e : g = gq := e
        rw [e, hq'] at hgg
        simp at hgg
  · unfold Blk
    rw [heap_setCell_other _ _ _ _ (fun e => h.ne (by exact e.symm))]
    exact hd'
theorem QAt.appCell {W0 W W' : World} {gq gd : Nat} {vc : Value} {cs : List Int} {S : Nat} {d : List Int} (h : QAt W0 W gq gd vc cs S d) (hg : W.grownBy W' vc.ownBlock) :
    W'.cell? ⟨gq, 0, none⟩ = some vc ∧ W'.frozen? ⟨gq, 0, none⟩ = false := by
  have hq' : W'.heap[gq]? = some (.cells #[vc, .slice (some ⟨gd, 0, none⟩) S S] 27 (0, 0)) := by
    rw [hg.block gq (Array.getElem?_eq_some_iff.1 h.blk).1 (fun e => own_type h.own h.blk (by decide) e.symm)]
    exact h.blk
  exact ⟨by rw [cell_of_row W' gq 0 _ _ _ hq']; rfl, frozen_of_row W' gq 0 _ _ hq'⟩
/-- One byte of its Data put. -/
theorem QAt.put {W0 W : World} {gq gd : Nat} {vc : Value} {cs : List Int} {S : Nat} {d : List Int} (h : QAt W0 W gq gd vc cs S d) (k : Nat) (x : Int) : QAt W0 (W.setCell ⟨gd, k, none⟩ (.int .u8 x)) gq gd vc cs S (d.set k x) := by
  have hd := h.data
  unfold Blk at hd
  refine ⟨?_, ?_, h.data.put k x, by rw [List.length_set]; exact h.len, h.low, h.dlow, Gr.setCell h.gr h.dlow _⟩
  · rw [heap_setCell_other _ _ _ _ h.ne]
    exact h.blk
  · obtain ⟨h0, ⟨he, hn⟩ | ⟨g', c, cur, he, hb, hgg, h2⟩⟩ := h.own
    · exact ⟨h0, .inl ⟨he, hn⟩⟩
    · refine ⟨h0, .inr ⟨g', c, cur, he, hb, ?_, h2⟩⟩
      rw [heap_setCell_other _ _ _ _ (fun e => ?_)]
      · exact hgg
      · have e : g' = gd := e
        rw [e, hd] at hgg
        simp at hgg
theorem rising_le {l : List Int} {c : Nat} (hr : Rising l) (hb : ∀ x ∈ l, 0 ≤ x ∧ x < (c : Int)) : l.length ≤ c := by
  have hm : ∀ i, i < l.length → l.getD i 0 ∈ l := fun i hi => by
    rw [List.getD_eq_getElem?_getD, List.getElem?_eq_getElem hi]
    exact List.getElem_mem _
  have h : ∀ i, i < l.length → (i : Int) ≤ l.getD i 0 := fun i => by
    induction i with
    | zero => intro hi; exact (hb _ (hm 0 hi)).1
    | succ i ih =>
      intro hi
      have := ih (by omega)
      have := hr i hi
      omega
  by_cases h0 : 0 < l.length
  · have h1 := h (l.length - 1) (by omega)
    have h2 := (hb _ (hm (l.length - 1) (by omega))).2
    omega
  · omega
theorem Bs.cellQ {w : World} {a : Addr} {m c : Nat} {l : List Int} (h : Bs w (.slice (some a) m c) l) {i : Nat} (hi : i < m) : w.cell? (a.add i) = some (.int .u8 (l.getD i 0)) := by
  obtain ⟨_, oa', c', he, h2, h3, h4, h5⟩ := h
  obtain ⟨rfl, rfl, rfl⟩ : some a = oa' ∧ m = l.length ∧ c = c' := by simpa using he
  exact h5 a rfl i hi
theorem vec_noughtsQ (S : Nat) : vec (List.replicate S 0) = L.vzero := funext fun j => by
  show fb ((List.replicate S 0).getD j 0) = L.zero
  rw [replicate_getD, fb_zero]
theorem Gr.drewQ {w w' : World} (h : Gr w w') : Gr w w'.drew := h
theorem sumL_bytQ {x y : List Int} (hx : ∀ z ∈ x, Byt z) (hy : ∀ z ∈ y, Byt z) : ∀ z ∈ sumL x y, Byt z := lst_byt fun i _ => addZ_byt (getD_byt hx i) (getD_byt hy i)
theorem rising_snoc {l : List Int} {c : Nat} (hr : Rising l) (hb : ∀ x ∈ l, 0 ≤ x ∧ x < (c : Int)) : Rising (l ++ [(c : Int)]) := fun i hi => by
  rw [List.length_append, List.length_singleton] at hi
  rw [List.getD_eq_getElem?_getD, List.getD_eq_getElem?_getD, List.getElem?_append_left (by omega)]
  by_cases e : i + 1 < l.length
  · rw [List.getElem?_append_left e, ← List.getD_eq_getElem?_getD, ← List.getD_eq_getElem?_getD]
    exact hr i e
  · have e2 : i + 1 = l.length := by omega
    rw [List.getElem?_append_right (by omega), e2, Nat.sub_self, List.getElem?_eq_getElem (by omega)]
    exact (hb _ (List.getElem_mem _)).2
/-- The first k bytes added, the others not yet. -/
def mixL (S : Nat) (d v : List Int) (k : Nat) : List Int := lst S fun j => if j < k then addZ (d.getD j 0) (v.getD j 0) else d.getD j 0
theorem mixL_zero {S : Nat} {d v : List Int} (h : d.length = S) : mixL S d v 0 = d := by
  subst h
  unfold mixL
  rw [lst_congr _ _ (fun j => d.getD j 0) fun j _ => if_neg (by omega), lst_self]
theorem mixL_get {S : Nat} {d v : List Int} {k : Nat} (h : k < S) : (mixL S d v k).getD k 0 = d.getD k 0 := by
  unfold mixL
  rw [lst_getD _ _ _ h, if_neg (by omega)]
theorem mixL_set {S : Nat} {d v : List Int} {k : Nat} (_ : k < S) : (mixL S d v k).set k (addZ (d.getD k 0) (v.getD k 0)) = mixL S d v (k + 1) := by
  unfold mixL
  rw [lst_set]
  refine lst_congr _ _ _ fun j _ => ?_
  show (if j = k then _ else if j < k then _ else _) = if j < k + 1 then _ else _
  by_cases e : j = k
  · subst e
    rw [if_pos rfl, if_pos (by omega)]
  · rw [if_neg e]
    by_cases e2 : j < k
    · rw [if_pos e2, if_pos (by omega)]
    · rw [if_neg e2, if_neg (by omega)]
theorem mixL_all {S : Nat} {d v : List Int} (_ : d.length = S) (h2 : v.length = S) : mixL S d v S = sumL v d := by
  unfold mixL sumL
  rw [h2]
  exact lst_congr _ _ _ fun j hj => by rw [if_pos hj, addZ_comm]
/-- A row of ones as the law makes it: it holds of the values. -/
def GoodE (N S : Nat) (vs : List (List Int)) (q : Eqn) : Prop := MayRow (N : Int) q.c ∧ q.d.length = S ∧ (∀ z ∈ q.d, Byt z) ∧ vec q.d = PL.tot VT (valV vs) (q.c.map Int.toNat)
set_option maxRecDepth 100000 in
set_option maxHeartbeats 3200000 in
theorem eqRows_any (vl vv : Value) (l : List Int) (vs : List (List Int)) (N S M : Nat) (w : World) (hl : Zs w vl l) (hv : Bss w vv vs) (hN : 0 < N) (hN2 : N ≤ 64) (hvl : vs.length = N) (hw : Wide S vs) (hS : S ≤ 100) (hM : M ≤ 100) :
    Calls Try.prog 9 #[vl, .int .i64 (N : Int), vv, .int .i64 (M : Int)] w fun e w' => ∃ v, e = .returned v ∧ ∃ rs, EqsO w.heap.size w' v rs ∧ Gr w w' ∧ rs.length ≤ M ∧ ∀ q ∈ rs, GoodE N S vs q := by
  obtain ⟨ol, cl, rfl⟩ := hl.form
  obtain ⟨ov, mv, cv, rfl⟩ := hv.form3
  have hmv : mv = vs.length := hv.len3
  obtain ⟨n, hn⟩ : ∃ n, l.length = n := ⟨_, rfl⟩
  rw [hvl] at hmv
  subst hmv
  rw [hn]
  have HL := Lib.hid hl
  rw [hn] at HL
  have HV := Lib.hid hv
  have HW := Lib.hid hw
  have HVL := Lib.hid hvl
  have hmk := make22 S S (by omega) (by omega)
  clear hl hv hw hvl hn
  go_enter Try.func9, Try.ntmps9
  go_wp2_with fail
  go_loopw [9, 10] (fun ov iv W => ∃ (i : Nat) (rs : List Eqn), i ≤ M ∧ iv = .int .i64 i ∧ EqsO w.heap.size W ov rs ∧ Gr w W ∧ rs.length = i ∧ ∀ q ∈ rs, GoodE mv S vs q) (fun _ iv _ => M - (intOf iv).toNat)
  case atStart => exact ⟨0, [], by omega, rfl, EqsO.nil _ _, Gr.refl _, rfl, fun q hq => by cases hq⟩
  case round =>
    obtain ⟨wo, hwo⟩ : ∃ x, x = wr := ⟨_, rfl⟩
    subst hwo
    obtain ⟨i, rs, hi, rfl, ho, hg, hrl, hq⟩ := hrel
    have HO := Lib.hid ho
    have HG := Lib.hid hg
    have HRL := Lib.hid hrl
    have HQ := Lib.hid hq
    clear ho hg hrl hq
    by_cases h1 : i < n
    · by_cases h2 : i < M
      · obtain ⟨ad, rfl⟩ := Bss.addr HV.out hN
        obtain ⟨al, rfl⟩ := Zs.addr HL.out (by omega)
        obtain ⟨u0, q0, hu0⟩ := Bss.rowAt (Bss.grown HV.out HG.out) (i := 0) hN
        rw [add_nought] at q0
        obtain ⟨o0, m0, c0, rfl⟩ := Bs.form4 hu0
        have hm0 : m0 = S := by
          have := hu0.parts.1
          have := (HW.out (vs.getD 0 []) (by rw [List.getD_eq_getElem?_getD, List.getElem?_eq_getElem (by rw [HVL.out]; exact hN)]; exact List.getElem_mem _)).1
          omega
        subst hm0
        have HGN : Hid ((mv : Int) > 0) := Lib.hid (by omega)
        have hgn : decide ((0 : Int) < mv) = true := decide_eq_true (by omega)
        have b1 : (i : Int) < n := by omega
        have b2 : (i : Int) < M := by omega
        clear hu0
        have Q0 : Hid (QAt wo ((wo.alloc (.cells (rowB (List.replicate m0 0)) 5)).alloc (.cells #[.slice none 0 0, .slice (some ⟨wo.heap.size, 0, none⟩) m0 m0] 27)) (wo.heap.size + 1) wo.heap.size (.slice none 0 0) [] m0 (List.replicate m0 0)) := Lib.hid (by
          have hz : (wo.alloc (.cells (rowB (List.replicate m0 0)) 5)).heap.size = wo.heap.size + 1 := by simp
          refine ⟨by rw [← hz]; exact heap_alloc_new _ _, World.ownsRow_nil _ _ _ _, ?_, by simp, by omega, Nat.le_refl _, Gr.alloc (Gr.alloc (Gr.refl _) _ _) _ _⟩
          exact Blk.grown (heap_alloc_new _ _) (Gr.alloc (Gr.refl _) _ _))
        go_wp2_with fail
        clear hmk
        generalize ((wo.alloc (.cells (rowB (List.replicate m0 0)) 5)).alloc (.cells #[.slice none 0 0, .slice (some ⟨wo.heap.size, 0, none⟩) m0 m0] 27)) = W0 at *
        generalize wo.heap.size + 1 = gq at *
        generalize wo.heap.size = gd at *
        go_loopw [12] (fun cv W => ∃ (c : Nat) (cs d : List Int) (vc : Value), c ≤ mv ∧ cv = .int .i64 c ∧ QAt wo W gq gd vc cs m0 d ∧ (∀ x ∈ cs, 0 ≤ x ∧ x < (c : Int)) ∧ Rising cs ∧ (∀ z ∈ d, Byt z) ∧ vec d = PL.tot VT (valV vs) (cs.map Int.toNat)) (fun cv _ => mv - (intOf cv).toNat)
        case atStart => exact ⟨0, [], List.replicate m0 0, _, by omega, rfl, Q0.out, (fun x hx => by cases hx), (fun i hi => by simp at hi), (fun z hz => by rw [List.eq_of_mem_replicate hz]; exact ⟨by omega, by omega⟩), vec_noughtsQ m0⟩
        case round =>
          clear Q0
          obtain ⟨wi, hwi⟩ : ∃ x, x = wr := ⟨_, rfl⟩
          subst hwi
          obtain ⟨c, cs, d, vc, hc, rfl, hq, hcb, hcr, hdb, hdv⟩ := hrel
          have QQ := Lib.hid hq
          have HCB := Lib.hid hcb
          have HCR := Lib.hid hcr
          have HDB := Lib.hid hdb
          have HDV := Lib.hid hdv
          clear hq hcb hcr hdb hdv
          by_cases hlt : c < mv
          · have ql := Zs.cellAt (HL.out.grown (Gr.trans HG.out QQ.out.gr)) (i := i) h1
            generalize l.getD i 0 = x at ql
            go_upto_region 9 with fail
            go_cut [59] (fun bv wx => wx = wi ∧ ∃ t : Bool, bv = .bool t)
            case first =>
              go_wp2_with fail
              all_goals
                go_meet
                exact ⟨rfl, _, rfl⟩
            case rest =>
              obtain ⟨hwc, t, rfl⟩ := hcut
              clear ql
              subst hwc
              cases t
              · go_wp2_with fail
                exact ⟨⟨c + 1, cs, d, vc, by omega, by go_num, QQ.out, fun x hx => by have := HCB.out x hx; omega, HCR.out, HDB.out, HDV.out⟩, by simp [intOf]; omega⟩
              · obtain ⟨oc, cc, rfl⟩ := ownsRow_form'' QQ.out.own
                obtain ⟨kc, hkc⟩ : ∃ k, cs.length = k := ⟨_, rfl⟩
                have hkb : kc ≤ 1000 := by
                  have := rising_le (HCR.out) HCB.out
                  omega
                rw [hkc] at QQ
                have HKC := Lib.hid hkc
                have c0 := QQ.out.cell0
                clear hkc
                go_wp2_with (at_builtin; refine wpList_append_int rfl _ _ rfl wo.heap.size (.slice oc kc cc) kc cs rfl (by have h := QQ.out.own; rw [HKC.out] at h; exact h.of_gr (Gr.alloc (Gr.refl _) _ _)) wc.heap.size (c : Int) rfl (by rw [cell_of_row _ _ 0 _ _ _ (heap_alloc_new wc _)]; rfl) (by omega) (by have := QQ.out.gr.size; simp; omega) ?_; intro g3 cap3 w3 h1 h2 h3; have AC := (QQ.out.grown (Gr.alloc (Gr.refl _) _ _)).appCell h2; have k0 := AC.1; have k0f := AC.2; have Q3 := Lib.hid ((QQ.out.grown (Gr.alloc (Gr.refl _) _ _)).app (by rw [HKC.out]; exact h1) h2); have k1 := Q3.out.cell1; rw [HKC.out] at Q3 k1; clear AC h1 h2 h3)
                have hvw := HW.out (vs.getD c []) (by rw [List.getD_eq_getElem?_getD, List.getElem?_eq_getElem (by rw [HVL.out]; exact hlt)]; exact List.getElem_mem _)
                have hvc : valV vs c = vec (vs.getD c []) := rfl
                obtain ⟨V, hV⟩ : ∃ V, vs.getD c [] = V := ⟨_, rfl⟩
                rw [hV] at hvw hvc
                have HVW := Lib.hid hvw
                have HVC := Lib.hid hvc
                have HVE := Lib.hid hV
                clear hV hvw hvc
                clear k0 k0f c0
                have Q3' : Hid (QAt wo (w3.setCell ⟨gq, 0, none⟩ (.slice (some ⟨g3, 0, none⟩) (kc + 1) cap3)) gq gd (.slice (some ⟨g3, 0, none⟩) (kc + 1) cap3) (cs ++ [(c : Int)]) m0 (mixL m0 d V 0)) := Lib.hid (by rw [mixL_zero QQ.out.len]; exact Q3.out)
                have HDL := Lib.hid QQ.out.len
                clear Q3 k1 QQ
                generalize w3.setCell ⟨gq, 0, none⟩ (.slice (some ⟨g3, 0, none⟩) (kc + 1) cap3) = w4 at *
                go_loopw [69] (fun kv W => ∃ k : Nat, k ≤ m0 ∧ kv = .int .i64 k ∧ QAt wo W gq gd (.slice (some ⟨g3, 0, none⟩) (kc + 1) cap3) (cs ++ [(c : Int)]) m0 (mixL m0 d V k)) (fun kv _ => m0 - (intOf kv).toNat)
                case atStart => exact ⟨0, by omega, rfl, Q3'.out⟩
                case round =>
                  clear Q3'
                  obtain ⟨wk, hwk⟩ : ∃ x, x = wr := ⟨_, rfl⟩
                  subst hwk
                  obtain ⟨k, hk, rfl, hq⟩ := hrel
                  have QQ := Lib.hid hq
                  clear hq
                  by_cases hkt : k < m0
                  · have hG := Gr.trans HG.out QQ.out.gr
                    obtain ⟨uV, q1, huV⟩ := Bss.rowAt (Bss.grown HV.out hG) (i := c) hlt
                    rw [HVE.out] at huV
                    obtain ⟨oV, mV, cV, rfl⟩ := Bs.form4 huV
                    have hmV : mV = m0 := by
                      have := huV.parts.1
                      have := HVW.out.1
                      omega
                    subst hmV
                    obtain ⟨aV, rfl⟩ := Bs.addr huV (by omega)
                    have q2 := Bs.cellQ huV (i := k) hkt
                    have q3 := QQ.out.cell1
                    have q4 := QQ.out.data.cell k (by rw [QQ.out.len]; exact hkt)
                    rw [mixL_get hkt] at q4
                    have q5 := QQ.out.data.frz k
                    have hb1 := getD_byt HDB.out k
                    have hb2 := getD_byt HVW.out.2 k
                    have hx := xorZ _ _ hb1 hb2
                    have hst := mixL_set (d := d) (v := V) hkt
                    have P := QQ.out.put k (addZ (d.getD k 0) (V.getD k 0))
                    rw [hst] at P
                    have HP := Lib.hid P
                    have HX := Lib.hid hx
                    clear P hst hb1 hb2 hx huV hG
                    generalize addZ (d.getD k 0) (V.getD k 0) = z at *
                    generalize d.getD k 0 = x at *
                    generalize V.getD k 0 = y at *
                    go_wp2_with fail
                    go_region
                    rw [HX.out]
                    go_wp2_with fail
                    exact ⟨⟨k + 1, by omega, by go_num, HP.out.grown (Gr.refl _).drewQ⟩, by simp [intOf]; omega⟩
                  · obtain rfl : k = m0 := by omega
                    go_wp2_with fail
                    have hall := mixL_all (d := d) (v := V) HDL.out HVW.out.1
                    refine ⟨⟨c + 1, cs ++ [(c : Int)], mixL k d V k, _, by omega, by go_num, QQ.out, fun x hx => ?_, rising_snoc HCR.out HCB.out, ?_, ?_⟩, by simp [intOf]; omega⟩
                    · rcases List.mem_append.1 hx with hx | hx
                      · have := HCB.out x hx
                        omega
                      · obtain rfl : x = c := by simpa using hx
                        omega
                    · rw [hall]
                      exact sumL_bytQ HVW.out.2 HDB.out
                    · rw [hall, vec_sum HVW.out.2 HDB.out (by rw [HVW.out.1, HDL.out]), List.map_append, PL.tot_append, HDV.out, ← HVC.out]
                      show L.vadd (valV vs c) _ = L.vadd _ (PL.tot VT (valV vs) [Int.toNat (c : Int)])
                      rw [Int.toNat_natCast, PL.tot_cons, PL.tot_nil]
                      show _ = L.vadd _ (L.vadd (valV vs c) L.vzero)
                      rw [L.vadd_comm (valV vs c) L.vzero, L.vzero_add, L.vadd_comm]
          · obtain rfl : c = mv := by omega
            have c0 := QQ.out.cell0
            have c1 := QQ.out.cell1
            obtain ⟨oc, cc, rfl⟩ := ownsRow_form'' QQ.out.own
            obtain ⟨kc, hkc⟩ : ∃ k, cs.length = k := ⟨_, rfl⟩
            rw [hkc] at c0
            have HKC := Lib.hid hkc
            clear hkc
            obtain ⟨o9, c9, rfl⟩ := HO.out.form
            rw [HRL.out] at HO ⊢
            have hzc : Zs wi (.slice oc kc cc) cs := by
              have h := owns_zs QQ.out.own rfl (fun x hx => by have := HCB.out x hx; exact ⟨by omega, by omega⟩)
              rw [HKC.out] at h
              exact h
            have hin : InInts wi (.slice oc kc cc) := by
              have h := owns_inInts QQ.out.own
              rw [HKC.out] at h
              exact h
            have hbd : Bs wi (.slice (some ⟨gd, 0, none⟩) m0 m0) d := by
              have h := QQ.out.data.bs d m0 (Nat.le_refl _) (by rw [QQ.out.len]; exact Nat.le_refl _) (by omega) HDB.out fun _ _ => rfl
              rw [QQ.out.len] at h
              exact h
            have EV : Hid (EqVal w.heap.size (wi.alloc (.cells #[.slice oc kc cc, .slice (some ⟨gd, 0, none⟩) m0 m0] 27)) (.slice oc kc cc) (.slice (some ⟨gd, 0, none⟩) m0 m0) ⟨cs, d⟩) := Lib.hid (by
              have gA : Gr wi (wi.alloc (.cells #[.slice oc kc cc, .slice (some ⟨gd, 0, none⟩) m0 m0] 27)) := Gr.alloc (Gr.refl _) _ _
              have z := Rz.gr (base := w.heap.size) hzc (fun a n c e h => .inr (hin a n c e h)) gA
              have r := Rb.gr (base := w.heap.size) hbd (fun a n c e h => .inr (by cases e; exact ⟨_, QQ.out.data⟩)) gA
              exact ⟨z.1, z.2, r.1, r.2⟩)
            have GW := Lib.hid (Gr.trans HG.out QQ.out.gr)
            have OE : Hid (EqsO w.heap.size (wi.alloc (.cells #[.slice oc kc cc, .slice (some ⟨gd, 0, none⟩) m0 m0] 27)) (.slice o9 i c9) rs) := Lib.hid (HO.out.grown (Gr.trans QQ.out.gr (Gr.alloc (Gr.refl _) _ _)))
            have HGE : Hid (GoodE c m0 vs ⟨cs, d⟩) := Lib.hid ⟨⟨HCB.out, HCR.out⟩, QQ.out.len, HDB.out, HDV.out⟩
            clear hzc hin hbd
            go_wp2_with (at_builtin; refine wpList_append_eq rfl _ _ rfl w.heap.size (.slice o9 i c9) rs rfl OE.out wi.heap.size (.slice oc kc cc) (.slice (some ⟨gd, 0, none⟩) m0 m0) _ rfl (by rw [cell_of_row _ _ 0 _ _ _ (heap_alloc_new _ _)]; rfl) (by rw [cell_of_row _ _ 1 _ _ _ (heap_alloc_new _ _)]; rfl) EV.out (by have := HRL.out; omega) (by have := GW.out.size; simp; omega) ?_; intro v5 w5 h5 hg5 hgr5 hn5; have L5 := Lib.hid h5; have G5 := Lib.hid (hg5 w (Gr.trans GW.out (Gr.alloc (Gr.refl _) _ _)) (Nat.le_refl _)); clear h5 hg5 hgr5 hn5)
            refine ⟨⟨i + 1, rs ++ [⟨cs, d⟩], by omega, by go_num, L5.out, G5.out, by rw [List.length_append, HRL.out]; rfl, fun q hq => ?_⟩, by simp [intOf]; omega⟩
            rcases List.mem_append.1 hq with hq | hq
            · exact HQ.out q hq
            · obtain rfl : q = ⟨cs, d⟩ := by simpa using hq
              exact HGE.out
      · have b2 : ¬ (i : Int) < M := by omega
        have b1 : (i : Int) < n := by omega
        go_wp2_with fail
        go_ret
        exact ⟨_, rfl, rs, HO.out, HG.out, by rw [HRL.out]; exact hi, HQ.out⟩
    · have b1 : ¬ (i : Int) < n := by omega
      go_wp2_with fail
      go_ret
      exact ⟨_, rfl, rs, HO.out, HG.out, by rw [HRL.out]; exact hi, HQ.out⟩
end Go.Proofs.Ytjibmgdafpempaa
