/-
  Law SystemRows, walked.
-/
import Derived.Test.YtedobcajbelcpaaSystemGrowsW
import Derived.Test.YtedobcajbelcpaaMgc
import Derived.Deep.CutBlock
namespace Go.Proofs.Ytedobcajbelcpaa
open Go.RowKit

/-- The first n numbers, each modulo q. -/
def modL (l : List Int) (q : Int) (n : Nat) : List Int := (l.take n).map fun x => x % q
theorem modL_length (l : List Int) (q : Int) (n : Nat) : (modL l q n).length = min n l.length := by simp [modL]
theorem modL_succ {l : List Int} {n : Nat} (q : Int) (h : n < l.length) : modL l q (n + 1) = modL l q n ++ [l.getD n 0 % q] := by
  unfold modL
  rw [List.take_add_one, List.getElem?_eq_getElem h, List.map_append, List.getD_eq_getElem?_getD, List.getElem?_eq_getElem h]
  rfl
theorem modL_rng {l : List Int} {q : Int} {n : Nat} (hq : 0 < q) : ∀ x ∈ modL l q n, 0 ≤ x ∧ x < q := fun x hx => by
  obtain ⟨y, _, rfl⟩ := List.mem_map.1 hx
  exact ⟨Int.emod_nonneg _ (by omega), Int.emod_lt_of_pos _ hq⟩
theorem matP_all {K H : Nat} {S : Int} (hm : MayP K H S) (seed : Nat) (l : List Int) (h : ∀ x ∈ l, MayI x) : matP K H S seed l = ahead K H ++ l.map (rowP K H S seed) := by
  rw [matP_in hm]
  congr 2
  exact List.filter_eq_self.2 fun x hx => decide_eq_true (h x hx)
theorem Bss.takeN {w : World} {oa : Option Addr} {m c : Nat} {X : List (List Int)} (h : Bss w (.slice oa m c) X) (n : Nat) (hn : n ≤ m) : Bss w (.slice oa n c) (X.take n) := by
  obtain ⟨oa', c', he, _⟩ := id h
  have hm : X.length = m := by
    simp at he
    omega
  exact h.take hm n hn
set_option maxRecDepth 100000 in
set_option maxHeartbeats 3200000 in
theorem systemRows_walk (R : MatOk) (P : PreOk) (T : LtOk) (O : SystemOk) (a b c sd : Int) (vl : Value) (l : List Int) (w : World) (hz : Zs w vl l) :
    Calls Try.prog 5 #[.int .i64 a, .int .i64 b, .int .i64 c, .int .u64 sd, vl] w fun e w' => e = .returned (.bool true) ∧ Gr w w' := by
  have HO := Lib.hid O
  have HPR := Lib.hid P
  have HT := Lib.hid T
  have HR := Lib.hid R
  have HZ := Lib.hid hz
  obtain ⟨n, hn⟩ : ∃ n, l.length = n := ⟨_, rfl⟩
  obtain ⟨hzi, ol, cl, rfl, z2, z3, z4, z5⟩ := hz
  rw [hn] at z5 HZ ⊢
  have HLN := Lib.hid hn
  have HC := Lib.hid z5
  have hoa : n = 0 ∨ ∃ a, ol = some a := by
    cases ol with
    | none => exact .inl (by have := z4 rfl; omega)
    | some a => exact .inr ⟨a, rfl⟩
  clear O P T R hzi z2 z3 z4 z5 hn
  obtain ⟨s0, hs0, hs1⟩ : ∃ s : Nat, sd % 4294967296 = s ∧ s < 4294967296 := ⟨(sd % 4294967296).toNat, by omega, by omega⟩
  have hw32 : IntKind.u32.wrap sd = (s0 : Int) := by rw [← hs0]; simp [IntKind.wrap, IntKind.bits, IntKind.signed]
  obtain ⟨K, hK, K1, K2⟩ : ∃ K : Nat, 1 + a % 16 = K ∧ 1 ≤ K ∧ K ≤ 16 := ⟨(1 + a % 16).toNat, by omega, by omega, by omega⟩
  obtain ⟨H, hH, H1, H2⟩ : ∃ K : Nat, 1 + b % 4 = K ∧ 1 ≤ K ∧ K ≤ 4 := ⟨(1 + b % 4).toNat, by omega, by omega, by omega⟩
  obtain ⟨S, hS, S1, S2⟩ : ∃ K : Nat, 1 + c % 24 = K ∧ 1 ≤ K ∧ K ≤ 24 := ⟨(1 + c % 24).toNat, by omega, by omega, by omega⟩
  have hm : MayP K H S := by unfold MayP; omega
  have HM := Lib.hid hm
  clear hm
  go_enter Try.func5, Try.ntmps5
  go_wp2_with fail
  refine (params_any a b c _).mono ?_
  rintro e w1 ⟨rfl, hg⟩
  rw [hK, hH, hS]
  clear hK hH hS
  go_upto_block 0 with fail
  have HP : Hid (Par (w1.alloc (.cells #[.int .i64 (K : Int), .int .i64 (H : Int), .int .i64 (S : Int)] 25)) w1.heap.size K H S) := Lib.hid (heap_alloc_new _ _)
  have HG : Hid (Gr w (w1.alloc (.cells #[.int .i64 (K : Int), .int .i64 (H : Int), .int .i64 (S : Int)] 25))) := Lib.hid (Gr.alloc hg _ _)
  clear hg
  generalize w1.alloc (.cells #[.int .i64 (K : Int), .int .i64 (H : Int), .int .i64 (S : Int)] 25) = W0 at *
  generalize w1.heap.size = gp at *
  go_cut [13] (fun s wx => ∃ o c, s = .slice o (modL l 60 20).length c ∧ Zs wx s (modL l 60 20) ∧ Gr W0 wx)
  case first =>
    go_wp2_with fail
    go_loopw [13, 14] (fun lv iv W => ∃ i : Nat, i ≤ n ∧ i ≤ 20 ∧ iv = .int .i64 i ∧ W.ownsRow W0.heap.size 3 1 lv i ((modL l 60 i).map (Value.int .i64)) ∧ Gr W0 W) (fun _ iv _ => n - (intOf iv).toNat)
    case atStart => exact ⟨0, by omega, by omega, rfl, World.ownsRow_nil _ _ _ _, Gr.refl _⟩
    case round =>
      obtain ⟨wo, hwo⟩ : ∃ x, x = wr := ⟨_, rfl⟩
      subst hwo
      obtain ⟨i, hin, hi20, rfl, ho, hg⟩ := hrel
      have HOW := Lib.hid ho
      have HGO := Lib.hid hg
      obtain ⟨oo, co, rfl⟩ := ownsRow_form'' ho
      clear ho hg
      have hend : i = n ∨ i = 20 → ∃ o c, Value.slice oo i co = .slice o (modL l 60 20).length c ∧ Zs wo (.slice oo i co) (modL l 60 20) ∧ Gr W0 wo := fun h => by
        have e : modL l 60 20 = modL l 60 i := by
          rcases h with h | h
          · unfold modL
            rw [List.take_of_length_le (by rw [HLN.out]; omega), List.take_of_length_le (by rw [HLN.out]; omega)]
          · rw [h]
        have el : (modL l 60 i).length = i := by rw [modL_length, HLN.out]; omega
        rw [e, el]
        exact ⟨oo, co, rfl, owns_zs HOW.out el (fun x hx => by have := modL_rng (l := l) (n := i) (q := 60) (by omega) x hx; exact ⟨by omega, by omega⟩), HGO.out⟩
      by_cases hlt : i < n
      · by_cases hl2 : i < 20
        · obtain ⟨ad, rfl⟩ : ∃ a, ol = some a := by
            rcases hoa with c1 | c1
            · omega
            · exact c1
          have q1 := cell_grown (Gr.trans HG.out HGO.out) (HC.out ad rfl i hlt)
          obtain ⟨x, hx⟩ : ∃ x, l.getD i 0 = x := ⟨_, rfl⟩
          rw [hx] at q1
          have HS : Hid (modL l 60 (i + 1) = modL l 60 i ++ [x % 60]) := Lib.hid (by rw [modL_succ 60 (by rw [HLN.out]; exact hlt), hx])
          clear hx
          go_wp2_with (first
            | (go_at_call 9; refine (within_any x 60 (by omega) (by omega) _).mono ?_; rintro e w' ⟨rfl, rfl⟩)
            | (at_builtin; refine wpList_append_zs rfl _ _ rfl W0.heap.size (.slice oo i co) i (modL l 60 i) rfl (HOW.out.of_gr (Gr.alloc (Gr.refl _) _ _)) _ 1 1 [x % 60] rfl (one_zs _ ⟨by omega, by omega⟩) (by omega) (by have := HGO.out.size; simp; omega) ?_; intro v2 w2 hown hgrow; have O2 := Lib.hid hown; have G2 := Lib.hid (gr_by_own (Gr.alloc HGO.out _ _) hgrow (HOW.out.of_gr (Gr.alloc (Gr.refl _) _ _)) (Nat.le_refl _)); clear hown hgrow))
          exact ⟨⟨i + 1, by omega, by omega, by go_num, by rw [HS.out]; exact O2.out, G2.out⟩, by simp [intOf]; omega⟩
        · go_wp2_with fail
          go_meet
          exact hend (by omega)
      · go_wp2_with fail
        go_meet
        exact hend (by omega)
  case rest =>
    obtain ⟨oj, cj, rfl, hzj, hgj⟩ := hcut
    obtain ⟨J, hJ⟩ : ∃ J, modL l 60 20 = J := ⟨_, rfl⟩
    have hJ20 : J.length ≤ 20 := by rw [← hJ, modL_length]; omega
    have HJM : Hid (∀ x ∈ J, MayI x) := Lib.hid (by
      rw [← hJ]
      intro x hx
      have := modL_rng (l := l) (n := 20) (q := 60) (by omega) x hx
      unfold MayI
      omega)
    rw [hJ] at hzj ⊢
    obtain ⟨m, hn⟩ : ∃ m, J.length = m := ⟨_, rfl⟩
    rw [hn] at hJ20 hzj ⊢
    have HJN := Lib.hid hn
    have HZJ := Lib.hid hzj
    have HPC := Lib.hid (HP.out.grown hgj)
    have HGC := Lib.hid (Gr.trans HG.out hgj)
    have HMT : Hid (matP K H S s0 J = ahead K H ++ J.map (rowP K H S s0)) := Lib.hid (matP_all HM.out s0 J HJM.out)
    obtain ⟨M, hM⟩ : ∃ M, matP K H S s0 J = M := ⟨_, rfl⟩
    obtain ⟨q, hq⟩ : ∃ q, H + m = q := ⟨_, rfl⟩
    have hMl : M.length = q := by rw [← hM, HMT.out, List.length_append, ahead_length, List.length_map, hn, hq]
    have HMQ := Lib.hid hM
    have HML := Lib.hid hMl
    clear hJ hn hzj hgj HP HG hM hMl
    have c0 := HPC.out.cell0
    have c1 := HPC.out.cell1
    have c2 := HPC.out.cell2
    go_wp2_with fail
    refine (HO.out.matrix K H S s0 _ J _ hs1 HZJ.out (by rw [HJN.out]; omega)).mono ?_
    rw [HMQ.out]
    rintro e w3 ⟨u, rfl, hb3, hg3⟩
    have HB3 := Lib.hid hb3
    obtain ⟨am, cm, rfl, p1, p2, p3⟩ := Bss.at hb3 (by rw [HML.out]; omega)
    rw [HML.out] at HB3 p1 ⊢
    have HZ3 := Lib.hid (HZJ.out.grown hg3)
    have HP3 := Lib.hid (HPC.out.grown hg3)
    have HG3 := Lib.hid (Gr.trans HGC.out hg3)
    clear hb3 p3 hg3 c0 c1 c2 HZJ HPC HGC
    have c0 := HP3.out.cell0
    have c1 := HP3.out.cell1
    have c2 := HP3.out.cell2
    have hqs : (H : Int) + (m : Int) = (q : Int) := by omega
    have hqw : IntKind.i64.wrap (q : Int) = q := by simp [IntKind.wrap, IntKind.bits, IntKind.signed]; omega
    have hb1 : (H : Int) ≤ q := by omega
    have hb2 : (H : Int) ≤ cm := by omega
    have HBT := Lib.hid (HB3.out.takeN H (by omega))
    have HTK : Hid (M.take H = aheadP K H S) := Lib.hid (by rw [← HMQ.out, HMT.out, aheadP_in HM.out, List.take_left' (ahead_length K H)])
    rw [HTK.out] at HBT
    go_wp2_with fail
    go_region_held3 (fun W => W.cell? ⟨gp, 0, none⟩ = some (.int .i64 (K : Int)) ∧ W.cell? ⟨gp, 1, none⟩ = some (.int .i64 (H : Int)) ∧ W.cell? ⟨gp, 2, none⟩ = some (.int .i64 (S : Int))) (first | exact ⟨k20, k21, k22⟩ | exact ⟨k10, k11, k12⟩ | go_keep)
        (first
          | (go_at_call 15; refine (rows_any _ _ (aheadP K H S) (aheadP K H S) _ (by exact HBT.out.grown V1.out) B1.out).mono ?_; rw [beq_self_eq_true]; rintro e v2 ⟨rfl, hg2⟩; have k20 := cell_grown hg2 (by exact k10); have k21 := cell_grown hg2 (by exact k11); have k22 := cell_grown hg2 (by exact k12); have V2 : Hid (Gr v1 v2) := Lib.hid hg2)
          | (go_at_call 16; refine (HPR.out.rows K H S _).mono ?_; rintro e v1 ⟨y1, rfl, hr1, hg1⟩; have k10 := cell_grown hg1 (by exact c0); have k11 := cell_grown hg1 (by exact c1); have k12 := cell_grown hg1 (by exact c2); obtain ⟨o1, m1, d1, rfl⟩ := hr1.bss.form3; have B1 := Lib.hid hr1.bss; have V1 : Hid (Gr w3 v1) := Lib.hid (by exact hg1); clear hr1))
    have V2' := Lib.hid (Gr.trans V1.out V2.out)
    have HZ5 := Lib.hid (HZ3.out.grown V2'.out)
    have HB5 := Lib.hid (HB3.out.grown V2'.out)
    have HP5 := Lib.hid (HP3.out.grown V2'.out)
    have HG5 := Lib.hid (Gr.trans HG3.out V2'.out)
    clear V1 V2 V2' HZ3 HB3 HP3 HG3 HBT B1 c0 c1 c2 k10 k11 k12 k20 k21 k22
    go_wp2_with fail
    go_loopw [66] (fun iv W => ∃ i : Nat, i ≤ m ∧ iv = .int .i64 i ∧ Gr w W ∧ Par W gp K H S ∧ Zs W (.slice oj m cj) J ∧ Bss W (.slice (some am) q cm) M) (fun iv _ => m - (intOf iv).toNat)
    case atStart => exact ⟨0, by omega, rfl, HG5.out, HP5.out, HZ5.out, HB5.out⟩
    case round =>
      clear HG5 HP5 HZ5 HB5
      obtain ⟨wo, hwo⟩ : ∃ x, x = wr := ⟨_, rfl⟩
      subst hwo
      obtain ⟨i, him, rfl, hg, hp, hz, hb⟩ := hrel
      have HGO := Lib.hid hg
      have HPO := Lib.hid hp
      have HZO := Lib.hid hz
      have HBO := Lib.hid hb
      clear hg hp hz hb
      have c0 := HPO.out.cell0
      have c1 := HPO.out.cell1
      have c2 := HPO.out.cell2
      by_cases hlt : i < m
      · obtain ⟨aj, rfl⟩ := HZO.out.addr (by omega)
        have q1 := HZO.out.cellAt hlt
        have hmem : J.getD i 0 ∈ J := by
          rw [List.getD_eq_getElem?_getD, List.getElem?_eq_getElem (by rw [HJN.out]; exact hlt)]
          exact List.getElem_mem _
        obtain ⟨x, hx⟩ : ∃ x, J.getD i 0 = x := ⟨_, rfl⟩
        have hxm := HJM.out _ hmem
        rw [hx] at q1 hxm
        obtain ⟨qi, hqi⟩ : ∃ qi, H + i = qi := ⟨_, rfl⟩
        obtain ⟨ui, q2, hbi⟩ := HBO.out.rowAt (i := qi) (by omega)
        have hrw : M.getD qi [] = rowP K H S s0 x := by
          rw [← HMQ.out, HMT.out, List.getD_eq_getElem?_getD, List.getElem?_append_right (by rw [ahead_length]; omega), ahead_length, show qi - H = i from by omega, List.getElem?_map, List.getElem?_eq_getElem (by rw [HJN.out]; exact hlt)]
          rw [List.getD_eq_getElem?_getD, List.getElem?_eq_getElem (by rw [HJN.out]; exact hlt)] at hx
          simp at hx
          rw [← hx]
          rfl
        rw [hrw] at hbi
        obtain ⟨oi, mi, ci, rfl⟩ := Bs.form4 hbi
        have HBI := Lib.hid hbi
        have HXI : Hid (I64 x) := Lib.hid (by unfold MayI at hxm; exact ⟨by omega, by omega⟩)
        have hqs2 : (H : Int) + (i : Int) = (qi : Int) := by omega
        have hqw2 : IntKind.i64.wrap (qi : Int) = qi := by simp [IntKind.wrap, IntKind.bits, IntKind.signed]; omega
        have hb3 : (qi : Int) < q := by omega
        clear hmem hx hxm hqi hrw hbi
        go_wp2_with fail
        go_region_held3 (fun W => W.cell? ⟨gp, 0, none⟩ = some (.int .i64 (K : Int)) ∧ W.cell? ⟨gp, 1, none⟩ = some (.int .i64 (H : Int)) ∧ W.cell? ⟨gp, 2, none⟩ = some (.int .i64 (S : Int)) ∧ W.cell? (am.add qi) = some (.slice oi mi ci)) (first | exact ⟨k20, k21, k22, k23⟩ | exact ⟨k10, k11, k12, k13⟩ | go_keep)
          (first
            | (go_at_call 17; refine (same_any _ _ (rowP K H S s0 x) (rowP K H S s0 x) _ (by exact Bs.grown HBI.out V1.out) B1.out).mono ?_; rw [beq_self_eq_true]; rintro e v2 ⟨rfl, hg2⟩; have k20 := cell_grown hg2 (by exact k10); have k21 := cell_grown hg2 (by exact k11); have k22 := cell_grown hg2 (by exact k12); have k23 := cell_grown hg2 (by exact k13); have V2 : Hid (Gr v1 v2) := Lib.hid hg2)
            | (go_at_call 18; refine (HT.out.row K H S s0 x _ hs1 HXI.out).mono ?_; rintro e v1 ⟨y1, rfl, hn1⟩; have hg1 := hn1.1; have k10 := cell_grown hg1 (by exact c0); have k11 := cell_grown hg1 (by exact c1); have k12 := cell_grown hg1 (by exact c2); have k13 := cell_grown hg1 (by exact q2); obtain ⟨o1, m1, d1, rfl⟩ := New.form3 hn1; have B1 := Lib.hid (New.bs hn1); have V1 : Hid (Gr wo v1) := Lib.hid (by exact hg1); clear hn1))
        all_goals
          have V2' := Lib.hid (Gr.trans V1.out V2.out)
          have HGZ := Lib.hid (Gr.trans HGO.out V2'.out)
          have HPZ := Lib.hid (HPO.out.grown V2'.out)
          have HZZ := Lib.hid (HZO.out.grown V2'.out)
          have HBZ := Lib.hid (HBO.out.grown V2'.out)
          go_wp2_with fail
          exact ⟨⟨i + 1, by omega, by go_num, HGZ.out, HPZ.out, HZZ.out, HBZ.out⟩, by simp [intOf]; omega⟩
      · obtain rfl : i = m := by omega
        go_wp2_with fail
        have HMM := Lib.hid (matP_may K H S s0 J)
        rw [HMQ.out] at HMM
        obtain ⟨r, hr⟩ : ∃ r, rkL M = r := ⟨_, rfl⟩
        have HRK := Lib.hid hr
        clear hr
        go_region_held3 (fun W => W.cell? ⟨gp, 0, none⟩ = some (.int .i64 (K : Int)) ∧ W.cell? ⟨gp, 1, none⟩ = some (.int .i64 (H : Int)) ∧ W.cell? ⟨gp, 2, none⟩ = some (.int .i64 (S : Int))) (first | exact ⟨k40, k41, k42⟩ | exact ⟨k30, k31, k32⟩ | exact ⟨k20, k21, k22⟩ | exact ⟨k10, k11, k12⟩ | go_keep)
          (first
            | (go_at_call 12; refine (sysWakes_any HO.out _).mono ?_; rintro e v4 ⟨rfl, hg4⟩; have k40 := cell_grown hg4 (by exact k30); have k41 := cell_grown hg4 (by exact k31); have k42 := cell_grown hg4 (by exact k32); have V4 : Hid (Gr v3 v4) := Lib.hid hg4)
            | (go_at_call 10; refine (HO.out.rank K H S s0 _ J _ hs1 (by exact HZO.out.grown (Gr.trans V1.out V2.out)) (by rw [HJN.out]; omega)).mono ?_; rw [HMQ.out, HRK.out]; rintro e v3 ⟨rfl, hg3⟩; have k30 := cell_grown hg3 (by exact k20); have k31 := cell_grown hg3 (by exact k21); have k32 := cell_grown hg3 (by exact k22); have V3 : Hid (Gr v2 v3) := Lib.hid hg3)
            | (go_at_call 19; refine (HR.out.rank _ _ M _ S1.out.2 (by exact HBO.out.grown V1.out) (by rw [HML.out]; omega) HMM.out).mono ?_; rw [HRK.out]; rintro e v2 ⟨rfl, hg2⟩; have k20 := cell_grown hg2 (by exact k10); have k21 := cell_grown hg2 (by exact k11); have k22 := cell_grown hg2 (by exact k12); have V2 : Hid (Gr v1 v2) := Lib.hid hg2)
            | (go_at_call 20; refine (new_st _).mono ?_; rintro e v1 ⟨y1, rfl, hst⟩; have hg1 := hst.1; have k10 := cell_grown hg1 (by exact c0); have k11 := cell_grown hg1 (by exact c1); have k12 := cell_grown hg1 (by exact c2); have S1 := Lib.hid hst; have V1 : Hid (Gr wo v1) := Lib.hid (by exact hg1); clear hst))
        all_goals
          have HGZ := Lib.hid (Gr.trans HGO.out (Gr.trans V1.out (Gr.trans V2.out (Gr.trans V3.out V4.out))))
          go_wp2_with fail
          go_ret
          exact ⟨rfl, HGZ.out⟩
end Go.Proofs.Ytedobcajbelcpaa
