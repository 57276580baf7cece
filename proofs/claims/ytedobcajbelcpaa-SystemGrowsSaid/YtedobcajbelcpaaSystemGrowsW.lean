/-
  Law SystemGrows, walked.
-/
import Derived.Test.YtedobcajbelcpaaYe
namespace Go.Proofs.Ytedobcajbelcpaa
open Go.RowKit

theorem Zs.take {w : World} {oa : Option Addr} {m c : Nat} {l : List Int} (h : Zs w (.slice oa m c) l) (n : Nat) (hn : n ≤ m) : Zs w (.slice oa n c) (l.take n) := by
  obtain ⟨h0, oa', c', he, h2, h3, h4, h5⟩ := h
  obtain ⟨rfl, rfl, rfl⟩ : oa = oa' ∧ m = l.length ∧ c = c' := by simpa using he
  have hl : (l.take n).length = n := by rw [List.length_take]; omega
  refine ⟨fun x hx => h0 x (List.mem_of_mem_take hx), oa, c, by rw [hl], by rw [hl]; omega, h3, h4, fun a ha i hi => ?_⟩
  rw [hl] at hi
  rw [h5 a ha i (by omega), List.getD_eq_getElem?_getD, List.getD_eq_getElem?_getD, List.getElem?_take_of_lt hi]
theorem rk_grows {K H : Nat} {S : Int} (hm : MayP K H S) (seed : Nat) (l : List Int) (x : Int) :
    rkL (matP K H S seed l) ≤ rkL (matP K H S seed (l ++ [x])) ∧ rkL (matP K H S seed (l ++ [x])) ≤ rkL (matP K H S seed l) + 1 := by
  rw [matP_snoc]
  by_cases h : MayP (K : Int) (H : Int) S ∧ MayI x
  · rw [if_pos h]
    exact rkL_snoc (matP_wide hm seed l) (rowP_wide hm h.2 seed).1
  · rw [if_neg h, List.append_nil]
    omega
theorem full_is {K H : Nat} {S : Int} (hm : MayP K H S) (seed : Nat) (l : List Int) : decide (FullP K H S seed l) = ((rkL (matP K H S seed l) : Int) == ((K + H : Nat) : Int)) := by
  have h : FullP K H S seed l ↔ (rkL (matP K H S seed l) : Int) = ((K + H : Nat) : Int) := by
    unfold FullP colsP
    rw [if_pos hm]
    constructor
    · intro h; have := h.2; omega
    · intro h; exact ⟨hm, by omega⟩
  exact decide_eq_decide.2 h
set_option maxRecDepth 100000 in
set_option maxHeartbeats 3200000 in
theorem systemGrows_walk (P : PreOk) (O : SystemOk) (a b c sd : Int) (vl : Value) (l : List Int) (w : World) (hz : Zs w vl l) :
    Calls Try.prog 4 #[.int .i64 a, .int .i64 b, .int .i64 c, .int .u64 sd, vl] w fun e w' => e = .returned (.bool true) ∧ Gr w w' := by
  have HO := Lib.hid O
  have HPR := Lib.hid P
  have HZ := Lib.hid hz
  obtain ⟨ol, ml, cl, rfl⟩ : ∃ o m c, vl = .slice o m c := by
    obtain ⟨o, c, h⟩ := hz.form
    exact ⟨o, _, c, h⟩
  clear O P hz
  obtain ⟨s0, hs0, hs1⟩ : ∃ s : Nat, sd % 4294967296 = s ∧ s < 4294967296 := ⟨(sd % 4294967296).toNat, by omega, by omega⟩
  have hw32 : IntKind.u32.wrap sd = (s0 : Int) := by rw [← hs0]; simp [IntKind.wrap, IntKind.bits, IntKind.signed]
  obtain ⟨K, hK, K1, K2⟩ : ∃ K : Nat, 1 + a % 16 = K ∧ 1 ≤ K ∧ K ≤ 16 := ⟨(1 + a % 16).toNat, by omega, by omega, by omega⟩
  obtain ⟨H, hH, H1, H2⟩ : ∃ K : Nat, 1 + b % 4 = K ∧ 1 ≤ K ∧ K ≤ 4 := ⟨(1 + b % 4).toNat, by omega, by omega, by omega⟩
  obtain ⟨S, hS, S1, S2⟩ : ∃ K : Nat, 1 + c % 24 = K ∧ 1 ≤ K ∧ K ≤ 24 := ⟨(1 + c % 24).toNat, by omega, by omega, by omega⟩
  have hm : MayP K H S := by unfold MayP; omega
  have HM := Lib.hid hm
  have hr0 : rkL (matP K H S s0 []) = H := by rw [matP_nil, aheadP_in hm, ahead_rk]
  have HR0 := Lib.hid hr0
  obtain ⟨N, hN⟩ : ∃ N, K + H = N := ⟨_, rfl⟩
  have HN := Lib.hid hN
  have HCO : Hid (colsP (K : Int) (H : Int) (S : Int) = N) := Lib.hid (by unfold colsP; rw [if_pos hm]; omega)
  have hN20 : N ≤ 20 := by omega
  clear hm hr0 hN
  go_enter Try.func4, Try.ntmps4
  go_wp2_with fail
  refine (params_any a b c _).mono ?_
  rintro e w1 ⟨rfl, hg⟩
  rw [hK, hH, hS]
  clear hK hH hS
  go_wp2_with fail
  have HP : Hid (Par (w1.alloc (.cells #[.int .i64 (K : Int), .int .i64 (H : Int), .int .i64 (S : Int)] 25)) w1.heap.size K H S) := Lib.hid (heap_alloc_new _ _)
  have HG : Hid (Gr w (w1.alloc (.cells #[.int .i64 (K : Int), .int .i64 (H : Int), .int .i64 (S : Int)] 25))) := Lib.hid (Gr.alloc hg _ _)
  clear hg
  generalize w1.alloc (.cells #[.int .i64 (K : Int), .int .i64 (H : Int), .int .i64 (S : Int)] 25) = W0 at *
  generalize w1.heap.size = gp at *
  have c0 := HP.out.cell0
  have c1 := HP.out.cell1
  have c2 := HP.out.cell2
  refine (HO.out.rank K H S s0 _ [] _ hs1 (Zs.nil _) (by simp)).mono ?_
  rw [HR0.out]
  rintro e w2 ⟨rfl, hg2⟩
  have HP2 := Lib.hid (HP.out.grown hg2)
  have HG2 := Lib.hid (Gr.trans HG.out hg2)
  clear hg2 c0 c1 c2 HP HG
  have c0 := HP2.out.cell0
  have c1 := HP2.out.cell1
  have c2 := HP2.out.cell2
  go_wp2_with fail
  refine (ids_any _ l 20 _ (HZ.out.grown HG2.out) (by omega)).mono ?_
  rintro e w3 ⟨u3, rfl, ho3, hg3⟩
  obtain ⟨J, hJ⟩ : ∃ J, idsL l 20 = J := ⟨_, rfl⟩
  have hJ20 : J.length ≤ 20 := by rw [← hJ]; exact idsL_le l 20
  have HJI : Hid (∀ x ∈ J, I64 x) := Lib.hid (by rw [← hJ]; exact idsL_i64 HZ.out.1 20)
  rw [hJ] at ho3
  obtain ⟨n, hn⟩ : ∃ n, J.length = n := ⟨_, rfl⟩
  have HZJ := Lib.hid (owns_zs ho3 rfl HJI.out)
  rw [hn] at ho3 hJ20
  obtain ⟨o3, c3, rfl⟩ := ownsRow_form'' ho3
  have HNN := Lib.hid hn
  have HP3 := Lib.hid (HP2.out.grown hg3)
  have HG3 := Lib.hid (Gr.trans HG2.out hg3)
  clear hJ ho3 hg3 hn HP2 HG2 c0 c1 c2
  go_wp2_with fail
  go_loopw [13, 34] (fun lv iv W => ∃ i : Nat, i ≤ n ∧ iv = .int .i64 i ∧ lv = .int .i64 (rkL (matP K H S s0 (J.take i))) ∧ Gr w W ∧ Par W gp K H S ∧ Zs W (.slice o3 n c3) J) (fun _ iv _ => n - (intOf iv).toNat)
  case atStart => exact ⟨0, by omega, rfl, by rw [List.take_zero, HR0.out], HG3.out, HP3.out, HZJ.out⟩
  case round =>
    obtain ⟨wo, hwo⟩ : ∃ x, x = wr := ⟨_, rfl⟩
    subst hwo
    obtain ⟨i, hi, rfl, rfl, hg, hp, hzo⟩ := hrel
    have HPO := Lib.hid hp
    have HGO := Lib.hid hg
    have HZO := Lib.hid hzo
    clear hg hp hzo HP3 HG3 HZJ
    have c0 := HPO.out.cell0
    have c1 := HPO.out.cell1
    have c2 := HPO.out.cell2
    by_cases hlt : i < n
    · obtain ⟨a3, rfl⟩ := HZO.out.addr (by omega)
      have htk : J.take (i + 1) = J.take i ++ [J.getD i 0] := by
        rw [List.take_add_one, List.getElem?_eq_getElem (by rw [HNN.out]; exact hlt), List.getD_eq_getElem?_getD, List.getElem?_eq_getElem (by rw [HNN.out]; exact hlt)]
        rfl
      have hgr := rk_grows HM.out s0 (J.take i) (J.getD i 0)
      rw [← htk] at hgr
      have hle := rkL_le_cols (matP_wide HM.out s0 (J.take (i + 1)))
      have hfu := full_is HM.out s0 (J.take (i + 1))
      rw [HN.out] at hle hfu
      obtain ⟨r1, hr1⟩ : ∃ r, rkL (matP K H S s0 (J.take (i + 1))) = r := ⟨_, rfl⟩
      obtain ⟨r0, hr0⟩ : ∃ r, rkL (matP K H S s0 (J.take i)) = r := ⟨_, rfl⟩
      rw [hr1] at hgr hle hfu
      rw [hr0] at hgr
      have HR1 := Lib.hid hr1
      obtain ⟨b, hb⟩ : ∃ b : Bool, ((r1 : Int) == (N : Int)) = b := ⟨_, rfl⟩
      rw [hb] at hfu
      have HFU := Lib.hid hfu
      have hbn : ((r1 == N) : Bool) = b := by rw [← hb, Bool.eq_iff_iff, beq_iff_eq, beq_iff_eq]; omega
      have ZT := Lib.hid (HZO.out.take (i + 1) (by omega))
      rw [hr0]
      clear htk hfu hr1 hr0
      have d1 : decide ((r1 : Int) < r0) = false := decide_eq_false (by omega)
      have d2 : decide (r1 < r0) = false := decide_eq_false (by omega)
      have d3 : decide ((r0 : Int) + 1 < r1) = false := decide_eq_false (by omega)
      have d4 : decide (r0 + 1 < r1) = false := decide_eq_false (by omega)
      have d5 : decide ((N : Int) < r1) = false := decide_eq_false (by omega)
      have d6 : decide (N < r1) = false := decide_eq_false (by omega)
      have w2' : IntKind.i64.wrap ((r0 : Int) + 1) = (r0 : Int) + 1 := by simp [IntKind.wrap, IntKind.bits, IntKind.signed]; omega
      obtain ⟨q, hq⟩ : ∃ q : Nat, i + 1 = q := ⟨_, rfl⟩
      rw [hq] at ZT HR1 HFU
      have hq' : (i : Int) + 1 = q := by omega
      have wq : IntKind.i64.wrap (q : Int) = q := by simp [IntKind.wrap, IntKind.bits, IntKind.signed]; omega
      have b1 : (q : Int) ≤ n := by omega
      have b3 : (q : Int) ≤ c3 := by
        obtain ⟨p1, p2, _⟩ := HZO.out.parts
        omega
      have HQ := Lib.hid hq
      clear hq
      go_wp2_with fail
      go_region_held3 (fun W => W.cell? ⟨gp, 0, none⟩ = some (.int .i64 (K : Int)) ∧ W.cell? ⟨gp, 1, none⟩ = some (.int .i64 (H : Int)) ∧ W.cell? ⟨gp, 2, none⟩ = some (.int .i64 (S : Int))) (first | exact ⟨k10, k11, k12⟩ | go_keep)
        (first
          | (go_at_call 10; refine (HO.out.rank K H S s0 _ (J.take q) _ hs1 (by exact ZT.out) (by simp; omega)).mono ?_; rw [HR1.out]; rintro e v1 ⟨rfl, hg1⟩; have k10 := cell_grown hg1 (by exact c0); have k11 := cell_grown hg1 (by exact c1); have k12 := cell_grown hg1 (by exact c2); have V1 : Hid (Gr wo v1) := Lib.hid (by exact hg1)))
      have W1 := Lib.hid (Gr.trans HGO.out V1.out)
      have ZT1 := Lib.hid (ZT.out.grown V1.out)
      have HP1 := Lib.hid (HPO.out.grown V1.out)
      have HZ1 := Lib.hid (HZO.out.grown V1.out)
      clear c0 c1 c2 V1 ZT HPO HGO HZO
      go_wp2_with fail
      go_region_held3 (fun W => W.cell? ⟨gp, 0, none⟩ = some (.int .i64 (K : Int)) ∧ W.cell? ⟨gp, 1, none⟩ = some (.int .i64 (H : Int)) ∧ W.cell? ⟨gp, 2, none⟩ = some (.int .i64 (S : Int))) (first | exact ⟨k40, k41, k42⟩ | exact ⟨k30, k31, k32⟩ | exact ⟨k20, k21, k22⟩ | exact ⟨k10, k11, k12⟩ | go_keep)
        (first
          | (go_at_call 13; have h3 := V3; refine (HPR.out.cols K H S _).mono ?_; rw [HCO.out]; rintro e v4 ⟨rfl, hg4⟩; have k40 := cell_grown hg4 (by exact k30); have k41 := cell_grown hg4 (by exact k31); have k42 := cell_grown hg4 (by exact k32); have V4 : Hid (Gr v3 v4) := Lib.hid hg4)
          | (go_at_call 11; refine (HO.out.full K H S s0 _ (J.take q) _ hs1 (by exact ZT1.out.grown V2.out) (by simp; omega)).mono ?_; rw [HFU.out]; rintro e v3 ⟨rfl, hg3⟩; have k30 := cell_grown hg3 (by exact k20); have k31 := cell_grown hg3 (by exact k21); have k32 := cell_grown hg3 (by exact k22); have V3 : Hid (Gr v2 v3) := Lib.hid hg3)
          | (go_at_call 13; refine (HPR.out.cols K H S _).mono ?_; rw [HCO.out]; rintro e v2 ⟨rfl, hg2⟩; have k20 := cell_grown hg2 (by exact k10); have k21 := cell_grown hg2 (by exact k11); have k22 := cell_grown hg2 (by exact k12); have V2 : Hid (Gr v1 v2) := Lib.hid (by exact hg2)))
      all_goals
        have HGZ := Lib.hid (Gr.trans W1.out (Gr.trans V2.out (Gr.trans V3.out V4.out)))
        have HP5 := Lib.hid (HP1.out.grown (Gr.trans V2.out (Gr.trans V3.out V4.out)))
        have HZ5 := Lib.hid ((HZ1.out).grown (Gr.trans V2.out (Gr.trans V3.out V4.out)))
        go_wp2_with fail
        exact ⟨⟨i + 1, by omega, by go_num, by rw [HQ.out, HR1.out], HGZ.out, HP5.out, HZ5.out⟩, by simp [intOf]; omega⟩
    · obtain rfl : i = n := by omega
      go_wp2_with fail
      refine (sysWakes_any HO.out _).mono ?_
      rintro e w5 ⟨rfl, hg5⟩
      have HGZ := Lib.hid (Gr.trans HGO.out hg5)
      clear hg5
      go_wp2_with fail
      go_ret
      exact ⟨rfl, HGZ.out⟩
end Go.Proofs.Ytedobcajbelcpaa
