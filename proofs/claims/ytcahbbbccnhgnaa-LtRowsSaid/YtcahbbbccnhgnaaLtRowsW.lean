/-
  Law LtRows, walked: a row is as long as there are columns, with a 1 at just its places.
-/
import Derived.Test.YtcahbbbccnhgnaaMgg
import Derived.Test.YtcahbbbccnhgnaaLtTellsW
namespace Go.Proofs.Ytcahbbbccnhgnaa
open Go.RowKit

set_option maxRecDepth 100000 in
set_option maxHeartbeats 3200000 in
theorem ltRows_walk (P : PreOk) (O : LtOk) (a b c : Int) (sd id : Int) (w : World) :
    Calls Try.prog 4 #[.int .i64 a, .int .i64 b, .int .i64 c, .int .u64 sd, .int .i64 id] w fun e w' => e = .returned (.bool true) ∧ Gr w w' := by
  have HO := Lib.hid O
  have HPO := Lib.hid P
  clear O P
  obtain ⟨s0, hs0, hs1⟩ : ∃ s : Nat, sd % 4294967296 = s ∧ s < 4294967296 := ⟨(sd % 4294967296).toNat, by omega, by omega⟩
  obtain ⟨i1, hi1, hi2⟩ : ∃ q : Nat, id % 65536 = q ∧ q < 65536 := ⟨(id % 65536).toNat, by omega, by omega⟩
  have hw32 : IntKind.u32.wrap sd = (s0 : Int) := by rw [← hs0]; simp [IntKind.wrap, IntKind.bits, IntKind.signed]
  obtain ⟨K, hK⟩ : ∃ K : Int, 1 + a % 16 = K := ⟨_, rfl⟩
  obtain ⟨H, hH⟩ : ∃ H : Int, 1 + b % 4 = H := ⟨_, rfl⟩
  obtain ⟨S, hS⟩ : ∃ S : Int, 1 + c % 24 = S := ⟨_, rfl⟩
  have HM : MayP K H S := by unfold MayP; omega
  have hm0 := HM
  unfold MayP at hm0
  obtain ⟨N, hN⟩ : ∃ N : Nat, K.toNat + H.toNat = N := ⟨_, rfl⟩
  have hN1 : 1 ≤ N := by omega
  have hN2 : N ≤ 20 := by omega
  have HCO : Hid (colsP K H S = N) := Lib.hid (by unfold colsP; rw [if_pos HM]; omega)
  have HI : MayI (i1 : Int) := by unfold MayI; omega
  have hI2 : ¬ MayI (-1 - (i1 : Int)) := by unfold MayI; omega
  have hI3 : ¬ MayI (65536 + (i1 : Int)) := by unfold MayI; omega
  obtain ⟨L, hL⟩ : ∃ L, atN N s0 i1 = L := ⟨_, rfl⟩
  obtain ⟨n, hn⟩ : ∃ n, L.length = n := ⟨_, rfl⟩
  have hlen := atN_len hN1 (by omega) s0 i1
  have hri := atN_rising hN1 (by omega) s0 i1
  rw [hL] at hri
  rw [hL, hn] at hlen
  obtain ⟨hn1, hn2⟩ := hlen
  have hLr : ∀ x ∈ L, I64 x := by
    intro x hx
    have := atN_rng N s0 i1 x (by rw [hL]; exact hx)
    unfold I64
    omega
  have HR1 : Hid (∀ w : World, Calls Try.prog 10 #[par K H S, .int .u32 (s0 : Int), .int .i64 (i1 : Int)] w fun e w' => ∃ v, e = .returned v ∧ OwnZ w.heap.size w' v L ∧ Gr w w') := Lib.hid (fun w => by
    have h := HO.out.cols K H S s0 i1 w hs1 ⟨by omega, by omega⟩
    have e : atP K H S s0 (i1 : Int) = L := by unfold atP; rw [if_pos ⟨HM, HI⟩, hN, Int.toNat_natCast, hL]
    rwa [e] at h)
  have HR2 : Hid (∀ w : World, Calls Try.prog 13 #[par K H S, .int .u32 (s0 : Int), .int .i64 (i1 : Int)] w fun e w' => ∃ v, e = .returned v ∧ New w w' v (onesL N L)) := Lib.hid (fun w => by
    have h := HO.out.row K H S s0 i1 w hs1 ⟨by omega, by omega⟩
    have e : rowP K H S s0 (i1 : Int) = onesL N L := by unfold rowP; rw [if_pos ⟨HM, HI⟩, hN, Int.toNat_natCast, hL]
    rwa [e] at h)
  have HR3 : Hid (∀ w : World, Calls Try.prog 13 #[par K H S, .int .u32 (s0 : Int), .int .i64 (-1 - (i1 : Int))] w fun e w' => ∃ v, e = .returned v ∧ New w w' v []) := Lib.hid (fun w => by
    have h := HO.out.row K H S s0 (-1 - (i1 : Int)) w hs1 ⟨by omega, by omega⟩
    have e : rowP K H S s0 (-1 - (i1 : Int)) = [] := by unfold rowP; rw [if_neg (fun h => hI2 h.2)]
    rwa [e] at h)
  have HR4 : Hid (∀ w : World, Calls Try.prog 10 #[par K H S, .int .u32 (s0 : Int), .int .i64 (65536 + (i1 : Int))] w fun e w' => ∃ v, e = .returned v ∧ OwnZ w.heap.size w' v [] ∧ Gr w w') := Lib.hid (fun w => by
    have h := HO.out.cols K H S s0 (65536 + (i1 : Int)) w hs1 ⟨by omega, by omega⟩
    have e : atP K H S s0 (65536 + (i1 : Int)) = [] := by unfold atP; rw [if_neg (fun h => hI3 h.2)]
    rwa [e] at h)
  have HRG := Lib.hid hri
  have HLR := Lib.hid hLr
  have HI1 := Lib.hid hi1
  have HNN := Lib.hid hn
  clear hi1 hL HM hLr hm0 hN HI hI2 hI3 hri hn
  go_enter Try.func4, Try.ntmps4
  go_wp2_with fail
  refine (params_any a b c _).mono ?_
  rintro e w1 ⟨rfl, hg⟩
  rw [hK, hH, hS]
  clear hK hH hS
  go_wp2_with fail
  have HP : Hid (Par (w1.alloc (.cells #[.int .i64 K, .int .i64 H, .int .i64 S] 23)) w1.heap.size K H S) := Lib.hid (heap_alloc_new _ _)
  have HG : Hid (Gr w (w1.alloc (.cells #[.int .i64 K, .int .i64 H, .int .i64 S] 23))) := Lib.hid (Gr.alloc hg _ _)
  clear hg
  generalize w1.alloc (.cells #[.int .i64 K, .int .i64 H, .int .i64 S] 23) = W0 at *
  generalize w1.heap.size = gp at *
  refine (within_any id 65536 (by omega) (by omega) _).mono ?_
  rintro e w' ⟨rfl, rfl⟩
  rw [HI1.out]
  have k00 := HP.out.cell0
  have k01 := HP.out.cell1
  have k02 := HP.out.cell2
  go_wp2_with fail
  go_region_held3 (fun W => W.cell? ⟨gp, 0, none⟩ = some (.int .i64 K) ∧ W.cell? ⟨gp, 1, none⟩ = some (.int .i64 H) ∧ W.cell? ⟨gp, 2, none⟩ = some (.int .i64 S)) (first | exact ⟨k20, k21, k22⟩ | exact ⟨k10, k11, k12⟩ | go_keep)
    (first
      | (go_at_call 13; refine (HR2.out _).mono ?_; rintro e v2 ⟨y2, rfl, hn2⟩; have hg2 := hn2.1; have k20 := cell_grown hg2 (by exact k10); have k21 := cell_grown hg2 (by exact k11); have k22 := cell_grown hg2 (by exact k12); obtain ⟨o2, d2, rfl⟩ := (New.bs hn2).form; rw [onesL_length]; have V2 : Hid (Gr v1 v2) := Lib.hid hg2; have B2 := Lib.hid (New.bs hn2); clear hn2 hg2)
      | (go_at_call 10; refine (HR1.out _).mono ?_; rintro e v1 ⟨y1, rfl, ho1, hg1⟩; have k10 := cell_grown hg1 (by exact k00); have k11 := cell_grown hg1 (by exact k01); have k12 := cell_grown hg1 (by exact k02); obtain ⟨o1, d1, rfl⟩ := ho1.formN HNN.out; have V1 : Hid (Gr W0 v1) := Lib.hid (by exact hg1); have Z1 := Lib.hid (ho1.zs); clear ho1))
  all_goals
    have HP2 := Lib.hid (HP.out.grown (Gr.trans V1.out V2.out))
    have HG2 := Lib.hid (Gr.trans HG.out (Gr.trans V1.out V2.out))
    have ZL := Lib.hid (Z1.out.grown V2.out)
    clear V1 V2 Z1 HG HP
    clear k00 k01 k02 k10 k11 k12
    go_wp2_with fail
    refine (HPO.out.cols K H S _).mono ?_
    rw [HCO.out]
    rintro e w4 ⟨rfl, hg4⟩
    have HP4 := Lib.hid (HP2.out.grown hg4)
    have HG4 := Lib.hid (Gr.trans HG2.out hg4)
    have ZL4 := Lib.hid (ZL.out.grown hg4)
    have BR4 := Lib.hid (Bs.grown B2.out hg4)
    clear hg4 HP2 HG2 ZL B2 k20 k21 k22
    go_wp2_with fail
    refine (rises_any _ L _ ZL4.out HRG.out (by rw [HNN.out]; omega)).mono ?_
    rintro e w5 ⟨rfl, hg5⟩
    have HP5 := Lib.hid (HP4.out.grown hg5)
    have HG5 := Lib.hid (Gr.trans HG4.out hg5)
    have ZL5 := Lib.hid (ZL4.out.grown hg5)
    have BR5 := Lib.hid (Bs.grown BR4.out hg5)
    clear hg5 HP4 HG4 ZL4 BR4
    go_wp2_with fail
    go_loopw [49] (fun i wr => ∃ t : Nat, t ≤ N ∧ i = .int .i64 t ∧ Gr w5 wr) (fun i _ => N - (intOf i).toNat)
    case atStart => exact ⟨0, by omega, rfl, Gr.refl _⟩
    case round =>
      obtain ⟨wi, hwi⟩ : ∃ x, x = wr := ⟨_, rfl⟩
      subst hwi
      obtain ⟨t, ht, rfl, hgr⟩ := hrel
      have HGR := Lib.hid hgr
      clear hgr
      by_cases hlt : t < N
      · have ZL6 := Lib.hid (ZL5.out.grown HGR.out)
        obtain ⟨a6, c6, he6, b2, b3, b4⟩ := Bs.at (Bs.grown BR5.out HGR.out) (by rw [onesL_length]; omega)
        rw [onesL_length] at he6
        injection he6 with e1 _ e3
        subst e1 e3
        have q := b4 t (by rw [onesL_length]; exact hlt)
        rw [show (onesL N L).getD t 0 = if (t : Int) ∈ L then 1 else 0 from lst_getD _ _ _ hlt] at q
        rw [onesL_length] at b2
        clear b4
        by_cases hm : (t : Int) ∈ L
        · rw [if_pos hm] at q
          have HMM := Lib.hid hm
          clear hm
          go_wp2_with fail
          refine (member_any _ L _ _ ZL6.out HMM.out (by rw [HNN.out]; omega)).mono ?_
          rintro e w7 ⟨rfl, hg7⟩
          have HG7 := Lib.hid (Gr.trans HGR.out hg7)
          clear hg7
          go_wp2_with fail
          exact ⟨⟨t + 1, by omega, by go_num, HG7.out⟩, by simp [intOf]; omega⟩
        · rw [if_neg hm] at q
          have HMM := Lib.hid hm
          clear hm
          go_wp2_with fail
          refine (member_not _ L _ _ ZL6.out HMM.out (by rw [HNN.out]; omega) (by rw [HNN.out]; omega)).mono ?_
          rintro e w7 ⟨rfl, hg7⟩
          have HG7 := Lib.hid (Gr.trans HGR.out hg7)
          clear hg7
          go_wp2_with fail
          exact ⟨⟨t + 1, by omega, by go_num, HG7.out⟩, by simp [intOf]; omega⟩
      · obtain rfl : t = N := by omega
        have HP6 := Lib.hid (HP5.out.grown HGR.out)
        have HG6 := Lib.hid (Gr.trans HG5.out HGR.out)
        have k00 := HP6.out.cell0
        have k01 := HP6.out.cell1
        have k02 := HP6.out.cell2
        go_wp2_with fail
        refine (HR3.out _).mono ?_
        rintro e v1 ⟨y1, rfl, hn1⟩
        have hg1 := hn1.1
        have k10 := cell_grown hg1 k00
        have k11 := cell_grown hg1 k01
        have k12 := cell_grown hg1 k02
        obtain ⟨o8, d8, rfl⟩ := (New.bs hn1).form
        rw [List.length_nil]
        have V1 := Lib.hid hg1
        clear hn1 hg1 k00 k01 k02
        go_wp2_with fail
        refine (HR4.out _).mono ?_
        rintro e v2 ⟨y2, rfl, ho2, hg2⟩
        obtain ⟨o9, d9, rfl⟩ := ho2.formN (n := 0) rfl
        have V2 := Lib.hid hg2
        clear ho2 hg2 k10 k11 k12
        go_wp2_with fail
        refine (ltWakes_any HO.out _).mono ?_
        rintro e v3 ⟨rfl, hg3⟩
        have HGZ := Lib.hid (Gr.trans HG6.out (Gr.trans V1.out (Gr.trans V2.out hg3)))
        clear hg3
        go_wp2_with fail
        go_ret
        exact ⟨rfl, HGZ.out⟩
end Go.Proofs.Ytcahbbbccnhgnaa
