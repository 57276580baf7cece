/-
  Law LtSize, walked: how long a symbol is plays no part in its row.
-/
import Derived.Test.YtcahbbbccnhgnaaLtTellsW
namespace Go.Proofs.Ytcahbbbccnhgnaa
open Go.RowKit

theorem atP_size {K H S S' : Int} (h : MayP K H S) (h' : MayP K H S') (seed : Nat) (id : Int) : atP K H S' seed id = atP K H S seed id := by
  unfold atP
  simp only [h, h', true_and]
set_option maxRecDepth 100000 in
set_option maxHeartbeats 3200000 in
theorem ltSize_walk (O : LtOk) (a b c d : Int) (sd id : Int) (w : World) :
    Calls Try.prog 5 #[.int .i64 a, .int .i64 b, .int .i64 c, .int .i64 d, .int .u64 sd, .int .i64 id] w fun e w' => e = .returned (.bool true) ∧ Gr w w' := by
  have HO := Lib.hid O
  clear O
  obtain ⟨s0, hs0, hs1⟩ : ∃ s : Nat, sd % 4294967296 = s ∧ s < 4294967296 := ⟨(sd % 4294967296).toNat, by omega, by omega⟩
  obtain ⟨i1, hi1, hi2⟩ : ∃ q : Nat, id % 65536 = q ∧ q < 65536 := ⟨(id % 65536).toNat, by omega, by omega⟩
  have hw32 : IntKind.u32.wrap sd = (s0 : Int) := by rw [← hs0]; simp [IntKind.wrap, IntKind.bits, IntKind.signed]
  obtain ⟨K, hK⟩ : ∃ K : Int, 1 + a % 16 = K := ⟨_, rfl⟩
  obtain ⟨H, hH⟩ : ∃ H : Int, 1 + b % 4 = H := ⟨_, rfl⟩
  obtain ⟨S, hS⟩ : ∃ S : Int, 1 + c % 24 = S := ⟨_, rfl⟩
  obtain ⟨T, hT⟩ : ∃ T : Int, 1 + d % 24 = T := ⟨_, rfl⟩
  have HM : MayP K H S := by unfold MayP; omega
  have HM2 : MayP K H T := by unfold MayP; omega
  obtain ⟨L, hL⟩ : ∃ L, atP K H S s0 (i1 : Int) = L := ⟨_, rfl⟩
  have hLr : ∀ x ∈ L, I64 x := by rw [← hL]; exact atP_i64 _ _ _ _ _
  have HR1 : Hid (∀ w : World, Calls Try.prog 10 #[par K H S, .int .u32 (s0 : Int), .int .i64 (i1 : Int)] w fun e w' => ∃ v, e = .returned v ∧ OwnZ w.heap.size w' v L ∧ Gr w w') := Lib.hid (fun w => by
    have h := HO.out.cols K H S s0 i1 w hs1 ⟨by omega, by omega⟩
    rwa [hL] at h)
  have HR2 : Hid (∀ w : World, Calls Try.prog 10 #[par K H T, .int .u32 (s0 : Int), .int .i64 (i1 : Int)] w fun e w' => ∃ v, e = .returned v ∧ OwnZ w.heap.size w' v L ∧ Gr w w') := Lib.hid (fun w => by
    have h := HO.out.cols K H T s0 i1 w hs1 ⟨by omega, by omega⟩
    rwa [atP_size HM HM2, hL] at h)
  have HR3 : Hid (∀ w : World, Calls Try.prog 11 #[par K H S, .int .u32 (s0 : Int), .int .i64 (i1 : Int)] w fun e w' => ∃ v, e = .returned v ∧ Zs w' v L ∧ Gr w w') := Lib.hid (fun w => by
    have h := refAt_any K H S s0 i1 w hs1
    rwa [hL] at h)
  have HLR := Lib.hid hLr
  have HI1 := Lib.hid hi1
  clear hi1 hL HM HM2 hLr
  go_enter Try.func5, Try.ntmps5
  go_wp2_with fail
  refine (params_any a b c _).mono ?_
  rintro e w1 ⟨rfl, hg⟩
  have G1 := Lib.hid hg
  clear hg
  rw [hK, hH, hS]
  go_wp2_with fail
  refine (params_any a b d _).mono ?_
  rintro e w2 ⟨rfl, hg⟩
  have G2 := Lib.hid hg
  clear hg
  rw [hK, hH, hT]
  clear hK hH hS hT
  go_wp2_with fail
  refine (within_any id 65536 (by omega) (by omega) _).mono ?_
  rintro e w' ⟨rfl, rfl⟩
  rw [HI1.out]
  go_wp2_with fail
  have HP : Hid (Par ((w2.alloc (.cells #[.int .i64 K, .int .i64 H, .int .i64 S] 23)).alloc (.cells #[.int .i64 K, .int .i64 H, .int .i64 T] 23)) w2.heap.size K H S) := Lib.hid (Par.grown (heap_alloc_new _ _) (Gr.alloc (Gr.refl _) _ _))
  have HQ : Hid (Par ((w2.alloc (.cells #[.int .i64 K, .int .i64 H, .int .i64 S] 23)).alloc (.cells #[.int .i64 K, .int .i64 H, .int .i64 T] 23)) (w2.heap.size + 1) K H T) := Lib.hid (by
    have hz : (w2.alloc (.cells #[.int .i64 K, .int .i64 H, .int .i64 S] 23)).heap.size = w2.heap.size + 1 := by simp
    rw [← hz]
    exact heap_alloc_new _ _)
  have HG : Hid (Gr w ((w2.alloc (.cells #[.int .i64 K, .int .i64 H, .int .i64 S] 23)).alloc (.cells #[.int .i64 K, .int .i64 H, .int .i64 T] 23))) := Lib.hid (Gr.alloc (Gr.alloc (Gr.trans G1.out G2.out) _ _) _ _)
  clear G1 G2
  generalize ((w2.alloc (.cells #[.int .i64 K, .int .i64 H, .int .i64 S] 23)).alloc (.cells #[.int .i64 K, .int .i64 H, .int .i64 T] 23)) = W0 at *
  generalize w2.heap.size + 1 = gq at *
  generalize w2.heap.size = gp at *
  refine (HR1.out _).mono ?_
  rintro e w3 ⟨v3, rfl, ho3, hg3⟩
  obtain ⟨n, hn⟩ : ∃ n, L.length = n := ⟨_, rfl⟩
  obtain ⟨o3, c3, rfl⟩ := ho3.formN hn
  have HD : Hid (0 < n → ∃ g C M, o3 = some ⟨g, 0, none⟩ ∧ W0.heap.size ≤ g ∧ Iz w3 g C n M) := Lib.hid (fun h0 => by
    obtain ⟨g, C, he, hb, hz⟩ := ho3.at h0
    exact ⟨g, C, L, he, hb, hz⟩)
  have G3 := Lib.hid hg3
  have HN := Lib.hid hn
  clear ho3 hg3 hn
  go_wp2_with fail
  go_loopw [34] (fun i wr => ∃ t : Nat, t ≤ n ∧ i = .int .i64 t ∧ Gr W0 wr ∧ (0 < n → ∃ g C M, o3 = some ⟨g, 0, none⟩ ∧ W0.heap.size ≤ g ∧ Iz wr g C n M)) (fun i _ => n - (intOf i).toNat)
  case atStart => exact ⟨0, by omega, rfl, G3.out, HD.out⟩
  case round =>
    clear HD G3
    obtain ⟨wi, hwi⟩ : ∃ x, x = wr := ⟨_, rfl⟩
    subst hwi
    obtain ⟨t, ht, rfl, hgr, hd⟩ := hrel
    have HGR := Lib.hid hgr
    have HD := Lib.hid hd
    clear hgr hd
    by_cases hlt : t < n
    · obtain ⟨g, C, M, rfl, hb, hz⟩ := HD.out (by omega)
      have hq := hz.cell t hlt
      have hf := hz.frozen t
      have hb1 := hz.2.1
      have hb2 := hz.2.2.1
      have HZ2 := Lib.hid (hz.set t hlt 0)
      have HB := Lib.hid hb
      clear hz hb HD
      go_wp2_with fail
      exact ⟨⟨t + 1, by omega, by go_num, Gr.setCell HGR.out HB.out _, fun _ => ⟨g, C, _, rfl, HB.out, HZ2.out⟩⟩, by simp [intOf]; omega⟩
    · obtain rfl : t = n := by omega
      have HP1 := Lib.hid (HP.out.grown HGR.out)
      have HQ1 := Lib.hid (HQ.out.grown HGR.out)
      have HG1 := Lib.hid (Gr.trans HG.out HGR.out)
      clear HD HP HQ HG
      have k00 := HP1.out.cell0
      have k01 := HP1.out.cell1
      have k02 := HP1.out.cell2
      have k03 := HQ1.out.cell0
      have k04 := HQ1.out.cell1
      have k05 := HQ1.out.cell2
      go_wp2_with fail
      go_region_held3 (fun W => W.cell? ⟨gp, 0, none⟩ = some (.int .i64 K) ∧ W.cell? ⟨gp, 1, none⟩ = some (.int .i64 H) ∧ W.cell? ⟨gp, 2, none⟩ = some (.int .i64 S) ∧ W.cell? ⟨gq, 0, none⟩ = some (.int .i64 K) ∧ W.cell? ⟨gq, 1, none⟩ = some (.int .i64 H) ∧ W.cell? ⟨gq, 2, none⟩ = some (.int .i64 T)) (first | exact ⟨k70, k71, k72, k73, k74, k75⟩ | exact ⟨k60, k61, k62, k63, k64, k65⟩ | exact ⟨k50, k51, k52, k53, k54, k55⟩ | exact ⟨k40, k41, k42, k43, k44, k45⟩ | exact ⟨k30, k31, k32, k33, k34, k35⟩ | exact ⟨k20, k21, k22, k23, k24, k25⟩ | exact ⟨k10, k11, k12, k13, k14, k15⟩ | go_keep)
        (first
          | (go_at_call 15; refine (ltWakes_any HO.out _).mono ?_; rintro e v7 ⟨rfl, hg7⟩; have k70 := cell_grown hg7 (by exact k60); have k71 := cell_grown hg7 (by exact k61); have k72 := cell_grown hg7 (by exact k62); have k73 := cell_grown hg7 (by exact k63); have k74 := cell_grown hg7 (by exact k64); have k75 := cell_grown hg7 (by exact k65); have V7 : Hid (Gr v6 v7) := Lib.hid hg7)
          | (go_at_call 9; have h := V5; clear h; refine (sameZ_any _ _ L L _ (Z4.out.grown V5.out) Z5.out).mono ?_; rw [beq_self_eq_true]; rintro e v6 ⟨rfl, hg6⟩; have k60 := cell_grown hg6 (by exact k50); have k61 := cell_grown hg6 (by exact k51); have k62 := cell_grown hg6 (by exact k52); have k63 := cell_grown hg6 (by exact k53); have k64 := cell_grown hg6 (by exact k54); have k65 := cell_grown hg6 (by exact k55); have V6 : Hid (Gr v5 v6) := Lib.hid hg6)
          | (go_at_call 11; refine (HR3.out _).mono ?_; rintro e v5 ⟨y5, rfl, hz5, hg5⟩; have k50 := cell_grown hg5 (by exact k40); have k51 := cell_grown hg5 (by exact k41); have k52 := cell_grown hg5 (by exact k42); have k53 := cell_grown hg5 (by exact k43); have k54 := cell_grown hg5 (by exact k44); have k55 := cell_grown hg5 (by exact k45); obtain ⟨o5, m5, d5, rfl⟩ := hz5.form3; have V5 : Hid (Gr v4 v5) := Lib.hid (by exact hg5); have Z5 := Lib.hid hz5; clear hz5)
          | (go_at_call 10; have h := V3; clear h; refine (HR1.out _).mono ?_; rintro e v4 ⟨y4, rfl, ho4, hg4⟩; have k40 := cell_grown hg4 (by exact k30); have k41 := cell_grown hg4 (by exact k31); have k42 := cell_grown hg4 (by exact k32); have k43 := cell_grown hg4 (by exact k33); have k44 := cell_grown hg4 (by exact k34); have k45 := cell_grown hg4 (by exact k35); obtain ⟨o4, m4, d4, rfl⟩ := ho4.form3; have V4 : Hid (Gr v3 v4) := Lib.hid (by exact hg4); have Z4 := Lib.hid (ho4.zs); clear ho4)
          | (go_at_call 9; refine (sameZ_any _ _ L L _ (Z1.out.grown V2.out) Z2.out).mono ?_; rw [beq_self_eq_true]; rintro e v3 ⟨rfl, hg3⟩; have k30 := cell_grown hg3 (by exact k20); have k31 := cell_grown hg3 (by exact k21); have k32 := cell_grown hg3 (by exact k22); have k33 := cell_grown hg3 (by exact k23); have k34 := cell_grown hg3 (by exact k24); have k35 := cell_grown hg3 (by exact k25); have V3 : Hid (Gr v2 v3) := Lib.hid hg3)
          | (go_at_call 10; have h := V1; clear h; refine (HR2.out _).mono ?_; rintro e v2 ⟨y2, rfl, ho2, hg2⟩; have k20 := cell_grown hg2 (by exact k10); have k21 := cell_grown hg2 (by exact k11); have k22 := cell_grown hg2 (by exact k12); have k23 := cell_grown hg2 (by exact k13); have k24 := cell_grown hg2 (by exact k14); have k25 := cell_grown hg2 (by exact k15); obtain ⟨o2, m2, d2, rfl⟩ := ho2.form3; have V2 : Hid (Gr v1 v2) := Lib.hid (by exact hg2); have Z2 := Lib.hid (ho2.zs); clear ho2)
          | (go_at_call 10; refine (HR1.out _).mono ?_; rintro e v1 ⟨y1, rfl, ho1, hg1⟩; have k10 := cell_grown hg1 (by exact k00); have k11 := cell_grown hg1 (by exact k01); have k12 := cell_grown hg1 (by exact k02); have k13 := cell_grown hg1 (by exact k03); have k14 := cell_grown hg1 (by exact k04); have k15 := cell_grown hg1 (by exact k05); obtain ⟨o1, m1, d1, rfl⟩ := ho1.form3; have V1 : Hid (Gr wi v1) := Lib.hid (by exact hg1); have Z1 := Lib.hid (ho1.zs); clear ho1))
      all_goals
        have HGZ := Lib.hid (Gr.trans HG1.out (Gr.trans V1.out (Gr.trans V2.out (Gr.trans V3.out (Gr.trans V4.out (Gr.trans V5.out (Gr.trans V6.out V7.out)))))))
        go_wp2_with fail
        go_ret
        exact ⟨rfl, HGZ.out⟩
end Go.Proofs.Ytcahbbbccnhgnaa
