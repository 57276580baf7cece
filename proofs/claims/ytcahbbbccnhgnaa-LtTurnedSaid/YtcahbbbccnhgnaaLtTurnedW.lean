/-
  Law LtTurned, walked: a row hangs on the seed and the ID through their bits.
-/
import Derived.Test.YtcahbbbccnhgnaaLtTellsW
namespace Go.Proofs.Ytcahbbbccnhgnaa
open Go.RowKit

theorem mixS_turn (s i o : Nat) : mixS (mixS (mixS s i) o) o = mixS s i := by
  unfold mixS
  rw [Nat.xor_assoc, Nat.xor_self, Nat.xor_zero]
theorem rowP_turn {K H S : Int} {s t i o : Nat} (hi : i < 65536) (ho : o < 65536) (h : mixS t o = mixS s i) : rowP K H S t (o : Int) = rowP K H S s (i : Int) := by
  have h1 : MayI (i : Int) := by unfold MayI; omega
  have h2 : MayI (o : Int) := by unfold MayI; omega
  unfold rowP atN
  simp only [h1, h2, and_true, Int.toNat_natCast, h]
set_option maxRecDepth 100000 in
set_option maxHeartbeats 3200000 in
theorem ltTurned_walk (O : LtOk) (a b c : Int) (sd id oth : Int) (w : World) :
    Calls Try.prog 6 #[.int .i64 a, .int .i64 b, .int .i64 c, .int .u64 sd, .int .i64 id, .int .i64 oth] w fun e w' => e = .returned (.bool true) ∧ Gr w w' := by
  have HO := Lib.hid O
  clear O
  obtain ⟨s0, hs0, hs1⟩ : ∃ s : Nat, sd % 4294967296 = s ∧ s < 4294967296 := ⟨(sd % 4294967296).toNat, by omega, by omega⟩
  obtain ⟨i1, hi1, hi2⟩ : ∃ q : Nat, id % 65536 = q ∧ q < 65536 := ⟨(id % 65536).toNat, by omega, by omega⟩
  obtain ⟨i3, hi3, hi4⟩ : ∃ q : Nat, oth % 65536 = q ∧ q < 65536 := ⟨(oth % 65536).toNat, by omega, by omega⟩
  have hw32 : IntKind.u32.wrap sd = (s0 : Int) := by rw [← hs0]; simp [IntKind.wrap, IntKind.bits, IntKind.signed]
  obtain ⟨K, hK⟩ : ∃ K : Int, 1 + a % 16 = K := ⟨_, rfl⟩
  obtain ⟨H, hH⟩ : ∃ H : Int, 1 + b % 4 = H := ⟨_, rfl⟩
  obtain ⟨S, hS⟩ : ∃ S : Int, 1 + c % 24 = S := ⟨_, rfl⟩
  have HM : MayP K H S := by unfold MayP; omega
  have hm0 := HM
  unfold MayP at hm0
  obtain ⟨hm1, hm2, hm3, hm4, _, _⟩ := hm0
  obtain ⟨t1, ht1, ht1b⟩ : ∃ t : Nat, mixS s0 i1 = t ∧ t < 4294967296 := ⟨_, rfl, mixS_lt hs1 i1⟩
  obtain ⟨t2, ht2, ht2b⟩ : ∃ t : Nat, mixS t1 i3 = t ∧ t < 4294967296 := ⟨_, rfl, mixS_lt ht1b i3⟩
  have hx1 : bits BinOp.xor IntKind.u32 (s0 : Int) ((i1 : Int) * 2654435761 % 4294967296) = (t1 : Int) := by
    rw [show (i1 : Int) * 2654435761 % 4294967296 = ((i1 * 2654435761 % 4294967296 : Nat) : Int) from by omega, u32_xor_nat _ _ hs1 (Nat.mod_lt _ (by omega)), ← ht1]
    rfl
  have hx2 : bits BinOp.xor IntKind.u32 (t1 : Int) ((i3 : Int) * 2654435761 % 4294967296) = (t2 : Int) := by
    rw [show (i3 : Int) * 2654435761 % 4294967296 = ((i3 * 2654435761 % 4294967296 : Nat) : Int) from by omega, u32_xor_nat _ _ ht1b (Nat.mod_lt _ (by omega)), ← ht2]
    rfl
  obtain ⟨L, hL⟩ : ∃ L, rowP K H S s0 (i1 : Int) = L := ⟨_, rfl⟩
  obtain ⟨NN, hNN, hNL⟩ : ∃ NN : Nat, K + H = (NN : Int) ∧ L.length = NN := ⟨K.toNat + H.toNat, by omega, by
    have h1 : MayI (i1 : Int) := by unfold MayI; omega
    rw [← hL]
    unfold rowP
    rw [if_pos ⟨HM, h1⟩, onesL_length]⟩
  have HR1 : Hid (∀ w : World, Calls Try.prog 13 #[par K H S, .int .u32 (s0 : Int), .int .i64 (i1 : Int)] w fun e w' => ∃ v, e = .returned v ∧ New w w' v L) := Lib.hid (fun w => by
    have h := HO.out.row K H S s0 i1 w hs1 ⟨by omega, by omega⟩
    rwa [hL] at h)
  have HR2 : Hid (∀ w : World, Calls Try.prog 13 #[par K H S, .int .u32 (t2 : Int), .int .i64 (i3 : Int)] w fun e w' => ∃ v, e = .returned v ∧ New w w' v L) := Lib.hid (fun w => by
    have h := HO.out.row K H S t2 i3 w ht2b ⟨by omega, by omega⟩
    rwa [rowP_turn hi2 hi4 (by rw [← ht2, ← ht1, mixS_turn]), hL] at h)
  have hwN : IntKind.i64.wrap (NN : Int) = NN := by simp [IntKind.wrap, IntKind.bits, IntKind.signed]; omega
  have HI1 := Lib.hid hi1
  have HI3 := Lib.hid hi3
  have HNL := Lib.hid hNL
  clear hi1 hi3 hL ht1 ht2 HM hNL
  go_enter Try.func6, Try.ntmps6
  go_wp2_with fail
  refine (params_any a b c _).mono ?_
  rintro e w1 ⟨rfl, hg⟩
  rw [hK, hH, hS]
  clear hK hH hS
  go_wp2_with fail
  have HP : Hid (Par (w1.alloc (.cells #[.int .i64 K, .int .i64 H, .int .i64 S] 23)) w1.heap.size K H S) := Lib.hid (heap_alloc_new _ _)
  have HG : Hid (Gr w (w1.alloc (.cells #[.int .i64 K, .int .i64 H, .int .i64 S] 23))) := Lib.hid (Gr.alloc hg _ _)
  clear hg
  generalize w1.alloc (.cells #[.int .i64 K, .int .i64 H, .int .i64 S] 23) = W0 at *
  generalize w1.heap.size = gp at *
  refine (within_any id 65536 (by omega) (by omega) _).mono ?_
  rintro e w' ⟨rfl, rfl⟩
  rw [HI1.out]
  go_wp2_with fail
  refine (within_any oth 65536 (by omega) (by omega) _).mono ?_
  rintro e w' ⟨rfl, rfl⟩
  rw [HI3.out]
  go_wp2_with fail
  try rw [hx1]
  try rw [hx2]
  clear hx1 hx2 hw32 hs0
  have c0 := HP.out.cell0
  have c1 := HP.out.cell1
  have c2 := HP.out.cell2
  go_region_held3 (fun W => W.cell? ⟨gp, 0, none⟩ = some (.int .i64 K) ∧ W.cell? ⟨gp, 1, none⟩ = some (.int .i64 H) ∧ W.cell? ⟨gp, 2, none⟩ = some (.int .i64 S)) (first | exact ⟨k50, k51, k52⟩ | exact ⟨k40, k41, k42⟩ | exact ⟨k30, k31, k32⟩ | exact ⟨k20, k21, k22⟩ | exact ⟨k10, k11, k12⟩ | go_keep)
    (first
      | (go_at_call 15; refine (ltWakes_any HO.out _).mono ?_; rintro e v5 ⟨rfl, hg5⟩; have k50 := cell_grown hg5 (by exact k40); have k51 := cell_grown hg5 (by exact k41); have k52 := cell_grown hg5 (by exact k42); have V5 : Hid (Gr v4 v5) := Lib.hid hg5)
      | (go_at_call 13; have h := V3; clear h; refine (HR1.out _).mono ?_; rintro e v4 ⟨y4, rfl, hn4⟩; have hg4 := hn4.1; have k40 := cell_grown hg4 (by exact k30); have k41 := cell_grown hg4 (by exact k31); have k42 := cell_grown hg4 (by exact k32); obtain ⟨o4, d4, rfl⟩ := (New.bs hn4).form; rw [HNL.out]; have V4 : Hid (Gr v3 v4) := Lib.hid hg4; clear hn4)
      | (go_at_call 12; refine (same_any _ _ L L _ (Bs.grown B1.out V2.out) B2.out).mono ?_; rw [beq_self_eq_true]; rintro e v3 ⟨rfl, hg3⟩; have k30 := cell_grown hg3 (by exact k20); have k31 := cell_grown hg3 (by exact k21); have k32 := cell_grown hg3 (by exact k22); have V3 : Hid (Gr v2 v3) := Lib.hid hg3)
      | (go_at_call 13; have h := V1; clear h; refine (HR2.out _).mono ?_; rintro e v2 ⟨y2, rfl, hn2⟩; have hg2 := hn2.1; have k20 := cell_grown hg2 (by exact k10); have k21 := cell_grown hg2 (by exact k11); have k22 := cell_grown hg2 (by exact k12); obtain ⟨o2, m2, d2, rfl⟩ := New.form3 hn2; have V2 : Hid (Gr v1 v2) := Lib.hid hg2; have B2 := Lib.hid (New.bs hn2); clear hn2)
      | (go_at_call 13; refine (HR1.out _).mono ?_; rintro e v1 ⟨y1, rfl, hn1⟩; have hg1 := hn1.1; have k10 := cell_grown hg1 (by exact c0); have k11 := cell_grown hg1 (by exact c1); have k12 := cell_grown hg1 (by exact c2); obtain ⟨o1, m1, d1, rfl⟩ := New.form3 hn1; have V1 : Hid (Gr W0 v1) := Lib.hid (by exact hg1); have B1 := Lib.hid (New.bs hn1); clear hn1))
  all_goals
    have HGZ := Lib.hid (Gr.trans HG.out (Gr.trans V1.out (Gr.trans V2.out (Gr.trans V3.out (Gr.trans V4.out V5.out)))))
    go_wp2_with fail
    go_ret
    exact ⟨rfl, HGZ.out⟩
end Go.Proofs.Ytcahbbbccnhgnaa
