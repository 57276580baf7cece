/-
  The document's example of package chunk; law ChunkCounts, walked.
-/
import Derived.Test.YtmbikmlknbinpaaMgg
namespace Go.Proofs.Ytmbikmlknbinpaa
open Go.RowKit

theorem RwsN.form5 {base : Nat} {w : World} {v : Value} {L : List (List Int)} (h : RwsN base w v L) : ∃ o c, v = .slice o L.length c := by
  obtain ⟨oa, c, he, _⟩ := h.bss
  exact ⟨oa, c, he⟩
set_option maxRecDepth 100000 in
set_option maxHeartbeats 800000 in
theorem chunkWakes_any (O : ChunkOk) (w : World) : Calls Try.prog 7 #[] w fun e w' => e = .returned (.bool true) ∧ Gr w w' := by
  have HO := Lib.hid O
  clear O
  have HM : Hid (MayP 2 1 3) := Lib.hid (by unfold MayP; omega)
  have H0 : Hid (Ck.countP 2 1 3 0 = 0) := Lib.hid (by decide)
  have H7 : Hid (Ck.countP 2 1 3 7 = 2) := Lib.hid (by decide)
  have HL : Hid ((Ck.blocksP 2 1 3 [1]).length = 1) := Lib.hid (by decide)
  have P0 : Hid (Par (w.alloc (.cells #[.int .i64 2, .int .i64 1, .int .i64 3] 23)) w.heap.size 2 1 3) := Lib.hid (heap_alloc_new _ _)
  have G0 : Hid (Gr w (w.alloc (.cells #[.int .i64 2, .int .i64 1, .int .i64 3] 23))) := Lib.hid (Gr.alloc (Gr.refl _) _ _)
  go_enter Try.func7, Try.ntmps7
  go_wp2_with fail
  refine (HO.out.count 2 1 3 0 _ ⟨by omega, by omega⟩).mono ?_
  rw [H0.out]
  rintro e w1 ⟨rfl, hg1⟩
  have P1 := Lib.hid (P0.out.grown hg1)
  have G1 := Lib.hid (Gr.trans G0.out hg1)
  have c0 := P1.out.cell0
  have c1 := P1.out.cell1
  have c2 := P1.out.cell2
  clear hg1 P0 G0
  go_wp2_with fail
  refine (HO.out.count 2 1 3 7 _ ⟨by omega, by omega⟩).mono ?_
  rw [H7.out]
  rintro e w2 ⟨rfl, hg2⟩
  have P2 := Lib.hid (P1.out.grown hg2)
  have G2 := Lib.hid (Gr.trans G1.out hg2)
  clear hg2 P1 G1 c0 c1 c2
  have c0 := P2.out.cell0
  have c1 := P2.out.cell1
  have c2 := P2.out.cell2
  have HB : Hid (Bs (w2.alloc (.cells #[.int .u8 1] 5)) (.slice (some ⟨w2.heap.size, 0, none⟩) 1 1) [1]) := Lib.hid (lit_bs1 [1] (by simp [Byt]) (by simp))
  go_wp2_with fail
  refine (HO.out.split 2 1 3 _ [1] _ (by simp) HB.out).mono ?_
  rintro e w3 ⟨u3, rfl, hr3, hg3⟩
  obtain ⟨o3, c3, e3⟩ := hr3.form5
  rw [HL.out] at e3
  subst e3
  have G3 := Lib.hid (Gr.trans G2.out (Gr.trans (Gr.alloc (Gr.refl _) _ _) hg3))
  clear hr3 hg3
  go_wp2_with fail
  go_ret
  exact ⟨rfl, G3.out⟩
/-- What the counts of n, of one more, and of as many as blocks hold, say. -/
theorem cnt_says {W n k e : Nat} (hw : 1 ≤ W) (hk : Ck.cnt W n = k) (he : Ck.cnt W (n + 1) = e) : n ≤ k * W ∧ ((k : Int) - 1) * W < max (n : Int) 1 ∧ ((e : Int) - k = 1 ↔ n % W = 0) ∧ k ≤ e ∧ e ≤ k + 1 := by
  obtain ⟨a1, a2⟩ := Ck.cnt_pos (n := n) hw
  obtain ⟨b1, b2⟩ := Ck.cnt_pos (n := n + 1) hw
  rw [hk] at a1 a2
  rw [he] at b1 b2
  have hke : k ≤ e := by
    rcases Nat.lt_or_ge e k with h | h
    · have : (e + 1) * W ≤ k * W := Nat.mul_le_mul_right _ h
      rw [Nat.add_mul] at this
      omega
    · exact h
  have hek : e ≤ k + 1 := by
    rcases Nat.lt_or_ge (k + 1) e with h | h
    · have : (k + 1 + 1) * W ≤ e * W := Nat.mul_le_mul_right _ h
      rw [Nat.add_mul, Nat.add_mul] at this
      omega
    · exact h
  refine ⟨a1, ?_, ?_, hke, hek⟩
  · rw [Int.sub_mul, Int.one_mul, ← Int.natCast_mul]
    omega
  · constructor
    · intro h
      have : e = k + 1 := by omega
      subst this
      rw [Nat.add_mul] at b2
      have hnk : n = k * W := by omega
      rw [hnk]
      exact Nat.mul_mod_left k W
    · intro h
      have hd := Nat.div_add_mod n W
      have hk2 : k = n / W := by
        rw [← hk]
        unfold Ck.cnt
        rw [if_neg (by omega)]
        rfl
      have hn : n = k * W := by rw [hk2, Nat.mul_comm]; omega
      rcases Nat.lt_or_ge k e with h2 | h2
      · omega
      · have : e = k := by omega
        subst this
        omega
set_option maxRecDepth 100000 in
set_option maxHeartbeats 1600000 in
theorem chunkCounts_walk (O : ChunkOk) (P : PreOk) (a b c n : Int) (w : World) :
    Calls Try.prog 5 #[.int .i64 a, .int .i64 b, .int .i64 c, .int .i64 n] w fun e w' => e = .returned (.bool true) ∧ Gr w w' := by
  have HO := Lib.hid O
  have HP := Lib.hid P
  obtain ⟨N, hN, hN2⟩ : ∃ N : Nat, n % 1099511627776 = N ∧ N < 1099511627776 := ⟨(n % 1099511627776).toNat, by omega, by omega⟩
  have HN := Lib.hid hN
  have hmp : MayP (1 + a % 16) (1 + b % 4) (1 + c % 24) := by unfold MayP; omega
  obtain ⟨K, hK⟩ : ∃ K, 1 + a % 16 = K := ⟨_, rfl⟩
  obtain ⟨H, hH⟩ : ∃ K, 1 + b % 4 = K := ⟨_, rfl⟩
  obtain ⟨S, hS⟩ : ∃ K, 1 + c % 24 = K := ⟨_, rfl⟩
  have HPK : Hid (1 + a % 16 = K ∧ 1 + b % 4 = H ∧ 1 + c % 24 = S) := Lib.hid ⟨hK, hH, hS⟩
  rw [hK, hH, hS] at hmp
  have HM := Lib.hid hmp
  obtain ⟨hw1, hw2, hw3⟩ := Ck.wdt_in hmp
  obtain ⟨W, hW⟩ : ∃ W, Ck.wdt K S = W := ⟨_, rfl⟩
  rw [hW] at hw1 hw2 hw3
  obtain ⟨k, hk⟩ : ∃ k, Ck.cnt W N = k := ⟨_, rfl⟩
  obtain ⟨e1, he1⟩ : ∃ k, Ck.cnt W (N + 1) = k := ⟨_, rfl⟩
  have hkN : k ≤ N := by rw [← hk]; exact Ck.cnt_le hw1
  obtain ⟨s1, s2, s3, s4, s5⟩ := cnt_says hw1 hk he1
  obtain ⟨kw, hkw⟩ : ∃ kw : Nat, k * W = kw := ⟨_, rfl⟩
  have hkw2 : kw ≤ N + 384 := by
    have := (Ck.cnt_pos (n := N) hw1).2
    rw [hk, hkw] at this
    omega
  have C0 : Hid (Ck.countP K H S (N : Int) = (k : Int)) := Lib.hid (by unfold Ck.countP; rw [if_pos ⟨hmp, by omega⟩, hW, Int.toNat_natCast, hk])
  have C1 : Hid (Ck.countP K H S ((N : Int) + 1) = (e1 : Int)) := Lib.hid (by unfold Ck.countP; rw [if_pos ⟨hmp, by omega⟩, hW, show ((N : Int) + 1).toNat = N + 1 from by omega, he1])
  have C2 : Hid (Ck.countP K H S (kw : Int) = (k : Int)) := Lib.hid (by unfold Ck.countP; rw [if_pos ⟨hmp, by omega⟩, hW, Int.toNat_natCast, ← hkw, Ck.cnt_full hw1])
  have C3 : Hid (Ck.countP K H S (-1 - (N : Int)) = 0) := Lib.hid (if_neg fun h => by have := h.2; omega)
  have HKS := Lib.hid hw3.symm
  have hwr : IntKind.i64.wrap (K * S) = (W : Int) := by rw [HKS.out]; simp [IntKind.wrap, IntKind.bits, IntKind.signed]; omega
  have hkwI : (k : Int) * (W : Int) = (kw : Int) := by rw [← hkw]; exact (Int.natCast_mul k W).symm
  obtain ⟨r, hr⟩ : ∃ r, N % W = r := ⟨_, rfl⟩
  rw [hr] at s3
  rw [hkw] at s1
  obtain ⟨p, hp⟩ : ∃ p : Int, ((k : Int) - 1) * (W : Int) = p := ⟨_, rfl⟩
  have hpb : -384 ≤ p ∧ p ≤ 1099511628160 := by
    rw [Int.sub_mul, Int.one_mul, hkwI] at hp
    omega
  rw [hp] at s2
  have hr1 : (N : Int).tmod (W : Int) = (r : Int) := by rw [← hr]; rfl
  have hw0 : ((W : Int) == 0) = false := beq_eq_false_iff_ne.2 (by omega)
  have hd1 : (decide ((N : Int) ≤ kw)) = true := decide_eq_true (by omega)
  have hd2 : (decide (p < max (N : Int) 1)) = true := decide_eq_true s2
  have hd3 : ((((e1 : Int) - k) == 1) == ((r : Int) == 0)) = true := by
    by_cases h : r = 0
    · rw [beq_iff_eq.2 (s3.2 h), h]
      rfl
    · rw [beq_eq_false_iff_ne.2 (fun q => h (s3.1 q)), beq_eq_false_iff_ne.2 (by omega : ¬ (r : Int) = 0)]
      rfl
  have P0 : Hid (∀ w1 : World, Par (w1.alloc (.cells #[.int .i64 K, .int .i64 H, .int .i64 S] 23)) w1.heap.size K H S) := Lib.hid fun w1 => heap_alloc_new _ _
  have hwp : IntKind.i64.wrap (((k : Int) - 1) * (W : Int)) = p := by rw [hp]; simp [IntKind.wrap, IntKind.bits, IntKind.signed]; omega
  clear hN hmp hK hH hS hW hw3 hk he1 hkw hr hp s3
  go_enter Try.func5, Try.ntmps5
  go_wp2_with fail
  refine (params_any a b c _).mono ?_
  rw [HPK.out.1, HPK.out.2.1, HPK.out.2.2]
  rintro e w1 ⟨rfl, hg1⟩
  have P1 := Lib.hid (P0.out w1)
  have G1 : Hid (Gr w (w1.alloc (.cells #[.int .i64 K, .int .i64 H, .int .i64 S] 23))) := Lib.hid (Gr.alloc hg1 _ _)
  clear hg1 P0
  go_upto_region 2 with fail
  generalize w1.alloc (.cells #[.int .i64 K, .int .i64 H, .int .i64 S] 23) = W1 at *
  generalize w1.heap.size = gp at *
  have c0 := P1.out.cell0
  have c1 := P1.out.cell1
  have c2 := P1.out.cell2
  go_wp2_with fail
  refine (within_big n 1099511627776 (by omega) (by omega) _).mono ?_
  rw [HN.out]
  rintro e w' ⟨rfl, rfl⟩
  go_wp2_with fail
  refine (HO.out.count K H S N _ ⟨by omega, by omega⟩).mono ?_
  rw [C0.out]
  rintro e w2 ⟨rfl, hg2⟩
  have P2 := Lib.hid (P1.out.grown hg2)
  have G2 := Lib.hid (Gr.trans G1.out hg2)
  clear hg2 P1 G1 c0 c1 c2
  have c0 := P2.out.cell0
  have c1 := P2.out.cell1
  have c2 := P2.out.cell2
  go_wp2_with fail
  refine (HO.out.count K H S ((N : Int) + 1) _ ⟨by omega, by omega⟩).mono ?_
  rw [C1.out]
  rintro e w3 ⟨rfl, hg3⟩
  have P3 := Lib.hid (P2.out.grown hg3)
  have G3 := Lib.hid (Gr.trans G2.out hg3)
  clear hg3 P2 G2 c0 c1 c2
  have c0 := P3.out.cell0
  have c1 := P3.out.cell1
  have c2 := P3.out.cell2
  by_cases hN1 : 1 ≤ (N : Int)
  all_goals
    go_wp2_with fail
    refine (HO.out.count K H S kw _ ⟨by omega, by omega⟩).mono ?_
    rw [C2.out]
    rintro e w4 ⟨rfl, hg4⟩
    have P4 := Lib.hid (P3.out.grown hg4)
    have G4 := Lib.hid (Gr.trans G3.out hg4)
    clear hg4 P3 G3 c0 c1 c2
    have c0 := P4.out.cell0
    have c1 := P4.out.cell1
    have c2 := P4.out.cell2
    go_wp2_with fail
    refine (HO.out.count K H S (-1 - (N : Int)) _ ⟨by omega, by omega⟩).mono ?_
    rw [C3.out]
    rintro e w5 ⟨rfl, hg5⟩
    have P5 := Lib.hid (P4.out.grown hg5)
    have G5 := Lib.hid (Gr.trans G4.out hg5)
    clear hg5 P4 G4 c0 c1 c2
    have c0 := P5.out.cell0
    have c1 := P5.out.cell1
    have c2 := P5.out.cell2
    go_wp2_with fail
    refine (HP.out.may K H S _).mono ?_
    rw [decide_eq_true HM.out]
    rintro e w6 ⟨rfl, hg6⟩
    have G6 := Lib.hid (Gr.trans G5.out hg6)
    clear hg6 P5 G5 c0 c1 c2
    go_wp2_with fail
    refine (chunkWakes_any HO.out _).mono ?_
    rintro e w7 ⟨rfl, hg7⟩
    have G7 := Lib.hid (Gr.trans G6.out hg7)
    clear hg7
    go_wp2_with fail
    go_ret
    exact ⟨rfl, G7.out⟩
end Go.Proofs.Ytmbikmlknbinpaa
