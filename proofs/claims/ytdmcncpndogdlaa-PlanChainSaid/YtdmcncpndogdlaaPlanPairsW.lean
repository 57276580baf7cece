/-
  wellspringlaw13.PlanPairs: the walk.
-/
import Derived.Test.YtdmcncpndogdlaaMgn
import Derived.Test.YtdmcncpndogdlaaMgm
namespace Go.Proofs.Ytdmcncpndogdlaa
open Go.RowKit

/-- Two numbers written as a row, and that row as a list of one. -/
theorem lit_single {base : Nat} {W : World} {a b : Int} (ha : I64 a) (hb : I64 b) : ZsV base ((W.alloc (.cells #[.int .i64 a, .int .i64 b] 3)).alloc (.cells #[.slice (some ⟨W.heap.size, 0, none⟩) 2 2] 23)) (some ⟨W.heap.size + 1, 0, none⟩) 1 [[a, b]] := by
  have gA : Gr (W.alloc (.cells #[.int .i64 a, .int .i64 b] 3)) ((W.alloc (.cells #[.int .i64 a, .int .i64 b] 3)).alloc (.cells #[.slice (some ⟨W.heap.size, 0, none⟩) 2 2] 23)) := Gr.alloc (Gr.refl _) _ _
  have hsz : (W.alloc (.cells #[.int .i64 a, .int .i64 b] 3)).heap.size = W.heap.size + 1 := by simp
  have hblk := heap_alloc_new (W.alloc (.cells #[.int .i64 a, .int .i64 b] 3)) (.cells #[.slice (some ⟨W.heap.size, 0, none⟩) 2 2] 23 (0, 0))
  rw [hsz] at hblk
  refine ZsV.single (by rw [cell_of_row _ _ _ _ _ _ hblk]; rfl) ((two_zs a b ha hb).grown gA) fun a' m c e hm => .inr ?_
  cases e
  exact ⟨_, keptRow gA (heap_alloc_new W _)⟩
namespace PN
/-- The rows of the first c columns of a star. -/
def armL (m c : Nat) : List (List Int) := (List.range (if c ≤ m then c else c - 1)).map (armRow m)
theorem armL_low {m c : Nat} (h : c < m) : armL m (c + 1) = armL m c ++ [[(c : Int), (m : Int)]] := by
  unfold armL
  rw [if_pos (by omega), if_pos (by omega), List.range_succ, List.map_append, List.map_singleton]
  unfold armRow
  rw [if_pos h]
theorem armL_self (m : Nat) : armL m (m + 1) = armL m m := by
  unfold armL
  rw [if_neg (by omega), if_pos (by omega)]
  rfl
theorem armL_high {m c : Nat} (h : m < c) : armL m (c + 1) = armL m c ++ [[(m : Int), (c : Int)]] := by
  unfold armL
  rw [if_neg (by omega), if_neg (by omega), show c + 1 - 1 = (c - 1) + 1 by omega, List.range_succ, List.map_append, List.map_singleton]
  unfold armRow
  rw [if_neg (by omega), show ((c - 1 : Nat) : Int) + 1 = (c : Int) by omega]
theorem armL_length (m c : Nat) : (armL m c).length ≤ c := by
  unfold armL
  rw [List.length_map, List.length_range]
  split <;> omega
theorem armL_whole {m N : Nat} (hm : m < N) : (armL m N).length + 1 = N ∧ (∀ i, i + 1 < N → (armL m N).getD i [] = armRow m i) ∧ ∀ c ∈ armL m N, MayRow N c := by
  unfold armL
  rw [if_neg (by omega)]
  refine ⟨by simp; omega, fun i hi => ?_, fun c hc => ?_⟩
  · rw [List.getD_eq_getElem?_getD, List.getElem?_map, List.getElem?_range (by omega)]
    rfl
  · obtain ⟨i, hi, rfl⟩ := List.mem_map.1 hc
    have hi := List.mem_range.1 hi
    refine ⟨fun x hx => ?_, ?_⟩
    · have := arm_lt (i := i) hm (by omega)
      rcases (armRow_mem m i x).1 hx with rfl | rfl <;> omega
    · unfold armRow
      intro j hj
      split at hj <;> rename_i e
      · rw [if_pos e]
        have : j = 0 := by simp at hj; omega
        subst this
        show (i : Int) < (m : Int)
        omega
      · rw [if_neg e]
        have : j = 0 := by simp at hj; omega
        subst this
        show (m : Int) < (i : Int) + 1
        omega
theorem armL_row {m N : Nat} (_ : m < N) : ∀ c ∈ armL m N, c.length ≤ 1000 := fun c hc => by
  unfold armL at hc
  obtain ⟨i, _, rfl⟩ := List.mem_map.1 hc
  unfold armRow
  split <;> simp
end PN
set_option maxRecDepth 100000 in
set_option maxHeartbeats 3200000 in
theorem planPairs_walk (O : InactOk) (n m : Int) (w : World) :
    Calls Try.prog 6 #[.int .i64 n, .int .i64 m] w fun e w' => e = .returned (.bool true) ∧ Gr w w' := by
  have HO := Lib.hid O
  clear O
  obtain ⟨N, hN, hN2, hN3⟩ : ∃ N : Nat, 3 + n % 40 = (N : Int) ∧ N ≤ 42 ∧ 3 ≤ N := ⟨(3 + n % 40).toNat, by omega, by omega, by omega⟩
  obtain ⟨M, hM, hM2⟩ : ∃ M : Nat, m % (N : Int) = (M : Int) ∧ M < N := by
    have h1 := Int.emod_nonneg m (by omega : (N : Int) ≠ 0)
    have h2 := Int.emod_lt_of_pos m (by omega : (0 : Int) < N)
    exact ⟨(m % (N : Int)).toNat, by omega, by omega⟩
  have HN := Lib.hid hN
  have HM := Lib.hid hM
  clear hN hM
  go_enter Try.func6, Try.ntmps6
  go_wp2_with fail
  refine (within_any n 40 (by omega) (by omega) _).mono ?_
  rintro e w' ⟨rfl, rfl⟩
  go_wp2_with fail
  rw [HN.out]
  refine (within_any m N (by omega) (by omega) _).mono ?_
  rintro e w' ⟨rfl, rfl⟩
  rw [HM.out]
  go_wp2_with fail
  go_loopw [6, 7] (fun rv cv W => ∃ c : Nat, c ≤ N ∧ cv = .int .i64 c ∧ ZwO w.heap.size W rv (PN.armL M c) ∧ Gr w W) (fun _ cv _ => N - (intOf cv).toNat)
  case atStart => exact ⟨0, by omega, rfl, ZwO.nil _ _, Gr.refl _⟩
  case round =>
    obtain ⟨wo, hwo⟩ : ∃ x, x = wr := ⟨_, rfl⟩
    subst hwo
    obtain ⟨c, hc, rfl, ho, hg⟩ := hrel
    obtain ⟨oo, co, eo⟩ := ho.form
    obtain ⟨lo, hlo⟩ : ∃ k, (PN.armL M c).length = k := ⟨_, rfl⟩
    rw [hlo] at eo
    subst eo
    have hle := PN.armL_length M c
    rw [hlo] at hle
    have HOW := Lib.hid ho
    have HG := Lib.hid hg
    have HLO := Lib.hid hlo
    clear ho hg hlo
    by_cases hlt : c < N
    · rcases Nat.lt_trichotomy c M with e | e | e
      · have hst := Lib.hid (PN.armL_low e)
        have EV := Lib.hid (lit_single (base := w.heap.size) (W := wo) (a := (c : Int)) (b := (M : Int)) ⟨by omega, by omega⟩ ⟨by omega, by omega⟩)
        have gA : Gr wo ((wo.alloc (.cells #[.int .i64 (c : Int), .int .i64 (M : Int)] 3)).alloc (.cells #[.slice (some ⟨wo.heap.size, 0, none⟩) 2 2] 23)) := Gr.alloc (Gr.alloc (Gr.refl _) _ _) _ _
        have OE := Lib.hid (HOW.out.grown gA)
        have GW := Lib.hid (Gr.trans HG.out gA)
        clear gA
        go_wp2_with (at_builtin; refine wpList_append_zss rfl _ _ rfl w.heap.size (.slice oo lo co) (PN.armL M c) [[(c : Int), (M : Int)]] rfl OE.out (some ⟨wo.heap.size + 1, 0, none⟩) 1 1 rfl EV.out (fun e => by cases e) (by rw [HLO.out]; omega) GW.out.size ?_; intro v5 w5 h5 hg5 hgr5; have L5 := Lib.hid h5; have G5 := Lib.hid (hg5 w GW.out (Nat.le_refl _)); clear h5 hg5 hgr5)
        exact ⟨⟨c + 1, by omega, by go_num, by rw [hst.out]; exact L5.out, G5.out⟩, by simp [intOf]; omega⟩
      · subst e
        go_wp2_with fail
        exact ⟨⟨c + 1, by omega, by go_num, by rw [PN.armL_self]; exact HOW.out, HG.out⟩, by simp [intOf]; omega⟩
      · have hst := Lib.hid (PN.armL_high e)
        have EV := Lib.hid (lit_single (base := w.heap.size) (W := wo) (a := (M : Int)) (b := (c : Int)) ⟨by omega, by omega⟩ ⟨by omega, by omega⟩)
        have gA : Gr wo ((wo.alloc (.cells #[.int .i64 (M : Int), .int .i64 (c : Int)] 3)).alloc (.cells #[.slice (some ⟨wo.heap.size, 0, none⟩) 2 2] 23)) := Gr.alloc (Gr.alloc (Gr.refl _) _ _) _ _
        have OE := Lib.hid (HOW.out.grown gA)
        have GW := Lib.hid (Gr.trans HG.out gA)
        clear gA
        go_wp2_with (at_builtin; refine wpList_append_zss rfl _ _ rfl w.heap.size (.slice oo lo co) (PN.armL M c) [[(M : Int), (c : Int)]] rfl OE.out (some ⟨wo.heap.size + 1, 0, none⟩) 1 1 rfl EV.out (fun e => by cases e) (by rw [HLO.out]; omega) GW.out.size ?_; intro v5 w5 h5 hg5 hgr5; have L5 := Lib.hid h5; have G5 := Lib.hid (hg5 w GW.out (Nat.le_refl _)); clear h5 hg5 hgr5)
        exact ⟨⟨c + 1, by omega, by go_num, by rw [hst.out]; exact L5.out, G5.out⟩, by simp [intOf]; omega⟩
    · obtain rfl : c = N := by omega
      have HW := Lib.hid (PN.armL_whole hM2)
      have HWR := Lib.hid (PN.armL_row hM2)
      have HZ := Lib.hid HOW.out.zss
      clear HOW
      go_wp2_with fail
      refine (HO.out.plan c _ (PN.armL M c) _ ⟨by omega, by omega⟩ HZ.out (by rw [HLO.out]; omega) HWR.out).mono ?_
      rintro e w1 ⟨sv, dv, lv, st, de, le, ok, rfl, hs, hd, hl, hgp, hsy⟩
      rcases hsy with ⟨h, _⟩ | ⟨_, rfl, rfl, rfl, rfl⟩
      · exact absurd ⟨by omega, by omega, HW.out.2.2⟩ h
      rw [Int.toNat_natCast] at hs hd hl
      obtain ⟨q1, q2, q3, q4⟩ := PN.star (by omega) hM2 HW.out.1 HW.out.2.1 HW.out.2.2
      rw [q1] at hd
      rw [q3] at hl
      obtain ⟨os, cs, e1⟩ := hs.form
      obtain ⟨K, hK⟩ : ∃ k, (PN.steps c (PN.armL M c)).length = k := ⟨_, rfl⟩
      rw [hK] at e1 q2
      subst e1
      obtain ⟨od, cd, e2⟩ := hd.form
      have e2 : dv = .slice od 1 cd := e2
      subst e2
      obtain ⟨ol, cl, e3⟩ := hl.form
      have e3 : lv = .slice ol 0 cl := e3
      subst e3
      have HD := Lib.hid hd
      have HS := Lib.hid hs
      have G1 := Lib.hid (Gr.trans HG.out hgp)
      have Q4 := Lib.hid q4
      clear hs hd hl hgp q1 q3 q4 hK
      go_wp2_with fail
      have hg2 : Gr w1 ((w1.alloc (.cells #[.slice os K cs, .slice od 1 cd, .slice ol 0 cl] 31)).alloc (.cells #[.int .i64 (M : Int)] 3)) := Gr.alloc (Gr.alloc (Gr.refl _) _ _) _ _
      have hb2 : ((w1.alloc (.cells #[.slice os K cs, .slice od 1 cd, .slice ol 0 cl] 31)).alloc (.cells #[.int .i64 (M : Int)] 3)).heap[w1.heap.size]? = some (.cells #[.slice os K cs, .slice od 1 cd, .slice ol 0 cl] 31 (0, 0)) := keptRow (Gr.alloc (Gr.refl _) _ _) (heap_alloc_new _ _)
      have hsz : (w1.alloc (.cells #[.slice os K cs, .slice od 1 cd, .slice ol 0 cl] 31)).heap.size = w1.heap.size + 1 := by simp
      have hz := one_zs (w := w1.alloc (.cells #[.slice os K cs, .slice od 1 cd, .slice ol 0 cl] 31)) (M : Int) ⟨by omega, by omega⟩
      rw [hsz] at hz
      refine (sameZ_any _ _ [(M : Int)] [(M : Int)] _ (HD.out.grown hg2) hz).mono ?_
      rw [beq_self_eq_true]
      rintro e w3 ⟨rfl, hg3⟩
      have hb3 := keptRow hg3 hb2
      have p0 : w3.cell? ⟨w1.heap.size, 0, none⟩ = some (.slice os K cs) := by rw [cell_of_row _ _ _ _ _ _ hb3]; rfl
      have p2 : w3.cell? ⟨w1.heap.size, 2, none⟩ = some (.slice ol 0 cl) := by rw [cell_of_row _ _ _ _ _ _ hb3]; rfl
      have G3 := Lib.hid (Gr.trans G1.out (Gr.trans hg2 hg3))
      have S3 := Lib.hid (HS.out.grown (Gr.trans hg2 hg3))
      clear hg2 hg3 hz hsz hb2 hb3 HS HD G1 HZ
      go_wp2_with fail
      go_loopw [74] (fun iv W => ∃ i : Nat, i ≤ K ∧ iv = .int .i64 i ∧ Gr w3 W) (fun iv _ => K - (intOf iv).toNat)
      case atStart => exact ⟨0, by omega, rfl, Gr.refl _⟩
      case round =>
        obtain ⟨wq, hwq⟩ : ∃ x, x = wr := ⟨_, rfl⟩
        subst hwq
        obtain ⟨i, hi, rfl, hgi⟩ := hrel
        have GI := Lib.hid hgi
        clear hgi
        by_cases hik : i < K
        · obtain ⟨bs, os', rfl⟩ := S3.out.lay (by omega)
          obtain ⟨r1, r2⟩ := (S3.out.grown GI.out).at hik
          rw [Q4.out i (by omega)] at r1 r2
          have r1 : wq.cell? ⟨bs, os' + i * 2, none⟩ = some (.int .i64 (i : Int)) := r1
          have r2 : wq.cell? ⟨bs, os' + i * 2 + 1, none⟩ = some (.int .i64 (PN.arm M i : Int)) := r2
          have hne := PN.arm_ne M i
          have hal := PN.arm_lt (i := i) hM2 (by omega)
          generalize PN.arm M i = A at *
          have hne' : ¬ (A : Int) = M := by omega
          go_wp2_with fail
          exact ⟨⟨i + 1, by omega, by go_num, Gr.trans GI.out (Gr.alloc (Gr.refl _) _ _)⟩, by simp [intOf]; omega⟩
        · obtain rfl : i = K := by omega
          go_wp2_with fail
          refine (planWakes_any HO.out _).mono ?_
          rintro e w9 ⟨rfl, hg9⟩
          have G9 := Lib.hid (Gr.trans G3.out (Gr.trans GI.out hg9))
          clear hg9
          go_wp2_with fail
          go_ret
          exact ⟨rfl, G9.out⟩
end Go.Proofs.Ytdmcncpndogdlaa
