/-
  The document's example of package system; law SystemRight, walked.
-/
import Derived.Test.YtedobcajbelcpaaMgh
namespace Go.Proofs.Ytedobcajbelcpaa
open Go.RowKit

theorem sysWake_rank : rkL (matP 2 1 1 1 []) = 1 := by
  rw [matP_nil]
  have h := aheadP_in (K := 2) (H := 1) (S := 1) (by unfold MayP; omega)
  rw [show aheadP 2 1 1 = ahead 2 1 from h, ahead_rk]
theorem sysWake_len : (matP 2 1 1 1 []).length = 1 := by
  rw [matP_nil]
  have h := aheadP_in (K := 2) (H := 1) (S := 1) (by unfold MayP; omega)
  rw [show aheadP 2 1 1 = ahead 2 1 from h, ahead_length]
theorem sysWake_full : decide (FullP 2 1 1 1 []) = false := decide_eq_false fun h => by
  have h2 := h.2
  rw [sysWake_rank] at h2
  have : colsP 2 1 1 = 3 := by unfold colsP; rw [if_pos (by unfold MayP; omega)]; rfl
  omega
set_option maxRecDepth 100000 in
set_option maxHeartbeats 800000 in
theorem sysWakes_any (O : SystemOk) (w : World) : Calls Try.prog 12 #[] w fun e w' => e = .returned (.bool true) ∧ Gr w w' := by
  have HO := Lib.hid O
  have HL := Lib.hid sysWake_len
  clear O
  go_enter Try.func12, Try.ntmps12
  go_wp2_with fail
  have HP0 : Hid (Par (w.alloc (.cells #[.int .i64 2, .int .i64 1, .int .i64 1] 25)) w.heap.size 2 1 1) := Lib.hid (heap_alloc_new _ _)
  have HG0 : Hid (Gr w (w.alloc (.cells #[.int .i64 2, .int .i64 1, .int .i64 1] 25))) := Lib.hid (Gr.alloc (Gr.refl _) _ _)
  generalize w.alloc (.cells #[.int .i64 2, .int .i64 1, .int .i64 1] 25) = W0 at *
  generalize w.heap.size = gp at *
  have c0 := HP0.out.cell0
  have c1 := HP0.out.cell1
  have c2 := HP0.out.cell2
  refine (HO.out.matrix 2 1 1 1 _ [] _ (by omega) (Zs.nil _) (by simp)).mono ?_
  rintro e v1 ⟨y1, rfl, hb1, hg1⟩
  obtain ⟨o1, d1, hf1, _, _, _, _⟩ := hb1
  rw [HL.out] at hf1
  subst hf1
  have k10 := cell_grown hg1 c0
  have k11 := cell_grown hg1 c1
  have k12 := cell_grown hg1 c2
  have V1 := Lib.hid hg1
  clear hg1 c0 c1 c2
  go_wp2_with fail
  refine (HO.out.rank 2 1 1 1 _ [] _ (by omega) (Zs.nil _) (by simp)).mono ?_
  rw [sysWake_rank]
  rintro e v2 ⟨rfl, hg2⟩
  have k20 := cell_grown hg2 k10
  have k21 := cell_grown hg2 k11
  have k22 := cell_grown hg2 k12
  have V2 := Lib.hid hg2
  clear hg2 k10 k11 k12
  go_wp2_with fail
  refine (HO.out.full 2 1 1 1 _ [] _ (by omega) (Zs.nil _) (by simp)).mono ?_
  rw [sysWake_full]
  rintro e v3 ⟨rfl, hg3⟩
  have V3 := Lib.hid hg3
  clear hg3 k20 k21 k22
  have HGZ := Lib.hid (Gr.trans HG0.out (Gr.trans V1.out (Gr.trans V2.out V3.out)))
  go_wp2_with fail
  go_ret
  exact ⟨rfl, HGZ.out⟩
/-- 0, 1, .., n - 1, without k. -/
def lessI (n k : Nat) : List Int := (firstI n).filter fun i => decide (i ≠ (k : Int))
theorem lessI_succ (n k : Nat) : lessI (n + 1) k = if n = k then lessI n k else lessI n k ++ [(n : Int)] := by
  unfold lessI
  rw [firstI_succ, List.filter_append]
  by_cases e : n = k
  · subst e
    rw [if_pos rfl]
    simp
  · rw [if_neg e]
    have : ¬ ((n : Int) = (k : Int)) := by omega
    simp [this]
theorem lessI_le (n k : Nat) : (lessI n k).length ≤ n := by
  have := List.length_filter_le (fun i => decide (i ≠ (k : Int))) (firstI n)
  rw [firstI_length] at this
  exact this
theorem lessI_lt {n k : Nat} (h : k < n) : (lessI n k).length < n := by
  induction n with
  | zero => omega
  | succ n ih =>
    rw [lessI_succ]
    by_cases e : n = k
    · rw [if_pos e]
      have := lessI_le n k
      omega
    · rw [if_neg e, List.length_append]
      have := ih (by omega)
      simp
      omega
theorem lessI_i64 {n k : Nat} (h : n ≤ 1000) : ∀ x ∈ lessI n k, I64 x := fun x hx => firstI_i64 h x (List.mem_filter.1 hx).1
theorem few_not_full {K H : Nat} {S : Int} (hm : MayP K H S) (seed : Nat) (l : List Int) (h : l.length < K) : ¬ FullP K H S seed l := fun hf => by
  have h2 := hf.2
  have hw := rkL_le_rows (matP_wide hm seed l)
  have hl : (matP K H S seed l).length ≤ H + l.length := by
    rw [matP_in hm, List.length_append, ahead_length, List.length_map]
    have := List.length_filter_le (fun i => decide (MayI i)) l
    omega
  have : colsP K H S = K + H := by unfold colsP; rw [if_pos hm]
  omega
set_option maxRecDepth 100000 in
set_option maxHeartbeats 1600000 in
theorem systemRight_walk (O : SystemOk) (a b c sd gn : Int) (w : World) :
    Calls Try.prog 6 #[.int .i64 a, .int .i64 b, .int .i64 c, .int .u64 sd, .int .i64 gn] w fun e w' => e = .returned (.bool true) ∧ Gr w w' := by
  have HO0 := Lib.hid O
  clear O
  obtain ⟨s0, hs0, hs1⟩ : ∃ s : Nat, sd % 4294967296 = s ∧ s < 4294967296 := ⟨(sd % 4294967296).toNat, by omega, by omega⟩
  have hw32 : IntKind.u32.wrap sd = (s0 : Int) := by rw [← hs0]; simp [IntKind.wrap, IntKind.bits, IntKind.signed]
  obtain ⟨K, hK, K1, K2⟩ : ∃ K : Nat, 1 + a % 16 = K ∧ 1 ≤ K ∧ K ≤ 16 := ⟨(1 + a % 16).toNat, by omega, by omega, by omega⟩
  obtain ⟨H, hH, H1, H2⟩ : ∃ K : Nat, 1 + b % 4 = K ∧ 1 ≤ K ∧ K ≤ 4 := ⟨(1 + b % 4).toNat, by omega, by omega, by omega⟩
  obtain ⟨S, hS, S1, S2⟩ : ∃ K : Nat, 1 + c % 24 = K ∧ 1 ≤ K ∧ K ≤ 24 := ⟨(1 + c % 24).toNat, by omega, by omega, by omega⟩
  have HM : MayP K H S := by unfold MayP; omega
  obtain ⟨k, hk, k1⟩ : ∃ k : Nat, gn % (K : Int) = k ∧ k < K := ⟨(gn % (K : Int)).toNat, by have := Int.emod_nonneg gn (by omega : (K : Int) ≠ 0); omega, by have := Int.emod_lt_of_pos gn (by omega : (0 : Int) < K); have := Int.emod_nonneg gn (by omega : (K : Int) ≠ 0); omega⟩
  have HKK := Lib.hid hk
  have hfl : decide (FullP K H S s0 (lessI K k)) = false := decide_eq_false (few_not_full HM s0 _ (lessI_lt k1))
  have hr0 : decide (RightP (K : Int) 0 1 s0) = false := decide_eq_false fun h => by have := h.1; unfold MayP at this; omega
  have hrf : decide (RightP K H S s0) = decide (FullP K H S s0 (firstI K)) := decide_eq_decide.2 (by unfold RightP; rw [Int.toNat_natCast])
  have HFL := Lib.hid hfl
  have HR0 := Lib.hid hr0
  have HRF := Lib.hid hrf
  clear hfl hr0 hrf HM hk
  go_enter Try.func6, Try.ntmps6
  go_wp2_with fail
  refine (params_any a b c _).mono ?_
  rintro e w1 ⟨rfl, hg⟩
  rw [hK, hH, hS]
  clear hK hH hS
  go_wp2_with fail
  have HP : Hid (Par (w1.alloc (.cells #[.int .i64 (K : Int), .int .i64 (H : Int), .int .i64 (S : Int)] 25)) w1.heap.size K H S) := Lib.hid (heap_alloc_new _ _)
  have HG : Hid (Gr w (w1.alloc (.cells #[.int .i64 (K : Int), .int .i64 (H : Int), .int .i64 (S : Int)] 25))) := Lib.hid (Gr.alloc hg _ _)
  clear hg
  generalize w1.alloc (.cells #[.int .i64 (K : Int), .int .i64 (H : Int), .int .i64 (S : Int)] 25) = W0 at *
  generalize w1.heap.size = gp at *
  refine (within_any gn K (by omega) (by omega) _).mono ?_
  rintro e w' ⟨rfl, rfl⟩
  rw [HKK.out]
  go_wp2_with fail
  go_loopw [13, 14, 16] (fun lv mv iv W => ∃ i : Nat, i ≤ K ∧ iv = .int .i64 i ∧ W.ownsRow W0.heap.size 3 1 lv i ((firstI i).map (Value.int .i64)) ∧ W.ownsRow W0.heap.size 3 1 mv (lessI i k).length ((lessI i k).map (Value.int .i64)) ∧ ((∀ g, lv.ownBlock = some g → mv.ownBlock ≠ some g) ∧ Gr W0 W)) (fun _ _ iv _ => K - (intOf iv).toNat)
  case atStart => exact ⟨0, by omega, rfl, World.ownsRow_nil _ _ _ _, World.ownsRow_nil _ _ _ _, (fun g h => by simp [Value.ownBlock] at h), Gr.refl _⟩
  case round =>
    obtain ⟨wo, hwo⟩ : ∃ x, x = wr := ⟨_, rfl⟩
    subst hwo
    obtain ⟨i, hi, rfl, ho, ho2, hsep, hg⟩ := hrel
    obtain ⟨oo, co, rfl⟩ := ownsRow_form'' ho
    obtain ⟨m, hm⟩ : ∃ m, (lessI i k).length = m := ⟨_, rfl⟩
    rw [hm] at ho2
    obtain ⟨om, cm, rfl⟩ := ownsRow_form'' ho2
    have HM := Lib.hid hm
    have HO := Lib.hid ho
    have HO2 := Lib.hid ho2
    have HSEP := Lib.hid hsep
    have HGI := Lib.hid hg
    have HPI := Lib.hid (HP.out.grown hg)
    have c0 := HPI.out.cell0
    have c1 := HPI.out.cell1
    have c2 := HPI.out.cell2
    have hmle : m ≤ i := by rw [← hm]; exact lessI_le i k
    clear ho ho2 hsep hg hm
    by_cases hlt : i < K
    · have HS := Lib.hid (lessI_succ i k)
      by_cases e : i = k
      · subst e
        go_wp2_with (first
          | (at_builtin; refine wpList_append_int rfl _ _ rfl W0.heap.size (.slice oo i co) i (firstI i) rfl (HO.out.of_gr (Gr.alloc (Gr.refl _) _ _)) wo.heap.size (i : Int) rfl (by rw [cell_of_row _ _ 0 _ _ _ (heap_alloc_new wo _)]; rfl) (by omega) (by have := HGI.out.size; simp; omega) ?_; intro g3 cap3 w3 hown hgrow hlie; have O3 := Lib.hid hown; have S3 := Lib.hid (own_sep (HO2.out.of_gr (Gr.alloc (Gr.refl wo) _ _)) (fun g h h' => HSEP.out g h' h) hgrow hlie); have G3 := Lib.hid (gr_by_own (Gr.alloc HGI.out _ _) hgrow (HO.out.of_gr (Gr.alloc (Gr.refl _) _ _)) (Nat.le_refl _)); have P3 := HP.out.grown G3.out; have d0 := P3.cell0; have d1 := P3.cell1; have d2 := P3.cell2; clear hown hgrow hlie P3))
        refine ⟨⟨i + 1, by omega, by go_num, by rw [firstI_succ]; exact O3.out, ?_, fun g h h' => ?_, G3.out⟩, by simp [intOf]; omega⟩
        · rw [HS.out, if_pos rfl, HM.out]
          exact S3.out.1
        · cases h
          exact S3.out.2 h'
      · have e1 : ((i : Int) == (k : Int)) = false := by rw [beq_eq_false_iff_ne]; omega
        have e2 : (i == k) = false := by simpa using e
        go_wp2_with (first
          | (at_builtin; have hx3 := O3; refine wpList_append_int rfl _ _ rfl W0.heap.size (.slice om m cm) m (lessI i k) rfl (S3.out.1.of_gr (Gr.alloc (Gr.refl _) _ _)) w3.heap.size (i : Int) rfl (by rw [cell_of_row _ _ 0 _ _ _ (heap_alloc_new w3 _)]; rfl) (by omega) (by have := G3.out.size; simp; omega) ?_; intro g5 cap5 w5 hown hgrow hlie; have O5 := Lib.hid hown; have S5 := Lib.hid (own_sep (O3.out.of_gr (Gr.alloc (Gr.refl w3) _ _)) (fun g h h' => S3.out.2 (by cases h; exact h')) hgrow hlie); have G5 := Lib.hid (gr_by_own (Gr.alloc G3.out _ _) hgrow (S3.out.1.of_gr (Gr.alloc (Gr.refl _) _ _)) (Nat.le_refl _)); clear hown hgrow hlie)
          | (at_builtin; refine wpList_append_int rfl _ _ rfl W0.heap.size (.slice oo i co) i (firstI i) rfl (HO.out.of_gr (Gr.alloc (Gr.refl _) _ _)) wo.heap.size (i : Int) rfl (by rw [cell_of_row _ _ 0 _ _ _ (heap_alloc_new wo _)]; rfl) (by omega) (by have := HGI.out.size; simp; omega) ?_; intro g3 cap3 w3 hown hgrow hlie; have O3 := Lib.hid hown; have S3 := Lib.hid (own_sep (HO2.out.of_gr (Gr.alloc (Gr.refl wo) _ _)) (fun g h h' => HSEP.out g h' h) hgrow hlie); have G3 := Lib.hid (gr_by_own (Gr.alloc HGI.out _ _) hgrow (HO.out.of_gr (Gr.alloc (Gr.refl _) _ _)) (Nat.le_refl _)); have P3 := HP.out.grown G3.out; have d0 := P3.cell0; have d1 := P3.cell1; have d2 := P3.cell2; clear hown hgrow hlie P3))
        refine ⟨⟨i + 1, by omega, by go_num, by rw [firstI_succ]; exact S5.out.1, ?_, fun g h h' => ?_, G5.out⟩, by simp [intOf]; omega⟩
        · rw [HS.out, if_neg e, List.length_append, HM.out]
          exact O5.out
        · cases h
          cases h'
          exact S5.out.2 rfl
    · obtain rfl : i = K := by omega
      have ZF := Lib.hid (owns_zs HO.out (firstI_length i) (firstI_i64 (by omega)))
      have ZL := Lib.hid (owns_zs HO2.out HM.out (lessI_i64 (by omega)))
      obtain ⟨fb, hfb⟩ : ∃ fb, decide (FullP i H S s0 (firstI i)) = fb := ⟨_, rfl⟩
      have HFB := Lib.hid hfb
      clear hfb
      go_wp2_with fail
      go_region_held3 (fun W => W.cell? ⟨gp, 0, none⟩ = some (.int .i64 (i : Int)) ∧ W.cell? ⟨gp, 1, none⟩ = some (.int .i64 (H : Int)) ∧ W.cell? ⟨gp, 2, none⟩ = some (.int .i64 (S : Int))) (first | exact ⟨k50, k51, k52⟩ | exact ⟨k40, k41, k42⟩ | exact ⟨k30, k31, k32⟩ | exact ⟨k20, k21, k22⟩ | exact ⟨k10, k11, k12⟩ | go_keep)
        (first
          | (go_at_call 12; refine (sysWakes_any HO0.out _).mono ?_; rintro e v5 ⟨rfl, hg5⟩; have k50 := cell_grown hg5 (by exact k40); have k51 := cell_grown hg5 (by exact k41); have k52 := cell_grown hg5 (by exact k42); have V5 : Hid (Gr v4 v5) := Lib.hid hg5)
          | (go_at_call 21; have h3 := V3; refine (HO0.out.right i 0 1 s0 _ hs1).mono ?_; rw [HR0.out]; rintro e v4 ⟨rfl, hg4⟩; have k40 := cell_grown hg4 (by exact k30); have k41 := cell_grown hg4 (by exact k31); have k42 := cell_grown hg4 (by exact k32); have V4 : Hid (Gr v3 v4) := Lib.hid hg4)
          | (go_at_call 11; have h2 := V2; refine (HO0.out.full i H S s0 _ (lessI i k) _ hs1 (ZL.out.grown (Gr.trans V1.out V2.out)) (by have := lessI_le i k; omega)).mono ?_; rw [HFL.out]; rintro e v3 ⟨rfl, hg3⟩; have k30 := cell_grown hg3 (by exact k20); have k31 := cell_grown hg3 (by exact k21); have k32 := cell_grown hg3 (by exact k22); have V3 : Hid (Gr v2 v3) := Lib.hid hg3)
          | (go_at_call 11; have h1 := V1; refine (HO0.out.full i H S s0 _ (firstI i) _ hs1 (ZF.out.grown V1.out) (by rw [firstI_length]; omega)).mono ?_; rw [HFB.out]; rintro e v2 ⟨rfl, hg2⟩; have k20 := cell_grown hg2 (by exact k10); have k21 := cell_grown hg2 (by exact k11); have k22 := cell_grown hg2 (by exact k12); have V2 : Hid (Gr v1 v2) := Lib.hid hg2)
          | (go_at_call 21; refine (HO0.out.right i H S s0 _ hs1).mono ?_; rw [HRF.out, HFB.out]; rintro e v1 ⟨rfl, hg1⟩; have k10 := cell_grown hg1 (by exact c0); have k11 := cell_grown hg1 (by exact c1); have k12 := cell_grown hg1 (by exact c2); have V1 : Hid (Gr wo v1) := Lib.hid (by exact hg1)))
      all_goals
        have HGZ := Lib.hid (Gr.trans HG.out (Gr.trans HGI.out (Gr.trans V1.out (Gr.trans V2.out (Gr.trans V3.out (Gr.trans V4.out V5.out))))))
        go_wp2_with fail
        go_ret
        exact ⟨rfl, HGZ.out⟩
end Go.Proofs.Ytedobcajbelcpaa
