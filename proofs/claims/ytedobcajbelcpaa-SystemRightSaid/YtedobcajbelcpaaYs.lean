/-
  Package system as it was written: the matrix of a set of symbols, its rank, whether that is all, whether the first ones do.
-/
import Derived.Test.YtedobcajbelcpaaMgh
import Derived.Test.YtedobcajbelcpaaMgj
import Derived.Test.YtedobcajbelcpaaMgk
namespace Go.Proofs.Ytedobcajbelcpaa
open Go.RowKit

theorem rowP_len (K H S : Int) (seed : Nat) (x : Int) (hm : MayP K H S) : (MayI x → 0 < (rowP K H S seed x).length) ∧ (¬ MayI x → (rowP K H S seed x).length = 0) := by
  unfold rowP
  refine ⟨fun h => ?_, fun h => ?_⟩
  · rw [if_pos ⟨hm, h⟩, onesL_length]
    have := hm.1
    omega
  · rw [if_neg fun q => h q.2]
    rfl
theorem New.formL {w w' : World} {v : Value} {l : List Int} (h : New w w' v l) : ∃ o m c, v = .slice o m c ∧ m = l.length := by
  obtain ⟨o, c, e⟩ := (New.bs h).form
  exact ⟨o, _, c, e, rfl⟩
set_option maxRecDepth 100000 in
set_option maxHeartbeats 1600000 in
theorem sysMatrix_in (K H : Nat) (S : Int) (seed : Nat) (v : Value) (l : List Int) (w : World) (hm : MayP K H S) (hs : seed < 4294967296) (hz : Zs w v l) (hl : l.length ≤ 900) :
    Calls Try.prog 14 #[par K H S, .int .u32 (seed : Int), v] w fun e w' => ∃ u, e = .returned u ∧ Bss w' u (matP K H S seed l) ∧ Gr w w' := by
  have hd := decide_eq_true hm
  have HM := Lib.hid hm
  have HAH := Lib.hid fun W : World => rows_pre K H S W
  obtain ⟨n, hn⟩ : ∃ n, l.length = n := ⟨_, rfl⟩
  obtain ⟨hzi, oa, ca, rfl, z2, z3, z4, z5⟩ := hz
  rw [hn] at z2 z5 hl ⊢
  have HI := Lib.hid hzi
  have HC := Lib.hid z5
  have HN := Lib.hid hn
  have hoa : n = 0 ∨ ∃ a, oa = some a := by
    cases oa with
    | none => exact .inl (by have := z4 rfl; omega)
    | some a => exact .inr ⟨a, rfl⟩
  have P0 : Hid (Par (w.alloc (.cells #[.int .i64 (K : Int), .int .i64 (H : Int), .int .i64 S] 25)) w.heap.size K H S) := Lib.hid (heap_alloc_new _ _)
  have HG0 : Hid (Gr w (w.alloc (.cells #[.int .i64 (K : Int), .int .i64 (H : Int), .int .i64 S] 25))) := Lib.hid (Gr.alloc (Gr.refl _) _ _)
  clear hzi z5 hn z4 z2 z3 hm
  go_enter Try.func14, Try.ntmps14
  go_wp2_with fail
  generalize w.alloc (.cells #[.int .i64 (K : Int), .int .i64 (H : Int), .int .i64 S] 25) = W0 at *
  generalize hgp : w.heap.size = gp at *
  refine (may_pre K H S _).mono ?_
  rw [hd]
  rintro e w1 ⟨rfl, hg1⟩
  have P1 := Lib.hid (P0.out.grown hg1)
  have HG1 := Lib.hid (Gr.trans HG0.out hg1)
  clear hg1 P0 HG0
  have c0 := P1.out.cell0
  have c1 := P1.out.cell1
  have c2 := P1.out.cell2
  go_wp2_with fail
  refine (HAH.out _).mono ?_
  rintro e w2 ⟨v2, rfl, hr2, hg2⟩
  have hr2 := hr2.rws
  have P2 := Lib.hid (P1.out.grown hg2)
  have HG2 := Lib.hid (Gr.trans HG1.out hg2)
  have R2 : Hid (Rws w1.heap.size w2 v2 (matP K H S seed (l.take 0))) := Lib.hid (by
    rw [List.take_zero, matP_in HM.out]
    rw [aheadP_in HM.out] at hr2
    simpa using hr2)
  have HB : Hid (w.heap.size ≤ w1.heap.size) := Lib.hid HG1.out.size
  have HB2 : Hid (w1.heap.size ≤ w2.heap.size) := Lib.hid hg2.size
  generalize w1.heap.size = b1 at *
  obtain ⟨o2, m2, c2', rfl⟩ := R2.out.form4
  clear hr2 hg2 P1 HG1 c0 c1 c2
  go_wp2_with fail
  go_loopw [7, 18] (fun ov iv W => ∃ i : Nat, i ≤ n ∧ iv = .int .i64 i ∧ Rws b1 W ov (matP K H S seed (l.take i)) ∧ Par W gp K H S ∧ Gr w W ∧ b1 ≤ W.heap.size) (fun _ iv _ => n - (intOf iv).toNat)
  case atStart => exact ⟨0, by omega, rfl, R2.out, P2.out, HG2.out, HB2.out⟩
  case round =>
    clear R2 P2 HG2
    obtain ⟨wo, hwo⟩ : ∃ x, x = wr := ⟨_, rfl⟩
    subst hwo
    obtain ⟨i, hin, rfl, hr, hp, hg, hb1⟩ := hrel
    obtain ⟨oo, mo, co, rfl⟩ := hr.form4
    have c0 := hp.cell0
    have c1 := hp.cell1
    have c2 := hp.cell2
    have HR := Lib.hid hr
    have HP := Lib.hid hp
    have HG := Lib.hid hg
    have HB1 := Lib.hid hb1
    clear hr hp hg hb1
    by_cases hlt : i < n
    · obtain ⟨a, rfl⟩ : ∃ a, oa = some a := by
        rcases hoa with c1 | c1
        · omega
        · exact c1
      have q1 := cell_grown HG.out (HC.out a rfl i hlt)
      obtain ⟨x, hx⟩ : ∃ x, l.getD i 0 = x := ⟨_, rfl⟩
      rw [hx] at q1
      have hxi : I64 x := by rw [← hx]; exact HI.out _ (by rw [List.getD_eq_getElem?_getD, List.getElem?_eq_getElem (by rw [HN.out]; exact hlt)]; exact List.getElem_mem _)
      have HXI := Lib.hid hxi
      have HML := Lib.hid (matP_length K H S seed (l.take i))
      have HLL : Hid ((l.take i).length = i) := Lib.hid (by rw [List.length_take, HN.out]; omega)
      have HS : Hid (matP K H S seed (l.take (i + 1)) = matP K H S seed (l.take i) ++ if MayP K H S ∧ MayI x then [rowP K H S seed x] else []) := Lib.hid (by
        rw [List.take_add_one, List.getElem?_eq_getElem (by rw [HN.out]; exact hlt), ← hx, List.getD_eq_getElem?_getD, List.getElem?_eq_getElem (by rw [HN.out]; exact hlt)]
        exact matP_snoc K H S seed (l.take i) _)
      clear hx
      have HL0 := Lib.hid (rowP_len K H S seed x HM.out)
      go_wp2_with fail
      refine (lt_ok.row K H S seed x _ hs HXI.out).mono ?_
      rintro e w3 ⟨v3, rfl, hn3⟩
      obtain ⟨o3, m3, c3, rfl, hm3⟩ := New.formL hn3
      have NW := Lib.hid hn3
      have HR3 := Lib.hid (HR.out.grown hn3.1)
      have HP3 := Lib.hid (HP.out.grown hn3.1)
      have HG3 := Lib.hid (Gr.trans HG.out hn3.1)
      have HB3 : Hid (b1 ≤ w3.heap.size) := Lib.hid (Nat.le_trans HB1.out hn3.1.size)
      clear hn3 HR HP HG HB1 c0 c1 c2
      by_cases hi : MayI x
      · have hm0 : 0 < m3 := by
          have := HL0.out.1 hi
          omega
        have HII := Lib.hid hi
        clear hi hm3
        go_wp2_with (at_builtin; refine wpList_append_row rfl _ _ rfl b1 (.slice oo mo co) (matP K H S seed (l.take i)) rfl (HR3.out.grown (Gr.alloc (Gr.refl _) _ _)) w3.heap.size (.slice o3 m3 c3) (rowP K H S seed x) rfl (by rw [cell_of_row _ _ 0 _ _ _ (heap_alloc_new w3 _)]; rfl) (Bs.grown (New.bs NW.out) (Gr.alloc (Gr.refl _) _ _)) (Rb.gr (New.bs NW.out) (New.rb NW.out b1) (Gr.alloc (Gr.refl _) _ _)).2 (by have := HML.out; rw [HLL.out] at this; omega) (by have := HB3.out; simp; omega) ?_; intro v5 w5 hr5 hg5 hk5; have R5 := Lib.hid hr5; have G5 := Lib.hid hg5; have K5 := Lib.hid hk5; clear hr5 hg5 hk5)
        have hg3 : Gr w (w3.alloc (.cells #[.slice o3 m3 c3] 41)) := Gr.alloc HG3.out _ _
        exact ⟨⟨i + 1, by omega, by go_num, by rw [HS.out, if_pos ⟨HM.out, HII.out⟩]; exact R5.out, K5.out.2 _ _ _ _ (HP3.out.grown (Gr.alloc (Gr.refl _) _ _)) (by decide), G5.out w hg3 HB.out, Nat.le_trans HB3.out (Nat.le_trans (by simp) K5.out.1)⟩, by simp [intOf]; omega⟩
      · have hm0 : m3 = 0 := by
          have := HL0.out.2 hi
          omega
        have HII := Lib.hid hi
        subst hm0
        clear hi hm3
        go_wp2_with fail
        exact ⟨⟨i + 1, by omega, by go_num, by rw [HS.out, if_neg (fun h => HII.out h.2), List.append_nil]; exact HR3.out, HP3.out, HG3.out, HB3.out⟩, by simp [intOf]; omega⟩
    · obtain rfl : i = n := by omega
      go_wp2_with fail
      go_ret
      refine ⟨_, rfl, ?_, HG.out⟩
      have := HR.out.bss
      rwa [List.take_of_length_le (by rw [HN.out]; exact Nat.le_refl _)] at this
set_option maxRecDepth 100000 in
set_option maxHeartbeats 400000 in
theorem sysMatrix_ne (K H S : Int) (seed : Nat) (v : Value) (l : List Int) (w : World) (hm : ¬ MayP K H S) (hz : Zs w v l) :
    Calls Try.prog 14 #[par K H S, .int .u32 (seed : Int), v] w fun e w' => e = .returned (.slice none 0 0) ∧ Gr w w' := by
  have hd := decide_eq_false hm
  obtain ⟨o, c, rfl⟩ := hz.form
  have HG0 : Hid (Gr w (w.alloc (.cells #[.int .i64 K, .int .i64 H, .int .i64 S] 25))) := Lib.hid (Gr.alloc (Gr.refl _) _ _)
  clear hm hz
  go_enter Try.func14, Try.ntmps14
  go_wp2_with fail
  refine (may_pre K H S _).mono ?_
  rw [hd]
  rintro e w1 ⟨rfl, hg1⟩
  have HG1 := Lib.hid (Gr.trans HG0.out hg1)
  clear hg1
  go_wp2_with fail
  go_ret
  exact ⟨rfl, HG1.out⟩
theorem sysMatrix_any (K H S : Int) (seed : Nat) (v : Value) (l : List Int) (w : World) (hs : seed < 4294967296) (hz : Zs w v l) (hl : l.length ≤ 900) :
    Calls Try.prog 14 #[par K H S, .int .u32 (seed : Int), v] w fun e w' => ∃ u, e = .returned u ∧ Bss w' u (matP K H S seed l) ∧ Gr w w' := by
  by_cases hm : MayP K H S
  · obtain ⟨k, rfl⟩ : ∃ k : Nat, K = k := ⟨K.toNat, by have := hm.1; omega⟩
    obtain ⟨h, rfl⟩ : ∃ h : Nat, H = h := ⟨H.toNat, by have := hm.2.2.1; omega⟩
    exact sysMatrix_in k h S seed v l w hm hs hz hl
  · rw [matP_ne hm]
    refine (sysMatrix_ne K H S seed v l w hm hz).mono ?_
    rintro e w' ⟨rfl, hg⟩
    exact ⟨_, rfl, Bss.nil _, hg⟩
set_option maxRecDepth 100000 in
set_option maxHeartbeats 400000 in
theorem sysRank_any (K H S : Int) (seed : Nat) (v : Value) (l : List Int) (w : World) (hs : seed < 4294967296) (hz : Zs w v l) (hl : l.length ≤ 900) :
    Calls Try.prog 10 #[par K H S, .int .u32 (seed : Int), v] w fun e w' => e = .returned (.int .i64 (rkL (matP K H S seed l))) ∧ Gr w w' := by
  have HG0 : Hid (Gr w (w.alloc (.cells #[.int .i64 K, .int .i64 H, .int .i64 S] 25))) := Lib.hid (Gr.alloc (Gr.refl _) _ _)
  have HZ := Lib.hid hz
  obtain ⟨o, c, rfl⟩ := hz.form
  have HL := Lib.hid hl
  have HLE := Lib.hid (matP_length K H S seed l)
  clear hz hl
  generalize hn : l.length = n at *
  go_enter Try.func10, Try.ntmps10
  go_wp2_with fail
  refine (sysMatrix_any K H S seed _ l _ hs (HZ.out.grown HG0.out) (by have := HL.out; omega)).mono ?_
  rintro e w1 ⟨u, rfl, hb, hg⟩
  obtain ⟨ou, mu, cu, rfl⟩ := hb.form3
  have HB := Lib.hid hb
  have HG1 := Lib.hid (Gr.trans HG0.out hg)
  clear hb hg
  go_wp2_with fail
  refine (ok_rank _ _ (matP K H S seed l) _ (.inl rfl) HB.out (by have := HLE.out; have := HL.out; omega) (matP_may K H S seed l)).mono ?_
  rintro e w2 ⟨rfl, hg⟩
  have HG2 := Lib.hid (Gr.trans HG1.out hg)
  clear hg
  go_wp2_with fail
  go_ret
  exact ⟨rfl, HG2.out⟩
set_option maxRecDepth 100000 in
set_option maxHeartbeats 800000 in
theorem sysFull_any (K H S : Int) (seed : Nat) (v : Value) (l : List Int) (w : World) (hs : seed < 4294967296) (hz : Zs w v l) (hl : l.length ≤ 900) :
    Calls Try.prog 11 #[par K H S, .int .u32 (seed : Int), v] w fun e w' => e = .returned (.bool (decide (FullP K H S seed l))) ∧ Gr w w' := by
  have HG0 : Hid (Gr w (w.alloc (.cells #[.int .i64 K, .int .i64 H, .int .i64 S] 25))) := Lib.hid (Gr.alloc (Gr.refl _) _ _)
  have P0 : Hid (Par (w.alloc (.cells #[.int .i64 K, .int .i64 H, .int .i64 S] 25)) w.heap.size K H S) := Lib.hid (heap_alloc_new _ _)
  have HZ := Lib.hid hz
  obtain ⟨o, m, c, rfl⟩ : ∃ o m c, v = .slice o m c := by
    obtain ⟨o, c, h⟩ := hz.form
    exact ⟨o, _, c, h⟩
  have HL := Lib.hid hl
  obtain ⟨r, hr⟩ : ∃ r, rkL (matP K H S seed l) = r := ⟨_, rfl⟩
  obtain ⟨q, hq⟩ : ∃ q, colsP K H S = q := ⟨_, rfl⟩
  have HF : Hid (decide (FullP K H S seed l) = (decide (MayP K H S) && ((r : Int) == q))) := Lib.hid (by
    have h : FullP K H S seed l ↔ (MayP K H S ∧ (r : Int) = q) := by unfold FullP; rw [hr, hq]
    exact (decide_eq_decide.2 h).trans (by rw [Bool.decide_and]; rfl))
  have HR := Lib.hid hr
  have HQ := Lib.hid hq
  clear hz hl hr hq
  by_cases hm : MayP K H S
  · have hd := decide_eq_true hm
    have HD := Lib.hid hd
    clear hm
    go_enter Try.func11, Try.ntmps11
    go_wp2_with fail
    generalize w.alloc (.cells #[.int .i64 K, .int .i64 H, .int .i64 S] 25) = W0 at *
    generalize w.heap.size = gp at *
    have c0 := P0.out.cell0
    have c1 := P0.out.cell1
    have c2 := P0.out.cell2
    go_region_held3 (fun W => W.cell? ⟨gp, 0, none⟩ = some (.int .i64 K) ∧ W.cell? ⟨gp, 1, none⟩ = some (.int .i64 H) ∧ W.cell? ⟨gp, 2, none⟩ = some (.int .i64 S)) (first | exact ⟨k30, k31, k32⟩ | exact ⟨k20, k21, k22⟩ | exact ⟨k10, k11, k12⟩ | go_keep)
      (first
        | (go_at_call 13; refine (cols_pre K H S _).mono ?_; rw [HQ.out]; rintro e v3 ⟨rfl, hg3⟩; have k30 := cell_grown hg3 (by exact k20); have k31 := cell_grown hg3 (by exact k21); have k32 := cell_grown hg3 (by exact k22); have V3 : Hid (Gr v2 v3) := Lib.hid hg3)
        | (go_at_call 10; refine (sysRank_any K H S seed _ l _ hs (HZ.out.grown (Gr.trans HG0.out V1.out)) HL.out).mono ?_; rw [HR.out]; rintro e v2 ⟨rfl, hg2⟩; have k20 := cell_grown hg2 (by exact k10); have k21 := cell_grown hg2 (by exact k11); have k22 := cell_grown hg2 (by exact k12); have V2 : Hid (Gr v1 v2) := Lib.hid hg2)
        | (go_at_call 22; refine (may_pre K H S _).mono ?_; rw [hd]; rintro e v1 ⟨rfl, hg1⟩; have k10 := cell_grown hg1 (by exact c0); have k11 := cell_grown hg1 (by exact c1); have k12 := cell_grown hg1 (by exact c2); have V1 : Hid (Gr W0 v1) := Lib.hid (by exact hg1)))
    have HGZ := Lib.hid (Gr.trans HG0.out (Gr.trans V1.out (Gr.trans V2.out V3.out)))
    go_wp2_with fail
    go_ret
    refine ⟨?_, HGZ.out⟩
    rw [HF.out, HD.out, Bool.true_and]
    rfl
  · have hd := decide_eq_false hm
    have HD := Lib.hid hd
    clear hm
    go_enter Try.func11, Try.ntmps11
    go_wp2_with fail
    generalize w.alloc (.cells #[.int .i64 K, .int .i64 H, .int .i64 S] 25) = W0 at *
    generalize w.heap.size = gp at *
    have c0 := P0.out.cell0
    have c1 := P0.out.cell1
    have c2 := P0.out.cell2
    refine wp_region_held_drew (S := fun W => W.cell? ⟨gp, 0, none⟩ = some (.int .i64 K) ∧ W.cell? ⟨gp, 1, none⟩ = some (.int .i64 H) ∧ W.cell? ⟨gp, 2, none⟩ = some (.int .i64 S)) (by kernel_rfl) (by exact ⟨c0, c1, c2⟩) (fun hHeld => ?_)
    refine wpAnyH_yield (i := 0) (v := par K H S) rfl rfl (by kernel_rfl) (by kernel_rfl) (by kernel_rfl) (fun _ _ _ h => h) (Or.inl ⟨by rfl, fun W hW => by obtain ⟨h0, h1, h2⟩ := hW; go_simp⟩) (by assumption) ?_
    simp only [List.setIfInBounds_toArray, List.set_cons_zero, List.set_cons_succ]
    refine wpAnyH_ready (rs := [1]) (by kernel_rfl) (by simp) ?_
    refine AllReadyH.cons rfl (fun K' hK => ?_) AllReadyH.nil
    go_simp
    go_at_call 22
    refine (may_pre K H S _).mono ?_
    rw [hd]
    rintro e v1 ⟨rfl, hg1⟩
    go_wp2_with fail
    refine hK.out _ _ ⟨cell_grown hg1 c0, cell_grown hg1 c1, cell_grown hg1 c2⟩ (fun hHeld => ?_)
    clear hK
    refine wpAnyH_yield (i := 2) (v := .bool false) rfl rfl (by kernel_rfl) (by kernel_rfl) (by kernel_rfl) (fun _ _ _ h => h) (Or.inl ⟨by rfl, fun W hW => by first | (go_simp; done) | (go_simp; with_reducible rfl)⟩) (by assumption) ?_
    simp only [List.setIfInBounds_toArray, List.set_cons_zero, List.set_cons_succ]
    refine wpAnyH_skip (i := 3) rfl rfl (by kernel_rfl) (by kernel_rfl) (by kernel_rfl) (fun _ _ _ h => h) (by rfl) (by assumption) ?_
    simp only [List.setIfInBounds_toArray, List.set_cons_zero, List.set_cons_succ]
    refine wpAnyH_skip (i := 4) rfl rfl (by kernel_rfl) (by kernel_rfl) (by kernel_rfl) (fun _ _ _ h => h) (by rfl) (by assumption) ?_
    simp only [List.setIfInBounds_toArray, List.set_cons_zero, List.set_cons_succ]
    refine wpAnyH_skip (i := 5) rfl rfl (by kernel_rfl) (by kernel_rfl) (by kernel_rfl) (fun _ _ _ h => h) (by rfl) (by assumption) ?_
    simp only [List.setIfInBounds_toArray, List.set_cons_zero, List.set_cons_succ]
    refine wpAnyH_skip (i := 6) rfl rfl (by kernel_rfl) (by kernel_rfl) (by kernel_rfl) (fun _ _ _ h => h) (by rfl) (by assumption) ?_
    simp only [List.setIfInBounds_toArray, List.set_cons_zero, List.set_cons_succ]
    refine wpAnyH_skip (i := 7) rfl rfl (by kernel_rfl) (by kernel_rfl) (by kernel_rfl) (fun _ _ _ h => h) (by rfl) (by assumption) ?_
    simp only [List.setIfInBounds_toArray, List.set_cons_zero, List.set_cons_succ]
    refine wpAnyH_skip (i := 8) rfl rfl (by kernel_rfl) (by kernel_rfl) (by kernel_rfl) (fun _ _ _ h => h) (by rfl) (by assumption) ?_
    simp only [List.setIfInBounds_toArray, List.set_cons_zero, List.set_cons_succ]
    refine wpAnyH_skip (i := 9) rfl rfl (by kernel_rfl) (by kernel_rfl) (by kernel_rfl) (fun _ _ _ h => h) (by rfl) (by assumption) ?_
    simp only [List.setIfInBounds_toArray, List.set_cons_zero, List.set_cons_succ]
    refine wpAnyH_yield (i := 10) (v := .bool false) rfl rfl (by kernel_rfl) (by kernel_rfl) (by kernel_rfl) (fun _ _ _ h => h) (Or.inl ⟨by rfl, fun W hW => by first | (go_simp; done) | (go_simp; with_reducible rfl)⟩) (by assumption) ?_
    simp only [List.setIfInBounds_toArray, List.set_cons_zero, List.set_cons_succ]
    refine wpAnyH_yield (i := 11) (v := .bool false) rfl rfl (by kernel_rfl) (by kernel_rfl) (by kernel_rfl) (fun _ _ _ h => h) (Or.inl ⟨by rfl, fun W hW => by first | (go_simp; done) | (go_simp; with_reducible rfl)⟩) (by assumption) ?_
    simp only [List.setIfInBounds_toArray, List.set_cons_zero, List.set_cons_succ]
    refine wpAnyH_done (by kernel_rfl) ?_ _
    have HGZ : Hid (Gr W0 v1) := Lib.hid (by exact hg1)
    clear hg1 hHeld
    go_wp2_with fail
    go_ret
    refine ⟨?_, Gr.trans HG0.out HGZ.out⟩
    rw [HF.out, HD.out, Bool.false_and]
    rfl
def partI (N i : Nat) : List Int := firstI i ++ List.replicate (N - i) 0
theorem partI_zero (N : Nat) : partI N 0 = List.replicate N 0 := by simp [partI, firstI]
theorem partI_all (N : Nat) : partI N N = firstI N := by simp [partI]
theorem partI_length {N i : Nat} (h : i ≤ N) : (partI N i).length = N := by
  simp [partI, firstI_length]
  omega
theorem partI_set {N i : Nat} (h : i < N) : (partI N i).set i (i : Int) = partI N (i + 1) := by
  unfold partI
  have hl := firstI_length i
  rw [List.set_append, if_neg (by omega), hl, Nat.sub_self]
  obtain ⟨m, hm⟩ : ∃ m, N - i = m + 1 := ⟨N - i - 1, by omega⟩
  rw [hm, List.replicate_succ, List.set_cons_zero, firstI_succ, show N - (i + 1) = m from by omega, List.append_assoc]
  simp
set_option maxRecDepth 100000 in
set_option maxHeartbeats 800000 in
theorem first_any (N : Nat) (w : World) (h2 : N ≤ 64) :
    Calls Try.prog 29 #[.int .i64 N] w fun e w' => ∃ v, e = .returned v ∧ Zs w' v (firstI N) ∧ Gr w w' := by
  have hmk := makeZ N N (by omega) (by omega)
  go_enter Try.func29, Try.ntmps29
  go_wp2_with fail
  obtain ⟨g, hg⟩ : ∃ g, w.heap.size = g := ⟨_, rfl⟩
  have hgl : w.heap.size ≤ g := by omega
  have B0 : Hid (Blz (w.alloc (.cells (rowZ (List.replicate N 0)) 3)) g (partI N 0)) := Lib.hid (by
    rw [partI_zero, ← hg]
    exact heap_alloc_new _ _)
  have G2 : Hid (Gr w (w.alloc (.cells (rowZ (List.replicate N 0)) 3))) := Lib.hid (Gr.alloc (Gr.refl _) _ _)
  have HGL := Lib.hid hgl
  rw [hg]
  generalize w.alloc (.cells (rowZ (List.replicate N 0)) 3) = w2 at *
  clear hmk hg hgl
  go_loopw [9] (fun iv W => ∃ i : Nat, i ≤ N ∧ iv = .int .i64 i ∧ Blz W g (partI N i) ∧ Gr w W) (fun iv _ => N - (intOf iv).toNat)
  case atStart => exact ⟨0, by omega, rfl, B0.out, G2.out⟩
  case round =>
    obtain ⟨i, hi, rfl, hb, hgr⟩ := hrel
    have HB := Lib.hid hb
    have HG := Lib.hid hgr
    clear hb hgr
    by_cases hlt : i < N
    · have HST := Lib.hid (partI_set hlt)
      have q := HB.out.cell i (by rw [partI_length hi]; exact hlt)
      have qf := frozen_of_row _ g i _ _ HB.out
      generalize (partI N i).getD i 0 = old at *
      go_wp2
      refine ⟨⟨i + 1, by omega, by go_num, ?_, ?_⟩, by simp [intOf]; omega⟩
      · rw [← HST.out]
        have h := HB.out
        unfold Blz at h ⊢
        rw [heap_setCell_same _ _ _ _ _ _ h, rowZ_set]
      · exact HG.out.setCell HGL.out _
    · obtain rfl : i = N := by omega
      go_wp2
      go_ret
      have hz := HB.out
      rw [partI_all] at hz
      have := Blz.zs hz (firstI i) i (by omega) (by rw [firstI_length]; omega) (by omega) (firstI_i64 (by omega)) (fun _ _ => rfl)
      rw [firstI_length] at this
      exact ⟨_, rfl, this, HG.out⟩
set_option maxRecDepth 100000 in
set_option maxHeartbeats 800000 in
theorem sysRight_any (K H S : Int) (seed : Nat) (w : World) (hs : seed < 4294967296) :
    Calls Try.prog 21 #[par K H S, .int .u32 (seed : Int)] w fun e w' => e = .returned (.bool (decide (RightP K H S seed))) ∧ Gr w w' := by
  have HG0 : Hid (Gr w (w.alloc (.cells #[.int .i64 K, .int .i64 H, .int .i64 S] 25))) := Lib.hid (Gr.alloc (Gr.refl _) _ _)
  have P0 : Hid (Par (w.alloc (.cells #[.int .i64 K, .int .i64 H, .int .i64 S] 25)) w.heap.size K H S) := Lib.hid (heap_alloc_new _ _)
  by_cases hm : MayP K H S
  · have hd := decide_eq_true hm
    obtain ⟨k, rfl⟩ : ∃ k : Nat, K = k := ⟨K.toNat, by have := hm.1; omega⟩
    have hk : k ≤ 16 := by have := hm.2.1; omega
    have HRP : Hid (decide (RightP k H S seed) = decide (FullP k H S seed (firstI k))) := Lib.hid (by
      refine decide_eq_decide.2 ?_
      unfold RightP
      rw [Int.toNat_natCast])
    clear hm
    go_enter Try.func21, Try.ntmps21
    go_wp2_with fail
    generalize w.alloc (.cells #[.int .i64 (k : Int), .int .i64 H, .int .i64 S] 25) = W0 at *
    generalize w.heap.size = gp at *
    have c0 := P0.out.cell0
    have c1 := P0.out.cell1
    have c2 := P0.out.cell2
    go_region_held3 (fun W => W.cell? ⟨gp, 0, none⟩ = some (.int .i64 k) ∧ W.cell? ⟨gp, 1, none⟩ = some (.int .i64 H) ∧ W.cell? ⟨gp, 2, none⟩ = some (.int .i64 S)) (first | exact ⟨k30, k31, k32⟩ | exact ⟨k20, k21, k22⟩ | exact ⟨k10, k11, k12⟩ | go_keep)
      (first
        | (go_at_call 11; refine (sysFull_any k H S seed _ (firstI k) _ hs Z2.out (by rw [firstI_length]; omega)).mono ?_; rw [← HRP.out]; rintro e v3 ⟨rfl, hg3⟩; have k30 := cell_grown hg3 (by exact k20); have k31 := cell_grown hg3 (by exact k21); have k32 := cell_grown hg3 (by exact k22); have V3 : Hid (Gr v2 v3) := Lib.hid hg3)
        | (go_at_call 29; refine (first_any k _ (by omega)).mono ?_; rintro e v2 ⟨u2, rfl, hz2, hg2⟩; have k20 := cell_grown hg2 (by exact k10); have k21 := cell_grown hg2 (by exact k11); have k22 := cell_grown hg2 (by exact k12); have Z2 := Lib.hid hz2; have V2 : Hid (Gr v1 v2) := Lib.hid hg2)
        | (go_at_call 22; refine (may_pre k H S _).mono ?_; rw [hd]; rintro e v1 ⟨rfl, hg1⟩; have k10 := cell_grown hg1 (by exact c0); have k11 := cell_grown hg1 (by exact c1); have k12 := cell_grown hg1 (by exact c2); have V1 : Hid (Gr W0 v1) := Lib.hid (by exact hg1)))
    have HGZ := Lib.hid (Gr.trans HG0.out (Gr.trans V1.out (Gr.trans V2.out V3.out)))
    go_wp2_with fail
    go_ret
    exact ⟨rfl, HGZ.out⟩
  · have hd := decide_eq_false hm
    have hr : decide (RightP K H S seed) = false := decide_eq_false fun h => hm h.1
    rw [hr]
    clear hm hr
    go_enter Try.func21, Try.ntmps21
    go_wp2_with fail
    generalize w.alloc (.cells #[.int .i64 K, .int .i64 H, .int .i64 S] 25) = W0 at *
    generalize w.heap.size = gp at *
    have c0 := P0.out.cell0
    have c1 := P0.out.cell1
    have c2 := P0.out.cell2
    refine wp_region_held_drew (S := fun W => W.cell? ⟨gp, 0, none⟩ = some (.int .i64 K) ∧ W.cell? ⟨gp, 1, none⟩ = some (.int .i64 H) ∧ W.cell? ⟨gp, 2, none⟩ = some (.int .i64 S)) (by kernel_rfl) (by exact ⟨c0, c1, c2⟩) (fun hHeld => ?_)
    refine wpAnyH_yield (i := 0) (v := par K H S) rfl rfl (by kernel_rfl) (by kernel_rfl) (by kernel_rfl) (fun _ _ _ h => h) (Or.inl ⟨by rfl, fun W hW => by obtain ⟨h0, h1, h2⟩ := hW; go_simp⟩) (by assumption) ?_
    simp only [List.setIfInBounds_toArray, List.set_cons_zero, List.set_cons_succ]
    refine wpAnyH_ready (rs := [1]) (by kernel_rfl) (by simp) ?_
    refine AllReadyH.cons rfl (fun K' hK => ?_) AllReadyH.nil
    go_simp
    go_at_call 22
    refine (may_pre K H S _).mono ?_
    rw [hd]
    rintro e v1 ⟨rfl, hg1⟩
    go_wp2_with fail
    refine hK.out _ _ ⟨cell_grown hg1 c0, cell_grown hg1 c1, cell_grown hg1 c2⟩ (fun hHeld => ?_)
    clear hK
    refine wpAnyH_yield (i := 2) (v := .bool false) rfl rfl (by kernel_rfl) (by kernel_rfl) (by kernel_rfl) (fun _ _ _ h => h) (Or.inl ⟨by rfl, fun W hW => by first | (go_simp; done) | (go_simp; with_reducible rfl)⟩) (by assumption) ?_
    simp only [List.setIfInBounds_toArray, List.set_cons_zero, List.set_cons_succ]
    refine wpAnyH_skip (i := 3) rfl rfl (by kernel_rfl) (by kernel_rfl) (by kernel_rfl) (fun _ _ _ h => h) (by rfl) (by assumption) ?_
    simp only [List.setIfInBounds_toArray, List.set_cons_zero, List.set_cons_succ]
    refine wpAnyH_skip (i := 4) rfl rfl (by kernel_rfl) (by kernel_rfl) (by kernel_rfl) (fun _ _ _ h => h) (by rfl) (by assumption) ?_
    simp only [List.setIfInBounds_toArray, List.set_cons_zero, List.set_cons_succ]
    refine wpAnyH_skip (i := 5) rfl rfl (by kernel_rfl) (by kernel_rfl) (by kernel_rfl) (fun _ _ _ h => h) (by rfl) (by assumption) ?_
    simp only [List.setIfInBounds_toArray, List.set_cons_zero, List.set_cons_succ]
    refine wpAnyH_skip (i := 6) rfl rfl (by kernel_rfl) (by kernel_rfl) (by kernel_rfl) (fun _ _ _ h => h) (by rfl) (by assumption) ?_
    simp only [List.setIfInBounds_toArray, List.set_cons_zero, List.set_cons_succ]
    refine wpAnyH_skip (i := 7) rfl rfl (by kernel_rfl) (by kernel_rfl) (by kernel_rfl) (fun _ _ _ h => h) (by rfl) (by assumption) ?_
    simp only [List.setIfInBounds_toArray, List.set_cons_zero, List.set_cons_succ]
    refine wpAnyH_skip (i := 8) rfl rfl (by kernel_rfl) (by kernel_rfl) (by kernel_rfl) (fun _ _ _ h => h) (by rfl) (by assumption) ?_
    simp only [List.setIfInBounds_toArray, List.set_cons_zero, List.set_cons_succ]
    refine wpAnyH_yield (i := 9) (v := .bool false) rfl rfl (by kernel_rfl) (by kernel_rfl) (by kernel_rfl) (fun _ _ _ h => h) (Or.inl ⟨by rfl, fun W hW => by first | (go_simp; done) | (go_simp; with_reducible rfl)⟩) (by assumption) ?_
    simp only [List.setIfInBounds_toArray, List.set_cons_zero, List.set_cons_succ]
    refine wpAnyH_yield (i := 10) (v := .bool false) rfl rfl (by kernel_rfl) (by kernel_rfl) (by kernel_rfl) (fun _ _ _ h => h) (Or.inl ⟨by rfl, fun W hW => by first | (go_simp; done) | (go_simp; with_reducible rfl)⟩) (by assumption) ?_
    simp only [List.setIfInBounds_toArray, List.set_cons_zero, List.set_cons_succ]
    refine wpAnyH_done (by kernel_rfl) ?_ _
    have HGZ : Hid (Gr W0 v1) := Lib.hid (by exact hg1)
    clear hg1 hHeld
    go_wp2_with fail
    go_ret
    exact ⟨rfl, Gr.trans HG0.out HGZ.out⟩
theorem system_ok : SystemOk := ⟨sysMatrix_any, sysRank_any, sysFull_any, sysRight_any⟩
end Go.Proofs.Ytedobcajbelcpaa
