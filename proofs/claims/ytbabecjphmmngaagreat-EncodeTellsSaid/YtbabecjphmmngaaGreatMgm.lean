/-
  Texts laid behind one another: Ys Mh Lso Mi.
-/
import Derived.Test.YtbabecjphmmngaaGreatMgh
import Derived.Test.YtbabecjphmmngaaGreatMgk
import Derived.Test.YtbabecjphmmngaaGreatMgl
import Derived.Test.YtbabecjphmmngaaGreatMgi
import Derived.Lib.SliceRun
import Derived.Test.YtbabecjphmmngaaGreatMge
namespace Go.Proofs.YtbabecjphmmngaaGreat
open Go.RowKit

theorem rowP_len (K H S : Int) (seed : Nat) (x : Int) (hm : MayP K H S) : (MayI x → 0 < (rowP K H S seed x).length) ∧ (¬ MayI x → (rowP K H S seed x).length = 0) := by
  unfold rowP
  refine ⟨fun h => ?_, fun h => ?_⟩
  · rw [if_pos ⟨hm, h⟩, onesL_length]
    have := hm.1
    omega
  · rw [if_neg fun q => h q.2]
    rfl
theorem New.formL {w w' : World} {v : Value} {l : List Int} (h : New w w' v l) : ∃ o m c, v = .slice o m c ∧ m = l.length := by
  obtain ⟨o, c, e⟩ := (New.bs h).form
  exact ⟨o, _, c, e, rfl⟩
set_option maxRecDepth 100000 in
set_option maxHeartbeats 1600000 in
theorem sysMatrix_in (K H : Nat) (S : Int) (seed : Nat) (v : Value) (l : List Int) (w : World) (hm : MayP K H S) (hs : seed < 4294967296) (hz : Zs w v l) (hl : l.length ≤ 900) :
    Calls Tryz.prog 22 #[par K H S, .int .u32 (seed : Int), v] w fun e w' => ∃ u, e = .returned u ∧ Bss w' u (matP K H S seed l) ∧ Gr w w' := by
  have hd := decide_eq_true hm
  have HM := Lib.hid hm
  have HAH := Lib.hid fun W : World => rows_pre K H S W
  obtain ⟨n, hn⟩ : ∃ n, l.length = n := ⟨_, rfl⟩
  obtain ⟨hzi, oa, ca, rfl, z2, z3, z4, z5⟩ := hz
  rw [hn] at z2 z5 hl ⊢
  have HI := Lib.hid hzi
  have HC := Lib.hid z5
  have HN := Lib.hid hn
  have hoa : n = 0 ∨ ∃ a, oa = some a := by
    cases oa with
    | none => exact .inl (by have := z4 rfl; omega)
    | some a => exact .inr ⟨a, rfl⟩
  have P0 : Hid (Par (w.alloc (.cells #[.int .i64 (K : Int), .int .i64 (H : Int), .int .i64 S] 23)) w.heap.size K H S) := Lib.hid (heap_alloc_new _ _)
  have HG0 : Hid (Gr w (w.alloc (.cells #[.int .i64 (K : Int), .int .i64 (H : Int), .int .i64 S] 23))) := Lib.hid (Gr.alloc (Gr.refl _) _ _)
  clear hzi z5 hn z4 z2 z3 hm
  go_enter Tryz.func22, Tryz.ntmps22
  go_wp2_with fail
  generalize w.alloc (.cells #[.int .i64 (K : Int), .int .i64 (H : Int), .int .i64 S] 23) = W0 at *
  generalize hgp : w.heap.size = gp at *
  refine (may_pre K H S _).mono ?_
  rw [hd]
  rintro e w1 ⟨rfl, hg1⟩
  have P1 := Lib.hid (P0.out.grown hg1)
  have HG1 := Lib.hid (Gr.trans HG0.out hg1)
  clear hg1 P0 HG0
  have c0 := P1.out.cell0
  have c1 := P1.out.cell1
  have c2 := P1.out.cell2
  go_wp2_with fail
  refine (HAH.out _).mono ?_
  rintro e w2 ⟨v2, rfl, hr2, hg2⟩
  have hr2 := hr2.rws
  have P2 := Lib.hid (P1.out.grown hg2)
  have HG2 := Lib.hid (Gr.trans HG1.out hg2)
  have R2 : Hid (Rws w1.heap.size w2 v2 (matP K H S seed (l.take 0))) := Lib.hid (by
    rw [List.take_zero, matP_in HM.out]
    rw [aheadP_in HM.out] at hr2
    simpa using hr2)
  have HB : Hid (w.heap.size ≤ w1.heap.size) := Lib.hid HG1.out.size
  have HB2 : Hid (w1.heap.size ≤ w2.heap.size) := Lib.hid hg2.size
  generalize w1.heap.size = b1 at *
  obtain ⟨o2, m2, c2', rfl⟩ := R2.out.form4
  clear hr2 hg2 P1 HG1 c0 c1 c2
  go_wp2_with fail
  go_loopw [7, 18] (fun ov iv W => ∃ i : Nat, i ≤ n ∧ iv = .int .i64 i ∧ Rws b1 W ov (matP K H S seed (l.take i)) ∧ Par W gp K H S ∧ Gr w W ∧ b1 ≤ W.heap.size) (fun _ iv _ => n - (intOf iv).toNat)
  case atStart => exact ⟨0, by omega, rfl, R2.out, P2.out, HG2.out, HB2.out⟩
  case round =>
    clear R2 P2 HG2
    obtain ⟨wo, hwo⟩ : ∃ x, x = wr := ⟨_, rfl⟩
    subst hwo
    obtain ⟨i, hin, rfl, hr, hp, hg, hb1⟩ := hrel
    obtain ⟨oo, mo, co, rfl⟩ := hr.form4
    have c0 := hp.cell0
    have c1 := hp.cell1
    have c2 := hp.cell2
    have HR := Lib.hid hr
    have HP := Lib.hid hp
    have HG := Lib.hid hg
    have HB1 := Lib.hid hb1
    clear hr hp hg hb1
    by_cases hlt : i < n
    · obtain ⟨a, rfl⟩ : ∃ a, oa = some a := by
        rcases hoa with c1 | c1
        · omega
        · exact c1
      have q1 := cell_grown HG.out (HC.out a rfl i hlt)
      obtain ⟨x, hx⟩ : ∃ x, l.getD i 0 = x := ⟨_, rfl⟩
      rw [hx] at q1
      have hxi : I64 x := by rw [← hx]; exact HI.out _ (by rw [List.getD_eq_getElem?_getD, List.getElem?_eq_getElem (by rw [HN.out]; exact hlt)]; exact List.getElem_mem _)
      have HXI := Lib.hid hxi
      have HML := Lib.hid (matP_length K H S seed (l.take i))
      have HLL : Hid ((l.take i).length = i) := Lib.hid (by rw [List.length_take, HN.out]; omega)
      have HS : Hid (matP K H S seed (l.take (i + 1)) = matP K H S seed (l.take i) ++ if MayP K H S ∧ MayI x then [rowP K H S seed x] else []) := Lib.hid (by
        rw [List.take_add_one, List.getElem?_eq_getElem (by rw [HN.out]; exact hlt), ← hx, List.getD_eq_getElem?_getD, List.getElem?_eq_getElem (by rw [HN.out]; exact hlt)]
        exact matP_snoc K H S seed (l.take i) _)
      clear hx
      have HL0 := Lib.hid (rowP_len K H S seed x HM.out)
      go_wp2_with fail
      refine (lt_ok.row K H S seed x _ hs HXI.out).mono ?_
      rintro e w3 ⟨v3, rfl, hn3⟩
      obtain ⟨o3, m3, c3, rfl, hm3⟩ := New.formL hn3
      have NW := Lib.hid hn3
      have HR3 := Lib.hid (HR.out.grown hn3.1)
      have HP3 := Lib.hid (HP.out.grown hn3.1)
      have HG3 := Lib.hid (Gr.trans HG.out hn3.1)
      have HB3 : Hid (b1 ≤ w3.heap.size) := Lib.hid (Nat.le_trans HB1.out hn3.1.size)
      clear hn3 HR HP HG HB1 c0 c1 c2
      by_cases hi : MayI x
      · have hm0 : 0 < m3 := by
          have := HL0.out.1 hi
          omega
        have HII := Lib.hid hi
        clear hi hm3
        go_wp2_with (at_builtin; refine wpList_append_row rfl _ _ rfl b1 (.slice oo mo co) (matP K H S seed (l.take i)) rfl (HR3.out.grown (Gr.alloc (Gr.refl _) _ _)) w3.heap.size (.slice o3 m3 c3) (rowP K H S seed x) rfl (by rw [cell_of_row _ _ 0 _ _ _ (heap_alloc_new w3 _)]; rfl) (Bs.grown (New.bs NW.out) (Gr.alloc (Gr.refl _) _ _)) (Rb.gr (New.bs NW.out) (New.rb NW.out b1) (Gr.alloc (Gr.refl _) _ _)).2 (by have := HML.out; rw [HLL.out] at this; omega) (by have := HB3.out; simp; omega) ?_; intro v5 w5 hr5 hg5 hk5; have R5 := Lib.hid hr5; have G5 := Lib.hid hg5; have K5 := Lib.hid hk5; clear hr5 hg5 hk5)
        have hg3 : Gr w (w3.alloc (.cells #[.slice o3 m3 c3] 25)) := Gr.alloc HG3.out _ _
        exact ⟨⟨i + 1, by omega, by go_num, by rw [HS.out, if_pos ⟨HM.out, HII.out⟩]; exact R5.out, K5.out.2 _ _ _ _ (HP3.out.grown (Gr.alloc (Gr.refl _) _ _)) (by decide), G5.out w hg3 HB.out, Nat.le_trans HB3.out (Nat.le_trans (by simp) K5.out.1)⟩, by simp [intOf]; omega⟩
      · have hm0 : m3 = 0 := by
          have := HL0.out.2 hi
          omega
        have HII := Lib.hid hi
        subst hm0
        clear hi hm3
        go_wp2_with fail
        exact ⟨⟨i + 1, by omega, by go_num, by rw [HS.out, if_neg (fun h => HII.out h.2), List.append_nil]; exact HR3.out, HP3.out, HG3.out, HB3.out⟩, by simp [intOf]; omega⟩
    · obtain rfl : i = n := by omega
      go_wp2_with fail
      go_ret
      refine ⟨_, rfl, ?_, HG.out⟩
      have := HR.out.bss
      rwa [List.take_of_length_le (by rw [HN.out]; exact Nat.le_refl _)] at this
set_option maxRecDepth 100000 in
set_option maxHeartbeats 400000 in
theorem sysMatrix_ne (K H S : Int) (seed : Nat) (v : Value) (l : List Int) (w : World) (hm : ¬ MayP K H S) (hz : Zs w v l) :
    Calls Tryz.prog 22 #[par K H S, .int .u32 (seed : Int), v] w fun e w' => e = .returned (.slice none 0 0) ∧ Gr w w' := by
  have hd := decide_eq_false hm
  obtain ⟨o, c, rfl⟩ := hz.form
  have HG0 : Hid (Gr w (w.alloc (.cells #[.int .i64 K, .int .i64 H, .int .i64 S] 23))) := Lib.hid (Gr.alloc (Gr.refl _) _ _)
  clear hm hz
  go_enter Tryz.func22, Tryz.ntmps22
  go_wp2_with fail
  refine (may_pre K H S _).mono ?_
  rw [hd]
  rintro e w1 ⟨rfl, hg1⟩
  have HG1 := Lib.hid (Gr.trans HG0.out hg1)
  clear hg1
  go_wp2_with fail
  go_ret
  exact ⟨rfl, HG1.out⟩
theorem sysMatrix_any (K H S : Int) (seed : Nat) (v : Value) (l : List Int) (w : World) (hs : seed < 4294967296) (hz : Zs w v l) (hl : l.length ≤ 900) :
    Calls Tryz.prog 22 #[par K H S, .int .u32 (seed : Int), v] w fun e w' => ∃ u, e = .returned u ∧ Bss w' u (matP K H S seed l) ∧ Gr w w' := by
  by_cases hm : MayP K H S
  · obtain ⟨k, rfl⟩ : ∃ k : Nat, K = k := ⟨K.toNat, by have := hm.1; omega⟩
    obtain ⟨h, rfl⟩ : ∃ h : Nat, H = h := ⟨H.toNat, by have := hm.2.2.1; omega⟩
    exact sysMatrix_in k h S seed v l w hm hs hz hl
  · rw [matP_ne hm]
    refine (sysMatrix_ne K H S seed v l w hm hz).mono ?_
    rintro e w' ⟨rfl, hg⟩
    exact ⟨_, rfl, Bss.nil _, hg⟩
set_option maxRecDepth 100000 in
set_option maxHeartbeats 400000 in
theorem sysRank_any (K H S : Int) (seed : Nat) (v : Value) (l : List Int) (w : World) (hs : seed < 4294967296) (hz : Zs w v l) (hl : l.length ≤ 900) :
    Calls Tryz.prog 66 #[par K H S, .int .u32 (seed : Int), v] w fun e w' => e = .returned (.int .i64 (rkL (matP K H S seed l))) ∧ Gr w w' := by
  have HG0 : Hid (Gr w (w.alloc (.cells #[.int .i64 K, .int .i64 H, .int .i64 S] 23))) := Lib.hid (Gr.alloc (Gr.refl _) _ _)
  have HZ := Lib.hid hz
  obtain ⟨o, c, rfl⟩ := hz.form
  have HL := Lib.hid hl
  have HLE := Lib.hid (matP_length K H S seed l)
  clear hz hl
  generalize hn : l.length = n at *
  go_enter Tryz.func66, Tryz.ntmps66
  go_wp2_with fail
  refine (sysMatrix_any K H S seed _ l _ hs (HZ.out.grown HG0.out) (by have := HL.out; omega)).mono ?_
  rintro e w1 ⟨u, rfl, hb, hg⟩
  obtain ⟨ou, mu, cu, rfl⟩ := hb.form3
  have HB := Lib.hid hb
  have HG1 := Lib.hid (Gr.trans HG0.out hg)
  clear hb hg
  go_wp2_with fail
  refine (ok_rank _ _ (matP K H S seed l) _ (.inl rfl) HB.out (by have := HLE.out; have := HL.out; omega) (matP_may K H S seed l)).mono ?_
  rintro e w2 ⟨rfl, hg⟩
  have HG2 := Lib.hid (Gr.trans HG1.out hg)
  clear hg
  go_wp2_with fail
  go_ret
  exact ⟨rfl, HG2.out⟩
set_option maxRecDepth 100000 in
set_option maxHeartbeats 800000 in
theorem sysFull_any (K H S : Int) (seed : Nat) (v : Value) (l : List Int) (w : World) (hs : seed < 4294967296) (hz : Zs w v l) (hl : l.length ≤ 900) :
    Calls Tryz.prog 36 #[par K H S, .int .u32 (seed : Int), v] w fun e w' => e = .returned (.bool (decide (FullP K H S seed l))) ∧ Gr w w' := by
  have HG0 : Hid (Gr w (w.alloc (.cells #[.int .i64 K, .int .i64 H, .int .i64 S] 23))) := Lib.hid (Gr.alloc (Gr.refl _) _ _)
  have P0 : Hid (Par (w.alloc (.cells #[.int .i64 K, .int .i64 H, .int .i64 S] 23)) w.heap.size K H S) := Lib.hid (heap_alloc_new _ _)
  have HZ := Lib.hid hz
  obtain ⟨o, m, c, rfl⟩ : ∃ o m c, v = .slice o m c := by
    obtain ⟨o, c, h⟩ := hz.form
    exact ⟨o, _, c, h⟩
  have HL := Lib.hid hl
  obtain ⟨r, hr⟩ : ∃ r, rkL (matP K H S seed l) = r := ⟨_, rfl⟩
  obtain ⟨q, hq⟩ : ∃ q, colsP K H S = q := ⟨_, rfl⟩
  have HF : Hid (decide (FullP K H S seed l) = (decide (MayP K H S) && ((r : Int) == q))) := Lib.hid (by
    have h : FullP K H S seed l ↔ (MayP K H S ∧ (r : Int) = q) := by unfold FullP; rw [hr, hq]
    exact (decide_eq_decide.2 h).trans (by rw [Bool.decide_and]; rfl))
  have HR := Lib.hid hr
  have HQ := Lib.hid hq
  clear hz hl hr hq
  by_cases hm : MayP K H S
  · have hd := decide_eq_true hm
    have HD := Lib.hid hd
    clear hm
    go_enter Tryz.func36, Tryz.ntmps36
    go_wp2_with fail
    generalize w.alloc (.cells #[.int .i64 K, .int .i64 H, .int .i64 S] 23) = W0 at *
    generalize w.heap.size = gp at *
    have c0 := P0.out.cell0
    have c1 := P0.out.cell1
    have c2 := P0.out.cell2
    go_region_held3 (fun W => W.cell? ⟨gp, 0, none⟩ = some (.int .i64 K) ∧ W.cell? ⟨gp, 1, none⟩ = some (.int .i64 H) ∧ W.cell? ⟨gp, 2, none⟩ = some (.int .i64 S)) (first | exact ⟨k30, k31, k32⟩ | exact ⟨k20, k21, k22⟩ | exact ⟨k10, k11, k12⟩ | go_keep)
      (first
        | (go_at_call 46; refine (cols_pre K H S _).mono ?_; rw [HQ.out]; rintro e v3 ⟨rfl, hg3⟩; have k30 := cell_grown hg3 (by exact k20); have k31 := cell_grown hg3 (by exact k21); have k32 := cell_grown hg3 (by exact k22); have V3 : Hid (Gr v2 v3) := Lib.hid hg3)
        | (go_at_call 66; refine (sysRank_any K H S seed _ l _ hs (HZ.out.grown (Gr.trans HG0.out V1.out)) HL.out).mono ?_; rw [HR.out]; rintro e v2 ⟨rfl, hg2⟩; have k20 := cell_grown hg2 (by exact k10); have k21 := cell_grown hg2 (by exact k11); have k22 := cell_grown hg2 (by exact k12); have V2 : Hid (Gr v1 v2) := Lib.hid hg2)
        | (go_at_call 6; refine (may_pre K H S _).mono ?_; rw [hd]; rintro e v1 ⟨rfl, hg1⟩; have k10 := cell_grown hg1 (by exact c0); have k11 := cell_grown hg1 (by exact c1); have k12 := cell_grown hg1 (by exact c2); have V1 : Hid (Gr W0 v1) := Lib.hid (by exact hg1)))
    have HGZ := Lib.hid (Gr.trans HG0.out (Gr.trans V1.out (Gr.trans V2.out V3.out)))
    go_wp2_with fail
    go_ret
    refine ⟨?_, HGZ.out⟩
    rw [HF.out, HD.out, Bool.true_and]
    rfl
  · have hd := decide_eq_false hm
    have HD := Lib.hid hd
    clear hm
    go_enter Tryz.func36, Tryz.ntmps36
    go_wp2_with fail
    generalize w.alloc (.cells #[.int .i64 K, .int .i64 H, .int .i64 S] 23) = W0 at *
    generalize w.heap.size = gp at *
    have c0 := P0.out.cell0
    have c1 := P0.out.cell1
    have c2 := P0.out.cell2
    refine wp_region_held_drew (S := fun W => W.cell? ⟨gp, 0, none⟩ = some (.int .i64 K) ∧ W.cell? ⟨gp, 1, none⟩ = some (.int .i64 H) ∧ W.cell? ⟨gp, 2, none⟩ = some (.int .i64 S)) (by kernel_rfl) (by exact ⟨c0, c1, c2⟩) (fun hHeld => ?_)
    refine wpAnyH_yield (i := 0) (v := par K H S) rfl rfl (by kernel_rfl) (by kernel_rfl) (by kernel_rfl) (fun _ _ _ h => h) (Or.inl ⟨by rfl, fun W hW => by obtain ⟨h0, h1, h2⟩ := hW; go_simp⟩) (by assumption) ?_
    simp only [List.setIfInBounds_toArray, List.set_cons_zero, List.set_cons_succ]
    refine wpAnyH_ready (rs := [1]) (by kernel_rfl) (by simp) ?_
    refine AllReadyH.cons rfl (fun K' hK => ?_) AllReadyH.nil
    go_simp
    go_at_call 6
    refine (may_pre K H S _).mono ?_
    rw [hd]
    rintro e v1 ⟨rfl, hg1⟩
    go_wp2_with fail
    refine hK.out _ _ ⟨cell_grown hg1 c0, cell_grown hg1 c1, cell_grown hg1 c2⟩ (fun hHeld => ?_)
    clear hK
    refine wpAnyH_yield (i := 2) (v := .bool false) rfl rfl (by kernel_rfl) (by kernel_rfl) (by kernel_rfl) (fun _ _ _ h => h) (Or.inl ⟨by rfl, fun W hW => by first | (go_simp; done) | (go_simp; with_reducible rfl)⟩) (by assumption) ?_
    simp only [List.setIfInBounds_toArray, List.set_cons_zero, List.set_cons_succ]
    refine wpAnyH_skip (i := 3) rfl rfl (by kernel_rfl) (by kernel_rfl) (by kernel_rfl) (fun _ _ _ h => h) (by rfl) (by assumption) ?_
    simp only [List.setIfInBounds_toArray, List.set_cons_zero, List.set_cons_succ]
    refine wpAnyH_skip (i := 4) rfl rfl (by kernel_rfl) (by kernel_rfl) (by kernel_rfl) (fun _ _ _ h => h) (by rfl) (by assumption) ?_
    simp only [List.setIfInBounds_toArray, List.set_cons_zero, List.set_cons_succ]
    refine wpAnyH_skip (i := 5) rfl rfl (by kernel_rfl) (by kernel_rfl) (by kernel_rfl) (fun _ _ _ h => h) (by rfl) (by assumption) ?_
    simp only [List.setIfInBounds_toArray, List.set_cons_zero, List.set_cons_succ]
    refine wpAnyH_skip (i := 6) rfl rfl (by kernel_rfl) (by kernel_rfl) (by kernel_rfl) (fun _ _ _ h => h) (by rfl) (by assumption) ?_
    simp only [List.setIfInBounds_toArray, List.set_cons_zero, List.set_cons_succ]
    refine wpAnyH_skip (i := 7) rfl rfl (by kernel_rfl) (by kernel_rfl) (by kernel_rfl) (fun _ _ _ h => h) (by rfl) (by assumption) ?_
    simp only [List.setIfInBounds_toArray, List.set_cons_zero, List.set_cons_succ]
    refine wpAnyH_skip (i := 8) rfl rfl (by kernel_rfl) (by kernel_rfl) (by kernel_rfl) (fun _ _ _ h => h) (by rfl) (by assumption) ?_
    simp only [List.setIfInBounds_toArray, List.set_cons_zero, List.set_cons_succ]
    refine wpAnyH_skip (i := 9) rfl rfl (by kernel_rfl) (by kernel_rfl) (by kernel_rfl) (fun _ _ _ h => h) (by rfl) (by assumption) ?_
    simp only [List.setIfInBounds_toArray, List.set_cons_zero, List.set_cons_succ]
    refine wpAnyH_yield (i := 10) (v := .bool false) rfl rfl (by kernel_rfl) (by kernel_rfl) (by kernel_rfl) (fun _ _ _ h => h) (Or.inl ⟨by rfl, fun W hW => by first | (go_simp; done) | (go_simp; with_reducible rfl)⟩) (by assumption) ?_
    simp only [List.setIfInBounds_toArray, List.set_cons_zero, List.set_cons_succ]
    refine wpAnyH_yield (i := 11) (v := .bool false) rfl rfl (by kernel_rfl) (by kernel_rfl) (by kernel_rfl) (fun _ _ _ h => h) (Or.inl ⟨by rfl, fun W hW => by first | (go_simp; done) | (go_simp; with_reducible rfl)⟩) (by assumption) ?_
    simp only [List.setIfInBounds_toArray, List.set_cons_zero, List.set_cons_succ]
    refine wpAnyH_done (by kernel_rfl) ?_ _
    have HGZ : Hid (Gr W0 v1) := Lib.hid (by exact hg1)
    clear hg1 hHeld
    go_wp2_with fail
    go_ret
    refine ⟨?_, Gr.trans HG0.out HGZ.out⟩
    rw [HF.out, HD.out, Bool.false_and]
    rfl
def partI (N i : Nat) : List Int := firstI i ++ List.replicate (N - i) 0
theorem partI_zero (N : Nat) : partI N 0 = List.replicate N 0 := by simp [partI, firstI]
theorem partI_all (N : Nat) : partI N N = firstI N := by simp [partI]
theorem partI_length {N i : Nat} (h : i ≤ N) : (partI N i).length = N := by
  simp [partI, firstI_length]
  omega
theorem partI_set {N i : Nat} (h : i < N) : (partI N i).set i (i : Int) = partI N (i + 1) := by
  unfold partI
  have hl := firstI_length i
  rw [List.set_append, if_neg (by omega), hl, Nat.sub_self]
  obtain ⟨m, hm⟩ : ∃ m, N - i = m + 1 := ⟨N - i - 1, by omega⟩
  rw [hm, List.replicate_succ, List.set_cons_zero, firstI_succ, show N - (i + 1) = m from by omega, List.append_assoc]
  simp
set_option maxRecDepth 100000 in
set_option maxHeartbeats 800000 in
theorem first_any (N : Nat) (w : World) (h2 : N ≤ 64) :
    Calls Tryz.prog 37 #[.int .i64 N] w fun e w' => ∃ v, e = .returned v ∧ Zs w' v (firstI N) ∧ Gr w w' := by
  have hmk := makeZ N N (by omega) (by omega)
  go_enter Tryz.func37, Tryz.ntmps37
  go_wp2_with fail
  obtain ⟨g, hg⟩ : ∃ g, w.heap.size = g := ⟨_, rfl⟩
  have hgl : w.heap.size ≤ g := by omega
  have B0 : Hid (Blz (w.alloc (.cells (rowZ (List.replicate N 0)) 3)) g (partI N 0)) := Lib.hid (by
    rw [partI_zero, ← hg]
    exact heap_alloc_new _ _)
  have G2 : Hid (Gr w (w.alloc (.cells (rowZ (List.replicate N 0)) 3))) := Lib.hid (Gr.alloc (Gr.refl _) _ _)
  have HGL := Lib.hid hgl
  rw [hg]
  generalize w.alloc (.cells (rowZ (List.replicate N 0)) 3) = w2 at *
  clear hmk hg hgl
  go_loopw [9] (fun iv W => ∃ i : Nat, i ≤ N ∧ iv = .int .i64 i ∧ Blz W g (partI N i) ∧ Gr w W) (fun iv _ => N - (intOf iv).toNat)
  case atStart => exact ⟨0, by omega, rfl, B0.out, G2.out⟩
  case round =>
    obtain ⟨i, hi, rfl, hb, hgr⟩ := hrel
    have HB := Lib.hid hb
    have HG := Lib.hid hgr
    clear hb hgr
    by_cases hlt : i < N
    · have HST := Lib.hid (partI_set hlt)
      have q := HB.out.cell i (by rw [partI_length hi]; exact hlt)
      have qf := frozen_of_row _ g i _ _ HB.out
      generalize (partI N i).getD i 0 = old at *
      go_wp2
      refine ⟨⟨i + 1, by omega, by go_num, ?_, ?_⟩, by simp [intOf]; omega⟩
      · rw [← HST.out]
        have h := HB.out
        unfold Blz at h ⊢
        rw [heap_setCell_same _ _ _ _ _ _ h, rowZ_set]
      · exact HG.out.setCell HGL.out _
    · obtain rfl : i = N := by omega
      go_wp2
      go_ret
      have hz := HB.out
      rw [partI_all] at hz
      have := Blz.zs hz (firstI i) i (by omega) (by rw [firstI_length]; omega) (by omega) (firstI_i64 (by omega)) (fun _ _ => rfl)
      rw [firstI_length] at this
      exact ⟨_, rfl, this, HG.out⟩
set_option maxRecDepth 100000 in
set_option maxHeartbeats 800000 in
theorem sysRight_any (K H S : Int) (seed : Nat) (w : World) (hs : seed < 4294967296) :
    Calls Tryz.prog 20 #[par K H S, .int .u32 (seed : Int)] w fun e w' => e = .returned (.bool (decide (RightP K H S seed))) ∧ Gr w w' := by
  have HG0 : Hid (Gr w (w.alloc (.cells #[.int .i64 K, .int .i64 H, .int .i64 S] 23))) := Lib.hid (Gr.alloc (Gr.refl _) _ _)
  have P0 : Hid (Par (w.alloc (.cells #[.int .i64 K, .int .i64 H, .int .i64 S] 23)) w.heap.size K H S) := Lib.hid (heap_alloc_new _ _)
  by_cases hm : MayP K H S
  · have hd := decide_eq_true hm
    obtain ⟨k, rfl⟩ : ∃ k : Nat, K = k := ⟨K.toNat, by have := hm.1; omega⟩
    have hk : k ≤ 16 := by have := hm.2.1; omega
    have HRP : Hid (decide (RightP k H S seed) = decide (FullP k H S seed (firstI k))) := Lib.hid (by
      refine decide_eq_decide.2 ?_
      unfold RightP
      rw [Int.toNat_natCast])
    clear hm
    go_enter Tryz.func20, Tryz.ntmps20
    go_wp2_with fail
    generalize w.alloc (.cells #[.int .i64 (k : Int), .int .i64 H, .int .i64 S] 23) = W0 at *
    generalize w.heap.size = gp at *
    have c0 := P0.out.cell0
    have c1 := P0.out.cell1
    have c2 := P0.out.cell2
    go_region_held3 (fun W => W.cell? ⟨gp, 0, none⟩ = some (.int .i64 k) ∧ W.cell? ⟨gp, 1, none⟩ = some (.int .i64 H) ∧ W.cell? ⟨gp, 2, none⟩ = some (.int .i64 S)) (first | exact ⟨k30, k31, k32⟩ | exact ⟨k20, k21, k22⟩ | exact ⟨k10, k11, k12⟩ | go_keep)
      (first
        | (go_at_call 36; refine (sysFull_any k H S seed _ (firstI k) _ hs Z2.out (by rw [firstI_length]; omega)).mono ?_; rw [← HRP.out]; rintro e v3 ⟨rfl, hg3⟩; have k30 := cell_grown hg3 (by exact k20); have k31 := cell_grown hg3 (by exact k21); have k32 := cell_grown hg3 (by exact k22); have V3 : Hid (Gr v2 v3) := Lib.hid hg3)
        | (go_at_call 37; refine (first_any k _ (by omega)).mono ?_; rintro e v2 ⟨u2, rfl, hz2, hg2⟩; have k20 := cell_grown hg2 (by exact k10); have k21 := cell_grown hg2 (by exact k11); have k22 := cell_grown hg2 (by exact k12); have Z2 := Lib.hid hz2; have V2 : Hid (Gr v1 v2) := Lib.hid hg2)
        | (go_at_call 6; refine (may_pre k H S _).mono ?_; rw [hd]; rintro e v1 ⟨rfl, hg1⟩; have k10 := cell_grown hg1 (by exact c0); have k11 := cell_grown hg1 (by exact c1); have k12 := cell_grown hg1 (by exact c2); have V1 : Hid (Gr W0 v1) := Lib.hid (by exact hg1)))
    have HGZ := Lib.hid (Gr.trans HG0.out (Gr.trans V1.out (Gr.trans V2.out V3.out)))
    go_wp2_with fail
    go_ret
    exact ⟨rfl, HGZ.out⟩
  · have hd := decide_eq_false hm
    have hr : decide (RightP K H S seed) = false := decide_eq_false fun h => hm h.1
    rw [hr]
    clear hm hr
    go_enter Tryz.func20, Tryz.ntmps20
    go_wp2_with fail
    generalize w.alloc (.cells #[.int .i64 K, .int .i64 H, .int .i64 S] 23) = W0 at *
    generalize w.heap.size = gp at *
    have c0 := P0.out.cell0
    have c1 := P0.out.cell1
    have c2 := P0.out.cell2
    refine wp_region_held_drew (S := fun W => W.cell? ⟨gp, 0, none⟩ = some (.int .i64 K) ∧ W.cell? ⟨gp, 1, none⟩ = some (.int .i64 H) ∧ W.cell? ⟨gp, 2, none⟩ = some (.int .i64 S)) (by kernel_rfl) (by exact ⟨c0, c1, c2⟩) (fun hHeld => ?_)
    refine wpAnyH_yield (i := 0) (v := par K H S) rfl rfl (by kernel_rfl) (by kernel_rfl) (by kernel_rfl) (fun _ _ _ h => h) (Or.inl ⟨by rfl, fun W hW => by obtain ⟨h0, h1, h2⟩ := hW; go_simp⟩) (by assumption) ?_
    simp only [List.setIfInBounds_toArray, List.set_cons_zero, List.set_cons_succ]
    refine wpAnyH_ready (rs := [1]) (by kernel_rfl) (by simp) ?_
    refine AllReadyH.cons rfl (fun K' hK => ?_) AllReadyH.nil
    go_simp
    go_at_call 6
    refine (may_pre K H S _).mono ?_
    rw [hd]
    rintro e v1 ⟨rfl, hg1⟩
    go_wp2_with fail
    refine hK.out _ _ ⟨cell_grown hg1 c0, cell_grown hg1 c1, cell_grown hg1 c2⟩ (fun hHeld => ?_)
    clear hK
    refine wpAnyH_yield (i := 2) (v := .bool false) rfl rfl (by kernel_rfl) (by kernel_rfl) (by kernel_rfl) (fun _ _ _ h => h) (Or.inl ⟨by rfl, fun W hW => by first | (go_simp; done) | (go_simp; with_reducible rfl)⟩) (by assumption) ?_
    simp only [List.setIfInBounds_toArray, List.set_cons_zero, List.set_cons_succ]
    refine wpAnyH_skip (i := 3) rfl rfl (by kernel_rfl) (by kernel_rfl) (by kernel_rfl) (fun _ _ _ h => h) (by rfl) (by assumption) ?_
    simp only [List.setIfInBounds_toArray, List.set_cons_zero, List.set_cons_succ]
    refine wpAnyH_skip (i := 4) rfl rfl (by kernel_rfl) (by kernel_rfl) (by kernel_rfl) (fun _ _ _ h => h) (by rfl) (by assumption) ?_
    simp only [List.setIfInBounds_toArray, List.set_cons_zero, List.set_cons_succ]
    refine wpAnyH_skip (i := 5) rfl rfl (by kernel_rfl) (by kernel_rfl) (by kernel_rfl) (fun _ _ _ h => h) (by rfl) (by assumption) ?_
    simp only [List.setIfInBounds_toArray, List.set_cons_zero, List.set_cons_succ]
    refine wpAnyH_skip (i := 6) rfl rfl (by kernel_rfl) (by kernel_rfl) (by kernel_rfl) (fun _ _ _ h => h) (by rfl) (by assumption) ?_
    simp only [List.setIfInBounds_toArray, List.set_cons_zero, List.set_cons_succ]
    refine wpAnyH_skip (i := 7) rfl rfl (by kernel_rfl) (by kernel_rfl) (by kernel_rfl) (fun _ _ _ h => h) (by rfl) (by assumption) ?_
    simp only [List.setIfInBounds_toArray, List.set_cons_zero, List.set_cons_succ]
    refine wpAnyH_skip (i := 8) rfl rfl (by kernel_rfl) (by kernel_rfl) (by kernel_rfl) (fun _ _ _ h => h) (by rfl) (by assumption) ?_
    simp only [List.setIfInBounds_toArray, List.set_cons_zero, List.set_cons_succ]
    refine wpAnyH_yield (i := 9) (v := .bool false) rfl rfl (by kernel_rfl) (by kernel_rfl) (by kernel_rfl) (fun _ _ _ h => h) (Or.inl ⟨by rfl, fun W hW => by first | (go_simp; done) | (go_simp; with_reducible rfl)⟩) (by assumption) ?_
    simp only [List.setIfInBounds_toArray, List.set_cons_zero, List.set_cons_succ]
    refine wpAnyH_yield (i := 10) (v := .bool false) rfl rfl (by kernel_rfl) (by kernel_rfl) (by kernel_rfl) (fun _ _ _ h => h) (Or.inl ⟨by rfl, fun W hW => by first | (go_simp; done) | (go_simp; with_reducible rfl)⟩) (by assumption) ?_
    simp only [List.setIfInBounds_toArray, List.set_cons_zero, List.set_cons_succ]
    refine wpAnyH_done (by kernel_rfl) ?_ _
    have HGZ : Hid (Gr W0 v1) := Lib.hid (by exact hg1)
    clear hg1 hHeld
    go_wp2_with fail
    go_ret
    exact ⟨rfl, Gr.trans HG0.out HGZ.out⟩
theorem system_ok : SystemOk := ⟨sysMatrix_any, sysRank_any, sysFull_any, sysRight_any⟩
end Go.Proofs.YtbabecjphmmngaaGreat
namespace Go.Proofs.YtbabecjphmmngaaGreat
open Go.RowKit

theorem ownsRow_gr {w w1 w2 : World} {v : Value} {n : Nat} {us : List Value} (h : w1.ownsRow w.heap.size 5 1 v n us) (hg : Gr w w1) (h2 : w1.grownBy w2 v.ownBlock) : Gr w w2 := Gr.append hg h2 (ownsRow_base h)
set_option maxRecDepth 100000 in
set_option maxHeartbeats 1600000 in
theorem joined_any (va vb : Value) (A B : List (List Int)) (k m : Nat) (w : World) (ha : Bss w va A) (hb : Bss w vb B) (hl : A.length ≤ 1000) (hlb : B.length = A.length) (h0 : 0 < A.length) (hA : Wide k A) (hB : Wide m B) (hk : k ≤ 64) (hm : m ≤ 64) :
    Calls Tryz.prog 40 #[va, vb] w fun e w' => ∃ g us L, e = .returned (.slice (some ⟨g, 0, none⟩) A.length A.length) ∧ Fill w w' g A.length (fun i l => l = A.getD i [] ++ B.getD i []) A.length us L := by
  obtain ⟨a, c0, rfl, h1, h2, h3⟩ := Bss.at ha h0
  obtain ⟨b, cb, rfl, b1, b2, b3⟩ := Bss.at hb (by omega)
  rw [hlb] at b1 b3 ⊢
  obtain ⟨n, hn⟩ : ∃ n, A.length = n := ⟨_, rfl⟩
  have HN := Lib.hid hn
  have HNB : Hid (B.length = n) := Lib.hid (by rw [hlb, hn])
  rw [hn] at h1 h3 b1 b3 hl h0 ⊢
  have HA := Lib.hid h3
  have HB := Lib.hid b3
  have WA := Lib.hid hA
  have WB := Lib.hid hB
  have hmk := make24 n n (by omega) (by omega)
  have hR : ∃ cur, cur = nils n := ⟨_, rfl⟩
  obtain ⟨cur, hcur⟩ := hR
  rw [← hcur] at hmk
  have HF0 : Hid (Fill w (w.alloc (.cells cur 25)) w.heap.size n (fun i l => l = A.getD i [] ++ B.getD i []) 0 (List.replicate n (.slice none 0 0)) (List.replicate n [])) := Lib.hid (by rw [hcur]; exact Fill.start w n (by omega) _)
  clear ha hb hlb hn h3 b3 hA hB hcur
  go_enter Tryz.func40, Tryz.ntmps40
  go_wp2
  clear hmk
  generalize hW : w.alloc (.cells cur 25) = W at *
  generalize hG : w.heap.size = g at *
  go_loopw [12] (fun i wr => ∃ (j : Nat) (us : List Value) (L : List (List Int)), j ≤ n ∧ i = .int .i64 j ∧ Fill w wr g n (fun i l => l = A.getD i [] ++ B.getD i []) j us L) (fun i _ => n - (intOf i).toNat)
  case atStart => exact ⟨0, _, _, by omega, rfl, HF0.out⟩
  case round =>
    clear HF0
    obtain ⟨j, us, Lx, hj, rfl, hfl⟩ := hrel
    have FL := Lib.hid hfl
    clear hfl
    by_cases hlt : j < n
    · obtain ⟨u, q0, hu⟩ := HA.out j hlt
      obtain ⟨u', q0', hu'⟩ := HB.out j hlt
      have q1 := cell_grown FL.out.gr q0
      have q2 := cell_grown FL.out.gr q0'
      have hu1 := Bs.grown hu FL.out.gr
      have hu2 := Bs.grown hu' FL.out.gr
      obtain ⟨ou, cu, rfl⟩ := hu.form
      obtain ⟨ou', cu', rfl⟩ := hu'.form
      have hwa := WA.out.at j (by rw [HN.out]; exact hlt)
      have hwb := WB.out.at j (by rw [HNB.out]; exact hlt)
      rw [hwa.1] at q1 hu1
      rw [hwb.1] at q2 hu2
      have HU1 := Lib.hid hu1
      have HU2 := Lib.hid hu2
      have HWA := Lib.hid hwa
      have HWB := Lib.hid hwb
      have qc := FL.out.cell j hlt
      have qf := FL.out.frozen j
      clear q0 q0' hu hu' hu1 hu2 hwa hwb
      go_wp2
      go_region_law (first
        | ((try go_simp); go_at_call 30; refine (clone_any _ (A.getD j []) _ (by exact HU1.out) (by rw [HWA.out.1]; omega)).mono ?_; rintro e w2 ⟨v2, rfl, hown2, hg2⟩; rw [HWA.out.1] at hown2; obtain ⟨o2, c2, rfl⟩ := ownsRow_form hown2; have hq2 := cell_grown hg2 (by exact q2); have HO2 := Lib.hid hown2; have HG2 : Hid (Gr wr w2) := Lib.hid (by exact hg2); clear hown2 hg2)
        | (refine step_append_bytes rfl _ _ rfl wr.heap.size (.slice o2 k c2) k (A.getD j []) (by rfl) (by exact HO2.out) ou' m cu' (B.getD j []) (by rfl) (by exact Bs.grown HU2.out HG2.out) (by omega) (by exact HG2.out.size) ?_; intro v3 w3 hown3 hgrow3; obtain ⟨o3, c3, rfl⟩ := ownsRow_form hown3; have HO3 := Lib.hid hown3; have HG3 : Hid (Gr wr w3) := Lib.hid (ownsRow_gr (by exact HO2.out) HG2.out (by exact hgrow3)); have hc3 := cell_grown HG3.out qc; have hf3 := frozen_grown HG3.out qc qf; clear hown3 hgrow3))
      all_goals
        have hlen : (A.getD j [] ++ B.getD j []).length = k + m := by rw [List.length_append, HWA.out.1, HWB.out.1]
        have NW : Hid (New wr w3 (.slice o3 (k + m) c3) (A.getD j [] ++ B.getD j [])) := Lib.hid (New.of_row HG3.out (fun x hx => by
          rcases List.mem_append.1 hx with hx | hx
          · exact HWA.out.2 x hx
          · exact HWB.out.2 x hx) (by rw [hlen]; exact HO3.out))
        go_wp2_with fail
        exact ⟨⟨j + 1, _, _, by omega, by go_num, (FL.out.grow HG3.out).put hlt (New.bs NW.out) (New.rb NW.out _) rfl⟩, by simp [intOf]; omega⟩
    · obtain rfl : j = n := by omega
      go_wp2
      go_ret
      exact ⟨g, us, Lx, rfl, FL.out⟩
end Go.Proofs.YtbabecjphmmngaaGreat
namespace Go.Proofs.YtbabecjphmmngaaGreat.L

/-- What stands ahead of k. -/
def cutV (k : Nat) (v : V) : V := fun j => if j < k then v j else zero
/-- What stands from k on. -/
def shV (k : Nat) (v : V) : V := fun j => v (k + j)
/-- A map of rows that keeps sums and multiples. -/
structure Lin (φ : V → V) : Prop where
  zero : φ vzero = vzero
  add : ∀ x y, φ (vadd x y) = vadd (φ x) (φ y)
  smul : ∀ c x, φ (L.smul c x) = L.smul c (φ x)
theorem cutV_lin (k : Nat) : Lin (cutV k) := by
  refine ⟨funext fun j => ?_, fun x y => funext fun j => ?_, fun c x => funext fun j => ?_⟩
  · unfold cutV
    split <;> rfl
  · show (if j < k then add (x j) (y j) else zero) = add (if j < k then x j else zero) (if j < k then y j else zero)
    split
    · rfl
    · rw [add_zero]
  · show (if j < k then mul c (x j) else zero) = mul c (if j < k then x j else zero)
    split
    · rfl
    · rw [mul_zero]
theorem Sp.lin {φ : V → V} (h : Lin φ) {A : List V} {v : V} (hv : Sp A v) : Sp (A.map φ) (φ v) := by
  induction hv with
  | zero => rw [h.zero]; exact Sp.zero
  | step c x v hx _ ih =>
    rw [h.add, h.smul]
    exact Sp.step c _ _ (List.mem_map.2 ⟨x, hx, rfl⟩) ih
theorem Same.lin {φ : V → V} (h : Lin φ) {A B : List V} (hs : Same A B) : Same (A.map φ) (B.map φ) := by
  refine Same.of (fun x hx => ?_) fun x hx => ?_
  · obtain ⟨a, ha, rfl⟩ := List.mem_map.1 hx
    exact Sp.lin h ((hs a).1 (Sp.mem ha))
  · obtain ⟨a, ha, rfl⟩ := List.mem_map.1 hx
    exact Sp.lin h ((hs a).2 (Sp.mem ha))
theorem rowAt_map {φ : V → V} (h : Lin φ) (A : List V) (i : Nat) : rowAt (A.map φ) i = φ (rowAt A i) := by
  unfold rowAt
  rw [List.getElem?_map]
  cases A[i]? with
  | none => exact h.zero.symm
  | some x => rfl
theorem cutV_lt {k j : Nat} (v : V) (h : j < k) : cutV k v j = v j := if_pos h
/-- The first columns alone. -/
theorem Ech.cut {A X : List V} {ps : List Nat} {k : Nat} (h : Ech A X ps k) : Ech (A.map (cutV k)) (X.map (cutV k)) ps k := by
  have hl := cutV_lin k
  refine ⟨h.same.lin hl, h.psort, h.plt, fun t p hp => ?_, fun t p hp j hj => ?_, fun t p hp s hs => ?_, fun s hs j hj => ?_, by rw [List.length_map]; exact h.le⟩
  · rw [rowAt_map hl, cutV_lt _ (h.plt p (List.mem_of_getElem? hp))]
    exact h.lead t p hp
  · have := h.plt p (List.mem_of_getElem? hp)
    rw [rowAt_map hl, cutV_lt _ (by omega)]
    exact h.ahead t p hp j hj
  · rw [rowAt_map hl, cutV_lt _ (h.plt p (List.mem_of_getElem? hp))]
    exact h.apart t p hp s hs
  · rw [rowAt_map hl, cutV_lt _ hj]
    exact h.rest s hs j hj
theorem cutV_supp (k : Nat) (v : V) : Supp k (cutV k v) := fun j hj => if_neg (by omega)
/-- The rank of the first columns is the number of rows that begin there. -/
theorem Ech.rank {A X : List V} {ps : List Nat} {k : Nat} (h : Ech A X ps k) : rk (A.map (cutV k)) = ps.length := by
  have hd := h.cut.done fun x hx => by
    obtain ⟨a, _, rfl⟩ := List.mem_map.1 hx
    exact cutV_supp k a
  have hle := h.le
  rw [rk_eq hd.1, List.length_zip, List.length_take, List.length_map]
  omega
theorem range_of : ∀ (ps : List Nat) (b : Nat), ps.Pairwise (· < ·) → (∀ p ∈ ps, b ≤ p ∧ p < b + ps.length) → ps = List.range' b ps.length
  | [], _, _, _ => rfl
  | p :: ps, b, hs, hb => by
    obtain ⟨h1, h2⟩ := List.pairwise_cons.1 hs
    have hp := hb p (by simp)
    rw [List.length_cons] at hp
    have hc := places_le (ps.map fun q => (q, vzero)) (p + 1) (b + (ps.length + 1)) (by
      rw [List.pairwise_map]
      exact h2) fun a ha => by
      obtain ⟨q, hq, rfl⟩ := List.mem_map.1 ha
      have e1 := h1 q hq
      have e2 := hb q (by simp [hq])
      rw [List.length_cons] at e2
      exact ⟨e1, e2.2⟩
    rw [List.length_map] at hc
    by_cases h0 : ps.length = 0
    · have : ps = [] := List.eq_nil_of_length_eq_zero h0
      subst this
      have : p = b := by simp at hp; omega
      subst this
      rfl
    · have e : p = b := by omega
      subst e
      have ih := range_of ps (p + 1) h2 fun q hq => by
        have e1 := h1 q hq
        have e2 := hb q (by simp [hq])
        rw [List.length_cons] at e2
        omega
      rw [List.length_cons, List.range'_succ, ← ih]
theorem Ech.full {A X : List V} {ps : List Nat} {k : Nat} (h : Ech A X ps k) (hk : ps.length = k) : ps = List.range k := by
  have := range_of ps 0 h.psort fun p hp => ⟨Nat.zero_le _, by have := h.plt p hp; omega⟩
  rw [this, hk, List.range_eq_range']
/-- Only as many elements count as there are rows. -/
theorem lc_congr : ∀ (M : List V) (c d : V), (∀ j, j < M.length → c j = d j) → lc c M = lc d M
  | [], _, _, _ => rfl
  | x :: M, c, d, h => by
    show vadd (smul (c 0) x) (lc (fun i => c (i + 1)) M) = vadd (smul (d 0) x) (lc (fun i => d (i + 1)) M)
    rw [h 0 (by simp), lc_congr M _ (fun i => d (i + 1)) fun j hj => h (j + 1) (by simp; omega)]
/-- M answers the row v: its first elements times M are its others. -/
def Ans (k : Nat) (M : List V) (v : V) : Prop := lc v M = shV k v
theorem Ans.span {k : Nat} {M A : List V} (h : ∀ a ∈ A, Ans k M a) {v : V} (hv : Sp A v) : Ans k M v := by
  induction hv with
  | zero => exact lc_zero M
  | step c x v hx _ ih =>
    unfold Ans at *
    rw [lc_add, lc_smul, h x hx, ih]
    rfl
theorem Ans.same {k : Nat} {M A X : List V} (h : Same A X) : (∀ a ∈ A, Ans k M a) ↔ ∀ x ∈ X, Ans k M x :=
  ⟨fun ha x hx => Ans.span ha ((h x).2 (Sp.mem hx)), fun ha x hx => Ans.span ha ((h x).1 (Sp.mem hx))⟩
theorem mem_iff_rowAt {X : List V} {P : V → Prop} : (∀ x ∈ X, P x) ↔ ∀ i, i < X.length → P (rowAt X i) := by
  refine ⟨fun h i hi => h _ (rowAt_mem hi), fun h x hx => ?_⟩
  obtain ⟨i, hi, rfl⟩ := mem_rowAt hx
  exact h i hi
/-- Reduced in all of the first columns: M answers just if it is what stands behind them, and nothing stands in the rows behind. -/
theorem Ech.answers {A X M : List V} {ps : List Nat} {k : Nat} (h : Ech A X ps k) (hk : ps.length = k) (hM : M.length = k) :
    (∀ a ∈ A, Ans k M a) ↔ (∀ i, i < k → rowAt M i = shV k (rowAt X i)) ∧ ∀ i, k ≤ i → i < X.length → rowAt X i = vzero := by
  have hp := h.full hk
  subst hp
  have hle : k ≤ X.length := by have := h.le; simpa using this
  have get : ∀ t, t < k → (List.range k)[t]? = some t := fun t ht => List.getElem?_range ht
  have hu : ∀ i, i < k → lc (rowAt X i) M = rowAt M i := fun i hi => by
    rw [← lc_unit M i]
    refine lc_congr M _ _ fun j hj => ?_
    unfold unit
    rw [hM] at hj
    by_cases e : j = i
    · subst e
      rw [if_pos rfl, h.lead j j (get j hj)]
    · rw [if_neg e]
      exact h.apart j j (get j hj) i fun c => e c.symm
  have hz : ∀ i, k ≤ i → lc (rowAt X i) M = vzero := fun i hi => by
    rw [← lc_zero M]
    refine lc_congr M _ _ fun j hj => ?_
    rw [hM] at hj
    exact h.rest i (by simpa using hi) j hj
  rw [Ans.same h.same.symm, mem_iff_rowAt]
  constructor
  · intro ha
    refine ⟨fun i hi => ?_, fun i h1 h2 => ?_⟩
    · rw [← hu i hi]
      exact ha i (by omega)
    · have e : shV k (rowAt X i) = vzero := by rw [← hz i h1]; exact (ha i h2).symm
      funext j
      by_cases hj : j < k
      · exact h.rest i (by simpa using h1) j hj
      · have := congrFun e (j - k)
        unfold shV at this
        rwa [show k + (j - k) = j by omega] at this
  · rintro ⟨h1, h2⟩ i hi
    unfold Ans
    by_cases e : i < k
    · rw [hu i e, h1 i e]
    · rw [hz i (by omega), h2 i (by omega) hi]
      rfl
end Go.Proofs.YtbabecjphmmngaaGreat.L
namespace Go.Proofs.YtbabecjphmmngaaGreat
open Go.RowKit

theorem vec_app_lt {a b : List Int} {j : Nat} (h : j < a.length) : vec (a ++ b) j = vec a j := by
  show fb ((a ++ b).getD j 0) = fb (a.getD j 0)
  rw [List.getD_eq_getElem?_getD, List.getElem?_append_left h, ← List.getD_eq_getElem?_getD]
theorem vec_app_ge {a b : List Int} (j : Nat) : vec (a ++ b) (a.length + j) = vec b j := by
  show fb ((a ++ b).getD (a.length + j) 0) = fb (b.getD j 0)
  rw [List.getD_eq_getElem?_getD, List.getElem?_append_right (by omega), Nat.add_sub_cancel_left, ← List.getD_eq_getElem?_getD]
theorem vec_drop (l : List Int) (k : Nat) : vec (l.drop k) = L.shV k (vec l) := by
  funext j
  show fb ((l.drop k).getD j 0) = fb (l.getD (k + j) 0)
  rw [List.getD_eq_getElem?_getD, List.getElem?_drop, ← List.getD_eq_getElem?_getD]
/-- Rows of A, each followed by the row of B with the same index. -/
structure Side (k m n : Nat) (A B J : List (List Int)) : Prop where
  wa : Wide k A
  wb : Wide m B
  la : A.length = n
  lb : B.length = n
  lj : J.length = n
  is : ∀ i, i < n → J.getD i [] = A.getD i [] ++ B.getD i []
section
variable {k m n : Nat} {A B J : List (List Int)}
theorem Side.wide (h : Side k m n A B J) : Wide (k + m) J := by
  intro r hr
  obtain ⟨i, hi, rfl⟩ := List.getElem_of_mem hr
  have e := h.is i (by rw [← h.lj]; exact hi)
  rw [List.getD_eq_getElem?_getD, List.getElem?_eq_getElem hi] at e
  have h1 := h.wa.at i (by rw [h.la, ← h.lj]; exact hi)
  have h2 := h.wb.at i (by rw [h.lb, ← h.lj]; exact hi)
  rw [show J[i] = A.getD i [] ++ B.getD i [] from e]
  refine ⟨by rw [List.length_append, h1.1, h2.1], fun x hx => ?_⟩
  rcases List.mem_append.1 hx with hx | hx
  · exact h1.2 x hx
  · exact h2.2 x hx
theorem Side.cut (h : Side k m n A B J) : (J.map vec).map (L.cutV k) = A.map vec := by
  apply List.ext_getElem
  · simp [h.la, h.lj]
  intro i h1 h2
  rw [List.length_map] at h2
  have hi : i < J.length := by rw [h.lj, ← h.la]; exact h2
  have e := h.is i (by rw [← h.la]; exact h2)
  have hw := (h.wa.at i h2).1
  rw [List.getD_eq_getElem?_getD, List.getElem?_eq_getElem hi] at e
  rw [List.getElem_map, List.getElem_map, List.getElem_map, show J[i] = A.getD i [] ++ B.getD i [] from e]
  rw [show A[i] = A.getD i [] by rw [List.getD_eq_getElem?_getD, List.getElem?_eq_getElem h2]; rfl]
  funext j
  by_cases hj : j < k
  · rw [L.cutV_lt _ hj, vec_app_lt (by rw [hw]; exact hj)]
  · rw [show L.cutV k (vec (A.getD i [] ++ B.getD i [])) j = L.zero from if_neg hj]
    exact (vec_supp hw j (by omega)).symm
theorem Side.ans (h : Side k m n A B J) {M : List L.V} (hM : M.length = k) : L.mulM (A.map vec) M = B.map vec ↔ ∀ a ∈ J.map vec, L.Ans k M a := by
  have key : ∀ i, i < n → (L.lc (L.rowAt (A.map vec) i) M = L.rowAt (B.map vec) i ↔ L.Ans k M (L.rowAt (J.map vec) i)) := by
    intro i hi
    have hw := (h.wa.at i (by rw [h.la]; exact hi)).1
    rw [rowAt_vec, rowAt_vec, rowAt_vec, h.is i hi]
    unfold L.Ans
    have e1 : L.lc (vec (A.getD i [] ++ B.getD i [])) M = L.lc (vec (A.getD i [])) M := L.lc_congr M _ _ fun j hj => vec_app_lt (by rw [hw, ← hM]; exact hj)
    have e2 : L.shV k (vec (A.getD i [] ++ B.getD i [])) = vec (B.getD i []) := funext fun j => by
      show vec (A.getD i [] ++ B.getD i []) (k + j) = _
      rw [← hw, vec_app_ge]
    rw [e1, e2]
  rw [L.Sat.of_mul (by simp [h.la, h.lb]), L.mem_iff_rowAt]
  unfold L.Sat
  rw [List.length_map, List.length_map, h.la, h.lj]
  exact ⟨fun g i hi => (key i hi).1 (g i hi), fun g i hi => (key i hi).2 (g i hi)⟩
theorem Side.rank {X : List (List Int)} {ps : List Nat} (h : Side k m n A B J) (he : L.Ech (J.map vec) (X.map vec) ps k) : rkL A = ps.length := by
  unfold rkL
  rw [← h.cut]
  exact he.rank
/-- A row behind the first ones is left: there is no solution. -/
theorem Side.clash {X : List (List Int)} {ps : List Nat} (h : Side k m n A B J) (he : L.Ech (J.map vec) (X.map vec) ps k) (hk : ps.length = k) (hX : Wide (k + m) X) (i : Nat) (h1 : k ≤ i) (h2 : i < X.length) (h3 : 0 ≤ leadL (X.getD i [])) :
    ∀ M : List L.V, M.length = k → L.mulM (A.map vec) M ≠ B.map vec := by
  intro M hM e
  have := ((he.answers hk hM).1 ((h.ans hM).1 e)).2 i h1 (by rw [List.length_map]; exact h2)
  rw [rowAt_vec] at this
  exact vec_ne (hX.at i h2).2 h3 this
/-- None is left: what stands behind the first columns is the solution. -/
theorem Side.solved {X S : List (List Int)} {ps : List Nat} (h : Side k m n A B J) (he : L.Ech (J.map vec) (X.map vec) ps k) (hk : ps.length = k) (h0 : ∀ i, k ≤ i → i < X.length → leadL (X.getD i []) = -1) (hX : Wide (k + m) X)
    (hS : S.length = k) (hi : ∀ i, i < k → S.getD i [] = (X.getD i []).drop k) : IsMul m A S B ∧ Wide m S := by
  have hle : k ≤ X.length := by have := he.le; rw [List.length_map] at this; omega
  refine ⟨⟨h.wb, ?_⟩, fun r hr => ?_⟩
  · refine ((h.ans (by rw [List.length_map]; exact hS)).2 ((he.answers hk (by rw [List.length_map]; exact hS)).2 ⟨fun i h1 => ?_, fun i h1 h2 => ?_⟩)).symm
    · rw [rowAt_vec, rowAt_vec, hi i h1, vec_drop]
    · rw [List.length_map] at h2
      rw [rowAt_vec]
      exact vec_nought (h0 i h1 h2)
  · obtain ⟨i, h1, rfl⟩ := List.getElem_of_mem hr
    have e := hi i (by omega)
    rw [List.getD_eq_getElem?_getD, List.getElem?_eq_getElem h1] at e
    have hw := hX.at i (by omega)
    rw [show S[i] = (X.getD i []).drop k from e]
    exact ⟨by rw [List.length_drop, hw.1]; omega, fun x hx => hw.2 x (List.mem_of_mem_drop hx)⟩
end
theorem Bs.dropAt {w : World} {b : Addr} {p c k : Nat} {l : List Int} (h : Bs w (.slice (some b) p c) l) (hk : k ≤ p) : Bs w (.slice (some (b.add k)) (p - k) (c - k)) (l.drop k) := by
  obtain ⟨h0, oa, c', he, h2, h3, h4, h5⟩ := h
  obtain ⟨rfl, rfl, rfl⟩ : some b = oa ∧ p = l.length ∧ c = c' := by simpa using he
  have hl : (l.drop k).length = l.length - k := List.length_drop
  refine ⟨fun x hx => h0 x (List.mem_of_mem_drop hx), some (b.add k), c - k, by rw [hl], by rw [hl]; omega, by omega, (fun h => by cases h), fun a ha i hi => ?_⟩
  cases ha
  rw [hl] at hi
  rw [Addr.add_add', h5 b rfl (k + i) (by omega), List.getD_eq_getElem?_getD, List.getD_eq_getElem?_getD, List.getElem?_drop]
set_option maxRecDepth 100000 in
set_option maxHeartbeats 1600000 in
theorem mcut_any (g d c k m : Nat) (R : List (List Int)) (w : World) (hb : Bss w (.slice (some ⟨g, 0, none⟩) d c) R) (hl : R.length = d) (h0 : 0 < d) (hd : d ≤ 1000) (hW : Wide (k + m) R) (hk : k ≤ 64) (hm : m ≤ 64) (hm1 : 1 ≤ m) :
    Calls Tryz.prog 44 #[.slice (some ⟨g, 0, none⟩) d c, .int .i64 k] w fun e w' => ∃ v S, e = .returned v ∧ RwsN w.heap.size w' v S ∧ Gr w w' ∧ S.length = d ∧ ∀ i, i < d → S.getD i [] = (R.getD i []).drop k := by
  have HW := Lib.hid hW
  have HL := Lib.hid hl
  obtain ⟨a, c', he, h1, h2, h3⟩ := Bss.at hb (by omega)
  rw [hl] at he h1 h3
  obtain ⟨rfl, rfl⟩ : (⟨g, 0, none⟩ : Addr) = a ∧ c = c' := by simpa using he
  have HA := Lib.hid h3
  obtain ⟨p, hp⟩ : ∃ p, k + m = p := ⟨_, rfl⟩
  rw [hp] at HW
  have hkp : k < p := by omega
  have hp2 : p ≤ 128 := by omega
  have hmk := make24 d d (by omega) (by omega)
  have hR : ∃ cur, cur = nils d := ⟨_, rfl⟩
  obtain ⟨cur, hcur⟩ := hR
  rw [← hcur] at hmk
  have HF0 : Hid (Fill w (w.alloc (.cells cur 25)) w.heap.size d (fun i l => l = (R.getD i []).drop k) 0 (List.replicate d (.slice none 0 0)) (List.replicate d [])) := Lib.hid (by rw [hcur]; exact Fill.start w d (by omega) _)
  clear hb hl hW he h3 hp hm hm1 hcur
  go_enter Tryz.func44, Tryz.ntmps44
  go_wp2
  clear hmk
  generalize hW : w.alloc (.cells cur 25) = W at *
  generalize hG : w.heap.size = g2 at *
  go_loopw [13] (fun i wr => ∃ (j : Nat) (us : List Value) (L : List (List Int)), j ≤ d ∧ i = .int .i64 j ∧ Fill w wr g2 d (fun i l => l = (R.getD i []).drop k) j us L ∧ ∀ t, t < j → Rn w.heap.size wr (us.getD t undef)) (fun i _ => d - (intOf i).toNat)
  case atStart => exact ⟨0, _, _, by omega, rfl, HF0.out, fun t ht => by omega⟩
  case round =>
    clear HF0
    obtain ⟨j, us, Lx, hj, rfl, hfl, hrn⟩ := hrel
    have FL := Lib.hid hfl
    have RN := Lib.hid hrn
    clear hfl hrn
    by_cases hlt : j < d
    · obtain ⟨u, q0, hu⟩ := HA.out j hlt
      have q1 := cell_grown FL.out.gr q0
      rw [Addr.add_mid, Nat.zero_add] at q1
      have hu1 := Bs.grown hu FL.out.gr
      have hwr := HW.out.at j (by rw [HL.out]; exact hlt)
      obtain ⟨b, cu, rfl, u1, u2, _⟩ := Bs.at hu1 (by rw [hwr.1]; omega)
      rw [hwr.1] at q1 hu1 u1
      have HD := Lib.hid (hu1.dropAt (k := k) (by omega))
      have hne : cu ≠ k := by omega
      have HLL : Hid (((R.getD j []).drop k).length = p - k) := Lib.hid (by rw [List.length_drop, hwr.1])
      have HLD : Hid (((R.getD j []).drop k).length ≤ 1000000) := Lib.hid (by rw [HLL.out]; omega)
      have qc := FL.out.cell j hlt
      have qf := FL.out.frozen j
      clear q0 hu hu1 hwr
      go_wp2_with (first | (go_at_call 30; refine (clone_any _ ((R.getD j []).drop k) _ (by exact HD.out) HLD.out).mono ?_; rintro e w2 ⟨v2, rfl, hown2, hg2⟩; have NW := Lib.hid (New.of_row hg2 HD.out.1 hown2); rw [HLL.out] at hown2; obtain ⟨o2, c2, rfl⟩ := ownsRow_form hown2; have hc2 := cell_grown hg2 qc; have hf2 := frozen_grown hg2 qc qf; clear hown2 hg2))
      have hgs : w.heap.size ≤ wr.heap.size := FL.out.gr.size
      have hus : us.length = d := by have := FL.out.own.1; omega
      refine ⟨⟨j + 1, _, _, by omega, by go_num, (FL.out.grow NW.out.1).put hlt (New.bs NW.out) (New.rb NW.out _) rfl, fun t ht => ?_⟩, by simp [intOf]; omega⟩
      by_cases e : t = j
      · subst e
        rw [List.getD_eq_getElem?_getD, List.getElem?_set_self (by omega)]
        exact (New.rnM NW.out hgs).setM (FL.out.own.of_gr NW.out.1) _ _
      · rw [List.getD_eq_getElem?_getD, List.getElem?_set_ne (fun c => e c.symm), ← List.getD_eq_getElem?_getD]
        exact ((RN.out t (by omega)).grM NW.out.1).setM (FL.out.own.of_gr NW.out.1) _ _
    · obtain rfl : j = d := by omega
      go_wp2
      go_ret
      exact ⟨_, Lx, rfl, ⟨us, by rw [FL.out.len]; exact FL.out.own, fun i hi => ⟨(FL.out.row i (by rw [← FL.out.len]; exact hi)).1, RN.out i (by rw [← FL.out.len]; exact hi)⟩⟩, FL.out.gr, FL.out.len, FL.out.is⟩
set_option maxRecDepth 100000 in
set_option maxHeartbeats 1600000 in
theorem solve_nil (f vb : Value) (oa : Option Addr) (ca : Nat) (B : List (List Int)) (w : World) (ha : Bss w (.slice oa 0 ca) []) (hb : Bss w vb B) (hlb : B.length = 0) (hmb : mayL B = true) :
    Calls Tryz.prog 21 #[f, .slice oa 0 ca, vb] w fun e w' => ∃ v n S, e = .returned (.tuple #[v, .int .i64 n]) ∧ RwsN w.heap.size w' v S ∧ Gr w w' ∧ SolSays [] B n S := by
  have HS := Lib.hid ha
  have HSB := Lib.hid hb
  have HMB := Lib.hid hmb
  have HLB := Lib.hid hlb
  obtain ⟨ob, cb, rfl, _, _, _, _⟩ := hb
  rw [hlb] at HSB ⊢
  clear ha hmb hlb
  go_enter Tryz.func21, Tryz.ntmps21
  go_wp2_with fail
  refine (may_any _ [] w HS.out (by simp)).mono ?_
  rintro e w1 ⟨rfl, hg1⟩
  rw [show mayL [] = true from rfl]
  have G1 := Lib.hid hg1
  clear hg1
  go_wp2_with fail
  refine (may_any _ B w1 (Bss.grown HSB.out G1.out) (by rw [HLB.out]; omega)).mono ?_
  rintro e w2 ⟨rfl, hg2⟩
  rw [HMB.out]
  have G2 := Lib.hid (Gr.trans G1.out hg2)
  clear hg2
  go_wp2
  go_ret2
  exact ⟨_, _, [], rfl, RwsN.nilM _ _, G2.out, .inl ⟨rfl, rfl, rfl⟩⟩
set_option maxRecDepth 100000 in
set_option maxHeartbeats 3200000 in
theorem solve_pos (f va vb : Value) (A B : List (List Int)) (w : World) (hf : IsF w f) (ha : Bss w va A) (hb : Bss w vb B) (hl : A.length ≤ 1000) (hlb : B.length = A.length) (hma : mayL A = true) (hmb : mayL B = true) (h0 : 0 < A.length) (hk1 : 1 ≤ wd A) (hm1 : 1 ≤ wd B) :
    Calls Tryz.prog 21 #[f, va, vb] w fun e w' => ∃ v n S, e = .returned (.tuple #[v, .int .i64 n]) ∧ RwsN w.heap.size w' v S ∧ Gr w w' ∧ SolSays A B n S := by
  have WA := Lib.hid (Wide.of_bss ha hma)
  have WB := Lib.hid (Wide.of_bss hb hmb)
  have HS := Lib.hid ha
  have HSB := Lib.hid hb
  have HF := Lib.hid hf
  have HMA := Lib.hid hma
  have HMB := Lib.hid hmb
  have hk64 : wd A ≤ 64 := (mayL_at hma 0 h0).2
  have hm64 : wd B ≤ 64 := (mayL_at hmb 0 (by omega)).2
  have HA0 : Hid (A ≠ []) := Lib.hid (List.length_pos_iff.1 h0)
  obtain ⟨oa, ca, rfl, a1, a2, _, _⟩ := ha
  obtain ⟨ob, cb, rfl, b1, b2, _, _⟩ := hb
  rw [hlb] at HSB b1 ⊢
  have HLB0 := Lib.hid hlb
  obtain ⟨n, hn⟩ : ∃ n, A.length = n := ⟨_, rfl⟩
  obtain ⟨k, hk⟩ : ∃ k, wd A = k := ⟨_, rfl⟩
  obtain ⟨m, hm⟩ : ∃ m, wd B = m := ⟨_, rfl⟩
  rw [hn] at HS HSB a1 b1 hl h0 ⊢
  rw [hk] at hk64 hk1 WA
  rw [hm] at hm64 hm1 WB
  have HN := Lib.hid hn
  have HLB : Hid (B.length = n) := Lib.hid (by rw [hlb, hn])
  have HK := Lib.hid hk
  have HMW := Lib.hid hm
  have hc0 : ((n : Int) == 0) = false := by simp; omega
  clear hf hma hmb hn hk hm hlb
  go_enter Tryz.func21, Tryz.ntmps21
  go_wp2_with fail
  refine (may_any _ A w HS.out (by rw [HN.out]; omega)).mono ?_
  rintro e w1 ⟨rfl, hg1⟩
  rw [HMA.out]
  have G1 := Lib.hid hg1
  clear hg1
  go_wp2_with fail
  refine (may_any _ B w1 (Bss.grown HSB.out G1.out) (by rw [HLB.out]; omega)).mono ?_
  rintro e w2 ⟨rfl, hg2⟩
  rw [HMB.out]
  have G2 := Lib.hid (Gr.trans G1.out hg2)
  clear hg2
  go_wp2_with fail
  refine (columns_any _ A w2 (Bss.grown HS.out G2.out)).mono ?_
  rw [HK.out]
  rintro e w3 ⟨rfl, hg3⟩
  have G3 := Lib.hid (Gr.trans G2.out hg3)
  clear hg3
  go_wp2_with fail
  refine (joined_any _ _ A B k m w3 (Bss.grown HS.out G3.out) (Bss.grown HSB.out G3.out) (by rw [HN.out]; exact hl) HLB0.out (by rw [HN.out]; exact h0) WA.out WB.out hk64 hm64).mono ?_
  rw [HN.out]
  rintro e w4 ⟨g, us, J, rfl, hfl⟩
  have HJ : Hid (Side k m n A B J) := Lib.hid ⟨WA.out, WB.out, HN.out, HLB.out, hfl.len, hfl.is⟩
  have hx : Mx w3 w4 g n n (k + m) J J [] 0 us := ⟨hfl.own, hfl.row, hfl.len, HJ.out.wide, L.Ech.start _, hfl.gr⟩
  have HX := Lib.hid hx
  have HOWN := Lib.hid hfl.own
  have HROW0 := Lib.hid (hfl.row 0 (by omega)).1
  have G4 := Lib.hid (Gr.trans G3.out hfl.gr)
  clear hx hfl
  go_wp2_with fail
  refine (mtabled_any f _ (IsF.grown HF.out G4.out)).mono ?_
  rintro e w5 ⟨b, rfl, hfb, hg5⟩
  have HFB := Lib.hid hfb
  have HX5 := Lib.hid (HX.out.grow hg5)
  have HNE : Hid (b ≠ g) := Lib.hid (field_block hfb (HOWN.out.of_gr hg5) h0 HROW0.out)
  clear hfb hg5 HX HOWN
  go_wp2_with fail
  refine (eliminate_any _ HX5.out b HFB.out HNE.out k (by omega) hl (by omega) (Nat.le_refl _) (by omega)).mono ?_
  rintro e w6 ⟨ps, Lm, us6, rfl, hx6⟩
  have hrk := HJ.out.rank hx6.ech
  have hdk : ps.length ≤ k := by rw [← hrk]; exact L.rk_le_cols WA.out.supp
  have hdn : ps.length ≤ n := by have := hx6.ech.le; rw [List.length_map, hx6.len] at this; exact this
  have HX6 := Lib.hid hx6
  have G6 := Lib.hid (Gr.trans G3.out hx6.gr)
  generalize hd : ps.length = d at *
  have HD := Lib.hid hd
  have HRK := Lib.hid hrk
  clear hx6 HX5 HFB HNE hd hrk
  by_cases hlow : d < k
  · go_wp2
    go_ret2
    exact ⟨_, _, [], rfl, RwsN.nilM _ _, G6.out, .inr (.inl ⟨HA0.out, by rw [HRK.out, HK.out]; exact hlow, rfl, rfl⟩)⟩
  · obtain rfl : d = k := by omega
    have HB6 : Hid (Bss w6 (.slice (some ⟨g, 0, none⟩) d n) (Lm.take d)) := Lib.hid (Bss.take (owns_bss HX6.out.own HX6.out.len fun i hi => (HX6.out.row i (by rw [← HX6.out.len]; exact hi)).1) HX6.out.len d hdn)
    have HLEN : Hid ((Lm.take d).length = d) := Lib.hid (by rw [List.length_take, HX6.out.len]; omega)
    have done : ∀ wr, Gr w6 wr → (∀ t, d ≤ t → t < n → leadL (Lm.getD t []) = -1) → ∀ v S w7, RwsN wr.heap.size w7 v S → Gr wr w7 → S.length = d → (∀ i, i < d → S.getD i [] = ((Lm.take d).getD i []).drop d) → RwsN w.heap.size w7 v S ∧ Gr w w7 ∧ SolSays A B 0 S := by
      intro wr hgr hz v S w7 hb hg hsl hsi
      have := HJ.out.solved HX6.out.ech HD.out (fun i h1 h2 => hz i h1 (by rw [← HX6.out.len]; exact h2)) HX6.out.wide hsl (fun i hi => by
        rw [hsi i hi, List.getD_eq_getElem?_getD, List.getElem?_take_of_lt hi, ← List.getD_eq_getElem?_getD])
      exact ⟨hb.lowM (Gr.trans G6.out hgr).size, Gr.trans G6.out (Gr.trans hgr hg), .inr (.inr (.inl ⟨HA0.out, by rw [HRK.out, HK.out], rfl, by rw [HK.out]; exact hsl, by rw [HMW.out]; exact this.1, by rw [HMW.out]; exact this.2⟩))⟩
    have DONE := Lib.hid done
    clear done
    by_cases hnd : d = n
    · subst hnd
      go_wp2
      go_loopw [50] (fun i wr => i = .int .i64 0 ∧ wr = w6) (fun _ _ => 0)
      case atStart => exact ⟨rfl, rfl⟩
      case round =>
        obtain ⟨rfl, rfl⟩ := hrel
        go_wp2_with fail
        refine (mcut_any g d d d m (Lm.take d) _ HB6.out HLEN.out (by omega) hl (HX6.out.wide.take d) hk64 hm64 hm1).mono ?_
        rintro e w7 ⟨v7, S, rfl, hb7, hg7, hs7, hi7⟩
        have H7 := Lib.hid (DONE.out _ (Gr.refl _) (fun t h1 h2 => by omega) v7 S w7 hb7 hg7 hs7 hi7)
        clear hb7 hg7 hs7 hi7
        go_wp2
        go_ret2
        exact ⟨_, _, S, rfl, H7.out⟩
    · have hlt : d < n := by omega
      have hnd' : n ≠ d := by omega
      go_wp2
      go_loopw [50] (fun i wr => ∃ s : Nat, s ≤ n - d ∧ i = .int .i64 s ∧ Gr w6 wr ∧ ∀ t, d ≤ t → t < d + s → leadL (Lm.getD t []) = -1) (fun i _ => n - d - (intOf i).toNat)
      case atStart => exact ⟨0, by omega, rfl, Gr.refl _, by omega⟩
      case round =>
        obtain ⟨s, hs, rfl, hg, hz⟩ := hrel
        have G := Lib.hid hg
        have HZ := Lib.hid hz
        clear hg hz
        by_cases hlts : s < n - d
        · obtain ⟨oi, ci, ei, q0, _⟩ := HX6.out.cell (d + s) (by omega)
          have q1 := cell_grown G.out q0
          have hrow := (HX6.out.row (d + s) (by omega)).1
          rw [ei] at hrow
          have HR := Lib.hid (Bs.grown hrow G.out)
          have HWR := Lib.hid (HX6.out.wide.at (d + s) (by rw [HX6.out.len]; omega)).1
          clear q0 hrow ei
          go_wp2_with fail
          refine (ok_lead _ (Lm.getD (d + s) []) _ HR.out (by rw [HWR.out]; omega)).mono ?_
          rintro e w7 ⟨rfl, hg7⟩
          have hge := leadL_ge (Lm.getD (d + s) [])
          obtain ⟨z, hz⟩ : ∃ z, leadL (Lm.getD (d + s) []) = z := ⟨_, rfl⟩
          rw [hz] at hge ⊢
          have HZZ := Lib.hid hz
          have G7 := Lib.hid (Gr.trans G.out hg7)
          clear hz hg7
          by_cases hz0 : 0 ≤ z
          · go_wp2
            go_ret2
            exact ⟨_, _, [], rfl, RwsN.nilM _ _, Gr.trans G6.out G7.out, .inr (.inr (.inr ⟨HA0.out, by rw [HRK.out, HK.out], rfl, rfl, fun M hM _ => HJ.out.clash HX6.out.ech HD.out HX6.out.wide (d + s) (by omega) (by rw [HX6.out.len]; omega) (by rw [HZZ.out]; exact hz0) M (by rw [hM, HK.out])⟩))⟩
          · go_wp2
            refine ⟨⟨s + 1, by omega, by go_num, G7.out, fun t h1 h2 => ?_⟩, by simp [intOf]; omega⟩
            by_cases e : t = d + s
            · rw [e, HZZ.out]; omega
            · exact HZ.out t h1 (by omega)
        · obtain rfl : s = n - d := by omega
          go_wp2_with fail
          refine (mcut_any g d n d m (Lm.take d) _ (Bss.grown HB6.out G.out) HLEN.out (by omega) (by omega) (HX6.out.wide.take d) hk64 hm64 hm1).mono ?_
          rintro e w7 ⟨v7, S, rfl, hb7, hg7, hs7, hi7⟩
          have H7 := Lib.hid (DONE.out _ G.out (fun t h1 h2 => HZ.out t h1 (by omega)) v7 S w7 hb7 hg7 hs7 hi7)
          clear hb7 hg7 hs7 hi7
          go_wp2
          go_ret2
          exact ⟨_, _, S, rfl, H7.out⟩
theorem solve_new : ∀ (f va vb : Value) (A B : List (List Int)) (w : World), IsF w f → Bss w va A → Bss w vb B → A.length ≤ 1000 → B.length = A.length → mayL A = true → mayL B = true → (A ≠ [] → 1 ≤ wd A ∧ 1 ≤ wd B) →
    Calls Tryz.prog 21 #[f, va, vb] w fun e w' => ∃ v n S, e = .returned (.tuple #[v, .int .i64 n]) ∧ RwsN w.heap.size w' v S ∧ Gr w w' ∧ SolSays A B n S :=
  fun f va vb A B w hf ha hb hl hlb hma hmb h1 => by
    by_cases h0 : 0 < A.length
    · have := h1 (List.length_pos_iff.1 h0)
      exact solve_pos f va vb A B w hf ha hb hl hlb hma hmb h0 this.1 this.2
    · obtain rfl : A = [] := List.eq_nil_of_length_eq_zero (by omega)
      have hs := ha
      obtain ⟨oa, c, rfl, _, _, _, _⟩ := ha
      exact solve_nil f vb oa c B w hs hb hlb hmb
theorem ok_solve : ∀ (f va vb : Value) (A B : List (List Int)) (w : World), IsF w f → Bss w va A → Bss w vb B → A.length ≤ 1000 → B.length = A.length → mayL A = true → mayL B = true → (A ≠ [] → 1 ≤ wd A ∧ 1 ≤ wd B) →
    Calls Tryz.prog 21 #[f, va, vb] w fun e w' => ∃ v n S, e = .returned (.tuple #[v, .int .i64 n]) ∧ Bss w' v S ∧ Gr w w' ∧ SolSays A B n S :=
  fun f va vb A B w hf ha hb hl hlb hma hmb h1 => (solve_new f va vb A B w hf ha hb hl hlb hma hmb h1).mono fun _ _ ⟨v, n, S, he, hr, hg, hs⟩ => ⟨v, n, S, he, hr.bss, hg, hs⟩
theorem ok_mayNil : ∀ w, Calls Tryz.prog 38 #[.slice none 0 0] w fun e w' => e = .returned (.bool true) ∧ Gr w w' := fun w => may_nil none 0 w (Bss.nil w)
theorem mat_ok : MatOk := ⟨ok_mayNil, ok_reduce, ok_rank, ok_mul, ok_mulNe, ok_solve⟩
end Go.Proofs.YtbabecjphmmngaaGreat
