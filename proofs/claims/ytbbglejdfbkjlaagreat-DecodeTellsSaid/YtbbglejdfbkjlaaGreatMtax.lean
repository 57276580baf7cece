/-
  Texts laid behind one another: Ys Dv Mr Sn Ew Rt Sq.
-/
import Derived.Test.YtbbglejdfbkjlaaGreatMtah
import Derived.Test.YtbbglejdfbkjlaaGreatMtam
import Derived.Test.YtbbglejdfbkjlaaGreatMtao
import Derived.Test.YtbbglejdfbkjlaaGreatMtal
import Derived.Test.YtbbglejdfbkjlaaGreatMtaw
import Derived.Test.YtbbglejdfbkjlaaGreatMtaf
import Derived.Test.YtbbglejdfbkjlaaGreatMtaa
import Derived.Test.YtbbglejdfbkjlaaGreatMtae
import Derived.Deep.RegionHeld3
namespace Go.Proofs.YtbbglejdfbkjlaaGreat
open Go.RowKit
theorem rowP_len (K H S : Int) (seed : Nat) (x : Int) (hm : MayP K H S) : (MayI x → 0 < (rowP K H S seed x).length) ∧ (¬ MayI x → (rowP K H S seed x).length = 0) := by
 unfold rowP
 refine ⟨fun h => ?_, fun h => ?_⟩
 ·rw [if_pos ⟨hm, h⟩, onesL_length]
  have := hm.1
  omega
 ·rw [if_neg fun q => h q.2]
  rfl
theorem New.formL {w w' : World} {v : Value} {l : List Int} (h : New w w' v l) : ∃ o m c, v = .slice o m c ∧ m = l.length := by
 obtain ⟨o, c, e⟩ := (New.bs h).form
 exact ⟨o, _, c, e, rfl⟩
set_option maxRecDepth 100000 in
set_option maxHeartbeats 1600000 in
theorem sysMatrix_in (K H : Nat) (S : Int) (seed : Nat) (v : Value) (l : List Int) (w : World) (hm : MayP K H S) (hs : seed < 4294967296) (hz : Zs w v l) (hl : l.length ≤ 900) :
  Calls Tryz.prog 32 #[par K H S, .int .u32 (seed : Int), v] w fun e w' => ∃ u, e = .returned u ∧ Bss w' u (matP K H S seed l) ∧ Gr w w' := by
 have hd := decide_eq_true hm
 have HM := Lib.hid hm
 have HAH := Lib.hid fun W : World => rows_pre K H S W
 obtain ⟨n, hn⟩ : ∃ n, l.length = n := ⟨_, rfl⟩
 obtain ⟨hzi, oa, ca, rfl, z2, z3, z4, z5⟩ := hz
 rw [hn] at z2 z5 hl ⊢
 have HI := Lib.hid hzi
 have HC := Lib.hid z5
 have HN := Lib.hid hn
 have hoa : n = 0 ∨ ∃ a, oa = some a := by
  cases oa with
  | none => exact .inl (by have := z4 rfl; omega)
  | some a => exact .inr ⟨a, rfl⟩
 have P0 : Hid (Par (w.alloc (.cells #[.int .i64 (K : Int), .int .i64 (H : Int), .int .i64 S] 23)) w.heap.size K H S) := Lib.hid (heap_alloc_new _ _)
 have HG0 : Hid (Gr w (w.alloc (.cells #[.int .i64 (K : Int), .int .i64 (H : Int), .int .i64 S] 23))) := Lib.hid (Gr.alloc (Gr.refl _) _ _)
 clear hzi z5 hn z4 z2 z3 hm
 go_enter Tryz.func32, Tryz.ntmps32
 go_wp2_with fail
 generalize w.alloc (.cells #[.int .i64 (K : Int), .int .i64 (H : Int), .int .i64 S] 23) = W0 at *
 generalize hgp : w.heap.size = gp at *
 refine (may_pre K H S _).mono ?_
 rw [hd]
 rintro e w1 ⟨rfl, hg1⟩
 have P1 := Lib.hid (P0.out.grown hg1)
 have HG1 := Lib.hid (Gr.trans HG0.out hg1)
 clear hg1 P0 HG0
 have c0 := P1.out.cell0
 have c1 := P1.out.cell1
 have c2 := P1.out.cell2
 go_wp2_with fail
 refine (HAH.out _).mono ?_
 rintro e w2 ⟨v2, rfl, hr2, hg2⟩
 have hr2 := hr2.rws
 have P2 := Lib.hid (P1.out.grown hg2)
 have HG2 := Lib.hid (Gr.trans HG1.out hg2)
 have R2 : Hid (Rws w1.heap.size w2 v2 (matP K H S seed (l.take 0))) := Lib.hid (by
   rw [List.take_zero, matP_in HM.out]
   rw [aheadP_in HM.out] at hr2
   simpa using hr2)
 have HB : Hid (w.heap.size ≤ w1.heap.size) := Lib.hid HG1.out.size
 have HB2 : Hid (w1.heap.size ≤ w2.heap.size) := Lib.hid hg2.size
 generalize w1.heap.size = b1 at *
 obtain ⟨o2, m2, c2', rfl⟩ := R2.out.form4
 clear hr2 hg2 P1 HG1 c0 c1 c2
 go_wp2_with fail
 go_loopw [7, 18] (fun ov iv W => ∃ i : Nat, i ≤ n ∧ iv = .int .i64 i ∧ Rws b1 W ov (matP K H S seed (l.take i)) ∧ Par W gp K H S ∧ Gr w W ∧ b1 ≤ W.heap.size) (fun _ iv _ => n - (intOf iv).toNat)
 case atStart => exact ⟨0, by omega, rfl, R2.out, P2.out, HG2.out, HB2.out⟩
 case round =>
  clear R2 P2 HG2
  obtain ⟨wo, hwo⟩ : ∃ x, x = wr := ⟨_, rfl⟩
  subst hwo
  obtain ⟨i, hin, rfl, hr, hp, hg, hb1⟩ := hrel
  obtain ⟨oo, mo, co, rfl⟩ := hr.form4
  have c0 := hp.cell0
  have c1 := hp.cell1
  have c2 := hp.cell2
  have HR := Lib.hid hr
  have HP := Lib.hid hp
  have HG := Lib.hid hg
  have HB1 := Lib.hid hb1
  clear hr hp hg hb1
  by_cases hlt : i < n
  ·obtain ⟨a, rfl⟩ : ∃ a, oa = some a := by
    rcases hoa with c1 | c1
    ·omega
    ·exact c1
   have q1 := cell_grown HG.out (HC.out a rfl i hlt)
   obtain ⟨x, hx⟩ : ∃ x, l.getD i 0 = x := ⟨_, rfl⟩
   rw [hx] at q1
   have hxi : I64 x := by rw [← hx]; exact HI.out _ (by rw [List.getD_eq_getElem?_getD, List.getElem?_eq_getElem (by rw [HN.out]; exact hlt)]; exact List.getElem_mem _)
   have HXI := Lib.hid hxi
   have HML := Lib.hid (matP_length K H S seed (l.take i))
   have HLL : Hid ((l.take i).length = i) := Lib.hid (by rw [List.length_take, HN.out]; omega)
   have HS : Hid (matP K H S seed (l.take (i + 1)) = matP K H S seed (l.take i) ++ if MayP K H S ∧ MayI x then [rowP K H S seed x] else []) := Lib.hid (by
     rw [List.take_add_one, List.getElem?_eq_getElem (by rw [HN.out]; exact hlt), ← hx, List.getD_eq_getElem?_getD, List.getElem?_eq_getElem (by rw [HN.out]; exact hlt)]
     exact matP_snoc K H S seed (l.take i) _)
   clear hx
   have HL0 := Lib.hid (rowP_len K H S seed x HM.out)
   go_wp2_with fail
   refine (lt_ok.row K H S seed x _ hs HXI.out).mono ?_
   rintro e w3 ⟨v3, rfl, hn3⟩
   obtain ⟨o3, m3, c3, rfl, hm3⟩ := New.formL hn3
   have NW := Lib.hid hn3
   have HR3 := Lib.hid (HR.out.grown hn3.1)
   have HP3 := Lib.hid (HP.out.grown hn3.1)
   have HG3 := Lib.hid (Gr.trans HG.out hn3.1)
   have HB3 : Hid (b1 ≤ w3.heap.size) := Lib.hid (Nat.le_trans HB1.out hn3.1.size)
   clear hn3 HR HP HG HB1 c0 c1 c2
   by_cases hi : MayI x
   ·have hm0 : 0 < m3 := by
     have := HL0.out.1 hi
     omega
    have HII := Lib.hid hi
    clear hi hm3
    go_wp2_with (at_builtin; refine wpList_append_row rfl _ _ rfl b1 (.slice oo mo co) (matP K H S seed (l.take i)) rfl (HR3.out.grown (Gr.alloc (Gr.refl _) _ _)) w3.heap.size (.slice o3 m3 c3) (rowP K H S seed x) rfl (by rw [cell_of_row _ _ 0 _ _ _ (heap_alloc_new w3 _)]; rfl) (Bs.grown (New.bs NW.out) (Gr.alloc (Gr.refl _) _ _)) (Rb.gr (New.bs NW.out) (New.rb NW.out b1) (Gr.alloc (Gr.refl _) _ _)).2 (by have := HML.out; rw [HLL.out] at this; omega) (by have := HB3.out; simp; omega) ?_; intro v5 w5 hr5 hg5 hk5; have R5 := Lib.hid hr5; have G5 := Lib.hid hg5; have K5 := Lib.hid hk5; clear hr5 hg5 hk5)
    have hg3 : Gr w (w3.alloc (.cells #[.slice o3 m3 c3] 25)) := Gr.alloc HG3.out _ _
    exact ⟨⟨i + 1, by omega, by go_num, by rw [HS.out, if_pos ⟨HM.out, HII.out⟩]; exact R5.out, K5.out.2 _ _ _ _ (HP3.out.grown (Gr.alloc (Gr.refl _) _ _)) (by decide), G5.out w hg3 HB.out, Nat.le_trans HB3.out (Nat.le_trans (by simp) K5.out.1)⟩, by simp [intOf]; omega⟩
   ·have hm0 : m3 = 0 := by
     have := HL0.out.2 hi
     omega
    have HII := Lib.hid hi
    subst hm0
    clear hi hm3
    go_wp2_with fail
    exact ⟨⟨i + 1, by omega, by go_num, by rw [HS.out, if_neg (fun h => HII.out h.2), List.append_nil]; exact HR3.out, HP3.out, HG3.out, HB3.out⟩, by simp [intOf]; omega⟩
  ·obtain rfl : i = n := by omega
   go_wp2_with fail
   go_ret
   refine ⟨_, rfl, ?_, HG.out⟩
   have := HR.out.bss
   rwa [List.take_of_length_le (by rw [HN.out]; exact Nat.le_refl _)] at this
set_option maxRecDepth 100000 in
set_option maxHeartbeats 400000 in
theorem sysMatrix_ne (K H S : Int) (seed : Nat) (v : Value) (l : List Int) (w : World) (hm : ¬ MayP K H S) (hz : Zs w v l) :
  Calls Tryz.prog 32 #[par K H S, .int .u32 (seed : Int), v] w fun e w' => e = .returned (.slice none 0 0) ∧ Gr w w' := by
 have hd := decide_eq_false hm
 obtain ⟨o, c, rfl⟩ := hz.form
 have HG0 : Hid (Gr w (w.alloc (.cells #[.int .i64 K, .int .i64 H, .int .i64 S] 23))) := Lib.hid (Gr.alloc (Gr.refl _) _ _)
 clear hm hz
 go_enter Tryz.func32, Tryz.ntmps32
 go_wp2_with fail
 refine (may_pre K H S _).mono ?_
 rw [hd]
 rintro e w1 ⟨rfl, hg1⟩
 have HG1 := Lib.hid (Gr.trans HG0.out hg1)
 clear hg1
 go_wp2_with fail
 go_ret
 exact ⟨rfl, HG1.out⟩
theorem sysMatrix_any (K H S : Int) (seed : Nat) (v : Value) (l : List Int) (w : World) (hs : seed < 4294967296) (hz : Zs w v l) (hl : l.length ≤ 900) :
  Calls Tryz.prog 32 #[par K H S, .int .u32 (seed : Int), v] w fun e w' => ∃ u, e = .returned u ∧ Bss w' u (matP K H S seed l) ∧ Gr w w' := by
 by_cases hm : MayP K H S
 ·obtain ⟨k, rfl⟩ : ∃ k : Nat, K = k := ⟨K.toNat, by have := hm.1; omega⟩
  obtain ⟨h, rfl⟩ : ∃ h : Nat, H = h := ⟨H.toNat, by have := hm.2.2.1; omega⟩
  exact sysMatrix_in k h S seed v l w hm hs hz hl
 ·rw [matP_ne hm]
  refine (sysMatrix_ne K H S seed v l w hm hz).mono ?_
  rintro e w' ⟨rfl, hg⟩
  exact ⟨_, rfl, Bss.nil _, hg⟩
set_option maxRecDepth 100000 in
set_option maxHeartbeats 400000 in
theorem sysRank_any (K H S : Int) (seed : Nat) (v : Value) (l : List Int) (w : World) (hs : seed < 4294967296) (hz : Zs w v l) (hl : l.length ≤ 900) :
  Calls Tryz.prog 28 #[par K H S, .int .u32 (seed : Int), v] w fun e w' => e = .returned (.int .i64 (rkL (matP K H S seed l))) ∧ Gr w w' := by
 have HG0 : Hid (Gr w (w.alloc (.cells #[.int .i64 K, .int .i64 H, .int .i64 S] 23))) := Lib.hid (Gr.alloc (Gr.refl _) _ _)
 have HZ := Lib.hid hz
 obtain ⟨o, c, rfl⟩ := hz.form
 have HL := Lib.hid hl
 have HLE := Lib.hid (matP_length K H S seed l)
 clear hz hl
 generalize hn : l.length = n at *
 go_enter Tryz.func28, Tryz.ntmps28
 go_wp2_with fail
 refine (sysMatrix_any K H S seed _ l _ hs (HZ.out.grown HG0.out) (by have := HL.out; omega)).mono ?_
 rintro e w1 ⟨u, rfl, hb, hg⟩
 obtain ⟨ou, mu, cu, rfl⟩ := hb.form3
 have HB := Lib.hid hb
 have HG1 := Lib.hid (Gr.trans HG0.out hg)
 clear hb hg
 go_wp2_with fail
 refine (ok_rank _ _ (matP K H S seed l) _ (.inl rfl) HB.out (by have := HLE.out; have := HL.out; omega) (matP_may K H S seed l)).mono ?_
 rintro e w2 ⟨rfl, hg⟩
 have HG2 := Lib.hid (Gr.trans HG1.out hg)
 clear hg
 go_wp2_with fail
 go_ret
 exact ⟨rfl, HG2.out⟩
set_option maxRecDepth 100000 in
set_option maxHeartbeats 800000 in
theorem sysFull_any (K H S : Int) (seed : Nat) (v : Value) (l : List Int) (w : World) (hs : seed < 4294967296) (hz : Zs w v l) (hl : l.length ≤ 900) :
  Calls Tryz.prog 21 #[par K H S, .int .u32 (seed : Int), v] w fun e w' => e = .returned (.bool (decide (FullP K H S seed l))) ∧ Gr w w' := by
 have HG0 : Hid (Gr w (w.alloc (.cells #[.int .i64 K, .int .i64 H, .int .i64 S] 23))) := Lib.hid (Gr.alloc (Gr.refl _) _ _)
 have P0 : Hid (Par (w.alloc (.cells #[.int .i64 K, .int .i64 H, .int .i64 S] 23)) w.heap.size K H S) := Lib.hid (heap_alloc_new _ _)
 have HZ := Lib.hid hz
 obtain ⟨o, m, c, rfl⟩ : ∃ o m c, v = .slice o m c := by
  obtain ⟨o, c, h⟩ := hz.form
  exact ⟨o, _, c, h⟩
 have HL := Lib.hid hl
 obtain ⟨r, hr⟩ : ∃ r, rkL (matP K H S seed l) = r := ⟨_, rfl⟩
 obtain ⟨q, hq⟩ : ∃ q, colsP K H S = q := ⟨_, rfl⟩
 have HF : Hid (decide (FullP K H S seed l) = (decide (MayP K H S) && ((r : Int) == q))) := Lib.hid (by
   have h : FullP K H S seed l ↔ (MayP K H S ∧ (r : Int) = q) := by unfold FullP; rw [hr, hq]
   exact (decide_eq_decide.2 h).trans (by rw [Bool.decide_and]; rfl))
 have HR := Lib.hid hr
 have HQ := Lib.hid hq
 clear hz hl hr hq
 by_cases hm : MayP K H S
 ·have hd := decide_eq_true hm
  have HD := Lib.hid hd
  clear hm
  go_enter Tryz.func21, Tryz.ntmps21
  go_wp2_with fail
  generalize w.alloc (.cells #[.int .i64 K, .int .i64 H, .int .i64 S] 23) = W0 at *
  generalize w.heap.size = gp at *
  have c0 := P0.out.cell0
  have c1 := P0.out.cell1
  have c2 := P0.out.cell2
  go_region_held3 (fun W => W.cell? ⟨gp, 0, none⟩ = some (.int .i64 K) ∧ W.cell? ⟨gp, 1, none⟩ = some (.int .i64 H) ∧ W.cell? ⟨gp, 2, none⟩ = some (.int .i64 S)) (first | exact ⟨k30, k31, k32⟩ | exact ⟨k20, k21, k22⟩ | exact ⟨k10, k11, k12⟩ | go_keep)
   (first
     | (go_at_call 27; refine (cols_pre K H S _).mono ?_; rw [HQ.out]; rintro e v3 ⟨rfl, hg3⟩; have k30 := cell_grown hg3 (by exact k20); have k31 := cell_grown hg3 (by exact k21); have k32 := cell_grown hg3 (by exact k22); have V3 : Hid (Gr v2 v3) := Lib.hid hg3)
     | (go_at_call 28; refine (sysRank_any K H S seed _ l _ hs (HZ.out.grown (Gr.trans HG0.out V1.out)) HL.out).mono ?_; rw [HR.out]; rintro e v2 ⟨rfl, hg2⟩; have k20 := cell_grown hg2 (by exact k10); have k21 := cell_grown hg2 (by exact k11); have k22 := cell_grown hg2 (by exact k12); have V2 : Hid (Gr v1 v2) := Lib.hid hg2)
     | (go_at_call 24; refine (may_pre K H S _).mono ?_; rw [hd]; rintro e v1 ⟨rfl, hg1⟩; have k10 := cell_grown hg1 (by exact c0); have k11 := cell_grown hg1 (by exact c1); have k12 := cell_grown hg1 (by exact c2); have V1 : Hid (Gr W0 v1) := Lib.hid (by exact hg1)))
  have HGZ := Lib.hid (Gr.trans HG0.out (Gr.trans V1.out (Gr.trans V2.out V3.out)))
  go_wp2_with fail
  go_ret
  refine ⟨?_, HGZ.out⟩
  rw [HF.out, HD.out, Bool.true_and]
  rfl
 ·have hd := decide_eq_false hm
  have HD := Lib.hid hd
  clear hm
  go_enter Tryz.func21, Tryz.ntmps21
  go_wp2_with fail
  generalize w.alloc (.cells #[.int .i64 K, .int .i64 H, .int .i64 S] 23) = W0 at *
  generalize w.heap.size = gp at *
  have c0 := P0.out.cell0
  have c1 := P0.out.cell1
  have c2 := P0.out.cell2
  refine wp_region_held_drew (S := fun W => W.cell? ⟨gp, 0, none⟩ = some (.int .i64 K) ∧ W.cell? ⟨gp, 1, none⟩ = some (.int .i64 H) ∧ W.cell? ⟨gp, 2, none⟩ = some (.int .i64 S)) (by kernel_rfl) (by exact ⟨c0, c1, c2⟩) (fun hHeld => ?_)
  refine wpAnyH_yield (i := 0) (v := par K H S) rfl rfl (by kernel_rfl) (by kernel_rfl) (by kernel_rfl) (fun _ _ _ h => h) (Or.inl ⟨by rfl, fun W hW => by obtain ⟨h0, h1, h2⟩ := hW; go_simp⟩) (by assumption) ?_
  simp only [List.setIfInBounds_toArray, List.set_cons_zero, List.set_cons_succ]
  refine wpAnyH_ready (rs := [1]) (by kernel_rfl) (by simp) ?_
  refine AllReadyH.cons rfl (fun K' hK => ?_) AllReadyH.nil
  go_simp
  go_at_call 24
  refine (may_pre K H S _).mono ?_
  rw [hd]
  rintro e v1 ⟨rfl, hg1⟩
  go_wp2_with fail
  refine hK.out _ _ ⟨cell_grown hg1 c0, cell_grown hg1 c1, cell_grown hg1 c2⟩ (fun hHeld => ?_)
  clear hK
  refine wpAnyH_yield (i := 2) (v := .bool false) rfl rfl (by kernel_rfl) (by kernel_rfl) (by kernel_rfl) (fun _ _ _ h => h) (Or.inl ⟨by rfl, fun W hW => by first | (go_simp; done) | (go_simp; with_reducible rfl)⟩) (by assumption) ?_
  simp only [List.setIfInBounds_toArray, List.set_cons_zero, List.set_cons_succ]
  refine wpAnyH_skip (i := 3) rfl rfl (by kernel_rfl) (by kernel_rfl) (by kernel_rfl) (fun _ _ _ h => h) (by rfl) (by assumption) ?_
  simp only [List.setIfInBounds_toArray, List.set_cons_zero, List.set_cons_succ]
  refine wpAnyH_skip (i := 4) rfl rfl (by kernel_rfl) (by kernel_rfl) (by kernel_rfl) (fun _ _ _ h => h) (by rfl) (by assumption) ?_
  simp only [List.setIfInBounds_toArray, List.set_cons_zero, List.set_cons_succ]
  refine wpAnyH_skip (i := 5) rfl rfl (by kernel_rfl) (by kernel_rfl) (by kernel_rfl) (fun _ _ _ h => h) (by rfl) (by assumption) ?_
  simp only [List.setIfInBounds_toArray, List.set_cons_zero, List.set_cons_succ]
  refine wpAnyH_skip (i := 6) rfl rfl (by kernel_rfl) (by kernel_rfl) (by kernel_rfl) (fun _ _ _ h => h) (by rfl) (by assumption) ?_
  simp only [List.setIfInBounds_toArray, List.set_cons_zero, List.set_cons_succ]
  refine wpAnyH_skip (i := 7) rfl rfl (by kernel_rfl) (by kernel_rfl) (by kernel_rfl) (fun _ _ _ h => h) (by rfl) (by assumption) ?_
  simp only [List.setIfInBounds_toArray, List.set_cons_zero, List.set_cons_succ]
  refine wpAnyH_skip (i := 8) rfl rfl (by kernel_rfl) (by kernel_rfl) (by kernel_rfl) (fun _ _ _ h => h) (by rfl) (by assumption) ?_
  simp only [List.setIfInBounds_toArray, List.set_cons_zero, List.set_cons_succ]
  refine wpAnyH_skip (i := 9) rfl rfl (by kernel_rfl) (by kernel_rfl) (by kernel_rfl) (fun _ _ _ h => h) (by rfl) (by assumption) ?_
  simp only [List.setIfInBounds_toArray, List.set_cons_zero, List.set_cons_succ]
  refine wpAnyH_yield (i := 10) (v := .bool false) rfl rfl (by kernel_rfl) (by kernel_rfl) (by kernel_rfl) (fun _ _ _ h => h) (Or.inl ⟨by rfl, fun W hW => by first | (go_simp; done) | (go_simp; with_reducible rfl)⟩) (by assumption) ?_
  simp only [List.setIfInBounds_toArray, List.set_cons_zero, List.set_cons_succ]
  refine wpAnyH_yield (i := 11) (v := .bool false) rfl rfl (by kernel_rfl) (by kernel_rfl) (by kernel_rfl) (fun _ _ _ h => h) (Or.inl ⟨by rfl, fun W hW => by first | (go_simp; done) | (go_simp; with_reducible rfl)⟩) (by assumption) ?_
  simp only [List.setIfInBounds_toArray, List.set_cons_zero, List.set_cons_succ]
  refine wpAnyH_done (by kernel_rfl) ?_ _
  have HGZ : Hid (Gr W0 v1) := Lib.hid (by exact hg1)
  clear hg1 hHeld
  go_wp2_with fail
  go_ret
  refine ⟨?_, Gr.trans HG0.out HGZ.out⟩
  rw [HF.out, HD.out, Bool.false_and]
  rfl
def partI (N i : Nat) : List Int := firstI i ++ List.replicate (N - i) 0
theorem partI_zero (N : Nat) : partI N 0 = List.replicate N 0 := by simp [partI, firstI]
theorem partI_all (N : Nat) : partI N N = firstI N := by simp [partI]
theorem partI_length {N i : Nat} (h : i ≤ N) : (partI N i).length = N := by
 simp [partI, firstI_length]
 omega
theorem partI_set {N i : Nat} (h : i < N) : (partI N i).set i (i : Int) = partI N (i + 1) := by
 unfold partI
 have hl := firstI_length i
 rw [List.set_append, if_neg (by omega), hl, Nat.sub_self]
 obtain ⟨m, hm⟩ : ∃ m, N - i = m + 1 := ⟨N - i - 1, by omega⟩
 rw [hm, List.replicate_succ, List.set_cons_zero, firstI_succ, show N - (i + 1) = m from by omega, List.append_assoc]
 simp
set_option maxRecDepth 100000 in
set_option maxHeartbeats 800000 in
theorem first_any (N : Nat) (w : World) (h2 : N ≤ 64) :
  Calls Tryz.prog 54 #[.int .i64 N] w fun e w' => ∃ v, e = .returned v ∧ Zs w' v (firstI N) ∧ Gr w w' := by
 have hmk := makeZ N N (by omega) (by omega)
 go_enter Tryz.func54, Tryz.ntmps54
 go_wp2_with fail
 obtain ⟨g, hg⟩ : ∃ g, w.heap.size = g := ⟨_, rfl⟩
 have hgl : w.heap.size ≤ g := by omega
 have B0 : Hid (Blz (w.alloc (.cells (rowZ (List.replicate N 0)) 3)) g (partI N 0)) := Lib.hid (by
   rw [partI_zero, ← hg]
   exact heap_alloc_new _ _)
 have G2 : Hid (Gr w (w.alloc (.cells (rowZ (List.replicate N 0)) 3))) := Lib.hid (Gr.alloc (Gr.refl _) _ _)
 have HGL := Lib.hid hgl
 rw [hg]
 generalize w.alloc (.cells (rowZ (List.replicate N 0)) 3) = w2 at *
 clear hmk hg hgl
 go_loopw [9] (fun iv W => ∃ i : Nat, i ≤ N ∧ iv = .int .i64 i ∧ Blz W g (partI N i) ∧ Gr w W) (fun iv _ => N - (intOf iv).toNat)
 case atStart => exact ⟨0, by omega, rfl, B0.out, G2.out⟩
 case round =>
  obtain ⟨i, hi, rfl, hb, hgr⟩ := hrel
  have HB := Lib.hid hb
  have HG := Lib.hid hgr
  clear hb hgr
  by_cases hlt : i < N
  ·have HST := Lib.hid (partI_set hlt)
   have q := HB.out.cell i (by rw [partI_length hi]; exact hlt)
   have qf := frozen_of_row _ g i _ _ HB.out
   generalize (partI N i).getD i 0 = old at *
   go_wp2
   refine ⟨⟨i + 1, by omega, by go_num, ?_, ?_⟩, by simp [intOf]; omega⟩
   ·rw [← HST.out]
    have h := HB.out
    unfold Blz at h ⊢
    rw [heap_setCell_same _ _ _ _ _ _ h, rowZ_set]
   ·exact HG.out.setCell HGL.out _
  ·obtain rfl : i = N := by omega
   go_wp2
   go_ret
   have hz := HB.out
   rw [partI_all] at hz
   have := Blz.zs hz (firstI i) i (by omega) (by rw [firstI_length]; omega) (by omega) (firstI_i64 (by omega)) (fun _ _ => rfl)
   rw [firstI_length] at this
   exact ⟨_, rfl, this, HG.out⟩
set_option maxRecDepth 100000 in
set_option maxHeartbeats 800000 in
theorem sysRight_any (K H S : Int) (seed : Nat) (w : World) (hs : seed < 4294967296) :
  Calls Tryz.prog 30 #[par K H S, .int .u32 (seed : Int)] w fun e w' => e = .returned (.bool (decide (RightP K H S seed))) ∧ Gr w w' := by
 have HG0 : Hid (Gr w (w.alloc (.cells #[.int .i64 K, .int .i64 H, .int .i64 S] 23))) := Lib.hid (Gr.alloc (Gr.refl _) _ _)
 have P0 : Hid (Par (w.alloc (.cells #[.int .i64 K, .int .i64 H, .int .i64 S] 23)) w.heap.size K H S) := Lib.hid (heap_alloc_new _ _)
 by_cases hm : MayP K H S
 ·have hd := decide_eq_true hm
  obtain ⟨k, rfl⟩ : ∃ k : Nat, K = k := ⟨K.toNat, by have := hm.1; omega⟩
  have hk : k ≤ 16 := by have := hm.2.1; omega
  have HRP : Hid (decide (RightP k H S seed) = decide (FullP k H S seed (firstI k))) := Lib.hid (by
    refine decide_eq_decide.2 ?_
    unfold RightP
    rw [Int.toNat_natCast])
  clear hm
  go_enter Tryz.func30, Tryz.ntmps30
  go_wp2_with fail
  generalize w.alloc (.cells #[.int .i64 (k : Int), .int .i64 H, .int .i64 S] 23) = W0 at *
  generalize w.heap.size = gp at *
  have c0 := P0.out.cell0
  have c1 := P0.out.cell1
  have c2 := P0.out.cell2
  go_region_held3 (fun W => W.cell? ⟨gp, 0, none⟩ = some (.int .i64 k) ∧ W.cell? ⟨gp, 1, none⟩ = some (.int .i64 H) ∧ W.cell? ⟨gp, 2, none⟩ = some (.int .i64 S)) (first | exact ⟨k30, k31, k32⟩ | exact ⟨k20, k21, k22⟩ | exact ⟨k10, k11, k12⟩ | go_keep)
   (first
     | (go_at_call 21; refine (sysFull_any k H S seed _ (firstI k) _ hs Z2.out (by rw [firstI_length]; omega)).mono ?_; rw [← HRP.out]; rintro e v3 ⟨rfl, hg3⟩; have k30 := cell_grown hg3 (by exact k20); have k31 := cell_grown hg3 (by exact k21); have k32 := cell_grown hg3 (by exact k22); have V3 : Hid (Gr v2 v3) := Lib.hid hg3)
     | (go_at_call 54; refine (first_any k _ (by omega)).mono ?_; rintro e v2 ⟨u2, rfl, hz2, hg2⟩; have k20 := cell_grown hg2 (by exact k10); have k21 := cell_grown hg2 (by exact k11); have k22 := cell_grown hg2 (by exact k12); have Z2 := Lib.hid hz2; have V2 : Hid (Gr v1 v2) := Lib.hid hg2)
     | (go_at_call 24; refine (may_pre k H S _).mono ?_; rw [hd]; rintro e v1 ⟨rfl, hg1⟩; have k10 := cell_grown hg1 (by exact c0); have k11 := cell_grown hg1 (by exact c1); have k12 := cell_grown hg1 (by exact c2); have V1 : Hid (Gr W0 v1) := Lib.hid (by exact hg1)))
  have HGZ := Lib.hid (Gr.trans HG0.out (Gr.trans V1.out (Gr.trans V2.out V3.out)))
  go_wp2_with fail
  go_ret
  exact ⟨rfl, HGZ.out⟩
 ·have hd := decide_eq_false hm
  have hr : decide (RightP K H S seed) = false := decide_eq_false fun h => hm h.1
  rw [hr]
  clear hm hr
  go_enter Tryz.func30, Tryz.ntmps30
  go_wp2_with fail
  generalize w.alloc (.cells #[.int .i64 K, .int .i64 H, .int .i64 S] 23) = W0 at *
  generalize w.heap.size = gp at *
  have c0 := P0.out.cell0
  have c1 := P0.out.cell1
  have c2 := P0.out.cell2
  refine wp_region_held_drew (S := fun W => W.cell? ⟨gp, 0, none⟩ = some (.int .i64 K) ∧ W.cell? ⟨gp, 1, none⟩ = some (.int .i64 H) ∧ W.cell? ⟨gp, 2, none⟩ = some (.int .i64 S)) (by kernel_rfl) (by exact ⟨c0, c1, c2⟩) (fun hHeld => ?_)
  refine wpAnyH_yield (i := 0) (v := par K H S) rfl rfl (by kernel_rfl) (by kernel_rfl) (by kernel_rfl) (fun _ _ _ h => h) (Or.inl ⟨by rfl, fun W hW => by obtain ⟨h0, h1, h2⟩ := hW; go_simp⟩) (by assumption) ?_
  simp only [List.setIfInBounds_toArray, List.set_cons_zero, List.set_cons_succ]
  refine wpAnyH_ready (rs := [1]) (by kernel_rfl) (by simp) ?_
  refine AllReadyH.cons rfl (fun K' hK => ?_) AllReadyH.nil
  go_simp
  go_at_call 24
  refine (may_pre K H S _).mono ?_
  rw [hd]
  rintro e v1 ⟨rfl, hg1⟩
  go_wp2_with fail
  refine hK.out _ _ ⟨cell_grown hg1 c0, cell_grown hg1 c1, cell_grown hg1 c2⟩ (fun hHeld => ?_)
  clear hK
  refine wpAnyH_yield (i := 2) (v := .bool false) rfl rfl (by kernel_rfl) (by kernel_rfl) (by kernel_rfl) (fun _ _ _ h => h) (Or.inl ⟨by rfl, fun W hW => by first | (go_simp; done) | (go_simp; with_reducible rfl)⟩) (by assumption) ?_
  simp only [List.setIfInBounds_toArray, List.set_cons_zero, List.set_cons_succ]
  refine wpAnyH_skip (i := 3) rfl rfl (by kernel_rfl) (by kernel_rfl) (by kernel_rfl) (fun _ _ _ h => h) (by rfl) (by assumption) ?_
  simp only [List.setIfInBounds_toArray, List.set_cons_zero, List.set_cons_succ]
  refine wpAnyH_skip (i := 4) rfl rfl (by kernel_rfl) (by kernel_rfl) (by kernel_rfl) (fun _ _ _ h => h) (by rfl) (by assumption) ?_
  simp only [List.setIfInBounds_toArray, List.set_cons_zero, List.set_cons_succ]
  refine wpAnyH_skip (i := 5) rfl rfl (by kernel_rfl) (by kernel_rfl) (by kernel_rfl) (fun _ _ _ h => h) (by rfl) (by assumption) ?_
  simp only [List.setIfInBounds_toArray, List.set_cons_zero, List.set_cons_succ]
  refine wpAnyH_skip (i := 6) rfl rfl (by kernel_rfl) (by kernel_rfl) (by kernel_rfl) (fun _ _ _ h => h) (by rfl) (by assumption) ?_
  simp only [List.setIfInBounds_toArray, List.set_cons_zero, List.set_cons_succ]
  refine wpAnyH_skip (i := 7) rfl rfl (by kernel_rfl) (by kernel_rfl) (by kernel_rfl) (fun _ _ _ h => h) (by rfl) (by assumption) ?_
  simp only [List.setIfInBounds_toArray, List.set_cons_zero, List.set_cons_succ]
  refine wpAnyH_skip (i := 8) rfl rfl (by kernel_rfl) (by kernel_rfl) (by kernel_rfl) (fun _ _ _ h => h) (by rfl) (by assumption) ?_
  simp only [List.setIfInBounds_toArray, List.set_cons_zero, List.set_cons_succ]
  refine wpAnyH_yield (i := 9) (v := .bool false) rfl rfl (by kernel_rfl) (by kernel_rfl) (by kernel_rfl) (fun _ _ _ h => h) (Or.inl ⟨by rfl, fun W hW => by first | (go_simp; done) | (go_simp; with_reducible rfl)⟩) (by assumption) ?_
  simp only [List.setIfInBounds_toArray, List.set_cons_zero, List.set_cons_succ]
  refine wpAnyH_yield (i := 10) (v := .bool false) rfl rfl (by kernel_rfl) (by kernel_rfl) (by kernel_rfl) (fun _ _ _ h => h) (Or.inl ⟨by rfl, fun W hW => by first | (go_simp; done) | (go_simp; with_reducible rfl)⟩) (by assumption) ?_
  simp only [List.setIfInBounds_toArray, List.set_cons_zero, List.set_cons_succ]
  refine wpAnyH_done (by kernel_rfl) ?_ _
  have HGZ : Hid (Gr W0 v1) := Lib.hid (by exact hg1)
  clear hg1 hHeld
  go_wp2_with fail
  go_ret
  exact ⟨rfl, Gr.trans HG0.out HGZ.out⟩
theorem system_ok : SystemOk := ⟨sysMatrix_any, sysRank_any, sysFull_any, sysRight_any⟩
end Go.Proofs.YtbbglejdfbkjlaaGreat
namespace Go.Proofs.YtbbglejdfbkjlaaGreat
open Go.RowKit
set_option maxRecDepth 100000 in
set_option maxHeartbeats 3200000 in
theorem dblock_any (K H S : Int) (seed : Nat) (v : Value) (Y : List Symb) (w : World) (hs : seed < 4294967296) (hy : Syms w v Y) (hl : Y.length ≤ 800) (hdl : ∀ q ∈ Y, q.d.length ≤ 1000) :
  Calls Tryz.prog 17 #[par K H S, .int .u32 (seed : Int), v] w fun e w' => ∃ u x out, e = .returned (.tuple #[u, .int .i64 x]) ∧ Bs w' u out ∧ Gr w w' ∧ DecSays K H S seed Y x out := by
 have HSD := Lib.hid hs
 have HY := Lib.hid hy
 have HDL := Lib.hid hdl
 obtain ⟨oy, cy, rfl⟩ := hy.form
 obtain ⟨my, hmy⟩ : ∃ m, Y.length = m := ⟨_, rfl⟩
 rw [hmy] at HY hl ⊢
 have HMY := Lib.hid hmy
 have P0 : Hid (Par (w.alloc (.cells #[.int .i64 K, .int .i64 H, .int .i64 S] 23)) w.heap.size K H S) := Lib.hid (heap_alloc_new _ _)
 have HG0 : Hid (Gr w (w.alloc (.cells #[.int .i64 K, .int .i64 H, .int .i64 S] 23))) := Lib.hid (Gr.alloc (Gr.refl _) _ _)
 clear hs hy hdl hmy
 go_enter Tryz.func17, Tryz.ntmps17
 go_upto_region 1 with fail
 generalize w.alloc (.cells #[.int .i64 K, .int .i64 H, .int .i64 S] 23) = W0 at *
 generalize w.heap.size = gb at *
 have p0 := P0.out.cell0
 have p1 := P0.out.cell1
 have p2 := P0.out.cell2
 go_wp2_with fail
 refine (may_pre K H S _).mono ?_
 rintro e w1 ⟨rfl, hg1⟩
 have P1 := Lib.hid (P0.out.grown hg1)
 have G1 := Lib.hid (Gr.trans HG0.out hg1)
 have q0 := P1.out.cell0
 have q1 := P1.out.cell1
 have q2 := P1.out.cell2
 clear hg1 p0 p1 p2 P0 HG0
 by_cases hm : MayP K H S
 ·rw [decide_eq_true hm]
  have HM := Lib.hid hm
  clear hm
  go_wp2_with fail
  refine (dsymbols_iff K H S _ Y _ (HY.out.grown G1.out) (by rw [HMY.out]; omega) HDL.out).mono ?_
  rintro e w2 ⟨b, rfl, hb, hg2⟩
  have P2 := Lib.hid (P1.out.grown hg2)
  have G2 := Lib.hid (Gr.trans G1.out hg2)
  have HB := Lib.hid hb
  clear hg2 hb q0 q1 q2
  cases b with
  | true =>
   have HA : Hid (AllY K H S Y) := Lib.hid ⟨HM.out, HB.out.1 rfl⟩
   have r0 := P2.out.cell0
   have r1 := P2.out.cell1
   have r2 := P2.out.cell2
   obtain ⟨k, h, s, rfl, rfl, rfl⟩ := may_nats HM.out
   go_wp2_with fail
   go_region_held3 (fun W => W.cell? ⟨gb, 0, none⟩ = some (.int .i64 (k : Int)) ∧ W.cell? ⟨gb, 1, none⟩ = some (.int .i64 (h : Int)) ∧ W.cell? ⟨gb, 2, none⟩ = some (.int .i64 (s : Int))) (first | exact ⟨y0, y1, y2⟩ | exact ⟨t0, t1, t2⟩ | go_keep)
    (first
      | (go_at_call 21; have hx := Z3; refine (sysFull_any k h s seed _ (idsY Y) _ HSD.out (by exact Z3.out) HZL.out).mono ?_; rintro e w4 ⟨rfl, hg4⟩; have y0 := cell_gr hg4 (by exact t0); have y1 := cell_gr hg4 (by exact t1); have y2 := cell_gr hg4 (by exact t2); have G4 : Hid (Gr w2 w4) := Lib.hid (Gr.trans G3.out hg4); clear hg4)
      | (go_at_call 36; refine (dids_any _ Y _ (HY.out.grown (Gr.trans G2.out (Gr.drew (Gr.refl _)))) (by rw [HMY.out]; omega)).mono ?_; rintro e w3 ⟨v3, rfl, hz3, hg3⟩; have HZL : Hid ((idsY Y).length ≤ 900) := Lib.hid (by unfold idsY; rw [List.length_map, HMY.out]; omega); obtain ⟨o3, m3, c3, rfl⟩ := hz3.form3; have t0 := cell_gr hg3 (by exact r0); have t1 := cell_gr hg3 (by exact r1); have t2 := cell_gr hg3 (by exact r2); have Z3 := Lib.hid hz3; have G3 : Hid (Gr w2 w3) := Lib.hid (by exact hg3); clear hz3 hg3))
   all_goals
    have P4 := Lib.hid (P2.out.grown G4.out)
    have G04 := Lib.hid (Gr.trans G2.out G4.out)
    clear r0 r1 r2 t0 t1 t2 y0 y1 y2
    by_cases hf : FullP k h s seed (idsY Y)
    ·rw [decide_eq_true hf]
     have HF := Lib.hid hf
     clear hf
     have p0 := P4.out.cell0
     have p1 := P4.out.cell1
     have p2 := P4.out.cell2
     go_wp2_with fail
     refine (middle_any k h s seed _ Y _ HA.out HF.out HSD.out (HY.out.grown G04.out) (by rw [HMY.out]; exact hl)).mono ?_
     rintro e w5 ⟨hg5, u, x, rfl, hx⟩
     have P5 := Lib.hid (P4.out.grown hg5)
     have G5 := Lib.hid (Gr.trans G04.out hg5)
     rcases hx with ⟨rfl, rfl, hno⟩ | ⟨rfl, M, hbm, hmid⟩
     ·have HNO := Lib.hid hno
      clear hno hg5 p0 p1 p2
      go_wp2_with fail
      go_ret2
      refine ⟨_, _, [], rfl, Bs.nil _, G5.out, .inr (.inr (.inr ⟨HA.out, HF.out, rfl, rfl, ?_⟩))⟩
      rw [Int.toNat_natCast, Int.toNat_natCast, Int.toNat_natCast]
      exact HNO.out
     ·have BM := Lib.hid hbm
      have HMD := Lib.hid hmid
      obtain ⟨om, cm, rfl, _⟩ := hbm
      obtain ⟨nm, hnm⟩ : ∃ n, M.length = n := ⟨_, rfl⟩
      rw [hnm] at BM ⊢
      have p0 := P5.out.cell0
      have p1 := P5.out.cell1
      have p2 := P5.out.cell2
      clear hmid hg5 hnm
      go_wp2_with fail
      refine (source_any k h s seed _ M _ HM.out HSD.out BM.out HMD.out.wide HMD.out.len).mono ?_
      rintro e w6 ⟨v6, rfl, hn6⟩
      obtain ⟨o6, m6, c6, rfl⟩ := New.form3 hn6
      have N6 := Lib.hid (New.bs hn6)
      have G6 := Lib.hid (Gr.trans G5.out hn6.1)
      clear hn6 p0 p1 p2
      go_wp2_with fail
      go_ret2
      refine ⟨_, _, _, rfl, N6.out, G6.out, .inr (.inr (.inl ⟨HA.out, HF.out, rfl, M, ?_, ?_⟩))⟩
      ·rw [Int.toNat_natCast, Int.toNat_natCast, Int.toNat_natCast]
       exact HMD.out
      ·rw [Int.toNat_natCast, Int.toNat_natCast, Int.toNat_natCast]
    ·rw [decide_eq_false hf]
     have HF := Lib.hid hf
     clear hf
     go_wp2_with fail
     go_ret2
     exact ⟨_, _, [], rfl, Bs.nil _, G04.out, .inr (.inl ⟨HA.out, HF.out, rfl, rfl⟩)⟩
  | false =>
   have HNO : Hid (¬ AllY K H S Y) := Lib.hid fun h => by have := HB.out.2 h.2; cases this
   go_wp2_with fail
   go_ret2
   exact ⟨_, _, [], rfl, Bs.nil _, G2.out, .inl ⟨HNO.out, rfl, rfl⟩⟩
 ·rw [decide_eq_false hm]
  have HNO : Hid (¬ AllY K H S Y) := Lib.hid fun h => hm h.1
  clear hm
  go_wp2_with fail
  go_ret2
  exact ⟨_, _, [], rfl, Bs.nil _, G1.out, .inl ⟨HNO.out, rfl, rfl⟩⟩
end Go.Proofs.YtbbglejdfbkjlaaGreat
namespace Go.Proofs.YtbbglejdfbkjlaaGreat
open Go.RowKit
structure RedAt (n : Nat) (R : List (List Int)) (ps : List Nat) : Prop where
 len : ps.length = R.length
 wide : Wide n R
 lt : ∀ i, i < R.length → ps.getD i 0 < n
 ahead : ∀ i, i < R.length → ∀ t, t < ps.getD i 0 → (R.getD i []).getD t 0 = 0
 one : ∀ i, i < R.length → (R.getD i []).getD (ps.getD i 0) 0 = 1
 apart : ∀ i j, i < R.length → j < R.length → j ≠ i → (R.getD j []).getD (ps.getD i 0) 0 = 0
 rise : ∀ i, i + 1 < R.length → ps.getD i 0 < ps.getD (i + 1) 0
theorem RedAt.lead {n : Nat} {R : List (List Int)} {ps : List Nat} (h : RedAt n R ps) (i : Nat) (hi : i < R.length) : leadL (R.getD i []) = ps.getD i 0 :=
 leadL_at _ _ (by rw [(h.wide.at i hi).1]; exact h.lt i hi) (h.ahead i hi) (by rw [h.one i hi]; omega)
theorem IsRed.redAt {n : Nat} {A R : List (List Int)} (h : IsRed n A R) : ∃ ps, RedAt n R ps := by
 obtain ⟨hw, ps, hl, hr, _⟩ := h
 have mem : ∀ i, i < R.length → (ps.getD i 0, vec (R.getD i [])) ∈ ps.zip (R.map vec) := fun i hi => by
  apply List.mem_of_getElem? (i := i)
  rw [List.getElem?_zip_eq_some]
  rw [List.getD_eq_getElem?_getD, List.getD_eq_getElem?_getD, List.getElem?_map, List.getElem?_eq_getElem hi, List.getElem?_eq_getElem (by omega : i < ps.length)]
  exact ⟨rfl, rfl⟩
 have val : ∀ i t, vec (R.getD i []) t = fb ((R.getD i []).getD t 0) := fun _ _ => rfl
 have b0 : Byt 0 := by unfold Byt; omega
 have b1 : Byt 1 := by unfold Byt; omega
 have mono : ∀ i j, i < j → j < R.length → ps.getD i 0 < ps.getD j 0 := fun i j hij hj => by
  have hs := hr.sorted
  rw [List.pairwise_iff_getElem] at hs
  have := hs i j (by simp; omega) (by simp; omega) hij
  simp only [List.getElem_zip] at this
  rw [List.getD_eq_getElem?_getD, List.getD_eq_getElem?_getD, List.getElem?_eq_getElem (by omega : i < ps.length), List.getElem?_eq_getElem (by omega : j < ps.length)]
  exact this
 have one : ∀ i, i < R.length → (R.getD i []).getD (ps.getD i 0) 0 = 1 := fun i hi => fb_inj (hw.byt i _) b1 (by
   rw [fb_one]
   exact hr.lead _ _ (mem i hi))
 refine ⟨ps, hl, hw, fun i hi => ?_, fun i hi t ht => fb_inj (hw.byt i t) b0 (by rw [fb_zero]; exact hr.ahead _ _ (mem i hi) t ht), one, fun i j hi hj hne => fb_inj (hw.byt j _) b0 (by
   rw [fb_zero]
   refine hr.apart _ _ _ _ (mem j hj) (mem i hi) ?_
   rcases Nat.lt_or_gt_of_ne hne with c | c
   · have := mono j i c hi
     omega
   · have := mono i j c hj
     omega), fun i hi => mono i (i + 1) (by omega) hi⟩
 apply Classical.byContradiction
 intro c
 have := one i hi
 rw [getD_out (by rw [(hw.at i hi).1]; omega)] at this
 omega
end Go.Proofs.YtbbglejdfbkjlaaGreat
namespace Go.Proofs.YtbbglejdfbkjlaaGreat
open Go.RowKit
def Away (F : Nat → Prop) (v : Value) : Prop := ∀ a m c, v = .slice (some a) m c → 0 < m → ¬ F a.block
def IsRest (n : Nat) (A : List (List Int)) (x y : List Int) : Prop :=
 y.length = n ∧ (∀ z ∈ y, Byt z) ∧ (∃ e, L.Sp (A.map vec) e ∧ vec y = L.vadd (vec x) e) ∧ ∀ R, IsRed n A R → ∀ r ∈ R, y.getD (leadL r).toNat 0 = 0
end Go.Proofs.YtbbglejdfbkjlaaGreat
namespace Go.Proofs.YtbbglejdfbkjlaaGreat
open Go.RowKit
theorem add_block (a : Addr) (n : Nat) : (a.add n).block = a.block := by
 unfold Addr.add
 split <;> rfl
end Go.Proofs.YtbbglejdfbkjlaaGreat
namespace Go.Proofs.YtbbglejdfbkjlaaGreat
open Go.RowKit
theorem Bs.kp {F : Nat → Prop} {w w' : World} {v : Value} {l : List Int} (h : Bs w v l) (hk : Kp F w w') (ha : Away F v) : Bs w' v l := by
 obtain ⟨h0, oa, c, rfl, h2, h3, h4, h5⟩ := h
 refine ⟨h0, oa, c, rfl, h2, h3, h4, fun a he i hi => hk.cell (h5 a he i hi) ?_⟩
 rw [add_block]
 subst he
 exact ha a _ _ rfl (by omega)
theorem red_of {n : Nat} {A R : List (List Int)} (h : IsRed n A R) : ∃ T : List (Nat × L.V), L.Rref T ∧ L.Same (L.rows T) (A.map vec) ∧ ∀ p v, (p, v) ∈ T → ∃ r ∈ R, v = vec r ∧ (leadL r).toNat = p := by
 obtain ⟨ps', hra⟩ := h.redAt
 obtain ⟨hw, ps, hl, hr, h2⟩ := h
 refine ⟨ps.zip (R.map vec), hr, h2, fun p v hm => ?_⟩
 obtain ⟨i, hi⟩ := List.getElem?_of_mem hm
 rw [List.getElem?_zip_eq_some] at hi
 obtain ⟨hp, hv⟩ := hi
 rw [List.getElem?_map] at hv
 cases hR : R[i]? with
 | none => rw [hR] at hv; cases hv
 | some r =>
  rw [hR] at hv
  have hv' : vec r = v := by simpa using hv
  refine ⟨r, List.mem_of_getElem? hR, hv'.symm, ?_⟩
  have hb := L.lead_begins hr hm
  have hi : i < R.length := (List.getElem?_eq_some_iff.1 hR).1
  have hgr : R.getD i [] = r := by rw [List.getD_eq_getElem?_getD, hR]; rfl
  have hlead := hra.lead i hi
  have hone := hra.one i hi
  have hah := hra.ahead i hi
  rw [hgr] at hlead hone hah
  have hb2 : L.Begins v (ps'.getD i 0) := by
   rw [← hv']
   refine ⟨?_, fun j hj => ?_⟩
   ·show fb (r.getD (ps'.getD i 0) 0) ≠ L.zero
    rw [hone, fb_one]
    exact L.one_ne
   ·show fb (r.getD j 0) = L.zero
    rw [hah j hj, fb_zero]
  rw [hlead, L.Begins.uniq hb hb2]
  rfl
theorem rest_nought {n : Nat} {A R : List (List Int)} {y : List Int} (hr : IsRed n A R) (hs : L.Sp (A.map vec) (vec y)) (h0 : ∀ r ∈ R, y.getD (leadL r).toNat 0 = 0) : vec y = L.vzero := by
 obtain ⟨T, h1, h2, h3⟩ := red_of hr
 refine L.span_zero h1 ((h2 _).2 hs) fun p v hm => ?_
 obtain ⟨r, hR, _, hp⟩ := h3 p v hm
 show fb (y.getD p 0) = L.zero
 rw [← hp, h0 r hR, fb_zero]
theorem vec_zero_lead {y : List Int} (hb : ∀ z ∈ y, Byt z) : vec y = L.vzero ↔ leadL y < 0 := by
 constructor
 ·intro h
  apply Classical.byContradiction
  intro c
  have hy : ∀ j, y.getD j 0 = 0 := fun j => fb_inj (getD_byt hb j) (by unfold Byt; omega) (by rw [fb_zero]; exact congrFun h j)
  have := leadL_none y fun j _ => hy j
  omega
 ·intro h
  have hge := leadL_ge y
  have hn : leadL y = -1 := by omega
  have h0 : ∀ l : List Int, leadL l = -1 → ∀ j, l.getD j 0 = 0 := by
   intro l
   induction l with
   | nil => intro _ j; simp
   | cons a l ih =>
    intro h j
    have hge := leadL_ge l
    unfold leadL at h
    split at h
    ·rename_i ha
     split at h
     ·rename_i hl
      cases j with
      | zero => simpa using ha
      | succ j => simpa using ih hl j
     ·omega
    ·omega
  funext j
  show fb (y.getD j 0) = L.zero
  rw [h0 y hn j, fb_zero]
theorem IsRest.spans {n : Nat} {A R : List (List Int)} {x y : List Int} (h : IsRest n A x y) (hr : IsRed n A R) : leadL y < 0 ↔ L.Sp (A.map vec) (vec x) := by
 obtain ⟨h1, h2, ⟨e, he, hv⟩, h4⟩ := h
 rw [← vec_zero_lead h2]
 constructor
 ·intro hz
  rw [hv] at hz
  have : vec x = e := by
   have := congrArg (fun u => L.vadd u e) hz
   simp only [L.vadd_assoc, L.vadd_self, L.vadd_zero, L.vzero_add] at this
   exact this
  rw [this]
  exact he
 ·intro hs
  refine rest_nought hr ?_ (h4 R hr)
  rw [hv]
  exact L.Sp.add hs he
end Go.Proofs.YtbbglejdfbkjlaaGreat
namespace Go.Proofs.YtbbglejdfbkjlaaGreat
open Go.RowKit
def rowsOf (Ls : List (List Int)) : List (List Int) := Ls.filter fun r => !r.isEmpty
theorem mem_rowsOf {Ls : List (List Int)} {r : List Int} : r ∈ rowsOf Ls ↔ ∃ c, c < Ls.length ∧ Ls.getD c [] ≠ [] ∧ r = Ls.getD c [] := by
 unfold rowsOf
 rw [List.mem_filter]
 constructor
 ·rintro ⟨h1, h2⟩
  obtain ⟨c, hc, rfl⟩ := List.getElem_of_mem h1
  refine ⟨c, hc, ?_, ?_⟩
  ·rw [List.getD_eq_getElem?_getD, List.getElem?_eq_getElem hc]
   simpa using h2
  ·rw [List.getD_eq_getElem?_getD, List.getElem?_eq_getElem hc]
   rfl
 ·rintro ⟨c, hc, h1, rfl⟩
  have e : Ls.getD c [] = Ls[c] := by
   rw [List.getD_eq_getElem?_getD, List.getElem?_eq_getElem hc]
   rfl
  rw [e] at h1 ⊢
  exact ⟨List.getElem_mem hc, by simpa using h1⟩
structure Bg (n : Nat) (Ls A : List (List Int)) : Prop where
 len : Ls.length = n
 row : ∀ c, c < n → Ls.getD c [] ≠ [] → (Ls.getD c []).length = n ∧ (∀ z ∈ Ls.getD c [], Byt z) ∧ (Ls.getD c []).getD c 0 = 1 ∧ ∀ t, t < c → (Ls.getD c []).getD t 0 = 0
 apart : ∀ c d, c < n → d < n → Ls.getD c [] ≠ [] → Ls.getD d [] ≠ [] → c ≠ d → (Ls.getD d []).getD c 0 = 0
 same : L.Same ((rowsOf Ls).map vec) (A.map vec)
theorem nones_getD (n c : Nat) : (List.replicate n ([] : List Int)).getD c [] = [] := by
 rw [List.getD_eq_getElem?_getD, List.getElem?_replicate]
 split <;> rfl
theorem Bg.start (n : Nat) : Bg n (List.replicate n []) [] := by
 refine ⟨by simp, fun c _ h => absurd (nones_getD n c) h, fun c d _ _ h => absurd (nones_getD n c) h, ?_⟩
 have : rowsOf (List.replicate n []) = [] := by
  unfold rowsOf
  rw [List.filter_eq_nil_iff]
  intro r hr
  rw [(List.mem_replicate.1 hr).2]
  simp
 rw [this]
 exact L.Same.refl _
def placesOf (Ls : List (List Int)) : List Nat := (List.range Ls.length).filter fun c => !(Ls.getD c []).isEmpty
theorem rowsOf_places (Ls : List (List Int)) : rowsOf Ls = (placesOf Ls).map fun c => Ls.getD c [] := by
 have h : Ls = (List.range Ls.length).map fun c => Ls.getD c [] := by
  apply List.ext_getElem
  ·simp
  ·intro i h1 h2
   simp [List.getD_eq_getElem?_getD, List.getElem?_eq_getElem h1]
 unfold rowsOf placesOf
 conv => lhs; rw [h]
 rw [List.filter_map]
 rfl
theorem Bg.isRed {n : Nat} {Ls A : List (List Int)} (h : Bg n Ls A) : IsRed n A (rowsOf Ls) := by
 have hz : (placesOf Ls).zip ((rowsOf Ls).map vec) = (placesOf Ls).map fun c => (c, vec (Ls.getD c [])) := by
  rw [rowsOf_places, List.map_map, ← List.map_prod_left_eq_zip]
  rfl
 have hm : ∀ {p : Nat} {x : L.V}, (p, x) ∈ (placesOf Ls).map (fun c => (c, vec (Ls.getD c []))) → p < n ∧ Ls.getD p [] ≠ [] ∧ x = vec (Ls.getD p []) := fun hp => by
  obtain ⟨c, hc, he⟩ := List.mem_map.1 hp
  cases he
  unfold placesOf at hc
  rw [List.mem_filter, List.mem_range, h.len] at hc
  exact ⟨hc.1, by simpa using hc.2, rfl⟩
 refine ⟨fun r hr => ?_, placesOf Ls, by rw [rowsOf_places, List.length_map], ?_, ?_⟩
 ·obtain ⟨c, hc, h1, rfl⟩ := mem_rowsOf.1 hr
  rw [h.len] at hc
  exact ⟨(h.row c hc h1).1, (h.row c hc h1).2.1⟩
 ·rw [hz]
  refine ⟨?_, fun p x hp => ?_, fun p x hp k hk => ?_, fun p x q y hp hq hne => ?_⟩
  ·rw [List.pairwise_map]
   exact List.Pairwise.filter _ (List.pairwise_lt_range (n := Ls.length))
  ·obtain ⟨h1, h2, rfl⟩ := hm hp
   show fb _ = _
   rw [(h.row p h1 h2).2.2.1, fb_one]
  ·obtain ⟨h1, h2, rfl⟩ := hm hp
   show fb _ = _
   rw [(h.row p h1 h2).2.2.2 k hk, fb_zero]
  ·obtain ⟨h1, h2, rfl⟩ := hm hp
   obtain ⟨h3, h4, rfl⟩ := hm hq
   show fb _ = _
   rw [h.apart q p h3 h1 h4 h2 (fun e => hne e.symm), fb_zero]
 ·rw [hz]
  have : L.rows ((placesOf Ls).map fun c => (c, vec (Ls.getD c []))) = (rowsOf Ls).map vec := by
   unfold L.rows
   rw [List.map_map, rowsOf_places, List.map_map]
   rfl
  rw [this]
  exact h.same
structure Rs (n : Nat) (Ls A : List (List Int)) (x : List Int) (k : Nat) (y : List Int) : Prop where
 len : y.length = n
 byt : ∀ z ∈ y, Byt z
 sp : ∃ e, L.Sp (A.map vec) e ∧ vec y = L.vadd (vec x) e
 zero : ∀ c, c < k → Ls.getD c [] ≠ [] → y.getD c 0 = 0
theorem L.Sp.none (A : List L.V) : L.Sp A L.vzero := L.Sp.zero
theorem Rs.start {n : Nat} {Ls A : List (List Int)} {x : List Int} (hl : x.length = n) (hb : ∀ z ∈ x, Byt z) : Rs n Ls A x 0 x :=
 ⟨hl, hb, ⟨L.vzero, L.Sp.none _, (L.vadd_zero _).symm⟩, fun c hc => by omega⟩
theorem Rs.skip {n k : Nat} {Ls A : List (List Int)} {x y : List Int} (h : Rs n Ls A x k y) (h0 : Ls.getD k [] ≠ [] → y.getD k 0 = 0) : Rs n Ls A x (k + 1) y :=
 ⟨h.len, h.byt, h.sp, fun c hc hn => by
   by_cases e : c = k
   · subst e
     exact h0 hn
   · exact h.zero c (by omega) hn⟩
theorem axL_bytes {c : Int} {x y : List Int} (hy : ∀ z ∈ y, Byt z) : ∀ z ∈ axL c x y, Byt z := by
 unfold axL
 exact lst_byt fun i _ => addZ_byt (getD_byt hy i) (mulZ_byt _ _)
theorem Rs.step {n k : Nat} {Ls A : List (List Int)} {x y : List Int} (hB : Bg n Ls A) (h : Rs n Ls A x k y) (hk : k < n) (hr : Ls.getD k [] ≠ []) : Rs n Ls A x (k + 1) (axL (y.getD k 0) (Ls.getD k []) y) := by
 obtain ⟨r1, r2, r3, r4⟩ := hB.row k hk hr
 have hbk := getD_byt h.byt k
 refine ⟨by rw [axL_length, r1], axL_bytes h.byt, ?_, fun c hc hn => ?_⟩
 ·obtain ⟨e, he, hv⟩ := h.sp
  refine ⟨L.vadd e (L.smul (fb (y.getD k 0)) (vec (Ls.getD k []))), L.Sp.add he (L.Sp.smul _ ((hB.same _).1 (L.Sp.mem (List.mem_map.2 ⟨_, mem_rowsOf.2 ⟨k, by rw [hB.len]; exact hk, hr, rfl⟩, rfl⟩)))), ?_⟩
  rw [vec_ax hbk r2 h.byt (by rw [r1, h.len]), hv, L.vadd_assoc]
 ·rw [axL_getD _ _ _ _ (by rw [r1]; omega)]
  by_cases e : c = k
  ·subst e
   rw [r3, mulZ_one _ hbk, addZ_self]
  ·rw [hB.apart c k (by omega) hk hn hr e, mulZ_zero, addZ_zero _ (getD_byt h.byt c)]
   exact h.zero c (by omega) hn
theorem leadL_spec : ∀ (l : List Int) (k : Nat), leadL l = k → k < l.length ∧ l.getD k 0 ≠ 0 ∧ ∀ j, j < k → l.getD j 0 = 0
 | [], k, h => by
  simp [leadL] at h
 | a :: l, k, h => by
  have hg := leadL_ge l
  unfold leadL at h
  by_cases ha : a = 0
  ·rw [if_pos ha] at h
   by_cases hl : leadL l = -1
   ·rw [if_pos hl] at h
    omega
   ·rw [if_neg hl] at h
    obtain ⟨h1, h2, h3⟩ := leadL_spec l (k - 1) (by omega)
    obtain ⟨m, rfl⟩ : ∃ m, k = m + 1 := ⟨k - 1, by omega⟩
    refine ⟨by simp at h1 ⊢; omega, by simpa using h2, fun j hj => ?_⟩
    cases j with
    | zero => simpa using ha
    | succ j => simpa using h3 j (by simpa using hj)
  ·rw [if_neg ha] at h
   obtain rfl : k = 0 := by omega
   exact ⟨by simp, by simpa using ha, fun j hj => by omega⟩
theorem Bg.lead {n : Nat} {Ls A : List (List Int)} (h : Bg n Ls A) {c : Nat} (hc : c < n) (hr : Ls.getD c [] ≠ []) : leadL (Ls.getD c []) = c := by
 obtain ⟨h1, _, h3, h4⟩ := h.row c hc hr
 exact leadL_at _ _ (by omega) h4 (by rw [h3]; omega)
theorem Rs.rest {n : Nat} {Ls A : List (List Int)} {x y : List Int} (hB : Bg n Ls A) (h : Rs n Ls A x n y) : IsRest n A x y := by
 refine ⟨h.len, h.byt, h.sp, fun R hR r hr => ?_⟩
 obtain rfl : R = rowsOf Ls := IsRed.unique hR hB.isRed
 obtain ⟨c, hc, h1, rfl⟩ := mem_rowsOf.1 hr
 rw [hB.len] at hc
 rw [hB.lead hc h1]
 exact h.zero c hc h1
def swept (p : Nat) (r l : List Int) : List Int := if l.getD p 0 = 0 then l else axL (l.getD p 0) r l
theorem swept_none (p : Nat) (r : List Int) : swept p r [] = [] := by simp [swept]
theorem swept_length {p : Nat} {r l : List Int} (h : r.length = l.length) : (swept p r l).length = l.length := by
 unfold swept
 split
 ·rfl
 ·rw [axL_length, h]
theorem swept_byt {p : Nat} {r l : List Int} (hl : ∀ z ∈ l, Byt z) : ∀ z ∈ swept p r l, Byt z := by
 unfold swept
 split
 ·exact hl
 ·exact axL_bytes hl
theorem swept_getD {p : Nat} {r l : List Int} (h : r.length = l.length) (hb : ∀ z ∈ l, Byt z) (i : Nat) (hi : i < l.length) : (swept p r l).getD i 0 = addZ (l.getD i 0) (mulZ (l.getD p 0) (r.getD i 0)) := by
 unfold swept
 split
 ·rename_i e
  rw [e, mulZ_comm, mulZ_zero, addZ_zero _ (getD_byt hb i)]
 ·rw [axL_getD _ _ _ _ (by omega)]
theorem vec_swept {p : Nat} {r l : List Int} (h : r.length = l.length) (hr : ∀ z ∈ r, Byt z) (hb : ∀ z ∈ l, Byt z) : vec (swept p r l) = L.vadd (vec l) (L.smul (fb (l.getD p 0)) (vec r)) := by
 unfold swept
 split
 ·rename_i e
  rw [e, fb_zero, L.zero_smul, L.vadd_zero]
 ·rw [vec_ax (getD_byt hb p) hr hb h]
def putIn (Ls : List (List Int)) (p : Nat) (r : List Int) : List (List Int) := (Ls.map (swept p r)).set p r
theorem putIn_getD {Ls : List (List Int)} {p : Nat} {r : List Int} (hp : p < Ls.length) (c : Nat) : (putIn Ls p r).getD c [] = if c = p then r else swept p r (Ls.getD c []) := by
 unfold putIn
 rw [List.getD_eq_getElem?_getD, List.getElem?_set]
 by_cases e : c = p
 ·subst e
  rw [if_pos rfl, if_pos rfl, if_pos (by simpa using hp)]
  rfl
 ·rw [if_neg (fun e' => e e'.symm), if_neg e, List.getElem?_map, List.getD_eq_getElem?_getD]
  cases Ls[c]? with
  | none => exact (swept_none p r).symm
  | some l => rfl
theorem Bg.put {n p : Nat} {Ls A : List (List Int)} {x y : List Int} (hB : Bg n Ls A) (hx : Rs n Ls A x n y) (hp : leadL y = p) : Bg n (putIn Ls p (scaleL (invZ (y.getD p 0)) y)) (A ++ [x]) ∧ ¬ L.Sp (A.map vec) (vec x) := by
 obtain ⟨p1, p2, p3⟩ := leadL_spec y p hp
 rw [hx.len] at p1
 have hbp := getD_byt hx.byt p
 obtain ⟨r, hr⟩ : ∃ r, scaleL (invZ (y.getD p 0)) y = r := ⟨_, rfl⟩
 have rl : r.length = n := by rw [← hr, scaleL_length, hx.len]
 have rb : ∀ z ∈ r, Byt z := by
  rw [← hr]
  unfold scaleL
  exact lst_byt fun i _ => mulZ_byt _ _
 have rg : ∀ i, i < n → r.getD i 0 = mulZ (invZ (y.getD p 0)) (y.getD i 0) := fun i hi => by
  rw [← hr]
  unfold scaleL
  exact lst_getD _ _ _ (by rw [hx.len]; exact hi)
 have r1 : r.getD p 0 = 1 := by rw [rg p p1, mulZ_comm, mulZ_inv _ hbp p2]
 have r0 : ∀ t, t < p → r.getD t 0 = 0 := fun t ht => by rw [rg t (by omega), p3 t ht, mulZ_zero]
 have rz : ∀ c, c < n → Ls.getD c [] ≠ [] → r.getD c 0 = 0 := fun c hc h => by rw [rg c hc, hx.zero c hc h, mulZ_zero]
 have hnone : Ls.getD p [] = [] := by
  apply Classical.byContradiction
  intro c
  exact p2 (hx.zero p p1 c)
 have hrv : vec r = L.smul (fb (invZ (y.getD p 0))) (vec y) := by rw [← hr, vec_scale (invZ_byt _) hx.byt]
 have hyv : vec y = L.smul (fb (y.getD p 0)) (vec r) := by
  rw [hrv, L.smul_smul, ← fb_mul hbp (invZ_byt _), mulZ_inv _ hbp p2, fb_one, L.one_smul]
 rw [hr]
 have hnew : r ≠ [] := fun e => by rw [e] at rl; simp at rl; omega
 have back : ∀ c, c < n → (putIn Ls p r).getD c [] ≠ [] → c = p ∨ c ≠ p ∧ Ls.getD c [] ≠ [] ∧ (Ls.getD c []).length = n := fun c hc h => by
  by_cases e : c = p
  ·exact .inl e
  ·rw [putIn_getD (by rw [hB.len]; exact p1), if_neg e] at h
   have h2 : Ls.getD c [] ≠ [] := fun e' => h (by rw [e', swept_none])
   exact .inr ⟨e, h2, (hB.row c hc h2).1⟩
 have gp : (putIn Ls p r).getD p [] = r := by rw [putIn_getD (by rw [hB.len]; exact p1), if_pos rfl]
 have gc : ∀ c, c ≠ p → (putIn Ls p r).getD c [] = swept p r (Ls.getD c []) := fun c e => by rw [putIn_getD (by rw [hB.len]; exact p1), if_neg e]
 refine ⟨⟨by simp [putIn, hB.len], fun c hc h => ?_, fun c d hc hd h h' hne => ?_, ?_⟩, fun hsp => ?_⟩
 ·rcases back c hc h with rfl | ⟨e, h2, h3⟩
  ·rw [gp]
   exact ⟨rl, rb, r1, r0⟩
  ·obtain ⟨q1, q2, q3, q4⟩ := hB.row c hc h2
   rw [gc c e]
   refine ⟨by rw [swept_length (by rw [rl, h3]), h3], swept_byt q2, ?_, fun t ht => ?_⟩
   ·rw [swept_getD (by rw [rl, h3]) q2 c (by rw [h3]; exact hc), q3, rz c hc h2, mulZ_zero, addZ_zero _ (by unfold Byt; omega)]
   ·rw [swept_getD (by rw [rl, h3]) q2 t (by rw [h3]; omega), q4 t ht]
    by_cases hcp : c < p
    ·rw [r0 t (by omega), mulZ_zero, addZ_zero _ (by unfold Byt; omega)]
    ·rw [q4 p (by omega), mulZ_comm, mulZ_zero, addZ_zero _ (by unfold Byt; omega)]
 ·rcases back c hc h with rfl | ⟨e, h2, h3⟩
  ·rcases back d hd h' with rfl | ⟨e', h2', h3'⟩
   ·exact absurd rfl hne
   ·rw [gc d e', swept_getD (by rw [rl, h3']) (hB.row d hd h2').2.1 c (by rw [h3']; exact hc), r1, mulZ_one _ (getD_byt (hB.row d hd h2').2.1 c), addZ_self]
  ·rcases back d hd h' with rfl | ⟨e', h2', h3'⟩
   ·rw [gp]
    exact rz c hc h2
   ·rw [gc d e', swept_getD (by rw [rl, h3']) (hB.row d hd h2').2.1 c (by rw [h3']; exact hc), rz c hc h2, mulZ_zero, hB.apart c d hc hd h2 h2' hne, addZ_zero _ (by unfold Byt; omega)]
 ·obtain ⟨e, he, hv⟩ := hx.sp
  have mr : r ∈ rowsOf (putIn Ls p r) := mem_rowsOf.2 ⟨p, by simp [putIn, hB.len]; exact p1, by rw [gp]; exact hnew, gp.symm⟩
  have S1 : ∀ v, L.Sp ((rowsOf Ls).map vec) v → L.Sp ((rowsOf (putIn Ls p r)).map vec) v := fun v hv' => L.Sp.trans (fun z hz => by
    obtain ⟨l, hl, rfl⟩ := List.mem_map.1 hz
    obtain ⟨c, hc, h1, rfl⟩ := mem_rowsOf.1 hl
    rw [hB.len] at hc
    have hcp : c ≠ p := fun e' => h1 (by rw [e', hnone])
    obtain ⟨q1, q2, _, _⟩ := hB.row c hc h1
    have hm : swept p r (Ls.getD c []) ∈ rowsOf (putIn Ls p r) := mem_rowsOf.2 ⟨c, by simp [putIn, hB.len]; exact hc, by
      rw [gc c hcp]
      intro e'
      have := swept_length (p := p) (r := r) (l := Ls.getD c []) (by rw [rl, q1])
      rw [e', q1] at this
      simp at this
      omega, (gc c hcp).symm⟩
    have m1 : L.Sp ((rowsOf (putIn Ls p r)).map vec) (vec (swept p r (Ls.getD c []))) := L.Sp.mem (List.mem_map.2 ⟨_, hm, rfl⟩)
    have m2 : L.Sp ((rowsOf (putIn Ls p r)).map vec) (vec r) := L.Sp.mem (List.mem_map.2 ⟨_, mr, rfl⟩)
    have h2 := L.Sp.add m1 (L.Sp.smul (fb ((Ls.getD c []).getD p 0)) m2)
    rw [vec_swept (by rw [rl, q1]) rb q2, L.vadd_assoc, L.vadd_self, L.vadd_zero] at h2
    exact h2) hv'
  refine L.Same.of (fun z hz => ?_) (fun z hz => ?_)
  ·have hA : ∀ v, L.Sp (A.map vec) v → L.Sp ((A ++ [x]).map vec) v := fun v hv' => L.Sp.mono (fun q hq => by rw [List.map_append]; exact List.mem_append_left _ hq) hv'
   have hsr : L.Sp ((A ++ [x]).map vec) (vec r) := by
    rw [hrv, hv]
    refine L.Sp.smul _ (L.Sp.add (L.Sp.mem (by simp)) (hA _ he))
   obtain ⟨l, hl, rfl⟩ := List.mem_map.1 hz
   obtain ⟨c, hc, h1, rfl⟩ := mem_rowsOf.1 hl
   have hc' : c < n := by simpa [putIn, hB.len] using hc
   rcases back c hc' h1 with rfl | ⟨e', h2, h3⟩
   ·rw [gp]
    exact hsr
   ·obtain ⟨q1, q2, _, _⟩ := hB.row c hc' h2
    rw [gc c e', vec_swept (by rw [rl, q1]) rb q2]
    exact L.Sp.add (hA _ ((hB.same _).1 (L.Sp.mem (List.mem_map.2 ⟨_, mem_rowsOf.2 ⟨c, by rw [hB.len]; exact hc', h2, rfl⟩, rfl⟩)))) (L.Sp.smul _ hsr)
  ·rw [List.map_append, List.mem_append] at hz
   rcases hz with hz | hz
   ·exact S1 _ ((hB.same _).2 (L.Sp.mem hz))
   ·simp at hz
    subst hz
    have h3 : vec x = L.vadd (vec y) e := by rw [hv, L.vadd_assoc, L.vadd_self, L.vadd_zero]
    rw [h3, hyv]
    exact L.Sp.add (L.Sp.smul _ (L.Sp.mem (List.mem_map.2 ⟨_, mr, rfl⟩))) (S1 _ ((hB.same _).2 he))
 ·have h1 := ((Rs.rest hB hx).spans hB.isRed).2 hsp
  rw [hp] at h1
  omega
theorem Bg.none {n : Nat} {Ls A : List (List Int)} {x y : List Int} (hB : Bg n Ls A) (hx : Rs n Ls A x n y) (hp : leadL y < 0) : Bg n Ls (A ++ [x]) ∧ L.Sp (A.map vec) (vec x) := by
 have h1 := ((Rs.rest hB hx).spans hB.isRed).1 hp
 refine ⟨⟨hB.len, hB.row, hB.apart, L.Same.trans hB.same (L.Same.of (fun z hz => L.Sp.mem (by rw [List.map_append]; exact List.mem_append_left _ hz)) (fun z hz => ?_))⟩, h1⟩
 rw [List.map_append, List.mem_append] at hz
 rcases hz with hz | hz
 ·exact L.Sp.mem hz
 ·simp at hz
  subst hz
  exact h1
end Go.Proofs.YtbbglejdfbkjlaaGreat
