/-
  Package encode as it was written: New; package encode keeps its contracts.
-/
import Derived.Test.YtbabecjphmmngaaGreatEd
namespace Go.Proofs.YtbabecjphmmngaaGreat
open Go.RowKit

/-- What solves the first symbols are the middle symbols. -/
theorem sol_midE {K H S seed : Nat} {D : List Int} {n : Int} {M : List (List Int)} (hr : RightP K H S seed) (hD : D.length = K * S) (hb : ∀ z ∈ D, Byt z) (hs : SolSays (matP K H S seed (firstI K)) (rhsL K H S D) n M) : n = 0 ∧ IsMid K H S seed D M := by
  obtain ⟨M0, h0⟩ := mid_exists hr hD hb
  have hm := hr.1
  have hk : 1 ≤ K := by unfold MayP at hm; omega
  have hwA := (matP_wide hm seed (firstI K))
  have hA : 0 < (matP K H S seed (firstI K)).length := by rw [firstM_length hm]; omega
  have hwd : wd (matP K H S seed (firstI K)) = K + H := hwA.wd hA
  have hwB : wd (rhsL K H S D) = S := (rhsL_wide hD hb).wd (by rw [rhsL_length]; omega)
  have h1 : SolSays (matP K H S seed (firstI K)) (rhsL K H S D) 0 M0 := .inr (.inr (.inl ⟨List.length_pos_iff.1 hA, by rw [right_rk hr, hwd], rfl, by rw [h0.len, hwd], by rw [hwB]; exact h0.mul, by rw [hwB]; exact h0.wide⟩))
  obtain ⟨rfl, rfl⟩ := SolSays.unique (by rw [hwd]; exact hwA) hs h1
  exact ⟨rfl, h0⟩
set_option maxRecDepth 100000 in
set_option maxHeartbeats 800000 in
theorem newMay_any (K H S : Int) (seed : Nat) (v : Value) (D : List Int) (w : World) (hm : ¬ MayP K H S) (hz : Bs w v D) :
    Calls Tryz.prog 10 #[par K H S, .int .u32 (seed : Int), v] w fun e w' => e = .returned (.tuple #[.pointer none, .int .i64 1]) ∧ Gr w w' := by
  have hd := decide_eq_false hm
  obtain ⟨od, cd, rfl⟩ := hz.form
  have HG0 : Hid (Gr w (w.alloc (.cells #[.int .i64 K, .int .i64 H, .int .i64 S] 23))) := Lib.hid (Gr.alloc (Gr.refl _) _ _)
  clear hm hz
  go_enter Tryz.func10, Tryz.ntmps10
  go_wp2_with fail
  refine (may_pre K H S _).mono ?_
  rw [hd]
  rintro e w1 ⟨rfl, hg1⟩
  have G1 := Lib.hid (Gr.trans HG0.out hg1)
  clear hg1
  go_wp2_with fail
  go_ret2
  exact ⟨rfl, G1.out⟩
set_option maxRecDepth 100000 in
set_option maxHeartbeats 800000 in
theorem newLen_any (K H S : Nat) (seed : Nat) (v : Value) (D : List Int) (w : World) (hm : MayP K H S) (hz : Bs w v D) (hD : D.length ≠ K * S) :
    Calls Tryz.prog 10 #[par K H S, .int .u32 (seed : Int), v] w fun e w' => e = .returned (.tuple #[.pointer none, .int .i64 1]) ∧ Gr w w' := by
  have hd := decide_eq_true hm
  have hb : 1 ≤ K ∧ K ≤ 16 ∧ 1 ≤ S ∧ S ≤ 24 := by unfold MayP at hm; omega
  obtain ⟨hb1, hb2, hb5, hb6⟩ := hb
  obtain ⟨Q, hQ⟩ : ∃ Q, K * S = Q := ⟨_, rfl⟩
  have hQ2 : Q ≤ 384 := by rw [← hQ]; exact Nat.le_trans (Nat.mul_le_mul hb2 hb6) (by omega)
  have hQi : (K : Int) * (S : Int) = (Q : Int) := by rw [← hQ]; simp
  rw [hQ] at hD
  obtain ⟨od, cd, rfl⟩ := hz.form
  generalize D.length = m at *
  have hne : ((m : Int) != (Q : Int)) = true := by simp; omega
  have hne2 : m ≠ Q := hD
  have P0 : Hid (Par (w.alloc (.cells #[.int .i64 (K : Int), .int .i64 (H : Int), .int .i64 (S : Int)] 23)) w.heap.size K H S) := Lib.hid (heap_alloc_new _ _)
  have HG0 : Hid (Gr w (w.alloc (.cells #[.int .i64 (K : Int), .int .i64 (H : Int), .int .i64 (S : Int)] 23))) := Lib.hid (Gr.alloc (Gr.refl _) _ _)
  clear hm hz hQ hD
  go_enter Tryz.func10, Tryz.ntmps10
  go_wp2_with fail
  generalize w.alloc (.cells #[.int .i64 (K : Int), .int .i64 (H : Int), .int .i64 (S : Int)] 23) = W0 at *
  generalize hgp : w.heap.size = gp at *
  refine (may_pre K H S _).mono ?_
  rw [hd]
  rintro e w1 ⟨rfl, hg1⟩
  have P1 := Lib.hid (P0.out.grown hg1)
  have G1 := Lib.hid (Gr.trans HG0.out hg1)
  clear hg1 P0 HG0 hd
  have c0 := P1.out.cell0
  have c1 := P1.out.cell1
  have c2 := P1.out.cell2
  go_wp2_with fail
  go_ret2
  exact ⟨rfl, G1.out⟩
set_option maxRecDepth 100000 in
set_option maxHeartbeats 800000 in
theorem newSeedE_any (K H S : Nat) (seed : Nat) (v : Value) (D : List Int) (w : World) (hs : seed < 4294967296) (hz : Bs w v D) (hm : MayP K H S) (hD : D.length = K * S) (hr : ¬ RightP K H S seed) :
    Calls Tryz.prog 10 #[par K H S, .int .u32 (seed : Int), v] w fun e w' => e = .returned (.tuple #[.pointer none, .int .i64 8]) ∧ Gr w w' := by
  have hd := decide_eq_true hm
  have hdr := decide_eq_false hr
  have hb : 1 ≤ K ∧ K ≤ 16 ∧ 1 ≤ S ∧ S ≤ 24 := by unfold MayP at hm; omega
  obtain ⟨hb1, hb2, hb5, hb6⟩ := hb
  obtain ⟨Q, hQ⟩ : ∃ Q, K * S = Q := ⟨_, rfl⟩
  have hQ2 : Q ≤ 384 := by rw [← hQ]; exact Nat.le_trans (Nat.mul_le_mul hb2 hb6) (by omega)
  have hQi : (K : Int) * (S : Int) = (Q : Int) := by rw [← hQ]; simp
  rw [hQ] at hD
  obtain ⟨od, cd, rfl⟩ := hz.form
  rw [hD]
  have P0 : Hid (Par (w.alloc (.cells #[.int .i64 (K : Int), .int .i64 (H : Int), .int .i64 (S : Int)] 23)) w.heap.size K H S) := Lib.hid (heap_alloc_new _ _)
  have HG0 : Hid (Gr w (w.alloc (.cells #[.int .i64 (K : Int), .int .i64 (H : Int), .int .i64 (S : Int)] 23))) := Lib.hid (Gr.alloc (Gr.refl _) _ _)
  clear hm hr hz hQ hD
  go_enter Tryz.func10, Tryz.ntmps10
  go_wp2_with fail
  generalize w.alloc (.cells #[.int .i64 (K : Int), .int .i64 (H : Int), .int .i64 (S : Int)] 23) = W0 at *
  generalize hgp : w.heap.size = gp at *
  refine (may_pre K H S _).mono ?_
  rw [hd]
  rintro e w1 ⟨rfl, hg1⟩
  have P1 := Lib.hid (P0.out.grown hg1)
  have G1 := Lib.hid (Gr.trans HG0.out hg1)
  clear hg1 P0 HG0 hd
  have c0 := P1.out.cell0
  have c1 := P1.out.cell1
  have c2 := P1.out.cell2
  go_wp2_with fail
  refine (system_ok.right K H S seed _ hs).mono ?_
  rw [hdr]
  rintro e w2 ⟨rfl, hg2⟩
  have G2 := Lib.hid (Gr.trans G1.out hg2)
  clear hg2 P1 G1 hdr c0 c1 c2
  go_wp2_with fail
  go_ret2
  exact ⟨rfl, G2.out⟩
set_option maxRecDepth 100000 in
set_option maxHeartbeats 3200000 in
theorem newE_any (K H S : Nat) (seed : Nat) (v : Value) (D : List Int) (w : World) (hs : seed < 4294967296) (hz : Bs w v D) (hm : MayP K H S) (hD : D.length = K * S) (hr : RightP K H S seed) :
    Calls Tryz.prog 10 #[par K H S, .int .u32 (seed : Int), v] w fun e w' => ∃ y F M, e = .returned (.tuple #[y, .int .i64 0]) ∧ IsMid K H S seed D M ∧ BAt w' y F K H S seed M ∧ Gr w w' ∧ ∀ k, F k → w.heap.size ≤ k := by
  have hd := decide_eq_true hm
  have hdr := decide_eq_true hr
  have hb : 1 ≤ K ∧ K ≤ 16 ∧ 1 ≤ H ∧ H ≤ 4 ∧ 1 ≤ S ∧ S ≤ 24 := by unfold MayP at hm; omega
  obtain ⟨hb1, hb2, hb3, hb4, hb5, hb6⟩ := hb
  obtain ⟨Q, hQ⟩ : ∃ Q, K * S = Q := ⟨_, rfl⟩
  have hQ2 : Q ≤ 384 := by rw [← hQ]; exact Nat.le_trans (Nat.mul_le_mul hb2 hb6) (by omega)
  have hQi : (K : Int) * (S : Int) = (Q : Int) := by rw [← hQ]; simp
  have HD := Lib.hid hD
  have HM := Lib.hid hm
  have HR := Lib.hid hr
  have HBD := Lib.hid hz
  rw [hQ] at hD
  obtain ⟨od, cd, rfl⟩ := hz.form
  rw [hD] at HBD ⊢
  have P0 : Hid (Par (w.alloc (.cells #[.int .i64 (K : Int), .int .i64 (H : Int), .int .i64 (S : Int)] 23)) w.heap.size K H S) := Lib.hid (heap_alloc_new _ _)
  have HG0 : Hid (Gr w (w.alloc (.cells #[.int .i64 (K : Int), .int .i64 (H : Int), .int .i64 (S : Int)] 23))) := Lib.hid (Gr.alloc (Gr.refl _) _ _)
  clear hm hr hz hQ hD
  go_enter Tryz.func10, Tryz.ntmps10
  go_wp2_with fail
  generalize w.alloc (.cells #[.int .i64 (K : Int), .int .i64 (H : Int), .int .i64 (S : Int)] 23) = W0 at *
  generalize hgp : w.heap.size = gp at *
  refine (may_pre K H S _).mono ?_
  rw [hd]
  rintro e w1 ⟨rfl, hg1⟩
  have P1 := Lib.hid (P0.out.grown hg1)
  have G1 := Lib.hid (Gr.trans HG0.out hg1)
  clear hg1 P0 HG0 hd
  have c0 := P1.out.cell0
  have c1 := P1.out.cell1
  have c2 := P1.out.cell2
  go_wp2_with fail
  refine (system_ok.right K H S seed _ hs).mono ?_
  rw [hdr]
  rintro e w2 ⟨rfl, hg2⟩
  have P2 := Lib.hid (P1.out.grown hg2)
  have G2 := Lib.hid (Gr.trans G1.out hg2)
  clear hg2 P1 G1 hdr c0 c1 c2
  have c0 := P2.out.cell0
  have c1 := P2.out.cell1
  have c2 := P2.out.cell2
  go_upto_region 5 with fail
  have HML : Hid ((matP K H S seed (firstI K)).length = H + K) := Lib.hid (firstM_length HM.out seed)
  have HWA : Hid (wd (matP K H S seed (firstI K)) = K + H) := Lib.hid ((matP_wide HM.out seed (firstI K)).wd (by rw [HML.out]; omega))
  have HWB : Hid (wd (rhsL K H S D) = S) := Lib.hid ((rhsL_wide HD.out HBD.out.1).wd (by rw [rhsL_length]; omega))
  have HRM : Hid (mayL (rhsL K H S D) = true) := Lib.hid ((rhsL_wide HD.out HBD.out.1).may (by omega))
  go_region_held3 (fun W => W.cell? ⟨gp, 0, none⟩ = some (.int .i64 (K : Int)) ∧ W.cell? ⟨gp, 1, none⟩ = some (.int .i64 (H : Int)) ∧ W.cell? ⟨gp, 2, none⟩ = some (.int .i64 (S : Int))) (first | exact ⟨k40, k41, k42⟩ | exact ⟨k30, k31, k32⟩ | exact ⟨k20, k21, k22⟩ | exact ⟨k10, k11, k12⟩ | go_keep)
    (first
      | (go_at_call 21; refine (solve_new _ _ _ (matP K H S seed (firstI K)) (rhsL K H S D) _ (Or.inl rfl) (HB2.out.grown V3.out) HB3.out (by rw [HML.out]; omega) (by rw [HML.out, rhsL_length]) (matP_may _ _ _ _ _) HRM.out (fun _ => by rw [HWA.out, HWB.out]; omega)).mono ?_; rintro e v4 ⟨u4, n4, M4, rfl, hr4, hg4, hsol⟩; have k40 := cell_grown hg4 (by exact k30); have k41 := cell_grown hg4 (by exact k31); have k42 := cell_grown hg4 (by exact k32); have HR4 := Lib.hid hr4; have V4 : Hid (Gr v3 v4) := Lib.hid (by exact hg4); have HSOL := Lib.hid hsol; clear hr4 hg4 hsol)
      | (go_at_call 24; refine (sums_any K H S _ D _ HM.out (HBD.out.grown (Gr.trans G2.out (Gr.trans V1.out V2.out))) HD.out).mono ?_; rintro e v3 ⟨u3, rfl, hb3, hg3⟩; have k30 := cell_grown hg3 (by exact k20); have k31 := cell_grown hg3 (by exact k21); have k32 := cell_grown hg3 (by exact k22); have HB3 := Lib.hid hb3; have V3 : Hid (Gr v2 v3) := Lib.hid (by exact hg3); clear hb3 hg3)
      | (go_at_call 22; refine (system_ok.matrix K H S seed _ (firstI K) _ hs HZ1.out (by rw [firstI_length]; omega)).mono ?_; rintro e v2 ⟨u2, rfl, hb2, hg2⟩; have k20 := cell_grown hg2 (by exact k10); have k21 := cell_grown hg2 (by exact k11); have k22 := cell_grown hg2 (by exact k12); have HB2 := Lib.hid hb2; have V2 : Hid (Gr v1 v2) := Lib.hid (by exact hg2); clear hb2 hg2)
      | (go_at_call 23; refine (firstE_any K _ (by omega)).mono ?_; rintro e v1 ⟨u1, rfl, hz1, hg1⟩; have k10 := cell_grown hg1 (by exact c0); have k11 := cell_grown hg1 (by exact c1); have k12 := cell_grown hg1 (by exact c2); have HZ1 := Lib.hid hz1; have V1 : Hid (Gr w2 v1) := Lib.hid (by exact hg1); clear hz1 hg1))
  obtain ⟨rfl, hmid⟩ := sol_midE HR.out HD.out HBD.out.1 HSOL.out
  have HMID := Lib.hid hmid
  obtain ⟨o4, c4, rfl, _⟩ := HR4.out.bss
  have G4 := Lib.hid (Gr.trans G2.out (Gr.trans V1.out (Gr.trans V2.out (Gr.trans V3.out V4.out))))
  have HLO : Hid (w.heap.size ≤ v3.heap.size) := Lib.hid (Gr.trans G2.out (Gr.trans V1.out (Gr.trans V2.out V3.out))).size
  rename_i hHeld
  clear hmid hHeld HSOL c0 c1 c2 k10 k11 k12 k20 k21 k22 k30 k31 k32 HB2 HB3 HZ1
  go_wp2_with fail
  go_ret2
  have gB := Gr.alloc (Gr.refl v4) #[.int .i64 (K : Int), .int .i64 (H : Int), .int .i64 (S : Int), .int .u32 (seed : Int), .slice o4 M4.length c4] 60
  exact ⟨_, fun k => w.heap.size ≤ k ∧ k < (v4.alloc (.cells #[.int .i64 (K : Int), .int .i64 (H : Int), .int .i64 (S : Int), .int .u32 (seed : Int), .slice o4 M4.length c4] 60)).heap.size, M4, rfl, HMID.out,
    ⟨w.heap.size, _, v4.heap.size, o4, c4, fun _ => Iff.rfl, Nat.le_refl _, fun _ _ => rfl, rfl, G4.out.size, heap_alloc_new _ _, (HR4.out.lowM HLO.out).grM gB⟩, Gr.trans G4.out gB, fun _ h => h.1⟩
theorem newArg_any (K H S : Int) (seed : Nat) (v : Value) (D : List Int) (w : World) (hz : Bs w v D) (h : ¬ (MayP K H S ∧ (D.length : Int) = K * S)) :
    Calls Tryz.prog 10 #[par K H S, .int .u32 (seed : Int), v] w fun e w' => e = .returned (.tuple #[.pointer none, .int .i64 1]) ∧ Gr w w' := by
  by_cases hm : MayP K H S
  · have hb : 0 ≤ K ∧ 0 ≤ H ∧ 0 ≤ S := by unfold MayP at hm; omega
    obtain ⟨k, rfl⟩ := Int.eq_ofNat_of_zero_le hb.1
    obtain ⟨h', rfl⟩ := Int.eq_ofNat_of_zero_le hb.2.1
    obtain ⟨s, rfl⟩ := Int.eq_ofNat_of_zero_le hb.2.2
    exact newLen_any k h' s seed v D w hm hz fun e => h ⟨hm, by rw [e]; simp⟩
  · exact newMay_any K H S seed v D w hm hz
theorem enc_ok : EncOk BAt where
  ptr := BAt.ptr
  lt := BAt.lt
  keep := BAt.keep
  newArg := fun K H S seed v D w _ hz _ h => newArg_any K H S seed v D w hz h
  newSeed := fun K H S seed v D w hs hz hm hD hr => newSeedE_any K H S seed v D w hs hz hm hD hr
  new := fun K H S seed v D w hs hz hm hD hr => newE_any K H S seed v D w hs hz hm hD hr
  mid := fun y F K H S seed M w hm _ hb hM hl => mid_any y F K H S seed M w hm hb hM hl
  symbol := fun y F K H S seed M id w hm hs hb hM hl hi => symbol_any y F K H S seed M id w hm hs hb hM hl hi
  midNil := midNil_any
  symbolNil := fun id w _ => symbolNil_any id w
end Go.Proofs.YtbabecjphmmngaaGreat
