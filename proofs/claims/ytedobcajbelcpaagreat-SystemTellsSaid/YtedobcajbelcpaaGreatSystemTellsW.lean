/-
  Law SystemTells, walked.
-/
import Derived.Test.YtedobcajbelcpaaGreatMgi
namespace Go.Proofs.YtedobcajbelcpaaGreat
open Go.RowKit

set_option maxRecDepth 100000 in
set_option maxHeartbeats 6400000 in
theorem systemTells_walk (O : SystemOk) (K H S a b c sd : Int) (vl : Value) (l : List Int) (w : World) (hz : Zs w vl l) :
    Calls Tryz.prog 3 #[par K H S, .int .i64 a, .int .i64 b, .int .i64 c, .int .u64 sd, vl] w fun e w' => e = .returned (.bool true) ∧ Gr w w' := by
  have HO := Lib.hid O
  have HZ := Lib.hid hz
  obtain ⟨ol, ml, cl, rfl⟩ := hz.form3
  clear O hz
  obtain ⟨s0, hs0, hs1⟩ : ∃ s : Nat, sd % 4294967296 = s ∧ s < 4294967296 := ⟨(sd % 4294967296).toNat, by omega, by omega⟩
  have hw32 : IntKind.u32.wrap sd = (s0 : Int) := by rw [← hs0]; simp [IntKind.wrap, IntKind.bits, IntKind.signed]
  have HP0 : Hid (Par (w.alloc (.cells #[.int .i64 K, .int .i64 H, .int .i64 S] 23)) w.heap.size K H S) := Lib.hid (heap_alloc_new _ _)
  have HG0 : Hid (Gr w (w.alloc (.cells #[.int .i64 K, .int .i64 H, .int .i64 S] 23))) := Lib.hid (Gr.alloc (Gr.refl _) _ _)
  go_enter Tryz.func3, Tryz.ntmps3
  go_wp2_with fail
  generalize w.alloc (.cells #[.int .i64 K, .int .i64 H, .int .i64 S] 23) = W0 at *
  generalize w.heap.size = gp at *
  refine (ids_any _ l 30 _ (HZ.out.grown HG0.out) (by omega)).mono ?_
  rintro e w3 ⟨u3, rfl, ho3, hg3⟩
  obtain ⟨J, hJ⟩ : ∃ J, idsL l 30 = J := ⟨_, rfl⟩
  have hJ20 : J.length ≤ 30 := by rw [← hJ]; exact idsL_le l 30
  have HJI : Hid (∀ x ∈ J, I64 x) := Lib.hid (by rw [← hJ]; exact idsL_i64 HZ.out.1 30)
  rw [hJ] at ho3
  obtain ⟨n, hn⟩ : ∃ n, J.length = n := ⟨_, rfl⟩
  have HZJ := Lib.hid (owns_zs ho3 rfl HJI.out)
  rw [hn] at ho3 hJ20
  obtain ⟨o3, c3, rfl⟩ := ownsRow_form'' ho3
  have HNN := Lib.hid hn
  have HP3 := Lib.hid (HP0.out.grown hg3)
  have HG3 := Lib.hid (Gr.trans HG0.out hg3)
  clear hJ ho3 hg3 hn HP0 HG0
  have c0 := HP3.out.cell0
  have c1 := HP3.out.cell1
  have c2 := HP3.out.cell2
  go_wp2_with fail
  go_region_held3 (fun W => W.cell? ⟨gp, 0, none⟩ = some (.int .i64 K) ∧ W.cell? ⟨gp, 1, none⟩ = some (.int .i64 H) ∧ W.cell? ⟨gp, 2, none⟩ = some (.int .i64 S)) (first | exact ⟨c10, c11, c12⟩ | exact ⟨cell_grown (Gr.alloc (Gr.refl _) _ _) c10, cell_grown (Gr.alloc (Gr.refl _) _ _) c11, cell_grown (Gr.alloc (Gr.refl _) _ _) c12⟩ | go_keep)
    (first | (go_at_call 5; refine (params_any a b c _).mono ?_; rintro e w1 ⟨rfl, hg⟩; have c10 := cell_grown hg (by exact c0); have c11 := cell_grown hg (by exact c1); have c12 := cell_grown hg (by exact c2); have G1 : Hid (Gr w3 w1) := Lib.hid (by exact hg); clear hg))
  have HF : Hid (Twos (w1.alloc (.cells #[.int .i64 K, .int .i64 H, .int .i64 S, .int .i64 (1 + a % 16), .int .i64 (1 + b % 4), .int .i64 (1 + c % 24)] 23)) w1.heap.size) := Lib.hid (by
    intro t ht
    have hb := heap_alloc_new w1 (.cells #[.int .i64 K, .int .i64 H, .int .i64 S, .int .i64 (1 + a % 16), .int .i64 (1 + b % 4), .int .i64 (1 + c % 24)] 23)
    rw [cell_of_row _ _ (t * 3) _ _ _ hb, cell_of_row _ _ (t * 3 + 1) _ _ _ hb, cell_of_row _ _ (t * 3 + 2) _ _ _ hb]
    have : t = 0 ∨ t = 1 := by omega
    rcases this with rfl | rfl
    · exact ⟨_, _, _, rfl, rfl, rfl⟩
    · exact ⟨_, _, _, rfl, rfl, rfl⟩)
  have HGW : Hid (Gr w3 (w1.alloc (.cells #[.int .i64 K, .int .i64 H, .int .i64 S, .int .i64 (1 + a % 16), .int .i64 (1 + b % 4), .int .i64 (1 + c % 24)] 23))) := Lib.hid (Gr.alloc G1.out _ _)
  have HG1 := Lib.hid (Gr.trans HG3.out HGW.out)
  have HZ1 := Lib.hid (HZJ.out.grown HGW.out)
  clear c0 c1 c2 c10 c11 c12 HP3 HG3 G1 HGW HZJ
  generalize w1.alloc (.cells #[.int .i64 K, .int .i64 H, .int .i64 S, .int .i64 (1 + a % 16), .int .i64 (1 + b % 4), .int .i64 (1 + c % 24)] 23) = W2 at *
  generalize w1.heap.size = gl at *
  go_wp2_with fail
  go_loopw [29] (fun i wr => ∃ t : Nat, t ≤ 2 ∧ i = .int .i64 t ∧ Twos wr gl ∧ Gr w wr ∧ Zs wr (.slice o3 n c3) J) (fun i _ => 2 - (intOf i).toNat)
  case atStart => exact ⟨0, by omega, rfl, HF.out, HG1.out, HZ1.out⟩
  case round =>
    clear HF HG1 HZ1
    obtain ⟨wo, hwo⟩ : ∃ x, x = wr := ⟨_, rfl⟩
    subst hwo
    obtain ⟨t, ht, rfl, hf, hg, hzj⟩ := hrel
    have HF := Lib.hid hf
    have HG := Lib.hid hg
    have HZO := Lib.hid hzj
    clear hf hg hzj
    by_cases hlt : t < 2
    · obtain ⟨p, q, r, q0, q1, q2⟩ := HF.out t hlt
      go_wp2_with fail
      have hga : Gr wo (wo.alloc (.cells #[.int .i64 p, .int .i64 q, .int .i64 r] 23)) := Gr.alloc (Gr.refl _) _ _
      have HG3 := Lib.hid (Gr.trans HG.out hga)
      have HF3 := Lib.hid (HF.out.grown hga)
      have HZ3 := Lib.hid (HZO.out.grown hga)
      have HQP : Hid (Par (wo.alloc (.cells #[.int .i64 p, .int .i64 q, .int .i64 r] 23)) wo.heap.size p q r) := Lib.hid (heap_alloc_new _ _)
      clear hga HF HG HZO q0 q1 q2
      generalize wo.alloc (.cells #[.int .i64 p, .int .i64 q, .int .i64 r] 23) = W3 at *
      generalize wo.heap.size = gq at *
      have hsp := spareZ_any (.slice o3 n c3) J 71 W3 HZ3.out (by rw [HNN.out]; omega)
      rw [HNN.out] at hsp
      refine hsp.mono ?_
      rintro e wq ⟨gi, rfl, hgi, hbz, hgq⟩
      have ZJ := Lib.hid (HZ3.out.grown hgq)
      have ZI : Hid (Zs wq (.slice (some ⟨gi, 0, none⟩) n (n + 2)) J) := Lib.hid (by
        have := Blz.zs_pre hbz HJI.out (by simp; rw [HNN.out]; omega)
        simpa [HNN.out] using this)
      have HKP : Hid (∀ W, Gr wq W → Calls Tryz.prog 16 #[.slice (some ⟨gi, 0, none⟩) n (n + 2), .slice o3 n c3, .int .i64 71] W fun e w' => e = .returned (.bool true) ∧ Gr W w') := Lib.hid (fun W hW => by
        have := keptZ_true gi J (.slice o3 n c3) 71 W (Blz.grown hbz hW) HJI.out (ZJ.out.grown hW) (by rw [HNN.out]; omega)
        rwa [HNN.out] at this)
      have HQ4 := Lib.hid (HQP.out.grown hgq)
      have HF4 := Lib.hid (HF3.out.grown hgq)
      have HG4 := Lib.hid (Gr.trans HG3.out hgq)
      clear hsp hgi hbz hgq HQP HF3 HG3 HZ3
      obtain ⟨rk, hrk⟩ : ∃ x, rkL (matP p q r s0 J) = x := ⟨_, rfl⟩
      obtain ⟨fb, hfb⟩ : ∃ x, decide (FullP p q r s0 J) = x := ⟨_, rfl⟩
      obtain ⟨rb, hrb⟩ : ∃ x, decide (RightP p q r s0) = x := ⟨_, rfl⟩
      have HRK := Lib.hid hrk
      have HFB := Lib.hid hfb
      have HRB := Lib.hid hrb
      clear hrk hfb hrb
      have c0 := HQ4.out.cell0
      have c1 := HQ4.out.cell1
      have c2 := HQ4.out.cell2
      go_wp2_with fail
      go_region_held3 (fun W => W.cell? ⟨gq, 0, none⟩ = some (.int .i64 p) ∧ W.cell? ⟨gq, 1, none⟩ = some (.int .i64 q) ∧ W.cell? ⟨gq, 2, none⟩ = some (.int .i64 r)) (first | exact ⟨k100, k101, k102⟩ | exact ⟨k90, k91, k92⟩ | exact ⟨k80, k81, k82⟩ | exact ⟨k70, k71, k72⟩ | exact ⟨k60, k61, k62⟩ | exact ⟨k50, k51, k52⟩ | exact ⟨k40, k41, k42⟩ | exact ⟨k30, k31, k32⟩ | exact ⟨k20, k21, k22⟩ | exact ⟨k10, k11, k12⟩ | go_keep)
              (first
                | (go_at_call 16; refine (HKP.out _ (by exact (Gr.trans (Gr.trans (Gr.trans (Gr.trans (Gr.trans (Gr.trans (Gr.trans (Gr.trans V1.out V2.out) V3.out) V4.out) V5.out) V6.out) V7.out) V8.out) V9.out))).mono ?_; rintro e v10 ⟨rfl, hg10⟩; have k100 := cell_grown hg10 (by exact k90); have k101 := cell_grown hg10 (by exact k91); have k102 := cell_grown hg10 (by exact k92); have V10 : Hid (Gr v9 v10) := Lib.hid (by exact hg10))
                | (go_at_call 15; refine (refRight_any p q r s0 _ hs1).mono ?_; rw [HRB.out]; rintro e v9 ⟨rfl, hg9⟩; have k90 := cell_grown hg9 (by exact k80); have k91 := cell_grown hg9 (by exact k81); have k92 := cell_grown hg9 (by exact k82); have V9 : Hid (Gr v8 v9) := Lib.hid (by exact hg9))
                | (go_at_call 14; refine (HO.out.right p q r s0 _ hs1).mono ?_; rw [HRB.out]; rintro e v8 ⟨rfl, hg8⟩; have k80 := cell_grown hg8 (by exact k70); have k81 := cell_grown hg8 (by exact k71); have k82 := cell_grown hg8 (by exact k72); have V8 : Hid (Gr v7 v8) := Lib.hid (by exact hg8))
                | (go_at_call 13; refine (refFull_any p q r s0 _ J _ hs1 (by exact ZJ.out.grown (Gr.trans (Gr.trans (Gr.trans (Gr.trans (Gr.trans V1.out V2.out) V3.out) V4.out) V5.out) V6.out)) (by rw [HNN.out]; omega)).mono ?_; rw [HFB.out]; rintro e v7 ⟨rfl, hg7⟩; have k70 := cell_grown hg7 (by exact k60); have k71 := cell_grown hg7 (by exact k61); have k72 := cell_grown hg7 (by exact k62); have V7 : Hid (Gr v6 v7) := Lib.hid (by exact hg7))
                | (go_at_call 12; refine (HO.out.full p q r s0 _ J _ hs1 (by exact ZI.out.grown (Gr.trans (Gr.trans (Gr.trans (Gr.trans V1.out V2.out) V3.out) V4.out) V5.out)) (by rw [HNN.out]; omega)).mono ?_; rw [HFB.out]; rintro e v6 ⟨rfl, hg6⟩; have k60 := cell_grown hg6 (by exact k50); have k61 := cell_grown hg6 (by exact k51); have k62 := cell_grown hg6 (by exact k52); have V6 : Hid (Gr v5 v6) := Lib.hid (by exact hg6))
                | (go_at_call 11; refine (refRankOf_any p q r s0 _ J _ hs1 (by exact ZJ.out.grown (Gr.trans (Gr.trans (Gr.trans V1.out V2.out) V3.out) V4.out)) (by rw [HNN.out]; omega)).mono ?_; rw [HRK.out]; rintro e v5 ⟨rfl, hg5⟩; have k50 := cell_grown hg5 (by exact k40); have k51 := cell_grown hg5 (by exact k41); have k52 := cell_grown hg5 (by exact k42); have V5 : Hid (Gr v4 v5) := Lib.hid (by exact hg5))
                | (go_at_call 10; refine (HO.out.rank p q r s0 _ J _ hs1 (by exact ZI.out.grown (Gr.trans (Gr.trans V1.out V2.out) V3.out)) (by rw [HNN.out]; omega)).mono ?_; rw [HRK.out]; rintro e v4 ⟨rfl, hg4⟩; have k40 := cell_grown hg4 (by exact k30); have k41 := cell_grown hg4 (by exact k31); have k42 := cell_grown hg4 (by exact k32); have V4 : Hid (Gr v3 v4) := Lib.hid (by exact hg4))
                | (go_at_call 7; refine (rows_any _ _ (matP p q r s0 J) (matP p q r s0 J) _ (B1.out.grown V2.out) B2.out).mono ?_; rw [beq_self_eq_true]; rintro e v3 ⟨rfl, hg3⟩; have k30 := cell_grown hg3 (by exact k20); have k31 := cell_grown hg3 (by exact k21); have k32 := cell_grown hg3 (by exact k22); have V3 : Hid (Gr v2 v3) := Lib.hid (by exact hg3))
                | (go_at_call 9; refine (refMatrix_any p q r s0 _ J _ hs1 (by exact ZJ.out.grown V1.out) (by rw [HNN.out]; omega)).mono ?_; rintro e v2 ⟨y2, rfl, hb2, hg2⟩; obtain ⟨o2, m2, d2, rfl⟩ := hb2.form3; have B2 := Lib.hid hb2; clear hb2; have k20 := cell_grown hg2 (by exact k10); have k21 := cell_grown hg2 (by exact k11); have k22 := cell_grown hg2 (by exact k12); have V2 : Hid (Gr v1 v2) := Lib.hid (by exact hg2))
                | (go_at_call 8; refine (HO.out.matrix p q r s0 _ J _ hs1 (by exact ZI.out) (by rw [HNN.out]; omega)).mono ?_; rintro e v1 ⟨y1, rfl, hb1, hg1⟩; obtain ⟨o1, m1, d1, rfl⟩ := hb1.form3; have B1 := Lib.hid hb1; clear hb1; have k10 := cell_grown hg1 (by exact c0); have k11 := cell_grown hg1 (by exact c1); have k12 := cell_grown hg1 (by exact c2); have V1 : Hid (Gr wq v1) := Lib.hid (by exact hg1)))
      all_goals
        have HVZ := Lib.hid (Gr.trans (Gr.trans (Gr.trans (Gr.trans (Gr.trans (Gr.trans (Gr.trans (Gr.trans (Gr.trans V1.out V2.out) V3.out) V4.out) V5.out) V6.out) V7.out) V8.out) V9.out) V10.out)
        have HGZ := Lib.hid (Gr.trans HG4.out HVZ.out)
        have HFZ := Lib.hid (HF4.out.grown HVZ.out)
        have HZZ := Lib.hid (ZJ.out.grown HVZ.out)
        go_wp2_with fail
        exact ⟨⟨t + 1, by omega, by go_num, HFZ.out, HGZ.out, HZZ.out⟩, by simp [intOf]; omega⟩
    · have hlt5 : ((t : Int) < 2) = False := by simp; omega
      go_wp2_with fail
      refine (sysWakes_any HO.out _).mono ?_
      rintro e w2 ⟨rfl, hg2⟩
      have G2 := Lib.hid (Gr.trans HG.out hg2)
      clear hg2
      go_wp2_with fail
      go_ret
      exact ⟨rfl, G2.out⟩
end Go.Proofs.YtedobcajbelcpaaGreat
