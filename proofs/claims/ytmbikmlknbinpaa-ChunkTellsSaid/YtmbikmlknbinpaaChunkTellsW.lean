/-
  Law ChunkTells, walked: the count, the blocks, and blocks put together, of any parameters.
-/
import Derived.Test.YtmbikmlknbinpaaChunkCountsW
import Derived.Deep.DeepCutAuto
namespace Go.Proofs.Ytmbikmlknbinpaa
open Go.RowKit

set_option maxHeartbeats 400000 in
theorem small_any (a b c : Int) (w : World) :
    Calls Try.prog 9 #[.int .i64 a, .int .i64 b, .int .i64 c] w fun e w' => e = .returned (par (1 + a % 6) (1 + b % 3) (1 + c % 9)) ∧ Gr w w' := by
  obtain ⟨x, hx, hx2⟩ : ∃ x : Nat, a % 6 = x ∧ x < 6 := ⟨(a % 6).toNat, by omega, by omega⟩
  obtain ⟨y, hy, hy2⟩ : ∃ x : Nat, b % 3 = x ∧ x < 3 := ⟨(b % 3).toNat, by omega, by omega⟩
  obtain ⟨z, hz, hz2⟩ : ∃ x : Nat, c % 9 = x ∧ x < 9 := ⟨(c % 9).toNat, by omega, by omega⟩
  have HX := Lib.hid hx
  have HY := Lib.hid hy
  have HZ := Lib.hid hz
  rw [hx, hy, hz]
  clear hx hy hz
  go_enter Try.func9, Try.ntmps9
  go_wp2_with fail
  refine (within_any a 6 (by omega) (by omega) _).mono ?_
  rintro e w' ⟨rfl, rfl⟩
  rw [HX.out]
  go_wp2_with fail
  refine (within_any b 3 (by omega) (by omega) _).mono ?_
  rintro e w' ⟨rfl, rfl⟩
  rw [HY.out]
  go_wp2_with fail
  refine (within_any c 9 (by omega) (by omega) _).mono ?_
  rintro e w' ⟨rfl, rfl⟩
  rw [HZ.out]
  go_wp2_with fail
  exact bodyPost_ret_by (results_cell_row rfl _ _ w.heap.size 23 _ (0, 0) _ rfl (heap_alloc_new _ _) Try.underlying23 rfl (by kernel_rfl)) rfl ⟨rfl, Gr.alloc (Gr.refl _) _ _⟩
/-- Three parameters lie in block g. -/
def Threes (w : World) (g : Nat) : Prop := ∀ t, t < 3 → ∃ K H S, w.cell? ⟨g, t * 3, none⟩ = some (.int .i64 K) ∧ w.cell? ⟨g, t * 3 + 1, none⟩ = some (.int .i64 H) ∧ w.cell? ⟨g, t * 3 + 2, none⟩ = some (.int .i64 S)
theorem Threes.grown {w w' : World} {g : Nat} (h : Threes w g) (hg : Gr w w') : Threes w' g := fun t ht => by
  obtain ⟨K, H, S, h1, h2, h3⟩ := h t ht
  exact ⟨K, H, S, cell_grown hg h1, cell_grown hg h2, cell_grown hg h3⟩
set_option maxRecDepth 100000 in
set_option maxHeartbeats 6400000 in
theorem chunkTells_walk (O : ChunkOk) (K H S a b c n k : Int) (vd vl : Value) (data : List Int) (L : List (List Int)) (w : World) (hd : Bs w vd data) (hl : Bss w vl L) (hn : I64 n) :
    Calls Try.prog 3 #[par K H S, .int .i64 a, .int .i64 b, .int .i64 c, .int .i64 n, .int .i64 k, vd, vl] w fun e w' => e = .returned (.bool true) ∧ Gr w w' := by
  have HO := Lib.hid O
  have HNI := Lib.hid hn
  obtain ⟨nd, hnd⟩ : ∃ n, data.length = n := ⟨_, rfl⟩
  obtain ⟨nl, hnl⟩ : ∃ n, L.length = n := ⟨_, rfl⟩
  obtain ⟨od, cd, rfl⟩ := hd.form
  obtain ⟨ol, cl, rfl⟩ : ∃ o c, vl = .slice o nl c := by
    obtain ⟨oa, c, he, _⟩ := hl
    exact ⟨oa, c, by rw [← hnl]; exact he⟩
  rw [hnd] at hd ⊢
  have HD := Lib.hid hd
  have HL := Lib.hid hl
  have HND := Lib.hid hnd
  have HNL := Lib.hid hnl
  have P0 : Hid (Par (w.alloc (.cells #[.int .i64 K, .int .i64 H, .int .i64 S] 23)) w.heap.size K H S) := Lib.hid (heap_alloc_new _ _)
  have G0 : Hid (Gr w (w.alloc (.cells #[.int .i64 K, .int .i64 H, .int .i64 S] 23))) := Lib.hid (Gr.alloc (Gr.refl _) _ _)
  clear O hn hd hl hnd hnl
  go_enter Try.func3, Try.ntmps3
  go_upto_region 1 with fail
  generalize w.alloc (.cells #[.int .i64 K, .int .i64 H, .int .i64 S] 23) = W0 at *
  generalize hg0 : w.heap.size = g0 at *
  by_cases hbig : (500 : Int) < (nd : Int)
  · go_wp2_with fail
    refine (chunkWakes_any HO.out _).mono ?_
    rintro e w1 ⟨rfl, hg1⟩
    have HG1 := Lib.hid (Gr.trans G0.out hg1)
    clear hg1
    go_wp2_with fail
    go_ret
    exact ⟨rfl, HG1.out⟩
  by_cases hbig2 : (10 : Int) < (nl : Int)
  · go_wp2_with fail
    refine (chunkWakes_any HO.out _).mono ?_
    rintro e w1 ⟨rfl, hg1⟩
    have HG1 := Lib.hid (Gr.trans G0.out hg1)
    clear hg1
    go_wp2_with fail
    go_ret
    exact ⟨rfl, HG1.out⟩
  have hnd5 : nd ≤ 500 := by omega
  have hnl5 : nl ≤ 10 := by omega
  go_wp2_with fail
  go_loopw [40] (fun iv X => ∃ i : Nat, i ≤ nl ∧ iv = .int .i64 i ∧ (∀ x ∈ L.take i, x.length ≤ 400) ∧ W0 = X) (fun iv _ => nl - (intOf iv).toNat)
  case atStart => exact ⟨0, by omega, rfl, (fun x hx => by simp at hx), rfl⟩
  case round =>
    obtain ⟨i, hi, rfl, hal, rfl⟩ := hrel
    have HAL := Lib.hid hal
    clear hal
    by_cases hlt : i < nl
    · obtain ⟨ad, c3, he, hrow⟩ : ∃ a c', (.slice ol nl cl : Value) = .slice (some a) nl c' ∧ ∃ u, w.cell? (a.add i) = some u ∧ Bs w u (L.getD i []) := by
        obtain ⟨oa, c', he, h2, h3, h4, h5⟩ := HL.out
        simp only [Value.slice.injEq] at he
        obtain ⟨rfl, -, rfl⟩ := he
        cases ol with
        | none => have := h4 rfl; rw [HNL.out] at h2; omega
        | some a => exact ⟨a, cl, rfl, h5 a rfl i (by rw [HNL.out]; exact hlt)⟩
      simp only [Value.slice.injEq] at he
      obtain ⟨rfl, -, rfl⟩ := he
      obtain ⟨u, hcu, hbu⟩ := hrow
      obtain ⟨oi, ci, rfl⟩ := hbu.form
      obtain ⟨r, hr⟩ : ∃ r, (L.getD i []).length = r := ⟨_, rfl⟩
      rw [hr] at hcu
      have q1 := cell_grown G0.out hcu
      have HR := Lib.hid hr
      have HTS : Hid (L.take (i + 1) = L.take i ++ [L.getD i []]) := Lib.hid (by
        rw [List.take_add_one, List.getD_eq_getElem?_getD, List.getElem?_eq_getElem (by rw [HNL.out]; exact hlt)]
        rfl)
      clear hcu hbu hr
      by_cases hbr : (400 : Int) < (r : Int)
      · go_wp2_with fail
        refine (chunkWakes_any HO.out _).mono ?_
        rintro e w1 ⟨rfl, hg1⟩
        have HG1 := Lib.hid (Gr.trans G0.out hg1)
        clear hg1
        go_wp2_with fail
        go_ret
        exact ⟨rfl, HG1.out⟩
      · go_wp2_with fail
        refine ⟨⟨i + 1, by omega, by go_num, ?_, trivial⟩, by simp [intOf]; omega⟩
        rw [HTS.out]
        intro x hx
        rcases List.mem_append.1 hx with h | h
        · exact HAL.out x h
        · obtain rfl := List.mem_singleton.1 h
          rw [HR.out]
          omega
    · obtain rfl : i = nl := by omega
      have HLR : Hid (∀ x ∈ L, x.length ≤ 400) := Lib.hid (by
        have h := HAL.out
        rwa [List.take_of_length_le (by rw [HNL.out]; exact Nat.le_refl _)] at h)
      have HD0 := Lib.hid (HD.out.grown G0.out)
      have HL0 := Lib.hid (HL.out.grown G0.out)
      have c0 := P0.out.cell0
      have c1 := P0.out.cell1
      have c2 := P0.out.cell2
      have j0 : W0.drew.cell? ⟨g0, 0, none⟩ = some (.int .i64 K) := c0
      have j1 : W0.drew.cell? ⟨g0, 1, none⟩ = some (.int .i64 H) := c1
      have j2 : W0.drew.cell? ⟨g0, 2, none⟩ = some (.int .i64 S) := c2
      clear HAL
      go_wp2_with fail
      go_region_held3 (fun W => W.cell? ⟨g0, 0, none⟩ = some (.int .i64 K) ∧ W.cell? ⟨g0, 1, none⟩ = some (.int .i64 H) ∧ W.cell? ⟨g0, 2, none⟩ = some (.int .i64 S)) (first | with_reducible exact ⟨k20, k21, k22⟩ | with_reducible exact ⟨k10, k11, k12⟩ | with_reducible exact ⟨j0, j1, j2⟩ | with_reducible exact ⟨c0, c1, c2⟩ | exact ⟨cell_grown (Gr.alloc (Gr.refl _) _ _) k20, cell_grown (Gr.alloc (Gr.refl _) _ _) k21, cell_grown (Gr.alloc (Gr.refl _) _ _) k22⟩ | go_keep)
        (first
          | (go_at_call 9; refine (small_any a b c _).mono ?_; rintro e w2 ⟨rfl, hg2⟩; have V2 : Hid (Gr W0 w2) := Lib.hid (Gr.trans V1.out hg2); have k20 := cell_grown V2.out c0; have k21 := cell_grown V2.out c1; have k22 := cell_grown V2.out c2; clear hg2)
          | (go_at_call 8; refine (params_any a b c _).mono ?_; rintro e w1 ⟨rfl, hg1⟩; have V1 : Hid (Gr W0 w1) := Lib.hid (Gr.trans (Gr.drew (Gr.refl _)) hg1); have k10 := cell_grown V1.out c0; have k11 := cell_grown V1.out c1; have k12 := cell_grown V1.out c2; clear hg1))
      have HF : Hid (Threes (w2.alloc (.cells #[.int .i64 K, .int .i64 H, .int .i64 S, .int .i64 (1 + a % 16), .int .i64 (1 + b % 4), .int .i64 (1 + c % 24), .int .i64 (1 + a % 6), .int .i64 (1 + b % 3), .int .i64 (1 + c % 9)] 23)) w2.heap.size) := Lib.hid (by
        intro t ht
        have hb := heap_alloc_new w2 (.cells #[.int .i64 K, .int .i64 H, .int .i64 S, .int .i64 (1 + a % 16), .int .i64 (1 + b % 4), .int .i64 (1 + c % 24), .int .i64 (1 + a % 6), .int .i64 (1 + b % 3), .int .i64 (1 + c % 9)] 23)
        rw [cell_of_row _ _ (t * 3) _ _ _ hb, cell_of_row _ _ (t * 3 + 1) _ _ _ hb, cell_of_row _ _ (t * 3 + 2) _ _ _ hb]
        have : t = 0 ∨ t = 1 ∨ t = 2 := by omega
        rcases this with rfl | rfl | rfl
        · exact ⟨_, _, _, rfl, rfl, rfl⟩
        · exact ⟨_, _, _, rfl, rfl, rfl⟩
        · exact ⟨_, _, _, rfl, rfl, rfl⟩)
      have GA : Hid (Gr W0 (w2.alloc (.cells #[.int .i64 K, .int .i64 H, .int .i64 S, .int .i64 (1 + a % 16), .int .i64 (1 + b % 4), .int .i64 (1 + c % 24), .int .i64 (1 + a % 6), .int .i64 (1 + b % 3), .int .i64 (1 + c % 9)] 23))) := Lib.hid (Gr.alloc V2.out _ _)
      have HDA := Lib.hid (HD0.out.grown GA.out)
      have HLA := Lib.hid (HL0.out.grown GA.out)
      have GWA := Lib.hid (Gr.trans G0.out GA.out)
      clear c0 c1 c2 j0 j1 j2 k10 k11 k12 k20 k21 k22 V1 V2 P0 HD0 HL0 GA
      generalize (w2.alloc (.cells #[.int .i64 K, .int .i64 H, .int .i64 S, .int .i64 (1 + a % 16), .int .i64 (1 + b % 4), .int .i64 (1 + c % 24), .int .i64 (1 + a % 6), .int .i64 (1 + b % 3), .int .i64 (1 + c % 9)] 23)) = W2 at *
      generalize w2.heap.size = gl at *
      go_wp2_with fail
      go_loopw [62] (fun tv X => ∃ t : Nat, t ≤ 3 ∧ tv = .int .i64 t ∧ Threes X gl ∧ Bs X (.slice od nd cd) data ∧ Bss X (.slice ol i cl) L ∧ Gr w X) (fun tv _ => 3 - (intOf tv).toNat)
      case atStart => exact ⟨0, by omega, rfl, HF.out, HDA.out, HLA.out, GWA.out⟩
      case round =>
        obtain ⟨wo, hwo⟩ : ∃ x, x = wr := ⟨_, rfl⟩
        subst hwo
        obtain ⟨t, ht, rfl, hf, hdd, hll, hg⟩ := hrel
        clear HF HDA HLA GWA
        by_cases htl : t < 3
        · obtain ⟨Kq, Hq, Sq, q0, q1, q2⟩ := hf t htl
          have HALL : Hid (∀ X, Gr wo X → Threes X gl ∧ Bs X (.slice od nd cd) data ∧ Bss X (.slice ol i cl) L ∧ Gr w X) := Lib.hid fun X hX => ⟨hf.grown hX, hdd.grown hX, hll.grown hX, hg.trans hX⟩
          have PQ : Hid (Par (wo.alloc (.cells #[.int .i64 Kq, .int .i64 Hq, .int .i64 Sq] 23)) wo.heap.size Kq Hq Sq) := Lib.hid (heap_alloc_new _ _)
          have GQ : Hid (Gr wo (wo.alloc (.cells #[.int .i64 Kq, .int .i64 Hq, .int .i64 Sq] 23))) := Lib.hid (Gr.alloc (Gr.refl _) _ _)
          clear hf hdd hll hg
          go_upto_region 12 with fail
          generalize (wo.alloc (.cells #[.int .i64 Kq, .int .i64 Hq, .int .i64 Sq] 23)) = W3 at *
          generalize wo.heap.size = gq at *
          clear q0 q1 q2
          have HD3 := Lib.hid (HALL.out _ GQ.out).2.1
          have c0 := PQ.out.cell0
          have c1 := PQ.out.cell1
          have c2 := PQ.out.cell2
          go_wp2_with fail
          have hsp := spare_any (.slice od nd cd) data 71 _ HD3.out (by rw [HND.out]; omega)
          rw [HND.out] at hsp
          refine hsp.mono ?_
          rintro e w3 ⟨gs, rfl, hgs, hb3, hg3⟩
          have BLK3 := Lib.hid hb3
          have P3 := Lib.hid (PQ.out.grown hg3)
          have G3 := Lib.hid (Gr.trans GQ.out hg3)
          have HD3' := Lib.hid (HD3.out.grown hg3)
          clear hsp hgs hb3 hg3 c0 c1 c2 PQ HD3
          have c0 := P3.out.cell0
          have c1 := P3.out.cell1
          have c2 := P3.out.cell2
          go_wp2_with fail
          refine (refBlocks_any Kq Hq Sq _ data _ (by rw [HND.out]; omega) HD3'.out).mono ?_
          rintro e w4 ⟨u4, rfl, hb4, hg4⟩
          obtain ⟨B, hB⟩ : ∃ B, Ck.blocksP Kq Hq Sq data = B := ⟨_, rfl⟩
          rw [hB] at hb4
          have HBE := Lib.hid hB
          have HBB : Hid (B.length ≤ 1000 ∧ ∀ x ∈ B, x.length ≤ 1000) := Lib.hid (by
            rw [← hB]
            unfold Ck.blocksP
            split
            · rename_i hm
              obtain ⟨z1, z2, _⟩ := Ck.wdt_in hm
              refine ⟨?_, fun x hx => ?_⟩
              · rw [Ck.blocks_length]
                have := Ck.cnt_le (n := data.length) z1
                rw [HND.out] at this ⊢
                omega
              · rw [Ck.blocks_wide x hx]
                omega
            · exact ⟨by simp, fun x hx => by cases hx⟩)
          obtain ⟨ob, nb, cb, rfl⟩ : ∃ o m c, u4 = .slice o m c := by
            obtain ⟨oa, c, he, _⟩ := hb4
            exact ⟨oa, _, c, he⟩
          have HB4 := Lib.hid hb4
          have P4 := Lib.hid (P3.out.grown hg4)
          have G4 := Lib.hid (Gr.trans G3.out hg4)
          have BLK := Lib.hid (BLK3.out.grown hg4)
          have HD4 := Lib.hid (HD3'.out.grown hg4)
          have HIN : Hid (Bs w4 (.slice (some ⟨gs, 0, none⟩) nd (nd + 2)) data) := Lib.hid (by
            have := Blk.bs_pre BLK.out HD4.out.1 (by simp; have := HND.out; omega)
            rw [HND.out] at this
            simpa [HND.out] using this)
          obtain ⟨ct, hct⟩ : ∃ ct, Ck.countP Kq Hq Sq n = ct := ⟨_, rfl⟩
          have HCE := Lib.hid hct
          have hcc : (ct != ct) = false := by simp
          clear hB hb4 hg4 hct c0 c1 c2 P3 G3 BLK3 HD3'
          have HSA : Hid (∀ W, Gr w4 W → W.cell? ⟨gq, 0, none⟩ = some (.int .i64 Kq) ∧ W.cell? ⟨gq, 1, none⟩ = some (.int .i64 Hq) ∧ W.cell? ⟨gq, 2, none⟩ = some (.int .i64 Sq)) := Lib.hid fun W hW => ⟨(P4.out.grown hW).cell0, (P4.out.grown hW).cell1, (P4.out.grown hW).cell2⟩
          have sc := HSA.out w4 (Gr.refl _)
          have s0 := HSA.out w4.drew (Gr.drew (Gr.refl _))
          go_upto_region 14 with fail
          go_region_held3 (fun W => W.cell? ⟨gq, 0, none⟩ = some (.int .i64 Kq) ∧ W.cell? ⟨gq, 1, none⟩ = some (.int .i64 Hq) ∧ W.cell? ⟨gq, 2, none⟩ = some (.int .i64 Sq)) (first | with_reducible exact s5 | with_reducible exact s4 | with_reducible exact s3 | with_reducible exact s2 | with_reducible exact s1 | with_reducible exact s0 | with_reducible exact sc)
            (first
              | (go_at_call 16; have h := M4; clear h; have hkp := kept_true gs data (.slice od nd cd) 71 _ (BLK.out.grown V4.out) HD4.out.1 (HD4.out.grown V4.out) (by rw [HND.out]; omega); rw [HND.out] at hkp; refine hkp.mono ?_; rintro e v5 ⟨rfl, hg5⟩; have V5 : Hid (Gr w4 v5) := Lib.hid (Gr.trans V4.out hg5); have s5 := HSA.out v5 V5.out; clear hg5 hkp; have M5 := True.intro)
              | (go_at_call 14; have h := M3; clear h; (fail_if_success have h := M4); refine (rows_any _ _ B B _ B3.out (HB4.out.grown V3.out)).mono ?_; rw [beq_self_eq_true]; rintro e v4 ⟨rfl, hg4⟩; have V4 : Hid (Gr w4 v4) := Lib.hid (Gr.trans V3.out hg4); have s4 := HSA.out v4 V4.out; clear hg4; have M4 := True.intro)
              | (go_at_call 15; have h := M2; clear h; (fail_if_success have h := M3); refine (HO.out.split Kq Hq Sq _ data _ (by rw [HND.out]; omega) (HIN.out.grown V2.out)).mono ?_; rintro e v3 ⟨u3, rfl, hr3, hg3⟩; rw [HBE.out] at hr3; obtain ⟨o3, c3, rfl⟩ := hr3.form5; have B3 := Lib.hid hr3.bss; have V3 : Hid (Gr w4 v3) := Lib.hid (Gr.trans V2.out hg3); have s3 := HSA.out v3 V3.out; clear hr3 hg3; have M3 := True.intro)
              | (go_at_call 13; have h := M1; clear h; (fail_if_success have h := M2); refine (refCount_any Kq Hq Sq n _ HNI.out).mono ?_; rw [HCE.out]; rintro e v2 ⟨rfl, hg2⟩; have V2 : Hid (Gr w4 v2) := Lib.hid (Gr.trans V1.out hg2); have s2 := HSA.out v2 V2.out; clear hg2; have M2 := True.intro)
              | (go_at_call 12; (fail_if_success have h := M1); refine (HO.out.count Kq Hq Sq n _ HNI.out).mono ?_; rw [HCE.out]; rintro e v1 ⟨rfl, hg1⟩; have V1 : Hid (Gr w4 v1) := Lib.hid (Gr.trans (Gr.drew (Gr.refl _)) hg1); have s1 := HSA.out v1 V1.out; clear hg1; have M1 := True.intro))
          all_goals (try go_simp)
          obtain ⟨i1, hi1, hi1b⟩ : ∃ i1 : Nat, k % ((nd : Int) + 1) = i1 ∧ i1 ≤ nd := by
            have h1 := Int.emod_nonneg k (by omega : ((nd : Int) + 1) ≠ 0)
            have h2 := Int.emod_lt_of_pos k (by omega : (0 : Int) < (nd : Int) + 1)
            exact ⟨(k % ((nd : Int) + 1)).toNat, by omega, by omega⟩
          obtain ⟨i2, hi2, hi2b⟩ : ∃ i2 : Nat, k % 20 = i2 ∧ i2 < 20 := ⟨(k % 20).toNat, by omega, by omega⟩
          have HI1 := Lib.hid hi1
          have HI2 := Lib.hid hi2
          obtain ⟨w5, hw5⟩ : ∃ x, x = v5 := ⟨_, rfl⟩
          subst hw5
          have P5 := Lib.hid (P4.out.grown V5.out)
          have HB5 := Lib.hid (HB4.out.grown V5.out)
          have G5 := Lib.hid (Gr.trans G4.out V5.out)
          clear hi1 hi2 sc s0 s1 s2 s3 s4 s5 HSA V1 V2 V3 V4 V5 B3 M1 M2 M3 M4 M5 P4 HB4 G4 BLK HIN HD4
          go_wp2_with fail
          refine (within_any k ((nd : Int) + 1) (by omega) (by omega) _).mono ?_
          rw [HI1.out]
          rintro e w' ⟨rfl, rfl⟩
          go_wp2_with fail
          refine (within_any k 20 (by omega) (by omega) _).mono ?_
          rw [HI2.out]
          rintro e w' ⟨rfl, rfl⟩
          have HIZ : Hid ((w5.alloc (.cells #[.int .i64 n, .int .i64 (nd : Int), .int .i64 (i1 : Int), .int .i64 ((nd : Int) + (i2 : Int))] 3)).heap[w5.heap.size]? = some (.cells #[.int .i64 n, .int .i64 (nd : Int), .int .i64 (i1 : Int), .int .i64 ((nd : Int) + (i2 : Int))] 3 (0, 0))) := Lib.hid (heap_alloc_new _ _)
          have ga := Gr.alloc (Gr.refl w5) (#[.int .i64 n, .int .i64 (nd : Int), .int .i64 (i1 : Int), .int .i64 ((nd : Int) + (i2 : Int))]) 3
          have P6 := Lib.hid (P5.out.grown ga)
          have HB6 := Lib.hid (HB5.out.grown ga)
          have G6 := Lib.hid (Gr.trans G5.out ga)
          clear ga P5 HB5 G5
          go_wp2_with fail
          generalize (w5.alloc (.cells #[.int .i64 n, .int .i64 (nd : Int), .int .i64 (i1 : Int), .int .i64 ((nd : Int) + (i2 : Int))] 3)) = W6 at *
          generalize w5.heap.size = gi at *
          go_loopw [107] (fun jv X => ∃ j : Nat, j ≤ 4 ∧ jv = .int .i64 j ∧ X.heap[gi]? = some (.cells #[.int .i64 n, .int .i64 (nd : Int), .int .i64 (i1 : Int), .int .i64 ((nd : Int) + (i2 : Int))] 3 (0, 0)) ∧ Par X gq Kq Hq Sq ∧ Bss X (.slice ob nb cb) B ∧ Gr wo X) (fun jv _ => 4 - (intOf jv).toNat)
          case atStart => exact ⟨0, by omega, rfl, HIZ.out, P6.out, HB6.out, G6.out⟩
          case round =>
            obtain ⟨wj, hwj⟩ : ∃ x, x = wr := ⟨_, rfl⟩
            subst hwj
            obtain ⟨j, hj, rfl, hiz, hp, hb, hg⟩ := hrel
            clear HIZ P6 HB6 G6
            have HP := Lib.hid hp
            have HBJ := Lib.hid hb
            have HG := Lib.hid hg
            have HIZ := Lib.hid hiz
            clear hp hb hg hiz
            by_cases hj4 : j < 4
            · obtain ⟨mj, hmj, hmi⟩ : ∃ mj : Int, wj.cell? ⟨gi, j, none⟩ = some (.int .i64 mj) ∧ I64 mj := by
                rcases (by omega : j = 0 ∨ j = 1 ∨ j = 2 ∨ j = 3) with rfl | rfl | rfl | rfl
                · exact ⟨n, by rw [cell_of_row _ _ 0 _ _ _ HIZ.out]; rfl, HNI.out⟩
                · exact ⟨nd, by rw [cell_of_row _ _ 1 _ _ _ HIZ.out]; rfl, by omega, by omega⟩
                · exact ⟨i1, by rw [cell_of_row _ _ 2 _ _ _ HIZ.out]; rfl, by omega, by omega⟩
                · exact ⟨(nd : Int) + i2, by rw [cell_of_row _ _ 3 _ _ _ HIZ.out]; rfl, by omega, by omega⟩
              have HMI := Lib.hid hmi
              have HLJ := Lib.hid (HALL.out _ HG.out).2.2.1
              clear hmi
              go_upto_if 114 with fail
              go_cut [24] (fun s24 wx => wj = wx ∧ ∃ (ox : Option Addr) (nx cx : Nat) (LX : List (List Int)), s24 = .slice ox nx cx ∧ Bss wj (.slice ox nx cx) LX ∧ LX.length ≤ 1000 ∧ ∀ x ∈ LX, x.length ≤ 1000)
              case first =>
                by_cases h0 : j = 0
                · subst h0
                  go_wp2_with fail
                  go_meet
                  exact ⟨rfl, _, _, _, L, rfl, HLJ.out, by rw [HNL.out]; omega, fun x hx => by have := HLR.out x hx; omega⟩
                · have hj0 : ((j : Int) == 0) = false := beq_eq_false_iff_ne.2 (by omega)
                  go_wp2_with fail
                  go_meet
                  exact ⟨rfl, _, _, _, B, rfl, HBJ.out, HBB.out.1, HBB.out.2⟩
              case rest =>
                obtain ⟨rfl, ox, nx, cx, LX, rfl, hbx, hx1, hx2⟩ := hcut
                have HBX := Lib.hid hbx
                have HX1 := Lib.hid hx1
                have HX2 := Lib.hid hx2
                have c0 := HP.out.cell0
                have c1 := HP.out.cell1
                have c2 := HP.out.cell2
                clear hbx hx1 hx2
                go_wp2_with fail
                refine (HO.out.join Kq Hq Sq _ LX mj _ HMI.out HX1.out HX2.out HBX.out).mono ?_
                obtain ⟨bj, hbj⟩ : ∃ b, decide (Ck.JoinOk Kq Hq Sq LX mj) = b := ⟨_, rfl⟩
                obtain ⟨D, hD⟩ : ∃ D, Ck.joinP Kq Hq Sq LX mj = D := ⟨_, rfl⟩
                have HBE2 := Lib.hid hbj
                have HDE2 := Lib.hid hD
                rw [hbj, hD]
                rintro e w7 ⟨u7, rfl, hn7⟩
                obtain ⟨o7, m7, c7, rfl⟩ := New.form3 hn7
                have X7 := Lib.hid (New.bs hn7)
                have P7 := Lib.hid (HP.out.grown hn7.1)
                have G7 := Lib.hid hn7.1
                clear hn7 hbj hD c0 c1 c2
                have c0 := P7.out.cell0
                have c1 := P7.out.cell1
                have c2 := P7.out.cell2
                have hbb2 : (bj != bj) = false := by simp
                go_wp2_with fail
                refine (refWhole_any Kq Hq Sq _ LX mj _ HMI.out HX1.out HX2.out (HBX.out.grown G7.out)).mono ?_
                rw [HBE2.out, HDE2.out]
                rintro e w8 ⟨u8, rfl, hn8⟩
                obtain ⟨o8, m8, c8, rfl⟩ := New.form3 hn8
                have X8 := Lib.hid (New.bs hn8)
                have X78 := Lib.hid (X7.out.grown hn8.1)
                have G8 := Lib.hid (Gr.trans G7.out hn8.1)
                clear hn8 c0 c1 c2 P7 X7 G7
                go_wp2_with fail
                refine (same_any _ _ D D _ X78.out X8.out).mono ?_
                rw [beq_self_eq_true]
                rintro e w9 ⟨rfl, hg9⟩
                have G9 := Lib.hid (Gr.trans G8.out hg9)
                have HIZ9 := Lib.hid (keptRow G9.out HIZ.out)
                have HP9 := Lib.hid (HP.out.grown G9.out)
                have HB9 := Lib.hid (HBJ.out.grown G9.out)
                have HG9 := Lib.hid (Gr.trans HG.out G9.out)
                clear hg9
                go_wp2_with fail
                exact ⟨⟨j + 1, by omega, by go_num, HIZ9.out, HP9.out, HB9.out, HG9.out⟩, by simp [intOf]; omega⟩
            · obtain rfl : j = 4 := by omega
              have hall := HALL.out _ HG.out
              go_wp2_with fail
              exact ⟨⟨t + 1, by omega, by go_num, hall⟩, by simp [intOf]; omega⟩
        · obtain rfl : t = 3 := by omega
          have HG := Lib.hid hg
          clear hf hdd hll hg
          go_wp2_with fail
          refine (chunkWakes_any HO.out _).mono ?_
          rintro e w9 ⟨rfl, hg9⟩
          have HG9 := Lib.hid (Gr.trans HG.out hg9)
          clear hg9 HG
          go_wp2_with fail
          go_ret
          exact ⟨rfl, HG9.out⟩
end Go.Proofs.Ytmbikmlknbinpaa
