/-
  Texts laid behind one another: Nf LtTellsW Pc Ro.
-/
import Derived.Test.YtbabecjphmmngaaGreatMgi
import Derived.Test.YtbabecjphmmngaaGreatSv
import Derived.Test.YtbabecjphmmngaaGreatMgg
import Derived.Test.YtbabecjphmmngaaGreatMgf
import Derived.Test.YtbabecjphmmngaaGreatMgd
namespace Go.Proofs.YtbabecjphmmngaaGreat
open Go.RowKit

theorem firstI_zero : firstI 0 = [] := rfl
/-- What solves the first symbols are the middle symbols. -/
theorem sol_mid {K H S seed : Nat} {D : List Int} {n : Int} {M : List (List Int)} (hr : RightP K H S seed) (hD : D.length = K * S) (hb : ∀ z ∈ D, Byt z) (hs : SolSays (matP K H S seed (firstI K)) (rhsL K H S D) n M) : n = 0 ∧ IsMid K H S seed D M := by
  obtain ⟨M0, h0⟩ := mid_exists hr hD hb
  have hm := hr.1
  have hk : 1 ≤ K := by unfold MayP at hm; omega
  have hwA := (matP_wide hm seed (firstI K))
  have hA : 0 < (matP K H S seed (firstI K)).length := by rw [firstM_length hm]; omega
  have hwd : wd (matP K H S seed (firstI K)) = K + H := hwA.wd hA
  have hwB : wd (rhsL K H S D) = S := (rhsL_wide hD hb).wd (by rw [rhsL_length]; omega)
  have h1 : SolSays (matP K H S seed (firstI K)) (rhsL K H S D) 0 M0 := .inr (.inr (.inl ⟨List.length_pos_iff.1 hA, by rw [right_rk hr, hwd], rfl, by rw [h0.len, hwd], by rw [hwB]; exact h0.mul, by rw [hwB]; exact h0.wide⟩))
  obtain ⟨rfl, rfl⟩ := SolSays.unique (by rw [hwd]; exact hwA) hs h1
  exact ⟨rfl, h0⟩
/-- The document's own Block lies in block g. -/
def RBlk (w : World) (g : Nat) (K H S seed : Nat) (M : List (List Int)) : Prop :=
  ∃ o c, w.heap[g]? = some (.cells #[.int .i64 (K : Int), .int .i64 (H : Int), .int .i64 (S : Int), .int .u32 (seed : Int), .slice o M.length c] 47 (0, 0)) ∧ Bss w (.slice o M.length c) M
theorem RBlk.grown {w w' : World} {g K H S seed : Nat} {M : List (List Int)} (h : RBlk w g K H S seed M) (hg : Gr w w') : RBlk w' g K H S seed M := by
  obtain ⟨o, c, h1, h2⟩ := h
  exact ⟨o, c, keptRow hg h1, h2.grown hg⟩
set_option maxRecDepth 100000 in
set_option maxHeartbeats 800000 in
theorem refSymbol_any (g K H S seed : Nat) (M : List (List Int)) (id : Int) (w : World) (hm : MayP K H S) (hs : seed < 4294967296) (hb : RBlk w g K H S seed M) (hM : Wide S M) (hl : M.length = K + H) :
    Calls Tryz.prog 17 #[.pointer (some ⟨g, 0, none⟩), .int .i64 id] w fun e w' => ∃ v, e = .returned v ∧ New w w' v (symP K H S seed M id) := by
  unfold symP
  have HB := Lib.hid hb
  obtain ⟨o, c, hrow, _⟩ := hb
  have HROW := Lib.hid hrow
  have c0 : w.cell? ⟨g, 0, none⟩ = some (.int .i64 (K : Int)) := by rw [cell_of_row _ _ 0 _ _ _ hrow]; rfl
  have c1 : w.cell? ⟨g, 1, none⟩ = some (.int .i64 (H : Int)) := by rw [cell_of_row _ _ 1 _ _ _ hrow]; rfl
  have c2 : w.cell? ⟨g, 2, none⟩ = some (.int .i64 (S : Int)) := by rw [cell_of_row _ _ 2 _ _ _ hrow]; rfl
  have c3 : w.cell? ⟨g, 3, none⟩ = some (.int .u32 (seed : Int)) := by rw [cell_of_row _ _ 3 _ _ _ hrow]; rfl
  have c4 : w.cell? ⟨g, 4, none⟩ = some (.slice o M.length c) := by rw [cell_of_row _ _ 4 _ _ _ hrow]; rfl
  have HBM : Hid (Bss w (.slice o M.length c) M) := Lib.hid (by
    obtain ⟨o', c', h1, h2⟩ := HB.out
    rw [h1] at hrow
    simp at hrow
    obtain ⟨rfl, rfl⟩ := hrow
    exact h2)
  have HM := Lib.hid hM
  have HMP := Lib.hid hm
  have hN : 1 ≤ K + H ∧ K + H ≤ 64 ∧ S ≤ 24 := by unfold MayP at hm; omega
  have HML := Lib.hid hl
  clear hrow hM hl HB HROW hm
  generalize hml : M.length = m at *
  have HMM := Lib.hid hml
  by_cases hi : MayI id
  · rw [if_pos hi]
    have hdi := decide_eq_true hi
    have HI := Lib.hid hi
    have hat : atP K H S seed id = atN (K + H) seed id.toNat := by
      unfold atP
      rw [if_pos ⟨HMP.out, hi⟩, Int.toNat_natCast, Int.toNat_natCast]
    have HAT := Lib.hid hat
    obtain ⟨A, hA⟩ : ∃ A, atN (K + H) seed id.toNat = A := ⟨_, rfl⟩
    have HAR : Hid ((∀ x ∈ A, 0 ≤ x ∧ x < (M.length : Int)) ∧ A.length ≤ 64) := Lib.hid (by
      rw [← hA, hml, HML.out]
      exact ⟨atN_rng _ _ _, by have := (atN_len hN.1 hN.2.1 seed id.toNat).2; omega⟩)
    rw [hA] at HAT ⊢
    clear hi hat hA hml
    go_enter Tryz.func17, Tryz.ntmps17
    go_wp2_with fail
    refine (refMayID_any id _).mono ?_
    rw [hdi]
    rintro e w' ⟨rfl, rfl⟩
    clear hdi
    go_wp2_with fail
    go_region_held3 (fun W => W.cell? ⟨g, 0, none⟩ = some (.int .i64 (K : Int)) ∧ W.cell? ⟨g, 1, none⟩ = some (.int .i64 (H : Int)) ∧ W.cell? ⟨g, 2, none⟩ = some (.int .i64 (S : Int)) ∧ W.cell? ⟨g, 3, none⟩ = some (.int .u32 (seed : Int)) ∧ W.cell? ⟨g, 4, none⟩ = some (.slice o m c)) (first | exact ⟨k20, k21, k22, k23, k24⟩ | exact ⟨k10, k11, k12, k13, k14⟩ | go_keep)
      (first
        | (go_at_call 34; refine (refAdd_any K H S _ _ M A _ (HBM.out.grown V1.out) HM.out HAR.out.1 HZ1.out (by omega) (by have := HAR.out.2; omega) (by rw [HMM.out, HML.out]; omega)).mono ?_; rintro e v2 ⟨y2, rfl, hn2⟩; have k20 := cell_grown hn2.1 (by exact k10); have k21 := cell_grown hn2.1 (by exact k11); have k22 := cell_grown hn2.1 (by exact k12); have k23 := cell_grown hn2.1 (by exact k13); have k24 := cell_grown hn2.1 (by exact k14); have N2 := Lib.hid (New.under V1.out hn2); clear hn2)
        | (go_at_call 35; refine (refAt_any K H S seed id _ hs).mono ?_; rw [HAT.out]; rintro e v1 ⟨y1, rfl, hz1, hg1⟩; obtain ⟨o1, m1, d1, rfl⟩ := hz1.form3; have HZ1 := Lib.hid hz1; have k10 := cell_grown hg1 (by exact c0); have k11 := cell_grown hg1 (by exact c1); have k12 := cell_grown hg1 (by exact c2); have k13 := cell_grown hg1 (by exact c3); have k14 := cell_grown hg1 (by exact c4); have V1 : Hid (Gr w v1) := Lib.hid (by exact hg1); clear hz1 hg1))
    go_wp2_with fail
    go_ret
    exact ⟨_, rfl, N2.out⟩
  · rw [if_neg hi]
    have hdi := decide_eq_false hi
    clear hi
    go_enter Tryz.func17, Tryz.ntmps17
    go_wp2_with fail
    refine (refMayID_any id _).mono ?_
    rw [hdi]
    rintro e w' ⟨rfl, rfl⟩
    clear hdi
    go_wp2_with fail
    go_ret
    exact ⟨_, rfl, Gr.refl _, by simp, .inl ⟨rfl, none, 0, rfl, fun _ => rfl, by omega⟩⟩
set_option maxRecDepth 100000 in
set_option maxHeartbeats 3200000 in
theorem refNew_any (K H S : Nat) (seed : Nat) (v : Value) (D : List Int) (w : World) (hm : MayP K H S) (hs : seed < 4294967296) (hz : Bs w v D) (hD : D.length = K * S) (hr : RightP K H S seed) :
    Calls Tryz.prog 11 #[par K H S, .int .u32 (seed : Int), v] w fun e w' => ∃ g M, e = .returned (.tuple #[.pointer (some ⟨g, 0, none⟩), .int .i64 0]) ∧ IsMid K H S seed D M ∧ RBlk w' g K H S seed M ∧ Gr w w' := by
  have hd := decide_eq_true hm
  have hdr := decide_eq_true hr
  have HR := Lib.hid hr
  have hb : 1 ≤ K ∧ K ≤ 16 ∧ 1 ≤ H ∧ H ≤ 4 ∧ 1 ≤ S ∧ S ≤ 24 := by unfold MayP at hm; omega
  obtain ⟨hb1, hb2, hb3, hb4, hb5, hb6⟩ := hb
  obtain ⟨Q, hQ⟩ : ∃ Q, K * S = Q := ⟨_, rfl⟩
  have hQ1 : 1 ≤ Q := by rw [← hQ]; exact Nat.mul_pos hb1 hb5
  have hQ2 : Q ≤ 384 := by rw [← hQ]; exact Nat.le_trans (Nat.mul_le_mul hb2 hb6) (by omega)
  have hQi : (K : Int) * (S : Int) = (Q : Int) := by rw [← hQ]; simp
  have HQ := Lib.hid hQ
  have HD := Lib.hid hD
  rw [hQ] at hD
  have HM := Lib.hid hm
  have HBD := Lib.hid hz
  obtain ⟨od, cd, rfl⟩ := hz.form
  rw [hD] at HBD ⊢
  obtain ⟨ad, rfl⟩ := Bs.addr HBD.out (by omega)
  have hmk := make22 S S (by omega) (by omega)
  have P0 : Hid (Par (w.alloc (.cells #[.int .i64 (K : Int), .int .i64 (H : Int), .int .i64 (S : Int)] 23)) w.heap.size K H S) := Lib.hid (heap_alloc_new _ _)
  have HG0 : Hid (Gr w (w.alloc (.cells #[.int .i64 (K : Int), .int .i64 (H : Int), .int .i64 (S : Int)] 23))) := Lib.hid (Gr.alloc (Gr.refl _) _ _)
  clear hm hr hz hQ hD
  go_enter Tryz.func11, Tryz.ntmps11
  go_wp2_with fail
  generalize w.alloc (.cells #[.int .i64 (K : Int), .int .i64 (H : Int), .int .i64 (S : Int)] 23) = W0 at *
  generalize hgp : w.heap.size = gp at *
  refine (refMay_any K H S _).mono ?_
  rw [hd]
  rintro e w1 ⟨rfl, hg1⟩
  have P1 := Lib.hid (P0.out.grown hg1)
  have HG1 := Lib.hid (Gr.trans HG0.out hg1)
  clear hg1 P0 HG0 hd
  have c0 := P1.out.cell0
  have c1 := P1.out.cell1
  have c2 := P1.out.cell2
  go_wp2_with fail
  refine (refRight_any K H S seed _ hs).mono ?_
  rw [hdr]
  rintro e w2 ⟨rfl, hg2⟩
  have P2 := Lib.hid (P1.out.grown hg2)
  have HG2 := Lib.hid (Gr.trans HG1.out hg2)
  clear hg2 P1 HG1 hdr c0 c1 c2
  have c0 := P2.out.cell0
  have c1 := P2.out.cell1
  have c2 := P2.out.cell2
  go_wp2_with fail
  refine (refAhead_in K H S _ HM.out).mono ?_
  rintro e w3 ⟨v3, rfl, hr3, hg3⟩
  have P3 := Lib.hid (P2.out.grown hg3)
  have HG3 := Lib.hid (Gr.trans HG2.out hg3)
  have HBS : Hid (w.heap.size ≤ w2.heap.size) := Lib.hid HG2.out.size
  have HB3 : Hid (w2.heap.size ≤ w3.heap.size) := Lib.hid hg3.size
  generalize hbs : w2.heap.size = bs at *
  obtain ⟨o3, c3, hf3⟩ := hr3.form3
  rw [ahead_length] at hf3
  subst hf3
  have R3 := Lib.hid hr3
  clear hr3 hg3 P2 HG2 c0 c1 c2
  go_wp2_with fail
  go_loopw [9, 34] (fun bv iv W => ∃ i : Nat, i ≤ H ∧ iv = .int .i64 i ∧ Rws bs W (.slice o3 H c3) (ahead K H) ∧ Rws bs W bv (List.replicate i (List.replicate S 0)) ∧ Apart2 (.slice o3 H c3) bv ∧ Par W gp K H S ∧ Gr w W ∧ bs ≤ W.heap.size) (fun _ iv _ => H - (intOf iv).toNat)
  case atStart => exact ⟨0, by omega, rfl, R3.out, Rws.nil _ _, (fun g _ h => by cases h), P3.out, HG3.out, HB3.out⟩
  case round =>
    clear R3 P3 HG3 HB3
    obtain ⟨wo, hwo⟩ : ∃ x, x = wr := ⟨_, rfl⟩
    subst hwo
    obtain ⟨i, hi, rfl, hra, hrb, hap, hp, hg, hbw⟩ := hrel
    obtain ⟨ob, mb, cb, rfl⟩ := hrb.form4
    have c0 := hp.cell0
    have c1 := hp.cell1
    have c2 := hp.cell2
    have HRA := Lib.hid hra
    have HRB := Lib.hid hrb
    have HAP := Lib.hid hap
    have HP := Lib.hid hp
    have HG := Lib.hid hg
    have HBW := Lib.hid hbw
    clear hra hrb hap hp hg hbw
    by_cases hlt : i < H
    · have g1 : Gr wo (wo.alloc (.cells (rowB (List.replicate S 0)) 5)) := Gr.alloc (Gr.refl _) _ _
      have NZ : Hid (New wo (wo.alloc (.cells (rowB (List.replicate S 0)) 5)) (.slice (some ⟨wo.heap.size, 0, none⟩) S S) (List.replicate S 0)) := Lib.hid (new_block g1 (Nat.le_refl _) (heap_alloc_new _ _) (by simp) (replicate_byt S) (by omega))
      have G1 := Lib.hid g1
      have CE : Hid (((wo.alloc (.cells (rowB (List.replicate S 0)) 5)).alloc (.cells #[.slice (some ⟨wo.heap.size, 0, none⟩) S S] 25)).cell? ⟨wo.heap.size + 1, 0, none⟩ = some (.slice (some ⟨wo.heap.size, 0, none⟩) S S)) := Lib.hid (by rw [cell_of_row _ _ 0 _ _ _ (heap_alloc2_new _ _ _)]; rfl)
      clear g1
      go_wp2_with (at_builtin; refine wpList_append_rowA rfl _ _ rfl bs (.slice ob mb cb) (List.replicate i (List.replicate S 0)) rfl (HRB.out.grown (Gr.alloc G1.out _ _)) (wo.heap.size + 1) (.slice (some ⟨wo.heap.size, 0, none⟩) S S) (List.replicate S 0) rfl CE.out (Bs.grown (New.bs NZ.out) (Gr.alloc (Gr.refl _) _ _)) (Rb.gr (New.bs NZ.out) (New.rb NZ.out bs) (Gr.alloc (Gr.refl _) _ _)).2 (by simp; omega) (by have := HBW.out; simp; omega) ?_; intro v5 w5 hr5 hg5 hk5 ha5; have R5 := Lib.hid hr5; have G5 := Lib.hid hg5; have K5 := Lib.hid hk5; have A5 := Lib.hid ha5; clear hr5 hg5 hk5 ha5)
      have hgA : Gr wo ((wo.alloc (.cells (rowB (List.replicate S 0)) 5)).alloc (.cells #[.slice (some ⟨wo.heap.size, 0, none⟩) S S] 25)) := Gr.alloc G1.out _ _
      have hA5 := A5.out (.slice o3 H c3) (ahead K H) (HRA.out.grown hgA) (fun q h1 h2 => HAP.out q h2 h1)
      exact ⟨⟨i + 1, by omega, by go_num, hA5.1, by rw [List.replicate_succ']; exact R5.out, (fun q h1 h2 => hA5.2 q h2 h1), K5.out.2 _ _ _ _ (HP.out.grown hgA) (by decide), G5.out w (Gr.trans HG.out hgA) HBS.out, Nat.le_trans HBW.out (Nat.le_trans hgA.size K5.out.1)⟩, by simp [intOf]; omega⟩
    · obtain rfl : H = i := by omega
      go_wp2_with fail
      go_loopw [8, 9, 10] (fun av bv iv W => ∃ i : Nat, i ≤ K ∧ iv = .int .i64 i ∧ Rws bs W av (matP K H S seed (firstI i)) ∧ Rws bs W bv (rhsL i H S D) ∧ Apart2 av bv ∧ Par W gp K H S ∧ Gr w W ∧ bs ≤ W.heap.size) (fun _ _ iv _ => K - (intOf iv).toNat)
      case atStart => exact ⟨0, by omega, rfl, by rw [firstI_zero, matP_in HM.out]; simpa using HRA.out, by unfold rhsL; simpa using HRB.out, HAP.out, HP.out, HG.out, HBW.out⟩
      case round =>
        clear HRA HRB HAP HP HG HBW c0 c1 c2 hlt hi
        obtain ⟨wo, hwo⟩ : ∃ x, x = wr := ⟨_, rfl⟩
        subst hwo
        obtain ⟨i, hi, rfl, hra, hrb, hap, hp, hg, hbw⟩ := hrel
        obtain ⟨oa, ma, ca, rfl⟩ := hra.form4
        obtain ⟨ob, mb, cb, rfl⟩ := hrb.form4
        have c0 := hp.cell0
        have c1 := hp.cell1
        have c2 := hp.cell2
        have HRA := Lib.hid hra
        have HRB := Lib.hid hrb
        have HAP := Lib.hid hap
        have HP := Lib.hid hp
        have HG := Lib.hid hg
        have HBW := Lib.hid hbw
        clear hra hrb hap hp hg hbw
        by_cases hlt : i < K
        · obtain ⟨lo, hlo⟩ : ∃ lo, i * S = lo := ⟨_, rfl⟩
          obtain ⟨hi', hhi⟩ : ∃ hi, (i + 1) * S = hi := ⟨_, rfl⟩
          have hls : lo + S = hi' := by rw [← hlo, ← hhi, Nat.add_mul, Nat.one_mul]
          have hhQ : hi' ≤ Q := by rw [← hhi, ← HQ.out]; exact Nat.mul_le_mul_right S (by omega)
          have e1 : (i : Int) * (S : Int) = (lo : Int) := by rw [← hlo]; simp
          have e2 : ((i : Int) + 1) * (S : Int) = (hi' : Int) := by rw [← hhi]; simp
          have e3 : IntKind.i64.wrap (lo : Int) = lo := by simp [IntKind.wrap, IntKind.bits, IntKind.signed]; omega
          have e4 : IntKind.i64.wrap (hi' : Int) = hi' := by simp [IntKind.wrap, IntKind.bits, IntKind.signed]; omega
          have e5 : IntKind.i64.wrap ((i : Int) + 1) = (i : Int) + 1 := by simp [IntKind.wrap, IntKind.bits, IntKind.signed]; omega
          have hQc : Q ≤ cd := by
            obtain ⟨_, _, _, hf, hl, _⟩ := HBD.out
            simp at hf
            omega
          have b1 : (lo : Int) ≤ hi' := by omega
          have b2 : (hi' : Int) ≤ cd := by omega
          have b3 : (hi' : Int) ≤ Q := by omega
          have b4 : (lo : Int) ≤ cd := by omega
          have hpart := Bs.part HBD.out (lo := lo) (hi := hi') (by omega) hhQ
          rw [if_neg (by omega : ¬ cd = lo)] at hpart
          have hsr : srcL S D i = (D.drop lo).take (hi' - lo) := by unfold srcL; rw [hlo, show hi' - lo = S from by omega]
          rw [← hsr] at hpart
          have hod : (if cd = lo then some ad else some (ad.add lo)) = some (ad.add lo) := if_neg (by omega)
          obtain ⟨z2, hz2⟩ : ∃ z, cd - lo = z := ⟨_, rfl⟩
          have hz1 : hi' - lo = S := by omega
          rw [hz1, hz2] at hpart
          have HPT := Lib.hid hpart
          have HMR : Hid (matP K H S seed (firstI (i + 1)) = matP K H S seed (firstI i) ++ [rowP K H S seed i]) := Lib.hid (by
            rw [firstI_succ, matP_snoc, if_pos ⟨HM.out, may_of_lt (by omega) hlt⟩])
          have HRR : Hid (rhsL (i + 1) H S D = rhsL i H S D ++ [srcL S D i]) := Lib.hid (by unfold rhsL; rw [List.range_succ, List.map_append, List.append_assoc]; rfl)
          have HML : Hid ((matP K H S seed (firstI i)).length ≤ 1000) := Lib.hid (by have := matP_length K H S seed (firstI i); rw [firstI_length] at this; omega)
          have HRL : Hid ((rhsL i H S D).length ≤ 1000) := Lib.hid (by rw [rhsL_length]; omega)
          have HSL : Hid ((srcL S D i).length = S ∧ ∀ z ∈ srcL S D i, Byt z) := Lib.hid ⟨srcL_length HD.out hlt, srcL_byt HBD.out.1⟩
          have hlo' := hlo
          clear hpart hsr hlo hhi hlo'
          generalize srcL S D i = sr at *
          generalize matP K H S seed (firstI i) = MA at *
          generalize rhsL i H S D = MB at *
          go_wp2_with fail
          refine (refRow_new K H S seed i _ hs).mono ?_
          rintro e w4 ⟨v4, rfl, hn4⟩
          obtain ⟨o4, m4, c4, rfl⟩ := New.form3 hn4
          have NW := Lib.hid hn4
          have HRA4 := Lib.hid (HRA.out.grown hn4.1)
          have HRB4 := Lib.hid (HRB.out.grown hn4.1)
          have HP4 := Lib.hid (HP.out.grown hn4.1)
          have HG4 := Lib.hid (Gr.trans HG.out hn4.1)
          have HBW4 : Hid (bs ≤ w4.heap.size) := Lib.hid (Nat.le_trans HBW.out hn4.1.size)
          clear hn4 HRA HRB HP HG HBW c0 c1 c2
          have CE : Hid ((w4.alloc (.cells #[.slice o4 m4 c4] 25)).cell? ⟨w4.heap.size, 0, none⟩ = some (.slice o4 m4 c4)) := Lib.hid (by rw [cell_of_row _ _ 0 _ _ _ (heap_alloc_new _ _)]; rfl)
          have gA : Gr w4 (w4.alloc (.cells #[.slice o4 m4 c4] 25)) := Gr.alloc (Gr.refl _) _ _
          have GA := Lib.hid gA
          clear gA
          go_upto_region 15 with (at_builtin; refine wpList_append_rowA rfl _ _ rfl bs (.slice oa ma ca) MA rfl (HRA4.out.grown GA.out) w4.heap.size (.slice o4 m4 c4) (rowP K H S seed i) rfl CE.out (Bs.grown (New.bs NW.out) GA.out) (Rb.gr (New.bs NW.out) (New.rb NW.out bs) GA.out).2 (by have := HML.out; omega) (by have := HBW4.out; simp; omega) ?_; intro v5 w5 hr5 hg5 hk5 ha5; have R5 := Lib.hid hr5; have G5 := Lib.hid hg5; have K5 := Lib.hid hk5; have A5 := Lib.hid ha5; clear hr5 hg5 hk5 ha5)
          have W5 : Hid (Gr w w5) := Lib.hid (G5.out w (Gr.trans HG4.out GA.out) HBS.out)
          have RB5 := Lib.hid (A5.out (.slice ob mb cb) MB (HRB4.out.grown GA.out) HAP.out)
          have P5 : Hid (Par w5 gp K H S) := Lib.hid (K5.out.2 _ _ _ _ (HP4.out.grown GA.out) (by decide))
          have HBW5 : Hid (bs ≤ w5.heap.size) := Lib.hid (Nat.le_trans HBW4.out (Nat.le_trans GA.out.size K5.out.1))
          obtain ⟨o5, m5, c5, rfl⟩ := R5.out.form4
          clear HRA4 HRB4 HP4 HG4 GA HBW4 G5 K5 A5 HAP CE NW
          have c0 := P5.out.cell0
          have c1 := P5.out.cell1
          have c2 := P5.out.cell2
          go_wp2_with (first
            | (at_builtin; refine wpList_append_bytes rfl _ _ rfl w5.heap.size (.slice none 0 0) 0 [] rfl (World.ownsRow_nil _ _ _ _) (some (ad.add lo)) S z2 sr rfl (Bs.grown HPT.out W5.out) (by omega) (Nat.le_refl _) ?_; intro v6 w6 ho6 hg6; rw [Nat.zero_add, List.nil_append] at ho6; obtain ⟨o6, c6, rfl⟩ := ownsRow_form ho6; have O6 := Lib.hid ho6; have GR6 : Hid (Gr w5 w6) := Lib.hid (Gr.append (Gr.refl w5) hg6 (fun _ h => by cases h)); have CE : Hid ((w6.alloc (.cells #[.slice o6 S c6] 25)).cell? ⟨w6.heap.size, 0, none⟩ = some (.slice o6 S c6)) := Lib.hid (by rw [cell_of_row _ _ 0 _ _ _ (heap_alloc_new _ _)]; rfl); have N6 : Hid (New w5 w6 (.slice o6 S c6) sr) := Lib.hid (New.of_row GR6.out HSL.out.2 (by rw [HSL.out.1]; exact O6.out)); clear ho6 hg6)
            | (at_builtin; refine wpList_append_rowA rfl _ _ rfl bs (.slice ob mb cb) MB rfl (RB5.out.1.grown (Gr.alloc GR6.out _ _)) w6.heap.size (.slice o6 S c6) sr rfl CE.out (Bs.grown (New.bs N6.out) (Gr.alloc (Gr.refl _) _ _)) (Rb.gr (New.bs N6.out) (New.rb N6.out bs) (Gr.alloc (Gr.refl _) _ _)).2 (by have := HRL.out; omega) (by have := HBW5.out; have := GR6.out.size; simp; omega) ?_; intro v7 w7 hr7 hg7 hk7 ha7; have R7 := Lib.hid hr7; have G7 := Lib.hid hg7; have K7 := Lib.hid hk7; have A7 := Lib.hid ha7; clear hr7 hg7 hk7 ha7))
          have g7 : Gr w5 (w6.alloc (.cells #[.slice o6 S c6] 25)) := Gr.alloc GR6.out _ _
          have hA7 := A7.out (.slice o5 m5 c5) _ (R5.out.grown g7) (fun q h1 h2 => RB5.out.2 q h2 h1)
          exact ⟨⟨i + 1, by omega, by go_num, by rw [HMR.out]; exact hA7.1, by rw [HRR.out]; exact R7.out, (fun q h1 h2 => hA7.2 q h2 h1), K7.out.2 _ _ _ _ (P5.out.grown g7) (by decide), G7.out w (Gr.trans W5.out g7) HBS.out, Nat.le_trans HBW5.out (Nat.le_trans g7.size K7.out.1)⟩, by simp [intOf]; omega⟩
        · obtain rfl : K = i := by omega
          go_wp2_with fail
          have hML : (matP K H S seed (firstI K)).length = H + K := firstM_length HM.out seed
          have hwA : wd (matP K H S seed (firstI K)) = K + H := (matP_wide HM.out seed (firstI K)).wd (by omega)
          refine (refSolve_any _ _ (matP K H S seed (firstI K)) (rhsL K H S D) _ HRA.out.bss HRB.out.bss (by omega) (by rw [hML, rhsL_length]) (matP_may _ _ _ _ _) ((rhsL_wide HD.out HBD.out.1).may (by omega)) (fun _ => by omega)).mono ?_
          rintro e w8 ⟨v8, n8, M, rfl, hb8, hg8, hsol⟩
          obtain ⟨rfl, hmid⟩ := sol_mid HR.out HD.out HBD.out.1 hsol
          obtain ⟨o8, m8, c8, rfl⟩ := hb8.form3
          have hm8 : m8 = M.length := hb8.len3
          subst hm8
          have HB8 := Lib.hid hb8
          have HMI := Lib.hid hmid
          have P8 := Lib.hid (HP.out.grown hg8)
          have HG8 := Lib.hid (Gr.trans HG.out hg8)
          clear hb8 hg8 hsol hmid hML hwA HRA HRB HAP HP HG HBW c0 c1 c2
          have c0 := P8.out.cell0
          have c1 := P8.out.cell1
          have c2 := P8.out.cell2
          go_wp2_with fail
          go_ret2
          exact ⟨_, M, rfl, HMI.out, ⟨o8, c8, heap_alloc_new _ _, HB8.out.grown (Gr.alloc (Gr.refl _) _ _)⟩, Gr.alloc HG8.out _ _⟩
set_option maxRecDepth 100000 in
set_option maxHeartbeats 800000 in
theorem refNew_seed (K H S : Nat) (seed : Nat) (v : Value) (D : List Int) (w : World) (hm : MayP K H S) (hs : seed < 4294967296) (hz : Bs w v D) (hD : D.length = K * S) (hr : ¬ RightP K H S seed) :
    Calls Tryz.prog 11 #[par K H S, .int .u32 (seed : Int), v] w fun e w' => e = .returned (.tuple #[.pointer none, .int .i64 8]) ∧ Gr w w' := by
  have hd := decide_eq_true hm
  have hdr := decide_eq_false hr
  have hb : 1 ≤ K ∧ K ≤ 16 ∧ 1 ≤ H ∧ H ≤ 4 ∧ 1 ≤ S ∧ S ≤ 24 := by unfold MayP at hm; omega
  obtain ⟨hb1, hb2, hb3, hb4, hb5, hb6⟩ := hb
  obtain ⟨Q, hQ⟩ : ∃ Q, K * S = Q := ⟨_, rfl⟩
  have hQ2 : Q ≤ 384 := by rw [← hQ]; exact Nat.le_trans (Nat.mul_le_mul hb2 hb6) (by omega)
  have hQi : (K : Int) * (S : Int) = (Q : Int) := by rw [← hQ]; simp
  rw [hQ] at hD
  obtain ⟨od, cd, rfl⟩ := hz.form
  rw [hD]
  have P0 : Hid (Par (w.alloc (.cells #[.int .i64 (K : Int), .int .i64 (H : Int), .int .i64 (S : Int)] 23)) w.heap.size K H S) := Lib.hid (heap_alloc_new _ _)
  have HG0 : Hid (Gr w (w.alloc (.cells #[.int .i64 (K : Int), .int .i64 (H : Int), .int .i64 (S : Int)] 23))) := Lib.hid (Gr.alloc (Gr.refl _) _ _)
  clear hm hr hz hQ hD
  go_enter Tryz.func11, Tryz.ntmps11
  go_wp2_with fail
  generalize w.alloc (.cells #[.int .i64 (K : Int), .int .i64 (H : Int), .int .i64 (S : Int)] 23) = W0 at *
  generalize hgp : w.heap.size = gp at *
  refine (refMay_any K H S _).mono ?_
  rw [hd]
  rintro e w1 ⟨rfl, hg1⟩
  have P1 := Lib.hid (P0.out.grown hg1)
  have HG1 := Lib.hid (Gr.trans HG0.out hg1)
  clear hg1 P0 HG0 hd
  have c0 := P1.out.cell0
  have c1 := P1.out.cell1
  have c2 := P1.out.cell2
  go_wp2_with fail
  refine (refRight_any K H S seed _ hs).mono ?_
  rw [hdr]
  rintro e w2 ⟨rfl, hg2⟩
  have HG2 := Lib.hid (Gr.trans HG1.out hg2)
  clear hg2 P1 HG1 hdr c0 c1 c2
  go_wp2_with fail
  go_ret2
  exact ⟨rfl, HG2.out⟩
set_option maxRecDepth 100000 in
set_option maxHeartbeats 800000 in
theorem refNew_arg (K H S : Int) (seed : Nat) (v : Value) (D : List Int) (w : World) (hz : Bs w v D) (_ : D.length ≤ 100000) (hn : ¬ (MayP K H S ∧ (D.length : Int) = K * S)) :
    Calls Tryz.prog 11 #[par K H S, .int .u32 (seed : Int), v] w fun e w' => e = .returned (.tuple #[.pointer none, .int .i64 1]) ∧ Gr w w' := by
  obtain ⟨od, cd, rfl⟩ := hz.form
  have P0 : Hid (Par (w.alloc (.cells #[.int .i64 K, .int .i64 H, .int .i64 S] 23)) w.heap.size K H S) := Lib.hid (heap_alloc_new _ _)
  have HG0 : Hid (Gr w (w.alloc (.cells #[.int .i64 K, .int .i64 H, .int .i64 S] 23))) := Lib.hid (Gr.alloc (Gr.refl _) _ _)
  by_cases hm : MayP K H S
  · have hd := decide_eq_true hm
    have hne : (D.length : Int) ≠ K * S := fun e => hn ⟨hm, e⟩
    have hb : 1 ≤ K ∧ K ≤ 16 ∧ 1 ≤ H ∧ H ≤ 4 ∧ 1 ≤ S ∧ S ≤ 24 := by unfold MayP at hm; omega
    obtain ⟨hb1, hb2, hb3, hb4, hb5, hb6⟩ := hb
    obtain ⟨Q, hQ⟩ : ∃ Q, K * S = Q := ⟨_, rfl⟩
    have hQ2 : 0 ≤ Q ∧ Q ≤ 384 := by
      rw [← hQ]
      exact ⟨Int.mul_nonneg (by omega) (by omega), Int.le_trans (Int.mul_le_mul hb2 hb6 (by omega) (by omega)) (by omega)⟩
    obtain ⟨q1, q2⟩ := hQ2
    rw [hQ] at hne
    generalize D.length = n at *
    have hnb : ((n : Int) != Q) = true := by simp; exact hne
    clear hz hn hm hne
    go_enter Tryz.func11, Tryz.ntmps11
    go_wp2_with fail
    generalize w.alloc (.cells #[.int .i64 K, .int .i64 H, .int .i64 S] 23) = W0 at *
    generalize hgp : w.heap.size = gp at *
    refine (refMay_any K H S _).mono ?_
    rw [hd]
    rintro e w1 ⟨rfl, hg1⟩
    have P1 := Lib.hid (P0.out.grown hg1)
    have HG1 := Lib.hid (Gr.trans HG0.out hg1)
    clear hg1 P0 HG0 hd
    have c0 := P1.out.cell0
    have c1 := P1.out.cell1
    have c2 := P1.out.cell2
    go_wp2_with fail
    go_ret2
    exact ⟨rfl, HG1.out⟩
  · have hd := decide_eq_false hm
    generalize D.length = n at *
    clear hz hn hm
    go_enter Tryz.func11, Tryz.ntmps11
    go_wp2_with fail
    refine (refMay_any K H S _).mono ?_
    rw [hd]
    rintro e w1 ⟨rfl, hg1⟩
    have HG1 := Lib.hid (Gr.trans HG0.out hg1)
    clear hg1 hd
    go_wp2_with fail
    go_ret2
    exact ⟨rfl, HG1.out⟩
end Go.Proofs.YtbabecjphmmngaaGreat
namespace Go.Proofs.YtbabecjphmmngaaGreat
open Go.RowKit

theorem Bs.form3 {w : World} {v : Value} {l : List Int} (h : Bs w v l) : ∃ o m c, v = .slice o m c := by
  obtain ⟨o, c, h⟩ := h.form
  exact ⟨o, _, c, h⟩
theorem ownsRow_form3 {w : World} {base : Nat} {e : TypeId} {v : Value} {n : Nat} {us : List Value} (h : w.ownsRow base e 1 v n us) : ∃ o m c, v = .slice o m c := by
  obtain ⟨o, c, h⟩ := ownsRow_form'' h
  exact ⟨o, _, c, h⟩
/-- Two parameters lie in block g. -/
def Twos (w : World) (g : Nat) : Prop := ∀ t, t < 2 → ∃ K H S, w.cell? ⟨g, t * 3, none⟩ = some (.int .i64 K) ∧ w.cell? ⟨g, t * 3 + 1, none⟩ = some (.int .i64 H) ∧ w.cell? ⟨g, t * 3 + 2, none⟩ = some (.int .i64 S)
theorem Twos.grown {w w' : World} {g : Nat} (h : Twos w g) (hg : Gr w w') : Twos w' g := fun t ht => by
  obtain ⟨K, H, S, h1, h2, h3⟩ := h t ht
  exact ⟨K, H, S, cell_grown hg h1, cell_grown hg h2, cell_grown hg h3⟩
end Go.Proofs.YtbabecjphmmngaaGreat
namespace Go.Proofs.YtbabecjphmmngaaGreat
open Go.RowKit

theorem upTo_pre (m n : Int) (w : World) :
    Calls Tryz.prog 19 #[.int .i64 m, .int .i64 n] w fun e w' => e = .returned (.bool (decide (1 ≤ n ∧ n ≤ m))) ∧ w = w' := by
  by_cases h : 1 ≤ n
  · rw [show decide (1 ≤ n ∧ n ≤ m) = decide (n ≤ m) from by rw [decide_eq_decide]; omega]
    go_enter Tryz.func19, Tryz.ntmps19
    go_wp2
    go_ret
    exact ⟨rfl, rfl⟩
  · rw [decide_eq_false (by omega : ¬ (1 ≤ n ∧ n ≤ m))]
    go_enter Tryz.func19, Tryz.ntmps19
    go_wp2
    go_ret
    exact ⟨rfl, rfl⟩
set_option maxHeartbeats 800000 in
theorem may_pre (K H S : Int) (w : World) :
    Calls Tryz.prog 6 #[par K H S] w fun e w' => e = .returned (.bool (decide (MayP K H S))) ∧ Gr w w' := by
  have hd : decide (MayP K H S) = (decide (1 ≤ K ∧ K ≤ 16) && (decide (1 ≤ H ∧ H ≤ 4) && decide (1 ≤ S ∧ S ≤ 24))) := by
    rw [← Bool.decide_and, ← Bool.decide_and, decide_eq_decide]
    unfold MayP
    omega
  rw [hd]
  have b1 : ∀ x : Int, ∃ b : Bool, decide (1 ≤ x ∧ x ≤ 16) = b := fun x => ⟨_, rfl⟩
  obtain ⟨p, hp⟩ := b1 K
  obtain ⟨q, hq⟩ : ∃ b : Bool, decide (1 ≤ H ∧ H ≤ 4) = b := ⟨_, rfl⟩
  obtain ⟨r, hr⟩ : ∃ b : Bool, decide (1 ≤ S ∧ S ≤ 24) = b := ⟨_, rfl⟩
  have HP := Lib.hid hp
  have HQ := Lib.hid hq
  have HR := Lib.hid hr
  rw [hp, hq, hr]
  clear hp hq hr hd b1
  have P0 : Hid (Par (w.alloc (.cells #[.int .i64 K, .int .i64 H, .int .i64 S] 23)) w.heap.size K H S) := Lib.hid (heap_alloc_new _ _)
  have HG0 : Hid (Gr w (w.alloc (.cells #[.int .i64 K, .int .i64 H, .int .i64 S] 23))) := Lib.hid (Gr.alloc (Gr.refl _) _ _)
  go_enter Tryz.func6, Tryz.ntmps6
  cases p with
  | false =>
    go_wp2_with fail
    refine (upTo_pre 16 K _).mono ?_
    rw [HP.out]
    rintro e w1 ⟨rfl, rfl⟩
    go_wp2_with fail
    go_ret
    exact ⟨rfl, HG0.out⟩
  | true =>
    have c1 := P0.out.cell1
    have c2 := P0.out.cell2
    cases q with
    | false =>
      go_wp2_with fail
      refine (upTo_pre 16 K _).mono ?_
      rw [HP.out]
      rintro e w1 ⟨rfl, rfl⟩
      go_wp2_with fail
      refine (upTo_pre 4 H _).mono ?_
      rw [HQ.out]
      rintro e w1 ⟨rfl, rfl⟩
      go_wp2_with fail
      go_ret
      exact ⟨rfl, HG0.out⟩
    | true =>
      go_wp2_with fail
      refine (upTo_pre 16 K _).mono ?_
      rw [HP.out]
      rintro e w1 ⟨rfl, rfl⟩
      go_wp2_with fail
      refine (upTo_pre 4 H _).mono ?_
      rw [HQ.out]
      rintro e w1 ⟨rfl, rfl⟩
      go_wp2_with fail
      refine (upTo_pre 24 S _).mono ?_
      rw [HR.out]
      rintro e w1 ⟨rfl, rfl⟩
      go_wp2_with fail
      go_ret
      exact ⟨by simp, HG0.out⟩
set_option maxHeartbeats 400000 in
theorem cols_pre (K H S : Int) (w : World) :
    Calls Tryz.prog 46 #[par K H S] w fun e w' => e = .returned (.int .i64 (colsP K H S)) ∧ Gr w w' := by
  unfold colsP
  by_cases hm : MayP K H S
  · have hd := decide_eq_true hm
    have HM := Lib.hid hm
    rw [if_pos hm]
    have hk : -9223372036854775808 ≤ K + H ∧ K + H ≤ 9223372036854775807 := by have := hm; unfold MayP at this; omega
    have hwr : IntKind.i64.wrap (K + H) = K + H := by have := hk; simp [IntKind.wrap, IntKind.bits, IntKind.signed]; omega
    clear hm
    go_enter Tryz.func46, Tryz.ntmps46
    go_wp2_with fail
    refine (may_pre K H S _).mono ?_
    rw [hd]
    rintro e w1 ⟨rfl, hg⟩
    have P1 : Par w1 w.heap.size K H S := Par.grown (heap_alloc_new w _) hg
    have c0 := P1.cell0
    have c1 := P1.cell1
    have G1 := Lib.hid (Gr.trans (Gr.alloc (Gr.refl w) _ _) hg)
    clear hg P1
    go_wp2_with fail
    go_ret
    exact ⟨rfl, G1.out⟩
  · have hd := decide_eq_false hm
    rw [if_neg hm]
    clear hm
    go_enter Tryz.func46, Tryz.ntmps46
    go_wp2_with fail
    refine (may_pre K H S _).mono ?_
    rw [hd]
    rintro e w1 ⟨rfl, hg⟩
    have G1 := Lib.hid (Gr.trans (Gr.alloc (Gr.refl w) _ _) hg)
    clear hg
    go_wp2_with fail
    go_ret
    exact ⟨rfl, G1.out⟩
end Go.Proofs.YtbabecjphmmngaaGreat
namespace Go.Proofs.YtbabecjphmmngaaGreat
open Go.RowKit

/-- A Field that has its tables. -/
def Fd (w : World) (f : Value) : Prop := ∃ b, f = .pointer (some ⟨b, 0, none⟩) ∧ FieldAt w b
theorem Fd.grown {w w' : World} {f : Value} (h : Fd w f) (hg : Gr w w') : Fd w' f := by
  obtain ⟨b, h1, h2⟩ := h
  exact ⟨b, h1, FieldAt.grown h2 hg⟩
set_option maxHeartbeats 400000 in
theorem tabled_any (f : Value) (w : World) (h : IsF w f) :
    Calls Tryz.prog 85 #[f] w fun e w' => ∃ b, e = .returned (.pointer (some ⟨b, 0, none⟩)) ∧ FieldAt w' b ∧ Gr w w' := by
  rcases h with rfl | ⟨b, rfl, hb⟩
  · go_enter Tryz.func85, Tryz.ntmps85
    go_wp2_with (go_at_call 71; refine (new_any _).mono ?_; rintro e w' ⟨b, rfl, hf, hg⟩; have HF := Lib.hid hf; clear hf; have HG := Lib.hid hg; clear hg)
    go_ret
    exact ⟨_, rfl, HF.out, HG.out⟩
  · have HF := Lib.hid hb
    clear hb
    go_enter Tryz.func85, Tryz.ntmps85
    go_wp2_with fail
    go_ret
    exact ⟨_, rfl, HF.out, Gr.refl _⟩
set_option maxHeartbeats 400000 in
theorem made_field (b : Nat) (w : World) (hb : FieldAt w b) :
    Calls Tryz.prog 87 #[.pointer (some ⟨b, 0, none⟩)] w fun e w' => e = .returned (.pointer (some ⟨b, 0, none⟩)) ∧ w = w' := by
  have h0 := FieldAt.ex hb 0 (by omega)
  rw [M.exN_zero] at h0
  clear hb
  go_enter Tryz.func87, Tryz.ntmps87
  go_wp2_with fail
  go_ret
  exact ⟨rfl, rfl⟩
/-- With tables at hand a product leaves the world as it is (but for draws). -/
theorem mul_field (t : Nat) (a b : Int) (ha : Byt a) (hb : Byt b) (w : World) (hf : FieldAt w t) :
    Calls Tryz.prog 86 #[.pointer (some ⟨t, 0, none⟩), .int .u8 a, .int .u8 b] w fun e w' => e = .returned (.int .u8 (mulZ a b)) ∧ ∃ d, w' = w.drewN d := by
  obtain ⟨a0, a1⟩ := ha
  obtain ⟨b0, b1⟩ := hb
  by_cases az : a = 0
  · subst az
    go_enter Tryz.func86, Tryz.ntmps86
    go_wp2_with fail
    go_ret
    exact ⟨ret_int (by simp [mulZ, M.mulN_zero_left]), 0, rfl⟩
  by_cases bz : b = 0
  · subst bz
    go_enter Tryz.func86, Tryz.ntmps86
    go_wp2_with fail
    go_ret
    exact ⟨ret_int (by simp [mulZ, M.mulN_zero_right]), 0, rfl⟩
  · have HF := Lib.hid hf
    clear hf
    have ea : (a == 0) = false := by simpa using az
    have eb : (b == 0) = false := by simpa using bz
    obtain ⟨x, rfl⟩ := Int.eq_ofNat_of_zero_le a0
    obtain ⟨y, rfl⟩ := Int.eq_ofNat_of_zero_le b0
    clear az bz
    have hx : x < 256 := by omega
    have hy : y < 256 := by omega
    go_enter Tryz.func86, Tryz.ntmps86
    go_wp2_with (go_at_call 87; refine (made_field t _ HF.out).mono ?_; rintro e w' ⟨rfl, rfl⟩)
    have c1 := FieldAt.lg HF.out x hx
    have c2 := FieldAt.lg HF.out y hy
    have hi : (M.lgN x + M.lgN y) % 255 < 255 := Nat.mod_lt _ (by omega)
    have c3 := FieldAt.ex HF.out _ hi
    have l1 := M.lgN_lt x
    have l2 := M.lgN_lt y
    have E : Hid (mulZ x y = ((M.exN ((M.lgN x + M.lgN y) % 255) : Nat) : Int)) := Lib.hid (by
      unfold mulZ
      rw [M.mulN_nz _ _ (by simp at ea; simpa using ea) (by simp at eb; simpa using eb)]
      rfl)
    generalize M.lgN x = p at *
    generalize M.lgN y = q at *
    go_quiet (fail)
    go_wp2
    go_ret
    exact ⟨ret_int E.out.symm, _, rfl⟩
theorem New.of_blk {w w' : World} {g n : Nat} {l : List Int} (hg : Gr w w') (hb : ∀ x ∈ l, Byt x) (hs : w.heap.size ≤ g) (hk : Blk w' g l) (hl : l.length = n) (hn : n ≤ 1000000) : New w w' (.slice (some ⟨g, 0, none⟩) n n) l := by
  subst hl
  exact ⟨hg, hb, Or.inr ⟨g, l.length, rowB l, rfl, hs, hk, Nat.le_refl _, by omega, fun i hi => rowB_get l i hi⟩⟩
theorem New.nought {w w' : World} (hg : Gr w w') : New w w' (.slice none 0 0) [] := ⟨hg, by simp, Or.inl ⟨rfl, none, 0, rfl, fun _ => rfl, by omega⟩⟩
theorem New.made0 {w w' : World} {g : Nat} (hg : Gr w w') : New w w' (.slice (some ⟨g, 0, none⟩) 0 0) [] := ⟨hg, by simp, Or.inl ⟨rfl, _, 0, rfl, fun _ => rfl, by omega⟩⟩
theorem Making.drawn {w wr : World} {g n k : Nat} {f : Nat → Int} (h : Making w g n f k wr) (d : Nat) : Making w g n f k (wr.drewN d) := by
  obtain ⟨h1, h2, h3⟩ := h
  exact ⟨h1, h2, h3⟩
def sumF (x y : List Int) : Nat → Int := fun i => addZ (x.getD i 0) (y.getD i 0)
theorem sumF_byt {x y : List Int} {n : Nat} (hx : ∀ i, Byt (x.getD i 0)) (hy : ∀ i, Byt (y.getD i 0)) : ∀ z ∈ lst n (sumF x y), Byt z := lst_byt fun i _ => addZ_byt (hx i) (hy i)

def axF (c : Int) (x y : List Int) : Nat → Int := fun i => addZ (y.getD i 0) (mulZ c (x.getD i 0))
theorem axF_byt {c : Int} {x y : List Int} {n : Nat} (hy : ∀ i, Byt (y.getD i 0)) : ∀ z ∈ lst n (axF c x y), Byt z := lst_byt fun i _ => addZ_byt (hy i) (mulZ_byt _ _)
theorem cell_set_farN {W : World} {x y : Addr} {v u : Value} {d : Nat} (h : W.cell? x = some u) (hne : x ≠ y) : ((W.drewN d).setCell y v).drew.cell? x = some u := cell_set_far (by exact h) hne
set_option maxHeartbeats 400000 in
theorem axpy_core (f : Value) (a b : Addr) (n ca cb : Nat) (c : Int) (x y : List Int) (w : World) (hf : IsF w f) (hc : Byt c) (hx : ∀ i, Byt (x.getD i 0)) (hy : ∀ i, Byt (y.getD i 0)) (hn : n ≤ 1000000)
    (hxc : ∀ i, i < n → w.cell? (a.add i) = some (.int .u8 (x.getD i 0))) (hyc : ∀ i, i < n → w.cell? (b.add i) = some (.int .u8 (y.getD i 0))) :
    Calls Tryz.prog 81 #[f, .int .u8 c, .slice (some a) n ca, .slice (some b) n cb] w fun e w' => ∃ v, e = .returned (.tuple #[v, .bool true]) ∧ New w w' v (lst n (axF c x y)) := by
  have HXB := Lib.hid hx
  have HYB := Lib.hid hy
  have HX := Lib.hid hxc
  have HY := Lib.hid hyc
  have HF := Lib.hid hf
  have hmk := make22 n n (by omega) (by omega)
  clear hx hy hxc hyc hf
  have hR : ∃ cur, cur = rowB (List.replicate n 0) := ⟨_, rfl⟩
  obtain ⟨cur, hcur⟩ := hR
  rw [← hcur] at hmk
  have HC := Lib.hid hcur
  clear hcur
  go_enter Tryz.func81, Tryz.ntmps81
  go_wp2_with (first | (go_at_call 85; refine (tabled_any f _ HF.out).mono ?_; rintro e w1 ⟨t, rfl, ht, hg1⟩; have HT := Lib.hid ht; clear ht; have G1 := Lib.hid hg1; clear hg1))
  clear hmk
  have HX1 : Hid (∀ i, i < n → w1.cell? (a.add i) = some (.int .u8 (x.getD i 0))) := Lib.hid fun i hi => cell_grown G1.out (HX.out i hi)
  have HY1 : Hid (∀ i, i < n → w1.cell? (b.add i) = some (.int .u8 (y.getD i 0))) := Lib.hid fun i hi => cell_grown G1.out (HY.out i hi)
  have hsz : w.heap.size ≤ w1.heap.size := G1.out.size
  have HB : Hid (Making w1 w1.heap.size n (axF c x y) 0 (w1.alloc (.cells cur 5))) :=
    Lib.hid ⟨Gr.alloc (Gr.refl _) _ _, Nat.le_refl _, by rw [HC.out, ← part_nil]; exact heap_alloc_new _ _⟩
  clear HC HX HY HF
  generalize hW : w1.alloc (.cells cur 5) = W at *
  generalize hG : w1.heap.size = g at *
  go_loopw [24] (fun i wr => ∃ k : Nat, k ≤ n ∧ i = .int .i64 k ∧ Making w1 g n (axF c x y) k wr) (fun i _ => n - (intOf i).toNat)
  case atStart => exact ⟨0, by omega, rfl, HB.out⟩
  case round =>
    clear HB
    obtain ⟨k, hk, rfl, hm⟩ := hrel
    obtain ⟨hg, hge, hblk⟩ := hm
    by_cases hlt : k < n
    · have q1 := cell_grown hg (HX1.out k hlt)
      have q2 := cell_grown hg (HY1.out k hlt)
      have q3 := Blk.cell hblk k (by rw [lst_length]; exact hlt)
      have q4 := frozen_of_row wr g k _ _ hblk
      have n1 : a.add k ≠ ⟨g, k, none⟩ := far_of hge (HX1.out k hlt)
      have n2 : b.add k ≠ ⟨g, k, none⟩ := far_of hge (HY1.out k hlt)
      have M0 : Hid (Making w1 g n (axF c x y) k wr) := Lib.hid ⟨hg, hge, hblk⟩
      have HT1 : Hid (FieldAt wr t) := Lib.hid (FieldAt.grown HT.out hg)
      have E : Hid (addZ (y.getD k 0) (mulZ c (x.getD k 0)) = axF c x y k) := Lib.hid rfl
      have hp := HXB.out k
      have hq := HYB.out k
      have hm := mulZ_byt c (x.getD k 0)
      clear hg hge hblk
      generalize (lst n (part (axF c x y) k)).getD k 0 = old at *
      generalize x.getD k 0 = p at *
      generalize y.getD k 0 = q at *
      generalize hM : mulZ c p = m at *
      go_wp2
      go_region_held3 (fun W => W.cell? (a.add k) = some (.int .u8 p) ∧ W.cell? (b.add k) = some (.int .u8 q)) (first | exact ⟨cell_set_far q1 n1, cell_set_far q2 n2⟩ | exact ⟨cell_set_farN q1 n1, cell_set_farN q2 n2⟩ | go_keep)
        (first | (go_at_call 103; refine (add_any _ q m hq hm _).mono ?_; rintro e w' ⟨rfl, rfl⟩) | (go_at_call 86; refine (mul_field t c p hc hp _ (by exact HT1.out)).mono ?_; rw [hM]; rintro e w' ⟨rfl, nd, rfl⟩))
      have E2 : ((q.toNat ^^^ m.toNat : Nat) : Int) = axF c x y k := by rw [← E.out]; rfl
      rw [E2]
      go_wp2
      exact ⟨⟨k + 1, by omega, by go_num, Making.drew (Making.store (Making.drawn M0.out _))⟩, by simp [intOf]; omega⟩
    · obtain rfl : k = n := by omega
      rw [part_all] at hblk
      have G := Lib.hid hg
      have K := Lib.hid hblk
      clear hg hblk
      go_wp2
      go_ret2
      exact ⟨_, rfl, New.of_blk (Gr.trans G1.out G.out) (axF_byt HYB.out) (by omega) K.out (lst_length _ _) hn⟩

def scF (c : Int) (x : List Int) : Nat → Int := fun i => mulZ c (x.getD i 0)
set_option maxHeartbeats 400000 in
theorem scale_core (f : Value) (a : Addr) (n ca : Nat) (c : Int) (x : List Int) (w : World) (hf : IsF w f) (hc : Byt c) (hx : ∀ i, Byt (x.getD i 0)) (hn : n ≤ 1000000)
    (hxc : ∀ i, i < n → w.cell? (a.add i) = some (.int .u8 (x.getD i 0))) :
    Calls Tryz.prog 68 #[f, .int .u8 c, .slice (some a) n ca] w fun e w' => ∃ v, e = .returned v ∧ New w w' v (lst n (scF c x)) := by
  have HXB := Lib.hid hx
  have HX := Lib.hid hxc
  have HF := Lib.hid hf
  have hmk := make22 n n (by omega) (by omega)
  clear hx hxc hf
  have hR : ∃ cur, cur = rowB (List.replicate n 0) := ⟨_, rfl⟩
  obtain ⟨cur, hcur⟩ := hR
  rw [← hcur] at hmk
  have HC := Lib.hid hcur
  clear hcur
  go_enter Tryz.func68, Tryz.ntmps68
  go_wp2_with (first | (go_at_call 85; refine (tabled_any f _ HF.out).mono ?_; rintro e w1 ⟨t, rfl, ht, hg1⟩; have HT := Lib.hid ht; clear ht; have G1 := Lib.hid hg1; clear hg1))
  clear hmk
  have HX1 : Hid (∀ i, i < n → w1.cell? (a.add i) = some (.int .u8 (x.getD i 0))) := Lib.hid fun i hi => cell_grown G1.out (HX.out i hi)
  have hsz : w.heap.size ≤ w1.heap.size := G1.out.size
  have HB : Hid (Making w1 w1.heap.size n (scF c x) 0 (w1.alloc (.cells cur 5))) :=
    Lib.hid ⟨Gr.alloc (Gr.refl _) _ _, Nat.le_refl _, by rw [HC.out, ← part_nil]; exact heap_alloc_new _ _⟩
  clear HC HX HF
  generalize hW : w1.alloc (.cells cur 5) = W at *
  generalize hG : w1.heap.size = g at *
  go_loopw [16] (fun i wr => ∃ k : Nat, k ≤ n ∧ i = .int .i64 k ∧ Making w1 g n (scF c x) k wr) (fun i _ => n - (intOf i).toNat)
  case atStart => exact ⟨0, by omega, rfl, HB.out⟩
  case round =>
    clear HB
    obtain ⟨k, hk, rfl, hm⟩ := hrel
    obtain ⟨hg, hge, hblk⟩ := hm
    by_cases hlt : k < n
    · have q1 := cell_grown hg (HX1.out k hlt)
      have q3 := Blk.cell hblk k (by rw [lst_length]; exact hlt)
      have q4 := frozen_of_row wr g k _ _ hblk
      have n1 : a.add k ≠ ⟨g, k, none⟩ := far_of hge (HX1.out k hlt)
      have M0 : Hid (Making w1 g n (scF c x) k wr) := Lib.hid ⟨hg, hge, hblk⟩
      have HT1 : Hid (FieldAt wr t) := Lib.hid (FieldAt.grown HT.out hg)
      have E : Hid (mulZ c (x.getD k 0) = scF c x k) := Lib.hid rfl
      have hp := HXB.out k
      clear hg hge hblk
      generalize (lst n (part (scF c x) k)).getD k 0 = old at *
      generalize x.getD k 0 = p at *
      go_wp2_with (first | (go_at_call 86; refine (mul_field t c p hc hp _ (by exact HT1.out)).mono ?_; rw [E.out]; rintro e w' ⟨rfl, d, rfl⟩))
      exact ⟨⟨k + 1, by omega, by go_num, Making.store (Making.drawn M0.out _)⟩, by simp [intOf]; omega⟩
    · obtain rfl : k = n := by omega
      rw [part_all] at hblk
      have G := Lib.hid hg
      have K := Lib.hid hblk
      clear hg hblk
      go_wp2
      go_ret
      exact ⟨_, rfl, New.of_blk (Gr.trans G1.out G.out) (lst_byt fun i _ => mulZ_byt _ _) (by omega) K.out (lst_length _ _) hn⟩

set_option maxHeartbeats 400000 in
theorem lead_core (a : Addr) (n ca : Nat) (x : List Int) (w : World) (hl : x.length = n) (hn : n ≤ 1000000)
    (hxc : ∀ i, i < n → w.cell? (a.add i) = some (.int .u8 (x.getD i 0))) :
    Calls Tryz.prog 43 #[.slice (some a) n ca] w fun e w' => e = .returned (.int .i64 (leadL x)) ∧ Gr w w' := by
  have HX := Lib.hid hxc
  have HL := Lib.hid hl
  clear hxc hl
  go_enter Tryz.func43, Tryz.ntmps43
  go_wp2
  go_loop [7] (fun i => ∃ k : Nat, k ≤ n ∧ i = .int .i64 k ∧ (∀ j, j < k → x.getD j 0 = 0)) (fun i => n - (intOf i).toNat)
  case atStart => exact ⟨0, by omega, rfl, by omega⟩
  case round =>
    obtain ⟨k, hk, rfl, hs⟩ := hrel
    have S := Lib.hid hs
    clear hs
    by_cases hlt : k < n
    · have q1 := HX.out k hlt
      by_cases hz : x.getD k 0 = 0
      · rw [hz] at q1
        have Z := Lib.hid hz
        clear hz
        go_wp2
        refine ⟨⟨k + 1, by omega, by go_num, fun j hj => ?_⟩, by simp [intOf]; omega⟩
        by_cases e : j = k
        · rw [e, Z.out]
        · exact S.out j (by omega)
      · have E : Hid (leadL x = k) := Lib.hid (leadL_at x k (by rw [HL.out]; exact hlt) S.out hz)
        have hb : (x.getD k 0 != 0) = true := by simpa using hz
        clear hz
        generalize x.getD k 0 = p at *
        go_wp2
        go_ret
        exact ⟨by rw [E.out]; rfl, Gr.refl _⟩
    · obtain rfl : k = n := by omega
      go_wp2
      go_ret
      exact ⟨by rw [leadL_none x (by rw [HL.out]; exact S.out)]; rfl, Gr.refl _⟩
set_option maxHeartbeats 400000 in
theorem lead_none (oa : Option Addr) (ca : Nat) (w : World) :
    Calls Tryz.prog 43 #[.slice oa 0 ca] w fun e w' => e = .returned (.int .i64 (-1)) ∧ Gr w w' := by
  go_enter Tryz.func43, Tryz.ntmps43
  go_wp2
  go_loop [7] (fun i => i = .int .i64 0) (fun _ => 0)
  case atStart => exact rfl
  case round =>
    subst hrel
    go_wp2
    go_ret
    exact ⟨rfl, Gr.refl _⟩

set_option maxHeartbeats 400000 in
theorem axpy_none (f : Value) (c : Int) (oa ob : Option Addr) (ca cb : Nat) (w : World) (hf : IsF w f) :
    Calls Tryz.prog 81 #[f, .int .u8 c, .slice oa 0 ca, .slice ob 0 cb] w fun e w' => ∃ v, e = .returned (.tuple #[v, .bool true]) ∧ New w w' v [] := by
  have hmk : ∀ w, (Instr.makeSlice 25 (.int .i64 0) (.int .i64 0)).run Tryz.prog w = .ok (.slice (some ⟨w.heap.size, 0, none⟩) 0 0) (w.alloc (.cells (rowB []) 5)) := fun w => make22 0 0 (by omega) (by omega) w
  generalize rowB [] = cur at *
  have HF := Lib.hid hf
  clear hf
  go_enter Tryz.func81, Tryz.ntmps81
  go_wp2_with (first | (go_at_call 85; refine (tabled_any f _ HF.out).mono ?_; rintro e w1 ⟨t, rfl, ht, hg1⟩; clear ht; have G1 := Lib.hid hg1; clear hg1))
  clear hmk
  go_loopw [24] (fun i wr => i = .int .i64 0 ∧ wr = w1.alloc (.cells cur 5)) (fun _ _ => 0)
  case atStart => exact ⟨rfl, rfl⟩
  case round =>
    obtain ⟨rfl, rfl⟩ := hrel
    go_wp2
    go_ret2
    exact ⟨_, rfl, New.made0 (Gr.alloc G1.out _ _)⟩
set_option maxHeartbeats 400000 in
theorem scale_none (f : Value) (c : Int) (oa : Option Addr) (ca : Nat) (w : World) (hf : IsF w f) :
    Calls Tryz.prog 68 #[f, .int .u8 c, .slice oa 0 ca] w fun e w' => ∃ v, e = .returned v ∧ New w w' v [] := by
  have hmk : ∀ w, (Instr.makeSlice 25 (.int .i64 0) (.int .i64 0)).run Tryz.prog w = .ok (.slice (some ⟨w.heap.size, 0, none⟩) 0 0) (w.alloc (.cells (rowB []) 5)) := fun w => make22 0 0 (by omega) (by omega) w
  generalize rowB [] = cur at *
  have HF := Lib.hid hf
  clear hf
  go_enter Tryz.func68, Tryz.ntmps68
  go_wp2_with (first | (go_at_call 85; refine (tabled_any f _ HF.out).mono ?_; rintro e w1 ⟨t, rfl, ht, hg1⟩; clear ht; have G1 := Lib.hid hg1; clear hg1))
  clear hmk
  go_loopw [16] (fun i wr => i = .int .i64 0 ∧ wr = w1.alloc (.cells cur 5)) (fun _ _ => 0)
  case atStart => exact ⟨rfl, rfl⟩
  case round =>
    obtain ⟨rfl, rfl⟩ := hrel
    go_wp2
    go_ret
    exact ⟨_, rfl, New.made0 (Gr.alloc G1.out _ _)⟩
set_option maxHeartbeats 400000 in
theorem axpy_ne (f : Value) (c : Int) (oa ob : Option Addr) (n m ca cb : Nat) (w : World) (h : m ≠ n) :
    Calls Tryz.prog 81 #[f, .int .u8 c, .slice oa n ca, .slice ob m cb] w fun e w' => ∃ v, e = .returned (.tuple #[v, .bool false]) ∧ New w w' v [] := by
  have hb : ((n : Int) != (m : Int)) = true := by simpa using (by omega : (n : Int) ≠ m)
  clear h
  go_enter Tryz.func81, Tryz.ntmps81
  go_wp2
  go_ret2
  exact ⟨_, rfl, New.nought (Gr.refl _)⟩
set_option maxHeartbeats 400000 in
theorem unit_ne (n k : Int) (w : World) (h : ¬ (1 ≤ n ∧ n ≤ 64 ∧ 0 ≤ k ∧ k < n)) :
    Calls Tryz.prog 90 #[.int .i64 n, .int .i64 k] w fun e w' => ∃ v, e = .returned v ∧ New w w' v [] := by
  by_cases h1 : 64 < n
  · clear h
    go_enter Tryz.func90, Tryz.ntmps90
    go_wp2
    go_ret
    exact ⟨_, rfl, New.nought (Gr.refl _)⟩
  by_cases h2 : k < 0
  · clear h
    go_enter Tryz.func90, Tryz.ntmps90
    go_wp2
    go_ret
    exact ⟨_, rfl, New.nought (Gr.refl _)⟩
  · have h3 : n ≤ k := by omega
    clear h
    go_enter Tryz.func90, Tryz.ntmps90
    go_wp2
    go_ret
    exact ⟨_, rfl, New.nought (Gr.refl _)⟩
theorem unitL_set (n k : Nat) : (List.replicate n (0 : Int)).set k 1 = unitL n k := by
  unfold unitL lst
  apply List.ext_getElem
  · simp
  intro j h1 h2
  simp only [List.getElem_set, List.getElem_replicate, List.getElem_map, List.getElem_range]
  by_cases e : k = j
  · rw [if_pos e, if_pos e.symm]
  · rw [if_neg e, if_neg (fun c => e c.symm)]
theorem unitL_byt (n k : Nat) : ∀ z ∈ unitL n k, Byt z := lst_byt fun i _ => by
  unfold Byt
  split <;> omega
set_option maxHeartbeats 400000 in
theorem unit_any (n k : Nat) (w : World) (h1 : 1 ≤ n) (h2 : n ≤ 64) (h3 : k < n) :
    Calls Tryz.prog 90 #[.int .i64 n, .int .i64 k] w fun e w' => ∃ v, e = .returned v ∧ New w w' v (unitL n k) := by
  have hmk := make22 n n (by omega) (by omega)
  have hR : ∃ cur, cur = rowB (List.replicate n 0) := ⟨_, rfl⟩
  obtain ⟨cur, hcur⟩ := hR
  rw [← hcur] at hmk
  have c1 : ∀ w : World, (w.alloc (.cells cur 5)).cell? ⟨w.heap.size, k, none⟩ = some (.int .u8 0) := fun w => by
    rw [cell_of_row _ _ _ _ _ _ (heap_alloc_new _ _), hcur, rowB_get _ _ (by simpa using h3), replicate_getD]
  have c2 : ∀ w : World, (w.alloc (.cells cur 5)).frozen? ⟨w.heap.size, k, none⟩ = false := fun w => frozen_of_row _ _ k _ _ (heap_alloc_new _ _)
  have HC := Lib.hid hcur
  clear hcur
  have d1 := c1 w
  have d2 := c2 w
  clear c1 c2
  go_enter Tryz.func90, Tryz.ntmps90
  go_wp2
  go_ret
  refine ⟨_, rfl, New.of_blk (Gr.alloc (Gr.refl _) _ _) (unitL_byt n k) (Nat.le_refl _) ?_ (lst_length _ _) (by omega)⟩
  show (w.alloc _).heap[w.heap.size]? = _
  rw [heap_alloc_new, HC.out, rowB_set, unitL_set]
theorem lst_eq_sum (x y : List Int) : lst x.length (sumF x y) = sumL x y := rfl
theorem lst_eq_ax (c : Int) (x y : List Int) : lst x.length (axF c x y) = axL c x y := rfl
theorem lst_eq_sc (c : Int) (x : List Int) : lst x.length (scF c x) = scaleL c x := rfl
theorem ok_axpy : ∀ (f va vb : Value) (c : Int) (x y : List Int) (w : World), IsF w f → Byt c → Bs w va x → Bs w vb y → x.length ≤ 1000000 → y.length = x.length →
    Calls Tryz.prog 81 #[f, .int .u8 c, va, vb] w fun e w' => ∃ v, e = .returned (.tuple #[v, .bool true]) ∧ New w w' v (axL c x y) :=
  fun f va vb c x y w hf hc ha hb hn hl => by
    rw [← lst_eq_ax]
    by_cases h0 : 0 < x.length
    · obtain ⟨a, ca, rfl, _, _, h3⟩ := Bs.at ha h0
      obtain ⟨b, cb, rfl, _, _, h6⟩ := Bs.at hb (by omega)
      rw [hl] at h6 ⊢
      exact axpy_core f a b x.length ca cb c x y w hf hc (Bs.byt ha) (Bs.byt hb) hn h3 h6
    · obtain rfl : x = [] := List.eq_nil_of_length_eq_zero (by omega)
      obtain rfl : y = [] := List.eq_nil_of_length_eq_zero hl
      obtain ⟨_, oa, ca, rfl, _, _, _, _⟩ := ha
      obtain ⟨_, ob, cb, rfl, _, _, _, _⟩ := hb
      exact axpy_none f c oa ob ca cb w hf
theorem ok_axpyNe : ∀ (f va vb : Value) (c : Int) (x y : List Int) (w : World), IsF w f → Byt c → Bs w va x → Bs w vb y → x.length ≤ 1000000 → y.length ≤ 1000000 → y.length ≠ x.length →
    Calls Tryz.prog 81 #[f, .int .u8 c, va, vb] w fun e w' => ∃ v, e = .returned (.tuple #[v, .bool false]) ∧ New w w' v [] :=
  fun f va vb c x y w _ _ ha hb _ _ hl => by
    obtain ⟨_, oa, ca, rfl, _, _, _, _⟩ := ha
    obtain ⟨_, ob, cb, rfl, _, _, _, _⟩ := hb
    exact axpy_ne f c oa ob _ _ ca cb w hl
theorem ok_scale : ∀ (f va : Value) (c : Int) (x : List Int) (w : World), IsF w f → Byt c → Bs w va x → x.length ≤ 1000000 →
    Calls Tryz.prog 68 #[f, .int .u8 c, va] w fun e w' => ∃ v, e = .returned v ∧ New w w' v (scaleL c x) :=
  fun f va c x w hf hc ha hn => by
    rw [← lst_eq_sc]
    by_cases h0 : 0 < x.length
    · obtain ⟨a, ca, rfl, _, _, h3⟩ := Bs.at ha h0
      exact scale_core f a x.length ca c x w hf hc (Bs.byt ha) hn h3
    · obtain rfl : x = [] := List.eq_nil_of_length_eq_zero (by omega)
      obtain ⟨_, oa, ca, rfl, _, _, _, _⟩ := ha
      exact scale_none f c oa ca w hf
theorem ok_lead : ∀ (va : Value) (x : List Int) (w : World), Bs w va x → x.length ≤ 1000000 →
    Calls Tryz.prog 43 #[va] w fun e w' => e = .returned (.int .i64 (leadL x)) ∧ Gr w w' :=
  fun va x w ha hn => by
    by_cases h0 : 0 < x.length
    · obtain ⟨a, ca, rfl, _, _, h3⟩ := Bs.at ha h0
      exact lead_core a x.length ca x w rfl hn h3
    · obtain rfl : x = [] := List.eq_nil_of_length_eq_zero (by omega)
      obtain ⟨_, oa, ca, rfl, _, _, _, _⟩ := ha
      exact lead_none oa ca w
theorem ok_unit : ∀ (n k : Nat) (w : World), 1 ≤ n → n ≤ 64 → k < n →
    Calls Tryz.prog 90 #[.int .i64 n, .int .i64 k] w fun e w' => ∃ v, e = .returned v ∧ New w w' v (unitL n k) :=
  fun n k w h1 h2 h3 => unit_any n k w h1 h2 h3
theorem ok_unitNe : ∀ (n k : Int) (w : World), ¬ (1 ≤ n ∧ n ≤ 64 ∧ 0 ≤ k ∧ k < n) →
    Calls Tryz.prog 90 #[.int .i64 n, .int .i64 k] w fun e w' => ∃ v, e = .returned v ∧ New w w' v [] :=
  fun n k w h => unit_ne n k w h
end Go.Proofs.YtbabecjphmmngaaGreat
