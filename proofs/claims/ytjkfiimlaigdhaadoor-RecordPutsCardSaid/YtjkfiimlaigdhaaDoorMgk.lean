/-
  Texts laid behind one another: Ki.
-/
import Derived.Test.YtjkfiimlaigdhaaDoorMgj
import Derived.Deep.DeepCutAuto
namespace Go.Proofs.YtjkfiimlaigdhaaDoor
open Go.RowKit

theorem num_one {X : List Int} (hb : ∀ x ∈ X, Byt x) (i : Nat) (hi : i < X.length) : ((Rc.num 0 ((X.drop i).take 1) : Nat) : Int) = X.getD i 0 := by
  have h := Crc.getD_byt hb i
  rw [List.getD_eq_getElem?_getD, List.getElem?_eq_getElem hi, Option.getD_some] at h ⊢
  rw [List.drop_eq_getElem_cons hi, List.take_succ_cons, List.take_zero]
  unfold Byt at h
  show (((0 * 256 + (X[i]).toNat : Nat)) : Int) = _
  omega
set_option maxRecDepth 100000 in
set_option maxHeartbeats 3200000 in
theorem read_any (v : Value) (X : List Int) (w : World) (h : Bs w v X) (hl : X.length = 55) :
    Calls Tryd.prog 34 #[v] w fun e w' => ∃ u, e = .returned ((rcdOf X).val u) ∧ New w w' u (datOf X) := by
  obtain ⟨ad, c, rfl, h2, h3, hc⟩ := Bs.at h (by omega)
  obtain ⟨ab, ao, asp⟩ := ad
  obtain rfl : asp = none := by
    have h0 := hc 0 (by omega)
    rw [show (Addr.mk ab ao asp).add 0 = ⟨ab, ao, asp⟩ from by simp [Addr.add]] at h0
    simpa using World.cell?_spot h0
  rw [hl] at h h2 ⊢
  have hb := h.1
  have b0 : Bs w (.slice (some ⟨ab, ao, none⟩) 3 c) (X.take 3) := Bs.pre5 h 3 (by omega)
  obtain ⟨y0, hy0⟩ : ∃ m : Nat, Rc.num 0 (X.take 3) = m := ⟨_, rfl⟩
  have D0 : Hid (∀ W, Gr w W → Calls Tryd.prog 40 #[.slice (some ⟨ab, ao, none⟩) 3 c] W fun e w' => e = .returned (.int .u32 (y0 : Int)) ∧ W = w') := Lib.hid fun W hW => by
    have h := number_rec _ (X.take 3) W (b0.grown hW) (by rw [List.length_take]; omega)
    rw [hy0] at h
    exact h
  have l0 : y0 < 4294967296 := by
    rw [← hy0]
    refine Nat.lt_of_lt_of_le (num_lt b0.1) ?_
    exact Nat.le_trans (Nat.pow_le_pow_right (by omega) (by rw [List.length_take]; omega : _ ≤ 4)) (by omega)
  have v0 : IntKind.i64.wrap (y0 : Int) = y0 := by simp [IntKind.wrap, IntKind.bits, IntKind.signed]; omega
  have b1 : Bs w (.slice (some ⟨ab, ao + 3, none⟩) 1 (c - 3)) ((X.drop 3).take 1) := by
    have := Bs.mid5 h 3 1 (by omega)
    rwa [if_neg (by omega), Addr.add_mid] at this
  obtain ⟨y1, hy1⟩ : ∃ m : Nat, Rc.num 0 ((X.drop 3).take 1) = m := ⟨_, rfl⟩
  have D1 : Hid (∀ W, Gr w W → Calls Tryd.prog 40 #[.slice (some ⟨ab, ao + 3, none⟩) 1 (c - 3)] W fun e w' => e = .returned (.int .u32 (y1 : Int)) ∧ W = w') := Lib.hid fun W hW => by
    have h := number_rec _ ((X.drop 3).take 1) W (b1.grown hW) (by rw [List.length_take]; omega)
    rw [hy1] at h
    exact h
  have l1 : y1 < 4294967296 := by
    rw [← hy1]
    refine Nat.lt_of_lt_of_le (num_lt b1.1) ?_
    exact Nat.le_trans (Nat.pow_le_pow_right (by omega) (by rw [List.length_take]; omega : _ ≤ 4)) (by omega)
  have v1 : IntKind.i64.wrap (y1 : Int) = y1 := by simp [IntKind.wrap, IntKind.bits, IntKind.signed]; omega
  have b2 : Bs w (.slice (some ⟨ab, ao + 4, none⟩) 2 (c - 4)) ((X.drop 4).take 2) := by
    have := Bs.mid5 h 4 2 (by omega)
    rwa [if_neg (by omega), Addr.add_mid] at this
  obtain ⟨y2, hy2⟩ : ∃ m : Nat, Rc.num 0 ((X.drop 4).take 2) = m := ⟨_, rfl⟩
  have D2 : Hid (∀ W, Gr w W → Calls Tryd.prog 40 #[.slice (some ⟨ab, ao + 4, none⟩) 2 (c - 4)] W fun e w' => e = .returned (.int .u32 (y2 : Int)) ∧ W = w') := Lib.hid fun W hW => by
    have h := number_rec _ ((X.drop 4).take 2) W (b2.grown hW) (by rw [List.length_take]; omega)
    rw [hy2] at h
    exact h
  have l2 : y2 < 4294967296 := by
    rw [← hy2]
    refine Nat.lt_of_lt_of_le (num_lt b2.1) ?_
    exact Nat.le_trans (Nat.pow_le_pow_right (by omega) (by rw [List.length_take]; omega : _ ≤ 4)) (by omega)
  have v2 : IntKind.i64.wrap (y2 : Int) = y2 := by simp [IntKind.wrap, IntKind.bits, IntKind.signed]; omega
  have b3 : Bs w (.slice (some ⟨ab, ao + 6, none⟩) 1 (c - 6)) ((X.drop 6).take 1) := by
    have := Bs.mid5 h 6 1 (by omega)
    rwa [if_neg (by omega), Addr.add_mid] at this
  obtain ⟨y3, hy3⟩ : ∃ m : Nat, Rc.num 0 ((X.drop 6).take 1) = m := ⟨_, rfl⟩
  have D3 : Hid (∀ W, Gr w W → Calls Tryd.prog 40 #[.slice (some ⟨ab, ao + 6, none⟩) 1 (c - 6)] W fun e w' => e = .returned (.int .u32 (y3 : Int)) ∧ W = w') := Lib.hid fun W hW => by
    have h := number_rec _ ((X.drop 6).take 1) W (b3.grown hW) (by rw [List.length_take]; omega)
    rw [hy3] at h
    exact h
  have l3 : y3 < 4294967296 := by
    rw [← hy3]
    refine Nat.lt_of_lt_of_le (num_lt b3.1) ?_
    exact Nat.le_trans (Nat.pow_le_pow_right (by omega) (by rw [List.length_take]; omega : _ ≤ 4)) (by omega)
  have v3 : IntKind.i64.wrap (y3 : Int) = y3 := by simp [IntKind.wrap, IntKind.bits, IntKind.signed]; omega
  have b4 : Bs w (.slice (some ⟨ab, ao + 7, none⟩) 1 (c - 7)) ((X.drop 7).take 1) := by
    have := Bs.mid5 h 7 1 (by omega)
    rwa [if_neg (by omega), Addr.add_mid] at this
  obtain ⟨y4, hy4⟩ : ∃ m : Nat, Rc.num 0 ((X.drop 7).take 1) = m := ⟨_, rfl⟩
  have D4 : Hid (∀ W, Gr w W → Calls Tryd.prog 40 #[.slice (some ⟨ab, ao + 7, none⟩) 1 (c - 7)] W fun e w' => e = .returned (.int .u32 (y4 : Int)) ∧ W = w') := Lib.hid fun W hW => by
    have h := number_rec _ ((X.drop 7).take 1) W (b4.grown hW) (by rw [List.length_take]; omega)
    rw [hy4] at h
    exact h
  have l4 : y4 < 4294967296 := by
    rw [← hy4]
    refine Nat.lt_of_lt_of_le (num_lt b4.1) ?_
    exact Nat.le_trans (Nat.pow_le_pow_right (by omega) (by rw [List.length_take]; omega : _ ≤ 4)) (by omega)
  have v4 : IntKind.i64.wrap (y4 : Int) = y4 := by simp [IntKind.wrap, IntKind.bits, IntKind.signed]; omega
  have b5 : Bs w (.slice (some ⟨ab, ao + 8, none⟩) 1 (c - 8)) ((X.drop 8).take 1) := by
    have := Bs.mid5 h 8 1 (by omega)
    rwa [if_neg (by omega), Addr.add_mid] at this
  obtain ⟨y5, hy5⟩ : ∃ m : Nat, Rc.num 0 ((X.drop 8).take 1) = m := ⟨_, rfl⟩
  have D5 : Hid (∀ W, Gr w W → Calls Tryd.prog 40 #[.slice (some ⟨ab, ao + 8, none⟩) 1 (c - 8)] W fun e w' => e = .returned (.int .u32 (y5 : Int)) ∧ W = w') := Lib.hid fun W hW => by
    have h := number_rec _ ((X.drop 8).take 1) W (b5.grown hW) (by rw [List.length_take]; omega)
    rw [hy5] at h
    exact h
  have l5 : y5 < 4294967296 := by
    rw [← hy5]
    refine Nat.lt_of_lt_of_le (num_lt b5.1) ?_
    exact Nat.le_trans (Nat.pow_le_pow_right (by omega) (by rw [List.length_take]; omega : _ ≤ 4)) (by omega)
  have v5 : IntKind.i64.wrap (y5 : Int) = y5 := by simp [IntKind.wrap, IntKind.bits, IntKind.signed]; omega
  have b6 : Bs w (.slice (some ⟨ab, ao + 9, none⟩) 4 (c - 9)) ((X.drop 9).take 4) := by
    have := Bs.mid5 h 9 4 (by omega)
    rwa [if_neg (by omega), Addr.add_mid] at this
  obtain ⟨y6, hy6⟩ : ∃ m : Nat, Rc.num 0 ((X.drop 9).take 4) = m := ⟨_, rfl⟩
  have D6 : Hid (∀ W, Gr w W → Calls Tryd.prog 40 #[.slice (some ⟨ab, ao + 9, none⟩) 4 (c - 9)] W fun e w' => e = .returned (.int .u32 (y6 : Int)) ∧ W = w') := Lib.hid fun W hW => by
    have h := number_rec _ ((X.drop 9).take 4) W (b6.grown hW) (by rw [List.length_take]; omega)
    rw [hy6] at h
    exact h
  have l6 : y6 < 4294967296 := by
    rw [← hy6]
    refine Nat.lt_of_lt_of_le (num_lt b6.1) ?_
    exact Nat.le_trans (Nat.pow_le_pow_right (by omega) (by rw [List.length_take]; omega : _ ≤ 4)) (by omega)
  have v6 : IntKind.i64.wrap (y6 : Int) = y6 := by simp [IntKind.wrap, IntKind.bits, IntKind.signed]; omega
  have hr : rcdOf X = ⟨y0, y1, y2, y3, y4, y5, y6⟩ := by
    unfold rcdOf
    rw [← num_one hb 3 (by omega), ← num_one hb 6 (by omega), ← num_one hb 7 (by omega), ← num_one hb 8 (by omega), hy0, hy1, hy2, hy3, hy4, hy5, hy6]
  have hd : datOf X = (X.drop 13).take y5 := by
    unfold datOf
    rw [hr]
    show (X.drop 13).take (y5 : Int).toNat = _
    rw [Int.toNat_natCast]
  have l5' : y5 < 256 := by
    have h := num_lt b5.1
    rw [hy5, List.length_take, List.length_drop, hl] at h
    exact h
  have i0 : (3 : Int) ≤ (c : Int) := by omega
  have i3 : (4 : Int) ≤ (c : Int) := by omega
  have j3 : ¬ c = 3 := by omega
  have i4 : (6 : Int) ≤ (c : Int) := by omega
  have j4 : ¬ c = 4 := by omega
  have i6 : (7 : Int) ≤ (c : Int) := by omega
  have j6 : ¬ c = 6 := by omega
  have i7 : (8 : Int) ≤ (c : Int) := by omega
  have j7 : ¬ c = 7 := by omega
  have i8 : (9 : Int) ≤ (c : Int) := by omega
  have j8 : ¬ c = 8 := by omega
  have i9 : (13 : Int) ≤ (c : Int) := by omega
  have j9 : ¬ c = 9 := by omega
  have j13 : ¬ c = 13 := by omega
  obtain ⟨z, hz, hz1, hz2⟩ : ∃ z : Nat, min (13 + (y5 : Int)) 55 = ((13 + z : Nat) : Int) ∧ z ≤ 42 ∧ (X.drop 13).take z = datOf X := by
    rw [hd]
    by_cases h : y5 ≤ 42
    · exact ⟨y5, by omega, h, rfl⟩
    · refine ⟨42, by omega, by omega, ?_⟩
      rw [List.take_of_length_le (by rw [List.length_drop]; omega), List.take_of_length_le (by rw [List.length_drop]; omega)]
  have HB : Hid (Bs w (.slice (some ⟨ab, ao + 13, none⟩) z (c - 13)) (datOf X)) := Lib.hid (by
    have := Bs.mid5 h 13 z (by omega)
    rwa [if_neg (by omega), Addr.add_mid, hz2] at this)
  have HBL : Hid ((datOf X).length = z) := Lib.hid (by rw [← hz2, List.length_take, List.length_drop]; omega)
  have HR := Lib.hid hr
  clear hr hd hb hc h hz2 b0 b1 b2 b3 b4 b5 b6 hy0 hy1 hy2 hy3 hy4 hy5 hy6
  have HA : Hid (Gr w (w.alloc (.cells #[.int .i64 0, .int .i64 0, .int .i64 0, .int .i64 0, .int .i64 0, .int .i64 0, .int .u32 0, .slice none 0 0] 27))) := Lib.hid (Gr.alloc (Gr.refl _) _ _)
  have HC : Hid (RcAt (w.alloc (.cells #[.int .i64 0, .int .i64 0, .int .i64 0, .int .i64 0, .int .i64 0, .int .i64 0, .int .u32 0, .slice none 0 0] 27)) w.heap.size rcd0 (.slice none 0 0)) := Lib.hid (heap_alloc_new _ _)
  go_enter Tryd.func34, Tryd.ntmps34
  go_upto_region 1 with fail
  generalize w.alloc (.cells #[.int .i64 0, .int .i64 0, .int .i64 0, .int .i64 0, .int .i64 0, .int .i64 0, .int .u32 0, .slice none 0 0] 27) = W1 at *
  generalize hgr : w.heap.size = gr at *
  go_cut [3] (fun s3 wx => ∃ gR, s3 = .pointer (some ⟨gR, 0, none⟩) ∧ RcAt wx gR ⟨y0, y1, y2, y3, y4, y5, y6⟩ (.slice none 0 0) ∧ Gr W1 wx ∧ W1.heap.size ≤ gR)
  case first =>
    go_region_held3 (fun _ => True) (exact trivial)
      (first
      | (go_at_call 40; have h := M5; clear h; (fail_if_success have h := M6); refine (D6.out _ ?_).mono ?_; (focus (first | exact Gr.drew HA.out | exact Gr.alloc (Gr.drew HA.out) _ _)); rintro e wz ⟨rfl, rfl⟩; have M6 := True.intro)
      | (go_at_call 40; have h := M4; clear h; (fail_if_success have h := M5); refine (D5.out _ ?_).mono ?_; (focus (first | exact Gr.drew HA.out | exact Gr.alloc (Gr.drew HA.out) _ _)); rintro e wz ⟨rfl, rfl⟩; have M5 := True.intro)
      | (go_at_call 40; have h := M3; clear h; (fail_if_success have h := M4); refine (D4.out _ ?_).mono ?_; (focus (first | exact Gr.drew HA.out | exact Gr.alloc (Gr.drew HA.out) _ _)); rintro e wz ⟨rfl, rfl⟩; have M4 := True.intro)
      | (go_at_call 40; have h := M2; clear h; (fail_if_success have h := M3); refine (D3.out _ ?_).mono ?_; (focus (first | exact Gr.drew HA.out | exact Gr.alloc (Gr.drew HA.out) _ _)); rintro e wz ⟨rfl, rfl⟩; have M3 := True.intro)
      | (go_at_call 40; have h := M1; clear h; (fail_if_success have h := M2); refine (D2.out _ ?_).mono ?_; (focus (first | exact Gr.drew HA.out | exact Gr.alloc (Gr.drew HA.out) _ _)); rintro e wz ⟨rfl, rfl⟩; have M2 := True.intro)
      | (go_at_call 40; have h := M0; clear h; (fail_if_success have h := M1); refine (D1.out _ ?_).mono ?_; (focus (first | exact Gr.drew HA.out | exact Gr.alloc (Gr.drew HA.out) _ _)); rintro e wz ⟨rfl, rfl⟩; have M1 := True.intro)
      | (go_at_call 40; (fail_if_success have h := M0); refine (D0.out _ ?_).mono ?_; (focus (first | exact Gr.drew HA.out | exact Gr.alloc (Gr.drew HA.out) _ _)); rintro e wz ⟨rfl, rfl⟩; have M0 := True.intro))
    all_goals (go_wp2_with fail; go_meet)
    all_goals exact ⟨_, rfl, heap_alloc_new _ _, Gr.alloc (Gr.drew (Gr.refl _)) _ _, Nat.le_refl _⟩
  case rest =>
    obtain ⟨gR, rfl, hr, hg2, hge⟩ := hcut
    have A2 := Lib.hid hr
    have G2 := Lib.hid hg2
    have HGE := Lib.hid hge
    have C2 := Lib.hid (HC.out.grown hg2)
    obtain ⟨a0, a1, a2, a3, a4, a5, a6, a7⟩ := hr.cell
    simp only at a5
    have w13 : IntKind.i64.wrap (13 + (y5 : Int)) = 13 + (y5 : Int) := by simp [IntKind.wrap, IntKind.bits, IntKind.signed]; omega
    have z1 : (13 : Int) + (z : Int) ≤ (c : Int) := by omega
    clear hr hg2 hge D0 D1 D2 D3 D4 D5 D6 v0 v1 v2 v3 v4 v5 v6 l0 l1 l2 l3 l4 l5 l6
    go_wp2_with fail
    all_goals
      (first
        | rw [show (13 + (y5 : Int)).toNat - 13 = z from by omega]
        | (obtain rfl : z = 42 := by omega))
      refine (clone_new _ _ _ (HB.out.grown (Gr.trans HA.out G2.out)) (by rw [HBL.out]; omega)).mono ?_
      rintro e w3 ⟨u3, rfl, hn3⟩
      obtain ⟨o3, m3, c3, rfl⟩ := New.form3 hn3
      have N3 := Lib.hid hn3
      have HNE : Hid (gr ≠ gR) := Lib.hid (by have := HGE.out; have := (Array.getElem?_eq_some_iff.1 HC.out).1; omega)
      have f7 := (A2.out.grown hn3.1).frozen.2.2.2.2.2.2.2
      have p7 := (A2.out.grown hn3.1).cell.2.2.2.2.2.2.2
      have A3 := Lib.hid ((A2.out.grown hn3.1).bytes (.slice o3 m3 c3))
      have C3 := Lib.hid ((C2.out.grown hn3.1).other HNE.out 7 (.slice o3 m3 c3))
      have G3 := Lib.hid ((Gr.trans G2.out hn3.1).setCell (a := ⟨gR, 7, none⟩) HGE.out (.slice o3 m3 c3))
      have HLT : Hid (gR < wc.heap.size ∧ gr < wc.heap.size) := Lib.hid ⟨(Array.getElem?_eq_some_iff.1 A2.out).1, (Array.getElem?_eq_some_iff.1 C2.out).1⟩
      clear hn3 a0 a1 a2 a3 a4 a5 a6 a7 A2 C2
      obtain ⟨e0, e1, e2, e3, e4, e5, e6, e7⟩ := A3.out.cell
      obtain ⟨q0, q1, q2, q3, q4, q5, q6, q7⟩ := C3.out.cell
      obtain ⟨g0, g1, g2, g3, g4, g5, g6, g7⟩ := C3.out.frozen
      have HP := Lib.hid (C3.out.put ⟨y0, y1, y2, y3, y4, y5, y6⟩ (.slice o3 m3 c3))
      simp only at e0 e1 e2 e3 e4 e5 e6
      go_wp2_with fail
      refine bodyPost_ret_by (results_cell_row rfl _ _ gr 27 _ (0, 0) _ rfl HP.out Tryd.underlying27 rfl (by kernel_rfl)) rfl ?_
      rw [HR.out]
      refine ⟨.slice o3 m3 c3, rfl, New.far5 (rec_gr (Gr.trans HA.out G3.out) (by omega) ⟨y0, y1, y2, y3, y4, y5, y6⟩ (.slice o3 m3 c3)) N3.out (Gr.trans HA.out G2.out).size fun k hk => ?_⟩
      rw [heap8 (by have := HLT.out; omega)]
      exact heap_setCell_other _ ⟨gR, 7, none⟩ k _ (by have := HLT.out; intro e; simp only at e; omega)
end Go.Proofs.YtjkfiimlaigdhaaDoor
