/-
  The developers' package record: Take; all of it.
-/
import Derived.Test.YtjkfiimlaigdhaaDoorMgk
namespace Go.Proofs.YtjkfiimlaigdhaaDoor
open Go.RowKit

theorem isR_iff {b : List Int} (h1 : Cell.Is b) (h2 : b.getD 3 0 = 1) : IsR b ↔ putR (rcdOf (Cell.bodyOf b)) (datOf (Cell.bodyOf b)) = b := by
  refine ⟨fun h => h.2.2.2, fun h => ⟨h1, h2, ?_, h⟩⟩
  by_cases hm : MayR (rcdOf (Cell.bodyOf b)) (datOf (Cell.bodyOf b))
  · exact hm.2.2.2.2.2.1
  · rw [show putR _ _ = [] from if_neg hm] at h
    have := h1.1
    rw [← h] at this
    simp at this
theorem rcdOf_lt {X : List Int} (hb : ∀ x ∈ X, Byt x) : (rcdOf X).s < 4294967296 := by
  refine Nat.lt_of_lt_of_le (num_lt (l := (X.drop 9).take 4) fun x hx => hb x (List.mem_of_mem_drop (List.mem_of_mem_take hx))) ?_
  exact Nat.le_trans (Nat.pow_le_pow_right (by omega) (by rw [List.length_take]; omega : _ ≤ 4)) (by omega)
set_option maxRecDepth 100000 in
set_option maxHeartbeats 800000 in
theorem take_rec_ne {W0 : World} (O : CellOk W0) (v : Value) (b : List Int) (w : World) (hw : Gr W0 w) (hl : b.length ≤ 1000) (h : Bs w v b) (hi : ¬ (Cell.Is b ∧ b.getD 3 0 = 1)) :
    Calls Tryd.prog 20 #[v] w fun e w' => e = .returned (.tuple #[rcd0.val (.slice none 0 0), .bool false]) ∧ Gr w w' := by
  obtain ⟨o, c, rfl⟩ := h.form5
  obtain ⟨n, hn⟩ : ∃ n, b.length = n := ⟨_, rfl⟩
  have H := Lib.hid h
  rw [hn] at H ⊢
  have HLB := Lib.hid hl
  have HO := Lib.hid O
  have HW := Lib.hid hw
  obtain ⟨k, hk⟩ : ∃ k, Cell.takeK b = k := ⟨_, rfl⟩
  obtain ⟨bi, hb⟩ : ∃ k, decide (Cell.Is b) = k := ⟨_, rfl⟩
  have HK := Lib.hid hk
  have HB := Lib.hid hb
  have hcase : bi = false ∨ (bi = true ∧ ¬ k = 1) := by
    cases bi with
    | false => exact .inl rfl
    | true =>
      have h1 := of_decide_eq_true hb
      refine .inr ⟨rfl, fun e => hi ⟨h1, ?_⟩⟩
      rw [← hk] at e
      exact (if_pos h1).symm.trans e
  have HA : Hid (Gr w (w.alloc (.cells #[.int .i64 0, .int .i64 0, .int .i64 0, .int .i64 0, .int .i64 0, .int .i64 0, .int .u32 0, .slice none 0 0] 27))) := Lib.hid (Gr.alloc (Gr.refl _) _ _)
  have HC : Hid (RcAt (w.alloc (.cells #[.int .i64 0, .int .i64 0, .int .i64 0, .int .i64 0, .int .i64 0, .int .i64 0, .int .u32 0, .slice none 0 0] 27)) w.heap.size rcd0 (.slice none 0 0)) := Lib.hid (heap_alloc_new _ _)
  clear h hn hi hk hb O hw hl
  go_enter Tryd.func20, Tryd.ntmps20
  go_wp2_with fail
  generalize w.alloc (.cells #[.int .i64 0, .int .i64 0, .int .i64 0, .int .i64 0, .int .i64 0, .int .i64 0, .int .u32 0, .slice none 0 0] 27) = W1 at *
  generalize hgr : w.heap.size = gr at *
  refine (HO.out.take _ b _ (Gr.trans HW.out HA.out) HLB.out (H.out.grown HA.out)).mono ?_
  rw [HK.out, HB.out]
  rintro e w1 ⟨u1, rfl, hg1, hn1⟩
  obtain ⟨o1, c1, rfl⟩ := hn1.form5
  have HC1 := Lib.hid (HC.out.grown hg1)
  have HG1 := Lib.hid (Gr.trans HA.out hg1)
  clear hn1 hg1
  have HP := Lib.hid (HC1.out.put rcd0 (.slice none 0 0))
  have HGR : Hid (w.heap.size ≤ gr) := Lib.hid (by omega)
  obtain ⟨p0, p1, p2, p3, p4, p5, p6, p7⟩ := HC1.out.cell
  obtain ⟨f0, f1, f2, f3, f4, f5, f6, f7⟩ := HC1.out.frozen
  have HGZ : Hid (Gr w _) := Lib.hid (rec_gr HG1.out HGR.out rcd0 (.slice none 0 0))
  generalize (Cell.takeX b).length = xl at *
  have hk2 : bi = true → (k != 1) = true := fun h => by
    rcases hcase with h1 | ⟨_, h1⟩
    · rw [h1] at h; cases h
    · exact bne_iff_ne.2 h1
  clear hcase HK
  cases bi with
  | false =>
    clear hk2
    go_wp2_with fail
    refine bodyPost_ret (v := .tuple #[rcd0.val (.slice none 0 0), .bool false]) (by rw [results_cell_tmp rfl]; exact rec_res HP.out.load) rfl ?_
    exact ⟨rfl, HGZ.out⟩
  | true =>
    have hk3 := hk2 rfl
    clear hk2
    go_wp2_with fail
    refine bodyPost_ret (v := .tuple #[rcd0.val (.slice none 0 0), .bool false]) (by rw [results_cell_tmp rfl]; exact rec_res HP.out.load) rfl ?_
    exact ⟨rfl, HGZ.out⟩
set_option maxRecDepth 100000 in
set_option maxHeartbeats 3200000 in
theorem take_rec_in {W0 : World} (O : CellOk W0) (v : Value) (b : List Int) (w : World) (hw : Gr W0 w) (h : Bs w v b) (hi : Cell.Is b) (h3 : b.getD 3 0 = 1) :
    Calls Tryd.prog 20 #[v] w fun e w' => ∃ u, e = .returned (.tuple #[(takeRr b).val u, .bool (decide (IsR b))]) ∧ Bs w' u (takeRd b) ∧ Gr w w' := by
  obtain ⟨o, c, rfl⟩ := h.form5
  obtain ⟨n, hn⟩ : ∃ n, b.length = n := ⟨_, rfl⟩
  have HK : Hid (Cell.takeK b = 1) := Lib.hid ((if_pos hi).trans h3)
  have HX : Hid (Cell.takeX b = Cell.bodyOf b) := Lib.hid (if_pos hi)
  have HI : Hid (decide (Cell.Is b) = true) := Lib.hid (decide_eq_true hi)
  have HXL : Hid ((Cell.bodyOf b).length = 55) := Lib.hid (by rw [← HX.out]; exact Cell.takeX_length hi)
  have HM := Lib.hid (isR_iff hi h3)
  have hlt := rcdOf_lt (Cell.bodyOf_byt h.1)
  have HLB : Hid (b.length = 64) := Lib.hid hi.1
  have H := Lib.hid h
  rw [hn] at H ⊢
  have HO := Lib.hid O
  have HW := Lib.hid hw
  have HA : Hid (Gr w (w.alloc (.cells #[.int .i64 0, .int .i64 0, .int .i64 0, .int .i64 0, .int .i64 0, .int .i64 0, .int .u32 0, .slice none 0 0] 27))) := Lib.hid (Gr.alloc (Gr.refl _) _ _)
  have HC : Hid (RcAt (w.alloc (.cells #[.int .i64 0, .int .i64 0, .int .i64 0, .int .i64 0, .int .i64 0, .int .i64 0, .int .u32 0, .slice none 0 0] 27)) w.heap.size rcd0 (.slice none 0 0)) := Lib.hid (heap_alloc_new _ _)
  clear h hi h3 hn O hw
  go_enter Tryd.func20, Tryd.ntmps20
  go_wp2_with fail
  generalize w.alloc (.cells #[.int .i64 0, .int .i64 0, .int .i64 0, .int .i64 0, .int .i64 0, .int .i64 0, .int .u32 0, .slice none 0 0] 27) = W1 at *
  generalize hgr : w.heap.size = gr at *
  refine (HO.out.take _ b _ (Gr.trans HW.out HA.out) (by rw [HLB.out]; omega) (H.out.grown HA.out)).mono ?_
  rw [HK.out, HX.out, HI.out]
  rintro e w1 ⟨u1, rfl, hg1, hn1⟩
  obtain ⟨X, hX⟩ : ∃ X, Cell.bodyOf b = X := ⟨_, rfl⟩
  rw [hX] at HXL HM hlt hn1
  obtain ⟨o1, c1, rfl⟩ := hn1.form5
  rw [HXL.out] at hn1 ⊢
  have HBX := Lib.hid hn1
  have HC1 := Lib.hid (HC.out.grown hg1)
  have HG1 := Lib.hid (Gr.trans HA.out hg1)
  have HXX := Lib.hid hX
  clear hn1 hg1 hX HC
  go_wp2_with fail
  refine (read_any _ X _ HBX.out HXL.out).mono ?_
  rintro e w2 ⟨u2, rfl, hn2⟩
  obtain ⟨o2, m2, c2, rfl⟩ := New.form3 hn2
  obtain ⟨r, hr⟩ : ∃ r, rcdOf X = r := ⟨_, rfl⟩
  obtain ⟨d, hd⟩ : ∃ d, datOf X = d := ⟨_, rfl⟩
  have HRX := Lib.hid hr
  have HDX := Lib.hid hd
  rw [hr, hd] at HM
  rw [hr] at hlt ⊢
  rw [hd] at hn2
  obtain ⟨ro, rb, ri, K, H', S, s⟩ := r
  simp only at hlt
  have A2 : Hid (RcAt (w2.alloc (.cells #[.int .i64 ro, .int .i64 rb, .int .i64 ri, .int .i64 K, .int .i64 H', .int .i64 S, .int .u32 (s : Int), .slice o2 m2 c2] 27)) w2.heap.size ⟨ro, rb, ri, K, H', S, s⟩ (.slice o2 m2 c2)) := Lib.hid (heap_alloc_new _ _)
  have G2 : Hid (Gr w1 (w2.alloc (.cells #[.int .i64 ro, .int .i64 rb, .int .i64 ri, .int .i64 K, .int .i64 H', .int .i64 S, .int .u32 (s : Int), .slice o2 m2 c2] 27))) := Lib.hid (Gr.alloc hn2.1 _ _)
  have B2 : Hid (Bs (w2.alloc (.cells #[.int .i64 ro, .int .i64 rb, .int .i64 ri, .int .i64 K, .int .i64 H', .int .i64 S, .int .u32 (s : Int), .slice o2 m2 c2] 27)) (.slice o2 m2 c2) d) := Lib.hid ((New.bs hn2).grown (Gr.alloc (Gr.refl _) _ _))
  have N3 : Hid (New w1 (w2.alloc (.cells #[.int .i64 ro, .int .i64 rb, .int .i64 ri, .int .i64 K, .int .i64 H', .int .i64 S, .int .u32 (s : Int), .slice o2 m2 c2] 27)) (.slice o2 m2 c2) d) := Lib.hid (New.grown5 hn2 (Gr.alloc (Gr.refl _) _ _))
  clear hr hd hn2
  unfold Rcd.val
  simp only
  go_wp2_with fail
  generalize w2.alloc (.cells #[.int .i64 ro, .int .i64 rb, .int .i64 ri, .int .i64 K, .int .i64 H', .int .i64 S, .int .u32 (s : Int), .slice o2 m2 c2] 27) = w3 at *
  have HRL : Hid (gr < w1.heap.size) := Lib.hid (Array.getElem?_eq_some_iff.1 HC1.out).1
  generalize w2.heap.size = gR at *
  refine (put_rec HO.out ⟨ro, rb, ri, K, H', S, s⟩ (.slice o2 m2 c2) d _ (Gr.trans HW.out (Gr.trans HG1.out G2.out)) hlt B2.out).mono ?_
  rintro e w5 ⟨u5, rfl, hn5⟩
  obtain ⟨o5, m5, c5, rfl⟩ := New.form3 hn5
  have A5 := Lib.hid (A2.out.grown hn5.1)
  have G5 := Lib.hid (Gr.trans G2.out hn5.1)
  have C5 := Lib.hid (HC1.out.grown G5.out)
  have B5 := Lib.hid (New.bs hn5)
  have N5 := Lib.hid (New.grown5 N3.out hn5.1)
  clear hn5 A2 G2 HC1 B2 N3
  go_wp2_with fail
  refine (equal_any _ _ _ b _ B5.out (H.out.grown (Gr.trans HG1.out G5.out))).mono ?_
  obtain ⟨q, hq⟩ : ∃ q, (putR ⟨ro, rb, ri, K, H', S, s⟩ d == b) = q := ⟨_, rfl⟩
  have HQ := Lib.hid hq
  rw [hq]
  rintro e w6 ⟨rfl, rfl⟩
  clear hq B5
  obtain ⟨p0, p1, p2, p3, p4, p5, p6, p7⟩ := C5.out.cell
  obtain ⟨f0, f1, f2, f3, f4, f5, f6, f7⟩ := C5.out.frozen
  cases q with
  | false =>
    have HP := Lib.hid (C5.out.put rcd0 (.slice none 0 0))
    have HGZ : Hid (Gr w _) := Lib.hid (rec_gr (Gr.trans HG1.out G5.out) (Nat.le_of_eq hgr) rcd0 (.slice none 0 0))
    have HNO : Hid (¬ IsR b) := Lib.hid fun h => by
      have := beq_iff_eq.2 (HM.out.1 h)
      rw [HQ.out] at this
      cases this
    go_wp2_with fail
    refine bodyPost_ret (v := .tuple #[rcd0.val (.slice none 0 0), .bool false]) (by rw [results_cell_tmp rfl]; exact rec_res HP.out.load) rfl ?_
    rw [decide_eq_false HNO.out, show takeRr b = rcd0 from if_neg HNO.out, show takeRd b = [] from if_neg HNO.out]
    exact ⟨_, rfl, Bs.nil _, HGZ.out⟩
  | true =>
    have HP := Lib.hid (C5.out.put ⟨ro, rb, ri, K, H', S, s⟩ (.slice o2 m2 c2))
    have HGZ : Hid (Gr w _) := Lib.hid (rec_gr (Gr.trans HG1.out G5.out) (Nat.le_of_eq hgr) ⟨ro, rb, ri, K, H', S, s⟩ (.slice o2 m2 c2))
    have HYE : Hid (IsR b) := Lib.hid (HM.out.2 (beq_iff_eq.1 HQ.out))
    obtain ⟨a0, a1, a2, a3, a4, a5, a6, a7⟩ := A5.out.cell
    simp only at a0 a1 a2 a3 a4 a5 a6
    go_wp2_with fail
    refine bodyPost_ret (v := .tuple #[Rcd.val ⟨ro, rb, ri, K, H', S, s⟩ (.slice o2 m2 c2), .bool true]) (by rw [results_cell_tmp rfl]; exact rec_res HP.out.load) rfl ?_
    rw [decide_eq_true HYE.out, show takeRr b = ⟨ro, rb, ri, K, H', S, s⟩ from (if_pos HYE.out).trans (by rw [HXX.out]; exact HRX.out), show takeRd b = d from (if_pos HYE.out).trans (by rw [HXX.out]; exact HDX.out)]
    exact ⟨_, rfl, New.bs (New.far5 HGZ.out N5.out HG1.out.size fun k hk => heap8 (by have := HRL.out; omega)), HGZ.out⟩
theorem take_rec {W0 : World} (O : CellOk W0) (v : Value) (b : List Int) (w : World) (hw : Gr W0 w) (hl : b.length ≤ 1000) (h : Bs w v b) :
    Calls Tryd.prog 20 #[v] w fun e w' => ∃ u, e = .returned (.tuple #[(takeRr b).val u, .bool (decide (IsR b))]) ∧ Bs w' u (takeRd b) ∧ Gr w w' := by
  by_cases hi : Cell.Is b ∧ b.getD 3 0 = 1
  · exact take_rec_in O v b w hw h hi.1 hi.2
  · have hno : ¬ IsR b := fun h => hi ⟨h.1, h.2.1⟩
    rw [decide_eq_false hno, show takeRr b = rcd0 from if_neg hno, show takeRd b = [] from if_neg hno]
    refine (take_rec_ne O v b w hw hl h hi).mono ?_
    rintro e w' ⟨rfl, hg⟩
    exact ⟨_, rfl, Bs.nil _, hg⟩
theorem rec_ok {W0 : World} (O : CellOk W0) : RecOk W0 :=
  ⟨fun r v d w _ _ _ h => may_rec r v d w h, fun r v d w hw hf _ h => put_rec O r v d w hw hf.2.2.2.2.2.2 h, fun v b w hw hl h => take_rec O v b w hw hl h⟩
theorem rec_laid {W : World} (h : laidMetH Tryd.prog crcLaid W) : RecOk W := rec_ok (cell_laid h)
end Go.Proofs.YtjkfiimlaigdhaaDoor
