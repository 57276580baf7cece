/-
  Law RecordPuts, walked: which records may be, and their cells.
-/
import Derived.Test.YtjkfiimlaigdhaaDoorMgi
import Derived.Test.YtjkfiimlaigdhaaDoorMgb
import Derived.Deep.DeepCutAuto
import Derived.Deep.CutBlock
namespace Go.Proofs.YtjkfiimlaigdhaaDoor
open Go.RowKit

theorem fit_set_o {r : Rcd} {x : Int} (h : r.Fit) (hx : I64 x) : Rcd.Fit { r with o := x } := by
  obtain ⟨h1, h2, h3, h4, h5, h6, h7⟩ := h
  exact ⟨hx, h2, h3, h4, h5, h6, h7⟩
theorem fit_set_b {r : Rcd} {x : Int} (h : r.Fit) (hx : I64 x) : Rcd.Fit { r with b := x } := by
  obtain ⟨h1, h2, h3, h4, h5, h6, h7⟩ := h
  exact ⟨h1, hx, h3, h4, h5, h6, h7⟩
theorem fit_set_i {r : Rcd} {x : Int} (h : r.Fit) (hx : I64 x) : Rcd.Fit { r with i := x } := by
  obtain ⟨h1, h2, h3, h4, h5, h6, h7⟩ := h
  exact ⟨h1, h2, hx, h4, h5, h6, h7⟩
theorem fit_set_K {r : Rcd} {x : Int} (h : r.Fit) (hx : I64 x) : Rcd.Fit { r with K := x } := by
  obtain ⟨h1, h2, h3, h4, h5, h6, h7⟩ := h
  exact ⟨h1, h2, h3, hx, h5, h6, h7⟩
theorem fit_set_H {r : Rcd} {x : Int} (h : r.Fit) (hx : I64 x) : Rcd.Fit { r with H := x } := by
  obtain ⟨h1, h2, h3, h4, h5, h6, h7⟩ := h
  exact ⟨h1, h2, h3, h4, hx, h6, h7⟩
theorem fit_set_S {r : Rcd} {x : Int} (h : r.Fit) (hx : I64 x) : Rcd.Fit { r with S := x } := by
  obtain ⟨h1, h2, h3, h4, h5, h6, h7⟩ := h
  exact ⟨h1, h2, h3, h4, h5, hx, h7⟩
set_option maxRecDepth 100000 in
set_option maxHeartbeats 6400000 in
theorem recordPuts_walk (r : Rcd) (v : Value) (d : List Int) (object block id a b c' x sd what vv : Int) (w : World) (O : RecOk w) (h : Bs w v d) (hf : r.Fit) (hvv : I64 vv) :
    Calls Tryd.prog 3 #[r.val v, .int .i64 object, .int .i64 block, .int .i64 id, .int .i64 a, .int .i64 b, .int .i64 c', .int .i64 x, .int .u64 sd, .int .i64 what, .int .i64 vv] w fun e w' => e = .returned (.bool true) ∧ Gr w w' := by
  have HO := Lib.hid O
  obtain ⟨o, c, rfl⟩ := h.form5
  obtain ⟨n, hn⟩ : ∃ n, d.length = n := ⟨_, rfl⟩
  have HN := Lib.hid hn
  rw [hn] at h ⊢
  have H := Lib.hid h
  have HF0 := Lib.hid hf
  have HVV := Lib.hid hvv
  obtain ⟨m, hm6, hm7⟩ : ∃ m : Nat, what % 7 = m ∧ m < 7 := ⟨(what % 7).toNat, by omega, by omega⟩
  have HM6 := Lib.hid hm6
  obtain ⟨ro, rb, ri, rK, rH, rS, rs⟩ := r
  show Calls _ _ #[.agg #[.int .i64 ro, .int .i64 rb, .int .i64 ri, .int .i64 rK, .int .i64 rH, .int .i64 rS, .int .u32 (rs : Int), .slice o n c], _, _, _, _, _, _, _, _, _, _] _ _
  have A0 : Hid (RcAt (w.alloc (.cells #[.int .i64 ro, .int .i64 rb, .int .i64 ri, .int .i64 rK, .int .i64 rH, .int .i64 rS, .int .u32 (rs : Int), .slice o n c] 27)) w.heap.size ⟨ro, rb, ri, rK, rH, rS, rs⟩ (.slice o n c)) := Lib.hid (heap_alloc_new _ _)
  have G0 : Hid (Gr w (w.alloc (.cells #[.int .i64 ro, .int .i64 rb, .int .i64 ri, .int .i64 rK, .int .i64 rH, .int .i64 rS, .int .u32 (rs : Int), .slice o n c] 27))) := Lib.hid (Gr.alloc (Gr.refl _) _ _)
  clear O h hn hf hvv hm6
  go_enter Tryd.func3, Tryd.ntmps3
  go_upto_region 1 with fail
  generalize (w.alloc (.cells #[.int .i64 ro, .int .i64 rb, .int .i64 ri, .int .i64 rK, .int .i64 rH, .int .i64 rS, .int .u32 (rs : Int), .slice o n c] 27)) = W0 at *
  generalize w.heap.size = g0 at *
  obtain ⟨p0, p1, p2, p3, p4, p5, p6, p7⟩ := A0.out.cell
  by_cases hbig : (60 : Int) < (n : Int)
  · go_wp2_with fail
    refine (recWakes_any HO.out _ G0.out).mono ?_
    rintro e w1 ⟨rfl, hg1⟩
    have HG1 := Lib.hid (Gr.trans G0.out hg1)
    clear hg1
    go_wp2_with fail
    go_ret
    exact ⟨rfl, HG1.out⟩
  have hn60 : n ≤ 60 := by omega
  have B0 := Lib.hid (H.out.grown G0.out)
  go_wp2_with fail
  refine (made_any5 object block id a b c' x sd _).mono ?_
  rintro e w1 ⟨s0, u1, d1, he, hs, hd, hn1⟩
  have hfy := madeR_fit object block id a b c' s0 hs
  have hss : (madeR object block id a b c' s0).s = s0 := rfl
  obtain ⟨r1, hr⟩ : ∃ r, madeR object block id a b c' s0 = r := ⟨_, rfl⟩
  rw [hr] at he hfy hss
  obtain ⟨yo, yb, yi, yK, yH, yS, ys⟩ := r1
  simp only at hss
  subst hss
  have HDL : Hid (d1.length ≤ 24) := Lib.hid (by omega)
  obtain ⟨o1, n1, c1, rfl⟩ := New.form3 hn1
  obtain rfl : e = .returned (.agg #[.int .i64 yo, .int .i64 yb, .int .i64 yi, .int .i64 yK, .int .i64 yH, .int .i64 yS, .int .u32 (ys : Int), .slice o1 n1 c1]) := he
  have HF1 := Lib.hid hfy
  have A1 : Hid (RcAt (w1.alloc (.cells #[.int .i64 yo, .int .i64 yb, .int .i64 yi, .int .i64 yK, .int .i64 yH, .int .i64 yS, .int .u32 (ys : Int), .slice o1 n1 c1] 27)) w1.heap.size ⟨yo, yb, yi, yK, yH, yS, ys⟩ (.slice o1 n1 c1)) := Lib.hid (heap_alloc_new _ _)
  have ga := Gr.trans hn1.1 (Gr.alloc (Gr.refl _) (#[.int .i64 yo, .int .i64 yb, .int .i64 yi, .int .i64 yK, .int .i64 yH, .int .i64 yS, .int .u32 (ys : Int), .slice o1 n1 c1]) 27)
  have G1 := Lib.hid (Gr.trans G0.out ga)
  have A01 := Lib.hid (A0.out.grown ga)
  have B01 := Lib.hid (B0.out.grown ga)
  have B1 := Lib.hid ((New.bs hn1).grown (Gr.alloc (Gr.refl _) (#[.int .i64 yo, .int .i64 yb, .int .i64 yi, .int .i64 yK, .int .i64 yH, .int .i64 yS, .int .u32 (ys : Int), .slice o1 n1 c1]) 27))
  have HN1 : Hid (d1.length = n1 ∧ n1 ≤ 24) := Lib.hid (by
    obtain ⟨_, _, e⟩ := (New.bs hn1).form
    simp only [Value.slice.injEq] at e
    have h4 := e.2.1
    have := HDL.out
    omega)
  clear hr hfy hs hd hn1 ga A0 B0 G0 p0 p1 p2 p3 p4 p5 p6 p7 hbig
  go_upto_region 4 with fail
  generalize (w1.alloc (.cells #[.int .i64 yo, .int .i64 yb, .int .i64 yi, .int .i64 yK, .int .i64 yH, .int .i64 yS, .int .u32 (ys : Int), .slice o1 n1 c1] 27)) = W1 at *
  generalize w1.heap.size = g1 at *
  obtain ⟨p0, p1, p2, p3, p4, p5, p6, p7⟩ := A1.out.cell
  simp only at p0 p1 p2 p3 p4 p5 p6
  go_upto_region 5 with fail
  have G12 : Hid (Gr W1 (W1.alloc (.cells #[.int .i64 yo, .int .i64 yb, .int .i64 yi, .int .i64 yK, .int .i64 yH, .int .i64 yS, .int .u32 (ys : Int), .slice o1 n1 c1] 27))) := Lib.hid (Gr.alloc (Gr.refl _) _ _)
  have Q2 : Hid (RcAt (W1.alloc (.cells #[.int .i64 yo, .int .i64 yb, .int .i64 yi, .int .i64 yK, .int .i64 yH, .int .i64 yS, .int .u32 (ys : Int), .slice o1 n1 c1] 27)) W1.heap.size ⟨yo, yb, yi, yK, yH, yS, ys⟩ (.slice o1 n1 c1)) := Lib.hid (heap_alloc_new _ _)
  clear p0 p1 p2 p3 p4 p5 p6 p7
  generalize (W1.alloc (.cells #[.int .i64 yo, .int .i64 yb, .int .i64 yi, .int .i64 yK, .int .i64 yH, .int .i64 yS, .int .u32 (ys : Int), .slice o1 n1 c1] 27)) = W2 at *
  generalize hg2 : W1.heap.size = g2 at Q2 ⊢
  have HGE : Hid (W1.heap.size ≤ g2) := Lib.hid (Nat.le_of_eq hg2)
  obtain ⟨p0, p1, p2, p3, p4, p5, p6, p7⟩ := Q2.out.cell
  obtain ⟨f0, f1, f2, f3, f4, f5, f6, f7⟩ := Q2.out.frozen
  simp only at p0 p1 p2 p3 p4 p5 p6
  go_wp2_with fail
  refine (within_any what 7 (by omega) (by omega) _).mono ?_
  rw [HM6.out]
  rintro e w' ⟨rfl, rfl⟩
  go_upto_block 0 with fail
  go_cut [] (fun wx => ∃ (r2 : Rcd) (v2 : Value) (d2 : List Int), RcAt wx g2 r2 v2 ∧ Bs wx v2 d2 ∧ r2.Fit ∧ d2.length ≤ 100 ∧ Gr W1 wx)
  case first =>
    have hcs : m = 0 ∨ m = 1 ∨ m = 2 ∨ m = 3 ∨ m = 4 ∨ m = 5 ∨ m = 6 := by omega
    rcases hcs with rfl | rfl | rfl | rfl | rfl | rfl | rfl
    · have QZ := Lib.hid (Q2.out.set_o vv)
      have GZ := Lib.hid (G12.out.setCell (a := ⟨g2, 0, none⟩) HGE.out (.int .i64 vv))
      have FZ : Hid (Rcd.Fit _) := Lib.hid (fit_set_o HF1.out HVV.out)
      go_wp2_with fail
      go_meet
      exact ⟨_, _, d1, QZ.out, B1.out.grown GZ.out, FZ.out, by have := HDL.out; omega, GZ.out⟩
    · have QZ := Lib.hid (Q2.out.set_b vv)
      have GZ := Lib.hid (G12.out.setCell (a := ⟨g2, 1, none⟩) HGE.out (.int .i64 vv))
      have FZ : Hid (Rcd.Fit _) := Lib.hid (fit_set_b HF1.out HVV.out)
      go_wp2_with fail
      go_meet
      exact ⟨_, _, d1, QZ.out, B1.out.grown GZ.out, FZ.out, by have := HDL.out; omega, GZ.out⟩
    · have QZ := Lib.hid (Q2.out.set_i vv)
      have GZ := Lib.hid (G12.out.setCell (a := ⟨g2, 2, none⟩) HGE.out (.int .i64 vv))
      have FZ : Hid (Rcd.Fit _) := Lib.hid (fit_set_i HF1.out HVV.out)
      go_wp2_with fail
      go_meet
      exact ⟨_, _, d1, QZ.out, B1.out.grown GZ.out, FZ.out, by have := HDL.out; omega, GZ.out⟩
    · have QZ := Lib.hid (Q2.out.set_K vv)
      have GZ := Lib.hid (G12.out.setCell (a := ⟨g2, 3, none⟩) HGE.out (.int .i64 vv))
      have FZ : Hid (Rcd.Fit _) := Lib.hid (fit_set_K HF1.out HVV.out)
      go_wp2_with fail
      go_meet
      exact ⟨_, _, d1, QZ.out, B1.out.grown GZ.out, FZ.out, by have := HDL.out; omega, GZ.out⟩
    · have QZ := Lib.hid (Q2.out.set_H vv)
      have GZ := Lib.hid (G12.out.setCell (a := ⟨g2, 4, none⟩) HGE.out (.int .i64 vv))
      have FZ : Hid (Rcd.Fit _) := Lib.hid (fit_set_H HF1.out HVV.out)
      go_wp2_with fail
      go_meet
      exact ⟨_, _, d1, QZ.out, B1.out.grown GZ.out, FZ.out, by have := HDL.out; omega, GZ.out⟩
    · have QZ := Lib.hid (Q2.out.set_S vv)
      have GZ := Lib.hid (G12.out.setCell (a := ⟨g2, 5, none⟩) HGE.out (.int .i64 vv))
      have FZ : Hid (Rcd.Fit _) := Lib.hid (fit_set_S HF1.out HVV.out)
      go_wp2_with fail
      go_meet
      exact ⟨_, _, d1, QZ.out, B1.out.grown GZ.out, FZ.out, by have := HDL.out; omega, GZ.out⟩
    · have A2 := Lib.hid (A1.out.grown G12.out)
      obtain ⟨-, -, -, -, -, -, -, a7⟩ := A2.out.cell
      obtain ⟨i, hi, hi2⟩ : ∃ i : Nat, vv % 30 = i ∧ i < 30 := ⟨(vv % 30).toNat, by omega, by omega⟩
      have HI := Lib.hid hi
      have hn24 := HN1.out.2
      clear hi A2
      go_wp2_with (first
        | (at_builtin; have h := HA5; refine wpList_append_bytes rfl _ _ rfl W2.heap.size (.slice o5 n1 c5) n1 d1 rfl (HA5.out.alloc _) (some ⟨w5.heap.size, 0, none⟩) 1 1 [1] rfl (lit_bs1 [1] (by simp [Byt]) (by simp)) (by omega) (by have := G25.out.size; simp; omega) ?_; intro v6 w6 ho6 hg6; obtain ⟨o6, c6, rfl⟩ := ownsRow_form ho6; have O6 := Lib.hid ho6; have G26 : Hid (Gr W2 w6) := Lib.hid (Gr.append (Gr.alloc G25.out _ _) hg6 (ownsRow_base HA5.out)); clear ho6 hg6)
        | (at_builtin; refine wpList_append_bytes rfl _ _ rfl W2.heap.size (.slice none 0 0) 0 [] rfl (World.ownsRow_nil _ _ _ _) o1 n1 c1 d1 rfl (B1.out.grown G12.out) (by omega) (Nat.le_refl _) ?_; intro v5 w5 ho5 hg5; rw [Nat.zero_add, List.nil_append] at ho5; obtain ⟨o5, c5, rfl⟩ := ownsRow_form ho5; have HA5 := Lib.hid ho5; have G25 : Hid (Gr W2 w5) := Lib.hid (Gr.append (Gr.refl W2) hg5 (fun _ h => by cases h)); clear ho5 hg5))
      refine (within_any vv 30 (by omega) (by omega) _).mono ?_
      rw [HI.out]
      rintro e w' ⟨rfl, rfl⟩
      have BA : Hid (Bs w6 (.slice o6 (n1 + 1) c6) (d1 ++ [1])) := Lib.hid (by
        have hb : ∀ z ∈ d1 ++ [1], Byt z := fun z hz => by
          rcases List.mem_append.1 hz with h | h
          · exact B1.out.1 z h
          · obtain rfl := List.mem_singleton.1 h
            exact ⟨by decide, by decide⟩
        have hl : (d1 ++ [1]).length = n1 + 1 := by rw [List.length_append, HN1.out.1]; rfl
        exact New.bs (New.of_row (w := W2) G26.out hb (by rw [hl]; exact O6.out)))
      go_wp2_with fail
      refine (cut_any _ (d1 ++ [1]) i _ BA.out (by omega)).mono ?_
      rintro e w' ⟨v7, rfl, hb7, rfl⟩
      have Q6 := Lib.hid (Q2.out.grown G26.out)
      obtain ⟨-, -, -, -, -, -, -, j7⟩ := Q6.out.cell
      obtain ⟨-, -, -, -, -, -, -, e7⟩ := Q6.out.frozen
      obtain ⟨o7, n7, c7, rfl⟩ := hb7.any3
      have QZ := Lib.hid (Q6.out.bytes (.slice o7 n7 c7))
      have GZ : Hid (Gr W1 (w6.setCell ⟨g2, 7, none⟩ (.slice o7 n7 c7))) := Lib.hid ((Gr.trans G12.out G26.out).setCell (a := ⟨g2, 7, none⟩) HGE.out (.slice o7 n7 c7))
      have HLT : Hid (((d1 ++ [1]).take i).length ≤ 100) := Lib.hid (by rw [List.length_take]; omega)
      have BZ : Hid (Bs (w6.setCell ⟨g2, 7, none⟩ (.slice o7 n7 c7)) (.slice o7 n7 c7) ((d1 ++ [1]).take i)) := Lib.hid (by
        obtain ⟨h0, oa, cc, hv, h2, h3, h4, h5⟩ := hb7
        refine ⟨h0, oa, cc, hv, h2, h3, h4, fun ad ha k hk => ?_⟩
        rw [World.cell?_setCell_other]
        · exact h5 ad ha k hk
        · intro hc
          have h6 := h5 ad ha k hk
          rw [← hc, j7] at h6
          cases h6)
      clear hb7
      go_wp2_with fail
      go_meet
      exact ⟨_, _, _, QZ.out, BZ.out, HF1.out, HLT.out, GZ.out⟩
  case rest =>
    obtain ⟨⟨zo, zb, zi, zK, zH, zS, zs⟩, v2, d2, hq, hb, hfz, hd2, hg⟩ := hcut
    obtain ⟨o2, n2, c2, rfl⟩ := hb.any3
    have QC := Lib.hid hq
    have BC := Lib.hid hb
    have HFZ := Lib.hid hfz
    have HD2 := Lib.hid hd2
    have GC := Lib.hid (Gr.trans G1.out hg)
    have AC := Lib.hid (A1.out.grown hg)
    have DC := Lib.hid (B1.out.grown hg)
    have A0C := Lib.hid (A01.out.grown hg)
    have B0C := Lib.hid (B01.out.grown hg)
    clear hq hb hfz hd2 hg A1 B1 G12 HGE Q2 G1 A01 B01 p0 p1 p2 p3 p4 p5 p6 p7 f0 f1 f2 f3 f4 f5 f6 f7 hg2
    obtain ⟨p0, p1, p2, p3, p4, p5, p6, p7⟩ := A0C.out.cell
    obtain ⟨a0, a1, a2, a3, a4, a5, a6, a7⟩ := AC.out.cell
    obtain ⟨q0, q1, q2, q3, q4, q5, q6, q7⟩ := QC.out.cell
    simp only at p0 p1 p2 p3 p4 p5 p6 a0 a1 a2 a3 a4 a5 a6 q0 q1 q2 q3 q4 q5 q6
    have C0 : Hid ((wc.alloc (.cells #[.int .i64 ro, .int .i64 rb, .int .i64 ri, .int .i64 rK, .int .i64 rH, .int .i64 rS, .int .u32 (rs : Int), .slice o n c, .int .i64 yo, .int .i64 yb, .int .i64 yi, .int .i64 yK, .int .i64 yH, .int .i64 yS, .int .u32 (ys : Int), .slice o1 n1 c1, .int .i64 zo, .int .i64 zb, .int .i64 zi, .int .i64 zK, .int .i64 zH, .int .i64 zS, .int .u32 (zs : Int), .slice o2 n2 c2] 27)).heap[wc.heap.size]? = some (.cells #[.int .i64 ro, .int .i64 rb, .int .i64 ri, .int .i64 rK, .int .i64 rH, .int .i64 rS, .int .u32 (rs : Int), .slice o n c, .int .i64 yo, .int .i64 yb, .int .i64 yi, .int .i64 yK, .int .i64 yH, .int .i64 yS, .int .u32 (ys : Int), .slice o1 n1 c1, .int .i64 zo, .int .i64 zb, .int .i64 zi, .int .i64 zK, .int .i64 zH, .int .i64 zS, .int .u32 (zs : Int), .slice o2 n2 c2] 27 (0, 0))) := Lib.hid (heap_alloc_new _ _)
    have ga := Gr.alloc (Gr.refl wc) (#[.int .i64 ro, .int .i64 rb, .int .i64 ri, .int .i64 rK, .int .i64 rH, .int .i64 rS, .int .u32 (rs : Int), .slice o n c, .int .i64 yo, .int .i64 yb, .int .i64 yi, .int .i64 yK, .int .i64 yH, .int .i64 yS, .int .u32 (ys : Int), .slice o1 n1 c1, .int .i64 zo, .int .i64 zb, .int .i64 zi, .int .i64 zK, .int .i64 zH, .int .i64 zS, .int .u32 (zs : Int), .slice o2 n2 c2]) 27
    have G9 := Lib.hid (Gr.trans GC.out ga)
    have X0 := Lib.hid (B0C.out.grown ga)
    have X1 := Lib.hid (DC.out.grown ga)
    have X2 := Lib.hid (BC.out.grown ga)
    clear ga
    go_wp2_with fail
    generalize (wc.alloc (.cells #[.int .i64 ro, .int .i64 rb, .int .i64 ri, .int .i64 rK, .int .i64 rH, .int .i64 rS, .int .u32 (rs : Int), .slice o n c, .int .i64 yo, .int .i64 yb, .int .i64 yi, .int .i64 yK, .int .i64 yH, .int .i64 yS, .int .u32 (ys : Int), .slice o1 n1 c1, .int .i64 zo, .int .i64 zb, .int .i64 zi, .int .i64 zK, .int .i64 zH, .int .i64 zS, .int .u32 (zs : Int), .slice o2 n2 c2] 27)) = W9 at *
    generalize wc.heap.size = gl at *
    clear QC BC GC AC DC A0C B0C p0 p1 p2 p3 p4 p5 p6 p7 a0 a1 a2 a3 a4 a5 a6 a7 q0 q1 q2 q3 q4 q5 q6 q7
    have HML : Hid (d.length ≤ 100) := Lib.hid (by rw [HN.out]; omega)
    go_loopw [86] (fun iv W => ∃ t : Nat, t ≤ 3 ∧ iv = .int .i64 t ∧ W.heap[gl]? = some (.cells #[.int .i64 ro, .int .i64 rb, .int .i64 ri, .int .i64 rK, .int .i64 rH, .int .i64 rS, .int .u32 (rs : Int), .slice o n c, .int .i64 yo, .int .i64 yb, .int .i64 yi, .int .i64 yK, .int .i64 yH, .int .i64 yS, .int .u32 (ys : Int), .slice o1 n1 c1, .int .i64 zo, .int .i64 zb, .int .i64 zi, .int .i64 zK, .int .i64 zH, .int .i64 zS, .int .u32 (zs : Int), .slice o2 n2 c2] 27 (0, 0)) ∧ Bs W (.slice o n c) d ∧ Bs W (.slice o1 n1 c1) d1 ∧ Bs W (.slice o2 n2 c2) d2 ∧ Gr w W) (fun iv _ => 3 - (intOf iv).toNat)
    case atStart => exact ⟨0, by omega, rfl, C0.out, X0.out, X1.out, X2.out, G9.out⟩
    case round =>
      obtain ⟨wi, hwi⟩ : ∃ x, x = wr := ⟨_, rfl⟩
      subst hwi
      obtain ⟨t, ht, rfl, hc, hb0, hb1, hb2, hg⟩ := hrel
      clear C0 X0 X1 X2 G9
      by_cases hlt : t < 3
      · obtain ⟨rq, oq, nq, cq, dq, hfq, hdq, hbq, hcq⟩ : ∃ (rq : Rcd) (oq : Option Addr) (nq cq : Nat) (dq : List Int), rq.Fit ∧ dq.length ≤ 100 ∧ Bs wi (.slice oq nq cq) dq ∧ ∀ j, j < 8 → wi.cell? ⟨gl, t * 8 + j, none⟩ = some (#[.int .i64 rq.o, .int .i64 rq.b, .int .i64 rq.i, .int .i64 rq.K, .int .i64 rq.H, .int .i64 rq.S, .int .u32 (rq.s : Int), .slice oq nq cq].getD j undef) := by
          rcases (by omega : t = 0 ∨ t = 1 ∨ t = 2) with rfl | rfl | rfl
          · refine ⟨⟨ro, rb, ri, rK, rH, rS, rs⟩, o, n, c, d, HF0.out, HML.out, hb0, fun j hj => ?_⟩
            rw [cell_of_row _ _ _ _ _ _ hc]
            rcases (by omega : j = 0 ∨ j = 1 ∨ j = 2 ∨ j = 3 ∨ j = 4 ∨ j = 5 ∨ j = 6 ∨ j = 7) with rfl | rfl | rfl | rfl | rfl | rfl | rfl | rfl <;> rfl
          · refine ⟨⟨yo, yb, yi, yK, yH, yS, ys⟩, o1, n1, c1, d1, HF1.out, by have := HDL.out; omega, hb1, fun j hj => ?_⟩
            rw [cell_of_row _ _ _ _ _ _ hc]
            rcases (by omega : j = 0 ∨ j = 1 ∨ j = 2 ∨ j = 3 ∨ j = 4 ∨ j = 5 ∨ j = 6 ∨ j = 7) with rfl | rfl | rfl | rfl | rfl | rfl | rfl | rfl <;> rfl
          · refine ⟨⟨zo, zb, zi, zK, zH, zS, zs⟩, o2, n2, c2, d2, HFZ.out, HD2.out, hb2, fun j hj => ?_⟩
            rw [cell_of_row _ _ _ _ _ _ hc]
            rcases (by omega : j = 0 ∨ j = 1 ∨ j = 2 ∨ j = 3 ∨ j = 4 ∨ j = 5 ∨ j = 6 ∨ j = 7) with rfl | rfl | rfl | rfl | rfl | rfl | rfl | rfl <;> rfl
        have HALL : Hid (∀ W, Gr wi W → W.heap[gl]? = some (.cells #[.int .i64 ro, .int .i64 rb, .int .i64 ri, .int .i64 rK, .int .i64 rH, .int .i64 rS, .int .u32 (rs : Int), .slice o n c, .int .i64 yo, .int .i64 yb, .int .i64 yi, .int .i64 yK, .int .i64 yH, .int .i64 yS, .int .u32 (ys : Int), .slice o1 n1 c1, .int .i64 zo, .int .i64 zb, .int .i64 zi, .int .i64 zK, .int .i64 zH, .int .i64 zS, .int .u32 (zs : Int), .slice o2 n2 c2] 27 (0, 0)) ∧ Bs W (.slice o n c) d ∧ Bs W (.slice o1 n1 c1) d1 ∧ Bs W (.slice o2 n2 c2) d2 ∧ Gr w W) := Lib.hid fun W hW => ⟨keptRow hW hc, hb0.grown hW, hb1.grown hW, hb2.grown hW, hg.trans hW⟩
        have HGW := Lib.hid hg
        have HFQ := Lib.hid hfq
        have HDQ := Lib.hid hdq
        have HBQ := Lib.hid hbq
        obtain ⟨qo, qb, qi, qK, qH, qS, qs⟩ := rq
        simp only at hcq
        have k0 := hcq 0 (by omega)
        have k1 := hcq 1 (by omega)
        have k2 := hcq 2 (by omega)
        have k3 := hcq 3 (by omega)
        have k4 := hcq 4 (by omega)
        have k5 := hcq 5 (by omega)
        have k6 := hcq 6 (by omega)
        have k7 := hcq 7 (by omega)
        rw [Nat.add_zero] at k0
        clear hc hb0 hb1 hb2 hg hfq hdq hbq hcq
        go_upto_region 22 with fail
        have AQ1 : Hid (RcAt (wi.alloc (.cells #[.int .i64 qo, .int .i64 qb, .int .i64 qi, .int .i64 qK, .int .i64 qH, .int .i64 qS, .int .u32 (qs : Int), .slice oq nq cq] 27)) wi.heap.size ⟨qo, qb, qi, qK, qH, qS, qs⟩ (.slice oq nq cq)) := Lib.hid (heap_alloc_new _ _)
        have GA1 : Hid (Gr wi (wi.alloc (.cells #[.int .i64 qo, .int .i64 qb, .int .i64 qi, .int .i64 qK, .int .i64 qH, .int .i64 qS, .int .u32 (qs : Int), .slice oq nq cq] 27))) := Lib.hid (Gr.alloc (Gr.refl _) _ _)
        have HSQ : Hid (wi.heap.size ≤ (wi.alloc (.cells #[.int .i64 qo, .int .i64 qb, .int .i64 qi, .int .i64 qK, .int .i64 qH, .int .i64 qS, .int .u32 (qs : Int), .slice oq nq cq] 27)).heap.size) := Lib.hid GA1.out.size
        clear k0 k1 k2 k3 k4 k5 k6 k7
        generalize (wi.alloc (.cells #[.int .i64 qo, .int .i64 qb, .int .i64 qi, .int .i64 qK, .int .i64 qH, .int .i64 qS, .int .u32 (qs : Int), .slice oq nq cq] 27)) = W1 at *
        generalize wi.heap.size = gq at *
        obtain ⟨k0, k1, k2, k3, k4, k5, k6, k7⟩ := AQ1.out.cell
        simp only at k0 k1 k2 k3 k4 k5 k6
        go_upto_region 23 with fail
        have AI2 : Hid (RcAt (W1.alloc (.cells #[.int .i64 qo, .int .i64 qb, .int .i64 qi, .int .i64 qK, .int .i64 qH, .int .i64 qS, .int .u32 (qs : Int), .slice oq nq cq] 27)) W1.heap.size ⟨qo, qb, qi, qK, qH, qS, qs⟩ (.slice oq nq cq)) := Lib.hid (heap_alloc_new _ _)
        have GA2 : Hid (Gr W1 (W1.alloc (.cells #[.int .i64 qo, .int .i64 qb, .int .i64 qi, .int .i64 qK, .int .i64 qH, .int .i64 qS, .int .u32 (qs : Int), .slice oq nq cq] 27))) := Lib.hid (Gr.alloc (Gr.refl _) _ _)
        have AQ2 := Lib.hid (AQ1.out.grown GA2.out)
        have HNI : Hid (gq ≠ W1.heap.size) := Lib.hid (by have := (Array.getElem?_eq_some_iff.1 AQ1.out).1; omega)
        clear k0 k1 k2 k3 k4 k5 k6 k7 AQ1
        generalize (W1.alloc (.cells #[.int .i64 qo, .int .i64 qb, .int .i64 qi, .int .i64 qK, .int .i64 qH, .int .i64 qS, .int .u32 (qs : Int), .slice oq nq cq] 27)) = W2 at *
        generalize hgi : W1.heap.size = gi at *
        have HGI : Hid (W1.heap.size ≤ gi) := Lib.hid (Nat.le_of_eq hgi)
        obtain ⟨-, -, -, -, -, -, -, k7⟩ := AQ2.out.cell
        go_wp2_with fail
        have HNQ : Hid (dq.length = nq) := Lib.hid (by
          obtain ⟨_, _, e⟩ := HBQ.out.form
          simp only [Value.slice.injEq] at e
          exact e.2.1.symm)
        have hsp := spare_any (.slice oq nq cq) dq 71 _ (HBQ.out.grown (Gr.trans GA1.out GA2.out)) (by have := HDQ.out; omega)
        rw [HNQ.out] at hsp
        refine hsp.mono ?_
        rintro e w3 ⟨gs, rfl, hgs, hb3, hg3⟩
        have AI3 := Lib.hid (AI2.out.grown hg3)
        obtain ⟨-, -, -, -, -, -, -, j7⟩ := AI3.out.cell
        obtain ⟨-, -, -, -, -, -, -, e7⟩ := AI3.out.frozen
        have AI4 := Lib.hid (AI3.out.bytes (.slice (some ⟨gs, 0, none⟩) nq (nq + 2)))
        have AQ4 := Lib.hid ((AQ2.out.grown hg3).other HNI.out 7 (.slice (some ⟨gs, 0, none⟩) nq (nq + 2)))
        have HSI : Hid (gs ≠ gi) := Lib.hid (by have := (Array.getElem?_eq_some_iff.1 AI2.out).1; omega)
        have BLK : Hid (Blk (w3.setCell ⟨gi, 7, none⟩ (.slice (some ⟨gs, 0, none⟩) nq (nq + 2))) gs (dq ++ [71, 71])) := Lib.hid ((heap_setCell_other _ _ _ _ HSI.out).trans hb3)
        have G14 : Hid (Gr W1 (w3.setCell ⟨gi, 7, none⟩ (.slice (some ⟨gs, 0, none⟩) nq (nq + 2)))) := Lib.hid ((Gr.trans GA2.out hg3).setCell (a := ⟨gi, 7, none⟩) HGI.out (.slice (some ⟨gs, 0, none⟩) nq (nq + 2)))
        have HQ4 := Lib.hid (HBQ.out.grown (Gr.trans GA1.out G14.out))
        have HIN : Hid (Bs (w3.setCell ⟨gi, 7, none⟩ (.slice (some ⟨gs, 0, none⟩) nq (nq + 2))) (.slice (some ⟨gs, 0, none⟩) nq (nq + 2)) dq) := Lib.hid (by
          have := Blk.bs_pre BLK.out HBQ.out.1 (by simp; have := HNQ.out; have := HDQ.out; omega)
          rw [HNQ.out] at this
          simpa [HNQ.out] using this)
        clear hsp hb3 hgs hg3 AI2 AQ2 GA2 k7
        go_upto_region 24 with fail
        generalize w3.setCell ⟨gi, 7, none⟩ (.slice (some ⟨gs, 0, none⟩) nq (nq + 2)) = W4 at *
        clear j7 e7 AI3
        have HSA : Hid (∀ W, Gr W4 W → W.cell? ⟨gi, 0, none⟩ = some (.int .i64 qo) ∧ W.cell? ⟨gi, 1, none⟩ = some (.int .i64 qb) ∧ W.cell? ⟨gi, 2, none⟩ = some (.int .i64 qi) ∧ W.cell? ⟨gi, 3, none⟩ = some (.int .i64 qK) ∧ W.cell? ⟨gi, 4, none⟩ = some (.int .i64 qH) ∧ W.cell? ⟨gi, 5, none⟩ = some (.int .i64 qS) ∧ W.cell? ⟨gi, 6, none⟩ = some (.int .u32 (qs : Int)) ∧ W.cell? ⟨gi, 7, none⟩ = some (.slice (some ⟨gs, 0, none⟩) nq (nq + 2)) ∧ W.cell? ⟨gq, 0, none⟩ = some (.int .i64 qo) ∧ W.cell? ⟨gq, 1, none⟩ = some (.int .i64 qb) ∧ W.cell? ⟨gq, 2, none⟩ = some (.int .i64 qi) ∧ W.cell? ⟨gq, 3, none⟩ = some (.int .i64 qK) ∧ W.cell? ⟨gq, 4, none⟩ = some (.int .i64 qH) ∧ W.cell? ⟨gq, 5, none⟩ = some (.int .i64 qS) ∧ W.cell? ⟨gq, 6, none⟩ = some (.int .u32 (qs : Int)) ∧ W.cell? ⟨gq, 7, none⟩ = some (.slice oq nq cq)) := Lib.hid fun W hW => by
          obtain ⟨q0, q1, q2, q3, q4, q5, q6, q7⟩ := (AI4.out.grown hW).cell
          obtain ⟨a0, a1, a2, a3, a4, a5, a6, a7⟩ := (AQ4.out.grown hW).cell
          exact ⟨q0, q1, q2, q3, q4, q5, q6, q7, a0, a1, a2, a3, a4, a5, a6, a7⟩
        obtain ⟨bm, hbm⟩ : ∃ b, decide (MayR ⟨qo, qb, qi, qK, qH, qS, qs⟩ dq) = b := ⟨_, rfl⟩
        have HBM := Lib.hid hbm
        clear hbm
        have hbn : (bm != bm) = false := by simp
        have sc := HSA.out W4 (Gr.refl _)
        have s0 := HSA.out W4.drew (Gr.drew (Gr.refl _))
        go_region_held3 (fun W => W.cell? ⟨gi, 0, none⟩ = some (.int .i64 qo) ∧ W.cell? ⟨gi, 1, none⟩ = some (.int .i64 qb) ∧ W.cell? ⟨gi, 2, none⟩ = some (.int .i64 qi) ∧ W.cell? ⟨gi, 3, none⟩ = some (.int .i64 qK) ∧ W.cell? ⟨gi, 4, none⟩ = some (.int .i64 qH) ∧ W.cell? ⟨gi, 5, none⟩ = some (.int .i64 qS) ∧ W.cell? ⟨gi, 6, none⟩ = some (.int .u32 (qs : Int)) ∧ W.cell? ⟨gi, 7, none⟩ = some (.slice (some ⟨gs, 0, none⟩) nq (nq + 2)) ∧ W.cell? ⟨gq, 0, none⟩ = some (.int .i64 qo) ∧ W.cell? ⟨gq, 1, none⟩ = some (.int .i64 qb) ∧ W.cell? ⟨gq, 2, none⟩ = some (.int .i64 qi) ∧ W.cell? ⟨gq, 3, none⟩ = some (.int .i64 qK) ∧ W.cell? ⟨gq, 4, none⟩ = some (.int .i64 qH) ∧ W.cell? ⟨gq, 5, none⟩ = some (.int .i64 qS) ∧ W.cell? ⟨gq, 6, none⟩ = some (.int .u32 (qs : Int)) ∧ W.cell? ⟨gq, 7, none⟩ = some (.slice oq nq cq)) (first | with_reducible exact s6 | with_reducible exact s5 | with_reducible exact s4 | with_reducible exact s3 | with_reducible exact s2 | with_reducible exact s1 | with_reducible exact s0 | with_reducible exact sc)
          (first
            | (go_at_call 17; have h := M5; clear h; have hkp := kept_true gs dq (.slice oq nq cq) 71 _ (BLK.out.grown V5.out) HBQ.out.1 (HQ4.out.grown V5.out) (by have := HDQ.out; omega); rw [HNQ.out] at hkp; refine hkp.mono ?_; rintro e v6 ⟨rfl, hg6⟩; have V6 : Hid (Gr W4 v6) := Lib.hid (Gr.trans V5.out hg6); have s6 := HSA.out v6 V6.out; clear hg6 hkp; have M6 := True.intro)
            | (go_at_call 14; have h := M4; clear h; (fail_if_success have h := M5); refine (same_any _ _ (putR ⟨qo, qb, qi, qK, qH, qS, qs⟩ dq) (putR ⟨qo, qb, qi, qK, qH, qS, qs⟩ dq) _ (N3.out.grown G4'.out) N4.out).mono ?_; rw [beq_self_eq_true]; rintro e v5 ⟨rfl, hg5⟩; have V5 : Hid (Gr W4 v5) := Lib.hid (Gr.trans V4.out hg5); have s5 := HSA.out v5 V5.out; clear hg5; have M5 := True.intro)
            | (go_at_call 16; have h := M3; clear h; (fail_if_success have h := M4); refine (refPutR_any ⟨qo, qb, qi, qK, qH, qS, qs⟩ _ dq _ HFQ.out.2.2.2.2.2.2 (HQ4.out.grown V3.out)).mono ?_; rintro e v4 ⟨u4, rfl, hn4⟩; obtain ⟨o6, n6, c6, rfl⟩ := New.form3 hn4; have N4 := Lib.hid (New.bs hn4); have G4' := Lib.hid hn4.1; have V4 : Hid (Gr W4 v4) := Lib.hid (Gr.trans V3.out hn4.1); have s4 := HSA.out v4 V4.out; clear hn4; have M4 := True.intro)
            | (go_at_call 15; have h := M2; clear h; (fail_if_success have h := M3); refine (HO.out.put ⟨qo, qb, qi, qK, qH, qS, qs⟩ _ dq _ (Gr.trans HGW.out (Gr.trans GA1.out (Gr.trans G14.out V2.out))) HFQ.out (by have := HDQ.out; omega) (HIN.out.grown V2.out)).mono ?_; rintro e v3 ⟨u3, rfl, hn3⟩; obtain ⟨o7, n7, c7, rfl⟩ := New.form3 hn3; have N3 := Lib.hid (New.bs hn3); have V3 : Hid (Gr W4 v3) := Lib.hid (Gr.trans V2.out hn3.1); have s3 := HSA.out v3 V3.out; clear hn3; have M3 := True.intro)
            | (go_at_call 13; have h := M1; clear h; (fail_if_success have h := M2); refine (refMayR_any ⟨qo, qb, qi, qK, qH, qS, qs⟩ _ dq _ (HQ4.out.grown V1.out)).mono ?_; rw [HBM.out]; rintro e v2 ⟨rfl, hg2⟩; have V2 : Hid (Gr W4 v2) := Lib.hid (Gr.trans V1.out hg2); have s2 := HSA.out v2 V2.out; clear hg2; have M2 := True.intro)
            | (go_at_call 12; (fail_if_success have h := M1); refine (HO.out.may ⟨qo, qb, qi, qK, qH, qS, qs⟩ _ dq _ (Gr.trans HGW.out (Gr.trans GA1.out (Gr.trans G14.out (Gr.drew (Gr.refl _))))) HFQ.out (by have := HDQ.out; omega) (HIN.out.grown (Gr.drew (Gr.refl _)))).mono ?_; rw [HBM.out]; rintro e v1 ⟨rfl, hg1⟩; have V1 : Hid (Gr W4 v1) := Lib.hid (Gr.trans (Gr.drew (Gr.refl _)) hg1); have s1 := HSA.out v1 V1.out; clear hg1; have M1 := True.intro))
        all_goals (try go_simp)
        have hall := HALL.out _ (Gr.trans GA1.out (Gr.trans G14.out V6.out))
        go_wp2_with fail
        exact ⟨⟨t + 1, by omega, by go_num, hall⟩, by simp [intOf]; omega⟩
      · obtain rfl : t = 3 := by omega
        have HG := Lib.hid hg
        clear hc hb0 hb1 hb2 hg
        go_wp2_with fail
        refine (recWakes_any HO.out _ HG.out).mono ?_
        rintro e w9 ⟨rfl, hg9⟩
        have HG9 := Lib.hid (Gr.trans HG.out hg9)
        clear hg9 HG
        go_wp2_with fail
        go_ret
        exact ⟨rfl, HG9.out⟩
end Go.Proofs.YtjkfiimlaigdhaaDoor
