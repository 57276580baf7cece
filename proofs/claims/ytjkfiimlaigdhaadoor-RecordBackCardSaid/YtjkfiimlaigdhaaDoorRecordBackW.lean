/-
  Law RecordBack, walked: what is put comes back; of another kind it is none.
-/
import Derived.Test.YtjkfiimlaigdhaaDoorMgi
import Derived.Deep.DeepCutAuto
namespace Go.Proofs.YtjkfiimlaigdhaaDoor
open Go.RowKit

theorem isR_kind {k : Int} {X : List Int} (hk : 1 ≤ k ∧ k ≤ 255) (hl : X.length ≤ 55) (h : IsR (Cell.put k X)) : k = 1 := by
  have := h.2.1
  rw [Cell.put_in ⟨hk.1, hk.2, hl⟩, Cell.cell_three] at this
  exact this
set_option maxRecDepth 100000 in
set_option maxHeartbeats 3200000 in
theorem recordBack_walk (object block id a b c x sd kind : Int) (w : World) (O : RecOk w) (C : CellOk w) :
    Calls Tryd.prog 5 #[.int .i64 object, .int .i64 block, .int .i64 id, .int .i64 a, .int .i64 b, .int .i64 c, .int .i64 x, .int .u64 sd, .int .i64 kind] w fun e w' => e = .returned (.bool true) ∧ Gr w w' := by
  have HO := Lib.hid O
  have HCO := Lib.hid C
  obtain ⟨k, hk, hk1, hk2⟩ : ∃ k : Int, 1 + kind % 255 = k ∧ 1 ≤ k ∧ k ≤ 255 := ⟨_, rfl, by omega, by omega⟩
  have HK := Lib.hid hk
  clear O C hk
  go_enter Tryd.func5, Tryd.ntmps5
  go_wp2_with fail
  refine (made_any5 object block id a b c x sd _).mono ?_
  rintro e w1 ⟨s0, u1, d, he, hs, hd, hn⟩
  have hm := madeR_may object block id a b c s0 d hd
  have hf := madeR_fit object block id a b c s0 hs
  have hss : (madeR object block id a b c s0).s = s0 := rfl
  obtain ⟨r, hr⟩ : ∃ r, madeR object block id a b c s0 = r := ⟨_, rfl⟩
  rw [hr] at he hm hf hss
  obtain ⟨ro, rb, ri, K, H', S, s⟩ := r
  simp only at hss
  subst hss
  obtain ⟨o1, n1, c1, rfl⟩ := New.form3 hn
  obtain rfl : e = .returned (.agg #[.int .i64 ro, .int .i64 rb, .int .i64 ri, .int .i64 K, .int .i64 H', .int .i64 S, .int .u32 (s : Int), (.slice o1 n1 c1)]) := he
  have HDL : Hid (d.length ≤ 24) := Lib.hid (by omega)
  have HM := Lib.hid hm
  have HF := Lib.hid hf
  have HT := Lib.hid (isR_put hm hs)
  have HL := Lib.hid (putR_len hm)
  have HE := Lib.hid (putR_in hm)
  have A1 : Hid (RcAt (w1.alloc (.cells #[.int .i64 ro, .int .i64 rb, .int .i64 ri, .int .i64 K, .int .i64 H', .int .i64 S, .int .u32 (s : Int), (.slice o1 n1 c1)] 27)) w1.heap.size ⟨ro, rb, ri, K, H', S, s⟩ (.slice o1 n1 c1)) := Lib.hid (heap_alloc_new _ _)
  have G1 : Hid (Gr w (w1.alloc (.cells #[.int .i64 ro, .int .i64 rb, .int .i64 ri, .int .i64 K, .int .i64 H', .int .i64 S, .int .u32 (s : Int), (.slice o1 n1 c1)] 27))) := Lib.hid (Gr.alloc hn.1 _ _)
  have B1 := Lib.hid ((New.bs hn).grown (Gr.alloc (Gr.refl _) (#[.int .i64 ro, .int .i64 rb, .int .i64 ri, .int .i64 K, .int .i64 H', .int .i64 S, .int .u32 (s : Int), (.slice o1 n1 c1)]) 27))
  clear hr hm hf hs hd hn
  go_upto_region 2 with fail
  generalize (w1.alloc (.cells #[.int .i64 ro, .int .i64 rb, .int .i64 ri, .int .i64 K, .int .i64 H', .int .i64 S, .int .u32 (s : Int), (.slice o1 n1 c1)] 27)) = W1 at *
  generalize w1.heap.size = g1 at *
  obtain ⟨p0, p1, p2, p3, p4, p5, p6, p7⟩ := A1.out.cell
  simp only at p0 p1 p2 p3 p4 p5 p6
  go_wp2_with fail
  refine (HO.out.put ⟨ro, rb, ri, K, H', S, s⟩ _ d _ G1.out HF.out (by have := HDL.out; omega) B1.out).mono ?_
  rintro e w2 ⟨u2, rfl, hn2⟩
  obtain ⟨X, hX⟩ : ∃ X, putR ⟨ro, rb, ri, K, H', S, s⟩ d = X := ⟨_, rfl⟩
  rw [hX] at hn2 HT HL HE
  have HXX := Lib.hid hX
  obtain ⟨o2, c2, e2⟩ := (New.bs hn2).form5
  rw [HL.out] at e2
  subst e2
  have A2 := Lib.hid (A1.out.grown hn2.1)
  have B2 := Lib.hid (B1.out.grown hn2.1)
  have G2 := Lib.hid (Gr.trans G1.out hn2.1)
  have X2 := Lib.hid (New.bs hn2)
  clear hn2 hX A1 B1 G1 p0 p1 p2 p3 p4 p5 p6 p7
  go_wp2_with fail
  refine (HO.out.take _ X _ G2.out (by rw [HL.out]; omega) X2.out).mono ?_
  rw [HT.out.2.1, HT.out.2.2, decide_eq_true HT.out.1]
  rintro e w3 ⟨u3, he, hb3, hg3⟩
  obtain ⟨o3, n3, c3, rfl⟩ := hb3.any3
  obtain rfl : e = .returned (.tuple #[.agg #[.int .i64 ro, .int .i64 rb, .int .i64 ri, .int .i64 K, .int .i64 H', .int .i64 S, .int .u32 (s : Int), (.slice o3 n3 c3)], .bool true]) := he
  have hgA := Gr.trans hg3 (Gr.alloc (Gr.refl _) (#[.int .i64 ro, .int .i64 rb, .int .i64 ri, .int .i64 K, .int .i64 H', .int .i64 S, .int .u32 (s : Int), (.slice o3 n3 c3)]) 27)
  have A3 := Lib.hid (A2.out.grown hgA)
  have B3 := Lib.hid (B2.out.grown hgA)
  have G3 := Lib.hid (Gr.trans G2.out hgA)
  have X3 := Lib.hid (X2.out.grown hgA)
  have Q3 : Hid (RcAt (w3.alloc (.cells #[.int .i64 ro, .int .i64 rb, .int .i64 ri, .int .i64 K, .int .i64 H', .int .i64 S, .int .u32 (s : Int), (.slice o3 n3 c3)] 27)) w3.heap.size ⟨ro, rb, ri, K, H', S, s⟩ (.slice o3 n3 c3)) := Lib.hid (heap_alloc_new _ _)
  have D3 := Lib.hid (hb3.grown (Gr.alloc (Gr.refl _) (#[.int .i64 ro, .int .i64 rb, .int .i64 ri, .int .i64 K, .int .i64 H', .int .i64 S, .int .u32 (s : Int), (.slice o3 n3 c3)]) 27))
  clear hg3 hb3 hgA A2 B2 G2 X2
  go_upto_region 4 with fail
  generalize (w3.alloc (.cells #[.int .i64 ro, .int .i64 rb, .int .i64 ri, .int .i64 K, .int .i64 H', .int .i64 S, .int .u32 (s : Int), (.slice o3 n3 c3)] 27)) = W3 at *
  generalize w3.heap.size = g3 at *
  obtain ⟨p0, p1, p2, p3, p4, p5, p6, p7⟩ := A3.out.cell
  obtain ⟨q0, q1, q2, q3, q4, q5, q6, q7⟩ := Q3.out.cell
  simp only at p0 p1 p2 p3 p4 p5 p6 q0 q1 q2 q3 q4 q5 q6
  go_wp2_with fail
  refine (HO.out.may ⟨ro, rb, ri, K, H', S, s⟩ _ d _ G3.out HF.out (by have := HDL.out; omega) B3.out).mono ?_
  rw [decide_eq_true HM.out]
  rintro e w4 ⟨rfl, hg4⟩
  have A4 := Lib.hid (A3.out.grown hg4)
  have B4 := Lib.hid (B3.out.grown hg4)
  have G4 := Lib.hid (Gr.trans G3.out hg4)
  have X4 := Lib.hid (X3.out.grown hg4)
  have Q4 := Lib.hid (Q3.out.grown hg4)
  have D4 := Lib.hid (D3.out.grown hg4)
  clear hg4 A3 B3 G3 X3 Q3 D3 p0 p1 p2 p3 p4 p5 p6 p7 q0 q1 q2 q3 q4 q5 q6 q7
  obtain ⟨p0, p1, p2, p3, p4, p5, p6, p7⟩ := A4.out.cell
  obtain ⟨q0, q1, q2, q3, q4, q5, q6, q7⟩ := Q4.out.cell
  simp only at p0 p1 p2 p3 p4 p5 p6 q0 q1 q2 q3 q4 q5 q6
  go_wp2_with fail
  refine (sameR_any ⟨ro, rb, ri, K, H', S, s⟩ ⟨ro, rb, ri, K, H', S, s⟩ _ _ d d _ true (by simp) D4.out B4.out).mono ?_
  rintro e w5 ⟨rfl, hg5⟩
  have A5 := Lib.hid (A4.out.grown hg5)
  have G5 := Lib.hid (Gr.trans G4.out hg5)
  have X5 := Lib.hid (X4.out.grown hg5)
  have Q5 := Lib.hid (Q4.out.grown hg5)
  have D5 := Lib.hid (D4.out.grown hg5)
  clear hg5 A4 B4 G4 X4 Q4 D4 p0 p1 p2 p3 p4 p5 p6 p7 q0 q1 q2 q3 q4 q5 q6 q7
  obtain ⟨q0, q1, q2, q3, q4, q5, q6, q7⟩ := Q5.out.cell
  simp only at q0 q1 q2 q3 q4 q5 q6
  go_wp2_with fail
  refine (HO.out.put ⟨ro, rb, ri, K, H', S, s⟩ _ d _ G5.out HF.out (by have := HDL.out; omega) D5.out).mono ?_
  rw [HXX.out]
  rintro e w6 ⟨u6, rfl, hn6⟩
  obtain ⟨o6, c6, e6⟩ := (New.bs hn6).form5
  rw [HL.out] at e6
  subst e6
  have G6 := Lib.hid (Gr.trans G5.out hn6.1)
  have X6 := Lib.hid (X5.out.grown hn6.1)
  have Y6 := Lib.hid (New.bs hn6)
  clear hn6 A5 G5 X5 Q5 D5 q0 q1 q2 q3 q4 q5 q6 q7
  go_wp2_with fail
  refine (same_any _ _ X X _ Y6.out X6.out).mono ?_
  rw [show (X == X) = true from beq_self_eq_true X]
  rintro e w7 ⟨rfl, hg7⟩
  have G7 := Lib.hid (Gr.trans G6.out hg7)
  have X7 := Lib.hid (X6.out.grown hg7)
  clear hg7 G6 X6 Y6
  have HCI : Hid (Cell.Is X) := Lib.hid HT.out.1.1
  have HMC : Hid (Cell.MayC 1 (recL ⟨ro, rb, ri, K, H', S, s⟩ d)) := Lib.hid (recL_mayC HM.out)
  have HCK : Hid (Cell.takeK X = 1) := Lib.hid (by rw [HE.out]; exact Cell.takeK_cell HMC.out)
  have HCX : Hid (Cell.takeX X = Cell.pad (recL ⟨ro, rb, ri, K, H', S, s⟩ d)) := Lib.hid (by rw [HE.out]; exact Cell.takeX_cell HMC.out)
  obtain ⟨P, hP⟩ : ∃ P, Cell.pad (recL ⟨ro, rb, ri, K, H', S, s⟩ d) = P := ⟨_, rfl⟩
  have HPL : Hid (P.length = 55) := Lib.hid (by rw [← hP]; exact Cell.pad_length HMC.out.2.2)
  have HPP : Hid (Cell.put 1 P = X) := Lib.hid (by
    rw [← hP, Cell.put_in ⟨by omega, by omega, by rw [Cell.pad_length HMC.out.2.2]; omega⟩, HE.out]
    unfold Cell.cell Cell.pre
    rw [Cell.pad_pad HMC.out.2.2])
  rw [hP] at HCX
  clear hP
  go_wp2_with fail
  refine (HCO.out.take _ X _ G7.out (by rw [HL.out]; omega) X7.out).mono ?_
  rw [HCK.out, HCX.out, decide_eq_true HCI.out]
  rintro e w8 ⟨u8, rfl, hn8⟩
  obtain ⟨o8, c8, e8⟩ := hn8.2.form5
  rw [HPL.out] at e8
  subst e8
  have G8 := Lib.hid (Gr.trans G7.out hn8.1)
  have P8 := Lib.hid hn8.2
  clear hn8 G7 X7
  go_wp2_with fail
  refine (within_any kind 255 (by omega) (by omega) _).mono ?_
  rintro e w' ⟨rfl, rfl⟩
  have HKN := Lib.hid HK.out
  obtain ⟨k0, hk0⟩ : ∃ k0, kind % 255 = k0 := ⟨_, rfl⟩
  have hk3 : (1 : Int) + k0 = k := by rw [← hk0]; exact HK.out
  have hk4 : wrap64 ((1 : Int) + k0) = k := by rw [hk3]; simp [wrap64]; omega
  rw [hk0]
  clear hk0
  go_wp2_with fail
  refine (HCO.out.put k _ P _ G8.out ⟨by omega, by omega⟩ (by rw [HPL.out]; omega) P8.out).mono ?_
  rintro e w9 ⟨u9, rfl, hn9⟩
  obtain ⟨Y, hY⟩ : ∃ Y, Cell.put k P = Y := ⟨_, rfl⟩
  rw [hY] at hn9
  have HYL : Hid (Y.length ≤ 64) := Lib.hid (by rw [← hY]; exact Cell.put_length_le _ _)
  have hyi : IsR Y ↔ k = 1 := by
    rw [← hY]
    refine ⟨fun h => isR_kind ⟨hk1, hk2⟩ (by rw [HPL.out]; omega) h, fun h => ?_⟩
    rw [h, HPP.out]
    exact HT.out.1
  have HYI := Lib.hid hyi
  obtain ⟨o9, n9, c9, rfl⟩ := New.form3 hn9
  have G9 := Lib.hid (Gr.trans G8.out hn9.1)
  have Y9 := Lib.hid (New.bs hn9)
  clear hn9 G8 P8 hY hyi
  go_wp2_with fail
  refine (HO.out.take _ Y _ G9.out (by have := HYL.out; omega) Y9.out).mono ?_
  rintro e w10 ⟨u10, he, hb10, hg10⟩
  obtain ⟨o10, n10, c10, rfl⟩ := hb10.any3
  obtain ⟨rY, hrY⟩ : ∃ r, takeRr Y = r := ⟨_, rfl⟩
  rw [hrY] at he
  clear hrY
  obtain ⟨ro', rb', ri', K', Hh', S', s'⟩ := rY
  obtain ⟨bt, hbt⟩ : ∃ bt, decide (IsR Y) = bt := ⟨_, rfl⟩
  rw [hbt] at he
  obtain rfl : e = .returned (.tuple #[.agg #[.int .i64 ro', .int .i64 rb', .int .i64 ri', .int .i64 K', .int .i64 Hh', .int .i64 S', .int .u32 (s' : Int), (.slice o10 n10 c10)], .bool bt]) := he
  have G10 := Lib.hid (Gr.trans G9.out (Gr.trans hg10 (Gr.alloc (Gr.refl _) (#[.int .i64 ro', .int .i64 rb', .int .i64 ri', .int .i64 K', .int .i64 Hh', .int .i64 S', .int .u32 (s' : Int), (.slice o10 n10 c10)]) 27)))
  have HBT : Hid (bt = (k == 1)) := Lib.hid (by
    rw [← hbt]
    by_cases h : k = 1
    · rw [decide_eq_true (HYI.out.2 h), beq_iff_eq.2 h]
    · rw [decide_eq_false fun q => h (HYI.out.1 q), beq_eq_false_iff_ne.2 h])
  clear hbt hb10 hg10 G9 Y9
  go_upto_region 9 with fail
  generalize (w10.alloc (.cells #[.int .i64 ro', .int .i64 rb', .int .i64 ri', .int .i64 K', .int .i64 Hh', .int .i64 S', .int .u32 (s' : Int), (.slice o10 n10 c10)] 27)) = W10 at *
  generalize w10.heap.size = g10 at *
  obtain ⟨b2, hb2⟩ : ∃ b2 : Bool, (k == 1) = b2 := ⟨_, rfl⟩
  obtain rfl : bt = b2 := HBT.out.trans hb2
  have hbb : (bt == bt) = true := beq_self_eq_true bt
  clear HBT
  go_wp2_with fail
  refine (recWakes_any HO.out _ G10.out).mono ?_
  rintro e w11 ⟨rfl, hg11⟩
  have G11 := Lib.hid (Gr.trans G10.out hg11)
  clear hg11
  go_wp2_with fail
  go_ret
  exact ⟨rfl, G11.out⟩
end Go.Proofs.YtjkfiimlaigdhaaDoor
