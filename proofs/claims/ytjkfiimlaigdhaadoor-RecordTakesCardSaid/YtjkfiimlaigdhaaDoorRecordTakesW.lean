/-
  Law RecordTakes, walked: what any bytes say, if they are a record.
-/
import Derived.Test.YtjkfiimlaigdhaaDoorMgi
import Derived.Test.YtjkfiimlaigdhaaDoorMgj
import Derived.Test.YtjkfiimlaigdhaaDoorMgb
namespace Go.Proofs.YtjkfiimlaigdhaaDoor
open Go.RowKit

theorem Wb.gr17 {w w' : World} {g : Nat} {L : List Int} (h : Wb w g L) (hg : Gr w w') : Wb w' g L := by
  obtain ⟨cur, h1, h2⟩ := h
  exact ⟨cur, keptRow hg h1, h2⟩
set_option maxRecDepth 100000 in
set_option maxHeartbeats 3200000 in
theorem recordTakes_walk (v vb : Value) (l body : List Int) (object block id a c' d' x sd at' cc : Int) (w : World) (O : RecOk w) (h : Bs w v l) (hbd : Bs w vb body) (hcc : Byt cc) :
    Calls Tryd.prog 4 #[v, vb, .int .i64 object, .int .i64 block, .int .i64 id, .int .i64 a, .int .i64 c', .int .i64 d', .int .i64 x, .int .u64 sd, .int .i64 at', .int .u8 cc] w fun e w' => e = .returned (.bool true) ∧ Gr w w' := by
  have HO := Lib.hid O
  obtain ⟨o, c, rfl⟩ := h.form5
  obtain ⟨ob, mb, cb, rfl⟩ := hbd.any3
  obtain ⟨m, hm⟩ : ∃ n, l.length = n := ⟨_, rfl⟩
  have HN := Lib.hid hm
  rw [hm] at h ⊢
  have H := Lib.hid h
  have HBD := Lib.hid hbd
  obtain ⟨q, hq, hq2⟩ : ∃ q : Nat, at' % 55 = q ∧ q < 55 := ⟨(at' % 55).toNat, by omega, by omega⟩
  have HQ := Lib.hid hq
  obtain ⟨cn, rfl, hcn⟩ : ∃ n : Nat, cc = n ∧ n < 256 := ⟨cc.toNat, by unfold Byt at hcc; omega, by unfold Byt at hcc; omega⟩
  clear O h hbd hm hq hcc
  go_enter Tryd.func4, Tryd.ntmps4
  by_cases hbig : (80 : Int) < (m : Int)
  · go_wp2_with fail
    refine (recWakes_any HO.out _ (Gr.refl _)).mono ?_
    rintro e w1 ⟨rfl, hg1⟩
    have HG1 := Lib.hid hg1
    clear hg1
    go_wp2_with fail
    go_ret
    exact ⟨rfl, HG1.out⟩
  go_wp2_with fail
  refine (made_any5 object block id a c' d' x sd _).mono ?_
  rintro e w1 ⟨s0, u1, d, he, hs, hd, hn⟩
  have hmy := madeR_may object block id a c' d' s0 d hd
  have hss : (madeR object block id a c' d' s0).s = s0 := rfl
  obtain ⟨r, hr⟩ : ∃ r, madeR object block id a c' d' s0 = r := ⟨_, rfl⟩
  rw [hr] at he hmy hss
  obtain ⟨ro, rb, ri, K, H', S, s⟩ := r
  simp only at hss
  subst hss
  obtain ⟨o1, n1, c1, rfl⟩ := New.form3 hn
  obtain rfl : e = .returned (.agg #[.int .i64 ro, .int .i64 rb, .int .i64 ri, .int .i64 K, .int .i64 H', .int .i64 S, .int .u32 (s : Int), .slice o1 n1 c1]) := he
  have G1 := Lib.hid hn.1
  have B1 := Lib.hid (New.bs hn)
  have HI := Lib.hid (isR_put hmy hs).1
  have HL := Lib.hid (putR_len hmy)
  clear hr hd hn hmy
  go_wp2_with fail
  refine (refPutR_any ⟨ro, rb, ri, K, H', S, s⟩ _ d _ hs B1.out).mono ?_
  rintro e w2 ⟨u2, rfl, hn2⟩
  obtain ⟨X, hX⟩ : ∃ X, putR ⟨ro, rb, ri, K, H', S, s⟩ d = X := ⟨_, rfl⟩
  rw [hX] at hn2 HI HL
  obtain ⟨o2, c2, e2⟩ := (New.bs hn2).form5
  rw [HL.out] at e2
  subst e2
  have G2 := Lib.hid (Gr.trans G1.out hn2.1)
  have X2 := Lib.hid (New.bs hn2)
  clear hn2 hX B1 G1 hs
  go_wp2_with fail
  refine (refTake_any _ X _ X2.out).mono ?_
  obtain ⟨tk, htk⟩ : ∃ k, Cell.takeK X = k := ⟨_, rfl⟩
  obtain ⟨P, hP⟩ : ∃ P, Cell.takeX X = P := ⟨_, rfl⟩
  have HPL : Hid (P.length = 55) := Lib.hid (by rw [← hP]; exact Cell.takeX_length HI.out.1)
  rw [htk, hP, decide_eq_true HI.out.1]
  rintro e w3 ⟨u3, rfl, hn3⟩
  obtain ⟨gx, cx, hv, hge, hcx, hcm, hwb⟩ := Wb.of_new hn3 (by rw [HPL.out]; omega)
  rw [HPL.out] at hv hcx
  subst hv
  have G3 := Lib.hid (Gr.trans G2.out hn3.1)
  have X3 := Lib.hid (X2.out.grown hn3.1)
  have HGE : Hid (w2.heap.size ≤ gx) := Lib.hid hge
  have HGE0 : Hid (w.heap.size ≤ gx) := Lib.hid (Nat.le_trans G2.out.size hge)
  have G23 := Lib.hid hn3.1
  have HWB := Lib.hid hwb
  have HPB : Hid (∀ z ∈ P, Byt z) := Lib.hid hn3.2.1
  clear hn3 hge hwb htk hP
  go_wp2_with fail
  refine (within_any at' 55 (by omega) (by omega) _).mono ?_
  rintro e w' ⟨rfl, rfl⟩
  rw [HQ.out]
  have hby := Crc.getD_byt HPB.out q
  obtain ⟨b, hb1⟩ : ∃ b : Nat, P.getD q 0 = b := ⟨(P.getD q 0).toNat, by unfold Byt at hby; omega⟩
  have hb2 : b < 256 := by unfold Byt at hby; omega
  have q1 := HWB.out.cell q (by rw [HPL.out]; exact hq2)
  have q2 := HWB.out.frozen q
  rw [hb1] at q1
  have e3 := u8_xor_nat b cn hb2 hcn
  have hq3 : (q : Int) < 55 := by omega
  have HW2 : Hid (Wb (w3.setCell ⟨gx, q, none⟩ (.int .u8 ((b ^^^ cn : Nat) : Int))) gx (P.set q ((b ^^^ cn : Nat) : Int))) := Lib.hid (HWB.out.set _ _)
  have HB2 : Hid (∀ z ∈ P.set q ((b ^^^ cn : Nat) : Int), Byt z) := Lib.hid fun z hz => by
    rcases List.mem_or_eq_of_mem_set hz with h | h
    · exact HPB.out z h
    · rw [h]
      have := Nat.xor_lt_two_pow (n := 8) (x := b) (y := cn) (by omega) hcn
      unfold Byt
      omega
  have HL2 : Hid ((P.set q ((b ^^^ cn : Nat) : Int)).length = 55) := Lib.hid (by rw [List.length_set, HPL.out])
  have G4 : Hid (Gr w (w3.setCell ⟨gx, q, none⟩ (.int .u8 ((b ^^^ cn : Nat) : Int)))) := Lib.hid (Gr.setCell G3.out HGE0.out _)
  have X4 : Hid (Bs (w3.setCell ⟨gx, q, none⟩ (.int .u8 ((b ^^^ cn : Nat) : Int))) (.slice o2 64 c2) X) := Lib.hid (X2.out.grown (Gr.setCell G23.out HGE.out _))
  generalize P.set q ((b ^^^ cn : Nat) : Int) = Q at *
  clear hby hb1 HWB G3 HPB HPL X3 X2 G2
  go_upto_region 6 with fail
  generalize w3.setCell ⟨gx, q, none⟩ (.int .u8 ((b ^^^ cn : Nat) : Int)) = W4 at *
  clear q1 q2 e3 G23
  have HQB : Hid (Bs W4 (.slice (some ⟨gx, 0, none⟩) 55 cx) Q) := Lib.hid (by
    have := HW2.out.bs HB2.out (by rw [HL2.out]; exact hcx) hcm
    rwa [HL2.out] at this)
  go_wp2_with fail
  refine (refPut_any 1 _ Q _ ⟨by omega, by omega⟩ (by rw [HL2.out]; omega) HQB.out).mono ?_
  rintro e w6 ⟨u6, rfl, hn6⟩
  obtain ⟨Z6, hZ6⟩ : ∃ Z, Cell.put 1 Q = Z := ⟨_, rfl⟩
  have HZ6 : Hid (Z6.length ≤ 64) := Lib.hid (by rw [← hZ6]; exact Cell.put_length_le _ _)
  rw [hZ6] at hn6
  obtain ⟨o6, m6, c6, rfl⟩ := New.form3 hn6
  have B6 := Lib.hid (New.bs hn6)
  have G46 := Lib.hid hn6.1
  clear hn6 hZ6
  go_wp2_with fail
  refine (cut_any _ body 55 _ (HBD.out.grown (Gr.trans G4.out G46.out)) (by omega)).mono ?_
  rintro e w' ⟨v7, rfl, hb7, rfl⟩
  obtain ⟨L7, hL7⟩ : ∃ L, body.take 55 = L := ⟨_, rfl⟩
  have HL7 : Hid (L7.length ≤ 55) := Lib.hid (by rw [← hL7, List.length_take]; omega)
  rw [hL7] at hb7
  obtain ⟨o7, m7, c7, rfl⟩ := hb7.any3
  have B7 := Lib.hid hb7
  clear hb7 hL7
  go_wp2_with fail
  refine (refPut_any 1 _ L7 _ ⟨by omega, by omega⟩ (by have := HL7.out; omega) B7.out).mono ?_
  rintro e w8 ⟨u8, rfl, hn8⟩
  obtain ⟨Z8, hZ8⟩ : ∃ Z, Cell.put 1 L7 = Z := ⟨_, rfl⟩
  have HZ8 : Hid (Z8.length ≤ 64) := Lib.hid (by rw [← hZ8]; exact Cell.put_length_le _ _)
  rw [hZ8] at hn8
  obtain ⟨o8, m8, c8, rfl⟩ := New.form3 hn8
  have B8 := Lib.hid (New.bs hn8)
  have B68 := Lib.hid (B6.out.grown hn8.1)
  have G48 := Lib.hid (Gr.trans G46.out hn8.1)
  clear hn8 hZ8 B6 G46 B7
  go_wp2_with fail
  refine (refPut_any 2 _ Q _ ⟨by omega, by omega⟩ (by rw [HL2.out]; omega) (HQB.out.grown G48.out)).mono ?_
  rintro e w9 ⟨u9, rfl, hn9⟩
  obtain ⟨Z9, hZ9⟩ : ∃ Z, Cell.put 2 Q = Z := ⟨_, rfl⟩
  have HZ9 : Hid (Z9.length ≤ 64) := Lib.hid (by rw [← hZ9]; exact Cell.put_length_le _ _)
  rw [hZ9] at hn9
  obtain ⟨o9, m9, c9, rfl⟩ := New.form3 hn9
  have C0 : Hid ((w9.alloc (.cells #[.slice o m c, .slice o2 64 c2, .slice o6 m6 c6, .slice o8 m8 c8, .slice o9 m9 c9] 25)).heap[w9.heap.size]? = some (.cells #[.slice o m c, .slice o2 64 c2, .slice o6 m6 c6, .slice o8 m8 c8, .slice o9 m9 c9] 25 (0, 0))) := Lib.hid (heap_alloc_new _ _)
  have ga := Gr.alloc (Gr.refl w9) (#[.slice o m c, .slice o2 64 c2, .slice o6 m6 c6, .slice o8 m8 c8, .slice o9 m9 c9]) 25
  have B9 := Lib.hid ((New.bs hn9).grown ga)
  have B89 := Lib.hid (B8.out.grown (Gr.trans hn9.1 ga))
  have B69 := Lib.hid (B68.out.grown (Gr.trans hn9.1 ga))
  have BX9 := Lib.hid (X4.out.grown (Gr.trans G48.out (Gr.trans hn9.1 ga)))
  have G9 := Lib.hid (Gr.trans G4.out (Gr.trans G48.out (Gr.trans hn9.1 ga)))
  have BL9 := Lib.hid (H.out.grown G9.out)
  clear hn9 hZ9 B8 B68 X4 G48 G4 HW2 HQB ga
  go_wp2_with fail
  generalize (w9.alloc (.cells #[.slice o m c, .slice o2 64 c2, .slice o6 m6 c6, .slice o8 m8 c8, .slice o9 m9 c9] 25)) = W9 at *
  generalize w9.heap.size = gl at *
  have HML : Hid (l.length ≤ 1000) := Lib.hid (by rw [HN.out]; omega)
  go_loopw [74] (fun iv W => ∃ t : Nat, t ≤ 5 ∧ iv = .int .i64 t ∧ W.heap[gl]? = some (.cells #[.slice o m c, .slice o2 64 c2, .slice o6 m6 c6, .slice o8 m8 c8, .slice o9 m9 c9] 25 (0, 0)) ∧ Bs W (.slice o m c) l ∧ Bs W (.slice o2 64 c2) X ∧ Bs W (.slice o6 m6 c6) Z6 ∧ Bs W (.slice o8 m8 c8) Z8 ∧ Bs W (.slice o9 m9 c9) Z9 ∧ Gr w W) (fun iv _ => 5 - (intOf iv).toNat)
  case atStart => exact ⟨0, by omega, rfl, C0.out, BL9.out, BX9.out, B69.out, B89.out, B9.out, G9.out⟩
  case round =>
    obtain ⟨wi, hwi⟩ : ∃ x, x = wr := ⟨_, rfl⟩
    subst hwi
    obtain ⟨t, ht, rfl, hc, hb0, hb1, hb2, hb3, hb4, hg⟩ := hrel
    clear C0 BL9 BX9 B69 B89 B9 G9
    by_cases hlt : t < 5
    · obtain ⟨ot, mt, ct, Lt, hct, hbt, hlt2⟩ : ∃ (ot : Option Addr) (mt ct : Nat) (Lt : List Int), wi.cell? ⟨gl, t, none⟩ = some (.slice ot mt ct) ∧ Bs wi (.slice ot mt ct) Lt ∧ Lt.length ≤ 1000 := by
        rcases (by omega : t = 0 ∨ t = 1 ∨ t = 2 ∨ t = 3 ∨ t = 4) with rfl | rfl | rfl | rfl | rfl
        · exact ⟨o, m, c, l, by rw [cell_of_row _ _ 0 _ _ _ hc]; rfl, hb0, HML.out⟩
        · exact ⟨o2, 64, c2, X, by rw [cell_of_row _ _ 1 _ _ _ hc]; rfl, hb1, by rw [HL.out]; omega⟩
        · exact ⟨o6, m6, c6, Z6, by rw [cell_of_row _ _ 2 _ _ _ hc]; rfl, hb2, by have := HZ6.out; omega⟩
        · exact ⟨o8, m8, c8, Z8, by rw [cell_of_row _ _ 3 _ _ _ hc]; rfl, hb3, by have := HZ8.out; omega⟩
        · exact ⟨o9, m9, c9, Z9, by rw [cell_of_row _ _ 4 _ _ _ hc]; rfl, hb4, by have := HZ9.out; omega⟩
      have HALL : Hid (∀ W, Gr wi W → W.heap[gl]? = some (.cells #[.slice o m c, .slice o2 64 c2, .slice o6 m6 c6, .slice o8 m8 c8, .slice o9 m9 c9] 25 (0, 0)) ∧ Bs W (.slice o m c) l ∧ Bs W (.slice o2 64 c2) X ∧ Bs W (.slice o6 m6 c6) Z6 ∧ Bs W (.slice o8 m8 c8) Z8 ∧ Bs W (.slice o9 m9 c9) Z9 ∧ Gr w W) := Lib.hid fun W hW => ⟨keptRow hW hc, hb0.grown hW, hb1.grown hW, hb2.grown hW, hb3.grown hW, hb4.grown hW, hg.trans hW⟩
      have HGW := Lib.hid hg
      have HBT := Lib.hid hbt
      have HLT := Lib.hid hlt2
      clear hc hb0 hb1 hb2 hb3 hb4 hg hbt hlt2
      go_wp2_with fail
      refine (HO.out.take _ Lt _ HGW.out HLT.out HBT.out).mono ?_
      rintro e w5 ⟨u5, he5, hb5, hg5⟩
      obtain ⟨D, hD⟩ : ∃ D, takeRd Lt = D := ⟨_, rfl⟩
      obtain ⟨bt, hbt⟩ : ∃ bt, decide (IsR Lt) = bt := ⟨_, rfl⟩
      obtain ⟨rT, hrT⟩ : ∃ r, takeRr Lt = r := ⟨_, rfl⟩
      have HD := Lib.hid hD
      have HBB := Lib.hid hbt
      have HRT := Lib.hid hrT
      rw [hrT, hbt] at he5
      rw [hD] at hb5
      obtain ⟨tO, tB, tI, tK, tH, tS, ts⟩ := rT
      obtain ⟨oa, na, ca, rfl⟩ := hb5.any3
      obtain rfl : e = .returned (.tuple #[.agg #[.int .i64 tO, .int .i64 tB, .int .i64 tI, .int .i64 tK, .int .i64 tH, .int .i64 tS, .int .u32 (ts : Int), (.slice oa na ca)], .bool bt]) := he5
      have A5 : Hid (RcAt (w5.alloc (.cells #[.int .i64 tO, .int .i64 tB, .int .i64 tI, .int .i64 tK, .int .i64 tH, .int .i64 tS, .int .u32 (ts : Int), (.slice oa na ca)] 27)) w5.heap.size ⟨tO, tB, tI, tK, tH, tS, ts⟩ (.slice oa na ca)) := Lib.hid (heap_alloc_new _ _)
      have ga := Gr.alloc (Gr.refl w5) (#[.int .i64 tO, .int .i64 tB, .int .i64 tI, .int .i64 tK, .int .i64 tH, .int .i64 tS, .int .u32 (ts : Int), (.slice oa na ca)]) 27
      have B5 := Lib.hid (hb5.grown ga)
      have G5 := Lib.hid (Gr.trans hg5 ga)
      clear hD hbt hrT hb5 hg5 ga
      go_upto_region 10 with fail
      generalize (w5.alloc (.cells #[.int .i64 tO, .int .i64 tB, .int .i64 tI, .int .i64 tK, .int .i64 tH, .int .i64 tS, .int .u32 (ts : Int), (.slice oa na ca)] 27)) = W5 at *
      generalize w5.heap.size = g5 at *
      go_wp2_with fail
      refine (refTakeR_any _ Lt _ (HBT.out.grown G5.out)).mono ?_
      rw [HRT.out, HBB.out, HD.out]
      rintro e w6 ⟨u6, he6, hb6, hg6⟩
      obtain ⟨oe, ne, ce, rfl⟩ := hb6.any3
      obtain rfl : e = .returned (.tuple #[.agg #[.int .i64 tO, .int .i64 tB, .int .i64 tI, .int .i64 tK, .int .i64 tH, .int .i64 tS, .int .u32 (ts : Int), (.slice oe ne ce)], .bool bt]) := he6
      have A6 : Hid (RcAt (w6.alloc (.cells #[.int .i64 tO, .int .i64 tB, .int .i64 tI, .int .i64 tK, .int .i64 tH, .int .i64 tS, .int .u32 (ts : Int), (.slice oe ne ce)] 27)) w6.heap.size ⟨tO, tB, tI, tK, tH, tS, ts⟩ (.slice oe ne ce)) := Lib.hid (heap_alloc_new _ _)
      have ga := Gr.alloc (Gr.refl w6) (#[.int .i64 tO, .int .i64 tB, .int .i64 tI, .int .i64 tK, .int .i64 tH, .int .i64 tS, .int .u32 (ts : Int), (.slice oe ne ce)]) 27
      have B6 := Lib.hid (hb6.grown ga)
      have B56 := Lib.hid (B5.out.grown (Gr.trans hg6 ga))
      have A56 := Lib.hid (A5.out.grown (Gr.trans hg6 ga))
      have G6 := Lib.hid (Gr.trans G5.out (Gr.trans hg6 ga))
      clear hb6 hg6 ga A5 B5 G5
      go_upto_region 11 with fail
      generalize (w6.alloc (.cells #[.int .i64 tO, .int .i64 tB, .int .i64 tI, .int .i64 tK, .int .i64 tH, .int .i64 tS, .int .u32 (ts : Int), (.slice oe ne ce)] 27)) = W6 at *
      generalize w6.heap.size = g6 at *
      obtain ⟨p0, p1, p2, p3, p4, p5, p6, p7⟩ := A56.out.cell
      obtain ⟨q0, q1, q2, q3, q4, q5, q6, q7⟩ := A6.out.cell
      simp only at p0 p1 p2 p3 p4 p5 p6 q0 q1 q2 q3 q4 q5 q6
      have hbn : (bt != bt) = false := by simp
      go_wp2_with fail
      refine (sameR_any ⟨tO, tB, tI, tK, tH, tS, ts⟩ ⟨tO, tB, tI, tK, tH, tS, ts⟩ _ _ D D _ true (by simp) B56.out B6.out).mono ?_
      rintro e w7 ⟨rfl, hg7⟩
      have G7 := Lib.hid (Gr.trans G6.out hg7)
      clear hg7
      have hall := HALL.out _ G7.out
      go_wp2_with fail
      exact ⟨⟨t + 1, by omega, by go_num, hall⟩, by simp [intOf]; omega⟩
    · obtain rfl : t = 5 := by omega
      have HG := Lib.hid hg
      clear hc hb0 hb1 hb2 hb3 hb4 hg
      go_wp2_with fail
      refine (recWakes_any HO.out _ HG.out).mono ?_
      rintro e w9 ⟨rfl, hg9⟩
      have HG9 := Lib.hid (Gr.trans HG.out hg9)
      clear hg9 HG
      go_wp2_with fail
      go_ret
      exact ⟨rfl, HG9.out⟩
end Go.Proofs.YtjkfiimlaigdhaaDoor
