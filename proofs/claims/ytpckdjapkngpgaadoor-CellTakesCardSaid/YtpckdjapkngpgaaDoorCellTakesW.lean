/-
  Law CellTakes, walked: what any bytes say, if they are a cell.
-/
import Derived.Test.YtpckdjapkngpgaaDoorCellBackW
import Derived.Deep.DeepCutAuto
namespace Go.Proofs.YtpckdjapkngpgaaDoor
open Go.RowKit

theorem wrap8_byt5 (x : Int) : Byt (IntKind.u8.wrap x) := by
  simp only [IntKind.wrap, IntKind.bits, IntKind.signed]
  unfold Byt
  simp
  omega
set_option maxRecDepth 100000 in
set_option maxHeartbeats 800000 in
theorem playData_any (n : Nat) (x : Int) (w : World) (hn : n ≤ 100) :
    Calls Tryd.prog 15 #[.int .i64 (n : Int), .int .i64 x] w fun e w' => ∃ u D, e = .returned u ∧ New w w' u D ∧ D.length = n := by
  go_enter Tryd.func15, Tryd.ntmps15
  go_wp2_with fail
  go_loopw [5, 6] (fun bv iv W => ∃ (t : Nat) (o : Option Addr) (c : Nat) (D : List Int), t ≤ n ∧ iv = .int .i64 t ∧ bv = .slice o t c ∧ W.ownsRow w.heap.size 5 1 (.slice o t c) t (D.map (Value.int .u8)) ∧ D.length = t ∧ (∀ z ∈ D, Byt z) ∧ Gr w W) (fun _ iv _ => n - (intOf iv).toNat)
  case atStart => exact ⟨0, none, 0, [], by omega, rfl, rfl, World.ownsRow_nil _ _ _ _, rfl, (fun z hz => by cases hz), Gr.refl _⟩
  case round =>
    obtain ⟨wi, hwi⟩ : ∃ x, x = wr := ⟨_, rfl⟩
    subst hwi
    obtain ⟨t, o, c, D, ht, rfl, rfl, ho, hD, hb, hg⟩ := hrel
    have OO := Lib.hid ho
    have HD := Lib.hid hD
    have HB := Lib.hid hb
    have HG := Lib.hid hg
    clear ho hD hb hg
    by_cases hlt : t < n
    · obtain ⟨r, hr, hr2⟩ : ∃ r : Nat, t % 7 = r ∧ r < 7 := ⟨_, rfl, by omega⟩
      have k1 : (t : Int) % 7 = (r : Int) := by omega
      have k2 : (t : Int).tmod 7 = (r : Int) := by rw [Int.tmod_eq_emod_of_nonneg (by omega)]; exact k1
      have k3 : (0 : Int) ≤ (r : Int) := by omega
      clear hr
      go_wp2_with (first
        | (at_builtin; refine wpList_append_bytes rfl _ _ rfl w.heap.size (.slice o t c) t D rfl (OO.out.alloc _) (some ⟨wi.heap.size, 0, none⟩) 1 1 [_] rfl (lit_bs1 [_] (by intro z hz; obtain rfl := List.mem_singleton.1 hz; first | exact wrap8_byt5 _ | (unfold Byt; omega)) (by simp)) (by omega) (by have := HG.out.size; simp; omega) ?_; intro v6 w6 ho6 hg6; obtain ⟨o6, c6, rfl⟩ := ownsRow_form ho6; have O6 := Lib.hid ho6; have G6 : Hid (Gr w w6) := Lib.hid (Gr.append (Gr.alloc HG.out _ _) hg6 (ownsRow_base OO.out)); clear ho6 hg6))
      refine ⟨⟨t + 1, o6, c6, _, by omega, by go_num, rfl, O6.out, by rw [List.length_append, HD.out]; rfl, fun z hz => ?_, G6.out⟩, by simp [intOf]; omega⟩
      rcases List.mem_append.1 hz with h | h
      · exact HB.out z h
      · obtain rfl := List.mem_singleton.1 h
        first | exact wrap8_byt5 _ | (unfold Byt; omega)
    · obtain rfl : t = n := by omega
      go_wp2_with fail
      go_ret
      refine ⟨_, D, rfl, New.of_row HG.out HB.out ?_, HD.out⟩
      rw [HD.out]
      exact OO.out
set_option maxRecDepth 100000 in
set_option maxHeartbeats 1600000 in
theorem cellTakes_walk (kind n x at' cc how : Int) (v : Value) (l : List Int) (w : World) (O : CellOk w) (R : CrcOk w) (h : Bs w v l) (hcc : Byt cc) :
    Calls Tryd.prog 4 #[v, .int .i64 kind, .int .i64 n, .int .i64 x, .int .i64 at', .int .u8 cc, .int .i64 how] w fun e w' => e = .returned (.bool true) ∧ Gr w w' := by
  have HO := Lib.hid O
  have HR := Lib.hid R
  obtain ⟨o, c, rfl⟩ := h.form5
  obtain ⟨m, hm⟩ : ∃ n, l.length = n := ⟨_, rfl⟩
  have HN := Lib.hid hm
  rw [hm] at h ⊢
  have H := Lib.hid h
  obtain ⟨k, hk, hk1, hk2⟩ : ∃ k : Int, kind % 255 = k ∧ 0 ≤ k ∧ k ≤ 254 := ⟨_, rfl, by omega, by omega⟩
  have HK := Lib.hid hk
  obtain ⟨nd, hnd, hnd2⟩ : ∃ q : Nat, n % 56 = q ∧ q < 56 := ⟨(n % 56).toNat, by omega, by omega⟩
  have HND := Lib.hid hnd
  obtain ⟨q, hq, hq2⟩ : ∃ q : Nat, at' % 64 = q ∧ q < 64 := ⟨(at' % 64).toNat, by omega, by omega⟩
  have HQ := Lib.hid hq
  obtain ⟨cn, rfl, hcn⟩ : ∃ n : Nat, cc = n ∧ n < 256 := ⟨cc.toNat, by unfold Byt at hcc; omega, by unfold Byt at hcc; omega⟩
  clear O R h hk hm hnd hq hcc
  go_enter Tryd.func4, Tryd.ntmps4
  by_cases hbig : (100 : Int) < (m : Int)
  · go_wp2_with fail
    refine (cellWakes_any HO.out _ (Gr.refl _)).mono ?_
    rintro e w1 ⟨rfl, hg1⟩
    have HG1 := Lib.hid hg1
    clear hg1
    go_wp2_with fail
    go_ret
    exact ⟨rfl, HG1.out⟩
  go_wp2_with fail
  refine (within_any kind 255 (by omega) (by omega) _).mono ?_
  rw [HK.out]
  rintro e w' ⟨rfl, rfl⟩
  go_wp2_with fail
  refine (within_any n 56 (by omega) (by omega) _).mono ?_
  rw [HND.out]
  rintro e w' ⟨rfl, rfl⟩
  go_wp2_with fail
  refine (playData_any nd x _ (by omega)).mono ?_
  rintro e w2 ⟨u2, D, rfl, hn2, hD⟩
  obtain ⟨o2, c2, e2⟩ := (New.bs hn2).form5
  rw [hD] at e2
  subst e2
  have HG2 := Lib.hid hn2.1
  have BD := Lib.hid (New.bs hn2)
  have HD := Lib.hid hD
  clear hn2 hD
  go_wp2_with fail
  refine (refPut_in (1 + k) (.slice o2 nd c2) D _ ⟨by omega, by omega, by rw [HD.out]; omega⟩ BD.out).mono ?_
  rintro e w3 ⟨u3, rfl, hn3⟩
  have hyl : (Cell.cell (1 + k) D).length = 64 := Cell.cell_length (by rw [HD.out]; omega)
  obtain ⟨gx, cx, hv, hge, hcx, hcm, hwb⟩ := Wb.of_new hn3 (by rw [hyl]; omega)
  rw [hyl] at hv hcx
  subst hv
  have HG3 := Lib.hid (Gr.trans HG2.out hn3.1)
  have HGE : Hid (w.heap.size ≤ gx) := Lib.hid (Nat.le_trans HG2.out.size hge)
  have HWB := Lib.hid hwb
  have HXB : Hid (∀ x ∈ Cell.cell (1 + k) D, Byt x) := Lib.hid hn3.2.1
  have HXL := Lib.hid hyl
  clear hn3 hge hwb hyl BD HG2 HD
  generalize Cell.cell (1 + k) D = X at *
  go_wp2_with fail
  refine (within_any at' 64 (by omega) (by omega) _).mono ?_
  rintro e w' ⟨rfl, rfl⟩
  rw [HQ.out]
  have hby := Crc.getD_byt HXB.out q
  obtain ⟨b, hb1⟩ : ∃ b : Nat, X.getD q 0 = b := ⟨(X.getD q 0).toNat, by unfold Byt at hby; omega⟩
  have hb2 : b < 256 := by unfold Byt at hby; omega
  have q1 := HWB.out.cell q (by rw [HXL.out]; exact hq2)
  have q2 := HWB.out.frozen q
  rw [hb1] at q1
  have e3 := u8_xor_nat b cn hb2 hcn
  have hq3 : (q : Int) < 64 := by omega
  have HW2 : Hid (Wb (w3.setCell ⟨gx, q, none⟩ (.int .u8 ((b ^^^ cn : Nat) : Int))) gx (X.set q ((b ^^^ cn : Nat) : Int))) := Lib.hid (HWB.out.set _ _)
  have HB2 : Hid (∀ x ∈ X.set q ((b ^^^ cn : Nat) : Int), Byt x) := Lib.hid fun x hx => by
    rcases List.mem_or_eq_of_mem_set hx with h | h
    · exact HXB.out x h
    · rw [h]
      have := Nat.xor_lt_two_pow (n := 8) (x := b) (y := cn) (by omega) hcn
      unfold Byt
      omega
  have HL2 : Hid ((X.set q ((b ^^^ cn : Nat) : Int)).length = 64) := Lib.hid (by rw [List.length_set, HXL.out])
  have HG4 : Hid (Gr w (w3.setCell ⟨gx, q, none⟩ (.int .u8 ((b ^^^ cn : Nat) : Int)))) := Lib.hid (Gr.setCell HG3.out HGE.out _)
  generalize X.set q ((b ^^^ cn : Nat) : Int) = X2 at *
  clear hby hb1 HWB HG3 HXB HXL
  go_upto_region 6 with fail
  generalize w3.setCell ⟨gx, q, none⟩ (.int .u8 ((b ^^^ cn : Nat) : Int)) = W4 at *
  clear q1 q2 e3
  obtain ⟨r, hr, hr1, hr2⟩ : ∃ r, how.tmod 3 = r ∧ -3 < r ∧ r < 3 := by
    refine ⟨_, rfl, ?_, Int.tmod_lt_of_pos how (by omega)⟩
    rcases Int.le_total 0 how with h0 | h0
    · rw [Int.tmod_eq_emod_of_nonneg h0]
      omega
    · have h1 : how.tmod 3 = -((-how).tmod 3) := by rw [Int.neg_tmod, Int.neg_neg]
      have h2 := Int.tmod_lt_of_pos (-how) (by omega : (0 : Int) < 3)
      omega
  have hwr : IntKind.i64.wrap r = r := by simp [IntKind.wrap, IntKind.bits, IntKind.signed]; omega
  have u1 : (59 : Int) ≤ (cx : Int) := by omega
  go_upto_if 50 with fail
  go_cut [] (fun wx => ∃ Y, Wb wx gx Y ∧ Y.length = 64 ∧ (∀ z ∈ Y, Byt z) ∧ Gr w wx)
  case first =>
    by_cases h0 : r = 0
    · have h1 : (r == 0) = true := beq_iff_eq.2 h0
      clear h0
      have HBY : Hid (Bs W4 (.slice (some ⟨gx, 0, none⟩) 64 cx) X2) := Lib.hid (by
        have := HW2.out.bs HB2.out (by rw [HL2.out]; exact hcx) hcm
        rwa [HL2.out] at this)
      go_wp2_with fail
      refine (HR.out.sum _ (X2.take 59) _ HG4.out (Bs.pre5 HBY.out 59 (by omega)) (by rw [List.length_take, HL2.out]; omega)).mono ?_
      rintro e w5 ⟨rfl, hg5⟩
      generalize Crc.sum (X2.take 59) = s at *
      have HW5 := Lib.hid (HW2.out.gr5 hg5)
      have HG5 := Lib.hid (Gr.trans HG4.out hg5)
      clear hg5 HBY
      go_wp2_with fail
      go_loopw [18] (fun iv W => ∃ (t : Nat) (Y : List Int), t ≤ 4 ∧ iv = .int .i64 t ∧ Wb W gx Y ∧ Y.length = 64 ∧ (∀ z ∈ Y, Byt z) ∧ Gr w W) (fun iv _ => 4 - (intOf iv).toNat)
      case atStart => exact ⟨0, X2, by omega, rfl, HW5.out, HL2.out, HB2.out, HG5.out⟩
      case round =>
        obtain ⟨wi, hwi⟩ : ∃ x, x = wr := ⟨_, rfl⟩
        subst hwi
        obtain ⟨t, Y, ht, rfl, hy, hyl, hyb, hg⟩ := hrel
        clear HW5 HG5
        by_cases hlt : t < 4
        · obtain ⟨p, hp, hp2⟩ : ∃ p : Nat, (59 : Int) + (t : Int) = p ∧ p < 64 := ⟨59 + t, by omega, by omega⟩
          obtain ⟨e, he⟩ : ∃ e : Nat, (8 : Int) * (t : Int) = e := ⟨8 * t, by omega⟩
          obtain ⟨z, hz⟩ : ∃ z : Int, (s : Int) / 2 ^ e = z := ⟨_, rfl⟩
          have k1 : IntKind.i64.wrap (p : Int) = p := by simp [IntKind.wrap, IntKind.bits, IntKind.signed]; omega
          have k2 : IntKind.i64.wrap (e : Int) = e := by simp [IntKind.wrap, IntKind.bits, IntKind.signed]; omega
          have k3 : (0 : Int) ≤ (p : Int) := by omega
          have k4 : (p : Int) < 64 := by omega
          have k5 : (0 : Int) ≤ (e : Int) := by omega
          have q1 := hy.cell p (by rw [hyl]; exact hp2)
          have q2 := hy.frozen p
          have HY := Lib.hid hy
          have HYL := Lib.hid hyl
          have HYB := Lib.hid hyb
          have HG := Lib.hid hg
          clear hy hyl hyb hg
          generalize Y.getD p 0 = old at *
          go_wp2_with fail
          refine ⟨⟨t + 1, Y.set p _, by omega, by go_num, HY.out.set p _, by rw [List.length_set, HYL.out], fun x hx => ?_, Gr.setCell HG.out HGE.out _⟩, by simp [intOf]; omega⟩
          rcases List.mem_or_eq_of_mem_set hx with h | h
          · exact HYB.out x h
          · rw [h]
            first | exact wrap8_byt5 _ | (unfold Byt; omega)
        · go_wp2_with fail
          go_meet
          exact ⟨Y, hy, hyl, hyb, hg⟩
    · have h1 : (r == 0) = false := beq_eq_false_iff_ne.2 h0
      go_wp2_with fail
      go_meet
      exact ⟨X2, HW2.out, HL2.out, HB2.out, HG4.out⟩
  case rest =>
    obtain ⟨Y, hwy, hyl, hyb, hgy⟩ := hcut
    obtain ⟨wy, hwy2⟩ : ∃ x, x = wc := ⟨_, rfl⟩
    subst hwy2
    have HY := Lib.hid hwy
    have HYL := Lib.hid hyl
    have HYB := Lib.hid hyb
    have HGY := Lib.hid hgy
    clear hwy hyl hyb hgy HW2 HB2 HL2 HG4
    have HBY : Hid (Bs wy (.slice (some ⟨gx, 0, none⟩) 64 cx) Y) := Lib.hid (by
      have := HY.out.bs HYB.out (by rw [HYL.out]; exact hcx) hcm
      rwa [HYL.out] at this)
    have u2 : (q : Int) ≤ (cx : Int) := by omega
    have u3 : (0 : Int) ≤ (q : Int) := by omega
    have HBL := Lib.hid (H.out.grown HGY.out)
    go_upto_if 69 with fail
    go_cut [15] (fun yv wx => (∃ oz mz cz Z, yv = .slice oz mz cz ∧ Bs wy (.slice oz mz cz) Z ∧ Z.length ≤ 64 ∧ Z.length = mz) ∧ wx = wy)
    case first =>
      by_cases h0 : r = 1
      · have h1 : (r == 1) = true := beq_iff_eq.2 h0
        clear h0
        go_wp2_with fail
        go_meet
        exact ⟨⟨_, _, _, Y.take q, rfl, Bs.pre5 HBY.out q (by omega), by rw [List.length_take, HYL.out]; omega, by rw [List.length_take, HYL.out]; omega⟩, rfl⟩
      · have h1 : (r == 1) = false := beq_eq_false_iff_ne.2 h0
        go_wp2_with fail
        go_meet
        exact ⟨⟨_, _, _, Y, rfl, HBY.out, by rw [HYL.out]; omega, HYL.out⟩, rfl⟩
    case rest =>
      obtain ⟨⟨oz, mz, cz, Z, rfl, hbz, hz64, hzm⟩, hwc⟩ := hcut
      subst hwc
      have HBZ := Lib.hid hbz
      have HZL := Lib.hid hz64
      have HZM := Lib.hid hzm
      clear hbz hz64 hzm HY HYL HYB HBY
      go_upto_region 14 with fail
      have C0 : Hid ((wc.alloc (.cells #[.slice o m c, .slice oz mz cz] 22)).heap[wc.heap.size]? = some (.cells #[.slice o m c, .slice oz mz cz] 22 (0, 0))) := Lib.hid (heap_alloc_new _ _)
      have G3 : Hid (Gr wc (wc.alloc (.cells #[.slice o m c, .slice oz mz cz] 22))) := Lib.hid (Gr.alloc (Gr.refl _) _ _)
      have BL3 := Lib.hid (HBL.out.grown G3.out)
      have BZ3 := Lib.hid (HBZ.out.grown G3.out)
      have HG3 := Lib.hid (Gr.trans HGY.out G3.out)
      clear HBL HBZ HGY G3
      go_wp2_with fail
      generalize wc.alloc (.cells #[.slice o m c, .slice oz mz cz] 22) = W9 at *
      generalize wc.heap.size = gl at *
      have HML : Hid (l.length ≤ 1000) := Lib.hid (by rw [HN.out]; omega)
      go_loopw [77] (fun iv W => ∃ t : Nat, t ≤ 2 ∧ iv = .int .i64 t ∧ W.heap[gl]? = some (.cells #[.slice o m c, .slice oz mz cz] 22 (0, 0)) ∧ Bs W (.slice o m c) l ∧ Bs W (.slice oz mz cz) Z ∧ Gr w W) (fun iv _ => 2 - (intOf iv).toNat)
      case atStart => exact ⟨0, by omega, rfl, C0.out, BL3.out, BZ3.out, HG3.out⟩
      case round =>
        obtain ⟨wi, hwi⟩ : ∃ x, x = wr := ⟨_, rfl⟩
        subst hwi
        obtain ⟨t, ht, rfl, hc, hb1, hb2, hg⟩ := hrel
        clear C0 BL3 BZ3 HG3
        by_cases hlt : t < 2
        · obtain ⟨ot, mt, ct, Lt, hct, hbt, hlt2⟩ : ∃ (ot : Option Addr) (mt ct : Nat) (Lt : List Int), wi.cell? ⟨gl, t, none⟩ = some (.slice ot mt ct) ∧ Bs wi (.slice ot mt ct) Lt ∧ Lt.length ≤ 1000 := by
            rcases (by omega : t = 0 ∨ t = 1) with rfl | rfl
            · exact ⟨o, m, c, l, by rw [cell_of_row _ _ 0 _ _ _ hc]; rfl, hb1, HML.out⟩
            · exact ⟨oz, mz, cz, Z, by rw [cell_of_row _ _ 1 _ _ _ hc]; rfl, hb2, by have := HZL.out; omega⟩
          have HC := Lib.hid hc
          have HB1 := Lib.hid hb1
          have HB2 := Lib.hid hb2
          have HG := Lib.hid hg
          have HBT := Lib.hid hbt
          have HLT := Lib.hid hlt2
          clear hc hb1 hb2 hg hbt hlt2
          go_wp2_with fail
          refine (HO.out.take _ Lt _ HG.out HLT.out HBT.out).mono ?_
          rintro e w5 ⟨u5, rfl, hn5⟩
          obtain ⟨lx, hlx⟩ : ∃ m, (Cell.takeX Lt).length = m := ⟨_, rfl⟩
          have HLX := Lib.hid hlx
          obtain ⟨o5, c5, e5⟩ := hn5.2.form5
          rw [hlx] at e5
          subst e5
          have B5 := Lib.hid hn5.2
          have G5 := Lib.hid hn5.1
          clear hn5 hlx
          obtain ⟨tk, htk⟩ : ∃ k, Cell.takeK Lt = k := ⟨_, rfl⟩
          obtain ⟨ti, hti⟩ : ∃ b, decide (Cell.Is Lt) = b := ⟨_, rfl⟩
          have HTK := Lib.hid htk
          have HTI := Lib.hid hti
          rw [htk, hti]
          clear htk hti
          go_wp2_with fail
          refine (refTake_any _ Lt _ (HBT.out.grown G5.out)).mono ?_
          rw [HTK.out, HTI.out]
          rintro e w6 ⟨u6, rfl, hn6⟩
          obtain ⟨o6, c6, e6⟩ := (New.bs hn6).form5
          rw [HLX.out] at e6
          subst e6
          have B6 := Lib.hid (New.bs hn6)
          have B56 := Lib.hid (B5.out.grown hn6.1)
          have G6 := Lib.hid (Gr.trans G5.out hn6.1)
          clear hn6 B5 G5
          go_wp2_with fail
          refine (same_any _ _ _ _ _ B56.out B6.out).mono ?_
          rw [beq_self_eq_true]
          rintro e w7 ⟨rfl, hg7⟩
          have G7 := Lib.hid (Gr.trans G6.out hg7)
          have HC8 := Lib.hid (keptRow G7.out HC.out)
          have HB8 := Lib.hid (HB1.out.grown G7.out)
          have HB9 := Lib.hid (HB2.out.grown G7.out)
          have HG8 := Lib.hid (Gr.trans HG.out G7.out)
          clear hg7 B56 B6 G6 G7
          go_wp2_with fail
          exact ⟨⟨t + 1, by omega, by go_num, HC8.out, HB8.out, HB9.out, HG8.out⟩, by simp [intOf]; omega⟩
        · obtain rfl : t = 2 := by omega
          have HG := Lib.hid hg
          clear hc hb1 hb2 hg
          go_wp2_with fail
          refine (cellWakes_any HO.out _ HG.out).mono ?_
          rintro e w9 ⟨rfl, hg9⟩
          have HG9 := Lib.hid (Gr.trans HG.out hg9)
          clear hg9 HG
          go_wp2_with fail
          go_ret
          exact ⟨rfl, HG9.out⟩
end Go.Proofs.YtpckdjapkngpgaaDoor
