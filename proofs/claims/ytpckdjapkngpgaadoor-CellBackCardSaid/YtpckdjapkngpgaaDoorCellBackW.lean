/-
  Law CellBack, walked: what is put comes back; there is no other form.
-/
import Derived.Test.YtpckdjapkngpgaaDoorVg
import Derived.Test.YtpckdjapkngpgaaDoorVd
namespace Go.Proofs.YtpckdjapkngpgaaDoor
open Go.RowKit

theorem Wb.gr5 {w w' : World} {g : Nat} {L : List Int} (h : Wb w g L) (hg : Gr w w') : Wb w' g L := by
  obtain ⟨cur, h1, h2⟩ := h
  exact ⟨cur, keptRow hg h1, h2⟩
set_option maxRecDepth 100000 in
set_option maxHeartbeats 1600000 in
theorem cellBack_walk (kind : Int) (v : Value) (l : List Int) (at' cc : Int) (w : World) (O : CellOk w) (h : Bs w v l) (hcc : Byt cc) :
    Calls Tryd.prog 5 #[.int .i64 kind, v, .int .i64 at', .int .u8 cc] w fun e w' => e = .returned (.bool true) ∧ Gr w w' := by
  have HO := Lib.hid O
  obtain ⟨o, c, rfl⟩ := h.form5
  have H := Lib.hid h
  obtain ⟨k, hk, hk1, hk2⟩ : ∃ k : Int, kind % 255 = k ∧ 0 ≤ k ∧ k ≤ 254 := ⟨_, rfl, by omega, by omega⟩
  have HK := Lib.hid hk
  obtain ⟨q, hq, hq2⟩ : ∃ q : Nat, at' % 64 = q ∧ q < 64 := ⟨(at' % 64).toNat, by omega, by omega⟩
  have HQ := Lib.hid hq
  obtain ⟨cn, rfl, hcn⟩ : ∃ n : Nat, cc = n ∧ n < 256 := ⟨cc.toNat, by unfold Byt at hcc; omega, by unfold Byt at hcc; omega⟩
  clear O h hk hq hcc
  go_enter Tryd.func5, Tryd.ntmps5
  go_wp2_with fail
  refine (within_any kind 255 (by omega) (by omega) _).mono ?_
  rw [HK.out]
  rintro e w' ⟨rfl, rfl⟩
  go_wp2_with fail
  refine (cut_any _ l 55 _ H.out (by omega)).mono ?_
  rintro e w' ⟨v1, rfl, hb1, rfl⟩
  obtain ⟨L, hL⟩ : ∃ L, l.take 55 = L := ⟨_, rfl⟩
  rw [hL] at hb1
  have hl : L.length ≤ 55 := by rw [← hL, List.length_take]; omega
  have hm : Cell.MayC (1 + k) L := ⟨by omega, by omega, hl⟩
  have HB := Lib.hid hb1
  have HL := Lib.hid hl
  obtain ⟨X, hX⟩ : ∃ X, Cell.cell (1 + k) L = X := ⟨_, rfl⟩
  have HP : Hid (Cell.put (1 + k) L = X) := Lib.hid (by rw [← hX]; exact Cell.put_in hm)
  have HXL : Hid (X.length = 64) := Lib.hid (by rw [← hX]; exact Cell.cell_length hl)
  have HXB : Hid (∀ x ∈ X, Byt x) := Lib.hid (by rw [← hX]; exact Cell.cell_byt ⟨by omega, by omega⟩ hb1.1)
  have HXI : Hid (Cell.Is X) := Lib.hid (by rw [← hX]; exact Cell.is_cell hm)
  have HXK : Hid (Cell.takeK X = 1 + k) := Lib.hid (by rw [← hX]; exact Cell.takeK_cell hm)
  have HXX : Hid (Cell.takeX X = Cell.pad L) := Lib.hid (by rw [← hX]; exact Cell.takeX_cell hm)
  have HPP : Hid (Cell.put (1 + k) (Cell.pad L) = X) := Lib.hid (by rw [Cell.put_in ⟨by omega, by omega, by rw [Cell.pad_length hl]; omega⟩, ← hX]; unfold Cell.cell Cell.pre; rw [Cell.pad_pad hl])
  have HPL : Hid ((Cell.pad L).length = 55) := Lib.hid (Cell.pad_length hl)
  obtain ⟨nl, hnl⟩ : ∃ m, L.length = m := ⟨_, rfl⟩
  have HNL := Lib.hid hnl
  obtain ⟨o1, c1, e1⟩ := hb1.form5
  rw [hnl] at e1 hl
  subst e1
  clear hL hb1 hm hX hnl
  go_wp2_with fail
  refine (HO.out.put (1 + k) (.slice o1 nl c1) L _ (Gr.refl _) ⟨by omega, by omega⟩ (by have := HL.out; omega) HB.out).mono ?_
  rw [HP.out]
  rintro e w3 ⟨u, rfl, hn⟩
  obtain ⟨gx, cx, hv, hge, hcx, hcm, hwb⟩ := Wb.of_new hn (by rw [HXL.out]; omega)
  rw [HXL.out] at hv hcx
  subst hv
  have HG3 := Lib.hid hn.1
  have HB3 := Lib.hid (HB.out.grown hn.1)
  have HGE := Lib.hid hge
  have HWB := Lib.hid hwb
  clear hn hge hwb HB
  have HBX : Hid (Bs w3 (.slice (some ⟨gx, 0, none⟩) 64 cx) X) := Lib.hid (by
    have := HWB.out.bs HXB.out (by rw [HXL.out]; exact hcx) hcm
    rwa [HXL.out] at this)
  go_wp2_with fail
  refine (HO.out.take _ X _ HG3.out (by rw [HXL.out]; omega) HBX.out).mono ?_
  rw [HXK.out, HXX.out, decide_eq_true HXI.out]
  rintro e w4 ⟨u4, rfl, hn4⟩
  obtain ⟨o4, c4, e4⟩ := hn4.2.form5
  rw [HPL.out] at e4
  subst e4
  have HG4 := Lib.hid (Gr.trans HG3.out hn4.1)
  have G34 := Lib.hid hn4.1
  have BX4 := Lib.hid hn4.2
  have HB4 := Lib.hid (HB3.out.grown hn4.1)
  clear hn4 HG3 HB3
  obtain ⟨d, hd, hd2⟩ : ∃ d : Nat, (55 : Int) - (nl : Int) = d ∧ nl + d = 55 := ⟨55 - nl, by omega, by omega⟩
  have HPD : Hid (L ++ List.replicate d 0 = Cell.pad L) := Lib.hid (by unfold Cell.pad; rw [HNL.out, show 55 - nl = d from by omega])
  have HD2 := Lib.hid hd2
  clear hd2
  go_wp2_with (first
    | (at_builtin; refine want_append_zeros rfl _ _ rfl w4.heap.size (.slice o5 nl c5) nl L rfl O5.out d rfl (by have := HD2.out; omega) G5.out.size ?_; intro v6 w6 ho6 hg6; obtain ⟨o6, c6, rfl⟩ := ownsRow_form ho6; have O6 := Lib.hid ho6; have G6 : Hid (Gr w4 w6) := Lib.hid (Gr.append G5.out hg6 (ownsRow_base O5.out)); clear ho6 hg6)
    | (at_builtin; refine wpList_append_bytes rfl _ _ rfl w4.heap.size (.slice none 0 0) 0 [] rfl (World.ownsRow_nil _ _ _ _) o1 nl c1 L rfl HB4.out (by omega) (Nat.le_refl _) ?_; intro v5 w5 ho5 hg5; rw [Nat.zero_add, List.nil_append] at ho5; obtain ⟨o5, c5, rfl⟩ := ownsRow_form ho5; have O5 := Lib.hid ho5; have G5 : Hid (Gr w4 w5) := Lib.hid (Gr.append (Gr.refl w4) hg5 (fun _ h => by cases h)); clear ho5 hg5))
  have N6 : Hid (New w4 w6 (.slice o6 (nl + d) c6) (Cell.pad L)) := Lib.hid (by
    refine New.of_row G6.out ?_ (by rw [HPL.out, ← HPD.out, ← HD2.out]; exact O6.out)
    exact BX4.out.1)
  have BX6 := Lib.hid (BX4.out.grown G6.out)
  have HG6 := Lib.hid (Gr.trans HG4.out G6.out)
  have G36 := Lib.hid (Gr.trans G34.out G6.out)
  clear O5 G5 O6 G6 BX4 HG4 G34 HB4 hd
  refine (same_any _ _ (Cell.pad L) (Cell.pad L) _ BX6.out (New.bs N6.out)).mono ?_
  rw [beq_self_eq_true]
  rintro e w7 ⟨rfl, hg7⟩
  have HG7 := Lib.hid (Gr.trans HG6.out hg7)
  have G37 := Lib.hid (Gr.trans G36.out hg7)
  have BX7 := Lib.hid (BX6.out.grown hg7)
  clear hg7 BX6 HG6 G36 N6
  go_wp2_with fail
  refine (HO.out.put (1 + k) (.slice o4 55 c4) (Cell.pad L) _ HG7.out ⟨by omega, by omega⟩ (by rw [HPL.out]; omega) BX7.out).mono ?_
  rw [HPP.out]
  rintro e w8 ⟨u8, rfl, hn8⟩
  obtain ⟨o8, c8, e8⟩ := (New.bs hn8).form5
  rw [HXL.out] at e8
  subst e8
  have HG8 := Lib.hid (Gr.trans HG7.out hn8.1)
  have G38 := Lib.hid (Gr.trans G37.out hn8.1)
  have N8 := Lib.hid hn8
  clear hn8 HG7 G37 BX7
  go_wp2_with fail
  refine (same_any _ _ X X _ (New.bs N8.out) (HBX.out.grown G38.out)).mono ?_
  rw [beq_self_eq_true]
  rintro e w9 ⟨rfl, hg9⟩
  have HG9 := Lib.hid (Gr.trans HG8.out hg9)
  have G39 := Lib.hid (Gr.trans G38.out hg9)
  clear hg9 N8 HG8 G38
  go_wp2_with fail
  refine (within_any at' 64 (by omega) (by omega) _).mono ?_
  rintro e w' ⟨rfl, rfl⟩
  rw [HQ.out]
  have hw9 := HWB.out.gr5 G39.out
  have hby := Crc.getD_byt HXB.out q
  obtain ⟨b, hb1⟩ : ∃ b : Nat, X.getD q 0 = b := ⟨(X.getD q 0).toNat, by unfold Byt at hby; omega⟩
  have hb2 : b < 256 := by unfold Byt at hby; omega
  have q1 := hw9.cell q (by rw [HXL.out]; exact hq2)
  have q2 := hw9.frozen q
  rw [hb1] at q1
  have e3 := u8_xor_nat b cn hb2 hcn
  have hq3 : (q : Int) < 64 := by omega
  have hone := Cell.one_is HXB.out HXI.out hq2 hcn
  rw [hb1, Int.toNat_natCast] at hone
  have HW2 : Hid (Wb (w9.setCell ⟨gx, q, none⟩ (.int .u8 ((b ^^^ cn : Nat) : Int))) gx (X.set q ((b ^^^ cn : Nat) : Int))) := Lib.hid (hw9.set _ _)
  have HB2 : Hid (∀ x ∈ X.set q ((b ^^^ cn : Nat) : Int), Byt x) := Lib.hid fun x hx => by
    rcases List.mem_or_eq_of_mem_set hx with h | h
    · exact HXB.out x h
    · rw [h]
      have := Nat.xor_lt_two_pow (n := 8) (x := b) (y := cn) (by omega) hcn
      unfold Byt
      omega
  have HL2 : Hid ((X.set q ((b ^^^ cn : Nat) : Int)).length = 64) := Lib.hid (by rw [List.length_set, HXL.out])
  have HG10 : Hid (Gr w (w9.setCell ⟨gx, q, none⟩ (.int .u8 ((b ^^^ cn : Nat) : Int)))) := Lib.hid (Gr.setCell HG9.out HGE.out _)
  have HONE := Lib.hid hone
  generalize X.set q ((b ^^^ cn : Nat) : Int) = X2 at *
  clear hw9 hby hb1 hone HWB HG9 G39
  go_wp2_with fail
  have HBY : Hid (Bs (w9.setCell ⟨gx, q, none⟩ (.int .u8 ((b ^^^ cn : Nat) : Int))) (.slice (some ⟨gx, 0, none⟩) 64 cx) X2) := Lib.hid (by
    have := HW2.out.bs HB2.out (by rw [HL2.out]; exact hcx) hcm
    rwa [HL2.out] at this)
  refine (HO.out.take _ X2 _ HG10.out (by rw [HL2.out]; omega) HBY.out).mono ?_
  rintro e w11 ⟨u11, rfl, hn11⟩
  have HG11 := Lib.hid (Gr.trans HG10.out hn11.1)
  have hdec : decide (Cell.Is X2) = ((cn : Int) == 0) := by
    by_cases h0 : cn = 0
    · rw [decide_eq_true (HONE.out.2 h0), h0]
      rfl
    · rw [decide_eq_false (fun h => h0 (HONE.out.1 h))]
      exact (beq_eq_false_iff_ne.2 (by omega)).symm
  rw [hdec]
  clear hn11 HG10 hdec
  go_wp2_with fail
  refine (cellWakes_any HO.out _ HG11.out).mono ?_
  rintro e w12 ⟨rfl, hg12⟩
  have HG12 := Lib.hid (Gr.trans HG11.out hg12)
  clear hg12 HG11
  go_wp2_with fail
  go_ret
  exact ⟨rfl, HG12.out⟩
end Go.Proofs.YtpckdjapkngpgaaDoor
