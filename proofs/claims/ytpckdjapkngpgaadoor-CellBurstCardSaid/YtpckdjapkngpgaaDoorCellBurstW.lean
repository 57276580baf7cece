/-
  Law CellBurst, walked: a cell of which some bits within 32 in a row are turned is none.
-/
import Derived.Test.YtpckdjapkngpgaaDoorVg
import Derived.Test.YtpckdjapkngpgaaDoorVd
namespace Go.Proofs.YtpckdjapkngpgaaDoor
open Go.RowKit

set_option maxRecDepth 100000 in
set_option maxHeartbeats 800000 in
theorem cellBurst_walk (kind : Int) (v : Value) (l : List Int) (at' mask : Int) (w : World) (O : CellOk w) (h : Bs w v l) :
    Calls Tryd.prog 7 #[.int .i64 kind, v, .int .i64 at', .int .u64 mask] w fun e w' => e = .returned (.bool true) ∧ Gr w w' := by
  have HO := Lib.hid O
  obtain ⟨mk, hmk, hmk2⟩ : ∃ m : Nat, mask % 4294967296 = m ∧ m < 4294967296 := ⟨(mask % 4294967296).toNat, by omega, by omega⟩
  have hw32 : IntKind.u32.wrap mask = (mk : Int) := by rw [← hmk]; simp [IntKind.wrap, IntKind.bits, IntKind.signed]
  obtain ⟨o, c, rfl⟩ := h.form5
  have H := Lib.hid h
  obtain ⟨k, hk, hk1, hk2⟩ : ∃ k : Int, kind % 255 = k ∧ 0 ≤ k ∧ k ≤ 254 := ⟨_, rfl, by omega, by omega⟩
  have HK := Lib.hid hk
  clear O h hmk hk
  go_enter Tryd.func7, Tryd.ntmps7
  go_wp2_with fail
  refine (within_any kind 255 (by omega) (by omega) _).mono ?_
  rw [HK.out]
  rintro e w' ⟨rfl, rfl⟩
  go_wp2_with fail
  refine (cut_any _ l 55 _ H.out (by omega)).mono ?_
  rintro e w' ⟨v1, rfl, hb1, rfl⟩
  obtain ⟨L, hL⟩ : ∃ L, l.take 55 = L := ⟨_, rfl⟩
  rw [hL] at hb1
  have hl : L.length ≤ 55 := by rw [← hL, List.length_take]; omega
  have hm : Cell.MayC (1 + k) L := ⟨by omega, by omega, hl⟩
  have HB := Lib.hid hb1
  have HL := Lib.hid hl
  obtain ⟨X, hX⟩ : ∃ X, Cell.cell (1 + k) L = X := ⟨_, rfl⟩
  have HP : Hid (Cell.put (1 + k) L = X) := Lib.hid (by rw [← hX]; exact Cell.put_in hm)
  have HXL : Hid (X.length = 64) := Lib.hid (by rw [← hX]; exact Cell.cell_length hl)
  have HXB : Hid (∀ x ∈ X, Byt x) := Lib.hid (by rw [← hX]; exact Cell.cell_byt ⟨by omega, by omega⟩ hb1.1)
  have HXI : Hid (Cell.Is X) := Lib.hid (by rw [← hX]; exact Cell.is_cell hm)
  clear hL hb1 hl hm hX
  go_wp2_with fail
  refine (HO.out.put (1 + k) v1 L _ (Gr.refl _) ⟨by omega, by omega⟩ (by have := HL.out; omega) HB.out).mono ?_
  rw [HP.out]
  rintro e w3 ⟨u, rfl, hn⟩
  obtain ⟨gx, cx, hv, hge, hcx, hcm, hwb⟩ := Wb.of_new hn (by rw [HXL.out]; omega)
  rw [HXL.out] at hv hcx
  subst hv
  have HG3 := Lib.hid hn.1
  have HGE := Lib.hid hge
  have HWB := Lib.hid hwb
  clear hn hge hwb HB
  go_wp2_with fail
  refine (within_any at' 512 (by omega) (by omega) _).mono ?_
  rintro e w' ⟨rfl, rfl⟩
  obtain ⟨bit, hbit, hbit2⟩ : ∃ b : Nat, at' % 512 = b ∧ b ≤ 1000000 := ⟨(at' % 512).toNat, by omega, by omega⟩
  rw [hbit]
  clear hbit
  go_wp2_with fail
  refine (turn_any gx cx bit mk 64 X _ HXL.out hcx hcm HXB.out hbit2 hmk2 HWB.out).mono ?_
  rintro e w6 ⟨rfl, hw6, hk6⟩
  have HIF : Hid (Cell.Is (Crc.turnL bit mk X 32) ↔ Crc.turnN bit mk 64 32 = 0) := Lib.hid (Cell.turned_is HXB.out HXI.out)
  have HYB := Lib.hid (Crc.turnL_byt (bit := bit) (mask := mk) HXB.out 32)
  have HYL : Hid ((Crc.turnL bit mk X 32).length = 64) := Lib.hid (by rw [Crc.turnL_length, HXL.out])
  have HG6 : Hid (Gr w w6) := Lib.hid (hk6.gr HG3.out (fun k e => by rw [e]; exact HGE.out))
  generalize Crc.turnL bit mk X 32 = Y at *
  generalize Crc.turnN bit mk 64 32 = nt at *
  have HBY : Hid (Bs w6 (.slice (some ⟨gx, 0, none⟩) 64 cx) Y) := Lib.hid (by
    have := hw6.bs HYB.out (by rw [HYL.out]; exact hcx) hcm
    rwa [HYL.out] at this)
  clear hw6 hk6 HWB HG3 HXB HXL HXI HP
  go_wp2_with fail
  refine (HO.out.take _ Y _ HG6.out (by rw [HYL.out]; omega) HBY.out).mono ?_
  rintro e w7 ⟨u7, rfl, hn7⟩
  have HG7 := Lib.hid (Gr.trans HG6.out hn7.1)
  have hdec : decide (Cell.Is Y) = ((nt : Int) == 0) := by
    by_cases h0 : nt = 0
    · rw [decide_eq_true (HIF.out.2 h0), h0]
      rfl
    · rw [decide_eq_false (fun h => h0 (HIF.out.1 h))]
      exact (beq_eq_false_iff_ne.2 (by omega)).symm
  rw [hdec]
  clear hn7 HG6 hdec
  go_wp2_with fail
  refine (cellWakes_any HO.out _ HG7.out).mono ?_
  rintro e w8 ⟨rfl, hg8⟩
  have HG8 := Lib.hid (Gr.trans HG7.out hg8)
  clear hg8 HG7
  go_wp2_with fail
  go_ret
  exact ⟨rfl, HG8.out⟩
end Go.Proofs.YtpckdjapkngpgaaDoor
