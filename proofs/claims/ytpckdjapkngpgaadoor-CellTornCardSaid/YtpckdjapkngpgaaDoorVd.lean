/-
  The law's own Turn, walked: bits of bytes of one's own.
-/
import Derived.Test.YtpckdjapkngpgaaDoorVc
import Derived.Test.YtpckdjapkngpgaaDoorKp
namespace Go.Proofs.YtpckdjapkngpgaaDoor
open Go.RowKit

/-- Block g begins with the bytes L, and may be written. -/
def Wb (w : World) (g : Nat) (L : List Int) : Prop := ∃ cur, w.heap[g]? = some (.cells cur 5 (0, 0)) ∧ L.length ≤ cur.size ∧ ∀ i, i < L.length → cur[i]? = some (.int .u8 (L.getD i 0))
theorem Wb.cell {w : World} {g : Nat} {L : List Int} (h : Wb w g L) (i : Nat) (hi : i < L.length) : w.cell? ⟨g, i, none⟩ = some (.int .u8 (L.getD i 0)) := by
  obtain ⟨cur, h1, _, h2⟩ := h
  rw [cell_of_row w g i _ _ _ h1, h2 i hi]
theorem Wb.frozen {w : World} {g : Nat} {L : List Int} (h : Wb w g L) (i : Nat) : w.frozen? ⟨g, i, none⟩ = false := by
  obtain ⟨cur, h1, _⟩ := h
  exact frozen_of_row w g i _ _ h1
theorem Wb.set {w : World} {g : Nat} {L : List Int} (h : Wb w g L) (i : Nat) (x : Int) : Wb (w.setCell ⟨g, i, none⟩ (.int .u8 x)) g (L.set i x) := by
  obtain ⟨cur, h1, h2, h3⟩ := h
  refine ⟨cur.setIfInBounds i (.int .u8 x), heap_setCell_same _ _ _ _ _ _ h1, by simpa using h2, fun j hj => ?_⟩
  rw [List.length_set] at hj
  by_cases e : i = j
  · subst e
    rw [Array.getElem?_setIfInBounds_self_of_lt (by omega), List.getD_eq_getElem?_getD, List.getElem?_set_self hj]
    rfl
  · rw [Array.getElem?_setIfInBounds_ne e, h3 j hj, List.getD_eq_getElem?_getD, List.getD_eq_getElem?_getD, List.getElem?_set_ne e]
theorem Wb.bs {w : World} {g c : Nat} {L : List Int} (h : Wb w g L) (hb : ∀ x ∈ L, Byt x) (hc : L.length ≤ c) (hm : c ≤ 9223372036854775807) : Bs w (.slice (some ⟨g, 0, none⟩) L.length c) L :=
  ⟨hb, some ⟨g, 0, none⟩, c, rfl, hc, hm, (fun e => by cases e), fun a ha i hi => by
    cases ha
    rw [Addr.add_mid, Nat.zero_add]
    exact h.cell i hi⟩
theorem Wb.of_new {w w' : World} {v : Value} {l : List Int} (h : New w w' v l) (hl : 0 < l.length) : ∃ g c, v = .slice (some ⟨g, 0, none⟩) l.length c ∧ w.heap.size ≤ g ∧ l.length ≤ c ∧ c ≤ 9223372036854775807 ∧ Wb w' g l := by
  obtain ⟨_, _, h | h⟩ := h
  · obtain ⟨rfl, _⟩ := h
    simp at hl
  · obtain ⟨g, c, cur, rfl, h0, h1, h2, h3, h4⟩ := h
    refine ⟨g, c, rfl, h0, h2, h3, cur, h1, ?_, h4⟩
    have := h4 (l.length - 1) (by omega)
    have := (Array.getElem?_eq_some_iff.1 this).1
    omega
set_option maxRecDepth 100000 in
set_option maxHeartbeats 1600000 in
theorem turn_any (g c bit mask n : Nat) (L : List Int) (w : World) (hn : L.length = n) (hnc : n ≤ c) (hc : c ≤ 9223372036854775807) (hb : ∀ x ∈ L, Byt x) (hbit : bit ≤ 1000000) (hmask : mask < 4294967296) (h : Wb w g L) :
    Calls Tryd.prog 20 #[.slice (some ⟨g, 0, none⟩) n c, .int .i64 (bit : Int), .int .u32 (mask : Int)] w fun e w' => e = .returned (.int .i64 (Crc.turnN bit mask n 32 : Nat)) ∧ Wb w' g (Crc.turnL bit mask L 32) ∧ Kp (fun k => k = g) w w' := by
  have HB := Lib.hid hb
  have HN := Lib.hid hn
  have HW := Lib.hid h
  clear hb hn h
  go_enter Tryd.func20, Tryd.ntmps20
  go_wp2_with fail
  go_loopw [7, 8] (fun nv iv W => ∃ t : Nat, t ≤ 32 ∧ iv = .int .i64 (t : Int) ∧ nv = .int .i64 (Crc.turnN bit mask n t : Nat) ∧ Wb W g (Crc.turnL bit mask L t) ∧ Kp (fun k => k = g) w W) (fun _ iv _ => 32 - (intOf iv).toNat)
  case atStart => exact ⟨0, by omega, rfl, rfl, HW.out, Kp.refl _ _⟩
  case round =>
    obtain ⟨wi, hwi⟩ : ∃ x, x = wr := ⟨_, rfl⟩
    subst hwi
    obtain ⟨t, ht, rfl, rfl, hw, hk⟩ := hrel
    clear HW
    have HTL : Hid ((Crc.turnL bit mask L t).length = n) := Lib.hid (by rw [Crc.turnL_length, HN.out])
    have HTB : Hid (∀ x ∈ Crc.turnL bit mask L t, Byt x) := Lib.hid (Crc.turnL_byt HB.out t)
    have HNX : Hid (Crc.turnL bit mask L (t + 1) = Crc.turn1 bit mask (Crc.turnL bit mask L t) t) := Lib.hid rfl
    have HNN : Hid (Crc.turnN bit mask n (t + 1) = Crc.turnN bit mask n t + if mask / 2 ^ t % 2 = 1 ∧ (bit + t) / 8 < n then 1 else 0) := Lib.hid rfl
    have hnl := Crc.turnN_le bit mask n t
    have HWW := Lib.hid hw
    have HKK := Lib.hid hk
    clear hw hk
    by_cases hlt : t < 32
    · obtain ⟨ms, hms⟩ : ∃ m, mask / 2 ^ t = m := ⟨_, rfl⟩
      have hms2 : ms < 4294967296 := by rw [← hms]; exact Nat.lt_of_le_of_lt (Nat.div_le_self _ _) hmask
      have hmi : (mask : Int) / 2 ^ t = (ms : Int) := by rw [← hms]; simp
      obtain ⟨q, hq⟩ : ∃ q, (bit + t) / 8 = q := ⟨_, rfl⟩
      obtain ⟨r, hr⟩ : ∃ r, (bit + t) % 8 = r := ⟨_, rfl⟩
      unfold Crc.turn1 at HNX
      rw [hms, hq] at HNN
      rw [hms, hq, hr, HTL.out] at HNX
      obtain ⟨kk, hkk⟩ : ∃ k, bit + t = k := ⟨_, rfl⟩
      have k1 : (bit : Int) + (t : Int) = (kk : Int) := by omega
      have k2 : (kk : Int) / 8 = (q : Int) := by omega
      have k3 : (kk : Int) % 8 = (r : Int) := by omega
      have k4 : IntKind.i64.wrap (kk : Int) = (kk : Int) := by simp [IntKind.wrap, IntKind.bits, IntKind.signed]; omega
      have k5 : (0 : Int) ≤ (kk : Int) := by omega
      have k6 : (0 : Int) ≤ (t : Int) := by omega
      have hr8 : r < 8 := by omega
      have k7 := u32_odd ms hms2
      clear hms hq hr hkk
      generalize Crc.turnL bit mask L t = LT at *
      generalize Crc.turnN bit mask n t = nt at *
      by_cases ho : ms % 2 = 1
      · rw [ho] at k7
        by_cases hqn : q < n
        · have k8 : (q : Int) < (n : Int) := by omega
          rw [if_pos ⟨ho, hqn⟩] at HNX
          have q1 := HWW.out.cell q (by rw [HTL.out]; exact hqn)
          have q2 := HWW.out.frozen q
          have hby := Crc.getD_byt HTB.out q
          obtain ⟨b, hb1⟩ : ∃ b : Nat, LT.getD q 0 = b := ⟨(LT.getD q 0).toNat, by unfold Byt at hby; omega⟩
          have hb2 : b < 256 := by unfold Byt at hby; omega
          obtain ⟨pw, hpw⟩ : ∃ p : Nat, 2 ^ r = p := ⟨_, rfl⟩
          have hpw2 : pw < 256 := by rw [← hpw]; exact Nat.lt_of_lt_of_le (Nat.pow_lt_pow_right (by omega) hr8) (by omega : (2 : Nat) ^ 8 ≤ 256)
          have p1 : (2 : Int) ^ r = (pw : Int) := by rw [← hpw]; simp
          have p2 : IntKind.u8.wrap (pw : Int) = (pw : Int) := by simp [IntKind.wrap, IntKind.bits, IntKind.signed]; omega
          have p3 := u8_xor_nat b pw hb2 hpw2
          have HNW : Hid (Wb (wi.setCell ⟨g, q, none⟩ (.int .u8 ((b ^^^ pw : Nat) : Int))) g (Crc.turnL bit mask L (t + 1)) ∧ Kp (fun k => k = g) w (wi.setCell ⟨g, q, none⟩ (.int .u8 ((b ^^^ pw : Nat) : Int)))) := Lib.hid ⟨by
            rw [HNX.out, hb1, Int.toNat_natCast, hpw]
            exact HWW.out.set _ _, HKK.out.trans (Kp.set _ _ _ _) fun _ e => .inl e⟩
          rw [hb1] at q1
          rw [if_pos ⟨ho, hqn⟩] at HNN
          clear hby hb1 hpw HWW HKK
          go_wp2_with fail
          go_region
          go_wp2_with fail
          exact ⟨⟨t + 1, by omega, by go_num, by rw [HNN.out]; go_num, HNW.out.1, HNW.out.2⟩, by simp [intOf]; omega⟩
        · have k8 : ¬ (q : Int) < (n : Int) := by omega
          rw [if_neg (fun c => hqn c.2)] at HNX HNN
          have HW2 : Hid (Wb wi g (Crc.turnL bit mask L (t + 1))) := Lib.hid (by rw [HNX.out]; exact HWW.out)
          go_wp2_with fail
          exact ⟨⟨t + 1, by omega, by go_num, by rw [HNN.out]; rfl, HW2.out, HKK.out⟩, by simp [intOf]; omega⟩
      · rw [show ms % 2 = 0 from by omega] at k7
        rw [if_neg (fun c => ho c.1)] at HNX HNN
        have HW2 : Hid (Wb wi g (Crc.turnL bit mask L (t + 1))) := Lib.hid (by rw [HNX.out]; exact HWW.out)
        go_wp2_with fail
        exact ⟨⟨t + 1, by omega, by go_num, by rw [HNN.out]; rfl, HW2.out, HKK.out⟩, by simp [intOf]; omega⟩
    · obtain rfl : t = 32 := by omega
      go_wp2_with fail
      go_ret
      exact ⟨rfl, HWW.out, HKK.out⟩
end Go.Proofs.YtpckdjapkngpgaaDoor
