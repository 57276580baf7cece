/-
  The developers' package crc: four bits at a time, with a table of sixteen words.
-/
import Derived.Test.YtpckdjapkngpgaaDoorVb
import Derived.Lib.LaidTab
namespace Go.Proofs.YtpckdjapkngpgaaDoor
open Go.RowKit

namespace Crc
/-- The developers' table. -/
def tabZ : List Int := [0, 498536548, 997073096, 651767980, 1994146192, 1802195444, 1303535960, 1342533948, 3988292384, 4027552580, 3604390888, 3412177804, 2607071920, 2262029012, 2685067896, 3183342108]
theorem tab_it : ∀ r, r < 16 → tabZ.getD r 0 = ((it 4 r : Nat) : Int) := by decide +kernel
/-- Four steps: what is above the lowest four bits, and what the table says of these. -/
theorem it_half (s : Nat) : it 4 s = s / 16 ^^^ it 4 (s % 16) := by
  have h : s = (s % 16) ^^^ (s / 16 * 2 ^ 4) := by
    rw [← add_xor (s / 16) 4 (Nat.mod_lt _ (by omega))]
    omega
  have h2 : it 4 s = it 4 (s % 16) ^^^ it 4 (s / 16 * 2 ^ 4) := by
    rw [← it_xor, ← h]
  rw [h2, it_shift, Nat.xor_comm]
/-- The table lies in the package-level variable. -/
def Tab (w : World) : Prop := ∀ i, i < 16 → w.cell? ⟨0, i, none⟩ = some (.int .u32 (tabZ.getD i 0))
theorem Tab.gr {w w' : World} (h : Tab w) (hg : Gr w w') : Tab w' := fun i hi => cell_grown hg (h i hi)
end Crc
theorem u32_low4 (c : Nat) (h : c < 4294967296) : bits BinOp.and IntKind.u32 (c : Int) 15 = ((c % 16 : Nat) : Int) := by
  have := u32_and_nat c 15 h (by omega)
  rw [show c &&& 15 = c % 16 from Nat.and_two_pow_sub_one_eq_mod c 4] at this
  exact this
set_option maxRecDepth 100000 in
set_option maxHeartbeats 800000 in
theorem half_any (s : Nat) (w : World) (hs : s < 4294967296) (ht : Crc.Tab w) :
    Calls Tryd.prog 23 #[.int .u32 (s : Int)] w fun e w' => e = .returned (.int .u32 (Crc.it 4 s : Nat)) ∧ w' = w := by
  have e1 := u32_low4 s hs
  obtain ⟨r, hr, hr2⟩ : ∃ r, s % 16 = r ∧ r < 16 := ⟨_, rfl, Nat.mod_lt _ (by omega)⟩
  have q1 := ht r hr2
  rw [Crc.tab_it r hr2] at q1
  have hlt : Crc.it 4 r < 4294967296 := Crc.it_lt (by omega) 4
  have e2 : bits BinOp.xor IntKind.u32 ((s : Int) / 16) ((Crc.it 4 r : Nat) : Int) = ((Crc.it 4 s : Nat) : Int) := by
    have := u32_xor_nat (s / 16) (Crc.it 4 r) (by omega) hlt
    rw [← hr, ← Crc.it_half] at this
    rw [← hr]
    exact this
  rw [hr] at e1
  generalize Crc.it 4 r = t at *
  generalize Crc.it 4 s = u at *
  clear ht hr
  go_enter Tryd.func23, Tryd.ntmps23
  go_wp2_with fail
  go_ret
  exact ⟨rfl, rfl⟩
set_option maxRecDepth 100000 in
set_option maxHeartbeats 800000 in
theorem sumC_any (v : Value) (l : List Int) (w : World) (h : Bs w v l) (hl : l.length ≤ 1000) (ht : Crc.Tab w) :
    Calls Tryd.prog 16 #[v] w fun e w' => e = .returned (.int .u32 (Crc.sum l : Nat)) ∧ Gr w w' := by
  obtain ⟨n, hn⟩ : ∃ n, l.length = n := ⟨_, rfl⟩
  obtain ⟨hb, oa, c, rfl, h1, h2, h3, h4⟩ := h
  have HN := Lib.hid hn
  rw [hn] at hl h1 h4 ⊢
  have HB := Lib.hid hb
  have H4 := Lib.hid h4
  have HT := Lib.hid ht
  clear hb h4 hn ht
  have hs0 : Crc.run 4294967295 (l.take 0) = 4294967295 := rfl
  have H0 := Lib.hid hs0
  clear hs0
  go_enter Tryd.func16, Tryd.ntmps16
  go_wp2_with fail
  go_loopw [3, 8] (fun cv iv W => ∃ i s : Nat, i ≤ n ∧ iv = .int .i64 i ∧ cv = .int .u32 (s : Int) ∧ Crc.run 4294967295 (l.take i) = s ∧ s < 4294967296 ∧ w = W) (fun _ iv _ => n - (intOf iv).toNat)
  case atStart => exact ⟨0, 4294967295, by omega, rfl, rfl, H0.out, by omega, rfl⟩
  case round =>
    obtain ⟨i, s, hi, rfl, rfl, hs, hs2, rfl⟩ := hrel
    by_cases hlt : i < n
    · have hbi := Crc.getD_byt HB.out i
      obtain ⟨b, hb1⟩ : ∃ b : Nat, l.getD i 0 = b := ⟨(l.getD i 0).toNat, by unfold Byt at hbi; omega⟩
      have hb2 : b < 256 := by unfold Byt at hbi; omega
      obtain ⟨ad, rfl⟩ : ∃ a, oa = some a := by
        cases oa with
        | some a => exact ⟨a, rfl⟩
        | none => have := h3 rfl; omega
      have q1 := H4.out ad rfl i hlt
      rw [hb1] at q1
      have hx : bits BinOp.xor IntKind.u32 (s : Int) (b : Int) = ((s ^^^ b : Nat) : Int) := u32_xor_nat s b hs2 (by omega)
      obtain ⟨x0, hx0, hx1⟩ : ∃ x0, s ^^^ b = x0 ∧ x0 < 4294967296 := ⟨_, rfl, Nat.xor_lt_two_pow (n := 32) hs2 (by omega)⟩
      rw [hx0] at hx
      have HNX : Hid (Crc.run 4294967295 (l.take (i + 1)) = Crc.it 4 (Crc.it 4 x0)) := Lib.hid (by rw [Crc.run_take HN.out hlt, hs, hb1, Int.toNat_natCast, hx0]; exact Crc.it_add 4 4 x0)
      clear hs hb1 hx0 hbi
      go_wp2_with fail
      refine (half_any x0 _ hx1 HT.out).mono ?_
      rintro e w' ⟨rfl, rfl⟩
      obtain ⟨x1, hx2, hx3⟩ : ∃ x, Crc.it 4 x0 = x ∧ x < 4294967296 := ⟨_, rfl, Crc.it_lt hx1 4⟩
      rw [hx2] at HNX ⊢
      clear hx2
      go_wp2_with fail
      refine (half_any x1 _ hx3 HT.out).mono ?_
      rintro e w' ⟨rfl, rfl⟩
      obtain ⟨x2, hx4, hx5⟩ : ∃ x, Crc.it 4 x1 = x ∧ x < 4294967296 := ⟨_, rfl, Crc.it_lt hx3 4⟩
      rw [hx4] at HNX ⊢
      clear hx4
      go_wp2_with fail
      exact ⟨⟨i + 1, x2, by omega, by go_num, rfl, HNX.out, hx5, trivial⟩, by simp [intOf]; omega⟩
    · obtain rfl : i = n := by omega
      rw [List.take_of_length_le (by have := HN.out; omega)] at hs
      have e1 := u32_not s hs2
      have HS : Hid (s ^^^ 4294967295 = Crc.sum l) := Lib.hid (by rw [← hs]; rfl)
      clear hs
      go_wp2_with fail
      go_ret
      refine ⟨?_, Gr.refl _⟩
      rw [HS.out]
      rfl
theorem crc_ok {W0 : World} (h : Crc.Tab W0) : CrcOk W0 := ⟨fun v l w hg hb hl => sumC_any v l w hb hl (h.gr hg)⟩
end Go.Proofs.YtpckdjapkngpgaaDoor
