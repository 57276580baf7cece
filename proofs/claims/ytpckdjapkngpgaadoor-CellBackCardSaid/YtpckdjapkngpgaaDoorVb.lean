/-
  What package crc is to do, as a contract; the document's own sum; the document's example.
-/
import Derived.Test.YtpckdjapkngpgaaDoorVa
import Derived.Test.YtpckdjapkngpgaaDoorSp
import Derived.Deep.CutBlock
import Derived.Lib.SlBytesConst
namespace Go.Proofs.YtpckdjapkngpgaaDoor
open Go.RowKit

theorem Bs.form5 {w : World} {v : Value} {l : List Int} (h : Bs w v l) : ∃ oa c, v = .slice oa l.length c := by
  obtain ⟨_, oa, c, h, _⟩ := h
  exact ⟨oa, c, h⟩
/-- A part of bytes. -/
theorem Bs.mid5 {w : World} {m c : Nat} {ad : Addr} {l : List Int} (h : Bs w (.slice (some ad) m c) l) (i k : Nat) (hik : i + k ≤ m) : Bs w (.slice (if c = i then some ad else some (ad.add i)) k (c - i)) ((l.drop i).take k) := by
  obtain ⟨h0, oa, c', he, h2, h3, h4, h5⟩ := h
  obtain ⟨ho, hm, rfl⟩ : some ad = oa ∧ m = l.length ∧ c = c' := by simpa using he
  have hl : ((l.drop i).take k).length = k := by rw [List.length_take, List.length_drop]; omega
  refine ⟨fun x hx => h0 x (List.mem_of_mem_drop (List.mem_of_mem_take hx)), _, c - i, by rw [hl], by rw [hl]; omega, by omega, (fun e => by split at e <;> cases e), fun a ha2 j hj => ?_⟩
  rw [hl] at hj
  rw [if_neg (by omega)] at ha2
  cases ha2
  rw [Go.Addr.add_add, List.getD_eq_getElem?_getD, List.getElem?_take_of_lt hj, List.getElem?_drop, ← List.getD_eq_getElem?_getD]
  exact h5 ad ho.symm (i + j) (by omega)
theorem Bs.pre5 {w : World} {m c : Nat} {o : Option Addr} {l : List Int} (h : Bs w (.slice o m c) l) (k : Nat) (hk : k ≤ m) : Bs w (.slice o k c) (l.take k) := by
  obtain ⟨h0, oa, c', he, h2, h3, h4, h5⟩ := h
  obtain ⟨ho, hm, rfl⟩ : o = oa ∧ m = l.length ∧ c = c' := by simpa using he
  have hl : (l.take k).length = k := by rw [List.length_take]; omega
  refine ⟨fun x hx => h0 x (List.mem_of_mem_take hx), oa, c, by rw [hl, ho], by rw [hl]; omega, by omega, h4, fun a ha2 j hj => ?_⟩
  rw [hl] at hj
  rw [List.getD_eq_getElem?_getD, List.getElem?_take_of_lt hj, ← List.getD_eq_getElem?_getD]
  exact h5 a ha2 j (by omega)
theorem Bs.parts5 {w : World} {m c : Nat} {o : Option Addr} {l : List Int} (h : Bs w (.slice o m c) l) : m ≤ c ∧ c ≤ 9223372036854775807 := by
  obtain ⟨h0, oa, c', he, h2, h3, h4, h5⟩ := h
  obtain ⟨ho, hm, rfl⟩ : o = oa ∧ m = l.length ∧ c = c' := by simpa using he
  exact ⟨by omega, h3⟩
theorem Bs.none5 {w : World} {m c : Nat} {l : List Int} (h : Bs w (.slice none m c) l) : m = 0 ∧ c = 0 := by
  obtain ⟨h0, oa, c', he, h2, h3, h4, h5⟩ := h
  obtain ⟨ho, hm, rfl⟩ : none = oa ∧ m = l.length ∧ c = c' := by simpa using he
  have := h4 ho.symm
  omega
/-- The contract of package crc, in every world that grows out of W0 (in which the package-level variables are laid). -/
structure CrcOk (W0 : World) : Prop where
  sum : ∀ (v : Value) (l : List Int) (w : World), Gr W0 w → Bs w v l → l.length ≤ 1000 → Calls Tryd.prog 16 #[v] w fun e w' => e = .returned (.int .u32 (Crc.sum l : Nat)) ∧ Gr w w'
theorem u32_odd (c : Nat) (h : c < 4294967296) : bits BinOp.and IntKind.u32 (c : Int) 1 = ((c % 2 : Nat) : Int) := by
  have := u32_and_nat c 1 h (by omega)
  rw [Nat.and_one_is_mod] at this
  exact this
theorem u32_turn (c : Nat) (h : c < 4294967296) : bits BinOp.xor IntKind.u32 ((c : Int) / 2) 3988292384 = ((c / 2 ^^^ 3988292384 : Nat) : Int) := by
  have := u32_xor_nat (c / 2) 3988292384 (by omega) (by omega)
  exact this
theorem u32_not (c : Nat) (h : c < 4294967296) : bits BinOp.xor IntKind.u32 IntKind.u32.max (c : Int) = ((c ^^^ 4294967295 : Nat) : Int) := by
  have := u32_xor_nat 4294967295 c (by omega) h
  rw [Nat.xor_comm] at this
  exact this
theorem Crc.getD_byt {l : List Int} (h : ∀ x ∈ l, Byt x) (i : Nat) : Byt (l.getD i 0) := by
  by_cases hi : i < l.length
  · rw [List.getD_eq_getElem?_getD, List.getElem?_eq_getElem hi]
    exact h _ (List.getElem_mem hi)
  · rw [List.getD_eq_getElem?_getD, List.getElem?_eq_none (by omega)]
    exact ⟨by decide, by decide⟩
theorem Crc.run_take {l : List Int} {n i : Nat} (hn : l.length = n) (hi : i < n) (c : Nat) : Crc.run c (l.take (i + 1)) = Crc.it 8 (Crc.run c (l.take i) ^^^ (l.getD i 0).toNat) := by
  rw [List.take_add_one, List.getElem?_eq_getElem (by omega), Crc.run_append, List.getD_eq_getElem?_getD, List.getElem?_eq_getElem (by omega)]
  rfl
set_option maxRecDepth 100000 in
set_option maxHeartbeats 800000 in
theorem refCrc_any (v : Value) (l : List Int) (w : World) (h : Bs w v l) (hl : l.length ≤ 1000) :
    Calls Tryd.prog 22 #[v] w fun e w' => e = .returned (.int .u32 (Crc.sum l : Nat)) ∧ Gr w w' := by
  obtain ⟨n, hn⟩ : ∃ n, l.length = n := ⟨_, rfl⟩
  obtain ⟨hb, oa, c, rfl, h1, h2, h3, h4⟩ := h
  have HN := Lib.hid hn
  rw [hn] at hl h1 h4 ⊢
  have HB := Lib.hid hb
  have H4 := Lib.hid h4
  clear hb h4 hn
  have hs0 : Crc.run 4294967295 (l.take 0) = 4294967295 := rfl
  have H0 := Lib.hid hs0
  clear hs0
  go_enter Tryd.func22, Tryd.ntmps22
  go_wp2_with fail
  go_loopw [3, 8] (fun cv iv W => ∃ i s : Nat, i ≤ n ∧ iv = .int .i64 i ∧ cv = .int .u32 (s : Int) ∧ Crc.run 4294967295 (l.take i) = s ∧ s < 4294967296 ∧ w = W) (fun _ iv _ => n - (intOf iv).toNat)
  case atStart => exact ⟨0, 4294967295, by omega, rfl, rfl, H0.out, by omega, rfl⟩
  case round =>
    obtain ⟨i, s, hi, rfl, rfl, hs, hs2, rfl⟩ := hrel
    by_cases hlt : i < n
    · have hbi := Crc.getD_byt HB.out i
      obtain ⟨b, hb1⟩ : ∃ b : Nat, l.getD i 0 = b := ⟨(l.getD i 0).toNat, by unfold Byt at hbi; omega⟩
      have hb2 : b < 256 := by unfold Byt at hbi; omega
      obtain ⟨ad, rfl⟩ : ∃ a, oa = some a := by
        cases oa with
        | some a => exact ⟨a, rfl⟩
        | none => have := h3 rfl; omega
      have q1 := H4.out ad rfl i hlt
      rw [hb1] at q1
      have hx : bits BinOp.xor IntKind.u32 (s : Int) (b : Int) = ((s ^^^ b : Nat) : Int) := u32_xor_nat s b hs2 (by omega)
      obtain ⟨x0, hx0, hx1⟩ : ∃ x0, s ^^^ b = x0 ∧ x0 < 4294967296 := ⟨_, rfl, Nat.xor_lt_two_pow (n := 32) hs2 (by omega)⟩
      rw [hx0] at hx
      have HNX : Hid (Crc.run 4294967295 (l.take (i + 1)) = Crc.it 8 x0) := Lib.hid (by rw [Crc.run_take HN.out hlt, hs, hb1, Int.toNat_natCast, hx0])
      clear hs hb1 hx0 hbi
      go_wp2_with fail
      go_loopw [3, 5] (fun cv kv W => ∃ k s : Nat, k ≤ 8 ∧ kv = .int .i64 k ∧ cv = .int .u32 (s : Int) ∧ Crc.it k x0 = s ∧ s < 4294967296 ∧ w = W) (fun _ kv _ => 8 - (intOf kv).toNat)
      case atStart => exact ⟨0, x0, by omega, rfl, rfl, rfl, hx1, rfl⟩
      case round =>
        obtain ⟨k, s, hk, rfl, rfl, hs, hs2, rfl⟩ := hrel
        by_cases hk8 : k < 8
        · have e1 := u32_odd s hs2
          have e2 := u32_turn s hs2
          obtain ⟨s', hs', hs3⟩ : ∃ s', Crc.step s = s' ∧ s' < 4294967296 := ⟨_, rfl, Crc.step_lt hs2⟩
          have HIT : Hid (Crc.it (k + 1) x0 = s') := Lib.hid (by rw [← hs', ← hs]; rfl)
          unfold Crc.step at hs'
          clear hs
          by_cases ho : s % 2 = 1
          · rw [if_pos ho] at hs'
            rw [hs'] at e2
            rw [ho] at e1
            clear hs'
            go_wp2_with fail
            exact ⟨⟨k + 1, s', by omega, by go_num, rfl, HIT.out, hs3, trivial⟩, by simp [intOf]; omega⟩
          · rw [if_neg ho] at hs'
            rw [show s % 2 = 0 from by omega] at e1
            have e3 : (s : Int) / 2 = (s' : Int) := by omega
            clear hs'
            go_wp2_with fail
            exact ⟨⟨k + 1, s', by omega, by go_num, rfl, HIT.out, hs3, trivial⟩, by simp [intOf]; omega⟩
        · obtain rfl : k = 8 := by omega
          have HS : Hid (Crc.run 4294967295 (l.take (i + 1)) = s) := Lib.hid (by rw [HNX.out]; exact hs)
          clear hs
          go_wp2_with fail
          exact ⟨⟨i + 1, s, by omega, by go_num, rfl, HS.out, hs2, trivial⟩, by simp [intOf]; omega⟩
    · obtain rfl : i = n := by omega
      rw [List.take_of_length_le (by have := HN.out; omega)] at hs
      have e1 := u32_not s hs2
      have HS : Hid (s ^^^ 4294967295 = Crc.sum l) := Lib.hid (by rw [← hs]; rfl)
      clear hs
      go_wp2_with fail
      go_ret
      refine ⟨?_, Gr.refl _⟩
      rw [HS.out]
      rfl
end Go.Proofs.YtpckdjapkngpgaaDoor
