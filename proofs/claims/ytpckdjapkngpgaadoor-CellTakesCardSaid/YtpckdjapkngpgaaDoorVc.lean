/-
  Plain and walked: bits of bytes turned, from one on; how many.
-/
import Derived.Test.YtpckdjapkngpgaaDoorSumBehindW
namespace Go.Proofs.YtpckdjapkngpgaaDoor
open Go.RowKit

namespace Crc
theorem bit_test (x s : Nat) : x / 2 ^ s % 2 = (x.testBit s).toNat := by
  rw [Nat.toNat_testBit]
theorem bitL_set {l : List Int} {q r : Nat} (hq : q < l.length) (hr : r < 8) (k : Nat) :
    bitL (l.set q (((l.getD q 0).toNat ^^^ 2 ^ r : Nat) : Int)) k = bitL l k ^^^ (if k = 8 * q + r then 1 else 0) := by
  unfold bitL
  by_cases hk : k / 8 = q
  · rw [List.getD_eq_getElem?_getD, hk, List.getElem?_set_self hq, Option.getD_some, Int.toNat_natCast, bit_test, bit_test, Nat.testBit_xor, Nat.testBit_two_pow]
    by_cases hs : k = 8 * q + r
    · have : r = k % 8 := by omega
      rw [if_pos hs]
      subst this
      cases (l.getD q 0).toNat.testBit (k % 8) <;> simp
    · have : ¬ r = k % 8 := by omega
      rw [if_neg hs, Nat.xor_zero]
      simp [this]
  · rw [if_neg (by omega), Nat.xor_zero, List.getD_eq_getElem?_getD, List.getElem?_set_ne (fun c => hk c.symm), List.getD_eq_getElem?_getD]
theorem turn_byt {b : Int} {r : Nat} (h : Byt b) (hr : r < 8) : Byt ((b.toNat ^^^ 2 ^ r : Nat) : Int) := by
  unfold Byt at *
  have : (2 : Nat) ^ r < 2 ^ 8 := Nat.pow_lt_pow_right (by omega) hr
  have := Nat.xor_lt_two_pow (n := 8) (x := b.toNat) (y := 2 ^ r) (by omega) this
  omega
/-- One round: the bit is turned if the mask says so, and it is there. -/
def turn1 (bit mask : Nat) (L : List Int) (i : Nat) : List Int :=
  if mask / 2 ^ i % 2 = 1 ∧ (bit + i) / 8 < L.length then L.set ((bit + i) / 8) (((L.getD ((bit + i) / 8) 0).toNat ^^^ 2 ^ ((bit + i) % 8) : Nat) : Int) else L
def turnL (bit mask : Nat) (L : List Int) : Nat → List Int
  | 0 => L
  | i + 1 => turn1 bit mask (turnL bit mask L i) i
def turnN (bit mask n : Nat) : Nat → Nat
  | 0 => 0
  | i + 1 => turnN bit mask n i + if mask / 2 ^ i % 2 = 1 ∧ (bit + i) / 8 < n then 1 else 0
theorem turn1_length (bit mask : Nat) (L : List Int) (i : Nat) : (turn1 bit mask L i).length = L.length := by
  unfold turn1
  split
  · rw [List.length_set]
  · rfl
theorem turnL_length (bit mask : Nat) (L : List Int) (i : Nat) : (turnL bit mask L i).length = L.length := by
  induction i with
  | zero => rfl
  | succ i ih => show (turn1 bit mask (turnL bit mask L i) i).length = _; rw [turn1_length, ih]
theorem turn1_byt {bit mask : Nat} {L : List Int} (hb : ∀ x ∈ L, Byt x) (i : Nat) : ∀ x ∈ turn1 bit mask L i, Byt x := by
  unfold turn1
  split
  · intro x hx
    rcases List.mem_or_eq_of_mem_set hx with h | h
    · exact hb x h
    · rw [h]
      exact turn_byt (getD_byt hb _) (Nat.mod_lt _ (by omega))
  · exact hb
theorem turnL_byt {bit mask : Nat} {L : List Int} (hb : ∀ x ∈ L, Byt x) (i : Nat) : ∀ x ∈ turnL bit mask L i, Byt x := by
  induction i with
  | zero => exact hb
  | succ i ih => exact turn1_byt ih i
/-- The bits that are turned. -/
def err (bit mask t k : Nat) : Nat := if bit ≤ k ∧ k < bit + t then mask / 2 ^ (k - bit) % 2 else 0
theorem err_lt (bit mask t k : Nat) : err bit mask t k < 2 := by
  unfold err
  split
  · exact Nat.mod_lt _ (by omega)
  · omega
theorem turnL_bits {bit mask : Nat} {L : List Int} (t k : Nat) (hk : k < 8 * L.length) : bitL (turnL bit mask L t) k = bitL L k ^^^ err bit mask t k := by
  induction t with
  | zero =>
    have : err bit mask 0 k = 0 := if_neg (by omega)
    rw [this, Nat.xor_zero]
    rfl
  | succ t ih =>
    show bitL (turn1 bit mask (turnL bit mask L t) t) k = _
    have hl := turnL_length bit mask L t
    by_cases hc : mask / 2 ^ t % 2 = 1 ∧ (bit + t) / 8 < (turnL bit mask L t).length
    · unfold turn1
      rw [if_pos hc, bitL_set hc.2 (Nat.mod_lt _ (by omega)), ih, Nat.xor_assoc]
      congr 1
      by_cases he : k = bit + t
      · subst he
        have e1 : err bit mask t (bit + t) = 0 := if_neg (by omega)
        have e2 : err bit mask (t + 1) (bit + t) = 1 := by
          unfold err
          rw [if_pos (by omega), show bit + t - bit = t from by omega]
          exact hc.1
        rw [e1, e2, if_pos (by omega)]
        rfl
      · rw [if_neg (by omega), Nat.xor_zero]
        unfold err
        by_cases h1 : bit ≤ k ∧ k < bit + t
        · rw [if_pos h1, if_pos (by omega)]
        · rw [if_neg h1, if_neg (by omega)]
    · unfold turn1
      rw [if_neg hc, ih]
      congr 1
      unfold err
      by_cases he : k = bit + t
      · subst he
        rw [if_neg (by omega), if_pos (by omega), show bit + t - bit = t from by omega]
        have : ¬ mask / 2 ^ t % 2 = 1 := fun h => hc ⟨h, by omega⟩
        omega
      · by_cases h1 : bit ≤ k ∧ k < bit + t
        · rw [if_pos h1, if_pos (by omega)]
        · rw [if_neg h1, if_neg (by omega)]
theorem turnN_zero {bit mask n t : Nat} : turnN bit mask n t = 0 ↔ ∀ k, k < 8 * n → err bit mask t k = 0 := by
  induction t with
  | zero =>
    constructor
    · exact fun _ k _ => if_neg (by omega)
    · exact fun _ => rfl
  | succ t ih =>
    constructor
    · intro h k hk
      have h1 : turnN bit mask n t = 0 := by
        have : turnN bit mask n t + (if mask / 2 ^ t % 2 = 1 ∧ (bit + t) / 8 < n then 1 else 0) = 0 := h
        omega
      have h2 : ¬ (mask / 2 ^ t % 2 = 1 ∧ (bit + t) / 8 < n) := fun c => by
        have : turnN bit mask n t + (if mask / 2 ^ t % 2 = 1 ∧ (bit + t) / 8 < n then 1 else 0) = 0 := h
        rw [if_pos c] at this
        omega
      have h3 := ih.1 h1 k hk
      unfold err at h3 ⊢
      by_cases he : k = bit + t
      · subst he
        rw [if_pos (by omega), show bit + t - bit = t from by omega]
        have : ¬ mask / 2 ^ t % 2 = 1 := fun c => h2 ⟨c, by omega⟩
        omega
      · by_cases hr : bit ≤ k ∧ k < bit + t
        · rw [if_pos hr] at h3
          rw [if_pos (by omega)]
          exact h3
        · rw [if_neg (by omega)]
    · intro h
      have h1 : turnN bit mask n t = 0 := ih.2 fun k hk => by
        have h3 := h k hk
        unfold err at h3 ⊢
        by_cases hr : bit ≤ k ∧ k < bit + t
        · rw [if_pos (by omega)] at h3
          rw [if_pos hr]
          exact h3
        · rw [if_neg hr]
      have h2 : ¬ (mask / 2 ^ t % 2 = 1 ∧ (bit + t) / 8 < n) := fun c => by
        have h3 := h (bit + t) (by omega)
        unfold err at h3
        rw [if_pos (by omega), show bit + t - bit = t from by omega] at h3
        omega
      show turnN bit mask n t + _ = 0
      rw [h1, if_neg h2]
theorem turnN_le (bit mask n t : Nat) : turnN bit mask n t ≤ t := by
  induction t with
  | zero => exact Nat.le_refl _
  | succ t ih =>
    show turnN bit mask n t + _ ≤ t + 1
    split <;> omega
/-- Bytes that their sum stands behind, a burst turned: they are such still just if nothing was turned. -/
theorem burst_iff {x : List Int} {bit mask : Nat} (hb : ∀ b ∈ x, Byt b) (h : run 4294967295 x = it 32 4294967295) : run 4294967295 (turnL bit mask x 32) = it 32 4294967295 ↔ turnN bit mask x.length 32 = 0 := by
  have e := run_turned (y := turnL bit mask x 32) (e := err bit mask 32) 4294967295 hb (turnL_byt hb 32) (turnL_length _ _ _ _) (fun k hk => turnL_bits 32 k hk)
  rw [h] at e
  rw [e, turnN_zero]
  constructor
  · intro h1
    have h2 : ser 0 (err bit mask 32) (8 * x.length) = 0 := by
      have h3 : it 32 4294967295 ^^^ (it 32 4294967295 ^^^ ser 0 (err bit mask 32) (8 * x.length)) = it 32 4294967295 ^^^ it 32 4294967295 := by rw [h1]
      rw [xor_back, Nat.xor_self] at h3
      exact h3
    exact burst (fun i => err_lt _ _ _ _) bit _ (fun i hi => if_neg (by omega)) (fun i hi => if_neg (by omega)) h2
  · intro h1
    rw [ser_congr (g := fun _ => 0) h1, ser_noughts, it_zero, Nat.xor_zero]
end Crc
end Go.Proofs.YtpckdjapkngpgaaDoor
