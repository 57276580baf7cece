/-
  Plain: cells of 64 bytes; what is one; a burst makes none of one.
-/
import Derived.Test.YtpckdjapkngpgaaDoorVc
namespace Go.Proofs.YtpckdjapkngpgaaDoor
open Go.RowKit

namespace Cell
def pad (body : List Int) : List Int := body ++ List.replicate (55 - body.length) 0
def pre (k : Int) (body : List Int) : List Int := [87, 115, 1, k] ++ pad body
def cell (k : Int) (body : List Int) : List Int := pre k body ++ Crc.low4 (Crc.sum (pre k body)) ++ [165]
def MayC (k : Int) (body : List Int) : Prop := 1 ≤ k ∧ k ≤ 255 ∧ body.length ≤ 55
instance (k : Int) (body : List Int) : Decidable (MayC k body) := by unfold MayC; exact inferInstance
def put (k : Int) (body : List Int) : List Int := if MayC k body then cell k body else []
def bodyOf (b : List Int) : List Int := (b.drop 4).take 55
def Is (b : List Int) : Prop := b.length = 64 ∧ put (b.getD 3 0) (bodyOf b) = b
instance (b : List Int) : Decidable (Is b) := by unfold Is; exact inferInstance
def takeK (b : List Int) : Int := if Is b then b.getD 3 0 else 0
def takeX (b : List Int) : List Int := if Is b then bodyOf b else []
theorem pad_length {body : List Int} (h : body.length ≤ 55) : (pad body).length = 55 := by
  unfold pad
  rw [List.length_append, List.length_replicate]
  omega
theorem pad_pad {body : List Int} (h : body.length ≤ 55) : pad (pad body) = pad body := by
  unfold pad
  rw [List.length_append, List.length_replicate, show 55 - (body.length + (55 - body.length)) = 0 from by omega]
  simp
theorem pre_length {k : Int} {body : List Int} (h : body.length ≤ 55) : (pre k body).length = 59 := by
  unfold pre
  rw [List.length_append, pad_length h]
  rfl
theorem cell_length {k : Int} {body : List Int} (h : body.length ≤ 55) : (cell k body).length = 64 := by
  unfold cell
  rw [List.length_append, List.length_append, pre_length h]
  rfl
theorem pre_byt {k : Int} {body : List Int} (hk : 1 ≤ k ∧ k ≤ 255) (hb : ∀ x ∈ body, Byt x) : ∀ x ∈ pre k body, Byt x := fun x hx => by
  unfold pre pad at hx
  rcases List.mem_append.1 hx with h | h
  · simp only [List.mem_cons, List.not_mem_nil, or_false] at h
    unfold Byt
    omega
  · rcases List.mem_append.1 h with h | h
    · exact hb x h
    · obtain ⟨_, rfl⟩ := List.mem_replicate.1 h
      exact ⟨by decide, by decide⟩
theorem cell_byt {k : Int} {body : List Int} (hk : 1 ≤ k ∧ k ≤ 255) (hb : ∀ x ∈ body, Byt x) : ∀ x ∈ cell k body, Byt x := fun x hx => by
  unfold cell at hx
  rcases List.mem_append.1 hx with h | h
  · rcases List.mem_append.1 h with h | h
    · exact pre_byt hk hb x h
    · exact Crc.low4_byt _ x h
  · obtain rfl := List.mem_singleton.1 h
    exact ⟨by decide, by decide⟩
theorem put_byt {k : Int} {body : List Int} (hb : ∀ x ∈ body, Byt x) : ∀ x ∈ put k body, Byt x := by
  unfold put
  split
  · rename_i h
    exact cell_byt ⟨h.1, h.2.1⟩ hb
  · intro x hx
    cases hx
theorem put_in {k : Int} {body : List Int} (h : MayC k body) : put k body = cell k body := if_pos h
theorem put_length_le (k : Int) (body : List Int) : (put k body).length ≤ 64 := by
  unfold put
  split
  · rename_i h
    rw [cell_length h.2.2]
    exact Nat.le_refl _
  · simp
theorem cell_three (k : Int) (body : List Int) : (cell k body).getD 3 0 = k := rfl
theorem bodyOf_cell {k : Int} {body : List Int} (h : body.length ≤ 55) : bodyOf (cell k body) = pad body := by
  unfold bodyOf
  have e : (cell k body).drop 4 = pad body ++ (Crc.low4 (Crc.sum (pre k body)) ++ [165]) := by
    unfold cell
    rw [List.append_assoc]
    rfl
  rw [e]
  exact List.take_left' (pad_length h)
theorem is_cell {k : Int} {body : List Int} (h : MayC k body) : Is (cell k body) := by
  refine ⟨cell_length h.2.2, ?_⟩
  rw [cell_three, bodyOf_cell h.2.2, put_in ⟨h.1, h.2.1, by rw [pad_length h.2.2]; omega⟩]
  unfold cell pre
  rw [pad_pad h.2.2]
theorem is_form {b : List Int} (h : Is b) : MayC (b.getD 3 0) (bodyOf b) ∧ b = cell (b.getD 3 0) (bodyOf b) := by
  obtain ⟨h1, h2⟩ := h
  by_cases hm : MayC (b.getD 3 0) (bodyOf b)
  · exact ⟨hm, by rw [← put_in hm]; exact h2.symm⟩
  · have : put (b.getD 3 0) (bodyOf b) = [] := if_neg hm
    rw [this] at h2
    rw [← h2] at h1
    simp at h1
theorem bodyOf_byt {b : List Int} (hb : ∀ x ∈ b, Byt x) : ∀ x ∈ bodyOf b, Byt x := fun x hx => hb x (List.mem_of_mem_drop (List.mem_of_mem_take hx))
theorem is_run {b : List Int} (hb : ∀ x ∈ b, Byt x) (h : Is b) : Crc.run 4294967295 (b.take 63) = Crc.it 32 4294967295 ∧ b.getD 63 0 = 165 := by
  obtain ⟨hm, he⟩ := is_form h
  have hp := pre_byt (k := b.getD 3 0) ⟨hm.1, hm.2.1⟩ (bodyOf_byt hb)
  have hl : (pre (b.getD 3 0) (bodyOf b) ++ Crc.low4 (Crc.sum (pre (b.getD 3 0) (bodyOf b)))).length = 63 := by
    rw [List.length_append, pre_length hm.2.2]
    rfl
  constructor
  · have : b.take 63 = pre (b.getD 3 0) (bodyOf b) ++ Crc.low4 (Crc.sum (pre (b.getD 3 0) (bodyOf b))) := by
      conv => lhs; rw [he]
      exact List.take_left' hl
    rw [this]
    exact (Crc.behind_iff hp (Crc.sum_lt hp)).2 rfl
  · rw [he]
    unfold cell
    rw [List.getD_eq_getElem?_getD, List.getElem?_append_right (by omega), hl]
    rfl
theorem byte_bits {a b : Int} (ha : Byt a) (hb : Byt b) (h : ∀ i, i < 8 → a.toNat / 2 ^ i % 2 = b.toNat / 2 ^ i % 2) : a = b := by
  unfold Byt at ha hb
  have h1 := Crc.val_bits a.toNat 8
  have h2 := Crc.val_bits b.toNat 8
  have e : ∀ n, n ≤ 8 → Crc.val (fun i => a.toNat / 2 ^ i % 2) n = Crc.val (fun i => b.toNat / 2 ^ i % 2) n := by
    intro n
    induction n with
    | zero => exact fun _ => rfl
    | succ n ih =>
      intro hn
      show Crc.val _ n ^^^ _ = Crc.val _ n ^^^ _
      rw [ih (by omega)]
      show _ ^^^ (a.toNat / 2 ^ n % 2) * 2 ^ n = _ ^^^ (b.toNat / 2 ^ n % 2) * 2 ^ n
      rw [h n (by omega)]
  rw [e 8 (Nat.le_refl _), h2] at h1
  omega
theorem list_bits {x y : List Int} (hx : ∀ b ∈ x, Byt b) (hy : ∀ b ∈ y, Byt b) (hl : y.length = x.length) (h : ∀ k, k < 8 * x.length → Crc.bitL y k = Crc.bitL x k) : y = x := by
  refine (eq_of_getD hl fun j hj => byte_bits (Crc.getD_byt hx j) (Crc.getD_byt hy j) fun i hi => ?_).symm
  have := h (8 * j + i) (by omega)
  unfold Crc.bitL at this
  rw [show (8 * j + i) / 8 = j from by omega, show (8 * j + i) % 8 = i from by omega] at this
  exact this.symm
theorem bitL_take {l : List Int} {n k : Nat} (h : k < 8 * n) : Crc.bitL (l.take n) k = Crc.bitL l k := by
  unfold Crc.bitL
  rw [List.getD_eq_getElem?_getD, List.getElem?_take_of_lt (by omega), ← List.getD_eq_getElem?_getD]
/-- A cell of which bits within 32 in a row are turned is one still just if none was. -/
theorem burst_is {b y : List Int} {bit mask : Nat} (hb : ∀ x ∈ b, Byt x) (hy : ∀ x ∈ y, Byt x) (hl : y.length = b.length) (h : Is b) (he : ∀ k, k < 512 → Crc.bitL y k = Crc.bitL b k ^^^ Crc.err bit mask 32 k) :
    Is y ↔ ∀ k, k < 512 → Crc.err bit mask 32 k = 0 := by
  have hlb := h.1
  constructor
  · intro hi
    obtain ⟨r1, s1⟩ := is_run hb h
    obtain ⟨r2, s2⟩ := is_run hy hi
    have ht : (b.take 63).length = 63 := by rw [List.length_take]; omega
    have e := Crc.run_turned (x := b.take 63) (y := y.take 63) (e := Crc.err bit mask 32) 4294967295 (fun x hx => hb x (List.mem_of_mem_take hx)) (fun x hx => hy x (List.mem_of_mem_take hx)) (by rw [List.length_take, List.length_take, hl]) (fun k hk => by
      rw [ht] at hk
      rw [bitL_take hk, bitL_take hk]
      exact he k (by omega))
    rw [r1, r2, ht] at e
    have z : Crc.ser 0 (Crc.err bit mask 32) (8 * 63) = 0 := by
      have h3 : Crc.it 32 4294967295 ^^^ Crc.it 32 4294967295 = Crc.it 32 4294967295 ^^^ (Crc.it 32 4294967295 ^^^ Crc.ser 0 (Crc.err bit mask 32) (8 * 63)) := by rw [← e]
      rw [Crc.xor_back, Nat.xor_self] at h3
      exact h3.symm
    have hz := Crc.burst (fun i => Crc.err_lt bit mask 32 i) bit _ (fun i hi => if_neg (by omega)) (fun i hi => if_neg (by omega)) z
    intro k hk
    by_cases h63 : k < 504
    · exact hz k (by omega)
    · have e2 := he k hk
      have e3 : Crc.bitL y k = Crc.bitL b k := by
        unfold Crc.bitL
        rw [show k / 8 = 63 from by omega, s1, s2]
      rw [e3] at e2
      have h4 : Crc.bitL b k ^^^ Crc.bitL b k = Crc.bitL b k ^^^ (Crc.bitL b k ^^^ Crc.err bit mask 32 k) := by rw [← e2]
      rw [Crc.xor_back, Nat.xor_self] at h4
      exact h4.symm
  · intro hz
    have : y = b := list_bits hb hy hl fun k hk => by
      rw [he k (by omega), hz k (by omega), Nat.xor_zero]
    rw [this]
    exact h
theorem turned_is {b : List Int} {bit mask : Nat} (hb : ∀ x ∈ b, Byt x) (h : Is b) : Is (Crc.turnL bit mask b 32) ↔ Crc.turnN bit mask 64 32 = 0 := by
  rw [Crc.turnN_zero]
  exact burst_is hb (Crc.turnL_byt hb 32) (Crc.turnL_length _ _ _ _) h fun k hk => Crc.turnL_bits 32 k (by rw [h.1]; omega)
/-- One byte turned. -/
theorem one_is {b : List Int} {q c : Nat} (hb : ∀ x ∈ b, Byt x) (h : Is b) (hq : q < 64) (hc : c < 256) : Is (b.set q (((b.getD q 0).toNat ^^^ c : Nat) : Int)) ↔ c = 0 := by
  have hbq := Crc.getD_byt hb q
  have hy : ∀ x ∈ b.set q (((b.getD q 0).toNat ^^^ c : Nat) : Int), Byt x := fun x hx => by
    rcases List.mem_or_eq_of_mem_set hx with h | h
    · exact hb x h
    · rw [h]
      unfold Byt at *
      have := Nat.xor_lt_two_pow (n := 8) (x := (b.getD q 0).toNat) (y := c) (by omega) hc
      omega
  rw [burst_is (bit := 8 * q) (mask := c) hb hy (List.length_set ..) h fun k hk => ?_]
  · constructor
    · intro hz
      have h1 : ∀ i, i < 8 → (c : Int).toNat / 2 ^ i % 2 = (0 : Int).toNat / 2 ^ i % 2 := fun i hi => by
        have := hz (8 * q + i) (by omega)
        unfold Crc.err at this
        rw [if_pos (by omega), show 8 * q + i - 8 * q = i from by omega] at this
        rw [Int.toNat_natCast, this]
        simp
      have := byte_bits (a := (c : Int)) (b := 0) ⟨by omega, by omega⟩ ⟨by omega, by omega⟩ h1
      omega
    · rintro rfl k _
      unfold Crc.err
      split
      · simp
      · rfl
  · unfold Crc.bitL
    by_cases hkq : k / 8 = q
    · rw [hkq, List.getD_eq_getElem?_getD, List.getElem?_set_self (by rw [h.1]; exact hq), Option.getD_some, Int.toNat_natCast, Crc.bit_test, Crc.bit_test, Nat.testBit_xor]
      unfold Crc.err
      rw [if_pos (by omega), show k - 8 * q = k % 8 from by omega, Crc.bit_test]
      cases (b.getD q 0).toNat.testBit (k % 8) <;> cases c.testBit (k % 8) <;> rfl
    · rw [List.getD_eq_getElem?_getD, List.getElem?_set_ne (fun e => hkq e.symm), ← List.getD_eq_getElem?_getD]
      have : Crc.err (8 * q) c 32 k = 0 := by
        unfold Crc.err
        split
        · have h8 : 8 ≤ k - 8 * q := by omega
          have : c < 2 ^ (k - 8 * q) := Nat.lt_of_lt_of_le hc (Nat.pow_le_pow_right (n := 2) (by omega) h8)
          rw [Nat.div_eq_of_lt this]
        · rfl
      rw [this, Nat.xor_zero]
end Cell
end Go.Proofs.YtpckdjapkngpgaaDoor
