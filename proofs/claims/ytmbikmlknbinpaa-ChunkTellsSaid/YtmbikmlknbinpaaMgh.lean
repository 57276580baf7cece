/-
  Texts laid behind one another: SumTellsW SumBehindW Vc Vd Pc Bc Rm Kl Km.
-/
import Derived.Test.YtmbikmlknbinpaaMgg
import Derived.Test.YtmbikmlknbinpaaMga
import Derived.Test.YtmbikmlknbinpaaMgf
import Derived.Test.YtmbikmlknbinpaaMge
import Derived.Lib.SliceRun
import Derived.Test.YtmbikmlknbinpaaMgc
namespace Go.Proofs.Ytmbikmlknbinpaa
open Go.RowKit

end Go.Proofs.Ytmbikmlknbinpaa
namespace Go.Proofs.Ytmbikmlknbinpaa
open Go.RowKit

theorem low4_eq {s : Nat} (h : s < 4294967296) : [(s : Int) % 256, (s : Int) / 256 % 256, (s : Int) / 65536 % 256, (s : Int) / 16777216] = Crc.low4 s := by
  unfold Crc.low4
  simp only [List.cons.injEq, and_true]
  omega
theorem low_byt {s : Nat} (h : s < 4294967296) : ∀ x ∈ [(s : Int) % 256, (s : Int) / 256 % 256, (s : Int) / 65536 % 256, (s : Int) / 16777216], Byt x := by
  rw [low4_eq h]
  exact Crc.low4_byt s
end Go.Proofs.Ytmbikmlknbinpaa
namespace Go.Proofs.Ytmbikmlknbinpaa
open Go.RowKit

namespace Crc
theorem bit_test (x s : Nat) : x / 2 ^ s % 2 = (x.testBit s).toNat := by
  rw [Nat.toNat_testBit]
theorem bitL_set {l : List Int} {q r : Nat} (hq : q < l.length) (hr : r < 8) (k : Nat) :
    bitL (l.set q (((l.getD q 0).toNat ^^^ 2 ^ r : Nat) : Int)) k = bitL l k ^^^ (if k = 8 * q + r then 1 else 0) := by
  unfold bitL
  by_cases hk : k / 8 = q
  · rw [List.getD_eq_getElem?_getD, hk, List.getElem?_set_self hq, Option.getD_some, Int.toNat_natCast, bit_test, bit_test, Nat.testBit_xor, Nat.testBit_two_pow]
    by_cases hs : k = 8 * q + r
    · have : r = k % 8 := by omega
      rw [if_pos hs]
      subst this
      cases (l.getD q 0).toNat.testBit (k % 8) <;> simp
    · have : ¬ r = k % 8 := by omega
      rw [if_neg hs, Nat.xor_zero]
      simp [this]
  · rw [if_neg (by omega), Nat.xor_zero, List.getD_eq_getElem?_getD, List.getElem?_set_ne (fun c => hk c.symm), List.getD_eq_getElem?_getD]
theorem turn_byt {b : Int} {r : Nat} (h : Byt b) (hr : r < 8) : Byt ((b.toNat ^^^ 2 ^ r : Nat) : Int) := by
  unfold Byt at *
  have : (2 : Nat) ^ r < 2 ^ 8 := Nat.pow_lt_pow_right (by omega) hr
  have := Nat.xor_lt_two_pow (n := 8) (x := b.toNat) (y := 2 ^ r) (by omega) this
  omega
/-- One round: the bit is turned if the mask says so, and it is there. -/
def turn1 (bit mask : Nat) (L : List Int) (i : Nat) : List Int :=
  if mask / 2 ^ i % 2 = 1 ∧ (bit + i) / 8 < L.length then L.set ((bit + i) / 8) (((L.getD ((bit + i) / 8) 0).toNat ^^^ 2 ^ ((bit + i) % 8) : Nat) : Int) else L
def turnL (bit mask : Nat) (L : List Int) : Nat → List Int
  | 0 => L
  | i + 1 => turn1 bit mask (turnL bit mask L i) i
def turnN (bit mask n : Nat) : Nat → Nat
  | 0 => 0
  | i + 1 => turnN bit mask n i + if mask / 2 ^ i % 2 = 1 ∧ (bit + i) / 8 < n then 1 else 0
theorem turn1_length (bit mask : Nat) (L : List Int) (i : Nat) : (turn1 bit mask L i).length = L.length := by
  unfold turn1
  split
  · rw [List.length_set]
  · rfl
theorem turnL_length (bit mask : Nat) (L : List Int) (i : Nat) : (turnL bit mask L i).length = L.length := by
  induction i with
  | zero => rfl
  | succ i ih => show (turn1 bit mask (turnL bit mask L i) i).length = _; rw [turn1_length, ih]
theorem turn1_byt {bit mask : Nat} {L : List Int} (hb : ∀ x ∈ L, Byt x) (i : Nat) : ∀ x ∈ turn1 bit mask L i, Byt x := by
  unfold turn1
  split
  · intro x hx
    rcases List.mem_or_eq_of_mem_set hx with h | h
    · exact hb x h
    · rw [h]
      exact turn_byt (getD_byt hb _) (Nat.mod_lt _ (by omega))
  · exact hb
theorem turnL_byt {bit mask : Nat} {L : List Int} (hb : ∀ x ∈ L, Byt x) (i : Nat) : ∀ x ∈ turnL bit mask L i, Byt x := by
  induction i with
  | zero => exact hb
  | succ i ih => exact turn1_byt ih i
/-- The bits that are turned. -/
def err (bit mask t k : Nat) : Nat := if bit ≤ k ∧ k < bit + t then mask / 2 ^ (k - bit) % 2 else 0
theorem err_lt (bit mask t k : Nat) : err bit mask t k < 2 := by
  unfold err
  split
  · exact Nat.mod_lt _ (by omega)
  · omega
theorem turnL_bits {bit mask : Nat} {L : List Int} (t k : Nat) (hk : k < 8 * L.length) : bitL (turnL bit mask L t) k = bitL L k ^^^ err bit mask t k := by
  induction t with
  | zero =>
    have : err bit mask 0 k = 0 := if_neg (by omega)
    rw [this, Nat.xor_zero]
    rfl
  | succ t ih =>
    show bitL (turn1 bit mask (turnL bit mask L t) t) k = _
    have hl := turnL_length bit mask L t
    by_cases hc : mask / 2 ^ t % 2 = 1 ∧ (bit + t) / 8 < (turnL bit mask L t).length
    · unfold turn1
      rw [if_pos hc, bitL_set hc.2 (Nat.mod_lt _ (by omega)), ih, Nat.xor_assoc]
      congr 1
      by_cases he : k = bit + t
      · subst he
        have e1 : err bit mask t (bit + t) = 0 := if_neg (by omega)
        have e2 : err bit mask (t + 1) (bit + t) = 1 := by
          unfold err
          rw [if_pos (by omega), show bit + t - bit = t from by omega]
          exact hc.1
        rw [e1, e2, if_pos (by omega)]
        rfl
      · rw [if_neg (by omega), Nat.xor_zero]
        unfold err
        by_cases h1 : bit ≤ k ∧ k < bit + t
        · rw [if_pos h1, if_pos (by omega)]
        · rw [if_neg h1, if_neg (by omega)]
    · unfold turn1
      rw [if_neg hc, ih]
      congr 1
      unfold err
      by_cases he : k = bit + t
      · subst he
        rw [if_neg (by omega), if_pos (by omega), show bit + t - bit = t from by omega]
        have : ¬ mask / 2 ^ t % 2 = 1 := fun h => hc ⟨h, by omega⟩
        omega
      · by_cases h1 : bit ≤ k ∧ k < bit + t
        · rw [if_pos h1, if_pos (by omega)]
        · rw [if_neg h1, if_neg (by omega)]
theorem turnN_zero {bit mask n t : Nat} : turnN bit mask n t = 0 ↔ ∀ k, k < 8 * n → err bit mask t k = 0 := by
  induction t with
  | zero =>
    constructor
    · exact fun _ k _ => if_neg (by omega)
    · exact fun _ => rfl
  | succ t ih =>
    constructor
    · intro h k hk
      have h1 : turnN bit mask n t = 0 := by
        have : turnN bit mask n t + (if mask / 2 ^ t % 2 = 1 ∧ (bit + t) / 8 < n then 1 else 0) = 0 := h
        omega
      have h2 : ¬ (mask / 2 ^ t % 2 = 1 ∧ (bit + t) / 8 < n) := fun c => by
        have : turnN bit mask n t + (if mask / 2 ^ t % 2 = 1 ∧ (bit + t) / 8 < n then 1 else 0) = 0 := h
        rw [if_pos c] at this
        omega
      have h3 := ih.1 h1 k hk
      unfold err at h3 ⊢
      by_cases he : k = bit + t
      · subst he
        rw [if_pos (by omega), show bit + t - bit = t from by omega]
        have : ¬ mask / 2 ^ t % 2 = 1 := fun c => h2 ⟨c, by omega⟩
        omega
      · by_cases hr : bit ≤ k ∧ k < bit + t
        · rw [if_pos hr] at h3
          rw [if_pos (by omega)]
          exact h3
        · rw [if_neg (by omega)]
    · intro h
      have h1 : turnN bit mask n t = 0 := ih.2 fun k hk => by
        have h3 := h k hk
        unfold err at h3 ⊢
        by_cases hr : bit ≤ k ∧ k < bit + t
        · rw [if_pos (by omega)] at h3
          rw [if_pos hr]
          exact h3
        · rw [if_neg hr]
      have h2 : ¬ (mask / 2 ^ t % 2 = 1 ∧ (bit + t) / 8 < n) := fun c => by
        have h3 := h (bit + t) (by omega)
        unfold err at h3
        rw [if_pos (by omega), show bit + t - bit = t from by omega] at h3
        omega
      show turnN bit mask n t + _ = 0
      rw [h1, if_neg h2]
theorem turnN_le (bit mask n t : Nat) : turnN bit mask n t ≤ t := by
  induction t with
  | zero => exact Nat.le_refl _
  | succ t ih =>
    show turnN bit mask n t + _ ≤ t + 1
    split <;> omega
/-- Bytes that their sum stands behind, a burst turned: they are such still just if nothing was turned. -/
theorem burst_iff {x : List Int} {bit mask : Nat} (hb : ∀ b ∈ x, Byt b) (h : run 4294967295 x = it 32 4294967295) : run 4294967295 (turnL bit mask x 32) = it 32 4294967295 ↔ turnN bit mask x.length 32 = 0 := by
  have e := run_turned (y := turnL bit mask x 32) (e := err bit mask 32) 4294967295 hb (turnL_byt hb 32) (turnL_length _ _ _ _) (fun k hk => turnL_bits 32 k hk)
  rw [h] at e
  rw [e, turnN_zero]
  constructor
  · intro h1
    have h2 : ser 0 (err bit mask 32) (8 * x.length) = 0 := by
      have h3 : it 32 4294967295 ^^^ (it 32 4294967295 ^^^ ser 0 (err bit mask 32) (8 * x.length)) = it 32 4294967295 ^^^ it 32 4294967295 := by rw [h1]
      rw [xor_back, Nat.xor_self] at h3
      exact h3
    exact burst (fun i => err_lt _ _ _ _) bit _ (fun i hi => if_neg (by omega)) (fun i hi => if_neg (by omega)) h2
  · intro h1
    rw [ser_congr (g := fun _ => 0) h1, ser_noughts, it_zero, Nat.xor_zero]
end Crc
end Go.Proofs.Ytmbikmlknbinpaa
namespace Go.Proofs.Ytmbikmlknbinpaa
open Go.RowKit

/-- Block g begins with the bytes L, and may be written. -/
def Wb (w : World) (g : Nat) (L : List Int) : Prop := ∃ cur, w.heap[g]? = some (.cells cur 5 (0, 0)) ∧ L.length ≤ cur.size ∧ ∀ i, i < L.length → cur[i]? = some (.int .u8 (L.getD i 0))
theorem Wb.cell {w : World} {g : Nat} {L : List Int} (h : Wb w g L) (i : Nat) (hi : i < L.length) : w.cell? ⟨g, i, none⟩ = some (.int .u8 (L.getD i 0)) := by
  obtain ⟨cur, h1, _, h2⟩ := h
  rw [cell_of_row w g i _ _ _ h1, h2 i hi]
theorem Wb.frozen {w : World} {g : Nat} {L : List Int} (h : Wb w g L) (i : Nat) : w.frozen? ⟨g, i, none⟩ = false := by
  obtain ⟨cur, h1, _⟩ := h
  exact frozen_of_row w g i _ _ h1
theorem Wb.set {w : World} {g : Nat} {L : List Int} (h : Wb w g L) (i : Nat) (x : Int) : Wb (w.setCell ⟨g, i, none⟩ (.int .u8 x)) g (L.set i x) := by
  obtain ⟨cur, h1, h2, h3⟩ := h
  refine ⟨cur.setIfInBounds i (.int .u8 x), heap_setCell_same _ _ _ _ _ _ h1, by simpa using h2, fun j hj => ?_⟩
  rw [List.length_set] at hj
  by_cases e : i = j
  · subst e
    rw [Array.getElem?_setIfInBounds_self_of_lt (by omega), List.getD_eq_getElem?_getD, List.getElem?_set_self hj]
    rfl
  · rw [Array.getElem?_setIfInBounds_ne e, h3 j hj, List.getD_eq_getElem?_getD, List.getD_eq_getElem?_getD, List.getElem?_set_ne e]
theorem Wb.bs {w : World} {g c : Nat} {L : List Int} (h : Wb w g L) (hb : ∀ x ∈ L, Byt x) (hc : L.length ≤ c) (hm : c ≤ 9223372036854775807) : Bs w (.slice (some ⟨g, 0, none⟩) L.length c) L :=
  ⟨hb, some ⟨g, 0, none⟩, c, rfl, hc, hm, (fun e => by cases e), fun a ha i hi => by
    cases ha
    rw [Addr.add_mid, Nat.zero_add]
    exact h.cell i hi⟩
theorem Wb.of_new {w w' : World} {v : Value} {l : List Int} (h : New w w' v l) (hl : 0 < l.length) : ∃ g c, v = .slice (some ⟨g, 0, none⟩) l.length c ∧ w.heap.size ≤ g ∧ l.length ≤ c ∧ c ≤ 9223372036854775807 ∧ Wb w' g l := by
  obtain ⟨_, _, h | h⟩ := h
  · obtain ⟨rfl, _⟩ := h
    simp at hl
  · obtain ⟨g, c, cur, rfl, h0, h1, h2, h3, h4⟩ := h
    refine ⟨g, c, rfl, h0, h2, h3, cur, h1, ?_, h4⟩
    have := h4 (l.length - 1) (by omega)
    have := (Array.getElem?_eq_some_iff.1 this).1
    omega
end Go.Proofs.Ytmbikmlknbinpaa
namespace Go.Proofs.Ytmbikmlknbinpaa
open Go.RowKit

theorem upTo_pre (m n : Int) (w : World) :
    Calls Try.prog 28 #[.int .i64 m, .int .i64 n] w fun e w' => e = .returned (.bool (decide (1 ≤ n ∧ n ≤ m))) ∧ w = w' := by
  by_cases h : 1 ≤ n
  · rw [show decide (1 ≤ n ∧ n ≤ m) = decide (n ≤ m) from by rw [decide_eq_decide]; omega]
    go_enter Try.func28, Try.ntmps28
    go_wp2
    go_ret
    exact ⟨rfl, rfl⟩
  · rw [decide_eq_false (by omega : ¬ (1 ≤ n ∧ n ≤ m))]
    go_enter Try.func28, Try.ntmps28
    go_wp2
    go_ret
    exact ⟨rfl, rfl⟩
set_option maxHeartbeats 800000 in
theorem may_pre (K H S : Int) (w : World) :
    Calls Try.prog 22 #[par K H S] w fun e w' => e = .returned (.bool (decide (MayP K H S))) ∧ Gr w w' := by
  have hd : decide (MayP K H S) = (decide (1 ≤ K ∧ K ≤ 16) && (decide (1 ≤ H ∧ H ≤ 4) && decide (1 ≤ S ∧ S ≤ 24))) := by
    rw [← Bool.decide_and, ← Bool.decide_and, decide_eq_decide]
    unfold MayP
    omega
  rw [hd]
  have b1 : ∀ x : Int, ∃ b : Bool, decide (1 ≤ x ∧ x ≤ 16) = b := fun x => ⟨_, rfl⟩
  obtain ⟨p, hp⟩ := b1 K
  obtain ⟨q, hq⟩ : ∃ b : Bool, decide (1 ≤ H ∧ H ≤ 4) = b := ⟨_, rfl⟩
  obtain ⟨r, hr⟩ : ∃ b : Bool, decide (1 ≤ S ∧ S ≤ 24) = b := ⟨_, rfl⟩
  have HP := Lib.hid hp
  have HQ := Lib.hid hq
  have HR := Lib.hid hr
  rw [hp, hq, hr]
  clear hp hq hr hd b1
  have P0 : Hid (Par (w.alloc (.cells #[.int .i64 K, .int .i64 H, .int .i64 S] 23)) w.heap.size K H S) := Lib.hid (heap_alloc_new _ _)
  have HG0 : Hid (Gr w (w.alloc (.cells #[.int .i64 K, .int .i64 H, .int .i64 S] 23))) := Lib.hid (Gr.alloc (Gr.refl _) _ _)
  go_enter Try.func22, Try.ntmps22
  cases p with
  | false =>
    go_wp2_with fail
    refine (upTo_pre 16 K _).mono ?_
    rw [HP.out]
    rintro e w1 ⟨rfl, rfl⟩
    go_wp2_with fail
    go_ret
    exact ⟨rfl, HG0.out⟩
  | true =>
    have c1 := P0.out.cell1
    have c2 := P0.out.cell2
    cases q with
    | false =>
      go_wp2_with fail
      refine (upTo_pre 16 K _).mono ?_
      rw [HP.out]
      rintro e w1 ⟨rfl, rfl⟩
      go_wp2_with fail
      refine (upTo_pre 4 H _).mono ?_
      rw [HQ.out]
      rintro e w1 ⟨rfl, rfl⟩
      go_wp2_with fail
      go_ret
      exact ⟨rfl, HG0.out⟩
    | true =>
      go_wp2_with fail
      refine (upTo_pre 16 K _).mono ?_
      rw [HP.out]
      rintro e w1 ⟨rfl, rfl⟩
      go_wp2_with fail
      refine (upTo_pre 4 H _).mono ?_
      rw [HQ.out]
      rintro e w1 ⟨rfl, rfl⟩
      go_wp2_with fail
      refine (upTo_pre 24 S _).mono ?_
      rw [HR.out]
      rintro e w1 ⟨rfl, rfl⟩
      go_wp2_with fail
      go_ret
      exact ⟨by simp, HG0.out⟩
end Go.Proofs.Ytmbikmlknbinpaa
namespace Go.Proofs.Ytmbikmlknbinpaa
open Go.RowKit

/-- A block's cells that are nil rows. -/
def nils (n : Nat) : Array Value := (List.replicate n (Value.slice none 0 0)).toArray
theorem nils_made (n : Nat) : madeCells #[.slice none 0 0] n = nils n := by
  apply Array.ext'
  rw [toList_madeCells_one]
  simp [nils]
theorem make24 (l c : Nat) (h : l ≤ c) (hc : c ≤ 1000000) (w : World) :
    (Instr.makeSlice 25 (.int .i64 (l : Int)) (.int .i64 (c : Int))).run Try.prog w = .ok (.slice (some ⟨w.heap.size, 0, none⟩) l c) (w.alloc (.cells (nils c) 24)) := by
  obtain ⟨i, hi, hzz⟩ := Option.map_eq_some_iff.1 info22
  simp only [Prod.mk.injEq] at hzz
  obtain ⟨hz, hs, hb⟩ := hzz
  have hr := run_make (P := Try.prog) w 25 24 i _ Try.underlying25 hi hz .i64 .i64 l c (by omega) (by omega) (by rw [hb]; omega) (by omega)
  rw [Int.toNat_natCast, Int.toNat_natCast, hs, Nat.mul_one] at hr
  rw [hr, ← nils_made]
  rfl
end Go.Proofs.Ytmbikmlknbinpaa
namespace Go.Proofs.Ytmbikmlknbinpaa
open Go.RowKit

theorem Rn.keptM {base : Nat} {w w' : World} {u : Value} {row : Option Nat} (hr : Rn base w u)
    (hk : ∀ k, k < w.heap.size → some k ≠ row → w'.heap[k]? = w.heap[k]?) (hrow : ∀ g, row = some g → ∀ cur, w.heap[g]? ≠ some (.cells cur 5 (0, 0))) : Rn base w' u := fun a n c hu hn => by
  obtain ⟨h1, cur, h2⟩ := hr a n c hu hn
  refine ⟨h1, cur, ?_⟩
  rw [hk _ (Array.getElem?_eq_some_iff.1 h2).1 (fun e => hrow a.block e.symm cur h2)]
  exact h2
theorem Rn.rbM {base base' : Nat} {w : World} {u : Value} (h : Rn base w u) : Rb base' w u := fun a n c e hn => .inr (h a n c e hn).2
theorem Rn.grM {base : Nat} {w w' : World} {u : Value} (hr : Rn base w u) (hg : Gr w w') : Rn base w' u :=
  Rn.keptM (row := none) hr (fun k hk _ => hg.2.2.2.2 k hk) (fun g h => by cases h)
theorem Rn.lowM {base base' : Nat} {w : World} {u : Value} (hr : Rn base' w u) (hb : base ≤ base') : Rn base w u := fun a n c e hn => ⟨Nat.le_trans hb (hr a n c e hn).1, (hr a n c e hn).2⟩
theorem Rn.setM {base base' n c : Nat} {w : World} {u : Value} {us : List Value} {g : Nat} (hr : Rn base w u) (ho : w.ownsRow base' 24 1 (.slice (some ⟨g, 0, none⟩) n c) n us) (i : Nat) (x : Value) : Rn base (w.setCell ⟨g, i, none⟩ x) u :=
  hr.keptM (row := some g) (fun k _ hk => Below.heap_setCell _ _ _ k (fun e => hk (by rw [e]))) (fun g' e cur => by cases e; exact (ownsRow_not_bytes ho g rfl).2 cur)
theorem New.rnM {w w' : World} {v : Value} {l : List Int} {base : Nat} (h : New w w' v l) (hb : base ≤ w.heap.size) : Rn base w' v := by
  intro a n c hv hn
  obtain ⟨_, _, ⟨rfl, oa, c', rfl, _⟩ | ⟨g, c', cur, rfl, q, h2, _⟩⟩ := h
  · cases hv
    omega
  · cases hv
    exact ⟨Nat.le_trans hb q, cur, h2⟩
theorem ownsRow_lowM {base base' : Nat} {w : World} {e : TypeId} {size k : Nat} {v : Value} {xs : List Value} (h : w.ownsRow base' e size v k xs) (hb : base ≤ base') : w.ownsRow base e size v k xs := by
  obtain ⟨h1, h2 | ⟨g, c, cur, q1, q2, q3⟩⟩ := h
  · exact ⟨h1, .inl h2⟩
  · exact ⟨h1, .inr ⟨g, c, cur, q1, Nat.le_trans hb q2, q3⟩⟩
theorem RwsN.lowM {base base' : Nat} {w : World} {v : Value} {L : List (List Int)} (h : RwsN base' w v L) (hb : base ≤ base') : RwsN base w v L := by
  obtain ⟨us, h1, h2⟩ := h
  exact ⟨us, ownsRow_lowM h1 hb, fun i hi => ⟨(h2 i hi).1, (h2 i hi).2.lowM hb⟩⟩
theorem RwsN.nilM (base : Nat) (w : World) : RwsN base w (.slice none 0 0) [] := ⟨[], World.ownsRow_nil w base 24 1, fun i hi => absurd hi (by simp)⟩
theorem RwsN.grM {base : Nat} {w w' : World} {v : Value} {L : List (List Int)} (h : RwsN base w v L) (hg : Gr w w') : RwsN base w' v L := by
  obtain ⟨us, h1, h2⟩ := h
  exact ⟨us, h1.of_gr hg, fun i hi => ⟨Bs.grown (h2 i hi).1 hg, (h2 i hi).2.grM hg⟩⟩
/-- The row v lies in memory of its own, from base on (New without the world ahead). -/
def Nr (base : Nat) (w : World) (v : Value) (l : List Int) : Prop :=
  (∀ x ∈ l, Byt x) ∧ ((l = [] ∧ ∃ oa c, v = .slice oa 0 c ∧ (oa = none → c = 0) ∧ c ≤ 9223372036854775807) ∨
    ∃ g c cur, v = .slice (some ⟨g, 0, none⟩) l.length c ∧ base ≤ g ∧ w.heap[g]? = some (.cells cur 5 (0, 0)) ∧ l.length ≤ c ∧ c ≤ 9223372036854775807 ∧ ∀ i, i < l.length → cur[i]? = some (.int .u8 (l.getD i 0)))
theorem New.nr {w w' : World} {v : Value} {l : List Int} (h : New w w' v l) : Nr w.heap.size w' v l := h.2
theorem Nr.new {w w' : World} {v : Value} {l : List Int} (h : Nr w.heap.size w' v l) (hg : Gr w w') : New w w' v l := ⟨hg, h⟩
theorem Nr.low {base base' : Nat} {w : World} {v : Value} {l : List Int} (h : Nr base' w v l) (hb : base ≤ base') : Nr base w v l := by
  obtain ⟨h1, h2 | ⟨g, c, cur, e, h2, h3⟩⟩ := h
  · exact ⟨h1, .inl h2⟩
  · exact ⟨h1, .inr ⟨g, c, cur, e, Nat.le_trans hb h2, h3⟩⟩
theorem Nr.keptM {base : Nat} {w w' : World} {v : Value} {l : List Int} {row : Option Nat} (h : Nr base w v l)
    (hk : ∀ k, k < w.heap.size → some k ≠ row → w'.heap[k]? = w.heap[k]?) (hrow : ∀ g, row = some g → ∀ cur, w.heap[g]? ≠ some (.cells cur 5 (0, 0))) : Nr base w' v l := by
  obtain ⟨h1, h2 | ⟨g, c, cur, e, h2, h3, h4⟩⟩ := h
  · exact ⟨h1, .inl h2⟩
  · refine ⟨h1, .inr ⟨g, c, cur, e, h2, ?_, h4⟩⟩
    rw [hk _ (Array.getElem?_eq_some_iff.1 h3).1 (fun e => hrow g e.symm cur h3)]
    exact h3
theorem Nr.grM {base : Nat} {w w' : World} {v : Value} {l : List Int} (h : Nr base w v l) (hg : Gr w w') : Nr base w' v l :=
  Nr.keptM (row := none) h (fun k hk _ => hg.2.2.2.2 k hk) (fun g h => by cases h)
theorem Nr.setM {base base' n c : Nat} {w : World} {u : Value} {l : List Int} {us : List Value} {g : Nat} (hr : Nr base w u l) (ho : w.ownsRow base' 24 1 (.slice (some ⟨g, 0, none⟩) n c) n us) (i : Nat) (x : Value) : Nr base (w.setCell ⟨g, i, none⟩ x) u l :=
  hr.keptM (row := some g) (fun k _ hk => Below.heap_setCell _ _ _ k (fun e => hk (by rw [e]))) (fun g' e cur => by cases e; exact (ownsRow_not_bytes ho g rfl).2 cur)
end Go.Proofs.Ytmbikmlknbinpaa
namespace Go.Proofs.Ytmbikmlknbinpaa
open Go.RowKit

set_option maxHeartbeats 400000 in
theorem bytes_ck (K H S : Int) (w : World) (hm : MayP K H S) :
    Calls Try.prog 26 #[par K H S] w fun e w' => e = .returned (.int .i64 (Ck.wdt K S : Nat)) ∧ Gr w w' := by
  obtain ⟨hw1, hw2, hw3⟩ := Ck.wdt_in hm
  obtain ⟨W, hW⟩ : ∃ W, Ck.wdt K S = W := ⟨_, rfl⟩
  rw [hW] at hw1 hw2 hw3 ⊢
  have HKS := Lib.hid hw3.symm
  have hwr : IntKind.i64.wrap (K * S) = (W : Int) := by rw [HKS.out]; simp [IntKind.wrap, IntKind.bits, IntKind.signed]; omega
  have P0 : Hid (Par (w.alloc (.cells #[.int .i64 K, .int .i64 H, .int .i64 S] 23)) w.heap.size K H S) := Lib.hid (heap_alloc_new _ _)
  have HG0 : Hid (Gr w (w.alloc (.cells #[.int .i64 K, .int .i64 H, .int .i64 S] 23))) := Lib.hid (Gr.alloc (Gr.refl _) _ _)
  have c0 := P0.out.cell0
  have c2 := P0.out.cell2
  clear hm hW hw3 P0
  go_enter Try.func26, Try.ntmps26
  go_wp2_with fail
  go_ret
  exact ⟨rfl, HG0.out⟩
set_option maxRecDepth 100000 in
set_option maxHeartbeats 800000 in
theorem count_in (K H S : Int) (n : Nat) (w : World) (hm : MayP K H S) (hn : n < 9223372036854775808) :
    Calls Try.prog 12 #[par K H S, .int .i64 (n : Int)] w fun e w' => e = .returned (.int .i64 (Ck.cnt (Ck.wdt K S) n : Nat)) ∧ Gr w w' := by
  obtain ⟨hw1, hw2, hw3⟩ := Ck.wdt_in hm
  have HB : Hid (∀ w, Calls Try.prog 26 #[par K H S] w fun e w' => e = .returned (.int .i64 (Ck.wdt K S : Nat)) ∧ Gr w w') := Lib.hid fun w => bytes_ck K H S w hm
  obtain ⟨W, hW⟩ : ∃ W, Ck.wdt K S = W := ⟨_, rfl⟩
  rw [hW] at hw1 hw2 HB ⊢
  have hd := decide_eq_true hm
  have hw0 : ((W : Int) == 0) = false := beq_eq_false_iff_ne.2 (by omega)
  obtain ⟨q, hq⟩ : ∃ q, n / W = q := ⟨_, rfl⟩
  obtain ⟨r, hr⟩ : ∃ r, n % W = r := ⟨_, rfl⟩
  have hq1 : (n : Int).tdiv (W : Int) = (q : Int) := by rw [← hq]; rfl
  have hr1 : (n : Int).tmod (W : Int) = (r : Int) := by rw [← hr]; rfl
  have hC : Hid (Ck.cnt W n = if 0 < r then q + 1 else q) := Lib.hid (by
    unfold Ck.cnt
    rw [hq, hr]
    split <;> rfl)
  have hcl : (if 0 < r then q + 1 else q) ≤ n := by rw [← hC.out]; exact Ck.cnt_le hw1
  have hge0 : decide ((n : Int) < 0) = false := decide_eq_false (by omega)
  have P0 : Hid (Par (w.alloc (.cells #[.int .i64 K, .int .i64 H, .int .i64 S] 23)) w.heap.size K H S) := Lib.hid (heap_alloc_new _ _)
  have HG0 : Hid (Gr w (w.alloc (.cells #[.int .i64 K, .int .i64 H, .int .i64 S] 23))) := Lib.hid (Gr.alloc (Gr.refl _) _ _)
  clear hm hW hw3 hq hr
  go_enter Try.func12, Try.ntmps12
  go_wp2_with fail
  generalize w.alloc (.cells #[.int .i64 K, .int .i64 H, .int .i64 S] 23) = W0 at *
  generalize hgp : w.heap.size = gp at *
  refine (may_pre K H S _).mono ?_
  rw [hd]
  rintro e w1 ⟨rfl, hg1⟩
  have P1 := Lib.hid (P0.out.grown hg1)
  have G1 := Lib.hid (Gr.trans HG0.out hg1)
  have c0 := P1.out.cell0
  have c1 := P1.out.cell1
  have c2 := P1.out.cell2
  clear hg1 P0 HG0
  go_wp2_with fail
  refine (HB.out _).mono ?_
  rintro e w2 ⟨rfl, hg2⟩
  have P2 := Lib.hid (P1.out.grown hg2)
  have G2 := Lib.hid (Gr.trans G1.out hg2)
  have c0 := P2.out.cell0
  have c1 := P2.out.cell1
  have c2 := P2.out.cell2
  clear hg2 P1 G1
  go_wp2_with fail
  refine (HB.out _).mono ?_
  rintro e w3 ⟨rfl, hg3⟩
  have G3 := Lib.hid (Gr.trans G2.out hg3)
  clear hg3 P2 G2 c0 c1 c2
  have hqle : q ≤ n := by split at hcl <;> omega
  have hq5 : wrap64 (q : Int) = q := by unfold wrap64; omega
  by_cases h0 : 0 < r
  · rw [if_pos h0] at hC hcl
    have hq6 : wrap64 ((q : Int) + 1) = ((q + 1 : Nat) : Int) := by unfold wrap64; omega
    go_wp2_with fail
    go_ret
    exact ⟨by rw [hC.out]; rfl, G3.out⟩
  · rw [if_neg h0] at hC hcl
    go_wp2_with fail
    go_ret
    exact ⟨by rw [hC.out]; rfl, G3.out⟩
set_option maxRecDepth 100000 in
set_option maxHeartbeats 800000 in
theorem count_ne (K H S n : Int) (w : World) (hm : ¬ (MayP K H S ∧ 0 ≤ n)) :
    Calls Try.prog 12 #[par K H S, .int .i64 n] w fun e w' => e = .returned (.int .i64 0) ∧ Gr w w' := by
  have P0 : Hid (Par (w.alloc (.cells #[.int .i64 K, .int .i64 H, .int .i64 S] 23)) w.heap.size K H S) := Lib.hid (heap_alloc_new _ _)
  have HG0 : Hid (Gr w (w.alloc (.cells #[.int .i64 K, .int .i64 H, .int .i64 S] 23))) := Lib.hid (Gr.alloc (Gr.refl _) _ _)
  by_cases hp : MayP K H S
  · have hd := decide_eq_true hp
    have h1 : n < 0 := by
      rcases Int.lt_or_le n 0 with h | h
      · exact h
      · exact absurd ⟨hp, h⟩ hm
    clear hm hp
    go_enter Try.func12, Try.ntmps12
    go_wp2_with fail
    refine (may_pre K H S _).mono ?_
    rw [hd]
    rintro e w1 ⟨rfl, hg1⟩
    have G1 := Lib.hid (Gr.trans HG0.out hg1)
    clear hg1
    go_wp2_with fail
    go_ret
    exact ⟨rfl, G1.out⟩
  · have hd := decide_eq_false hp
    clear hm hp
    go_enter Try.func12, Try.ntmps12
    go_wp2_with fail
    refine (may_pre K H S _).mono ?_
    rw [hd]
    rintro e w1 ⟨rfl, hg1⟩
    have G1 := Lib.hid (Gr.trans HG0.out hg1)
    clear hg1
    go_wp2_with fail
    go_ret
    exact ⟨rfl, G1.out⟩
theorem count_ck (K H S n : Int) (w : World) (hn : I64 n) :
    Calls Try.prog 12 #[par K H S, .int .i64 n] w fun e w' => e = .returned (.int .i64 (Ck.countP K H S n)) ∧ Gr w w' := by
  unfold Ck.countP
  by_cases hm : MayP K H S ∧ 0 ≤ n
  · rw [if_pos hm]
    obtain ⟨k, rfl⟩ : ∃ k : Nat, n = k := ⟨n.toNat, by have := hm.2; omega⟩
    rw [Int.toNat_natCast]
    exact count_in K H S k w hm.1 (by have := hn.2; omega)
  · rw [if_neg hm]
    exact count_ne K H S n w hm
/-- A list of n rows of m bytes, made ahead: the first j of them are there, each in a block of its own. -/
structure FillC (w0 W : World) (g n m : Nat) (f : Nat → List Int) (j : Nat) (us : List Value) : Prop where
  tab : W.heap[g]? = some (.cells us.toArray 24 (0, 0))
  len : us.length = n
  row : ∀ i, i < j → ∃ r, us.getD i undef = .slice (some ⟨r, 0, none⟩) m m ∧ w0.heap.size ≤ r ∧ Blk W r (f i) ∧ (f i).length = m ∧ ∀ x ∈ f i, Byt x
  low : w0.heap.size ≤ g
  gr : Gr w0 W
section
variable {w0 W W' : World} {g n m j : Nat} {f : Nat → List Int} {us : List Value}
theorem FillC.start (w : World) (n m : Nat) (f : Nat → List Int) : FillC w (w.alloc (.cells (nils n) 24)) w.heap.size n m f 0 (List.replicate n (.slice none 0 0)) :=
  ⟨heap_alloc_new _ _, by simp, fun i hi => absurd hi (by omega), Nat.le_refl _, Gr.alloc (Gr.refl _) _ _⟩
theorem FillC.grow (h : FillC w0 W g n m f j us) (hg : Gr W W') : FillC w0 W' g n m f j us :=
  ⟨keptRow hg h.tab, h.len, fun i hi => by
    obtain ⟨r, h1, h2, h3, h4⟩ := h.row i hi
    exact ⟨r, h1, h2, h3.grown hg, h4⟩, h.low, Gr.trans h.gr hg⟩
theorem FillC.cell (h : FillC w0 W g n m f j us) {i : Nat} (hi : i < n) : W.cell? ⟨g, i, none⟩ = some (us.getD i undef) := by
  rw [cell_of_row W g i _ _ _ h.tab, List.getElem?_toArray, List.getD_eq_getElem?_getD, List.getElem?_eq_getElem (by rw [h.len]; exact hi)]
  rfl
theorem FillC.frozen (h : FillC w0 W g n m f j us) (i : Nat) : W.frozen? ⟨g, i, none⟩ = false := frozen_of_row W g i _ _ h.tab
theorem FillC.lt (h : FillC w0 W g n m f j us) : g < W.heap.size := (Array.getElem?_eq_some_iff.1 h.tab).1
/-- The table's cell of the next one is set. -/
theorem FillC.tabSet (h : FillC w0 W g n m f j us) (x : Value) : (W.setCell ⟨g, j, none⟩ x).heap[g]? = some (.cells (us.set j x).toArray 24 (0, 0)) := by
  rw [heap_setCell_same _ _ _ _ _ _ h.tab]
  simp
/-- One more row: made in new memory, its place in the table set, then written. -/
theorem FillC.more {W1 W2 : World} (h : FillC w0 W g n m f j us) (hj : j < n) (h1 : Gr W W1) (h2 : Kp (fun k => W.heap.size ≤ k) (W1.setCell ⟨g, j, none⟩ (.slice (some ⟨W.heap.size, 0, none⟩) m m)) W2)
    (h3 : Blk W2 W.heap.size (f j)) (hl : (f j).length = m) (hb : ∀ x ∈ f j, Byt x) : FillC w0 W2 g n m f (j + 1) (us.set j (.slice (some ⟨W.heap.size, 0, none⟩) m m)) := by
  have hgl := h.lt
  have ht : (W1.setCell ⟨g, j, none⟩ (.slice (some ⟨W.heap.size, 0, none⟩) m m)).heap[g]? = some (.cells (us.set j (.slice (some ⟨W.heap.size, 0, none⟩) m m)).toArray 24 (0, 0)) := (h.grow h1).tabSet _
  refine ⟨h2.block ht (by omega), by rw [List.length_set, h.len], fun i hi => ?_, h.low, ?_⟩
  · by_cases e : i = j
    · subst e
      refine ⟨W.heap.size, ?_, h.gr.size, h3, hl, hb⟩
      rw [List.getD_eq_getElem?_getD, List.getElem?_set_self (by rw [h.len]; exact hj)]
      rfl
    · obtain ⟨r, q1, q2, q3, q4⟩ := h.row i (by omega)
      have hr := (Array.getElem?_eq_some_iff.1 q3).1
      have hrg : r ≠ g := fun e => by
        subst e
        have t1 := h.tab
        rw [q3] at t1
        simp at t1
      refine ⟨r, ?_, q2, ?_, q4⟩
      · rw [List.getD_eq_getElem?_getD, List.getElem?_set_ne (fun c => e c.symm), ← List.getD_eq_getElem?_getD]
        exact q1
      · refine h2.block ?_ (by omega)
        rw [heap_setCell_other _ _ _ _ hrg]
        exact keptRow h1 q3
  · have g2 : Gr w0 (W1.setCell ⟨g, j, none⟩ (.slice (some ⟨W.heap.size, 0, none⟩) m m)) := Gr.setCell (h.gr.trans h1) h.low _
    exact h2.gr g2 fun k hk => Nat.le_trans h.gr.size hk
theorem FillC.done (h : FillC w0 W g n m f n us) (hn : n ≤ 1000000) (hm : m ≤ 1000000) : RwsN w0.heap.size W (.slice (some ⟨g, 0, none⟩) n n) ((List.range n).map f) := by
  have hl : ((List.range n).map f).length = n := by simp
  refine ⟨us, ?_, fun i hi => ?_⟩
  · rw [hl]
    exact ⟨by rw [Nat.mul_one]; exact h.len, .inr ⟨g, n, us.toArray, rfl, h.low, h.tab, Nat.le_refl _, by unfold maxLen; omega, by simp [h.len], by rw [Nat.mul_one]; simp [List.take_of_length_le (Nat.le_of_eq h.len)]⟩⟩
  · rw [hl] at hi
    obtain ⟨r, q1, q2, q3, q4, q5⟩ := h.row i hi
    have e : ((List.range n).map f).getD i [] = f i := by
      rw [List.getD_eq_getElem?_getD, List.getElem?_map, List.getElem?_range hi]
      rfl
    rw [q1, e]
    refine ⟨?_, fun a k c ha _ => ?_⟩
    · have := Blk.bs q3 (f i) m (Nat.le_refl _) (by omega) (by omega) q5 fun _ _ => rfl
      rwa [q4] at this
    · simp only [Value.slice.injEq, Option.some.injEq] at ha
      obtain ⟨rfl, -, -⟩ := ha
      exact ⟨q2, _, q3⟩
end
set_option maxRecDepth 100000 in
/-- copy of bytes into noughts of one's own, as a step of a region that draws its order. -/
theorem step_copy_pad {w : World} {ops : Array Oper} {o : Oper} {a : Act} {K : Act → World → Prop} {Q : Exit → Act → World → Prop} {E : Prop} (hgd : o.guard = none) (d s : Operand)
    (ho : o.op = .call { callee := .builtin .copy, args := #[d, s], argTypes := #[24, 24] }) (g n : Nat) (hg : Blk w g (List.replicate n 0)) (hd : a.eval d = .slice (some ⟨g, 0, none⟩) n n)
    (oa : Option Addr) (m c : Nat) (l : List Int) (hs : a.eval s = .slice oa m c) (hb : Bs w (.slice oa m c) l) (hl : l.length = m)
    (h : ∀ w', Blk w' g (Ck.padW n l) → Kp (fun j => g ≤ j) w w' → K (a.put o.dst (goInt (Nat.min m n))) w') :
    if Region.wanted o (yielded ops a.tmps) = true then Oper.wp Try.prog o a w K Q else E := by
  have HSZ : (Try.prog.info? 5).map (·.size) = some 1 := by kernel_rfl
  have hlc : ((l.take n).map (Value.int .u8)).length = Nat.min m n := by
    rw [List.length_map, List.length_take, Nat.min_comm, hl]
  obtain ⟨_, oa', c', he, h2, h3, h4, h5⟩ := hb
  simp only [Value.slice.injEq] at he
  obtain ⟨rfl, -, rfl⟩ := he
  refine step_copy_splice hgd d s 24 24 ho 5 Try.underlying24 HSZ (some ⟨g, 0, none⟩) oa n n m c hd hs g 0 ((List.replicate n 0).map (Value.int .u8)) 5 hg ((l.take n).map (Value.int .u8)) hlc ?_ ?_ ?_ g w (Below.refl _ _) (Nat.le_refl _) ?_
  · intro hp
    refine ⟨rfl, ?_⟩
    have hp2 : 0 < l.length := by
      rw [hlc] at hp
      rw [hl]
      exact Nat.lt_of_lt_of_le hp (Nat.min_le_left m n)
    cases oa with
    | none => have := h4 rfl; omega
    | some ad =>
      refine ⟨ad, rfl, fun j u hu => ?_⟩
      have hj := (List.getElem?_eq_some_iff.1 hu).1
      rw [List.length_map, List.length_take] at hj
      rw [h5 ad rfl j (by omega)]
      rw [List.getElem?_map, List.getElem?_take_of_lt (by omega), List.getElem?_eq_getElem (by omega), Option.map_some, Option.some.injEq] at hu
      rw [← hu, List.getD_eq_getElem?_getD, List.getElem?_eq_getElem (by omega)]
      rfl
  · rw [hlc, List.length_map, List.length_replicate, Nat.zero_add]
    exact Nat.min_le_right _ _
  · intro u hu
    obtain ⟨x, _, rfl⟩ := List.mem_map.1 hu
    rfl
  · intro w5 hw5 hbel5
    rw [hlc]
    refine h w5 ?_ ⟨hbel5.os, hbel5.tape, hbel5.output, hbel5.size, fun k _ hn => hbel5.block k (by omega)⟩
    have hw6 := hw5.out
    unfold Blk
    rw [hw6]
    congr 2
    unfold rowB splice Ck.padW
    rw [List.take_zero, List.nil_append, Nat.zero_add, hlc, List.map_append, List.map_replicate, List.map_replicate, List.drop_replicate, show n - Nat.min m n = n - l.length from by rw [hl, show Nat.min m n = min m n from rfl]; omega]
end Go.Proofs.Ytmbikmlknbinpaa
namespace Go.Proofs.Ytmbikmlknbinpaa
open Go.RowKit

set_option maxRecDepth 100000 in
set_option maxHeartbeats 1600000 in
theorem split_in (K H S : Int) (v : Value) (b : List Int) (w : World) (hm : MayP K H S) (hl : b.length ≤ 4000) (h : Bs w v b) :
    Calls Try.prog 15 #[par K H S, v] w fun e w' => ∃ u, e = .returned u ∧ RwsN w.heap.size w' u (Ck.blocksP K H S b) ∧ Gr w w' := by
  obtain ⟨hw1, hw2, hw3⟩ := Ck.wdt_in hm
  have HPE : Hid (Ck.blocksP K H S b = Ck.blocks (Ck.wdt K S) b) := Lib.hid (if_pos hm)
  rw [HPE.out]
  have HB : Hid (∀ w, Calls Try.prog 26 #[par K H S] w fun e w' => e = .returned (.int .i64 (Ck.wdt K S : Nat)) ∧ Gr w w') := Lib.hid fun w => bytes_ck K H S w hm
  have HCN : Hid (∀ w : World, Calls Try.prog 12 #[par K H S, .int .i64 (b.length : Int)] w fun e w' => e = .returned (.int .i64 (Ck.cnt (Ck.wdt K S) b.length : Nat)) ∧ Gr w w') := Lib.hid fun w => count_in K H S b.length w hm (by omega)
  obtain ⟨W, hW⟩ : ∃ W, Ck.wdt K S = W := ⟨_, rfl⟩
  rw [hW] at hw1 hw2 HCN HB ⊢
  obtain ⟨o, c, rfl⟩ := h.form
  obtain ⟨n, hn⟩ : ∃ n, b.length = n := ⟨_, rfl⟩
  have HN := Lib.hid hn
  obtain ⟨q, hq⟩ : ∃ q, Ck.cnt W b.length = q := ⟨_, rfl⟩
  have HQW : Hid (∀ i, i < q → i * W < b.length) := Lib.hid fun i hi => by
    have h1 := (Ck.cnt_pos (W := W) (n := b.length) hw1).2
    have h2 : (i + 1) * W ≤ Ck.cnt W b.length * W := Nat.mul_le_mul_right _ (by omega)
    rw [Nat.add_mul] at h2
    omega
  have hqn : q ≤ 4000 := by rw [← hq]; exact Nat.le_trans (Ck.cnt_le hw1) hl
  have HBL : Hid (Ck.blocks W b = (List.range q).map (Ck.blk W b)) := Lib.hid (by unfold Ck.blocks; rw [hq])
  rw [hq] at HCN
  rw [hn] at HCN hl h ⊢
  have HZ := Lib.hid h
  have P0 : Hid (Par (w.alloc (.cells #[.int .i64 K, .int .i64 H, .int .i64 S] 23)) w.heap.size K H S) := Lib.hid (heap_alloc_new _ _)
  have HG0 : Hid (Gr w (w.alloc (.cells #[.int .i64 K, .int .i64 H, .int .i64 S] 23))) := Lib.hid (Gr.alloc (Gr.refl _) _ _)
  obtain ⟨cur, hcu⟩ : ∃ cur, rowB (List.replicate W 0) = cur := ⟨_, rfl⟩
  have HCU := Lib.hid hcu
  have hmk := make22 W W (Nat.le_refl _) (by omega)
  rw [hcu] at hmk
  obtain ⟨tb, htb⟩ : ∃ cur, nils q = cur := ⟨_, rfl⟩
  have HTB := Lib.hid htb
  have hmt := make24 q q (Nat.le_refl _) (by omega)
  rw [htb] at hmt
  have HBB : Hid (∀ i, ∀ x ∈ Ck.blk W b i, Byt x) := Lib.hid fun i => Ck.blk_byt HZ.out.1 i
  clear hcu hm hw3 hW h hn hq htb
  go_enter Try.func15, Try.ntmps15
  go_wp2_with fail
  generalize w.alloc (.cells #[.int .i64 K, .int .i64 H, .int .i64 S] 23) = W0 at *
  generalize hgp : w.heap.size = gp at *
  refine (HCN.out _).mono ?_
  rintro e w1 ⟨rfl, hg1⟩
  have P1 := Lib.hid (P0.out.grown hg1)
  have G1 := Lib.hid (Gr.trans HG0.out hg1)
  have c0 := P1.out.cell0
  have c1 := P1.out.cell1
  have c2 := P1.out.cell2
  clear hg1 P0 HG0
  go_wp2_with fail
  have F0 : Hid (FillC w1 (w1.alloc (.cells tb 24)) w1.heap.size q W (Ck.blk W b) 0 (List.replicate q (.slice none 0 0))) := Lib.hid (by rw [← HTB.out]; exact FillC.start w1 q W _)
  have P2 := Lib.hid (P1.out.grown (Gr.alloc (Gr.refl w1) tb 24))
  generalize w1.alloc (.cells tb 24) = W1 at *
  generalize hgt : w1.heap.size = gt at *
  clear c0 c1 c2 hmt
  go_loopw [14] (fun iv X => ∃ (i : Nat) (us : List Value), i ≤ q ∧ iv = .int .i64 i ∧ FillC w1 X gt q W (Ck.blk W b) i us ∧ Par X gp K H S) (fun iv _ => q - (intOf iv).toNat)
  case atStart => exact ⟨0, _, by omega, rfl, F0.out, P2.out⟩
  case round =>
    obtain ⟨wi, hwi⟩ : ∃ x, x = wr := ⟨_, rfl⟩
    subst hwi
    obtain ⟨i, us, hi, rfl, hf, hp⟩ := hrel
    have k0 := hp.cell0
    have k1 := hp.cell1
    have k2 := hp.cell2
    have HF := Lib.hid hf
    have HP := Lib.hid hp
    clear hf hp F0 P2
    by_cases hlt : i < q
    · obtain ⟨iw, hiw⟩ : ∃ iw, i * W = iw := ⟨_, rfl⟩
      have hiw2 : iw < n := by have := HQW.out i hlt; rw [HN.out] at this; omega
      have hiw3 : (i : Int) * (W : Int) = (iw : Int) := by rw [← hiw]; exact (Int.natCast_mul i W).symm
      have hiw4 : IntKind.i64.wrap (iw : Int) = (iw : Int) := by simp [IntKind.wrap, IntKind.bits, IntKind.signed]; omega
      obtain ⟨a, c', he, hcn, hcm, _⟩ := Bs.at HZ.out (by rw [HN.out]; omega)
      simp only [Value.slice.injEq] at he
      obtain ⟨rfl, -, rfl⟩ := he
      rw [HN.out] at hcn
      have hci : ¬ c = iw := by omega
      have hic : (iw : Int) ≤ (n : Int) := by omega
      have HPB : Hid (Ck.padW W (b.drop iw) = Ck.blk W b i) := Lib.hid (by unfold Ck.blk; rw [hiw])
      have HDL : Hid ((b.drop iw).length = n - iw) := Lib.hid (by rw [List.length_drop, HN.out])
      clear hiw
      go_wp2_with fail
      refine (HB.out _).mono ?_
      rintro e w3 ⟨rfl, hg3⟩
      have HF3 := Lib.hid (HF.out.grow hg3)
      have HP3 := Lib.hid (HP.out.grown hg3)
      have HGA : Hid (Gr w3 (w3.alloc (.cells cur 5))) := Lib.hid (Gr.alloc (Gr.refl _) _ _)
      have B3 : Hid (Blk (w3.alloc (.cells cur 5)) w3.heap.size (List.replicate W 0)) := Lib.hid (by
        unfold Blk
        rw [HCU.out]
        exact heap_alloc_new _ _)
      have q3 := (HF3.out.grow HGA.out).cell hlt
      have q4 := (HF3.out.grow HGA.out).frozen i
      have HWB : Hid (w3.heap.size < (w3.alloc (.cells cur 5)).heap.size) := Lib.hid (Array.getElem?_eq_some_iff.1 B3.out).1
      have HGP : Hid (gp < gt ∧ gt < w3.heap.size) := Lib.hid ⟨by have h := (Array.getElem?_eq_some_iff.1 P1.out).1; omega, HF3.out.lt⟩
      have HM3 := Lib.hid (HF3.out.grow HGA.out)
      have HP4 := Lib.hid (HP3.out.grown HGA.out)
      have HGR : Hid (Gr w (w3.alloc (.cells cur 5))) := Lib.hid (Gr.trans G1.out (Gr.trans HF3.out.gr HGA.out))
      clear hg3 HF HP k0 k1 k2
      go_wp2_with fail
      have B4 : Hid (Blk ((w3.alloc (.cells cur 5)).setCell ⟨gt, i, none⟩ (.slice (some ⟨w3.heap.size, 0, none⟩) W W)) w3.heap.size (List.replicate W 0)) := Lib.hid ((heap_setCell_other _ _ _ _ (show w3.heap.size ≠ gt from by have := HGP.out; omega)).trans B3.out)
      have HP5 : Hid (Par ((w3.alloc (.cells cur 5)).setCell ⟨gt, i, none⟩ (.slice (some ⟨w3.heap.size, 0, none⟩) W W)) gp K H S) := Lib.hid ((heap_setCell_other _ _ _ _ (show gp ≠ gt from by have := HGP.out; omega)).trans HP4.out)
      have HBS : Hid (Bs ((w3.alloc (.cells cur 5)).setCell ⟨gt, i, none⟩ (.slice (some ⟨w3.heap.size, 0, none⟩) W W)) (.slice (some (a.add iw)) (n - iw) (c - iw)) (b.drop iw)) := Lib.hid (by
        have h := Bs.from5 (HZ.out.grown (Gr.setCell HGR.out (a := ⟨gt, i, none⟩) (show w.heap.size ≤ gt from by have := G1.out.size; omega) (.slice (some ⟨w3.heap.size, 0, none⟩) W W))) iw (by rw [HN.out]; omega) _ _ _ rfl
        rw [if_neg hci] at h
        exact h)
      have k3 : ((w3.alloc (.cells cur 5)).setCell ⟨gt, i, none⟩ (.slice (some ⟨w3.heap.size, 0, none⟩) W W)).cell? ⟨gt, i, none⟩ = some (.slice (some ⟨w3.heap.size, 0, none⟩) W W) := by
        rw [cell_of_row _ gt i _ _ _ (HM3.out.tabSet _), List.getElem?_toArray, List.getElem?_set_self (by rw [HM3.out.len]; exact hlt)]
      have MORE : Hid (∀ X, Kp (fun k => w3.heap.size ≤ k) ((w3.alloc (.cells cur 5)).setCell ⟨gt, i, none⟩ (.slice (some ⟨w3.heap.size, 0, none⟩) W W)) X → Blk X w3.heap.size (Ck.blk W b i) → FillC w1 X gt q W (Ck.blk W b) (i + 1) (us.set i (.slice (some ⟨w3.heap.size, 0, none⟩) W W))) := Lib.hid fun X hk hb => HF3.out.more hlt HGA.out hk hb (Ck.blk_length W b i) (HBB.out i)
      clear q3 q4 B3 HP4 HM3 HGR HWB
      generalize (w3.alloc (.cells cur 5)).setCell ⟨gt, i, none⟩ (.slice (some ⟨w3.heap.size, 0, none⟩) W W) = W4 at *
      generalize w3.heap.size = g3 at *
      have k0 := HP5.out.cell0
      have k1 := HP5.out.cell1
      have k2 := HP5.out.cell2
      go_region_law (first
        | ((try go_simp); go_at_call 26; refine (HB.out _).mono ?_; rintro e w5 ⟨rfl, hg5⟩; have G5 : Hid (Gr W4 w5) := Lib.hid hg5; have k5 := cell_grown G5.out k3; have B5 := Lib.hid (B4.out.grown G5.out); have S5 := Lib.hid (HBS.out.grown G5.out); clear hg5)
        | (refine step_copy_pad rfl (.tmp 26) (.tmp 32) rfl g3 W B5.out (by simp [Act.eval, Act.put]) (some (a.add iw)) (n - iw) (c - iw) (b.drop iw) (by simp [Act.eval, Act.put]) S5.out HDL.out ?_; intro w6 hb6 hk6))
      all_goals
        rw [HPB.out] at hb6
        have HK6 : Kp (fun j => g3 ≤ j) W4 w6 := (G5.out.kp _).trans hk6 (fun k e => .inl e)
        have F6 := Lib.hid (MORE.out w6 HK6 hb6)
        have P6 : Hid (Par w6 gp K H S) := Lib.hid (HK6.block HP5.out (show ¬ g3 ≤ gp by have := HGP.out; omega))
        clear hb6 hk6 HK6 k0 k1 k2 k3 k5
        go_wp2_with fail
        exact ⟨⟨i + 1, _, by omega, by go_num, F6.out, P6.out⟩, by simp [intOf]; omega⟩
    · obtain rfl : i = q := by omega
      go_wp2_with fail
      go_ret
      exact ⟨_, rfl, by rw [HBL.out]; exact (HF.out.done (by omega) (by omega)).lowM (by have := G1.out.size; omega), Gr.trans G1.out HF.out.gr⟩
set_option maxRecDepth 100000 in
set_option maxHeartbeats 400000 in
theorem split_ne (K H S : Int) (v : Value) (b : List Int) (w : World) (hm : ¬ MayP K H S) (h : Bs w v b) :
    Calls Try.prog 15 #[par K H S, v] w fun e w' => ∃ u, e = .returned u ∧ RwsN w.heap.size w' u [] ∧ Gr w w' := by
  obtain ⟨o, c, rfl⟩ := h.form
  obtain ⟨n, hn⟩ : ∃ n, b.length = n := ⟨_, rfl⟩
  rw [hn] at h ⊢
  have HCN : Hid (∀ w : World, Calls Try.prog 12 #[par K H S, .int .i64 (n : Int)] w fun e w' => e = .returned (.int .i64 0) ∧ Gr w w') := Lib.hid fun w => count_ne K H S n w (fun e => hm e.1)
  have HG0 : Hid (Gr w (w.alloc (.cells #[.int .i64 K, .int .i64 H, .int .i64 S] 23))) := Lib.hid (Gr.alloc (Gr.refl _) _ _)
  obtain ⟨tb, htb⟩ : ∃ cur, nils 0 = cur := ⟨_, rfl⟩
  have HTB := Lib.hid htb
  have hmt : ∀ w, (Instr.makeSlice 25 (.int .i64 0) (.int .i64 0)).run Try.prog w = .ok (.slice (some ⟨w.heap.size, 0, none⟩) 0 0) (w.alloc (.cells tb 24)) := by
    rw [← htb]
    exact make24 0 0 (Nat.le_refl _) (by omega)
  clear h htb hn
  go_enter Try.func15, Try.ntmps15
  go_wp2_with fail
  generalize w.alloc (.cells #[.int .i64 K, .int .i64 H, .int .i64 S] 23) = W0 at *
  refine (HCN.out _).mono ?_
  rintro e w1 ⟨rfl, hg1⟩
  have G1 := Lib.hid (Gr.trans HG0.out hg1)
  clear hg1 HG0
  go_wp2_with fail
  have F0 : Hid (FillC w1 (w1.alloc (.cells tb 24)) w1.heap.size 0 0 (fun _ => []) 0 (List.replicate 0 (.slice none 0 0))) := Lib.hid (by rw [← HTB.out]; exact FillC.start w1 0 0 _)
  generalize w1.alloc (.cells tb 24) = W1 at *
  go_loopw [14] (fun iv X => iv = .int .i64 0 ∧ X = W1) (fun iv _ => 0)
  case atStart => exact ⟨rfl, rfl⟩
  case round =>
    obtain ⟨rfl, rfl⟩ := hrel
    go_wp2_with fail
    go_ret
    exact ⟨_, rfl, (F0.out.done (by omega) (by omega)).lowM G1.out.size, Gr.trans G1.out F0.out.gr⟩
theorem split_ck (K H S : Int) (v : Value) (b : List Int) (w : World) (hl : b.length ≤ 4000) (h : Bs w v b) :
    Calls Try.prog 15 #[par K H S, v] w fun e w' => ∃ u, e = .returned u ∧ RwsN w.heap.size w' u (Ck.blocksP K H S b) ∧ Gr w w' := by
  by_cases hm : MayP K H S
  · exact split_in K H S v b w hm hl h
  · rw [show Ck.blocksP K H S b = [] from if_neg hm]
    exact split_ne K H S v b w hm h
end Go.Proofs.Ytmbikmlknbinpaa
