/-
  Plain: a sum of 32 bits, bit by bit; it goes with exclusive ors; a burst of at most 32 bits never leaves it.
-/
import Derived.Test.YtpckdjapkngpgaaDoorFld
namespace Go.Proofs.YtpckdjapkngpgaaDoor
open Go.RowKit

namespace Crc
theorem xor_eq {a b : Nat} (h : a ^^^ b = 0) : a = b := by
  have h1 : a ^^^ b ^^^ b = 0 ^^^ b := by rw [h]
  rwa [Nat.xor_assoc, Nat.xor_self, Nat.xor_zero, Nat.zero_xor] at h1
theorem xor_back (a b : Nat) : a ^^^ (a ^^^ b) = b := by rw [← Nat.xor_assoc, Nat.xor_self, Nat.zero_xor]
def step (c : Nat) : Nat := if c % 2 = 1 then (c / 2) ^^^ 3988292384 else c / 2
def it : Nat → Nat → Nat
  | 0, c => c
  | n + 1, c => step (it n c)
theorem xor_two (a b : Nat) : (a ^^^ b) % 2 = (a % 2) ^^^ (b % 2) := by
  have h := @Nat.xor_mod_two_pow a b 1
  simpa using h
theorem xor_half (a b : Nat) : (a ^^^ b) / 2 = (a / 2) ^^^ (b / 2) := by
  have h := @Nat.xor_div_two_pow a b 1
  simpa using h
theorem step_xor (a b : Nat) : step (a ^^^ b) = step a ^^^ step b := by
  unfold step
  rw [xor_half, xor_two]
  rcases Nat.mod_two_eq_zero_or_one a with ha | ha <;> rcases Nat.mod_two_eq_zero_or_one b with hb | hb <;> simp [ha, hb]
  · ac_rfl
  · ac_rfl
  · rw [Nat.xor_assoc, ← Nat.xor_assoc 3988292384, Nat.xor_comm 3988292384, Nat.xor_assoc (b / 2), Nat.xor_self, Nat.xor_zero]
theorem step_lt {c : Nat} (h : c < 4294967296) : step c < 4294967296 := by
  unfold step
  split
  · exact Nat.xor_lt_two_pow (n := 32) (by omega) (by omega)
  · omega
theorem step_zero : step 0 = 0 := rfl
theorem step_inj {c : Nat} (h : c < 4294967296) (hz : step c = 0) : c = 0 := by
  unfold step at hz
  split at hz
  · have e : c / 2 = 3988292384 := by
      have h1 : c / 2 ^^^ 3988292384 ^^^ 3988292384 = 0 ^^^ 3988292384 := by rw [hz]
      rwa [Nat.xor_assoc, Nat.xor_self, Nat.xor_zero, Nat.zero_xor] at h1
    omega
  · omega
theorem it_xor (n a b : Nat) : it n (a ^^^ b) = it n a ^^^ it n b := by
  induction n with
  | zero => rfl
  | succ n ih => show step _ = step _ ^^^ step _; rw [ih, step_xor]
theorem it_zero (n : Nat) : it n 0 = 0 := by
  induction n with
  | zero => rfl
  | succ n ih => show step _ = 0; rw [ih]; rfl
theorem it_lt {c : Nat} (h : c < 4294967296) (n : Nat) : it n c < 4294967296 := by
  induction n with
  | zero => exact h
  | succ n ih => exact step_lt ih
theorem it_inj0 {c : Nat} (h : c < 4294967296) (n : Nat) (hz : it n c = 0) : c = 0 := by
  induction n with
  | zero => exact hz
  | succ n ih => exact ih (step_inj (it_lt h n) hz)
theorem it_add (m n c : Nat) : it (m + n) c = it m (it n c) := by
  induction m with
  | zero => rw [Nat.zero_add]; rfl
  | succ m ih => rw [Nat.add_right_comm]; show step _ = step _; rw [ih]
theorem it_shift (n x : Nat) : it n (x * 2 ^ n) = x := by
  induction n with
  | zero => simp [it]
  | succ n ih =>
    rw [it_add n 1]
    have : it 1 (x * 2 ^ (n + 1)) = x * 2 ^ n := by
      show step (x * 2 ^ (n + 1)) = _
      unfold step
      have e : x * 2 ^ (n + 1) = 2 * (x * 2 ^ n) := by rw [Nat.pow_succ]; ac_rfl
      rw [e, if_neg (by omega)]
      omega
    rw [this, ih]
theorem it_inj {a b : Nat} (ha : a < 4294967296) (hb : b < 4294967296) (n : Nat) (h : it n a = it n b) : a = b := by
  have h1 : it n (a ^^^ b) = 0 := by rw [it_xor, h, Nat.xor_self]
  have h2 := it_inj0 (Nat.xor_lt_two_pow (n := 32) ha hb) n h1
  exact xor_eq h2
/-- Bits, one by one. -/
def ser (c : Nat) (f : Nat → Nat) : Nat → Nat
  | 0 => c
  | n + 1 => step (ser c f n ^^^ f n)
def val (f : Nat → Nat) : Nat → Nat
  | 0 => 0
  | n + 1 => val f n ^^^ (f n * 2 ^ n)
theorem ser_val (c : Nat) (f : Nat → Nat) (n : Nat) : ser c f n = it n (c ^^^ val f n) := by
  induction n with
  | zero => simp [ser, it, val]
  | succ n ih =>
    show step _ = step _
    rw [ih]
    show _ = step (it n (c ^^^ (val f n ^^^ f n * 2 ^ n)))
    rw [← Nat.xor_assoc, it_xor n (c ^^^ val f n), it_shift]
theorem val_lt {f : Nat → Nat} (h : ∀ i, f i < 2) (n : Nat) : val f n < 2 ^ n := by
  induction n with
  | zero => simp [val]
  | succ n ih =>
    refine Nat.xor_lt_two_pow (Nat.lt_of_lt_of_le ih (Nat.pow_le_pow_right (by omega) (by omega))) ?_
    have := h n
    rw [Nat.pow_succ]
    have : f n * 2 ^ n ≤ 1 * 2 ^ n := Nat.mul_le_mul_right _ (by omega)
    have : 0 < 2 ^ n := Nat.pow_pos (by omega)
    omega
theorem val_zero {f : Nat → Nat} (h : ∀ i, f i < 2) (n : Nat) (hz : val f n = 0) : ∀ i, i < n → f i = 0 := by
  induction n with
  | zero => intro i hi; omega
  | succ n ih =>
    have e : val f n = f n * 2 ^ n := xor_eq hz
    have hl := val_lt h n
    have h0 : f n = 0 := by
      rcases Nat.lt_or_ge 0 (f n) with h1 | h1
      · have : 1 * 2 ^ n ≤ f n * 2 ^ n := Nat.mul_le_mul_right _ h1
        omega
      · omega
    rw [h0, Nat.zero_mul] at e
    intro i hi
    rcases Nat.lt_or_ge i n with h1 | h1
    · exact ih e i h1
    · obtain rfl : i = n := by omega
      exact h0
theorem ser_add (c : Nat) (f : Nat → Nat) (m n : Nat) : ser c f (m + n) = ser (ser c f m) (fun i => f (m + i)) n := by
  induction n with
  | zero => rfl
  | succ n ih => show step (ser c f (m + n) ^^^ f (m + n)) = step _; rw [ih]
theorem ser_congr {c : Nat} {f g : Nat → Nat} {n : Nat} (h : ∀ i, i < n → f i = g i) : ser c f n = ser c g n := by
  induction n with
  | zero => rfl
  | succ n ih => show step _ = step _; rw [ih fun i hi => h i (by omega), h n (by omega)]
theorem ser_xor (a b : Nat) (f g : Nat → Nat) (n : Nat) : ser (a ^^^ b) (fun i => f i ^^^ g i) n = ser a f n ^^^ ser b g n := by
  induction n with
  | zero => rfl
  | succ n ih =>
    show step (ser (a ^^^ b) (fun i => f i ^^^ g i) n ^^^ (f n ^^^ g n)) = step (ser a f n ^^^ f n) ^^^ step (ser b g n ^^^ g n)
    rw [ih, ← step_xor]
    congr 1
    ac_rfl
theorem ser_noughts (c : Nat) (n : Nat) : ser c (fun _ => 0) n = it n c := by
  induction n with
  | zero => rfl
  | succ n ih => show step _ = step _; rw [ih, Nat.xor_zero]
/-- A burst: what it leaves is nothing only if it is nothing. -/
theorem burst {e : Nat → Nat} (h : ∀ i, e i < 2) (at' n : Nat) (h0 : ∀ i, i < at' → e i = 0) (h1 : ∀ i, at' + 32 ≤ i → e i = 0) (hz : ser 0 e n = 0) : ∀ i, i < n → e i = 0 := by
  rcases Nat.lt_or_ge at' n with hl | hl
  · obtain ⟨t, rfl⟩ : ∃ t, n = at' + t := ⟨n - at', by omega⟩
    rw [ser_add, ser_congr (g := fun _ => 0) h0, ser_noughts, it_zero] at hz
    have key : ∀ i, i < t → i < 32 → e (at' + i) = 0 := by
      rcases Nat.lt_or_ge 32 t with ht | ht
      · obtain ⟨r, rfl⟩ : ∃ r, t = 32 + r := ⟨t - 32, by omega⟩
        rw [ser_add, ser_congr (g := fun _ => 0) (n := r) (fun i _ => h1 _ (by omega)), ser_noughts, ser_val, Nat.zero_xor, ← it_add] at hz
        have hv : val (fun i => e (at' + i)) 32 < 2 ^ 32 := val_lt (fun i => h _) 32
        have := val_zero (fun i => h _) 32 (it_inj0 (by omega) _ hz)
        exact fun i _ hi => this i hi
      · rw [ser_val, Nat.zero_xor] at hz
        have hv : val (fun i => e (at' + i)) t < 2 ^ t := val_lt (fun i => h _) t
        have hp : 2 ^ t ≤ 2 ^ 32 := Nat.pow_le_pow_right (by omega) ht
        have := val_zero (fun i => h _) t (it_inj0 (by omega) _ hz)
        exact fun i hi _ => this i hi
    intro i hi
    rcases Nat.lt_or_ge i at' with h2 | h2
    · exact h0 i h2
    · obtain ⟨j, rfl⟩ : ∃ j, i = at' + j := ⟨i - at', by omega⟩
      rcases Nat.lt_or_ge j 32 with h3 | h3
      · exact key j (by omega) h3
      · exact h1 _ (by omega)
  · exact fun i hi => h0 i (by omega)
/-- Bytes, one by one. -/
def run (c : Nat) (l : List Int) : Nat := l.foldl (fun c b => it 8 (c ^^^ b.toNat)) c
def sum (l : List Int) : Nat := run 4294967295 l ^^^ 4294967295
def bitL (l : List Int) (k : Nat) : Nat := (l.getD (k / 8) 0).toNat / 2 ^ (k % 8) % 2
theorem bitL_lt (l : List Int) (k : Nat) : bitL l k < 2 := Nat.mod_lt _ (by omega)
theorem run_cons (c : Nat) (b : Int) (l : List Int) : run c (b :: l) = run (it 8 (c ^^^ b.toNat)) l := by unfold run; rw [List.foldl_cons]
theorem run_append (c : Nat) (l m : List Int) : run c (l ++ m) = run (run c l) m := by unfold run; rw [List.foldl_append]
theorem run_lt {l : List Int} : ∀ (c : Nat), c < 4294967296 → (∀ x ∈ l, Byt x) → run c l < 4294967296 := by
  induction l with
  | nil => exact fun c h _ => h
  | cons b l ih =>
    intro c h hb
    have h1 : Byt b := hb b (by simp)
    unfold Byt at h1
    rw [run_cons]
    exact ih _ (it_lt (Nat.xor_lt_two_pow (n := 32) h (by omega)) 8) fun x hx => hb x (by simp [hx])
theorem sum_lt {l : List Int} (hb : ∀ x ∈ l, Byt x) : sum l < 4294967296 := Nat.xor_lt_two_pow (n := 32) (run_lt _ (by omega) hb) (by omega)
theorem val_byte : ∀ b, b < 256 → val (fun i => b / 2 ^ i % 2) 8 = b := by decide +kernel
theorem run_ser : ∀ (l : List Int) (c : Nat), (∀ x ∈ l, Byt x) → run c l = ser c (bitL l) (8 * l.length)
  | [], _, _ => rfl
  | b :: l, c, hb => by
    have h1 : Byt b := hb b (by simp)
    unfold Byt at h1
    rw [run_cons, run_ser l _ fun x hx => hb x (by simp [hx]), List.length_cons, show 8 * (l.length + 1) = 8 + 8 * l.length from by omega, ser_add]
    have e1 : ser c (bitL (b :: l)) 8 = it 8 (c ^^^ b.toNat) := by
      rw [ser_congr (g := fun i => b.toNat / 2 ^ i % 2) fun i hi => by unfold bitL; rw [Nat.div_eq_of_lt hi, Nat.mod_eq_of_lt hi]; rfl, ser_val, val_byte _ (by omega)]
    rw [e1]
    refine ser_congr fun i _ => ?_
    unfold bitL
    rw [show (8 + i) / 8 = i / 8 + 1 from by omega, show (8 + i) % 8 = i % 8 from by omega]
    rfl
/-- Two lists whose bits differ by e. -/
theorem run_turned {x y : List Int} {e : Nat → Nat} (c : Nat) (hx : ∀ b ∈ x, Byt b) (hy : ∀ b ∈ y, Byt b) (hl : y.length = x.length) (h : ∀ k, k < 8 * x.length → bitL y k = bitL x k ^^^ e k) :
    run c y = run c x ^^^ ser 0 e (8 * x.length) := by
  rw [run_ser x c hx, run_ser y c hy, hl, ← ser_xor, Nat.xor_zero]
  exact ser_congr h
/-- Four bytes, the lowest first. -/
def low4 (s : Nat) : List Int := [((s % 256 : Nat) : Int), ((s / 256 % 256 : Nat) : Int), ((s / 65536 % 256 : Nat) : Int), ((s / 16777216 % 256 : Nat) : Int)]
theorem low4_byt (s : Nat) : ∀ x ∈ low4 s, Byt x := by
  intro x hx
  simp only [low4, List.mem_cons, List.not_mem_nil, or_false] at hx
  unfold Byt
  omega
theorem add_xor {a : Nat} (b n : Nat) (h : a < 2 ^ n) : b * 2 ^ n + a = a ^^^ (b * 2 ^ n) := by
  apply Nat.eq_of_testBit_eq
  intro k
  rw [Nat.mul_comm b, Nat.testBit_two_pow_mul_add _ h, Nat.testBit_xor, Nat.testBit_two_pow_mul]
  by_cases hk : k < n
  · simp [hk, show ¬ n ≤ k from by omega]
  · have : a < 2 ^ k := Nat.lt_of_lt_of_le h (Nat.pow_le_pow_right (by omega) (by omega))
    simp [hk, show n ≤ k from by omega, Nat.testBit_lt_two_pow this]
theorem val_bits (s n : Nat) : val (fun i => s / 2 ^ i % 2) n = s % 2 ^ n := by
  induction n with
  | zero => simp [val, Nat.mod_one]
  | succ n ih =>
    show val _ n ^^^ (s / 2 ^ n % 2 * 2 ^ n) = _
    rw [ih, ← add_xor _ _ (Nat.mod_lt _ (Nat.pow_pos (by omega))), Nat.pow_succ, Nat.mod_mul, Nat.mul_comm (s / 2 ^ n % 2), Nat.add_comm]
theorem bit_low4 (s i : Nat) (h : i < 32) : bitL (low4 s) i = s / 2 ^ i % 2 := by
  have hj : i / 8 = 0 ∨ i / 8 = 1 ∨ i / 8 = 2 ∨ i / 8 = 3 := by omega
  have hr : i % 8 = 0 ∨ i % 8 = 1 ∨ i % 8 = 2 ∨ i % 8 = 3 ∨ i % 8 = 4 ∨ i % 8 = 5 ∨ i % 8 = 6 ∨ i % 8 = 7 := by omega
  obtain ⟨j, r, ej, er, ei⟩ : ∃ j r, i / 8 = j ∧ i % 8 = r ∧ i = 8 * j + r := ⟨_, _, rfl, rfl, by omega⟩
  unfold bitL
  rw [ej] at hj ⊢
  rw [er] at hr ⊢
  rw [ei]
  clear ej er h ei
  rcases hj with rfl | rfl | rfl | rfl <;> rcases hr with rfl | rfl | rfl | rfl | rfl | rfl | rfl | rfl <;> simp [low4] <;> omega
theorem run_low4 (c : Nat) {s : Nat} (h : s < 4294967296) : run c (low4 s) = it 32 (c ^^^ s) := by
  rw [run_ser _ _ (low4_byt s), show 8 * (low4 s).length = 32 from rfl, ser_congr (g := fun i => s / 2 ^ i % 2) (bit_low4 s), ser_val, val_bits, Nat.mod_eq_of_lt (by omega)]
/-- Bytes with their sum behind them have one sum. -/
theorem sum_behind {l : List Int} (hb : ∀ x ∈ l, Byt x) : sum (l ++ low4 (sum l)) = 558161692 := by
  have h := run_low4 (run 4294967295 l) (sum_lt hb)
  rw [← run_append, show sum l = run 4294967295 l ^^^ 4294967295 from rfl, xor_back] at h
  show run 4294967295 (l ++ low4 (run 4294967295 l ^^^ 4294967295)) ^^^ 4294967295 = 558161692
  rw [h]
  decide +kernel
/-- What stands behind bytes is their sum just if all together leave what they do then. -/
theorem behind_iff {p : List Int} {v : Nat} (hb : ∀ x ∈ p, Byt x) (hv : v < 4294967296) : run 4294967295 (p ++ low4 v) = it 32 4294967295 ↔ v = sum p := by
  rw [run_append, run_low4 _ hv]
  have hr := run_lt (l := p) 4294967295 (by omega) hb
  constructor
  · intro h
    have h1 := it_inj (Nat.xor_lt_two_pow (n := 32) hr hv) (by omega) 32 h
    have h2 : run 4294967295 p ^^^ (run 4294967295 p ^^^ v) = run 4294967295 p ^^^ 4294967295 := by rw [h1]
    rw [xor_back] at h2
    exact h2
  · intro h
    rw [h, show sum p = run 4294967295 p ^^^ 4294967295 from rfl, xor_back]
theorem low4_word : ∀ b0 b1 b2 b3 : Int, Byt b0 → Byt b1 → Byt b2 → Byt b3 → low4 (b0.toNat + 256 * b1.toNat + 65536 * b2.toNat + 16777216 * b3.toNat) = [b0, b1, b2, b3] := by
  intro b0 b1 b2 b3 h0 h1 h2 h3
  unfold Byt at *
  unfold low4
  simp only [List.cons.injEq, and_true]
  omega
/-- Exclusive ors of lists as long as one another. -/
def xorL (l m : List Int) : List Int := List.zipWith (fun x y => ((x.toNat ^^^ y.toNat : Nat) : Int)) l m
theorem xorL_cons (x y : Int) (l m : List Int) : xorL (x :: l) (y :: m) = ((x.toNat ^^^ y.toNat : Nat) : Int) :: xorL l m := rfl
theorem run_xor {l : List Int} : ∀ (m : List Int) (a b : Nat), l.length = m.length → run (a ^^^ b) (xorL l m) = run a l ^^^ run b m := by
  induction l with
  | nil =>
    intro m a b h
    cases m with
    | nil => rfl
    | cons y m => simp at h
  | cons x l ih =>
    intro m a b h
    cases m with
    | nil => simp at h
    | cons y m =>
      rw [xorL_cons, run_cons, run_cons, run_cons, ← ih m _ _ (by simpa using h), ← it_xor, Int.toNat_natCast]
      have : a ^^^ b ^^^ (x.toNat ^^^ y.toNat) = a ^^^ x.toNat ^^^ (b ^^^ y.toNat) := by ac_rfl
      rw [this]
theorem sum_three {l m n : List Int} (h1 : l.length = m.length) (h2 : l.length = n.length) : sum (xorL (xorL l m) n) = sum l ^^^ sum m ^^^ sum n := by
  unfold sum
  have hl : (xorL l m).length = n.length := by simp [xorL, ← h1, h2]
  have e := run_xor n (4294967295 ^^^ 4294967295) 4294967295 hl
  rw [run_xor m _ _ h1] at e
  rw [show (4294967295 ^^^ 4294967295 ^^^ 4294967295 : Nat) = 4294967295 from by decide] at e
  rw [e]
  have : ∀ a b c F : Nat, a ^^^ b ^^^ c ^^^ F = a ^^^ F ^^^ (b ^^^ F) ^^^ (c ^^^ F) := by
    intro a b c F
    have e1 : a ^^^ F ^^^ (b ^^^ F) ^^^ (c ^^^ F) = a ^^^ b ^^^ c ^^^ F ^^^ (F ^^^ F) := by ac_rfl
    rw [e1, Nat.xor_self, Nat.xor_zero]
  exact this _ _ _ _
theorem sum_nine : sum [49, 50, 51, 52, 53, 54, 55, 56, 57] = 3421780262 := by decide +kernel
end Crc
end Go.Proofs.YtpckdjapkngpgaaDoor
