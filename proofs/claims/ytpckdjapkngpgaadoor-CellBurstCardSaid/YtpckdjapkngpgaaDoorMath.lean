/-
  The plain mathematics of the field of 256 elements over natural numbers: tables of powers of 3 and of logarithms, products by the tables, products bit by bit, and that both are one; sums, products, inverses and powers obey the laws of a field. Conditions: every element is below 256.
-/
namespace Go.Proofs.YtpckdjapkngpgaaDoor.M

/-- All 255 powers of 3, a byte each, the first one lowest. -/
def expBig : Nat := 121466575815500734415996836054882879791832871126464106601702187317037704638720699736399773789881350966450612456712855012027411276600174289287471020404625812305602624065235109912861702064162581238381248958448422203687095403783548669481020115429473714815130546491650907227391014769411226625179674495964331439187933946584331397333639979447433688574122779091165484305754955373075414835846686739481168846087332879005575464100018941681806164995707250399423063311368515928344698269234575261926727907427524598329539937222090466892085999338983806607642276495436692919915470849325341672618663070658392065151738926641076044545
/-- All 256 logarithms, a byte each, that of 0 (which is none) lowest. -/
def logBig : Nat := 939374623831894136699086600277250597547650664638770418422125146541797353646788332867483593573384618611044815625336497665827114626705134492515730415652478061620339993830966980270842846318821775850471098591710629241171812800746666233448222972174585295916389942636813666312872914849454985560152530477328703759683306625234997237483834721220409437442253146756845415190424543171129629468776480674528486868811725071010351012234056630775688111116293610821126543142160426617079940511630006820862697466582575257349116925728488930366609138264019883664906661504235885380294353134295748489096855100647154935187045898006656778240
def exN (i : Nat) : Nat := expBig / 2 ^ (8 * i) % 256
def lgN (x : Nat) : Nat := logBig / 2 ^ (8 * x) % 256
def tripleN (a : Nat) : Nat := (a * 2 % 256 ^^^ (if 128 ≤ a then 27 else 0)) ^^^ a
def mulN (a b : Nat) : Nat := if a = 0 ∨ b = 0 then 0 else exN ((lgN a + lgN b) % 255)
def invN (a : Nat) : Nat := if a = 0 then 0 else exN ((255 - lgN a) % 255)

/-- The first loop of the product bit by bit, k rounds of it. -/
def carry (a b : Nat) : Nat → Nat
  | 0 => 0
  | k + 1 => carry a b k ^^^ (if b.testBit k then a * 2 ^ k else 0)
/-- The second loop, k rounds of it, at bits 15, 14 .. -/
def cutDown (p : Nat) : Nat → Nat
  | 0 => p
  | k + 1 => cutDown p k ^^^ (if (cutDown p k).testBit (15 - k) then 283 * 2 ^ (7 - k) else 0)
def refMulN (a b : Nat) : Nat := cutDown (carry a b 8) 8 % 256

/-- A property of all numbers below n, as a Bool. -/
def allBelow (n : Nat) (p : Nat → Bool) : Bool := (List.range n).all p
theorem allBelow_at {n : Nat} {p : Nat → Bool} (h : allBelow n p = true) (i : Nat) (hi : i < n) : p i = true := by
  have := List.all_eq_true.1 h i (List.mem_range.2 hi)
  exact this

theorem exN_lt (i : Nat) : exN i < 256 := Nat.mod_lt _ (by decide)
theorem lgN_lt (i : Nat) : lgN i < 256 := Nat.mod_lt _ (by decide)

theorem step_chk : allBelow 254 (fun i => exN (i + 1) == tripleN (exN i)) = true := by decide +kernel
theorem exN_zero : exN 0 = 1 := by decide +kernel
theorem exN_last : tripleN (exN 254) = exN 0 := by decide +kernel
theorem exN_succ (i : Nat) (h : i < 254) : exN (i + 1) = tripleN (exN i) := by simpa using allBelow_at step_chk i h
theorem lg_ex_chk : allBelow 255 (fun i => lgN (exN i) == i && exN i != 0) = true := by decide +kernel
theorem lg_ex (i : Nat) (h : i < 255) : lgN (exN i) = i ∧ exN i ≠ 0 := by simpa using allBelow_at lg_ex_chk i h
theorem ex_lg_chk : allBelow 256 (fun x => x == 0 || (exN (lgN x) == x && decide (lgN x < 255))) = true := by decide +kernel
theorem ex_lg (x : Nat) (h : x < 256) (h0 : x ≠ 0) : exN (lgN x) = x ∧ lgN x < 255 := by
  have := allBelow_at ex_lg_chk x h
  simp [h0] at this
  exact this
theorem lgN_zero : lgN 0 = 0 := by decide +kernel

/-! ### Linear maps of bytes -/
structure Lin (f : Nat → Nat) : Prop where
  zero : f 0 = 0
  add : ∀ x y, x < 256 → y < 256 → f (x ^^^ y) = f x ^^^ f y

theorem xor_lt {x y : Nat} (hx : x < 256) (hy : y < 256) : x ^^^ y < 256 := Nat.xor_lt_two_pow (n := 8) hx hy

theorem top_chk : allBelow 256 (fun x => x == 0 || (decide (x ^^^ 2 ^ x.log2 < x) && decide (x.log2 < 8))) = true := by decide +kernel
theorem lin_ext {f g : Nat → Nat} (hf : Lin f) (hg : Lin g) (h : ∀ k, k < 8 → f (2 ^ k) = g (2 ^ k)) : ∀ x, x < 256 → f x = g x := by
  intro x
  induction x using Nat.strongRecOn with
  | _ x ih =>
    intro hx
    by_cases h0 : x = 0
    · subst h0
      rw [hf.zero, hg.zero]
    · have ht := allBelow_at top_chk x hx
      simp [h0] at ht
      obtain ⟨h1, h2⟩ := ht
      have hp : 2 ^ x.log2 < 256 := Nat.pow_lt_pow_right (a := 2) (m := x.log2) (n := 8) (by decide) h2
      have e : x = (x ^^^ 2 ^ x.log2) ^^^ 2 ^ x.log2 := by rw [Nat.xor_assoc, Nat.xor_self, Nat.xor_zero]
      have i1 := ih _ h1 (Nat.lt_trans h1 hx)
      rw [e, hf.add _ _ (Nat.lt_trans h1 hx) hp, hg.add _ _ (Nat.lt_trans h1 hx) hp, i1, h _ h2]

theorem sel_xor (x y : Bool) (m : Nat) : (if (x ^^ y) = true then m else 0) = (if x = true then m else 0) ^^^ (if y = true then m else 0) := by
  cases x <;> cases y <;> simp

theorem xor4 (p q r s : Nat) : (p ^^^ q) ^^^ (r ^^^ s) = (p ^^^ r) ^^^ (q ^^^ s) := by
  rw [Nat.xor_assoc, ← Nat.xor_assoc q r s, Nat.xor_comm q r, Nat.xor_assoc r q s, ← Nat.xor_assoc]

theorem cutDown_xor (p q : Nat) : ∀ k, cutDown (p ^^^ q) k = cutDown p k ^^^ cutDown q k
  | 0 => rfl
  | k + 1 => by
    simp only [cutDown]
    rw [cutDown_xor p q k, Nat.testBit_xor, sel_xor, xor4]
theorem cutDown_zero : ∀ k, cutDown 0 k = 0
  | 0 => rfl
  | k + 1 => by
    simp only [cutDown]
    rw [cutDown_zero k]
    simp
theorem carry_xor_right (a b c : Nat) : ∀ k, carry a (b ^^^ c) k = carry a b k ^^^ carry a c k
  | 0 => by simp [carry]
  | k + 1 => by
    simp only [carry]
    rw [carry_xor_right a b c k, Nat.testBit_xor, sel_xor, xor4]
theorem mul_pow_xor (a b k : Nat) : (a ^^^ b) * 2 ^ k = a * 2 ^ k ^^^ b * 2 ^ k := by
  rw [← Nat.shiftLeft_eq, ← Nat.shiftLeft_eq, ← Nat.shiftLeft_eq, Nat.shiftLeft_xor_distrib]
theorem carry_xor_left (a b c : Nat) : ∀ k, carry (a ^^^ b) c k = carry a c k ^^^ carry b c k
  | 0 => by simp [carry]
  | k + 1 => by
    simp only [carry]
    rw [carry_xor_left a b c k, xor4]
    cases c.testBit k with
    | false => simp
    | true => simp [mul_pow_xor]
theorem mod_xor (p q : Nat) : (p ^^^ q) % 256 = p % 256 ^^^ q % 256 := Nat.xor_mod_two_pow (a := p) (b := q) (n := 8)

theorem refMul_lin_right (a : Nat) : Lin (refMulN a) where
  zero := by
    have h : ∀ k, carry a 0 k = 0 := by
      intro k
      induction k with
      | zero => rfl
      | succ k ih => simp [carry, ih]
    simp [refMulN, h, cutDown_zero]
  add x y _ _ := by
    unfold refMulN
    rw [carry_xor_right, cutDown_xor, mod_xor]
theorem refMul_lin_left (b : Nat) : Lin (fun a => refMulN a b) where
  zero := by
    have h : ∀ k, carry 0 b k = 0 := by
      intro k
      induction k with
      | zero => rfl
      | succ k ih => simp [carry, ih]
    simp [refMulN, h, cutDown_zero]
  add x y _ _ := by
    unfold refMulN
    rw [carry_xor_left, cutDown_xor, mod_xor]

theorem big_chk : allBelow 256 (fun x => decide (tripleN x < 256) && decide ((128 ≤ x) ↔ x.testBit 7)) = true := by decide +kernel
theorem tripleN_lt (x : Nat) (h : x < 256) : tripleN x < 256 := by
  have := allBelow_at big_chk x h
  simp only [Bool.and_eq_true, decide_eq_true_eq] at this
  exact this.1
theorem top_bit (x : Nat) (h : x < 256) : (128 ≤ x) ↔ x.testBit 7 = true := by
  have := allBelow_at big_chk x h
  simp only [Bool.and_eq_true, decide_eq_true_eq] at this
  exact this.2
theorem tripleN_eq (x : Nat) (h : x < 256) : tripleN x = (x * 2 % 256 ^^^ (if x.testBit 7 = true then 27 else 0)) ^^^ x := by
  unfold tripleN
  by_cases h7 : 128 ≤ x
  · rw [if_pos h7, if_pos ((top_bit x h).1 h7)]
  · rw [if_neg h7, if_neg (fun e => h7 ((top_bit x h).2 e))]
theorem triple_lin : Lin tripleN where
  zero := by decide
  add x y hx hy := by
    rw [tripleN_eq x hx, tripleN_eq y hy, tripleN_eq _ (xor_lt hx hy), Nat.testBit_xor, sel_xor]
    have e : (x ^^^ y) * 2 = x * 2 ^^^ y * 2 := mul_pow_xor x y 1
    rw [e, mod_xor, xor4 (x * 2 % 256) (y * 2 % 256), xor4]

/-- To triple n times. -/
def triples : Nat → Nat → Nat
  | 0, x => x
  | n + 1, x => tripleN (triples n x)
theorem triples_lt (n x : Nat) (h : x < 256) : triples n x < 256 := by
  induction n with
  | zero => exact h
  | succ n ih => exact tripleN_lt _ ih
theorem triples_lin : ∀ n, Lin (triples n)
  | 0 => ⟨rfl, fun _ _ _ _ => rfl⟩
  | n + 1 => ⟨by simp [triples, (triples_lin n).zero, triple_lin.zero], fun x y hx hy => by
      simp only [triples]
      rw [(triples_lin n).add x y hx hy, triple_lin.add _ _ (triples_lt n x hx) (triples_lt n y hy)]⟩
theorem triple_ex (i : Nat) (h : i < 255) : tripleN (exN i) = exN ((i + 1) % 255) := by
  by_cases h1 : i = 254
  · subst h1
    exact exN_last
  · rw [Nat.mod_eq_of_lt (by omega), exN_succ i (by omega)]
theorem triples_ex (n i : Nat) (h : i < 255) : triples n (exN i) = exN ((n + i) % 255) := by
  induction n with
  | zero => rw [Nat.zero_add, Nat.mod_eq_of_lt h]; rfl
  | succ n ih =>
    simp only [triples]
    rw [ih, triple_ex _ (Nat.mod_lt _ (by decide))]
    congr 1
    omega
theorem mulN_triples (a b : Nat) (hb : b < 256) (ha : a ≠ 0) : mulN a b = triples (lgN a) b := by
  unfold mulN
  by_cases h0 : b = 0
  · subst h0
    simp [(triples_lin _).zero]
  · rw [if_neg (by simp [ha, h0])]
    obtain ⟨h1, h2⟩ := ex_lg b hb h0
    conv => rhs; rw [← h1]
    rw [triples_ex _ _ h2]
theorem mulN_zero_left (b : Nat) : mulN 0 b = 0 := by simp [mulN]
theorem mulN_zero_right (a : Nat) : mulN a 0 = 0 := by simp [mulN]
theorem mulN_comm (a b : Nat) : mulN a b = mulN b a := by
  unfold mulN
  rw [Nat.add_comm (lgN a)]
  by_cases h : a = 0 ∨ b = 0
  · rw [if_pos h, if_pos h.symm]
  · rw [if_neg h, if_neg (fun e => h e.symm)]
theorem mulN_lin (a : Nat) : Lin (mulN a) where
  zero := mulN_zero_right a
  add x y hx hy := by
    by_cases ha : a = 0
    · subst ha
      simp [mulN_zero_left]
    · rw [mulN_triples a x hx ha, mulN_triples a y hy ha, mulN_triples a _ (xor_lt hx hy) ha, (triples_lin _).add x y hx hy]
theorem mulN_lin_left (b : Nat) : Lin (fun a => mulN a b) where
  zero := mulN_zero_left b
  add x y hx hy := by
    show mulN (x ^^^ y) b = mulN x b ^^^ mulN y b
    rw [mulN_comm _ b, mulN_comm x, mulN_comm y, (mulN_lin b).add x y hx hy]

theorem base_chk : allBelow 8 (fun j => allBelow 8 fun k => refMulN (2 ^ j) (2 ^ k) == mulN (2 ^ j) (2 ^ k)) = true := by decide +kernel
theorem refMulN_eq (a b : Nat) (ha : a < 256) (hb : b < 256) : refMulN a b = mulN a b := by
  refine lin_ext (refMul_lin_right a) (mulN_lin a) (fun k hk => ?_) b hb
  refine lin_ext (refMul_lin_left (2 ^ k)) (mulN_lin_left (2 ^ k)) (fun j hj => ?_) a ha
  simpa using allBelow_at (allBelow_at base_chk j hj) k hk

/-! ### The field's laws -/
theorem mulN_lt (a b : Nat) : mulN a b < 256 := by
  unfold mulN
  split
  · decide
  · exact exN_lt _
theorem mulN_ne (a b : Nat) (ha : a ≠ 0) (hb : b ≠ 0) : mulN a b ≠ 0 := by
  unfold mulN
  rw [if_neg (by simp [ha, hb])]
  exact (lg_ex _ (Nat.mod_lt _ (by decide))).2
theorem lg_mul (a b : Nat) (ha : a ≠ 0) (hb : b ≠ 0) : lgN (mulN a b) = (lgN a + lgN b) % 255 := by
  unfold mulN
  rw [if_neg (by simp [ha, hb])]
  exact (lg_ex _ (Nat.mod_lt _ (by decide))).1
theorem mulN_nz (a b : Nat) (ha : a ≠ 0) (hb : b ≠ 0) : mulN a b = exN ((lgN a + lgN b) % 255) := by
  unfold mulN
  rw [if_neg (by simp [ha, hb])]
theorem mulN_assoc (a b c : Nat) : mulN (mulN a b) c = mulN a (mulN b c) := by
  by_cases ha : a = 0
  · subst ha; simp [mulN_zero_left]
  by_cases hb : b = 0
  · subst hb; simp [mulN_zero_left, mulN_zero_right]
  by_cases hc : c = 0
  · subst hc; simp [mulN_zero_right]
  rw [mulN_nz _ c (mulN_ne a b ha hb) hc, mulN_nz a _ ha (mulN_ne b c hb hc), lg_mul a b ha hb, lg_mul b c hb hc]
  congr 1
  omega
theorem mulN_xor (a b c : Nat) (hb : b < 256) (hc : c < 256) : mulN a (b ^^^ c) = mulN a b ^^^ mulN a c := (mulN_lin a).add b c hb hc
theorem one_chk : lgN 1 = 0 := by decide +kernel
theorem mulN_one (a : Nat) (h : a < 256) : mulN a 1 = a := by
  by_cases h0 : a = 0
  · subst h0; exact mulN_zero_left 1
  · unfold mulN
    obtain ⟨h1, h2⟩ := ex_lg a h h0
    rw [if_neg (by simp [h0]), one_chk, Nat.add_zero, Nat.mod_eq_of_lt h2, h1]
theorem mulN_eq_zero (a b : Nat) : mulN a b = 0 ↔ a = 0 ∨ b = 0 := by
  constructor
  · intro h
    by_cases ha : a = 0
    · exact Or.inl ha
    by_cases hb : b = 0
    · exact Or.inr hb
    exact absurd h (mulN_ne a b ha hb)
  · rintro (h | h)
    · subst h; exact mulN_zero_left b
    · subst h; exact mulN_zero_right a
theorem invN_lt (a : Nat) : invN a < 256 := by
  unfold invN
  split
  · decide
  · exact exN_lt _
theorem invN_zero : invN 0 = 0 := rfl
theorem invN_ne (a : Nat) (h : a ≠ 0) : invN a ≠ 0 := by
  unfold invN
  rw [if_neg h]
  exact (lg_ex _ (Nat.mod_lt _ (by decide))).2
theorem lg_inv (a : Nat) (h : a ≠ 0) : lgN (invN a) = (255 - lgN a) % 255 := by
  unfold invN
  rw [if_neg h]
  exact (lg_ex _ (Nat.mod_lt _ (by decide))).1
theorem mulN_inv (a : Nat) (h : a < 256) (h0 : a ≠ 0) : mulN a (invN a) = 1 := by
  have h2 := (ex_lg a h h0).2
  unfold mulN
  rw [if_neg (by simp [h0, invN_ne a h0]), lg_inv a h0, ← exN_zero]
  congr 1
  omega
theorem inv_unique (a b : Nat) (ha : a < 256) (hb : b < 256) (h : mulN a b = 1) : b = invN a := by
  have h0 : a ≠ 0 := by
    intro e
    subst e
    rw [mulN_zero_left] at h
    exact absurd h (by decide)
  have e : mulN (invN a) (mulN a b) = b := by
    rw [← mulN_assoc, mulN_comm (invN a) a, mulN_inv a ha h0, mulN_comm 1 b, mulN_one b hb]
  rw [h, mulN_one _ (invN_lt a)] at e
  exact e.symm
theorem inv_inv (a : Nat) (h : a < 256) : invN (invN a) = a := by
  by_cases h0 : a = 0
  · subst h0; rfl
  · exact (inv_unique (invN a) a (invN_lt a) h (by rw [mulN_comm, mulN_inv a h h0])).symm
theorem div_back (a b : Nat) (ha : a < 256) (hb : b < 256) (h0 : b ≠ 0) : mulN (mulN a (invN b)) b = a := by
  rw [mulN_assoc, mulN_comm (invN b) b, mulN_inv b hb h0, mulN_one a ha]

/-! ### Squares -/
def sqs : Nat → Nat → Nat
  | 0, x => x
  | n + 1, x => mulN (sqs n x) (sqs n x)
theorem sqs_chk : allBelow 256 (fun x => sqs 8 x == x && sqs 7 (mulN x x) == x) = true := by decide +kernel
theorem sqs_eight (x : Nat) (h : x < 256) : sqs 8 x = x := by
  have := allBelow_at sqs_chk x h
  simp only [Bool.and_eq_true, beq_iff_eq] at this
  exact this.1
theorem sq_inj (x y : Nat) (hx : x < 256) (hy : y < 256) (h : mulN x x = mulN y y) : x = y := by
  have h1 := allBelow_at sqs_chk x hx
  have h2 := allBelow_at sqs_chk y hy
  simp only [Bool.and_eq_true, beq_iff_eq] at h1 h2
  rw [← h1.2, ← h2.2, h]
theorem sq_xor (a b : Nat) (ha : a < 256) (hb : b < 256) : mulN (a ^^^ b) (a ^^^ b) = mulN a a ^^^ mulN b b := by
  rw [mulN_xor _ a b ha hb, mulN_comm _ a, mulN_comm _ b, mulN_xor a a b ha hb, mulN_xor b a b ha hb, mulN_comm b a,
    Nat.xor_assoc, ← Nat.xor_assoc (mulN a b) (mulN a b), Nat.xor_self, Nat.zero_xor]

/-! ### Powers -/
theorem mul_ex (i j : Nat) (hi : i < 255) (hj : j < 255) : mulN (exN i) (exN j) = exN ((i + j) % 255) := by
  obtain ⟨h1, h2⟩ := lg_ex i hi
  obtain ⟨h3, h4⟩ := lg_ex j hj
  unfold mulN
  rw [if_neg (by simp [h2, h4]), h1, h3]
theorem ex_one : exN 1 = 3 := by decide +kernel
theorem ex_three (i : Nat) (hi : i < 255) : mulN (exN i) 3 = exN ((i + 1) % 255) := by
  rw [← ex_one]
  exact mul_ex i 1 hi (by decide)
theorem ex_inj (i j : Nat) (hi : i < 255) (hj : j < 255) (h : exN i = exN j) : i = j := by
  rw [← (lg_ex i hi).1, ← (lg_ex j hj).1, h]
end Go.Proofs.YtpckdjapkngpgaaDoor.M
