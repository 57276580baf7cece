/-
  Texts laid behind one another: Math Fld Log New Fun Ops Ref.
-/
import Derived.Test.YtmbikmlknbinpaaProg
import Derived.KernelRfl
import Derived.WalkKit
import Derived.WalkSpells
import Derived.WalkLawsBesides
import Derived.ScopeJumps
import Derived.Below
import Derived.Outline
import Derived.Lib.Hide
import Derived.Deep.WholeRow
import Derived.Deep.MidRow
import Derived.Deep.RegionHeld3
import Derived.Deep.QuietTactic
import Derived.BigQuiet
namespace Go.Proofs.Ytmbikmlknbinpaa.M

/-- All 255 powers of 3, a byte each, the first one lowest. -/
def expBig : Nat := 121466575815500734415996836054882879791832871126464106601702187317037704638720699736399773789881350966450612456712855012027411276600174289287471020404625812305602624065235109912861702064162581238381248958448422203687095403783548669481020115429473714815130546491650907227391014769411226625179674495964331439187933946584331397333639979447433688574122779091165484305754955373075414835846686739481168846087332879005575464100018941681806164995707250399423063311368515928344698269234575261926727907427524598329539937222090466892085999338983806607642276495436692919915470849325341672618663070658392065151738926641076044545
/-- All 256 logarithms, a byte each, that of 0 (which is none) lowest. -/
def logBig : Nat := 939374623831894136699086600277250597547650664638770418422125146541797353646788332867483593573384618611044815625336497665827114626705134492515730415652478061620339993830966980270842846318821775850471098591710629241171812800746666233448222972174585295916389942636813666312872914849454985560152530477328703759683306625234997237483834721220409437442253146756845415190424543171129629468776480674528486868811725071010351012234056630775688111116293610821126543142160426617079940511630006820862697466582575257349116925728488930366609138264019883664906661504235885380294353134295748489096855100647154935187045898006656778240
def exN (i : Nat) : Nat := expBig / 2 ^ (8 * i) % 256
def lgN (x : Nat) : Nat := logBig / 2 ^ (8 * x) % 256
def tripleN (a : Nat) : Nat := (a * 2 % 256 ^^^ (if 128 ≤ a then 27 else 0)) ^^^ a
def mulN (a b : Nat) : Nat := if a = 0 ∨ b = 0 then 0 else exN ((lgN a + lgN b) % 255)
def invN (a : Nat) : Nat := if a = 0 then 0 else exN ((255 - lgN a) % 255)

/-- The first loop of the product bit by bit, k rounds of it. -/
def carry (a b : Nat) : Nat → Nat
  | 0 => 0
  | k + 1 => carry a b k ^^^ (if b.testBit k then a * 2 ^ k else 0)
/-- The second loop, k rounds of it, at bits 15, 14 .. -/
def cutDown (p : Nat) : Nat → Nat
  | 0 => p
  | k + 1 => cutDown p k ^^^ (if (cutDown p k).testBit (15 - k) then 283 * 2 ^ (7 - k) else 0)
def refMulN (a b : Nat) : Nat := cutDown (carry a b 8) 8 % 256

/-- A property of all numbers below n, as a Bool. -/
def allBelow (n : Nat) (p : Nat → Bool) : Bool := (List.range n).all p
theorem allBelow_at {n : Nat} {p : Nat → Bool} (h : allBelow n p = true) (i : Nat) (hi : i < n) : p i = true := by
  have := List.all_eq_true.1 h i (List.mem_range.2 hi)
  exact this

theorem exN_lt (i : Nat) : exN i < 256 := Nat.mod_lt _ (by decide)
theorem lgN_lt (i : Nat) : lgN i < 256 := Nat.mod_lt _ (by decide)

theorem step_chk : allBelow 254 (fun i => exN (i + 1) == tripleN (exN i)) = true := by decide +kernel
theorem exN_zero : exN 0 = 1 := by decide +kernel
theorem exN_last : tripleN (exN 254) = exN 0 := by decide +kernel
theorem exN_succ (i : Nat) (h : i < 254) : exN (i + 1) = tripleN (exN i) := by simpa using allBelow_at step_chk i h
theorem lg_ex_chk : allBelow 255 (fun i => lgN (exN i) == i && exN i != 0) = true := by decide +kernel
theorem lg_ex (i : Nat) (h : i < 255) : lgN (exN i) = i ∧ exN i ≠ 0 := by simpa using allBelow_at lg_ex_chk i h
theorem ex_lg_chk : allBelow 256 (fun x => x == 0 || (exN (lgN x) == x && decide (lgN x < 255))) = true := by decide +kernel
theorem ex_lg (x : Nat) (h : x < 256) (h0 : x ≠ 0) : exN (lgN x) = x ∧ lgN x < 255 := by
  have := allBelow_at ex_lg_chk x h
  simp [h0] at this
  exact this
theorem lgN_zero : lgN 0 = 0 := by decide +kernel

/-! ### Linear maps of bytes -/
structure Lin (f : Nat → Nat) : Prop where
  zero : f 0 = 0
  add : ∀ x y, x < 256 → y < 256 → f (x ^^^ y) = f x ^^^ f y

theorem xor_lt {x y : Nat} (hx : x < 256) (hy : y < 256) : x ^^^ y < 256 := Nat.xor_lt_two_pow (n := 8) hx hy

theorem top_chk : allBelow 256 (fun x => x == 0 || (decide (x ^^^ 2 ^ x.log2 < x) && decide (x.log2 < 8))) = true := by decide +kernel
theorem lin_ext {f g : Nat → Nat} (hf : Lin f) (hg : Lin g) (h : ∀ k, k < 8 → f (2 ^ k) = g (2 ^ k)) : ∀ x, x < 256 → f x = g x := by
  intro x
  induction x using Nat.strongRecOn with
  | _ x ih =>
    intro hx
    by_cases h0 : x = 0
    · subst h0
      rw [hf.zero, hg.zero]
    · have ht := allBelow_at top_chk x hx
      simp [h0] at ht
      obtain ⟨h1, h2⟩ := ht
      have hp : 2 ^ x.log2 < 256 := Nat.pow_lt_pow_right (a := 2) (m := x.log2) (n := 8) (by decide) h2
      have e : x = (x ^^^ 2 ^ x.log2) ^^^ 2 ^ x.log2 := by rw [Nat.xor_assoc, Nat.xor_self, Nat.xor_zero]
      have i1 := ih _ h1 (Nat.lt_trans h1 hx)
      rw [e, hf.add _ _ (Nat.lt_trans h1 hx) hp, hg.add _ _ (Nat.lt_trans h1 hx) hp, i1, h _ h2]

theorem sel_xor (x y : Bool) (m : Nat) : (if (x ^^ y) = true then m else 0) = (if x = true then m else 0) ^^^ (if y = true then m else 0) := by
  cases x <;> cases y <;> simp

theorem xor4 (p q r s : Nat) : (p ^^^ q) ^^^ (r ^^^ s) = (p ^^^ r) ^^^ (q ^^^ s) := by
  rw [Nat.xor_assoc, ← Nat.xor_assoc q r s, Nat.xor_comm q r, Nat.xor_assoc r q s, ← Nat.xor_assoc]

theorem cutDown_xor (p q : Nat) : ∀ k, cutDown (p ^^^ q) k = cutDown p k ^^^ cutDown q k
  | 0 => rfl
  | k + 1 => by
    simp only [cutDown]
    rw [cutDown_xor p q k, Nat.testBit_xor, sel_xor, xor4]
theorem cutDown_zero : ∀ k, cutDown 0 k = 0
  | 0 => rfl
  | k + 1 => by
    simp only [cutDown]
    rw [cutDown_zero k]
    simp
theorem carry_xor_right (a b c : Nat) : ∀ k, carry a (b ^^^ c) k = carry a b k ^^^ carry a c k
  | 0 => by simp [carry]
  | k + 1 => by
    simp only [carry]
    rw [carry_xor_right a b c k, Nat.testBit_xor, sel_xor, xor4]
theorem mul_pow_xor (a b k : Nat) : (a ^^^ b) * 2 ^ k = a * 2 ^ k ^^^ b * 2 ^ k := by
  rw [← Nat.shiftLeft_eq, ← Nat.shiftLeft_eq, ← Nat.shiftLeft_eq, Nat.shiftLeft_xor_distrib]
theorem carry_xor_left (a b c : Nat) : ∀ k, carry (a ^^^ b) c k = carry a c k ^^^ carry b c k
  | 0 => by simp [carry]
  | k + 1 => by
    simp only [carry]
    rw [carry_xor_left a b c k, xor4]
    cases c.testBit k with
    | false => simp
    | true => simp [mul_pow_xor]
theorem mod_xor (p q : Nat) : (p ^^^ q) % 256 = p % 256 ^^^ q % 256 := Nat.xor_mod_two_pow (a := p) (b := q) (n := 8)

theorem refMul_lin_right (a : Nat) : Lin (refMulN a) where
  zero := by
    have h : ∀ k, carry a 0 k = 0 := by
      intro k
      induction k with
      | zero => rfl
      | succ k ih => simp [carry, ih]
    simp [refMulN, h, cutDown_zero]
  add x y _ _ := by
    unfold refMulN
    rw [carry_xor_right, cutDown_xor, mod_xor]
theorem refMul_lin_left (b : Nat) : Lin (fun a => refMulN a b) where
  zero := by
    have h : ∀ k, carry 0 b k = 0 := by
      intro k
      induction k with
      | zero => rfl
      | succ k ih => simp [carry, ih]
    simp [refMulN, h, cutDown_zero]
  add x y _ _ := by
    unfold refMulN
    rw [carry_xor_left, cutDown_xor, mod_xor]

theorem big_chk : allBelow 256 (fun x => decide (tripleN x < 256) && decide ((128 ≤ x) ↔ x.testBit 7)) = true := by decide +kernel
theorem tripleN_lt (x : Nat) (h : x < 256) : tripleN x < 256 := by
  have := allBelow_at big_chk x h
  simp only [Bool.and_eq_true, decide_eq_true_eq] at this
  exact this.1
theorem top_bit (x : Nat) (h : x < 256) : (128 ≤ x) ↔ x.testBit 7 = true := by
  have := allBelow_at big_chk x h
  simp only [Bool.and_eq_true, decide_eq_true_eq] at this
  exact this.2
theorem tripleN_eq (x : Nat) (h : x < 256) : tripleN x = (x * 2 % 256 ^^^ (if x.testBit 7 = true then 27 else 0)) ^^^ x := by
  unfold tripleN
  by_cases h7 : 128 ≤ x
  · rw [if_pos h7, if_pos ((top_bit x h).1 h7)]
  · rw [if_neg h7, if_neg (fun e => h7 ((top_bit x h).2 e))]
theorem triple_lin : Lin tripleN where
  zero := by decide
  add x y hx hy := by
    rw [tripleN_eq x hx, tripleN_eq y hy, tripleN_eq _ (xor_lt hx hy), Nat.testBit_xor, sel_xor]
    have e : (x ^^^ y) * 2 = x * 2 ^^^ y * 2 := mul_pow_xor x y 1
    rw [e, mod_xor, xor4 (x * 2 % 256) (y * 2 % 256), xor4]

/-- To triple n times. -/
def triples : Nat → Nat → Nat
  | 0, x => x
  | n + 1, x => tripleN (triples n x)
theorem triples_lt (n x : Nat) (h : x < 256) : triples n x < 256 := by
  induction n with
  | zero => exact h
  | succ n ih => exact tripleN_lt _ ih
theorem triples_lin : ∀ n, Lin (triples n)
  | 0 => ⟨rfl, fun _ _ _ _ => rfl⟩
  | n + 1 => ⟨by simp [triples, (triples_lin n).zero, triple_lin.zero], fun x y hx hy => by
      simp only [triples]
      rw [(triples_lin n).add x y hx hy, triple_lin.add _ _ (triples_lt n x hx) (triples_lt n y hy)]⟩
theorem triple_ex (i : Nat) (h : i < 255) : tripleN (exN i) = exN ((i + 1) % 255) := by
  by_cases h1 : i = 254
  · subst h1
    exact exN_last
  · rw [Nat.mod_eq_of_lt (by omega), exN_succ i (by omega)]
theorem triples_ex (n i : Nat) (h : i < 255) : triples n (exN i) = exN ((n + i) % 255) := by
  induction n with
  | zero => rw [Nat.zero_add, Nat.mod_eq_of_lt h]; rfl
  | succ n ih =>
    simp only [triples]
    rw [ih, triple_ex _ (Nat.mod_lt _ (by decide))]
    congr 1
    omega
theorem mulN_triples (a b : Nat) (hb : b < 256) (ha : a ≠ 0) : mulN a b = triples (lgN a) b := by
  unfold mulN
  by_cases h0 : b = 0
  · subst h0
    simp [(triples_lin _).zero]
  · rw [if_neg (by simp [ha, h0])]
    obtain ⟨h1, h2⟩ := ex_lg b hb h0
    conv => rhs; rw [← h1]
    rw [triples_ex _ _ h2]
theorem mulN_zero_left (b : Nat) : mulN 0 b = 0 := by simp [mulN]
theorem mulN_zero_right (a : Nat) : mulN a 0 = 0 := by simp [mulN]
theorem mulN_comm (a b : Nat) : mulN a b = mulN b a := by
  unfold mulN
  rw [Nat.add_comm (lgN a)]
  by_cases h : a = 0 ∨ b = 0
  · rw [if_pos h, if_pos h.symm]
  · rw [if_neg h, if_neg (fun e => h e.symm)]
theorem mulN_lin (a : Nat) : Lin (mulN a) where
  zero := mulN_zero_right a
  add x y hx hy := by
    by_cases ha : a = 0
    · subst ha
      simp [mulN_zero_left]
    · rw [mulN_triples a x hx ha, mulN_triples a y hy ha, mulN_triples a _ (xor_lt hx hy) ha, (triples_lin _).add x y hx hy]
theorem mulN_lin_left (b : Nat) : Lin (fun a => mulN a b) where
  zero := mulN_zero_left b
  add x y hx hy := by
    show mulN (x ^^^ y) b = mulN x b ^^^ mulN y b
    rw [mulN_comm _ b, mulN_comm x, mulN_comm y, (mulN_lin b).add x y hx hy]

theorem base_chk : allBelow 8 (fun j => allBelow 8 fun k => refMulN (2 ^ j) (2 ^ k) == mulN (2 ^ j) (2 ^ k)) = true := by decide +kernel
theorem refMulN_eq (a b : Nat) (ha : a < 256) (hb : b < 256) : refMulN a b = mulN a b := by
  refine lin_ext (refMul_lin_right a) (mulN_lin a) (fun k hk => ?_) b hb
  refine lin_ext (refMul_lin_left (2 ^ k)) (mulN_lin_left (2 ^ k)) (fun j hj => ?_) a ha
  simpa using allBelow_at (allBelow_at base_chk j hj) k hk

/-! ### The field's laws -/
theorem mulN_lt (a b : Nat) : mulN a b < 256 := by
  unfold mulN
  split
  · decide
  · exact exN_lt _
theorem mulN_ne (a b : Nat) (ha : a ≠ 0) (hb : b ≠ 0) : mulN a b ≠ 0 := by
  unfold mulN
  rw [if_neg (by simp [ha, hb])]
  exact (lg_ex _ (Nat.mod_lt _ (by decide))).2
theorem lg_mul (a b : Nat) (ha : a ≠ 0) (hb : b ≠ 0) : lgN (mulN a b) = (lgN a + lgN b) % 255 := by
  unfold mulN
  rw [if_neg (by simp [ha, hb])]
  exact (lg_ex _ (Nat.mod_lt _ (by decide))).1
theorem mulN_nz (a b : Nat) (ha : a ≠ 0) (hb : b ≠ 0) : mulN a b = exN ((lgN a + lgN b) % 255) := by
  unfold mulN
  rw [if_neg (by simp [ha, hb])]
theorem mulN_assoc (a b c : Nat) : mulN (mulN a b) c = mulN a (mulN b c) := by
  by_cases ha : a = 0
  · subst ha; simp [mulN_zero_left]
  by_cases hb : b = 0
  · subst hb; simp [mulN_zero_left, mulN_zero_right]
  by_cases hc : c = 0
  · subst hc; simp [mulN_zero_right]
  rw [mulN_nz _ c (mulN_ne a b ha hb) hc, mulN_nz a _ ha (mulN_ne b c hb hc), lg_mul a b ha hb, lg_mul b c hb hc]
  congr 1
  omega
theorem mulN_xor (a b c : Nat) (hb : b < 256) (hc : c < 256) : mulN a (b ^^^ c) = mulN a b ^^^ mulN a c := (mulN_lin a).add b c hb hc
theorem one_chk : lgN 1 = 0 := by decide +kernel
theorem mulN_one (a : Nat) (h : a < 256) : mulN a 1 = a := by
  by_cases h0 : a = 0
  · subst h0; exact mulN_zero_left 1
  · unfold mulN
    obtain ⟨h1, h2⟩ := ex_lg a h h0
    rw [if_neg (by simp [h0]), one_chk, Nat.add_zero, Nat.mod_eq_of_lt h2, h1]
theorem mulN_eq_zero (a b : Nat) : mulN a b = 0 ↔ a = 0 ∨ b = 0 := by
  constructor
  · intro h
    by_cases ha : a = 0
    · exact Or.inl ha
    by_cases hb : b = 0
    · exact Or.inr hb
    exact absurd h (mulN_ne a b ha hb)
  · rintro (h | h)
    · subst h; exact mulN_zero_left b
    · subst h; exact mulN_zero_right a
theorem invN_lt (a : Nat) : invN a < 256 := by
  unfold invN
  split
  · decide
  · exact exN_lt _
theorem invN_zero : invN 0 = 0 := rfl
theorem invN_ne (a : Nat) (h : a ≠ 0) : invN a ≠ 0 := by
  unfold invN
  rw [if_neg h]
  exact (lg_ex _ (Nat.mod_lt _ (by decide))).2
theorem lg_inv (a : Nat) (h : a ≠ 0) : lgN (invN a) = (255 - lgN a) % 255 := by
  unfold invN
  rw [if_neg h]
  exact (lg_ex _ (Nat.mod_lt _ (by decide))).1
theorem mulN_inv (a : Nat) (h : a < 256) (h0 : a ≠ 0) : mulN a (invN a) = 1 := by
  have h2 := (ex_lg a h h0).2
  unfold mulN
  rw [if_neg (by simp [h0, invN_ne a h0]), lg_inv a h0, ← exN_zero]
  congr 1
  omega
theorem inv_unique (a b : Nat) (ha : a < 256) (hb : b < 256) (h : mulN a b = 1) : b = invN a := by
  have h0 : a ≠ 0 := by
    intro e
    subst e
    rw [mulN_zero_left] at h
    exact absurd h (by decide)
  have e : mulN (invN a) (mulN a b) = b := by
    rw [← mulN_assoc, mulN_comm (invN a) a, mulN_inv a ha h0, mulN_comm 1 b, mulN_one b hb]
  rw [h, mulN_one _ (invN_lt a)] at e
  exact e.symm
theorem inv_inv (a : Nat) (h : a < 256) : invN (invN a) = a := by
  by_cases h0 : a = 0
  · subst h0; rfl
  · exact (inv_unique (invN a) a (invN_lt a) h (by rw [mulN_comm, mulN_inv a h h0])).symm
theorem div_back (a b : Nat) (ha : a < 256) (hb : b < 256) (h0 : b ≠ 0) : mulN (mulN a (invN b)) b = a := by
  rw [mulN_assoc, mulN_comm (invN b) b, mulN_inv b hb h0, mulN_one a ha]

/-! ### Squares -/
def sqs : Nat → Nat → Nat
  | 0, x => x
  | n + 1, x => mulN (sqs n x) (sqs n x)
theorem sqs_chk : allBelow 256 (fun x => sqs 8 x == x && sqs 7 (mulN x x) == x) = true := by decide +kernel
theorem sqs_eight (x : Nat) (h : x < 256) : sqs 8 x = x := by
  have := allBelow_at sqs_chk x h
  simp only [Bool.and_eq_true, beq_iff_eq] at this
  exact this.1
theorem sq_inj (x y : Nat) (hx : x < 256) (hy : y < 256) (h : mulN x x = mulN y y) : x = y := by
  have h1 := allBelow_at sqs_chk x hx
  have h2 := allBelow_at sqs_chk y hy
  simp only [Bool.and_eq_true, beq_iff_eq] at h1 h2
  rw [← h1.2, ← h2.2, h]
theorem sq_xor (a b : Nat) (ha : a < 256) (hb : b < 256) : mulN (a ^^^ b) (a ^^^ b) = mulN a a ^^^ mulN b b := by
  rw [mulN_xor _ a b ha hb, mulN_comm _ a, mulN_comm _ b, mulN_xor a a b ha hb, mulN_xor b a b ha hb, mulN_comm b a,
    Nat.xor_assoc, ← Nat.xor_assoc (mulN a b) (mulN a b), Nat.xor_self, Nat.zero_xor]

/-! ### Powers -/
theorem mul_ex (i j : Nat) (hi : i < 255) (hj : j < 255) : mulN (exN i) (exN j) = exN ((i + j) % 255) := by
  obtain ⟨h1, h2⟩ := lg_ex i hi
  obtain ⟨h3, h4⟩ := lg_ex j hj
  unfold mulN
  rw [if_neg (by simp [h2, h4]), h1, h3]
theorem ex_one : exN 1 = 3 := by decide +kernel
theorem ex_three (i : Nat) (hi : i < 255) : mulN (exN i) 3 = exN ((i + 1) % 255) := by
  rw [← ex_one]
  exact mul_ex i 1 hi (by decide)
theorem ex_inj (i j : Nat) (hi : i < 255) (hj : j < 255) (h : exN i = exN j) : i = j := by
  rw [← (lg_ex i hi).1, ← (lg_ex j hj).1, h]
end Go.Proofs.Ytmbikmlknbinpaa.M
namespace Go.Proofs.Ytmbikmlknbinpaa
open Go.RowKit

def Byt (a : Int) : Prop := 0 ≤ a ∧ a ≤ 255

theorem ret_int {k : IntKind} {a b : Int} (h : a = b) : Ending.returned (.int k a) = .returned (.int k b) := by rw [h]
/-- A row of n bytes: at j what g says of j. -/
def tab (n : Nat) (g : Nat → Nat) : Array Value := ((List.range n).map fun j => Value.int .u8 ((g j : Nat) : Int)).toArray
theorem tab_size (n : Nat) (g : Nat → Nat) : (tab n g).size = n := by simp [tab]
theorem tab_get (n : Nat) (g : Nat → Nat) (j : Nat) (h : j < n) : (tab n g)[j]? = some (.int .u8 ((g j : Nat) : Int)) := by
  simp [tab, h]
theorem tab_congr (n : Nat) (g g' : Nat → Nat) (h : ∀ j, j < n → g j = g' j) : tab n g = tab n g' := by
  unfold tab
  congr 1
  exact List.map_congr_left fun j hj => by rw [h j (List.mem_range.1 hj)]
theorem tab_set (n : Nat) (g : Nat → Nat) (k v : Nat) (h : k < n) : (tab n g).setIfInBounds k (.int .u8 (v : Int)) = tab n (fun j => if j = k then v else g j) := by
  apply Array.ext_getElem?
  intro j
  rw [Array.getElem?_setIfInBounds, tab_size]
  by_cases hj : j < n
  · rw [tab_get n g j hj, tab_get n _ j hj]
    by_cases e : k = j
    · subst e
      simp [h]
    · rw [if_neg e, if_neg (fun x => e x.symm)]
  · have h1 : (tab n g)[j]? = none := by rw [Array.getElem?_eq_none]; rw [tab_size]; omega
    have h2 : (tab n (fun j => if j = k then v else g j))[j]? = none := by rw [Array.getElem?_eq_none]; rw [tab_size]; omega
    rw [if_neg (by omega), h1, h2]
/-- Since w only new memory was made and written: what was there stands. -/
def Gr (w w' : World) : Prop := w'.os = w.os ∧ w'.tape = w.tape ∧ w'.output = w.output ∧ w.heap.size ≤ w'.heap.size ∧ ∀ k, k < w.heap.size → w'.heap[k]? = w.heap[k]?
theorem Gr.below {w w' : World} (h : Gr w w') : Below w.heap.size w w' := ⟨h.1, h.2.1, h.2.2.1, h.2.2.2.1, h.2.2.2.2⟩
theorem Gr.of {w w' : World} (h : Below w.heap.size w w') : Gr w w' := ⟨h.os, h.tape, h.output, h.size, h.block⟩
theorem Gr.size {w w' : World} (h : Gr w w') : w.heap.size ≤ w'.heap.size := h.2.2.2.1
theorem Gr.refl (w : World) : Gr w w := Gr.of (Below.refl _ _)
theorem Gr.alloc {W w' : World} (h : Gr W w') (c : Array Value) (t : TypeId) : Gr W (w'.alloc (.cells c t)) := Gr.of (Below.alloc h.below h.size _)
theorem Gr.setCell {W w' : World} (h : Gr W w') {a : Addr} (ha : W.heap.size ≤ a.block) (v : Value) : Gr W (w'.setCell a v) := Gr.of (Below.setCell h.below ha v)
theorem Gr.drew {W w' : World} (h : Gr W w') : Gr W w'.drew := h
theorem Gr.trans {W w1 w2 : World} (h : Gr W w1) (h' : Gr w1 w2) : Gr W w2 := Gr.of (Below.trans h.below (h'.below.mono h.size))
theorem Gr.setRow {W w' : World} (h : Gr W w') {g : Nat} (hg : W.heap.size ≤ g) (cs : Array Value) : Gr W (w'.setRow g cs) := by
  obtain ⟨h1, h2, h3, h4, h5⟩ := h
  refine ⟨h1, h2, h3, by simpa using h4, fun k hk => ?_⟩
  rw [setRow_other w' g k cs (by omega)]
  exact h5 k hk
/-- Behind an append: the one row that may have been written is new. -/
theorem Gr.append {W w w' : World} {row : Option Nat} (h : Gr W w) (hg : w.grownBy w' row) (hr : ∀ k, row = some k → W.heap.size ≤ k) : Gr W w' := Gr.of (Below.grown h.below hg h.size hr)

/-- The store of a whole row into a block. -/
theorem wpList_store_row {P : Program} {ops : Array Oper} {rest : List Oper} {op : Oper} {a : Act} {w : World} {Q : Exit → Act → World → Prop} (hgd : op.guard = none) (ty : TypeId) (x y : Operand) (ho : op.op = .store ty x y)
    (g : Nat) (t : TypeId) (old cells : Array Value) (hx : a.eval x = .pointer (some ⟨g, 0, none⟩)) (hy : a.eval y = .agg cells)
    (hg : w.heap[g]? = some (.cells old t (0, 0))) (hi : (P.info? ty).map (·.size) = some cells.size) (hs : old.size = cells.size) (h1 : cells.all (·.oneCell') = true)
    (h : wpList P ops Q rest (a.put op.dst undef) (w.setRow g cells)) : wpList P ops Q (op :: rest) a w := by
  refine wpList_plain hgd fun _ hK => ?_
  unfold Oper.wp execOp
  have hst := run_storeVar_row (P := P) w g t ty old cells hg hi hs h1
  simp only [ho, hx, hy, Instr.storeAt, Instr.sureAddr, Sem.run_bind, Sem.run_pure, Result.andThen_ok, hst]
  exact hK _ _ h
theorem tab_one (n : Nat) (g : Nat → Nat) : (tab n g).all (·.oneCell') = true := by
  rw [Array.all_eq_true_iff_forall_mem]
  intro v hv
  simp [tab] at hv
  obtain ⟨j, _, rfl⟩ := hv
  rfl
/-- The powers, as far as k rounds have made them. -/
def pw (k : Nat) : Nat → Nat := fun j => if j < k then M.exN j else 0
theorem pw_set (k : Nat) (h : k < 255) : (tab 255 (pw k)).setIfInBounds k (.int .u8 ((M.exN k : Nat) : Int)) = tab 255 (pw (k + 1)) := by
  rw [tab_set 255 _ k _ h]
  apply tab_congr
  intro j _
  unfold pw
  by_cases h : j = k
  · simp [h]
  · by_cases h2 : j < k
    · rw [if_neg h, if_pos h2, if_pos (by omega)]
    · rw [if_neg h, if_neg h2, if_neg (by omega)]
theorem pw_nil : tab 255 (fun _ => 0) = tab 255 (pw 0) := tab_congr 255 _ _ fun j _ => by simp [pw]
theorem pw_all : tab 255 (pw 255) = tab 255 M.exN := tab_congr 255 _ _ fun j h => by simp [pw, h]
end Go.Proofs.Ytmbikmlknbinpaa
namespace Go.Proofs.Ytmbikmlknbinpaa
open Go.RowKit

theorem isAgg5 (w : World) : (isAgg 5).run Try.prog w = .ok false w := by kernel_rfl
theorem size5 (w : World) : (Go.sizeOf 5).run Try.prog w = .ok 1 w := by kernel_rfl
theorem g3 (w : World) (A B C : Obj) : (((w.alloc A).alloc B).alloc C).heap[w.heap.size]? = some A := by
  rw [heap_alloc_old _ _ (by simp; omega), heap_alloc_old _ _ (by simp)]
  exact heap_alloc_new _ _
theorem g3' (w : World) (A B C : Obj) : (((w.alloc A).alloc B).alloc C).heap[w.heap.size + 1]? = some B := by
  rw [heap_alloc_old _ _ (by simp)]
  exact heap_alloc2_new _ _ _
theorem g3'' (w : World) (A B C : Obj) : (((w.alloc A).alloc B).alloc C).heap[w.heap.size + 1 + 1]? = some C := by
  have h := heap_alloc_new ((w.alloc A).alloc B) C
  simpa using h

/-- The logarithms, as far as k rounds have made them. -/
def lw (k : Nat) : Nat → Nat := fun x => if x ≠ 0 ∧ M.lgN x < k then M.lgN x else 0
theorem lw_nil : tab 256 (fun _ => 0) = tab 256 (lw 0) := tab_congr 256 _ _ fun j _ => by simp [lw]
theorem lw_all : tab 256 (lw 255) = tab 256 M.lgN := tab_congr 256 _ _ fun x h => by
  unfold lw
  by_cases h0 : x = 0
  · subst h0
    rw [if_neg (by simp), M.lgN_zero]
  · rw [if_pos ⟨h0, (M.ex_lg x h h0).2⟩]
theorem lw_set (k : Nat) (h : k < 255) : (tab 256 (lw k)).setIfInBounds (M.exN k) (.int .u8 (k : Int)) = tab 256 (lw (k + 1)) := by
  rw [tab_set 256 _ _ _ (M.exN_lt k)]
  apply tab_congr
  intro x hx
  obtain ⟨h1, h2⟩ := M.lg_ex k h
  unfold lw
  by_cases e : x = M.exN k
  · subst e
    rw [if_pos rfl, if_pos ⟨h2, by omega⟩, h1]
  · rw [if_neg e]
    by_cases h0 : x = 0
    · subst h0
      simp
    · have : M.lgN x ≠ k := fun c => e (by rw [← c]; exact (M.ex_lg x hx h0).1.symm)
      by_cases h3 : M.lgN x < k
      · rw [if_pos ⟨h0, h3⟩, if_pos ⟨h0, by omega⟩]
      · rw [if_neg (fun c => h3 c.2), if_neg (fun c => h3 (by omega))]
end Go.Proofs.Ytmbikmlknbinpaa
namespace Go.Proofs.Ytmbikmlknbinpaa
open Go.RowKit

theorem foldSet (off : Nat) : ∀ (xs : List Value) (n : Nat) (cells : Array Value) (i : Nat),
    ((xs.zipIdx n).foldl (fun cs x => cs.setIfInBounds (off + x.2) x.1) cells)[i]? = if off + n ≤ i ∧ i < off + n + xs.length ∧ i < cells.size then xs[i - (off + n)]? else cells[i]?
  | [], n, cells, i => by
    rw [if_neg (by simp; omega)]
    rfl
  | x :: xs, n, cells, i => by
    rw [List.zipIdx_cons, List.foldl_cons, foldSet off xs (n + 1), Array.size_setIfInBounds, Array.getElem?_setIfInBounds, List.length_cons]
    by_cases h : off + n = i
    · subst h
      rw [if_neg (by omega), if_pos rfl]
      by_cases h2 : off + n < cells.size
      · rw [if_pos h2, if_pos (by omega)]
        simp
      · rw [if_neg h2, if_neg (by omega), Array.getElem?_eq_none (by omega)]
    · rw [if_neg h]
      by_cases h2 : off + (n + 1) ≤ i ∧ i < off + (n + 1) + xs.length ∧ i < cells.size
      · rw [if_pos h2, if_pos (by omega), show i - (off + n) = (i - (off + (n + 1))) + 1 from by omega, List.getElem?_cons_succ]
      · rw [if_neg h2, if_neg (by omega)]
theorem fill_two (z p l : Array Value) (hp : p.size = 255) (hl : l.size = 256) (hz : z.size = 511) :
    Instr.fill (([(0, 255), (255, 256)] : List (Nat × Nat)).toArray[·]?) z [(0, .agg p), (1, .agg l)] = some (p ++ l) := by
  have f1 : ∀ (off : Nat) (xs cells : Array Value), (xs.zipIdx.foldl (fun cs (c, j) => cs.setIfInBounds (off + j) c) cells) = ((xs.toList.zipIdx 0).foldl (fun cs x => cs.setIfInBounds (off + x.2) x.1) cells) := by
    intro off xs cells
    rw [← Array.foldl_toList, Array.toList_zipIdx]
  have s1 : ∀ (off : Nat) (xs : List (Value × Nat)) (cells : Array Value), (xs.foldl (fun cs x => cs.setIfInBounds (off + x.2) x.1) cells).size = cells.size := by
    intro off xs
    induction xs with
    | nil => intro cells; rfl
    | cons x xs ih => intro cells; rw [List.foldl_cons, ih, Array.size_setIfInBounds]
  simp only [Instr.fill, Value.cells, f1]
  have s2 := fun xs cells => s1 0 xs cells
  have f2 := fun xs n cells i => foldSet 0 xs n cells i
  simp only [Nat.zero_add] at s2 f2
  simp [hp, hl, hz]
  refine ⟨by rw [s2]; omega, ?_⟩
  apply Array.ext_getElem?
  intro i
  rw [foldSet, s2, f2, Array.getElem?_append]
  by_cases h1 : i < 255
  · rw [if_neg (by omega), if_pos (by simp [hp, hz]; omega), if_pos (by omega)]
    simp
  · by_cases h2 : i < 511
    · rw [if_pos (by simp [hl, hz]; omega), if_neg (by omega)]
      simp [hp]
    · rw [if_neg (by simp [hl, hz]; omega), if_neg (by simp [hp]; omega), if_neg (by omega), Array.getElem?_eq_none (by omega), Array.getElem?_eq_none (by omega)]
theorem keptRow {W w' : World} (hg : Gr W w') {b : Nat} {c : Array Value} {t : TypeId} {fr : Nat × Nat} (h : W.heap[b]? = some (.cells c t fr)) : w'.heap[b]? = some (.cells c t fr) := by
  rw [hg.2.2.2.2 b (Array.getElem?_eq_some_iff.1 h).1]
  exact h
end Go.Proofs.Ytmbikmlknbinpaa
namespace Go.Proofs.Ytmbikmlknbinpaa
open Go.RowKit

/-- A Field whose tables are made lies where block b begins (other things may lie behind it). -/
def FieldAt (w : World) (b : Nat) : Prop := w.rangeAt b 0 (tab 255 M.exN ++ tab 256 M.lgN).toList
theorem rangeAt_all {w : World} {b : Nat} {C : Array Value} {t : TypeId} {fr : Nat × Nat} (hb : w.heap[b]? = some (.cells C t fr)) : w.rangeAt b 0 C.toList := by
  have := World.rangeAt_of_block hb 0 C.size
  simpa using this
theorem rangeAt_grown {w w' : World} (hg : Gr w w') {b : Nat} {cs : List Value} (h : w.rangeAt b 0 cs) : w'.rangeAt b 0 cs := fun j v hv => by
  have h1 := h j v hv
  have hb := World.block_lt_of_cell? w _ h1
  cases ho : w.heap[b]? with
  | none => simp [World.cell?, ho] at h1
  | some o =>
    cases o with
    | cells c t fr =>
      rw [cell_of_row w' b _ c t fr (keptRow hg ho)]
      rw [cell_of_row w b _ c t fr ho] at h1
      exact h1
    | _ => simp [World.cell?, ho] at h1
theorem wp_built {P : Program} {o : Oper} {a : Act} {w : World} {K : Act → World → Prop} {Q : Exit → Act → World → Prop} (t : TypeId) (parts : Array (Nat × Operand)) (ho : o.op = .build t parts) (cells : Array Value)
    (hf : P.built t (parts.map fun (i, x) => (i, a.eval x)).toList = some cells) (h : K (a.put o.dst (.agg cells)) w) : o.wp P a w K Q :=
  wp_build t parts ho (by rw [hf]; rfl) (by rw [hf]; exact h)
end Go.Proofs.Ytmbikmlknbinpaa
namespace Go.Proofs.Ytmbikmlknbinpaa
open Go.RowKit

theorem FieldAt.ex {w : World} {b : Nat} (h : FieldAt w b) (i : Nat) (hi : i < 255) : w.cell? ⟨b, i, none⟩ = some (.int .u8 ((M.exN i : Nat) : Int)) := by
  have h1 := h i (.int .u8 ((M.exN i : Nat) : Int)) (by
    rw [Array.getElem?_toList, Array.getElem?_append, if_pos (by rw [tab_size]; exact hi)]
    exact tab_get 255 _ i hi)
  rwa [Nat.zero_add] at h1
theorem FieldAt.lg {w : World} {b : Nat} (h : FieldAt w b) (x : Nat) (hx : x < 256) : w.cell? ⟨b, 255 + x, none⟩ = some (.int .u8 ((M.lgN x : Nat) : Int)) := by
  have h1 := h (255 + x) (.int .u8 ((M.lgN x : Nat) : Int)) (by
    rw [Array.getElem?_toList, Array.getElem?_append, if_neg (by rw [tab_size]; omega), tab_size, Nat.add_sub_cancel_left]
    exact tab_get 256 _ x hx)
  rwa [Nat.zero_add] at h1
theorem FieldAt.grown {w w' : World} {b : Nat} (h : FieldAt w b) (hg : Gr w w') : FieldAt w' b := rangeAt_grown hg h
theorem FieldAt.put {w : World} {b g o : Nat} {u : Value} (h : FieldAt w b) (hne : b ≠ g) : FieldAt (w.setCell ⟨g, o, none⟩ u) b := fun j v hv => by
  rw [World.cell?_of_block (heap_setCell_other _ _ _ _ hne)]
  exact h j v hv

/-- f is nil, or points to a Field whose tables are made. -/
def IsF (w : World) (f : Value) : Prop := f = .pointer none ∨ ∃ b, f = .pointer (some ⟨b, 0, none⟩) ∧ FieldAt w b
theorem IsF.grown {w w' : World} {f : Value} (h : IsF w f) (hg : Gr w w') : IsF w' f := by
  rcases h with h | ⟨b, h1, h2⟩
  · exact Or.inl h
  · exact Or.inr ⟨b, h1, FieldAt.grown h2 hg⟩

/-- The product, on integers. -/
def mulZ (a b : Int) : Int := ((M.mulN a.toNat b.toNat : Nat) : Int)

/-- The byte that turns a into 1, on integers. -/
def invZ (a : Int) : Int := ((M.invN a.toNat : Nat) : Int)

theorem mulZ_byt (a b : Int) : Byt (mulZ a b) := by
  have := M.mulN_lt a.toNat b.toNat
  unfold Byt mulZ
  omega
theorem invZ_byt (a : Int) : Byt (invZ a) := by
  have := M.invN_lt a.toNat
  unfold Byt invZ
  omega


/-- The logarithm, 0 for 0, on integers. -/
def lgZ (a : Int) : Int := ((M.lgN a.toNat : Nat) : Int)

/-- 3^n, whatever n is, on integers. -/
def expZ (n : Int) : Int := ((M.exN (n % 255).toNat : Nat) : Int)
theorem expZ_byt (n : Int) : Byt (expZ n) := by
  have := M.exN_lt (n % 255).toNat
  unfold Byt expZ
  omega

end Go.Proofs.Ytmbikmlknbinpaa
namespace Go.Proofs.Ytmbikmlknbinpaa
open Go.RowKit

theorem shr_nat (y k : Nat) : ((y : Int) / 2 ^ k) = ((y / 2 ^ k : Nat) : Int) := by
  rw [Int.natCast_ediv, Int.natCast_pow]
  rfl
theorem bit8 (y k : Nat) (h : y < 256) : (bits BinOp.and IntKind.u8 ((y : Int) / 2 ^ k) 1 == 1) = y.testBit k := by
  have h2 : y / 2 ^ k < 256 := Nat.lt_of_le_of_lt (Nat.div_le_self _ _) h
  rw [shr_nat, show (1 : Int) = ((1 : Nat) : Int) from rfl, u8_and_nat _ 1 h2 (by omega), nat_mask1, Nat.testBit_eq_decide_div_mod_eq]
  by_cases e : y / 2 ^ k % 2 = 1
  · rw [e]; simp
  · rw [decide_eq_false e, show y / 2 ^ k % 2 = 0 from by omega]
    rfl
theorem bit16 (y k : Nat) (h : y < 65536) : (bits BinOp.and IntKind.u16 ((y : Int) / 2 ^ k) 1 == 1) = y.testBit k := by
  have h2 : y / 2 ^ k < 65536 := Nat.lt_of_le_of_lt (Nat.div_le_self _ _) h
  rw [shr_nat, show (1 : Int) = ((1 : Nat) : Int) from rfl, u16_and_nat _ 1 h2 (by omega), nat_mask1, Nat.testBit_eq_decide_div_mod_eq]
  by_cases e : y / 2 ^ k % 2 = 1
  · rw [e]; simp
  · rw [decide_eq_false e, show y / 2 ^ k % 2 = 0 from by omega]
    rfl
theorem pow_le7 (k : Nat) (h : k ≤ 7) : 2 ^ k ≤ 128 := Nat.pow_le_pow_right (n := 2) (by omega) h
theorem xor16 (c x k : Nat) (hc : c < 65536) (hx : x < 300) (hk : k ≤ 7) : bits BinOp.xor IntKind.u16 (c : Int) (IntKind.u16.wrap ((x : Int) * 2 ^ k)) = ((c ^^^ x * 2 ^ k : Nat) : Int) := by
  have h1 : x * 2 ^ k < 65536 := by
    have := Nat.mul_le_mul (Nat.le_of_lt hx) (pow_le7 k hk)
    omega
  rw [show (x : Int) * 2 ^ k = ((x * 2 ^ k : Nat) : Int) from by rw [Int.natCast_mul, Int.natCast_pow]; rfl, IntKind.wrap_u16, show ((x * 2 ^ k : Nat) : Int) % 65536 = ((x * 2 ^ k : Nat) : Int) from by omega]
  exact u16_xor_nat _ _ hc h1
theorem carry_lt (x y : Nat) (hx : x < 256) : ∀ k, k ≤ 8 → M.carry x y k < 65536
  | 0, _ => by simp [M.carry]
  | k + 1, h => by
    have ih := carry_lt x y hx k (by omega)
    have h1 : x * 2 ^ k < 65536 := by
      have := Nat.mul_le_mul (Nat.le_of_lt hx) (pow_le7 k (by omega))
      omega
    simp only [M.carry]
    split
    · exact Nat.xor_lt_two_pow (n := 16) ih h1
    · simpa using ih
theorem cut_lt (p : Nat) (hp : p < 65536) : ∀ k, k ≤ 8 → M.cutDown p k < 65536
  | 0, _ => hp
  | k + 1, h => by
    have ih := cut_lt p hp k (by omega)
    have h1 : 283 * 2 ^ (7 - k) < 65536 := by
      have := Nat.mul_le_mul (Nat.le_refl 283) (pow_le7 (7 - k) (by omega))
      omega
    simp only [M.cutDown]
    split
    · exact Nat.xor_lt_two_pow (n := 16) ih h1
    · simpa using ih
theorem carry_yes (x y k : Nat) (h : y.testBit k = true) : M.carry x y (k + 1) = M.carry x y k ^^^ x * 2 ^ k := by simp [M.carry, h]
theorem carry_no (x y k : Nat) (h : y.testBit k = false) : M.carry x y (k + 1) = M.carry x y k := by simp [M.carry, h]
theorem cut_yes (p m : Nat) (h8 : 8 ≤ m) (h15 : m ≤ 15) (h : (M.cutDown p (15 - m)).testBit m = true) : M.cutDown p (15 - (m - 1)) = M.cutDown p (15 - m) ^^^ 283 * 2 ^ (m - 8) := by
  rw [show 15 - (m - 1) = (15 - m) + 1 from by omega]
  simp only [M.cutDown]
  rw [show 15 - (15 - m) = m from by omega, show 7 - (15 - m) = m - 8 from by omega, if_pos h]
theorem cut_no (p m : Nat) (h8 : 8 ≤ m) (h15 : m ≤ 15) (h : (M.cutDown p (15 - m)).testBit m = false) : M.cutDown p (15 - (m - 1)) = M.cutDown p (15 - m) := by
  rw [show 15 - (m - 1) = (15 - m) + 1 from by omega]
  simp only [M.cutDown]
  rw [show 15 - (15 - m) = m from by omega, h]
  simp


theorem mul_one_iff (x k : Nat) (hx : x < 256) (hk : k < 256) (h0 : x ≠ 0) : M.mulN x k = 1 ↔ k = M.invN x :=
  ⟨fun h => M.inv_unique x k hx hk h, fun h => by rw [h]; exact M.mulN_inv x hx h0⟩




theorem within_fact (x n : Int) (h : 0 < n) : x.tmod n = x % n ∨ (x.tmod n < 0 ∧ x.tmod n + n = x % n) := by
  have h1 := Int.tmod_eq_emod (a := x) (b := n)
  have h2 := Int.emod_lt_of_pos x h
  have h3 : (n.natAbs : Int) = n := by omega
  split at h1
  · omega
  · omega
set_option maxRecDepth 100000 in
set_option maxHeartbeats 400000 in
theorem within_any (x n : Int) (h1 : 1 ≤ n) (h2 : n ≤ 1000000) (w : World) :
    Calls Try.prog 17 #[.int .i64 x, .int .i64 n] w fun e w' => e = .returned (.int .i64 (x % n)) ∧ w = w' := by
  have ht := within_fact x n (by omega)
  have h3 := Int.emod_lt_of_pos x (by omega : 0 < n)
  have h4 := Int.emod_nonneg x (by omega : n ≠ 0)
  have hn : (n == 0) = false := by simp; omega
  rcases ht with ht | ⟨ht, hu⟩
  · go_enter Try.func17, Try.ntmps17
    go_wp2_with fail
    go_ret
    exact ⟨rfl, rfl⟩
  · obtain ⟨r, hr⟩ : ∃ r, x.tmod n = r := ⟨_, rfl⟩
    rw [hr] at ht hu
    go_enter Try.func17, Try.ntmps17
    go_wp2_with fail
    go_ret
    exact ⟨rfl, rfl⟩

end Go.Proofs.Ytmbikmlknbinpaa
