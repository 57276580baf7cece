/-
  Texts laid behind one another: Math Fld Kp Zs Dr Log New Fun Ops.
-/
import Derived.Test.YtbbglejdfbkjlaaGreatProg
import Derived.KernelRfl
import Derived.WalkKit
import Derived.WalkSpells
import Derived.WalkLawsBesides
import Derived.ScopeJumps
import Derived.Below
import Derived.Outline
import Derived.Lib.Hide
import Derived.Deep.WholeRow
import Derived.Deep.MidRow
import Derived.OpenShut
import Derived.Deep.QuietTactic
import Derived.BigQuiet
import Derived.Deep.AppendLies
import Derived.Deep.RegionHeld3
namespace Go.Proofs.YtbbglejdfbkjlaaGreat.M
def expBig : Nat := 121466575815500734415996836054882879791832871126464106601702187317037704638720699736399773789881350966450612456712855012027411276600174289287471020404625812305602624065235109912861702064162581238381248958448422203687095403783548669481020115429473714815130546491650907227391014769411226625179674495964331439187933946584331397333639979447433688574122779091165484305754955373075414835846686739481168846087332879005575464100018941681806164995707250399423063311368515928344698269234575261926727907427524598329539937222090466892085999338983806607642276495436692919915470849325341672618663070658392065151738926641076044545
def logBig : Nat := 939374623831894136699086600277250597547650664638770418422125146541797353646788332867483593573384618611044815625336497665827114626705134492515730415652478061620339993830966980270842846318821775850471098591710629241171812800746666233448222972174585295916389942636813666312872914849454985560152530477328703759683306625234997237483834721220409437442253146756845415190424543171129629468776480674528486868811725071010351012234056630775688111116293610821126543142160426617079940511630006820862697466582575257349116925728488930366609138264019883664906661504235885380294353134295748489096855100647154935187045898006656778240
def exN (i : Nat) : Nat := expBig / 2 ^ (8 * i) % 256
def lgN (x : Nat) : Nat := logBig / 2 ^ (8 * x) % 256
def tripleN (a : Nat) : Nat := (a * 2 % 256 ^^^ (if 128 ≤ a then 27 else 0)) ^^^ a
def mulN (a b : Nat) : Nat := if a = 0 ∨ b = 0 then 0 else exN ((lgN a + lgN b) % 255)
def invN (a : Nat) : Nat := if a = 0 then 0 else exN ((255 - lgN a) % 255)
def carry (a b : Nat) : Nat → Nat
 | 0 => 0
 | k + 1 => carry a b k ^^^ (if b.testBit k then a * 2 ^ k else 0)
def cutDown (p : Nat) : Nat → Nat
 | 0 => p
 | k + 1 => cutDown p k ^^^ (if (cutDown p k).testBit (15 - k) then 283 * 2 ^ (7 - k) else 0)
def refMulN (a b : Nat) : Nat := cutDown (carry a b 8) 8 % 256
def allBelow (n : Nat) (p : Nat → Bool) : Bool := (List.range n).all p
theorem allBelow_at {n : Nat} {p : Nat → Bool} (h : allBelow n p = true) (i : Nat) (hi : i < n) : p i = true := by
 have := List.all_eq_true.1 h i (List.mem_range.2 hi)
 exact this
theorem exN_lt (i : Nat) : exN i < 256 := Nat.mod_lt _ (by decide)
theorem lgN_lt (i : Nat) : lgN i < 256 := Nat.mod_lt _ (by decide)
theorem step_chk : allBelow 254 (fun i => exN (i + 1) == tripleN (exN i)) = true := by decide +kernel
theorem exN_zero : exN 0 = 1 := by decide +kernel
theorem exN_last : tripleN (exN 254) = exN 0 := by decide +kernel
theorem exN_succ (i : Nat) (h : i < 254) : exN (i + 1) = tripleN (exN i) := by simpa using allBelow_at step_chk i h
theorem lg_ex_chk : allBelow 255 (fun i => lgN (exN i) == i && exN i != 0) = true := by decide +kernel
theorem lg_ex (i : Nat) (h : i < 255) : lgN (exN i) = i ∧ exN i ≠ 0 := by simpa using allBelow_at lg_ex_chk i h
theorem ex_lg_chk : allBelow 256 (fun x => x == 0 || (exN (lgN x) == x && decide (lgN x < 255))) = true := by decide +kernel
theorem ex_lg (x : Nat) (h : x < 256) (h0 : x ≠ 0) : exN (lgN x) = x ∧ lgN x < 255 := by
 have := allBelow_at ex_lg_chk x h
 simp [h0] at this
 exact this
theorem lgN_zero : lgN 0 = 0 := by decide +kernel
/-! ### Linear maps of bytes -/
structure Lin (f : Nat → Nat) : Prop where
 zero : f 0 = 0
 add : ∀ x y, x < 256 → y < 256 → f (x ^^^ y) = f x ^^^ f y
theorem xor_lt {x y : Nat} (hx : x < 256) (hy : y < 256) : x ^^^ y < 256 := Nat.xor_lt_two_pow (n := 8) hx hy
theorem top_chk : allBelow 256 (fun x => x == 0 || (decide (x ^^^ 2 ^ x.log2 < x) && decide (x.log2 < 8))) = true := by decide +kernel
theorem lin_ext {f g : Nat → Nat} (hf : Lin f) (hg : Lin g) (h : ∀ k, k < 8 → f (2 ^ k) = g (2 ^ k)) : ∀ x, x < 256 → f x = g x := by
 intro x
 induction x using Nat.strongRecOn with
 | _ x ih =>
  intro hx
  by_cases h0 : x = 0
  ·subst h0
   rw [hf.zero, hg.zero]
  ·have ht := allBelow_at top_chk x hx
   simp [h0] at ht
   obtain ⟨h1, h2⟩ := ht
   have hp : 2 ^ x.log2 < 256 := Nat.pow_lt_pow_right (a := 2) (m := x.log2) (n := 8) (by decide) h2
   have e : x = (x ^^^ 2 ^ x.log2) ^^^ 2 ^ x.log2 := by rw [Nat.xor_assoc, Nat.xor_self, Nat.xor_zero]
   have i1 := ih _ h1 (Nat.lt_trans h1 hx)
   rw [e, hf.add _ _ (Nat.lt_trans h1 hx) hp, hg.add _ _ (Nat.lt_trans h1 hx) hp, i1, h _ h2]
theorem sel_xor (x y : Bool) (m : Nat) : (if (x ^^ y) = true then m else 0) = (if x = true then m else 0) ^^^ (if y = true then m else 0) := by
 cases x <;> cases y <;> simp
theorem xor4 (p q r s : Nat) : (p ^^^ q) ^^^ (r ^^^ s) = (p ^^^ r) ^^^ (q ^^^ s) := by
 rw [Nat.xor_assoc, ← Nat.xor_assoc q r s, Nat.xor_comm q r, Nat.xor_assoc r q s, ← Nat.xor_assoc]
theorem cutDown_xor (p q : Nat) : ∀ k, cutDown (p ^^^ q) k = cutDown p k ^^^ cutDown q k
 | 0 => rfl
 | k + 1 => by
  simp only [cutDown]
  rw [cutDown_xor p q k, Nat.testBit_xor, sel_xor, xor4]
theorem cutDown_zero : ∀ k, cutDown 0 k = 0
 | 0 => rfl
 | k + 1 => by
  simp only [cutDown]
  rw [cutDown_zero k]
  simp
theorem carry_xor_right (a b c : Nat) : ∀ k, carry a (b ^^^ c) k = carry a b k ^^^ carry a c k
 | 0 => by simp [carry]
 | k + 1 => by
  simp only [carry]
  rw [carry_xor_right a b c k, Nat.testBit_xor, sel_xor, xor4]
theorem mul_pow_xor (a b k : Nat) : (a ^^^ b) * 2 ^ k = a * 2 ^ k ^^^ b * 2 ^ k := by
 rw [← Nat.shiftLeft_eq, ← Nat.shiftLeft_eq, ← Nat.shiftLeft_eq, Nat.shiftLeft_xor_distrib]
theorem carry_xor_left (a b c : Nat) : ∀ k, carry (a ^^^ b) c k = carry a c k ^^^ carry b c k
 | 0 => by simp [carry]
 | k + 1 => by
  simp only [carry]
  rw [carry_xor_left a b c k, xor4]
  cases c.testBit k with
  | false => simp
  | true => simp [mul_pow_xor]
theorem mod_xor (p q : Nat) : (p ^^^ q) % 256 = p % 256 ^^^ q % 256 := Nat.xor_mod_two_pow (a := p) (b := q) (n := 8)
theorem refMul_lin_right (a : Nat) : Lin (refMulN a) where
 zero := by
  have h : ∀ k, carry a 0 k = 0 := by
   intro k
   induction k with
   | zero => rfl
   | succ k ih => simp [carry, ih]
  simp [refMulN, h, cutDown_zero]
 add x y _ _ := by
  unfold refMulN
  rw [carry_xor_right, cutDown_xor, mod_xor]
theorem refMul_lin_left (b : Nat) : Lin (fun a => refMulN a b) where
 zero := by
  have h : ∀ k, carry 0 b k = 0 := by
   intro k
   induction k with
   | zero => rfl
   | succ k ih => simp [carry, ih]
  simp [refMulN, h, cutDown_zero]
 add x y _ _ := by
  unfold refMulN
  rw [carry_xor_left, cutDown_xor, mod_xor]
theorem big_chk : allBelow 256 (fun x => decide (tripleN x < 256) && decide ((128 ≤ x) ↔ x.testBit 7)) = true := by decide +kernel
theorem tripleN_lt (x : Nat) (h : x < 256) : tripleN x < 256 := by
 have := allBelow_at big_chk x h
 simp only [Bool.and_eq_true, decide_eq_true_eq] at this
 exact this.1
theorem top_bit (x : Nat) (h : x < 256) : (128 ≤ x) ↔ x.testBit 7 = true := by
 have := allBelow_at big_chk x h
 simp only [Bool.and_eq_true, decide_eq_true_eq] at this
 exact this.2
theorem tripleN_eq (x : Nat) (h : x < 256) : tripleN x = (x * 2 % 256 ^^^ (if x.testBit 7 = true then 27 else 0)) ^^^ x := by
 unfold tripleN
 by_cases h7 : 128 ≤ x
 ·rw [if_pos h7, if_pos ((top_bit x h).1 h7)]
 ·rw [if_neg h7, if_neg (fun e => h7 ((top_bit x h).2 e))]
theorem triple_lin : Lin tripleN where
 zero := by decide
 add x y hx hy := by
  rw [tripleN_eq x hx, tripleN_eq y hy, tripleN_eq _ (xor_lt hx hy), Nat.testBit_xor, sel_xor]
  have e : (x ^^^ y) * 2 = x * 2 ^^^ y * 2 := mul_pow_xor x y 1
  rw [e, mod_xor, xor4 (x * 2 % 256) (y * 2 % 256), xor4]
def triples : Nat → Nat → Nat
 | 0, x => x
 | n + 1, x => tripleN (triples n x)
theorem triples_lt (n x : Nat) (h : x < 256) : triples n x < 256 := by
 induction n with
 | zero => exact h
 | succ n ih => exact tripleN_lt _ ih
theorem triples_lin : ∀ n, Lin (triples n)
 | 0 => ⟨rfl, fun _ _ _ _ => rfl⟩
 | n + 1 => ⟨by simp [triples, (triples_lin n).zero, triple_lin.zero], fun x y hx hy => by
     simp only [triples]
     rw [(triples_lin n).add x y hx hy, triple_lin.add _ _ (triples_lt n x hx) (triples_lt n y hy)]⟩
theorem triple_ex (i : Nat) (h : i < 255) : tripleN (exN i) = exN ((i + 1) % 255) := by
 by_cases h1 : i = 254
 ·subst h1
  exact exN_last
 ·rw [Nat.mod_eq_of_lt (by omega), exN_succ i (by omega)]
theorem triples_ex (n i : Nat) (h : i < 255) : triples n (exN i) = exN ((n + i) % 255) := by
 induction n with
 | zero => rw [Nat.zero_add, Nat.mod_eq_of_lt h]; rfl
 | succ n ih =>
  simp only [triples]
  rw [ih, triple_ex _ (Nat.mod_lt _ (by decide))]
  congr 1
  omega
theorem mulN_triples (a b : Nat) (hb : b < 256) (ha : a ≠ 0) : mulN a b = triples (lgN a) b := by
 unfold mulN
 by_cases h0 : b = 0
 ·subst h0
  simp [(triples_lin _).zero]
 ·rw [if_neg (by simp [ha, h0])]
  obtain ⟨h1, h2⟩ := ex_lg b hb h0
  conv => rhs; rw [← h1]
  rw [triples_ex _ _ h2]
theorem mulN_zero_left (b : Nat) : mulN 0 b = 0 := by simp [mulN]
theorem mulN_zero_right (a : Nat) : mulN a 0 = 0 := by simp [mulN]
theorem mulN_comm (a b : Nat) : mulN a b = mulN b a := by
 unfold mulN
 rw [Nat.add_comm (lgN a)]
 by_cases h : a = 0 ∨ b = 0
 ·rw [if_pos h, if_pos h.symm]
 ·rw [if_neg h, if_neg (fun e => h e.symm)]
theorem mulN_lin (a : Nat) : Lin (mulN a) where
 zero := mulN_zero_right a
 add x y hx hy := by
  by_cases ha : a = 0
  ·subst ha
   simp [mulN_zero_left]
  ·rw [mulN_triples a x hx ha, mulN_triples a y hy ha, mulN_triples a _ (xor_lt hx hy) ha, (triples_lin _).add x y hx hy]
theorem mulN_lin_left (b : Nat) : Lin (fun a => mulN a b) where
 zero := mulN_zero_left b
 add x y hx hy := by
  show mulN (x ^^^ y) b = mulN x b ^^^ mulN y b
  rw [mulN_comm _ b, mulN_comm x, mulN_comm y, (mulN_lin b).add x y hx hy]
theorem base_chk : allBelow 8 (fun j => allBelow 8 fun k => refMulN (2 ^ j) (2 ^ k) == mulN (2 ^ j) (2 ^ k)) = true := by decide +kernel
theorem refMulN_eq (a b : Nat) (ha : a < 256) (hb : b < 256) : refMulN a b = mulN a b := by
 refine lin_ext (refMul_lin_right a) (mulN_lin a) (fun k hk => ?_) b hb
 refine lin_ext (refMul_lin_left (2 ^ k)) (mulN_lin_left (2 ^ k)) (fun j hj => ?_) a ha
 simpa using allBelow_at (allBelow_at base_chk j hj) k hk
/-! ### The field's laws -/
theorem mulN_lt (a b : Nat) : mulN a b < 256 := by
 unfold mulN
 split
 ·decide
 ·exact exN_lt _
theorem mulN_ne (a b : Nat) (ha : a ≠ 0) (hb : b ≠ 0) : mulN a b ≠ 0 := by
 unfold mulN
 rw [if_neg (by simp [ha, hb])]
 exact (lg_ex _ (Nat.mod_lt _ (by decide))).2
theorem lg_mul (a b : Nat) (ha : a ≠ 0) (hb : b ≠ 0) : lgN (mulN a b) = (lgN a + lgN b) % 255 := by
 unfold mulN
 rw [if_neg (by simp [ha, hb])]
 exact (lg_ex _ (Nat.mod_lt _ (by decide))).1
theorem mulN_nz (a b : Nat) (ha : a ≠ 0) (hb : b ≠ 0) : mulN a b = exN ((lgN a + lgN b) % 255) := by
 unfold mulN
 rw [if_neg (by simp [ha, hb])]
theorem mulN_assoc (a b c : Nat) : mulN (mulN a b) c = mulN a (mulN b c) := by
 by_cases ha : a = 0
 ·subst ha; simp [mulN_zero_left]
 by_cases hb : b = 0
 ·subst hb; simp [mulN_zero_left, mulN_zero_right]
 by_cases hc : c = 0
 ·subst hc; simp [mulN_zero_right]
 rw [mulN_nz _ c (mulN_ne a b ha hb) hc, mulN_nz a _ ha (mulN_ne b c hb hc), lg_mul a b ha hb, lg_mul b c hb hc]
 congr 1
 omega
theorem mulN_xor (a b c : Nat) (hb : b < 256) (hc : c < 256) : mulN a (b ^^^ c) = mulN a b ^^^ mulN a c := (mulN_lin a).add b c hb hc
theorem one_chk : lgN 1 = 0 := by decide +kernel
theorem mulN_one (a : Nat) (h : a < 256) : mulN a 1 = a := by
 by_cases h0 : a = 0
 ·subst h0; exact mulN_zero_left 1
 ·unfold mulN
  obtain ⟨h1, h2⟩ := ex_lg a h h0
  rw [if_neg (by simp [h0]), one_chk, Nat.add_zero, Nat.mod_eq_of_lt h2, h1]
theorem invN_lt (a : Nat) : invN a < 256 := by
 unfold invN
 split
 ·decide
 ·exact exN_lt _
theorem invN_ne (a : Nat) (h : a ≠ 0) : invN a ≠ 0 := by
 unfold invN
 rw [if_neg h]
 exact (lg_ex _ (Nat.mod_lt _ (by decide))).2
theorem lg_inv (a : Nat) (h : a ≠ 0) : lgN (invN a) = (255 - lgN a) % 255 := by
 unfold invN
 rw [if_neg h]
 exact (lg_ex _ (Nat.mod_lt _ (by decide))).1
theorem mulN_inv (a : Nat) (h : a < 256) (h0 : a ≠ 0) : mulN a (invN a) = 1 := by
 have h2 := (ex_lg a h h0).2
 unfold mulN
 rw [if_neg (by simp [h0, invN_ne a h0]), lg_inv a h0, ← exN_zero]
 congr 1
 omega
theorem inv_unique (a b : Nat) (ha : a < 256) (hb : b < 256) (h : mulN a b = 1) : b = invN a := by
 have h0 : a ≠ 0 := by
  intro e
  subst e
  rw [mulN_zero_left] at h
  exact absurd h (by decide)
 have e : mulN (invN a) (mulN a b) = b := by
  rw [← mulN_assoc, mulN_comm (invN a) a, mulN_inv a ha h0, mulN_comm 1 b, mulN_one b hb]
 rw [h, mulN_one _ (invN_lt a)] at e
 exact e.symm
/-! ### Squares -/
/-! ### Powers -/
theorem mul_ex (i j : Nat) (hi : i < 255) (hj : j < 255) : mulN (exN i) (exN j) = exN ((i + j) % 255) := by
 obtain ⟨h1, h2⟩ := lg_ex i hi
 obtain ⟨h3, h4⟩ := lg_ex j hj
 unfold mulN
 rw [if_neg (by simp [h2, h4]), h1, h3]
theorem ex_one : exN 1 = 3 := by decide +kernel
theorem ex_three (i : Nat) (hi : i < 255) : mulN (exN i) 3 = exN ((i + 1) % 255) := by
 rw [← ex_one]
 exact mul_ex i 1 hi (by decide)
end Go.Proofs.YtbbglejdfbkjlaaGreat.M
namespace Go.Proofs.YtbbglejdfbkjlaaGreat
open Go.RowKit
def Byt (a : Int) : Prop := 0 ≤ a ∧ a ≤ 255
theorem ret_int {k : IntKind} {a b : Int} (h : a = b) : Ending.returned (.int k a) = .returned (.int k b) := by rw [h]
set_option maxHeartbeats 400000 in
theorem triple_any (a : Int) (h0 : 0 ≤ a) (h1 : a ≤ 255) (w : World) :
  Calls Tryz.prog 123 #[.int .u8 a] w fun e w' => e = .returned (.int .u8 (M.tripleN a.toNat)) ∧ w = w' := by
 go_enter Tryz.func123, Tryz.ntmps123
 go_wp2
 ·go_ret
  refine ⟨ret_int ?_, rfl⟩
  rw [u8_xor (a * 2 % 256) 27 (by omega) (by omega) (by omega) (by omega), u8_xor _ a (by omega) (by have := M.xor_lt (x := (a * 2 % 256).toNat) (y := (27 : Int).toNat) (by omega) (by decide); omega) h0 (by omega)]
  unfold M.tripleN
  rw [if_pos (by omega)]
  rw [show (a * 2 % 256).toNat = a.toNat * 2 % 256 from by omega]
  rfl
 ·go_ret
  refine ⟨ret_int ?_, rfl⟩
  rw [u8_xor (a * 2 % 256) a (by omega) (by omega) h0 (by omega)]
  unfold M.tripleN
  rw [if_neg (by omega), Nat.xor_zero]
  rw [show (a * 2 % 256).toNat = a.toNat * 2 % 256 from by omega]
def tab (n : Nat) (g : Nat → Nat) : Array Value := ((List.range n).map fun j => Value.int .u8 ((g j : Nat) : Int)).toArray
theorem tab_size (n : Nat) (g : Nat → Nat) : (tab n g).size = n := by simp [tab]
theorem tab_get (n : Nat) (g : Nat → Nat) (j : Nat) (h : j < n) : (tab n g)[j]? = some (.int .u8 ((g j : Nat) : Int)) := by
 simp [tab, h]
theorem tab_congr (n : Nat) (g g' : Nat → Nat) (h : ∀ j, j < n → g j = g' j) : tab n g = tab n g' := by
 unfold tab
 congr 1
 exact List.map_congr_left fun j hj => by rw [h j (List.mem_range.1 hj)]
theorem tab_set (n : Nat) (g : Nat → Nat) (k v : Nat) (h : k < n) : (tab n g).setIfInBounds k (.int .u8 (v : Int)) = tab n (fun j => if j = k then v else g j) := by
 apply Array.ext_getElem?
 intro j
 rw [Array.getElem?_setIfInBounds, tab_size]
 by_cases hj : j < n
 ·rw [tab_get n g j hj, tab_get n _ j hj]
  by_cases e : k = j
  ·subst e
   simp [h]
  ·rw [if_neg e, if_neg (fun x => e x.symm)]
 ·have h1 : (tab n g)[j]? = none := by rw [Array.getElem?_eq_none]; rw [tab_size]; omega
  have h2 : (tab n (fun j => if j = k then v else g j))[j]? = none := by rw [Array.getElem?_eq_none]; rw [tab_size]; omega
  rw [if_neg (by omega), h1, h2]
theorem zero39 (w : World) : Sem.run Tryz.prog (zeroValue 127) w = Result.ok (Value.agg (tab 255 fun _ => 0)) w := by kernel_rfl
theorem zero41 (w : World) : Sem.run Tryz.prog (zeroValue 128) w = Result.ok (Value.agg (tab 256 fun _ => 0)) w := by kernel_rfl
def Gr (w w' : World) : Prop := w'.os = w.os ∧ w'.tape = w.tape ∧ w'.output = w.output ∧ w.heap.size ≤ w'.heap.size ∧ ∀ k, k < w.heap.size → w'.heap[k]? = w.heap[k]?
theorem Gr.below {w w' : World} (h : Gr w w') : Below w.heap.size w w' := ⟨h.1, h.2.1, h.2.2.1, h.2.2.2.1, h.2.2.2.2⟩
theorem Gr.of {w w' : World} (h : Below w.heap.size w w') : Gr w w' := ⟨h.os, h.tape, h.output, h.size, h.block⟩
theorem Gr.size {w w' : World} (h : Gr w w') : w.heap.size ≤ w'.heap.size := h.2.2.2.1
theorem Gr.refl (w : World) : Gr w w := Gr.of (Below.refl _ _)
theorem Gr.alloc {W w' : World} (h : Gr W w') (c : Array Value) (t : TypeId) : Gr W (w'.alloc (.cells c t)) := Gr.of (Below.alloc h.below h.size _)
theorem Gr.setCell {W w' : World} (h : Gr W w') {a : Addr} (ha : W.heap.size ≤ a.block) (v : Value) : Gr W (w'.setCell a v) := Gr.of (Below.setCell h.below ha v)
theorem Gr.drew {W w' : World} (h : Gr W w') : Gr W w'.drew := h
theorem Gr.trans {W w1 w2 : World} (h : Gr W w1) (h' : Gr w1 w2) : Gr W w2 := Gr.of (Below.trans h.below (h'.below.mono h.size))
theorem Gr.setRow {W w' : World} (h : Gr W w') {g : Nat} (hg : W.heap.size ≤ g) (cs : Array Value) : Gr W (w'.setRow g cs) := by
 obtain ⟨h1, h2, h3, h4, h5⟩ := h
 refine ⟨h1, h2, h3, by simpa using h4, fun k hk => ?_⟩
 rw [setRow_other w' g k cs (by omega)]
 exact h5 k hk
theorem Gr.append {W w w' : World} {row : Option Nat} (h : Gr W w) (hg : w.grownBy w' row) (hr : ∀ k, row = some k → W.heap.size ≤ k) : Gr W w' := Gr.of (Below.grown h.below hg h.size hr)
theorem wpList_store_row {P : Program} {ops : Array Oper} {rest : List Oper} {op : Oper} {a : Act} {w : World} {Q : Exit → Act → World → Prop} (hgd : op.guard = none) (ty : TypeId) (x y : Operand) (ho : op.op = .store ty x y)
  (g : Nat) (t : TypeId) (old cells : Array Value) (hx : a.eval x = .pointer (some ⟨g, 0, none⟩)) (hy : a.eval y = .agg cells)
  (hg : w.heap[g]? = some (.cells old t (0, 0))) (hi : (P.info? ty).map (·.size) = some cells.size) (hs : old.size = cells.size) (h1 : cells.all (·.oneCell') = true)
  (h : wpList P ops Q rest (a.put op.dst undef) (w.setRow g cells)) : wpList P ops Q (op :: rest) a w := by
 refine wpList_plain hgd fun _ hK => ?_
 unfold Oper.wp execOp
 have hst := run_storeVar_row (P := P) w g t ty old cells hg hi hs h1
 simp only [ho, hx, hy, Instr.storeAt, Instr.sureAddr, Sem.run_bind, Sem.run_pure, Result.andThen_ok, hst]
 exact hK _ _ h
theorem tab_one (n : Nat) (g : Nat → Nat) : (tab n g).all (·.oneCell') = true := by
 rw [Array.all_eq_true_iff_forall_mem]
 intro v hv
 simp [tab] at hv
 obtain ⟨j, _, rfl⟩ := hv
 rfl
theorem info39 : (Tryz.prog.info? 127).map (·.size) = some 255 := by kernel_rfl
theorem info41 : (Tryz.prog.info? 128).map (·.size) = some 256 := by kernel_rfl
theorem under39 : Tryz.prog.underlying 127 = some (.array 255 5) := by kernel_rfl
theorem under41 : Tryz.prog.underlying 128 = some (.array 256 5) := by kernel_rfl
def pw (k : Nat) : Nat → Nat := fun j => if j < k then M.exN j else 0
def pwWorld (w : World) (k : Nat) : World := (w.alloc (.cells (tab 255 fun _ => 0) 127)).alloc (.cells (tab 255 (pw k)) 127)
theorem pw_set (k : Nat) (h : k < 255) : (tab 255 (pw k)).setIfInBounds k (.int .u8 ((M.exN k : Nat) : Int)) = tab 255 (pw (k + 1)) := by
 rw [tab_set 255 _ k _ h]
 apply tab_congr
 intro j _
 unfold pw
 by_cases h : j = k
 ·simp [h]
 ·by_cases h2 : j < k
  ·rw [if_neg h, if_pos h2, if_pos (by omega)]
  ·rw [if_neg h, if_neg h2, if_neg (by omega)]
theorem pw_nil : tab 255 (fun _ => 0) = tab 255 (pw 0) := tab_congr 255 _ _ fun j _ => by simp [pw]
theorem pw_all : tab 255 (pw 255) = tab 255 M.exN := tab_congr 255 _ _ fun j h => by simp [pw, h]
set_option maxRecDepth 100000 in
set_option maxHeartbeats 400000 in
theorem powers_any (w : World) :
  Calls Tryz.prog 98 #[] w fun e w' => e = .returned (.agg (tab 255 M.exN)) ∧ Gr w w' := by
 have z := zero39
 go_enter Tryz.func98, Tryz.ntmps98
 go_wp2
 refine wp_scope_jumps 0 (fun a' w' => ∃ (k : Nat) (u4 u5 u6 u7 u8 u9 u10 u11 u12 : Value), 1 ≤ k ∧ k < 255 ∧ w' = pwWorld w k ∧ a' = { tmps := #[.pointer (some ⟨w.heap.size, 0, none⟩), .pointer (some ⟨w.heap.size + 1, 0, none⟩), .int .u8 (M.exN k), .int .i64 k, u4, u5, u6, u7, u8, u9, u10, u11, u12, undef], defers := [] }) (fun a' _ => 255 - (intOf (a'.tmps.getD 3 undef)).toNat) rfl ?_ ?_
 ·go_wp2
  go_step3
  generalize hc : tab 255 (fun _ => 0) = c
  have hg0 : c[0]? = some (.int .u8 0) := by rw [← hc]; exact tab_get 255 _ 0 (by omega)
  have HC := Lib.hid hc
  clear hc z
  go_wp2_with (go_at_call 123; refine (triple_any _ (by omega) (by omega) _).mono ?_; rintro e w' ⟨rfl, rfl⟩)
  go_step3
  have e1 : M.tripleN 1 = M.exN 1 := by decide +kernel
  rw [e1]
  refine ⟨rfl, 1, _, _, _, _, _, _, _, _, _, by omega, by omega, ?_, rfl⟩
  rw [← HC.out]
  unfold pwWorld
  rw [← pw_set 0 (by omega), ← pw_nil, M.exN_zero]
  rfl
 ·rintro a' w' ⟨k, u4, u5, u6, u7, u8, u9, u10, u11, u12, hk1, hk2, rfl, rfl⟩
  have hb := M.exN_lt k
  have hcs : (tab 255 (pw k)).size = 255 := tab_size _ _
  have hst := pw_set k hk2
  have hgk : (tab 255 (pw k))[k]? = some (.int .u8 0) := by rw [tab_get 255 (pw k) k hk2]; simp [pw]
  unfold pwWorld
  generalize hc0 : tab 255 (fun _ => 0) = c0
  generalize tab 255 (pw k) = c at *
  have HC := Lib.hid hc0
  have HS := Lib.hid hst
  have HZ := Lib.hid hcs
  clear hc0 z hst hcs
  generalize hx : M.exN k = x at *
  have HX := Lib.hid hx
  clear hx
  by_cases hlt : k < 254
  ·go_wp2_with (go_at_call 123; refine (triple_any _ (by omega) (by omega) _).mono ?_; rintro e w' ⟨rfl, rfl⟩)
   go_step3
   rw [show M.tripleN x = M.exN (k + 1) from by rw [M.exN_succ k hlt, HX.out], show (k : Int) + 1 = ((k + 1 : Nat) : Int) from by omega]
   refine ⟨rfl, ⟨k + 1, _, _, _, _, _, _, _, _, _, by omega, by omega, ?_, rfl⟩, ?_⟩
   ·rw [HS.out, ← HC.out]
   ·simp [intOf]
    omega
  ·obtain rfl : k = 254 := by omega
   generalize hd : c.setIfInBounds 254 (.int .u8 (x : Int)) = d at *
   have HD := Lib.hid hd
   clear hd
   go_wp2_with fail
   rw [HD.out]
   refine (triple_any _ (by omega) (by omega) _).mono ?_
   rintro e w' ⟨rfl, rfl⟩
   have g1 := heap_alloc2_new w (.cells c0 127) (.cells d 127)
   have g2 := heap_alloc2_old w (.cells c0 127) (.cells d 127)
   have hd : d = tab 255 M.exN := HS.out.trans pw_all
   have q0 : c0.size = d.size := by rw [hd, ← HC.out, tab_size, tab_size]
   have q1 : (Tryz.prog.info? 127).map (·.size) = some d.size := by rw [hd, tab_size]; exact info39
   have q2 : d.all (·.oneCell') = true := by rw [hd]; exact tab_one _ _
   have Q0 := Lib.hid q0
   have Q1 := Lib.hid q1
   have Q2 := Lib.hid q2
   have D := Lib.hid hd
   clear hd q0 q1 q2
   go_wp2_with (first | (refine wpList_load_row rfl 127 _ rfl (w.heap.size + 1) rfl 127 d (0, 0) _ g1 under39 rfl Q1.out ?_) | (refine wpList_store_row rfl 127 _ _ rfl w.heap.size 127 c0 d rfl rfl g2 Q1.out Q0.out Q2.out ?_))
   simp only [Exit.jump]
   refine bodyPost_ret_by (results_cell_row rfl _ _ w.heap.size 127 d (0, 0) _ rfl (setRow_heap _ _ c0 _ _ _ g2) under39 rfl Q1.out) rfl ⟨by rw [D.out], ?_⟩
   exact Gr.setRow (((Gr.refl _).alloc _ _).alloc _ _) (Nat.le_refl _) _
end Go.Proofs.YtbbglejdfbkjlaaGreat
namespace Go.Proofs.YtbbglejdfbkjlaaGreat
open Go.RowKit
def Kp (F : Nat → Prop) (w w' : World) : Prop := w'.os = w.os ∧ w'.tape = w.tape ∧ w'.output = w.output ∧ w.heap.size ≤ w'.heap.size ∧ ∀ k, k < w.heap.size → ¬ F k → w'.heap[k]? = w.heap[k]?
theorem Kp.size {F : Nat → Prop} {w w' : World} (h : Kp F w w') : w.heap.size ≤ w'.heap.size := h.2.2.2.1
theorem Kp.refl (F : Nat → Prop) (w : World) : Kp F w w := ⟨rfl, rfl, rfl, Nat.le_refl _, fun _ _ _ => rfl⟩
theorem Gr.kp {w w' : World} (h : Gr w w') (F : Nat → Prop) : Kp F w w' := ⟨h.1, h.2.1, h.2.2.1, h.2.2.2.1, fun k hk _ => h.2.2.2.2 k hk⟩
theorem Kp.trans {F F' : Nat → Prop} {w w1 w2 : World} (h : Kp F w w1) (h' : Kp F' w1 w2) (hF : ∀ k, F' k → F k ∨ w.heap.size ≤ k) : Kp F w w2 :=
 ⟨by rw [h'.1, h.1], by rw [h'.2.1, h.2.1], by rw [h'.2.2.1, h.2.2.1], Nat.le_trans h.size h'.size, fun k hk hn => by
   rw [h'.2.2.2.2 k (Nat.lt_of_lt_of_le hk h.size) (fun e => by
     rcases hF k e with c | c
     · exact hn c
     · omega), h.2.2.2.2 k hk hn]⟩
theorem Kp.mono {F F' : Nat → Prop} {w w1 : World} (h : Kp F w w1) (hF : ∀ k, F k → F' k) : Kp F' w w1 := ⟨h.1, h.2.1, h.2.2.1, h.2.2.2.1, fun k hk hn => h.2.2.2.2 k hk fun e => hn (hF k e)⟩
theorem Kp.gr {F : Nat → Prop} {w0 w w' : World} (h : Kp F w w') (h0 : Gr w0 w) (hF : ∀ k, F k → w0.heap.size ≤ k) : Gr w0 w' :=
 ⟨by rw [h.1, h0.1], by rw [h.2.1, h0.2.1], by rw [h.2.2.1, h0.2.2.1], Nat.le_trans h0.size h.size, fun k hk => by
   rw [h.2.2.2.2 k (Nat.lt_of_lt_of_le hk h0.size) (fun e => by have := hF k e; omega), h0.2.2.2.2 k hk]⟩
theorem Kp.block {F : Nat → Prop} {w w' : World} (h : Kp F w w') {g : Nat} {o : Obj} (hg : w.heap[g]? = some o) (hn : ¬ F g) : w'.heap[g]? = some o := by
 rw [h.2.2.2.2 g (Array.getElem?_eq_some_iff.1 hg).1 hn]
 exact hg
theorem Kp.cell {F : Nat → Prop} {w w' : World} (h : Kp F w w') {a : Addr} {x : Value} (hx : w.cell? a = some x) (hn : ¬ F a.block) : w'.cell? a = some x := by
 rw [World.cell?_of_block (h.2.2.2.2 a.block (World.block_lt_of_cell? w a hx) hn)]
 exact hx
theorem Kp.set (w : World) (g i : Nat) (v : Value) : Kp (fun k => k = g) w (w.setCell ⟨g, i, none⟩ v) := by
 have h : Below 0 w (w.setCell ⟨g, i, none⟩ v) := Below.setCell (Below.refl _ _) (Nat.zero_le _) v
 exact ⟨h.os, h.tape, h.output, h.size, fun k _ hn => heap_setCell_other _ _ _ _ hn⟩
theorem Kp.drew {F : Nat → Prop} {w w' : World} (h : Kp F w w') : Kp F w w'.drew := h
end Go.Proofs.YtbbglejdfbkjlaaGreat
namespace Go.Proofs.YtbbglejdfbkjlaaGreat
open Go.RowKit
def I64 (x : Int) : Prop := -9223372036854775808 ≤ x ∧ x < 9223372036854775808
def Zs (w : World) (v : Value) (l : List Int) : Prop :=
 (∀ x ∈ l, I64 x) ∧ ∃ oa c, v = .slice oa l.length c ∧ l.length ≤ c ∧ c ≤ 9223372036854775807 ∧ (oa = none → c = 0) ∧ ∀ a, oa = some a → ∀ i, i < l.length → w.cell? (a.add i) = some (.int .i64 (l.getD i 0))
theorem cell_gr {w w' : World} (hg : Gr w w') {a : Addr} {x : Value} (h : w.cell? a = some x) : w'.cell? a = some x := (hg.kp fun _ => False).cell h (fun e => e)
theorem Zs.rng {w : World} {v : Value} {l : List Int} (h : Zs w v l) (i : Nat) (hi : i < l.length) : I64 (l.getD i 0) := by
 rw [List.getD_eq_getElem?_getD, List.getElem?_eq_getElem hi]
 exact h.1 _ (List.getElem_mem hi)
theorem Zs.grown {w w' : World} {v : Value} {l : List Int} (h : Zs w v l) (hg : Gr w w') : Zs w' v l := by
 obtain ⟨h0, oa, c, h1, h2, h3, h4, h5⟩ := h
 exact ⟨h0, oa, c, h1, h2, h3, h4, fun a ha i hi => cell_gr hg (h5 a ha i hi)⟩
theorem i64_of_wf {a : Int} (h : (Lit.int .i64 a).wf = true) : I64 a := by
 have := bounds_i64 h
 unfold I64
 omega
theorem Zs.of_in {w : World} {a : Option Addr} {len cap : Nat} {zs : List Int}
  (h : (a = none ∧ len = 0 ∧ cap = 0 ∧ zs = []) ∨ ∃ x, a = some x ∧ len ≤ cap ∧ cap ≤ maxLen ∧ zs.length = cap ∧ (∀ i, i < zs.length → w.cell? (x.add i) = some (.int .i64 (zs.getD i 0))) ∧ ∀ n ∈ zs, (Lit.int .i64 n).wf = true) :
  Zs w (.slice a len cap) (zs.take len) ∧ (zs.take len).length = len := by
 rcases h with ⟨rfl, rfl, rfl, rfl⟩ | ⟨x, rfl, h1, h2, h3, h4, h5⟩
 ·exact ⟨⟨by simp, none, 0, rfl, by simp, by omega, fun _ => rfl, fun a h => by cases h⟩, rfl⟩
 ·have hl : (zs.take len).length = len := by rw [List.length_take]; omega
  refine ⟨⟨fun z hz => i64_of_wf (h5 z (List.mem_of_mem_take hz)), some x, cap, by rw [hl], by rw [hl]; exact h1, by have : maxLen = 9223372036854775807 := rfl; omega, (fun h => by cases h), fun a ha i hi => ?_⟩, hl⟩
  cases ha
  rw [hl] at hi
  rw [h4 i (by omega), List.getD_eq_getElem?_getD, List.getD_eq_getElem?_getD, List.getElem?_take_of_lt hi]
theorem Zs.form3 {w : World} {v : Value} {l : List Int} (h : Zs w v l) : ∃ o m c, v = .slice o m c := by
 obtain ⟨_, oa, c, h1, _⟩ := h
 exact ⟨oa, _, c, h1⟩
def AwayZ (F : Nat → Prop) (v : Value) : Prop := ∀ a m c, v = .slice (some a) m c → 0 < m → ¬ F a.block
theorem add_blk (a : Addr) (n : Nat) : (a.add n).block = a.block := by
 unfold Addr.add
 split <;> rfl
theorem Zs.kp {F : Nat → Prop} {w w' : World} {v : Value} {l : List Int} (h : Zs w v l) (hk : Kp F w w') (ha : AwayZ F v) : Zs w' v l := by
 obtain ⟨h0, oa, c, rfl, h2, h3, h4, h5⟩ := h
 exact ⟨h0, oa, c, rfl, h2, h3, h4, fun a he i hi => hk.cell (h5 a he i hi) (by
   rw [add_blk]
   subst he
   exact ha a _ c rfl (by omega))⟩
end Go.Proofs.YtbbglejdfbkjlaaGreat
namespace Go.Proofs.YtbbglejdfbkjlaaGreat
open Go.RowKit
def nextS (s : Nat) : Nat := (s * 6364136223846793005 + 1442695040888963407) % 18446744073709551616
def topS (s : Nat) : Nat := s / 4294967296
theorem nextS_lt (s : Nat) : nextS s < 18446744073709551616 := Nat.mod_lt _ (by omega)
theorem topS_lt {s : Nat} (h : s < 18446744073709551616) : topS s < 4294967296 := by unfold topS; omega
def RAt (w : World) (g s : Nat) : Prop := w.heap[g]? = some (.cells #[.int .u64 (s : Int)] 121 (0, 0))
theorem RAt.cell {w : World} {g s : Nat} (h : RAt w g s) : w.cell? ⟨g, 0, none⟩ = some (.int .u64 (s : Int)) := by
 rw [cell_of_row w g 0 _ _ _ h]
 rfl
theorem RAt.frozen {w : World} {g s : Nat} (h : RAt w g s) : w.frozen? ⟨g, 0, none⟩ = false := frozen_of_row w g 0 _ _ h
theorem RAt.set {w : World} {g s : Nat} (h : RAt w g s) (t : Nat) : RAt (w.setCell ⟨g, 0, none⟩ (.int .u64 (t : Int))) g t := by
 unfold RAt at *
 rw [heap_setCell_same _ _ _ _ _ _ h]
 rfl
theorem RAt.kept {F : Nat → Prop} {w w' : World} {g s : Nat} (h : RAt w g s) (hk : Kp F w w') (hn : ¬ F g) : RAt w' g s := hk.block h hn
theorem RAt.lt {w : World} {g s : Nat} (h : RAt w g s) : g < w.heap.size := (Array.getElem?_eq_some_iff.1 h).1
theorem next_wrap (s : Nat) : IntKind.u64.wrap (IntKind.u64.wrap ((s : Int) * 6364136223846793005) + 1442695040888963407) = ((nextS s : Nat) : Int) := by
 have hw : ∀ x : Int, IntKind.u64.wrap x = x % 18446744073709551616 := fun x => by simp [IntKind.wrap, IntKind.bits, IntKind.signed]
 rw [hw, hw]
 unfold nextS
 omega
theorem top_wrap (s : Nat) : ((nextS s : Nat) : Int) / 4294967296 % 4294967296 = ((topS (nextS s) : Nat) : Int) := by
 have := nextS_lt s
 unfold topS
 omega
set_option maxHeartbeats 400000 in
theorem refNext_any (g s : Nat) (w : World) (h : RAt w g s) :
  Calls Tryz.prog 79 #[.pointer (some ⟨g, 0, none⟩)] w fun e w' => e = .returned (.int .u32 (topS (nextS s) : Nat)) ∧ RAt w' g (nextS s) ∧ Kp (fun k => k = g) w w' := by
 have q1 := h.cell
 have q2 := h.frozen
 have H := Lib.hid h
 clear h
 go_enter Tryz.func79, Tryz.ntmps79
 go_wp2
 go_ret
 rw [next_wrap]
 refine ⟨?_, H.out.set _, Kp.set _ _ _ _⟩
 rw [← top_wrap s]
 rfl
def belowV (s : Nat) (n : Int) : Int := if n ≤ 0 then 0 else ((topS (nextS s) : Nat) : Int) % n
def belowS (s : Nat) (n : Int) : Nat := if n ≤ 0 then s else nextS s
theorem belowV_rng (s : Nat) (n : Int) : 0 ≤ belowV s n ∧ belowV s n < 4294967296 := by
 unfold belowV
 split
 ·omega
 ·have h1 := topS_lt (nextS_lt s)
  have h2 := Int.emod_nonneg ((topS (nextS s) : Nat) : Int) (by omega : n ≠ 0)
  have h3 : ((topS (nextS s) : Nat) : Int) % n ≤ ((topS (nextS s) : Nat) : Int) := by
   rw [Int.emod_def]
   have h4 := Int.ediv_nonneg (by omega : (0 : Int) ≤ ((topS (nextS s) : Nat) : Int)) (by omega : 0 ≤ n)
   have h5 := Int.mul_nonneg (by omega : 0 ≤ n) h4
   omega
  omega
set_option maxHeartbeats 400000 in
theorem refBelow_any (g s : Nat) (n : Int) (w : World) (h : RAt w g s) (hn : n < 9223372036854775808) :
  Calls Tryz.prog 112 #[.pointer (some ⟨g, 0, none⟩), .int .i64 n] w fun e w' => e = .returned (.int .i64 (belowV s n)) ∧ RAt w' g (belowS s n) ∧ Kp (fun k => k = g) w w' := by
 have H := Lib.hid h
 clear h
 by_cases h0 : n ≤ 0
 ·have e1 : belowV s n = 0 := if_pos h0
  have e2 : belowS s n = s := if_pos h0
  rw [e1, e2]
  clear e1 e2
  go_enter Tryz.func112, Tryz.ntmps112
  go_wp2
  go_ret
  exact ⟨rfl, H.out, Kp.refl _ _⟩
 ·have e1 : belowV s n = ((topS (nextS s) : Nat) : Int) % n := if_neg h0
  have e2 : belowS s n = nextS s := if_neg h0
  have E1 := Lib.hid e1
  have E2 := Lib.hid e2
  have ht := topS_lt (nextS_lt s)
  have hp : 0 < n := by omega
  clear e1 e2 h0
  go_enter Tryz.func112, Tryz.ntmps112
  go_wp2_with fail
  refine (refNext_any g s _ H.out).mono ?_
  rintro e w1 ⟨rfl, hr, hk⟩
  have HR := Lib.hid hr
  have HK := Lib.hid hk
  clear hr hk
  generalize topS (nextS s) = tt at *
  have hr1 := Int.emod_nonneg (tt : Int) (by omega : n ≠ 0)
  have hr2 := Int.emod_lt_of_pos (tt : Int) hp
  generalize hrr : (tt : Int) % n = rr at *
  have HRR := Lib.hid hrr
  clear hrr
  go_wp2_with fail
  go_ret
  have hw : wrap64 rr = rr := by unfold wrap64; omega
  refine ⟨by rw [E1.out, HRR.out, hw]; rfl, by rw [E2.out]; exact HR.out, HK.out⟩
structure DrawOk (At : World → Value → (Nat → Prop) → Nat → Prop) : Prop where
 ptr : ∀ {w : World} {d : Value} {F : Nat → Prop} {s : Nat}, At w d F s → ∃ a, d = .pointer (some a)
 lt : ∀ {w : World} {d : Value} {F : Nat → Prop} {s : Nat}, At w d F s → ∀ k, F k → k < w.heap.size
 keep : ∀ {w w' : World} {d : Value} {F G : Nat → Prop} {s : Nat}, At w d F s → Kp G w w' → (∀ k, F k → ¬ G k) → At w' d F s
 new : ∀ (s : Nat) (w : World), s < 4294967296 → Calls Tryz.prog 136 #[.int .u32 s] w fun e w' => ∃ d F, e = .returned d ∧ At w' d F s ∧ Gr w w' ∧ ∀ k, F k → w.heap.size ≤ k
 next : ∀ (d : Value) (F : Nat → Prop) (s : Nat) (w : World), s < 18446744073709551616 → At w d F s → Calls Tryz.prog 137 #[d] w fun e w' => e = .returned (.int .u32 (topS (nextS s) : Nat)) ∧ At w' d F (nextS s) ∧ Kp F w w'
 below : ∀ (d : Value) (F : Nat → Prop) (s : Nat) (n : Int) (w : World), s < 18446744073709551616 → n < 9223372036854775808 → -9223372036854775808 ≤ n → At w d F s → Calls Tryz.prog 139 #[d, .int .i64 n] w fun e w' => e = .returned (.int .i64 (belowV s n)) ∧ At w' d F (belowS s n) ∧ Kp F w w'
 nextNil : ∀ (w : World), Calls Tryz.prog 137 #[.pointer none] w fun e w' => e = .returned (.int .u32 0) ∧ Gr w w'
 belowNil : ∀ (n : Int) (w : World), n < 9223372036854775808 → -9223372036854775808 ≤ n → Calls Tryz.prog 139 #[.pointer none, .int .i64 n] w fun e w' => e = .returned (.int .i64 0) ∧ Gr w w'
end Go.Proofs.YtbbglejdfbkjlaaGreat
namespace Go.Proofs.YtbbglejdfbkjlaaGreat
open Go.RowKit
theorem run_index39 (k : Nat) (hk : k < 255) (p : Array Value) (v : Value) (hp : p[k]? = some v) (w : World) :
  (Instr.index 127 (.agg p) (.int .i64 k)).run Tryz.prog w = .ok v w := by
 simp [Instr.index, asIntOf, run_underlying under39, hk, part, hp, Sem.run_bind]
theorem g3 (w : World) (A B C : Obj) : (((w.alloc A).alloc B).alloc C).heap[w.heap.size]? = some A := by
 rw [heap_alloc_old _ _ (by simp; omega), heap_alloc_old _ _ (by simp)]
 exact heap_alloc_new _ _
theorem g3' (w : World) (A B C : Obj) : (((w.alloc A).alloc B).alloc C).heap[w.heap.size + 1]? = some B := by
 rw [heap_alloc_old _ _ (by simp)]
 exact heap_alloc2_new _ _ _
theorem g3'' (w : World) (A B C : Obj) : (((w.alloc A).alloc B).alloc C).heap[w.heap.size + 1 + 1]? = some C := by
 have h := heap_alloc_new ((w.alloc A).alloc B) C
 simpa using h
def lw (k : Nat) : Nat → Nat := fun x => if x ≠ 0 ∧ M.lgN x < k then M.lgN x else 0
theorem lw_nil : tab 256 (fun _ => 0) = tab 256 (lw 0) := tab_congr 256 _ _ fun j _ => by simp [lw]
theorem lw_all : tab 256 (lw 255) = tab 256 M.lgN := tab_congr 256 _ _ fun x h => by
 unfold lw
 by_cases h0 : x = 0
 ·subst h0
  rw [if_neg (by simp), M.lgN_zero]
 ·rw [if_pos ⟨h0, (M.ex_lg x h h0).2⟩]
theorem lw_set (k : Nat) (h : k < 255) : (tab 256 (lw k)).setIfInBounds (M.exN k) (.int .u8 (k : Int)) = tab 256 (lw (k + 1)) := by
 rw [tab_set 256 _ _ _ (M.exN_lt k)]
 apply tab_congr
 intro x hx
 obtain ⟨h1, h2⟩ := M.lg_ex k h
 unfold lw
 by_cases e : x = M.exN k
 ·subst e
  rw [if_pos rfl, if_pos ⟨h2, by omega⟩, h1]
 ·rw [if_neg e]
  by_cases h0 : x = 0
  ·subst h0
   simp
  ·have : M.lgN x ≠ k := fun c => e (by rw [← c]; exact (M.ex_lg x hx h0).1.symm)
   by_cases h3 : M.lgN x < k
   ·rw [if_pos ⟨h0, h3⟩, if_pos ⟨h0, by omega⟩]
   ·rw [if_neg (fun c => h3 c.2), if_neg (fun c => h3 (by omega))]
def lwWorld (w : World) (p q : Array Value) (k : Nat) : World := ((w.alloc (.cells p 127)).alloc (.cells q 128)).alloc (.cells (tab 256 (lw k)) 128)
set_option maxRecDepth 100000 in
set_option maxHeartbeats 400000 in
theorem logs_any (w : World) :
  Calls Tryz.prog 99 #[.agg (tab 255 M.exN)] w fun e w' => e = .returned (.agg (tab 256 M.lgN)) ∧ Gr w w' := by
 have z := zero41
 have hs : (Tryz.prog.info? 127).map (·.size) = some (tab 255 M.exN).size := by rw [tab_size]; exact info39
 have ht : ∀ k, k < 255 → (tab 255 M.exN)[k]? = some (.int .u8 ((M.exN k : Nat) : Int)) := fun k hk => tab_get 255 _ k hk
 generalize tab 255 M.exN = p at *
 generalize hq : tab 256 (fun _ => 0) = q at *
 have S := Lib.hid hs
 have T := Lib.hid ht
 have X := Lib.hid hq
 clear hs ht hq
 go_enter Tryz.func99, Tryz.ntmps99
 have G1 := Lib.hid (g3 w (.cells p 127) (.cells q 128) (.cells q 128))
 go_wp2_with (refine wpList_load_row rfl 127 _ rfl w.heap.size rfl 127 p (0, 0) _ G1.out under39 rfl S.out ?_)
 clear G1
 go_loopw [7] (fun i wr => ∃ k : Nat, k ≤ 255 ∧ i = .int .i64 k ∧ wr = lwWorld w p q k) (fun i _ => 255 - (intOf i).toNat)
 case atStart => exact ⟨0, by omega, rfl, by unfold lwWorld; rw [← lw_nil, X.out]⟩
 case round =>
  clear z
  obtain ⟨k, hk, rfl, rfl⟩ := hrel
  unfold lwWorld
  by_cases hlt : k < 255
  ·have hpk := fun w => run_index39 k hlt p _ (T.out k hlt) w
   have hb := M.exN_lt k
   have hset := lw_set k hlt
   have hget := tab_get 256 (lw k) (M.exN k) hb
   generalize tab 256 (lw k) = c at *
   have HS := Lib.hid hset
   clear hset
   generalize M.exN k = x at *
   go_wp2
   exact ⟨⟨k + 1, by omega, by go_num, by rw [HS.out]⟩, by simp [intOf]; omega⟩
  ·obtain rfl : k = 255 := by omega
   have hg1 := Lib.hid (g3'' w (.cells p 127) (.cells q 128) (.cells (tab 256 (lw 255)) 128))
   have hg2 := Lib.hid (g3' w (.cells p 127) (.cells q 128) (.cells (tab 256 (lw 255)) 128))
   rw [lw_all] at hg1 hg2
   rw [lw_all]
   have q0 : q.size = (tab 256 M.lgN).size := by rw [← X.out, tab_size, tab_size]
   have q1 : (Tryz.prog.info? 128).map (·.size) = some (tab 256 M.lgN).size := by rw [tab_size]; exact info41
   have q2 := tab_one 256 M.lgN
   generalize hd : tab 256 M.lgN = d at *
   have D := Lib.hid hd
   clear hd
   have Q0 := Lib.hid q0
   have Q1 := Lib.hid q1
   have Q2 := Lib.hid q2
   clear q0 q1 q2
   go_wp2_with (first | (refine wpList_load_row rfl 128 _ rfl (w.heap.size + 1 + 1) rfl 128 d (0, 0) _ hg1.out under41 rfl Q1.out ?_) | (refine wpList_store_row rfl 128 _ _ rfl (w.heap.size + 1) 128 q d rfl rfl hg2.out Q1.out Q0.out Q2.out ?_))
   refine bodyPost_ret_by (results_cell_row rfl _ _ (w.heap.size + 1) 128 d (0, 0) _ rfl (setRow_heap _ _ q _ _ _ hg2.out) under41 rfl Q1.out) rfl ⟨by rw [D.out], ?_⟩
   exact Gr.setRow ((((Gr.refl _).alloc _ _).alloc _ _).alloc _ _) (by omega) _
end Go.Proofs.YtbbglejdfbkjlaaGreat
namespace Go.Proofs.YtbbglejdfbkjlaaGreat
open Go.RowKit
theorem foldSet (off : Nat) : ∀ (xs : List Value) (n : Nat) (cells : Array Value) (i : Nat),
  ((xs.zipIdx n).foldl (fun cs x => cs.setIfInBounds (off + x.2) x.1) cells)[i]? = if off + n ≤ i ∧ i < off + n + xs.length ∧ i < cells.size then xs[i - (off + n)]? else cells[i]?
 | [], n, cells, i => by
  rw [if_neg (by simp; omega)]
  rfl
 | x :: xs, n, cells, i => by
  rw [List.zipIdx_cons, List.foldl_cons, foldSet off xs (n + 1), Array.size_setIfInBounds, Array.getElem?_setIfInBounds, List.length_cons]
  by_cases h : off + n = i
  ·subst h
   rw [if_neg (by omega), if_pos rfl]
   by_cases h2 : off + n < cells.size
   ·rw [if_pos h2, if_pos (by omega)]
    simp
   ·rw [if_neg h2, if_neg (by omega), Array.getElem?_eq_none (by omega)]
  ·rw [if_neg h]
   by_cases h2 : off + (n + 1) ≤ i ∧ i < off + (n + 1) + xs.length ∧ i < cells.size
   ·rw [if_pos h2, if_pos (by omega), show i - (off + n) = (i - (off + (n + 1))) + 1 from by omega, List.getElem?_cons_succ]
   ·rw [if_neg h2, if_neg (by omega)]
theorem fill_two (z p l : Array Value) (hp : p.size = 255) (hl : l.size = 256) (hz : z.size = 511) :
  Instr.fill (([(0, 255), (255, 256)] : List (Nat × Nat)).toArray[·]?) z [(0, .agg p), (1, .agg l)] = some (p ++ l) := by
 have f1 : ∀ (off : Nat) (xs cells : Array Value), (xs.zipIdx.foldl (fun cs (c, j) => cs.setIfInBounds (off + j) c) cells) = ((xs.toList.zipIdx 0).foldl (fun cs x => cs.setIfInBounds (off + x.2) x.1) cells) := by
  intro off xs cells
  rw [← Array.foldl_toList, Array.toList_zipIdx]
 have s1 : ∀ (off : Nat) (xs : List (Value × Nat)) (cells : Array Value), (xs.foldl (fun cs x => cs.setIfInBounds (off + x.2) x.1) cells).size = cells.size := by
  intro off xs
  induction xs with
  | nil => intro cells; rfl
  | cons x xs ih => intro cells; rw [List.foldl_cons, ih, Array.size_setIfInBounds]
 simp only [Instr.fill, Value.cells, f1]
 have s2 := fun xs cells => s1 0 xs cells
 have f2 := fun xs n cells i => foldSet 0 xs n cells i
 simp only [Nat.zero_add] at s2 f2
 simp [hp, hl, hz]
 refine ⟨by rw [s2]; omega, ?_⟩
 apply Array.ext_getElem?
 intro i
 rw [foldSet, s2, f2, Array.getElem?_append]
 by_cases h1 : i < 255
 ·rw [if_neg (by omega), if_pos (by simp [hp, hz]; omega), if_pos (by omega)]
  simp
 ·by_cases h2 : i < 511
  ·rw [if_pos (by simp [hl, hz]; omega), if_neg (by omega)]
   simp [hp]
  ·rw [if_neg (by simp [hl, hz]; omega), if_neg (by simp [hp]; omega), if_neg (by omega), Array.getElem?_eq_none (by omega), Array.getElem?_eq_none (by omega)]
theorem zero44 : (Tryz.prog.info? 130).map (·.zero) = some (some (.agg (tab 511 fun _ => 0))) := by kernel_rfl
theorem under44 : ∃ fs : Array Field, Tryz.prog.underlying 130 = some (.struct fs) ∧ fs.toList.mapM (fun f => (Tryz.prog.info? f.type).map fun i => (f.offset, i.size)) = some [(0, 255), (255, 256)] := ⟨_, Tryz.underlying130, by kernel_rfl⟩
theorem built44 (p l : Array Value) (hp : p.size = 255) (hl : l.size = 256) : Tryz.prog.built 130 [(0, .agg p), (1, .agg l)] = some (p ++ l) := by
 obtain ⟨fs, h1, h2⟩ := under44
 have hz := zero44
 cases hi : Tryz.prog.info? 130 with
 | none => simp [hi] at hz
 | some it =>
  simp [hi] at hz
  simp only [Program.built, hi, h1, hz, h2]
  exact fill_two _ p l hp hl (tab_size _ _)
theorem keptRow {W w' : World} (hg : Gr W w') {b : Nat} {c : Array Value} {t : TypeId} {fr : Nat × Nat} (h : W.heap[b]? = some (.cells c t fr)) : w'.heap[b]? = some (.cells c t fr) := by
 rw [hg.2.2.2.2 b (Array.getElem?_eq_some_iff.1 h).1]
 exact h
end Go.Proofs.YtbbglejdfbkjlaaGreat
namespace Go.Proofs.YtbbglejdfbkjlaaGreat
open Go.RowKit
def FieldAt (w : World) (b : Nat) : Prop := w.rangeAt b 0 (tab 255 M.exN ++ tab 256 M.lgN).toList
theorem rangeAt_all {w : World} {b : Nat} {C : Array Value} {t : TypeId} {fr : Nat × Nat} (hb : w.heap[b]? = some (.cells C t fr)) : w.rangeAt b 0 C.toList := by
 have := World.rangeAt_of_block hb 0 C.size
 simpa using this
theorem rangeAt_grown {w w' : World} (hg : Gr w w') {b : Nat} {cs : List Value} (h : w.rangeAt b 0 cs) : w'.rangeAt b 0 cs := fun j v hv => by
 have h1 := h j v hv
 have hb := World.block_lt_of_cell? w _ h1
 cases ho : w.heap[b]? with
 | none => simp [World.cell?, ho] at h1
 | some o =>
  cases o with
  | cells c t fr =>
   rw [cell_of_row w' b _ c t fr (keptRow hg ho)]
   rw [cell_of_row w b _ c t fr ho] at h1
   exact h1
  | _ => simp [World.cell?, ho] at h1
theorem wp_built {P : Program} {o : Oper} {a : Act} {w : World} {K : Act → World → Prop} {Q : Exit → Act → World → Prop} (t : TypeId) (parts : Array (Nat × Operand)) (ho : o.op = .build t parts) (cells : Array Value)
  (hf : P.built t (parts.map fun (i, x) => (i, a.eval x)).toList = some cells) (h : K (a.put o.dst (.agg cells)) w) : o.wp P a w K Q :=
 wp_build t parts ho (by rw [hf]; rfl) (by rw [hf]; exact h)
set_option maxRecDepth 100000 in
set_option maxHeartbeats 400000 in
theorem new_any (w : World) :
  Calls Tryz.prog 65 #[] w fun e w' => ∃ b, e = .returned (.pointer (some ⟨b, 0, none⟩)) ∧ FieldAt w' b ∧ Gr w w' := by
 unfold FieldAt
 have z := zero39
 have hpw := powers_any
 have hlg := logs_any
 have hp : (tab 255 M.exN).size = 255 := tab_size _ _
 have hl : (tab 256 M.lgN).size = 256 := tab_size _ _
 have h1 := tab_one 255 M.exN
 have hq : (tab 255 (fun _ => 0)).size = 255 := tab_size _ _
 generalize tab 255 (fun _ => 0) = q at *
 generalize tab 255 M.exN = p at *
 generalize tab 256 M.lgN = l at *
 have HP := Lib.hid hp
 have HL := Lib.hid hl
 have q1 : (Tryz.prog.info? 127).map (·.size) = some p.size := by rw [hp]; exact info39
 have Q1 := Lib.hid q1
 have Q2 := Lib.hid h1
 have Q0 : Hid (q.size = p.size) := Lib.hid (by rw [hq, hp])
 have PW := Lib.hid hpw
 have LG := Lib.hid hlg
 clear hpw hlg hp hl h1 hq q1
 go_enter Tryz.func65, Tryz.ntmps65
 go_wp2_with (first | (go_at_call 98; refine (PW.out _).mono ?_; rintro e w' ⟨rfl, hg⟩; have hw := heap_alloc_new w' (.cells q 127)) | (refine wpList_store_row rfl 127 _ _ rfl _ 127 q p rfl rfl hw Q1.out Q0.out Q2.out ?_; rw [World.setRow_alloc_new]; clear hw))
 have hS := rangeAt_all (heap_alloc_new w' (.cells p 127))
 have hu := under39
 have hi : (Tryz.prog.info? 127).map (·.size) = some p.toList.length := by simpa using Q1.out
 have hb := built44 p l HP.out HL.out
 clear Q1 Q2 Q0 PW z
 refine wp_region_held_drew (S := fun W => W.rangeAt w'.heap.size 0 p.toList) (by kernel_rfl) (by simpa only [World.rangeAt_drew] using hS) (fun hH => ?_)
 refine wpAnyH_take (i := 0) (v := .agg p.toList.toArray) rfl (by kernel_rfl) (by kernel_rfl) (by kernel_rfl) (fun _ _ _ h => h)
  (yieldsIf_load_mid (by rfl) _ _ rfl _ _ rfl p.toList _ (fun _ h => h) hu rfl hi) (by assumption) ?_
 simp only [Act.put, List.setIfInBounds_toArray, Array.toArray_toList]
 refine wpAnyH_take (i := 1) (v := .agg p.toList.toArray) rfl (by kernel_rfl) (by kernel_rfl) (by kernel_rfl) (fun _ _ _ h => h)
  (yieldsIf_load_mid (by rfl) _ _ rfl _ _ rfl p.toList _ (fun _ h => h) hu rfl hi) (by assumption) ?_
 simp only [Act.put, Array.toArray_toList]
 refine wpAnyH_ready (rs := [2]) (by kernel_rfl) (by simp) ?_
 refine AllReadyH.cons rfl (fun K hK => ?_) AllReadyH.nil
 go_simp
 refine (LG.out _).mono ?_
 rintro e w2 ⟨rfl, hg2⟩
 have hH2 := rangeAt_grown hg2 hH
 refine hK.out _ _ hH2 (fun _ => ?_)
 clear hK hH K
 refine wpAnyH_ready (rs := [3]) (by kernel_rfl) (by simp) ?_
 refine AllReadyH.cons rfl (fun K hK => ?_) AllReadyH.nil
 rw [if_pos (by rfl)]
 refine wp_built 130 _ rfl (p ++ l) (by simpa [Act.eval] using hb) ?_
 simp only [Act.put, List.setIfInBounds_toArray]
 refine hK.out _ _ hH2 (fun _ => ?_)
 clear hK K
 generalize hf : p ++ l = f at *
 refine wpAnyH_ready (rs := [4]) (by kernel_rfl) (by simp) ?_
 refine AllReadyH.cons rfl (fun K hK => ?_) AllReadyH.nil
 go_simp
 refine hK.out _ _ (World.rangeAt_alloc hH2 _) (fun _ => ?_)
 clear hK K
 refine wpAnyH_ready (rs := [5]) (by kernel_rfl) (by simp) ?_
 refine AllReadyH.cons rfl (fun K hK => ?_) AllReadyH.nil
 go_simp
 refine hK.out _ _ (World.rangeAt_alloc hH2 _) (fun _ => ?_)
 clear hK K
 refine wpAnyH_done (by kernel_rfl) ?_ _
 go_wp2
 go_ret
 exact ⟨_, rfl, by rw [hf]; exact rangeAt_all (heap_alloc_new _ _), Gr.alloc (Gr.trans (Gr.drew (Gr.alloc hg _ _)) hg2) _ _⟩
end Go.Proofs.YtbbglejdfbkjlaaGreat
namespace Go.Proofs.YtbbglejdfbkjlaaGreat
open Go.RowKit
theorem FieldAt.ex {w : World} {b : Nat} (h : FieldAt w b) (i : Nat) (hi : i < 255) : w.cell? ⟨b, i, none⟩ = some (.int .u8 ((M.exN i : Nat) : Int)) := by
 have h1 := h i (.int .u8 ((M.exN i : Nat) : Int)) (by
   rw [Array.getElem?_toList, Array.getElem?_append, if_pos (by rw [tab_size]; exact hi)]
   exact tab_get 255 _ i hi)
 rwa [Nat.zero_add] at h1
theorem FieldAt.lg {w : World} {b : Nat} (h : FieldAt w b) (x : Nat) (hx : x < 256) : w.cell? ⟨b, 255 + x, none⟩ = some (.int .u8 ((M.lgN x : Nat) : Int)) := by
 have h1 := h (255 + x) (.int .u8 ((M.lgN x : Nat) : Int)) (by
   rw [Array.getElem?_toList, Array.getElem?_append, if_neg (by rw [tab_size]; omega), tab_size, Nat.add_sub_cancel_left]
   exact tab_get 256 _ x hx)
 rwa [Nat.zero_add] at h1
theorem FieldAt.grown {w w' : World} {b : Nat} (h : FieldAt w b) (hg : Gr w w') : FieldAt w' b := rangeAt_grown hg h
theorem FieldAt.put {w : World} {b g o : Nat} {u : Value} (h : FieldAt w b) (hne : b ≠ g) : FieldAt (w.setCell ⟨g, o, none⟩ u) b := fun j v hv => by
 rw [World.cell?_of_block (heap_setCell_other _ _ _ _ hne)]
 exact h j v hv
def IsF (w : World) (f : Value) : Prop := f = .pointer none ∨ ∃ b, f = .pointer (some ⟨b, 0, none⟩) ∧ FieldAt w b
theorem IsF.grown {w w' : World} {f : Value} (h : IsF w f) (hg : Gr w w') : IsF w' f := by
 rcases h with h | ⟨b, h1, h2⟩
 ·exact Or.inl h
 ·exact Or.inr ⟨b, h1, FieldAt.grown h2 hg⟩
set_option maxHeartbeats 400000 in
theorem made_any (f : Value) (w : World) (h : IsF w f) :
  Calls Tryz.prog 120 #[f] w fun e w' => ∃ b, e = .returned (.pointer (some ⟨b, 0, none⟩)) ∧ FieldAt w' b ∧ Gr w w' := by
 rcases h with rfl | ⟨b, rfl, hb⟩
 ·go_enter Tryz.func120, Tryz.ntmps120
  go_wp2_with (go_at_call 65; refine (new_any _).mono ?_; rintro e w' ⟨b, rfl, hf, hg⟩; have HF := Lib.hid hf; clear hf; have HG := Lib.hid hg; clear hg)
  go_ret
  exact ⟨_, rfl, HF.out, HG.out⟩
 ·have h0 := FieldAt.ex hb 0 (by omega)
  rw [M.exN_zero] at h0
  have HF := Lib.hid hb
  clear hb
  go_enter Tryz.func120, Tryz.ntmps120
  go_wp2_with fail
  go_ret
  exact ⟨_, rfl, HF.out, Gr.refl _⟩
set_option maxHeartbeats 400000 in
theorem add_any (f : Value) (a b : Int) (ha : Byt a) (hb : Byt b) (w : World) :
  Calls Tryz.prog 135 #[f, .int .u8 a, .int .u8 b] w fun e w' => e = .returned (.int .u8 ((a.toNat ^^^ b.toNat : Nat) : Int)) ∧ w = w' := by
 obtain ⟨a0, a1⟩ := ha
 obtain ⟨b0, b1⟩ := hb
 go_enter Tryz.func135, Tryz.ntmps135
 go_wp2_with fail
 go_ret
 exact ⟨ret_int (u8_xor a b a0 (by omega) b0 (by omega)), rfl⟩
def mulZ (a b : Int) : Int := ((M.mulN a.toNat b.toNat : Nat) : Int)
def invZ (a : Int) : Int := ((M.invN a.toNat : Nat) : Int)
set_option maxHeartbeats 400000 in
theorem inv_any (f : Value) (a : Int) (ha : Byt a) (w : World) (hf : IsF w f) :
  Calls Tryz.prog 91 #[f, .int .u8 a] w fun e w' => e = .returned (.int .u8 (invZ a)) ∧ Gr w w' := by
 obtain ⟨a0, a1⟩ := ha
 by_cases az : a = 0
 ·subst az
  go_enter Tryz.func91, Tryz.ntmps91
  go_wp2_with fail
  go_ret
  exact ⟨rfl, Gr.refl _⟩
 ·have H := Lib.hid hf
  clear hf
  have ea : (a == 0) = false := by simpa using az
  obtain ⟨x, rfl⟩ := Int.eq_ofNat_of_zero_le a0
  have hx : x < 256 := by omega
  have l1 := (M.ex_lg x hx (by simpa using az)).2
  clear az
  go_enter Tryz.func91, Tryz.ntmps91
  go_wp2_with (go_at_call 120; refine (made_any f _ H.out).mono ?_; rintro e w' ⟨t, rfl, hf, hg⟩; have HF := Lib.hid hf; clear hf; have HG := Lib.hid hg; clear hg)
  have c1 := FieldAt.lg HF.out x hx
  have hi : (255 - M.lgN x) % 255 < 255 := Nat.mod_lt _ (by omega)
  have c3 := FieldAt.ex HF.out _ hi
  have E : Hid (invZ x = ((M.exN ((255 - M.lgN x) % 255) : Nat) : Int)) := Lib.hid (by
    unfold invZ M.invN
    rw [if_neg (by simp at ea; simpa using ea)]
    rfl)
  generalize M.lgN x = p at *
  rw [show (255 - p) % 255 = (-(p : Int) % 255).toNat from by omega] at c3 E
  clear hi
  go_quiet (fail)
  go_wp2
  go_ret
  exact ⟨ret_int E.out.symm, HG.out⟩
theorem mulZ_byt (a b : Int) : Byt (mulZ a b) := by
 have := M.mulN_lt a.toNat b.toNat
 unfold Byt mulZ
 omega
theorem invZ_byt (a : Int) : Byt (invZ a) := by
 have := M.invN_lt a.toNat
 unfold Byt invZ
 omega
def expZ (n : Int) : Int := ((M.exN (n % 255).toNat : Nat) : Int)
theorem expZ_byt (n : Int) : Byt (expZ n) := by
 have := M.exN_lt (n % 255).toNat
 unfold Byt expZ
 omega
set_option maxHeartbeats 400000 in
theorem exp_any (f : Value) (n : Int) (w : World) (hf : IsF w f) :
  Calls Tryz.prog 122 #[f, .int .i64 n] w fun e w' => e = .returned (.int .u8 (expZ n)) ∧ Gr w w' := by
 have H := Lib.hid hf
 clear hf
 unfold expZ
 have hm : (n % 255).toNat < 255 := by omega
 have ht : n.tmod 255 = n % 255 ∨ (n.tmod 255 < 0 ∧ n.tmod 255 + 255 = n % 255) := by
  have := Int.tmod_eq_emod (a := n) (b := 255)
  split at this
  ·omega
  ·simp at this
   omega
 have hk : ((n % 255).toNat : Int) = n % 255 := by omega
 generalize n % 255 = z at *
 generalize z.toNat = k at *
 subst hk
 rcases ht with ht | ⟨ht, hu⟩
 ·go_enter Tryz.func122, Tryz.ntmps122
  go_wp2_with (go_at_call 120; refine (made_any f _ H.out).mono ?_; rintro e w' ⟨t, rfl, hf, hg⟩; have c1 := FieldAt.ex hf k hm; clear hf; have HG := Lib.hid hg; clear hg)
  go_ret
  exact ⟨rfl, HG.out⟩
 ·obtain ⟨r, hr⟩ : ∃ r, n.tmod 255 = r := ⟨_, rfl⟩
  rw [hr] at ht hu
  obtain rfl : r = (k : Int) - 255 := by omega
  clear hu
  go_enter Tryz.func122, Tryz.ntmps122
  go_wp2_with (go_at_call 120; refine (made_any f _ H.out).mono ?_; rintro e w' ⟨t, rfl, hf, hg⟩; have c1 := FieldAt.ex hf k hm; clear hf; have HG := Lib.hid hg; clear hg)
  go_ret
  exact ⟨rfl, HG.out⟩
end Go.Proofs.YtbbglejdfbkjlaaGreat
