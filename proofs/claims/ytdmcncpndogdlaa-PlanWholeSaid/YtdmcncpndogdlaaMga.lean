/-
  Texts laid behind one another: Qa Math Fld Kp Zs Dr Us Log New Fun.
-/
import Derived.Test.YtdmcncpndogdlaaProg
import Derived.KernelRfl
import Derived.WalkKit
import Derived.WalkSpells
import Derived.WalkLawsBesides
import Derived.ScopeJumps
import Derived.Below
import Derived.Outline
import Derived.Lib.Hide
import Derived.Deep.WholeRow
import Derived.Deep.MidRow
import Derived.OpenShut
import Derived.Deep.QuietTactic
import Derived.BigQuiet
import Derived.Deep.AppendLies
import Derived.Deep.RegionHeld3
namespace Go.Proofs.Ytdmcncpndogdlaa.PL

/-- An equation: the sum of what stands at cols is data. -/
structure E (α : Type) where
  cols : List Nat
  data : α
/-- What comes to be known, one column at a time. -/
inductive Der {α : Type} (L : List (E α)) : Nat → Prop
  | by_row (q : E α) (c : Nat) (hq : q ∈ L) (hc : c ∈ q.cols) (h : ∀ d, d ∈ q.cols → d ≠ c → Der L d) : Der L c
theorem Der.mono {α : Type} {L L' : List (E α)} (hs : ∀ q, q ∈ L → q ∈ L') {c : Nat} (h : Der L c) : Der L' c := by
  induction h with
  | by_row q c hq hc _ ih => exact .by_row q c (hs q hq) hc ih
theorem Der.congr {α : Type} {L L' : List (E α)} (hs : ∀ q, q ∈ L ↔ q ∈ L') (c : Nat) : Der L c ↔ Der L' c := ⟨Der.mono fun q => (hs q).1, Der.mono fun q => (hs q).2⟩
theorem Der.lt {α : Type} {L : List (E α)} {n : Nat} (hb : ∀ q, q ∈ L → ∀ c, c ∈ q.cols → c < n) {c : Nat} (h : Der L c) : c < n := by
  cases h with
  | by_row q c hq hc _ => exact hb q hq c hc
/-- A set that no equation makes greater has all that comes to be known. -/
theorem Der.closed {α : Type} {L : List (E α)} {K : Nat → Prop} (hK : ∀ q, q ∈ L → ∀ c, c ∈ q.cols → (∀ d, d ∈ q.cols → d ≠ c → K d) → K c) {c : Nat} (h : Der L c) : K c := by
  induction h with
  | by_row q c hq hc _ ih => exact hK q hq c hc ih

/-- What is added: any order, any grouping; twice is nothing. -/
structure Two (α : Type) where
  add : α → α → α
  zero : α
  comm : ∀ x y, add x y = add y x
  assoc : ∀ x y z, add (add x y) z = add x (add y z)
  nil : ∀ x, add zero x = x
  self : ∀ x, add x x = zero
variable {α : Type} (T : Two α)
theorem Two.nil' (x : α) : T.add x T.zero = x := by rw [T.comm, T.nil]
theorem Two.left_comm (x y z : α) : T.add x (T.add y z) = T.add y (T.add x z) := by rw [← T.assoc, T.comm x y, T.assoc]
theorem Two.cancel {x y z : α} (h : T.add x y = T.add x z) : y = z := by
  have := congrArg (T.add x) h
  rwa [← T.assoc, ← T.assoc, T.self, T.nil, T.nil] at this
theorem Two.move {x y z : α} (h : T.add x y = z) : x = T.add z y := by rw [← h, T.assoc, T.self, T.nil']
/-- The sum of what stands at places. -/
def tot (v : Nat → α) : List Nat → α
  | [] => T.zero
  | c :: l => T.add (v c) (tot v l)
theorem tot_nil (v : Nat → α) : tot T v [] = T.zero := rfl
theorem tot_cons (v : Nat → α) (c : Nat) (l : List Nat) : tot T v (c :: l) = T.add (v c) (tot T v l) := rfl
theorem tot_append (v : Nat → α) (l m : List Nat) : tot T v (l ++ m) = T.add (tot T v l) (tot T v m) := by
  induction l with
  | nil => rw [List.nil_append, tot_nil, T.nil]
  | cons c l ih => rw [List.cons_append, tot_cons, tot_cons, ih, T.assoc]
theorem tot_congr {v v' : Nat → α} {l : List Nat} (h : ∀ c, c ∈ l → v c = v' c) : tot T v l = tot T v' l := by
  induction l with
  | nil => rfl
  | cons c l ih => rw [tot_cons, tot_cons, h c (by simp), ih fun d hd => h d (by simp [hd])]
theorem tot_split (v : Nat → α) (p : Nat → Bool) (l : List Nat) : tot T v l = T.add (tot T v (l.filter fun c => !p c)) (tot T v (l.filter p)) := by
  induction l with
  | nil => rw [List.filter_nil, List.filter_nil, tot_nil, T.nil]
  | cons c l ih =>
    cases hp : p c with
    | true => rw [List.filter_cons_of_neg (by simp [hp]), List.filter_cons_of_pos (by simpa using hp), tot_cons, tot_cons, ih, T.left_comm]
    | false => rw [List.filter_cons_of_pos (by simp [hp]), List.filter_cons_of_neg (by simp [hp]), tot_cons, tot_cons, ih, T.assoc]
theorem tot_at (v : Nat → α) {l : List Nat} (hn : l.Nodup) {c : Nat} (hc : c ∈ l) : tot T v l = T.add (v c) (tot T v (l.filter fun d => d != c)) := by
  rw [tot_split T v (fun d => d != c) l]
  congr 1
  have : (l.filter fun d => !(d != c)) = [c] := by
    induction l with
    | nil => simp at hc
    | cons d l ih =>
      rw [List.nodup_cons] at hn
      by_cases e : d = c
      · subst e
        rw [List.filter_cons_of_pos (by simp)]
        congr 1
        rw [List.filter_eq_nil_iff]
        intro y hy
        simp
        rintro rfl
        exact hn.1 hy
      · rw [List.filter_cons_of_neg (by simpa using e)]
        exact ih hn.2 (by
          rcases List.mem_cons.1 hc with h | h
          · exact absurd h.symm e
          · exact h)
  rw [this, tot_cons, tot_nil, T.nil']
/-- An equation holds where all of its columns are known. -/
def Holds (L : List (E α)) (v : Nat → α) : Prop := ∀ q, q ∈ L → (∀ c, c ∈ q.cols → Der L c) → tot T v q.cols = q.data
/-- Values that hold are one at what is known. -/
theorem Holds.unique {L : List (E α)} {v v' : Nat → α} (hn : ∀ q, q ∈ L → q.cols.Nodup) (h : Holds T L v) (h' : Holds T L v') {c : Nat} (hc : Der L c) : v c = v' c := by
  induction hc with
  | by_row q c hq hc hd ih =>
    have hall : ∀ d, d ∈ q.cols → Der L d := fun d hdq => by
      by_cases e : d = c
      · subst e; exact .by_row q d hq hdq hd
      · exact hd d hdq e
    have h1 := h q hq hall
    have h2 := h' q hq hall
    rw [tot_at T _ (hn q hq) hc] at h1 h2
    have he : tot T v (q.cols.filter fun d => d != c) = tot T v' (q.cols.filter fun d => d != c) := tot_congr T fun d hdq => by
      rw [List.mem_filter] at hdq
      exact ih d hdq.1 (by simpa using hdq.2)
    rw [he, T.comm] at h1
    rw [T.comm] at h2
    exact T.cancel (h1.trans h2.symm)
theorem Holds.congr {L L' : List (E α)} {v : Nat → α} (hs : ∀ q, q ∈ L ↔ q ∈ L') (h : Holds T L v) : Holds T L' v := fun q hq hc => h q ((hs q).2 hq) fun c hcq => (Der.congr hs c).2 (hc c hcq)
theorem Holds.of_all {L : List (E α)} {v : Nat → α} (h : ∀ q, q ∈ L → tot T v q.cols = q.data) : Holds T L v := fun q hq _ => h q hq
/-- A column that an equation tells by itself has the value that it tells. -/
theorem Holds.told {L : List (E α)} {v : Nat → α} (hn : ∀ q, q ∈ L → q.cols.Nodup) (h : Holds T L v) {q : E α} (hq : q ∈ L) {c : Nat} (hc : c ∈ q.cols) (hd : ∀ d, d ∈ q.cols → d ≠ c → Der L d) : v c = T.add q.data (tot T v (q.cols.filter fun d => d != c)) := by
  have h1 := h q hq fun d hdq => by
    by_cases e : d = c
    · subst e; exact .by_row q d hq hdq hd
    · exact hd d hdq e
  rw [tot_at T _ (hn q hq) hc] at h1
  exact T.move h1
/-- What is left of an equation: the columns that are not known, and the data with the values of the others. -/
def rest (k : Nat → Bool) (v : Nat → α) (q : E α) : E α := ⟨q.cols.filter fun c => !k c, T.add q.data (tot T v (q.cols.filter k))⟩
/-- What is left of all. -/
def left (k : Nat → Bool) (v : Nat → α) (L : List (E α)) : List (E α) := (L.filter fun q => q.cols.any fun c => !k c).map (rest T k v)
theorem rest_holds {k : Nat → Bool} {v v0 : Nat → α} {q : E α} (h : tot T v0 q.cols = q.data) (hv : ∀ c, c ∈ q.cols → k c = true → v c = v0 c) : tot T v0 (rest T k v q).cols = (rest T k v q).data := by
  show tot T v0 (q.cols.filter fun c => !k c) = T.add q.data (tot T v (q.cols.filter k))
  rw [← h, tot_split T v0 k q.cols, tot_congr T (v := v) (v' := v0) (fun c hc => hv c (List.mem_filter.1 hc).1 (List.mem_filter.1 hc).2), T.assoc, T.self, T.nil']
/-- What is left has two columns at least that are not known. -/
theorem left_two {L : List (E α)} {k : Nat → Bool} {v : Nat → α} (hk : ∀ c, k c = true ↔ Der L c) (hn : ∀ q, q ∈ L → q.cols.Nodup) {r : E α} (hr : r ∈ left T k v L) : 2 ≤ r.cols.length ∧ r.cols.Nodup ∧ ∀ c, c ∈ r.cols → ¬ Der L c := by
  obtain ⟨q, hq, rfl⟩ := List.mem_map.1 hr
  rw [List.mem_filter, List.any_eq_true] at hq
  obtain ⟨hq, c, hc, hkc⟩ := hq
  have hnd : (q.cols.filter fun c => !k c).Nodup := (hn q hq).filter _
  have hno : ∀ d, d ∈ (q.cols.filter fun c => !k c) → ¬ Der L d := fun d hd h => by
    rw [List.mem_filter] at hd
    have := (hk d).2 h
    rw [this] at hd
    simp at hd
  refine ⟨?_, hnd, hno⟩
  show 2 ≤ (q.cols.filter fun c => !k c).length
  have hcm : c ∈ (q.cols.filter fun c => !k c) := List.mem_filter.2 ⟨hc, hkc⟩
  apply Classical.byContradiction
  intro hlt
  match hl : (q.cols.filter fun c => !k c), hlt, hcm with
  | [], _, hcm => simp at hcm
  | [d], _, hcm =>
    obtain rfl : c = d := by simpa using hcm
    refine hno c (by rw [hl]; simp) (.by_row q c hq hc fun e he hne => ?_)
    rw [← hk]
    apply Classical.byContradiction
    intro hke
    have : e ∈ (q.cols.filter fun c => !k c) := List.mem_filter.2 ⟨he, by simpa using hke⟩
    rw [hl] at this
    exact hne (by simpa using this)
  | _ :: _ :: _, hlt, _ => simp at hlt
/-- Equations of two columns each, at least, tell nothing. -/
theorem none_of_two {L : List (E α)} (h : ∀ q, q ∈ L → 2 ≤ q.cols.length ∧ q.cols.Nodup) (c : Nat) : ¬ Der L c := fun hd => by
  induction hd with
  | by_row q c hq hc _ ih =>
    obtain ⟨h2, hn⟩ := h q hq
    have : ∃ d, d ∈ q.cols ∧ d ≠ c := by
      match hl : q.cols, h2, hn with
      | [], h2, _ => simp at h2
      | [_], h2, _ => simp at h2
      | a :: b :: l, _, hn =>
        rw [List.nodup_cons] at hn
        by_cases e : a = c
        · exact ⟨b, by simp, fun e2 => hn.1 (by rw [e, ← e2]; simp)⟩
        · exact ⟨a, by simp, e⟩
    obtain ⟨d, hdq, hne⟩ := this
    exact ih d hdq hne
theorem left_none {L : List (E α)} {k : Nat → Bool} {v : Nat → α} (hk : ∀ c, k c = false) (h : ∀ q, q ∈ L → q.cols ≠ []) : left T k v L = L := by
  unfold left
  rw [List.filter_eq_self.2 fun q hq => ?_]
  · conv => rhs; rw [← List.map_id L]
    refine List.map_congr_left fun q _ => ?_
    have e1 : (q.cols.filter fun c => !k c) = q.cols := List.filter_eq_self.2 fun c _ => by rw [hk]; rfl
    have e2 : q.cols.filter k = [] := List.filter_eq_nil_iff.2 fun c _ => by rw [hk]; simp
    show (⟨q.cols.filter fun c => !k c, T.add q.data (tot T v (q.cols.filter k))⟩ : E α) = q
    rw [e1, e2, tot_nil, T.nil']
  · cases hl : q.cols with
    | nil => exact absurd hl (h q hq)
    | cons c l => simp [hk]
end Go.Proofs.Ytdmcncpndogdlaa.PL
namespace Go.Proofs.Ytdmcncpndogdlaa.M

/-- All 255 powers of 3, a byte each, the first one lowest. -/
def expBig : Nat := 121466575815500734415996836054882879791832871126464106601702187317037704638720699736399773789881350966450612456712855012027411276600174289287471020404625812305602624065235109912861702064162581238381248958448422203687095403783548669481020115429473714815130546491650907227391014769411226625179674495964331439187933946584331397333639979447433688574122779091165484305754955373075414835846686739481168846087332879005575464100018941681806164995707250399423063311368515928344698269234575261926727907427524598329539937222090466892085999338983806607642276495436692919915470849325341672618663070658392065151738926641076044545
/-- All 256 logarithms, a byte each, that of 0 (which is none) lowest. -/
def logBig : Nat := 939374623831894136699086600277250597547650664638770418422125146541797353646788332867483593573384618611044815625336497665827114626705134492515730415652478061620339993830966980270842846318821775850471098591710629241171812800746666233448222972174585295916389942636813666312872914849454985560152530477328703759683306625234997237483834721220409437442253146756845415190424543171129629468776480674528486868811725071010351012234056630775688111116293610821126543142160426617079940511630006820862697466582575257349116925728488930366609138264019883664906661504235885380294353134295748489096855100647154935187045898006656778240
def exN (i : Nat) : Nat := expBig / 2 ^ (8 * i) % 256
def lgN (x : Nat) : Nat := logBig / 2 ^ (8 * x) % 256
def tripleN (a : Nat) : Nat := (a * 2 % 256 ^^^ (if 128 ≤ a then 27 else 0)) ^^^ a
def mulN (a b : Nat) : Nat := if a = 0 ∨ b = 0 then 0 else exN ((lgN a + lgN b) % 255)
def invN (a : Nat) : Nat := if a = 0 then 0 else exN ((255 - lgN a) % 255)

/-- The first loop of the product bit by bit, k rounds of it. -/
def carry (a b : Nat) : Nat → Nat
  | 0 => 0
  | k + 1 => carry a b k ^^^ (if b.testBit k then a * 2 ^ k else 0)
/-- The second loop, k rounds of it, at bits 15, 14 .. -/
def cutDown (p : Nat) : Nat → Nat
  | 0 => p
  | k + 1 => cutDown p k ^^^ (if (cutDown p k).testBit (15 - k) then 283 * 2 ^ (7 - k) else 0)
def refMulN (a b : Nat) : Nat := cutDown (carry a b 8) 8 % 256

/-- A property of all numbers below n, as a Bool. -/
def allBelow (n : Nat) (p : Nat → Bool) : Bool := (List.range n).all p
theorem allBelow_at {n : Nat} {p : Nat → Bool} (h : allBelow n p = true) (i : Nat) (hi : i < n) : p i = true := by
  have := List.all_eq_true.1 h i (List.mem_range.2 hi)
  exact this

theorem exN_lt (i : Nat) : exN i < 256 := Nat.mod_lt _ (by decide)
theorem lgN_lt (i : Nat) : lgN i < 256 := Nat.mod_lt _ (by decide)

theorem step_chk : allBelow 254 (fun i => exN (i + 1) == tripleN (exN i)) = true := by decide +kernel
theorem exN_zero : exN 0 = 1 := by decide +kernel
theorem exN_last : tripleN (exN 254) = exN 0 := by decide +kernel
theorem exN_succ (i : Nat) (h : i < 254) : exN (i + 1) = tripleN (exN i) := by simpa using allBelow_at step_chk i h
theorem lg_ex_chk : allBelow 255 (fun i => lgN (exN i) == i && exN i != 0) = true := by decide +kernel
theorem lg_ex (i : Nat) (h : i < 255) : lgN (exN i) = i ∧ exN i ≠ 0 := by simpa using allBelow_at lg_ex_chk i h
theorem ex_lg_chk : allBelow 256 (fun x => x == 0 || (exN (lgN x) == x && decide (lgN x < 255))) = true := by decide +kernel
theorem ex_lg (x : Nat) (h : x < 256) (h0 : x ≠ 0) : exN (lgN x) = x ∧ lgN x < 255 := by
  have := allBelow_at ex_lg_chk x h
  simp [h0] at this
  exact this
theorem lgN_zero : lgN 0 = 0 := by decide +kernel

/-! ### Linear maps of bytes -/
structure Lin (f : Nat → Nat) : Prop where
  zero : f 0 = 0
  add : ∀ x y, x < 256 → y < 256 → f (x ^^^ y) = f x ^^^ f y

theorem xor_lt {x y : Nat} (hx : x < 256) (hy : y < 256) : x ^^^ y < 256 := Nat.xor_lt_two_pow (n := 8) hx hy

theorem top_chk : allBelow 256 (fun x => x == 0 || (decide (x ^^^ 2 ^ x.log2 < x) && decide (x.log2 < 8))) = true := by decide +kernel
theorem lin_ext {f g : Nat → Nat} (hf : Lin f) (hg : Lin g) (h : ∀ k, k < 8 → f (2 ^ k) = g (2 ^ k)) : ∀ x, x < 256 → f x = g x := by
  intro x
  induction x using Nat.strongRecOn with
  | _ x ih =>
    intro hx
    by_cases h0 : x = 0
    · subst h0
      rw [hf.zero, hg.zero]
    · have ht := allBelow_at top_chk x hx
      simp [h0] at ht
      obtain ⟨h1, h2⟩ := ht
      have hp : 2 ^ x.log2 < 256 := Nat.pow_lt_pow_right (a := 2) (m := x.log2) (n := 8) (by decide) h2
      have e : x = (x ^^^ 2 ^ x.log2) ^^^ 2 ^ x.log2 := by rw [Nat.xor_assoc, Nat.xor_self, Nat.xor_zero]
      have i1 := ih _ h1 (Nat.lt_trans h1 hx)
      rw [e, hf.add _ _ (Nat.lt_trans h1 hx) hp, hg.add _ _ (Nat.lt_trans h1 hx) hp, i1, h _ h2]

theorem sel_xor (x y : Bool) (m : Nat) : (if (x ^^ y) = true then m else 0) = (if x = true then m else 0) ^^^ (if y = true then m else 0) := by
  cases x <;> cases y <;> simp

theorem xor4 (p q r s : Nat) : (p ^^^ q) ^^^ (r ^^^ s) = (p ^^^ r) ^^^ (q ^^^ s) := by
  rw [Nat.xor_assoc, ← Nat.xor_assoc q r s, Nat.xor_comm q r, Nat.xor_assoc r q s, ← Nat.xor_assoc]

theorem cutDown_xor (p q : Nat) : ∀ k, cutDown (p ^^^ q) k = cutDown p k ^^^ cutDown q k
  | 0 => rfl
  | k + 1 => by
    simp only [cutDown]
    rw [cutDown_xor p q k, Nat.testBit_xor, sel_xor, xor4]
theorem cutDown_zero : ∀ k, cutDown 0 k = 0
  | 0 => rfl
  | k + 1 => by
    simp only [cutDown]
    rw [cutDown_zero k]
    simp
theorem carry_xor_right (a b c : Nat) : ∀ k, carry a (b ^^^ c) k = carry a b k ^^^ carry a c k
  | 0 => by simp [carry]
  | k + 1 => by
    simp only [carry]
    rw [carry_xor_right a b c k, Nat.testBit_xor, sel_xor, xor4]
theorem mul_pow_xor (a b k : Nat) : (a ^^^ b) * 2 ^ k = a * 2 ^ k ^^^ b * 2 ^ k := by
  rw [← Nat.shiftLeft_eq, ← Nat.shiftLeft_eq, ← Nat.shiftLeft_eq, Nat.shiftLeft_xor_distrib]
theorem carry_xor_left (a b c : Nat) : ∀ k, carry (a ^^^ b) c k = carry a c k ^^^ carry b c k
  | 0 => by simp [carry]
  | k + 1 => by
    simp only [carry]
    rw [carry_xor_left a b c k, xor4]
    cases c.testBit k with
    | false => simp
    | true => simp [mul_pow_xor]
theorem mod_xor (p q : Nat) : (p ^^^ q) % 256 = p % 256 ^^^ q % 256 := Nat.xor_mod_two_pow (a := p) (b := q) (n := 8)

theorem refMul_lin_right (a : Nat) : Lin (refMulN a) where
  zero := by
    have h : ∀ k, carry a 0 k = 0 := by
      intro k
      induction k with
      | zero => rfl
      | succ k ih => simp [carry, ih]
    simp [refMulN, h, cutDown_zero]
  add x y _ _ := by
    unfold refMulN
    rw [carry_xor_right, cutDown_xor, mod_xor]
theorem refMul_lin_left (b : Nat) : Lin (fun a => refMulN a b) where
  zero := by
    have h : ∀ k, carry 0 b k = 0 := by
      intro k
      induction k with
      | zero => rfl
      | succ k ih => simp [carry, ih]
    simp [refMulN, h, cutDown_zero]
  add x y _ _ := by
    unfold refMulN
    rw [carry_xor_left, cutDown_xor, mod_xor]

theorem big_chk : allBelow 256 (fun x => decide (tripleN x < 256) && decide ((128 ≤ x) ↔ x.testBit 7)) = true := by decide +kernel
theorem tripleN_lt (x : Nat) (h : x < 256) : tripleN x < 256 := by
  have := allBelow_at big_chk x h
  simp only [Bool.and_eq_true, decide_eq_true_eq] at this
  exact this.1
theorem top_bit (x : Nat) (h : x < 256) : (128 ≤ x) ↔ x.testBit 7 = true := by
  have := allBelow_at big_chk x h
  simp only [Bool.and_eq_true, decide_eq_true_eq] at this
  exact this.2
theorem tripleN_eq (x : Nat) (h : x < 256) : tripleN x = (x * 2 % 256 ^^^ (if x.testBit 7 = true then 27 else 0)) ^^^ x := by
  unfold tripleN
  by_cases h7 : 128 ≤ x
  · rw [if_pos h7, if_pos ((top_bit x h).1 h7)]
  · rw [if_neg h7, if_neg (fun e => h7 ((top_bit x h).2 e))]
theorem triple_lin : Lin tripleN where
  zero := by decide
  add x y hx hy := by
    rw [tripleN_eq x hx, tripleN_eq y hy, tripleN_eq _ (xor_lt hx hy), Nat.testBit_xor, sel_xor]
    have e : (x ^^^ y) * 2 = x * 2 ^^^ y * 2 := mul_pow_xor x y 1
    rw [e, mod_xor, xor4 (x * 2 % 256) (y * 2 % 256), xor4]

/-- To triple n times. -/
def triples : Nat → Nat → Nat
  | 0, x => x
  | n + 1, x => tripleN (triples n x)
theorem triples_lt (n x : Nat) (h : x < 256) : triples n x < 256 := by
  induction n with
  | zero => exact h
  | succ n ih => exact tripleN_lt _ ih
theorem triples_lin : ∀ n, Lin (triples n)
  | 0 => ⟨rfl, fun _ _ _ _ => rfl⟩
  | n + 1 => ⟨by simp [triples, (triples_lin n).zero, triple_lin.zero], fun x y hx hy => by
      simp only [triples]
      rw [(triples_lin n).add x y hx hy, triple_lin.add _ _ (triples_lt n x hx) (triples_lt n y hy)]⟩
theorem triple_ex (i : Nat) (h : i < 255) : tripleN (exN i) = exN ((i + 1) % 255) := by
  by_cases h1 : i = 254
  · subst h1
    exact exN_last
  · rw [Nat.mod_eq_of_lt (by omega), exN_succ i (by omega)]
theorem triples_ex (n i : Nat) (h : i < 255) : triples n (exN i) = exN ((n + i) % 255) := by
  induction n with
  | zero => rw [Nat.zero_add, Nat.mod_eq_of_lt h]; rfl
  | succ n ih =>
    simp only [triples]
    rw [ih, triple_ex _ (Nat.mod_lt _ (by decide))]
    congr 1
    omega
theorem mulN_triples (a b : Nat) (hb : b < 256) (ha : a ≠ 0) : mulN a b = triples (lgN a) b := by
  unfold mulN
  by_cases h0 : b = 0
  · subst h0
    simp [(triples_lin _).zero]
  · rw [if_neg (by simp [ha, h0])]
    obtain ⟨h1, h2⟩ := ex_lg b hb h0
    conv => rhs; rw [← h1]
    rw [triples_ex _ _ h2]
theorem mulN_zero_left (b : Nat) : mulN 0 b = 0 := by simp [mulN]
theorem mulN_zero_right (a : Nat) : mulN a 0 = 0 := by simp [mulN]
theorem mulN_comm (a b : Nat) : mulN a b = mulN b a := by
  unfold mulN
  rw [Nat.add_comm (lgN a)]
  by_cases h : a = 0 ∨ b = 0
  · rw [if_pos h, if_pos h.symm]
  · rw [if_neg h, if_neg (fun e => h e.symm)]
theorem mulN_lin (a : Nat) : Lin (mulN a) where
  zero := mulN_zero_right a
  add x y hx hy := by
    by_cases ha : a = 0
    · subst ha
      simp [mulN_zero_left]
    · rw [mulN_triples a x hx ha, mulN_triples a y hy ha, mulN_triples a _ (xor_lt hx hy) ha, (triples_lin _).add x y hx hy]
theorem mulN_lin_left (b : Nat) : Lin (fun a => mulN a b) where
  zero := mulN_zero_left b
  add x y hx hy := by
    show mulN (x ^^^ y) b = mulN x b ^^^ mulN y b
    rw [mulN_comm _ b, mulN_comm x, mulN_comm y, (mulN_lin b).add x y hx hy]

theorem base_chk : allBelow 8 (fun j => allBelow 8 fun k => refMulN (2 ^ j) (2 ^ k) == mulN (2 ^ j) (2 ^ k)) = true := by decide +kernel
theorem refMulN_eq (a b : Nat) (ha : a < 256) (hb : b < 256) : refMulN a b = mulN a b := by
  refine lin_ext (refMul_lin_right a) (mulN_lin a) (fun k hk => ?_) b hb
  refine lin_ext (refMul_lin_left (2 ^ k)) (mulN_lin_left (2 ^ k)) (fun j hj => ?_) a ha
  simpa using allBelow_at (allBelow_at base_chk j hj) k hk

/-! ### The field's laws -/
theorem mulN_lt (a b : Nat) : mulN a b < 256 := by
  unfold mulN
  split
  · decide
  · exact exN_lt _
theorem mulN_ne (a b : Nat) (ha : a ≠ 0) (hb : b ≠ 0) : mulN a b ≠ 0 := by
  unfold mulN
  rw [if_neg (by simp [ha, hb])]
  exact (lg_ex _ (Nat.mod_lt _ (by decide))).2
theorem lg_mul (a b : Nat) (ha : a ≠ 0) (hb : b ≠ 0) : lgN (mulN a b) = (lgN a + lgN b) % 255 := by
  unfold mulN
  rw [if_neg (by simp [ha, hb])]
  exact (lg_ex _ (Nat.mod_lt _ (by decide))).1
theorem mulN_nz (a b : Nat) (ha : a ≠ 0) (hb : b ≠ 0) : mulN a b = exN ((lgN a + lgN b) % 255) := by
  unfold mulN
  rw [if_neg (by simp [ha, hb])]
theorem mulN_assoc (a b c : Nat) : mulN (mulN a b) c = mulN a (mulN b c) := by
  by_cases ha : a = 0
  · subst ha; simp [mulN_zero_left]
  by_cases hb : b = 0
  · subst hb; simp [mulN_zero_left, mulN_zero_right]
  by_cases hc : c = 0
  · subst hc; simp [mulN_zero_right]
  rw [mulN_nz _ c (mulN_ne a b ha hb) hc, mulN_nz a _ ha (mulN_ne b c hb hc), lg_mul a b ha hb, lg_mul b c hb hc]
  congr 1
  omega
theorem mulN_xor (a b c : Nat) (hb : b < 256) (hc : c < 256) : mulN a (b ^^^ c) = mulN a b ^^^ mulN a c := (mulN_lin a).add b c hb hc
theorem one_chk : lgN 1 = 0 := by decide +kernel
theorem mulN_one (a : Nat) (h : a < 256) : mulN a 1 = a := by
  by_cases h0 : a = 0
  · subst h0; exact mulN_zero_left 1
  · unfold mulN
    obtain ⟨h1, h2⟩ := ex_lg a h h0
    rw [if_neg (by simp [h0]), one_chk, Nat.add_zero, Nat.mod_eq_of_lt h2, h1]
theorem mulN_eq_zero (a b : Nat) : mulN a b = 0 ↔ a = 0 ∨ b = 0 := by
  constructor
  · intro h
    by_cases ha : a = 0
    · exact Or.inl ha
    by_cases hb : b = 0
    · exact Or.inr hb
    exact absurd h (mulN_ne a b ha hb)
  · rintro (h | h)
    · subst h; exact mulN_zero_left b
    · subst h; exact mulN_zero_right a
theorem invN_lt (a : Nat) : invN a < 256 := by
  unfold invN
  split
  · decide
  · exact exN_lt _
theorem invN_zero : invN 0 = 0 := rfl
theorem invN_ne (a : Nat) (h : a ≠ 0) : invN a ≠ 0 := by
  unfold invN
  rw [if_neg h]
  exact (lg_ex _ (Nat.mod_lt _ (by decide))).2
theorem lg_inv (a : Nat) (h : a ≠ 0) : lgN (invN a) = (255 - lgN a) % 255 := by
  unfold invN
  rw [if_neg h]
  exact (lg_ex _ (Nat.mod_lt _ (by decide))).1
theorem mulN_inv (a : Nat) (h : a < 256) (h0 : a ≠ 0) : mulN a (invN a) = 1 := by
  have h2 := (ex_lg a h h0).2
  unfold mulN
  rw [if_neg (by simp [h0, invN_ne a h0]), lg_inv a h0, ← exN_zero]
  congr 1
  omega
theorem inv_unique (a b : Nat) (ha : a < 256) (hb : b < 256) (h : mulN a b = 1) : b = invN a := by
  have h0 : a ≠ 0 := by
    intro e
    subst e
    rw [mulN_zero_left] at h
    exact absurd h (by decide)
  have e : mulN (invN a) (mulN a b) = b := by
    rw [← mulN_assoc, mulN_comm (invN a) a, mulN_inv a ha h0, mulN_comm 1 b, mulN_one b hb]
  rw [h, mulN_one _ (invN_lt a)] at e
  exact e.symm
theorem inv_inv (a : Nat) (h : a < 256) : invN (invN a) = a := by
  by_cases h0 : a = 0
  · subst h0; rfl
  · exact (inv_unique (invN a) a (invN_lt a) h (by rw [mulN_comm, mulN_inv a h h0])).symm
theorem div_back (a b : Nat) (ha : a < 256) (hb : b < 256) (h0 : b ≠ 0) : mulN (mulN a (invN b)) b = a := by
  rw [mulN_assoc, mulN_comm (invN b) b, mulN_inv b hb h0, mulN_one a ha]

/-! ### Squares -/
def sqs : Nat → Nat → Nat
  | 0, x => x
  | n + 1, x => mulN (sqs n x) (sqs n x)
theorem sqs_chk : allBelow 256 (fun x => sqs 8 x == x && sqs 7 (mulN x x) == x) = true := by decide +kernel
theorem sqs_eight (x : Nat) (h : x < 256) : sqs 8 x = x := by
  have := allBelow_at sqs_chk x h
  simp only [Bool.and_eq_true, beq_iff_eq] at this
  exact this.1
theorem sq_inj (x y : Nat) (hx : x < 256) (hy : y < 256) (h : mulN x x = mulN y y) : x = y := by
  have h1 := allBelow_at sqs_chk x hx
  have h2 := allBelow_at sqs_chk y hy
  simp only [Bool.and_eq_true, beq_iff_eq] at h1 h2
  rw [← h1.2, ← h2.2, h]
theorem sq_xor (a b : Nat) (ha : a < 256) (hb : b < 256) : mulN (a ^^^ b) (a ^^^ b) = mulN a a ^^^ mulN b b := by
  rw [mulN_xor _ a b ha hb, mulN_comm _ a, mulN_comm _ b, mulN_xor a a b ha hb, mulN_xor b a b ha hb, mulN_comm b a,
    Nat.xor_assoc, ← Nat.xor_assoc (mulN a b) (mulN a b), Nat.xor_self, Nat.zero_xor]

/-! ### Powers -/
theorem mul_ex (i j : Nat) (hi : i < 255) (hj : j < 255) : mulN (exN i) (exN j) = exN ((i + j) % 255) := by
  obtain ⟨h1, h2⟩ := lg_ex i hi
  obtain ⟨h3, h4⟩ := lg_ex j hj
  unfold mulN
  rw [if_neg (by simp [h2, h4]), h1, h3]
theorem ex_one : exN 1 = 3 := by decide +kernel
theorem ex_three (i : Nat) (hi : i < 255) : mulN (exN i) 3 = exN ((i + 1) % 255) := by
  rw [← ex_one]
  exact mul_ex i 1 hi (by decide)
theorem ex_inj (i j : Nat) (hi : i < 255) (hj : j < 255) (h : exN i = exN j) : i = j := by
  rw [← (lg_ex i hi).1, ← (lg_ex j hj).1, h]
end Go.Proofs.Ytdmcncpndogdlaa.M
namespace Go.Proofs.Ytdmcncpndogdlaa
open Go.RowKit

def Byt (a : Int) : Prop := 0 ≤ a ∧ a ≤ 255

theorem ret_int {k : IntKind} {a b : Int} (h : a = b) : Ending.returned (.int k a) = .returned (.int k b) := by rw [h]
/-- A row of n bytes: at j what g says of j. -/
def tab (n : Nat) (g : Nat → Nat) : Array Value := ((List.range n).map fun j => Value.int .u8 ((g j : Nat) : Int)).toArray
theorem tab_size (n : Nat) (g : Nat → Nat) : (tab n g).size = n := by simp [tab]
theorem tab_get (n : Nat) (g : Nat → Nat) (j : Nat) (h : j < n) : (tab n g)[j]? = some (.int .u8 ((g j : Nat) : Int)) := by
  simp [tab, h]
theorem tab_congr (n : Nat) (g g' : Nat → Nat) (h : ∀ j, j < n → g j = g' j) : tab n g = tab n g' := by
  unfold tab
  congr 1
  exact List.map_congr_left fun j hj => by rw [h j (List.mem_range.1 hj)]
theorem tab_set (n : Nat) (g : Nat → Nat) (k v : Nat) (h : k < n) : (tab n g).setIfInBounds k (.int .u8 (v : Int)) = tab n (fun j => if j = k then v else g j) := by
  apply Array.ext_getElem?
  intro j
  rw [Array.getElem?_setIfInBounds, tab_size]
  by_cases hj : j < n
  · rw [tab_get n g j hj, tab_get n _ j hj]
    by_cases e : k = j
    · subst e
      simp [h]
    · rw [if_neg e, if_neg (fun x => e x.symm)]
  · have h1 : (tab n g)[j]? = none := by rw [Array.getElem?_eq_none]; rw [tab_size]; omega
    have h2 : (tab n (fun j => if j = k then v else g j))[j]? = none := by rw [Array.getElem?_eq_none]; rw [tab_size]; omega
    rw [if_neg (by omega), h1, h2]
/-- Since w only new memory was made and written: what was there stands. -/
def Gr (w w' : World) : Prop := w'.os = w.os ∧ w'.tape = w.tape ∧ w'.output = w.output ∧ w.heap.size ≤ w'.heap.size ∧ ∀ k, k < w.heap.size → w'.heap[k]? = w.heap[k]?
theorem Gr.below {w w' : World} (h : Gr w w') : Below w.heap.size w w' := ⟨h.1, h.2.1, h.2.2.1, h.2.2.2.1, h.2.2.2.2⟩
theorem Gr.of {w w' : World} (h : Below w.heap.size w w') : Gr w w' := ⟨h.os, h.tape, h.output, h.size, h.block⟩
theorem Gr.size {w w' : World} (h : Gr w w') : w.heap.size ≤ w'.heap.size := h.2.2.2.1
theorem Gr.refl (w : World) : Gr w w := Gr.of (Below.refl _ _)
theorem Gr.alloc {W w' : World} (h : Gr W w') (c : Array Value) (t : TypeId) : Gr W (w'.alloc (.cells c t)) := Gr.of (Below.alloc h.below h.size _)
theorem Gr.setCell {W w' : World} (h : Gr W w') {a : Addr} (ha : W.heap.size ≤ a.block) (v : Value) : Gr W (w'.setCell a v) := Gr.of (Below.setCell h.below ha v)
theorem Gr.drew {W w' : World} (h : Gr W w') : Gr W w'.drew := h
theorem Gr.trans {W w1 w2 : World} (h : Gr W w1) (h' : Gr w1 w2) : Gr W w2 := Gr.of (Below.trans h.below (h'.below.mono h.size))
theorem Gr.setRow {W w' : World} (h : Gr W w') {g : Nat} (hg : W.heap.size ≤ g) (cs : Array Value) : Gr W (w'.setRow g cs) := by
  obtain ⟨h1, h2, h3, h4, h5⟩ := h
  refine ⟨h1, h2, h3, by simpa using h4, fun k hk => ?_⟩
  rw [setRow_other w' g k cs (by omega)]
  exact h5 k hk
/-- Behind an append: the one row that may have been written is new. -/
theorem Gr.append {W w w' : World} {row : Option Nat} (h : Gr W w) (hg : w.grownBy w' row) (hr : ∀ k, row = some k → W.heap.size ≤ k) : Gr W w' := Gr.of (Below.grown h.below hg h.size hr)

/-- The store of a whole row into a block. -/
theorem wpList_store_row {P : Program} {ops : Array Oper} {rest : List Oper} {op : Oper} {a : Act} {w : World} {Q : Exit → Act → World → Prop} (hgd : op.guard = none) (ty : TypeId) (x y : Operand) (ho : op.op = .store ty x y)
    (g : Nat) (t : TypeId) (old cells : Array Value) (hx : a.eval x = .pointer (some ⟨g, 0, none⟩)) (hy : a.eval y = .agg cells)
    (hg : w.heap[g]? = some (.cells old t (0, 0))) (hi : (P.info? ty).map (·.size) = some cells.size) (hs : old.size = cells.size) (h1 : cells.all (·.oneCell') = true)
    (h : wpList P ops Q rest (a.put op.dst undef) (w.setRow g cells)) : wpList P ops Q (op :: rest) a w := by
  refine wpList_plain hgd fun _ hK => ?_
  unfold Oper.wp execOp
  have hst := run_storeVar_row (P := P) w g t ty old cells hg hi hs h1
  simp only [ho, hx, hy, Instr.storeAt, Instr.sureAddr, Sem.run_bind, Sem.run_pure, Result.andThen_ok, hst]
  exact hK _ _ h
theorem tab_one (n : Nat) (g : Nat → Nat) : (tab n g).all (·.oneCell') = true := by
  rw [Array.all_eq_true_iff_forall_mem]
  intro v hv
  simp [tab] at hv
  obtain ⟨j, _, rfl⟩ := hv
  rfl
/-- The powers, as far as k rounds have made them. -/
def pw (k : Nat) : Nat → Nat := fun j => if j < k then M.exN j else 0
theorem pw_set (k : Nat) (h : k < 255) : (tab 255 (pw k)).setIfInBounds k (.int .u8 ((M.exN k : Nat) : Int)) = tab 255 (pw (k + 1)) := by
  rw [tab_set 255 _ k _ h]
  apply tab_congr
  intro j _
  unfold pw
  by_cases h : j = k
  · simp [h]
  · by_cases h2 : j < k
    · rw [if_neg h, if_pos h2, if_pos (by omega)]
    · rw [if_neg h, if_neg h2, if_neg (by omega)]
theorem pw_nil : tab 255 (fun _ => 0) = tab 255 (pw 0) := tab_congr 255 _ _ fun j _ => by simp [pw]
theorem pw_all : tab 255 (pw 255) = tab 255 M.exN := tab_congr 255 _ _ fun j h => by simp [pw, h]
end Go.Proofs.Ytdmcncpndogdlaa
namespace Go.Proofs.Ytdmcncpndogdlaa
open Go.RowKit

/-- From w to w' only blocks in F, and new ones, were written. -/
def Kp (F : Nat → Prop) (w w' : World) : Prop := w'.os = w.os ∧ w'.tape = w.tape ∧ w'.output = w.output ∧ w.heap.size ≤ w'.heap.size ∧ ∀ k, k < w.heap.size → ¬ F k → w'.heap[k]? = w.heap[k]?
theorem Kp.size {F : Nat → Prop} {w w' : World} (h : Kp F w w') : w.heap.size ≤ w'.heap.size := h.2.2.2.1
theorem Kp.refl (F : Nat → Prop) (w : World) : Kp F w w := ⟨rfl, rfl, rfl, Nat.le_refl _, fun _ _ _ => rfl⟩
theorem Gr.kp {w w' : World} (h : Gr w w') (F : Nat → Prop) : Kp F w w' := ⟨h.1, h.2.1, h.2.2.1, h.2.2.2.1, fun k hk _ => h.2.2.2.2 k hk⟩
theorem Kp.trans {F F' : Nat → Prop} {w w1 w2 : World} (h : Kp F w w1) (h' : Kp F' w1 w2) (hF : ∀ k, F' k → F k ∨ w.heap.size ≤ k) : Kp F w w2 :=
  ⟨by rw [h'.1, h.1], by rw [h'.2.1, h.2.1], by rw [h'.2.2.1, h.2.2.1], Nat.le_trans h.size h'.size, fun k hk hn => by
    rw [h'.2.2.2.2 k (Nat.lt_of_lt_of_le hk h.size) (fun e => by
      rcases hF k e with c | c
      · exact hn c
      · omega), h.2.2.2.2 k hk hn]⟩
theorem Kp.mono {F F' : Nat → Prop} {w w1 : World} (h : Kp F w w1) (hF : ∀ k, F k → F' k) : Kp F' w w1 := ⟨h.1, h.2.1, h.2.2.1, h.2.2.2.1, fun k hk hn => h.2.2.2.2 k hk fun e => hn (hF k e)⟩
/-- What is written is new since w0: then, since w0, what was there stands. -/
theorem Kp.gr {F : Nat → Prop} {w0 w w' : World} (h : Kp F w w') (h0 : Gr w0 w) (hF : ∀ k, F k → w0.heap.size ≤ k) : Gr w0 w' :=
  ⟨by rw [h.1, h0.1], by rw [h.2.1, h0.2.1], by rw [h.2.2.1, h0.2.2.1], Nat.le_trans h0.size h.size, fun k hk => by
    rw [h.2.2.2.2 k (Nat.lt_of_lt_of_le hk h0.size) (fun e => by have := hF k e; omega), h0.2.2.2.2 k hk]⟩
theorem Kp.block {F : Nat → Prop} {w w' : World} (h : Kp F w w') {g : Nat} {o : Obj} (hg : w.heap[g]? = some o) (hn : ¬ F g) : w'.heap[g]? = some o := by
  rw [h.2.2.2.2 g (Array.getElem?_eq_some_iff.1 hg).1 hn]
  exact hg
theorem Kp.cell {F : Nat → Prop} {w w' : World} (h : Kp F w w') {a : Addr} {x : Value} (hx : w.cell? a = some x) (hn : ¬ F a.block) : w'.cell? a = some x := by
  rw [World.cell?_of_block (h.2.2.2.2 a.block (World.block_lt_of_cell? w a hx) hn)]
  exact hx
theorem Kp.frozen {F : Nat → Prop} {w w' : World} (h : Kp F w w') {a : Addr} {x : Value} (hx : w.cell? a = some x) (hn : ¬ F a.block) : w'.frozen? a = w.frozen? a :=
  World.frozen?_of_block (h.2.2.2.2 a.block (World.block_lt_of_cell? w a hx) hn)
/-- A store into one block. -/
theorem Kp.set (w : World) (g i : Nat) (v : Value) : Kp (fun k => k = g) w (w.setCell ⟨g, i, none⟩ v) := by
  have h : Below 0 w (w.setCell ⟨g, i, none⟩ v) := Below.setCell (Below.refl _ _) (Nat.zero_le _) v
  exact ⟨h.os, h.tape, h.output, h.size, fun k _ hn => heap_setCell_other _ _ _ _ hn⟩
theorem Kp.drew {F : Nat → Prop} {w w' : World} (h : Kp F w w') : Kp F w w'.drew := h
theorem Kp.append {F : Nat → Prop} {w W W' : World} {row : Option Nat} (h : Kp F w W) (hg : W.grownBy W' row) (hr : ∀ k, row = some k → w.heap.size ≤ k) : Kp F w W' := by
  have h2 : Kp (fun k => row = some k) W W' := ⟨hg.os, hg.tape, hg.output, hg.size, fun k hk hn => hg.block k hk fun e => hn e.symm⟩
  exact h.trans h2 fun k e => .inr (hr k e)
theorem Kp.alloc {F : Nat → Prop} {w W : World} (h : Kp F w W) (c : Array Value) (t : TypeId) : Kp F w (W.alloc (.cells c t)) := h.trans ((Gr.alloc (Gr.refl W) c t).kp fun _ => False) fun _ e => e.elim
end Go.Proofs.Ytdmcncpndogdlaa
namespace Go.Proofs.Ytdmcncpndogdlaa
open Go.RowKit

def I64 (x : Int) : Prop := -9223372036854775808 ≤ x ∧ x < 9223372036854775808
/-- v is a slice of ints that reads as l in w. -/
def Zs (w : World) (v : Value) (l : List Int) : Prop :=
  (∀ x ∈ l, I64 x) ∧ ∃ oa c, v = .slice oa l.length c ∧ l.length ≤ c ∧ c ≤ 9223372036854775807 ∧ (oa = none → c = 0) ∧ ∀ a, oa = some a → ∀ i, i < l.length → w.cell? (a.add i) = some (.int .i64 (l.getD i 0))
theorem cell_gr {w w' : World} (hg : Gr w w') {a : Addr} {x : Value} (h : w.cell? a = some x) : w'.cell? a = some x := (hg.kp fun _ => False).cell h (fun e => e)
theorem Zs.rng {w : World} {v : Value} {l : List Int} (h : Zs w v l) (i : Nat) (hi : i < l.length) : I64 (l.getD i 0) := by
  rw [List.getD_eq_getElem?_getD, List.getElem?_eq_getElem hi]
  exact h.1 _ (List.getElem_mem hi)
theorem Zs.grown {w w' : World} {v : Value} {l : List Int} (h : Zs w v l) (hg : Gr w w') : Zs w' v l := by
  obtain ⟨h0, oa, c, h1, h2, h3, h4, h5⟩ := h
  exact ⟨h0, oa, c, h1, h2, h3, h4, fun a ha i hi => cell_gr hg (h5 a ha i hi)⟩
theorem i64_of_wf {a : Int} (h : (Lit.int .i64 a).wf = true) : I64 a := by
  have := bounds_i64 h
  unfold I64
  omega
theorem Zs.of_in {w : World} {a : Option Addr} {len cap : Nat} {zs : List Int}
    (h : (a = none ∧ len = 0 ∧ cap = 0 ∧ zs = []) ∨ ∃ x, a = some x ∧ len ≤ cap ∧ cap ≤ maxLen ∧ zs.length = cap ∧ (∀ i, i < zs.length → w.cell? (x.add i) = some (.int .i64 (zs.getD i 0))) ∧ ∀ n ∈ zs, (Lit.int .i64 n).wf = true) :
    Zs w (.slice a len cap) (zs.take len) ∧ (zs.take len).length = len := by
  rcases h with ⟨rfl, rfl, rfl, rfl⟩ | ⟨x, rfl, h1, h2, h3, h4, h5⟩
  · exact ⟨⟨by simp, none, 0, rfl, by simp, by omega, fun _ => rfl, fun a h => by cases h⟩, rfl⟩
  · have hl : (zs.take len).length = len := by rw [List.length_take]; omega
    refine ⟨⟨fun z hz => i64_of_wf (h5 z (List.mem_of_mem_take hz)), some x, cap, by rw [hl], by rw [hl]; exact h1, by have : maxLen = 9223372036854775807 := rfl; omega, (fun h => by cases h), fun a ha i hi => ?_⟩, hl⟩
    cases ha
    rw [hl] at hi
    rw [h4 i (by omega), List.getD_eq_getElem?_getD, List.getD_eq_getElem?_getD, List.getElem?_take_of_lt hi]
theorem Zs.form3 {w : World} {v : Value} {l : List Int} (h : Zs w v l) : ∃ o m c, v = .slice o m c := by
  obtain ⟨_, oa, c, h1, _⟩ := h
  exact ⟨oa, _, c, h1⟩
/-- v's memory is none of F. -/
def AwayZ (F : Nat → Prop) (v : Value) : Prop := ∀ a m c, v = .slice (some a) m c → 0 < m → ¬ F a.block
theorem add_blk (a : Addr) (n : Nat) : (a.add n).block = a.block := by
  unfold Addr.add
  split <;> rfl
theorem Zs.kp {F : Nat → Prop} {w w' : World} {v : Value} {l : List Int} (h : Zs w v l) (hk : Kp F w w') (ha : AwayZ F v) : Zs w' v l := by
  obtain ⟨h0, oa, c, rfl, h2, h3, h4, h5⟩ := h
  exact ⟨h0, oa, c, rfl, h2, h3, h4, fun a he i hi => hk.cell (h5 a he i hi) (by
    rw [add_blk]
    subst he
    exact ha a _ c rfl (by omega))⟩
/-- What was there ahead of F lies away from it. -/
theorem Zs.away {F : Nat → Prop} {w : World} {v : Value} {l : List Int} (h : Zs w v l) (hF : ∀ k, F k → w.heap.size ≤ k) : AwayZ F v := fun a m c hv hm e => by
  obtain ⟨_, oa, c', he, _, _, _, h5⟩ := h
  rw [he] at hv
  obtain ⟨rfl, rfl, rfl⟩ : oa = some a ∧ l.length = m ∧ c' = c := by simpa using hv
  have := World.block_lt_of_cell? w _ (h5 a rfl 0 hm)
  rw [add_blk] at this
  have := hF _ e
  omega
end Go.Proofs.Ytdmcncpndogdlaa
namespace Go.Proofs.Ytdmcncpndogdlaa
open Go.RowKit

/-- The state behind one draw; what is told of it. -/
def nextS (s : Nat) : Nat := (s * 6364136223846793005 + 1442695040888963407) % 18446744073709551616
def topS (s : Nat) : Nat := s / 4294967296
theorem nextS_lt (s : Nat) : nextS s < 18446744073709551616 := Nat.mod_lt _ (by omega)
theorem topS_lt {s : Nat} (h : s < 18446744073709551616) : topS s < 4294967296 := by unfold topS; omega

theorem next_wrap (s : Nat) : IntKind.u64.wrap (IntKind.u64.wrap ((s : Int) * 6364136223846793005) + 1442695040888963407) = ((nextS s : Nat) : Int) := by
  have hw : ∀ x : Int, IntKind.u64.wrap x = x % 18446744073709551616 := fun x => by simp [IntKind.wrap, IntKind.bits, IntKind.signed]
  rw [hw, hw]
  unfold nextS
  omega
theorem top_wrap (s : Nat) : ((nextS s : Nat) : Int) / 4294967296 % 4294967296 = ((topS (nextS s) : Nat) : Int) := by
  have := nextS_lt s
  unfold topS
  omega
/-- Below a bound, of a state. -/
def belowV (s : Nat) (n : Int) : Int := if n ≤ 0 then 0 else ((topS (nextS s) : Nat) : Int) % n
def belowS (s : Nat) (n : Int) : Nat := if n ≤ 0 then s else nextS s
theorem belowS_lt {s : Nat} (h : s < 18446744073709551616) (n : Int) : belowS s n < 18446744073709551616 := by
  unfold belowS
  split
  · exact h
  · exact nextS_lt s
theorem belowV_rng (s : Nat) (n : Int) : 0 ≤ belowV s n ∧ belowV s n < 4294967296 := by
  unfold belowV
  split
  · omega
  · have h1 := topS_lt (nextS_lt s)
    have h2 := Int.emod_nonneg ((topS (nextS s) : Nat) : Int) (by omega : n ≠ 0)
    have h3 : ((topS (nextS s) : Nat) : Int) % n ≤ ((topS (nextS s) : Nat) : Int) := by
      rw [Int.emod_def]
      have h4 := Int.ediv_nonneg (by omega : (0 : Int) ≤ ((topS (nextS s) : Nat) : Int)) (by omega : 0 ≤ n)
      have h5 := Int.mul_nonneg (by omega : 0 ≤ n) h4
      omega
    omega
/-- The contracts of package draw; At: how a Draw lies in memory (which blocks are its own), and its state. -/
structure DrawOk (At : World → Value → (Nat → Prop) → Nat → Prop) : Prop where
  ptr : ∀ {w : World} {d : Value} {F : Nat → Prop} {s : Nat}, At w d F s → ∃ a, d = .pointer (some a)
  lt : ∀ {w : World} {d : Value} {F : Nat → Prop} {s : Nat}, At w d F s → ∀ k, F k → k < w.heap.size
  keep : ∀ {w w' : World} {d : Value} {F G : Nat → Prop} {s : Nat}, At w d F s → Kp G w w' → (∀ k, F k → ¬ G k) → At w' d F s
/-- Since w0: a Draw of one's own. -/
def Dr (At : World → Value → (Nat → Prop) → Nat → Prop) (w0 w : World) (d : Value) (F : Nat → Prop) (s : Nat) : Prop := At w d F s ∧ (∀ k, F k → w0.heap.size ≤ k) ∧ Gr w0 w ∧ s < 18446744073709551616
section
variable {At : World → Value → (Nat → Prop) → Nat → Prop}
theorem Dr.step {w0 w w' : World} {d : Value} {F : Nat → Prop} {s s' : Nat} (h : Dr At w0 w d F s) (ha : At w' d F s') (hk : Kp F w w') (hs : s' < 18446744073709551616) : Dr At w0 w' d F s' :=
  ⟨ha, h.2.1, hk.gr h.2.2.1 h.2.1, hs⟩
theorem Dr.other (O : DrawOk At) {w0 w w' : World} {d : Value} {F G : Nat → Prop} {s : Nat} (h : Dr At w0 w d F s) (hk : Kp G w w') (hG : ∀ k, G k → w0.heap.size ≤ k) (hd : ∀ k, F k → ¬ G k) : Dr At w0 w' d F s :=
  ⟨O.keep h.1 hk hd, h.2.1, hk.gr h.2.2.1 hG, h.2.2.2⟩
theorem Dr.grown (O : DrawOk At) {w0 w w' : World} {d : Value} {F : Nat → Prop} {s : Nat} (h : Dr At w0 w d F s) (hg : Gr w w') : Dr At w0 w' d F s :=
  ⟨O.keep h.1 (hg.kp fun _ => False) (fun _ _ e => e), h.2.1, Gr.trans h.2.2.1 hg, h.2.2.2⟩
end
theorem first_wake : topS (nextS 0) = 335903614 := by decide
end Go.Proofs.Ytdmcncpndogdlaa
namespace Go.Proofs.Ytdmcncpndogdlaa
open Go.RowKit

def Us (w : World) (v : Value) (l : List Int) : Prop :=
  ∃ oa c, v = .slice oa l.length c ∧ l.length ≤ c ∧ c ≤ 9223372036854775807 ∧ (oa = none → c = 0) ∧ ∀ a, oa = some a → ∀ i, i < l.length → w.cell? (a.add i) = some (.int .u32 (l.getD i 0))
theorem Us.at {w : World} {v : Value} {l : List Int} (h : Us w v l) (hl : 0 < l.length) :
    ∃ a c, v = .slice (some a) l.length c ∧ l.length ≤ c ∧ c ≤ 9223372036854775807 ∧ ∀ i, i < l.length → w.cell? (a.add i) = some (.int .u32 (l.getD i 0)) := by
  obtain ⟨oa, c, h1, h2, h3, h4, h5⟩ := h
  cases oa with
  | none => exact absurd (h4 rfl) (by omega)
  | some a => exact ⟨a, c, h1, h2, h3, h5 a rfl⟩
theorem eq_of_getD' {x y : List Int} (hl : y.length = x.length) (h : ∀ j, j < x.length → x.getD j 0 = y.getD j 0) : x = y := by
  apply List.ext_getElem hl.symm
  intro j h1 h2
  have := h j h1
  rw [List.getD_eq_getElem?_getD, List.getD_eq_getElem?_getD, List.getElem?_eq_getElem h1, List.getElem?_eq_getElem h2] at this
  simpa using this

theorem infoU : (Try.prog.info? 59).map (fun i => (i.zero, i.size, i.bytes)) = some (some (.int .u32 0), 1, 4) := by kernel_rfl
theorem info_parts' {t : TypeId} {z : Option Value} {a b : Nat} (h : (Try.prog.info? t).map (fun i => (i.zero, i.size, i.bytes)) = some (z, a, b)) : ∃ i, Try.prog.info? t = some i ∧ i.zero = z ∧ i.size = a ∧ i.bytes = b := by
  obtain ⟨i, hi, he⟩ := Option.map_eq_some_iff.1 h
  simp only [Prod.mk.injEq] at he
  exact ⟨i, hi, he.1, he.2.1, he.2.2⟩
/-- Behind a call that writes only blocks ahead of base, a row of one's own from base on is as it was. -/
theorem ownsRow_kp {F : Nat → Prop} {w w' : World} {base : Nat} {e : TypeId} {size : Nat} {v : Value} {n : Nat} {xs : List Value} (h : w.ownsRow base e size v n xs) (hk : Kp F w w') (hF : ∀ k, F k → k < base) : w'.ownsRow base e size v n xs := by
  obtain ⟨h0, h1 | ⟨g, c, cur, rfl, hb, hg, h2⟩⟩ := h
  · exact ⟨h0, .inl h1⟩
  · exact ⟨h0, .inr ⟨g, c, cur, rfl, hb, hk.block hg (fun e => by have := hF g e; omega), h2⟩⟩
theorem ownsRow_base' {w : World} {base : Nat} {e : TypeId} {size : Nat} {v : Value} {n : Nat} {us : List Value} (h : w.ownsRow base e size v n us) : ∀ g, v.ownBlock = some g → base ≤ g := by
  intro g hg
  obtain ⟨_, ⟨rfl, _⟩ | ⟨g', c, cur, rfl, hb, _⟩⟩ := h
  · simp [Value.ownBlock] at hg
  · simp [Value.ownBlock] at hg
    omega
theorem ownsRow_form' {w : World} {base : Nat} {e : TypeId} {v : Value} {n : Nat} {us : List Value} (h : w.ownsRow base e 1 v n us) : ∃ oa c, v = .slice oa n c := by
  obtain ⟨_, ⟨rfl, rfl⟩ | ⟨g, c, cur, rfl, _⟩⟩ := h
  · exact ⟨_, _, rfl⟩
  · exact ⟨_, _, rfl⟩
theorem ownsRow_us {w : World} {base n : Nat} {v : Value} {l : List Int} (h : w.ownsRow base 59 1 v n (l.map (Value.int .u32))) (hl : l.length = n) : Us w v l := by
  subst hl
  obtain ⟨h0, ⟨rfl, h1⟩ | ⟨g, c, cur, rfl, hb, hg, h1, h2, h3, h4⟩⟩ := h
  · obtain rfl : l = [] := List.eq_nil_of_length_eq_zero (by omega)
    exact ⟨none, 0, rfl, by simp, by omega, fun _ => rfl, fun a h => by cases h⟩
  · refine ⟨some ⟨g, 0, none⟩, c, rfl, h1, by unfold maxLen at h2; omega, (fun h => by cases h), fun a ha i hi => ?_⟩
    cases ha
    have hadd : (⟨g, 0, none⟩ : Addr).add i = ⟨g, i, none⟩ := by unfold Addr.add; split <;> simp_all
    rw [hadd, cell_of_row w g i _ _ _ hg]
    rw [Nat.mul_one] at h4
    have : (cur.toList.take l.length)[i]? = (l.map (Value.int .u32))[i]? := by rw [h4]
    rw [List.getElem?_take_of_lt hi] at this
    simpa [hi] using this
/-- The state behind k draws; the numbers drawn. -/
def sq (s : Nat) : Nat → Nat
  | 0 => s
  | k + 1 => nextS (sq s k)
theorem sq_lt {s : Nat} (h : s < 18446744073709551616) : ∀ k, sq s k < 18446744073709551616
  | 0 => h
  | _ + 1 => nextS_lt _
def outs (s m : Nat) : List Int := (List.range m).map fun i => ((topS (sq s (i + 1)) : Nat) : Int)
theorem outs_length (s m : Nat) : (outs s m).length = m := by simp [outs]
theorem outs_succ (s m : Nat) : outs s (m + 1) = outs s m ++ [((topS (sq s (m + 1)) : Nat) : Int)] := by simp [outs, List.range_succ]
end Go.Proofs.Ytdmcncpndogdlaa
namespace Go.Proofs.Ytdmcncpndogdlaa
open Go.RowKit

theorem isAgg5 (w : World) : (isAgg 5).run Try.prog w = .ok false w := by kernel_rfl
theorem size5 (w : World) : (Go.sizeOf 5).run Try.prog w = .ok 1 w := by kernel_rfl
theorem g3 (w : World) (A B C : Obj) : (((w.alloc A).alloc B).alloc C).heap[w.heap.size]? = some A := by
  rw [heap_alloc_old _ _ (by simp; omega), heap_alloc_old _ _ (by simp)]
  exact heap_alloc_new _ _
theorem g3' (w : World) (A B C : Obj) : (((w.alloc A).alloc B).alloc C).heap[w.heap.size + 1]? = some B := by
  rw [heap_alloc_old _ _ (by simp)]
  exact heap_alloc2_new _ _ _
theorem g3'' (w : World) (A B C : Obj) : (((w.alloc A).alloc B).alloc C).heap[w.heap.size + 1 + 1]? = some C := by
  have h := heap_alloc_new ((w.alloc A).alloc B) C
  simpa using h

/-- The logarithms, as far as k rounds have made them. -/
def lw (k : Nat) : Nat → Nat := fun x => if x ≠ 0 ∧ M.lgN x < k then M.lgN x else 0
theorem lw_nil : tab 256 (fun _ => 0) = tab 256 (lw 0) := tab_congr 256 _ _ fun j _ => by simp [lw]
theorem lw_all : tab 256 (lw 255) = tab 256 M.lgN := tab_congr 256 _ _ fun x h => by
  unfold lw
  by_cases h0 : x = 0
  · subst h0
    rw [if_neg (by simp), M.lgN_zero]
  · rw [if_pos ⟨h0, (M.ex_lg x h h0).2⟩]
theorem lw_set (k : Nat) (h : k < 255) : (tab 256 (lw k)).setIfInBounds (M.exN k) (.int .u8 (k : Int)) = tab 256 (lw (k + 1)) := by
  rw [tab_set 256 _ _ _ (M.exN_lt k)]
  apply tab_congr
  intro x hx
  obtain ⟨h1, h2⟩ := M.lg_ex k h
  unfold lw
  by_cases e : x = M.exN k
  · subst e
    rw [if_pos rfl, if_pos ⟨h2, by omega⟩, h1]
  · rw [if_neg e]
    by_cases h0 : x = 0
    · subst h0
      simp
    · have : M.lgN x ≠ k := fun c => e (by rw [← c]; exact (M.ex_lg x hx h0).1.symm)
      by_cases h3 : M.lgN x < k
      · rw [if_pos ⟨h0, h3⟩, if_pos ⟨h0, by omega⟩]
      · rw [if_neg (fun c => h3 c.2), if_neg (fun c => h3 (by omega))]
end Go.Proofs.Ytdmcncpndogdlaa
namespace Go.Proofs.Ytdmcncpndogdlaa
open Go.RowKit

theorem foldSet (off : Nat) : ∀ (xs : List Value) (n : Nat) (cells : Array Value) (i : Nat),
    ((xs.zipIdx n).foldl (fun cs x => cs.setIfInBounds (off + x.2) x.1) cells)[i]? = if off + n ≤ i ∧ i < off + n + xs.length ∧ i < cells.size then xs[i - (off + n)]? else cells[i]?
  | [], n, cells, i => by
    rw [if_neg (by simp; omega)]
    rfl
  | x :: xs, n, cells, i => by
    rw [List.zipIdx_cons, List.foldl_cons, foldSet off xs (n + 1), Array.size_setIfInBounds, Array.getElem?_setIfInBounds, List.length_cons]
    by_cases h : off + n = i
    · subst h
      rw [if_neg (by omega), if_pos rfl]
      by_cases h2 : off + n < cells.size
      · rw [if_pos h2, if_pos (by omega)]
        simp
      · rw [if_neg h2, if_neg (by omega), Array.getElem?_eq_none (by omega)]
    · rw [if_neg h]
      by_cases h2 : off + (n + 1) ≤ i ∧ i < off + (n + 1) + xs.length ∧ i < cells.size
      · rw [if_pos h2, if_pos (by omega), show i - (off + n) = (i - (off + (n + 1))) + 1 from by omega, List.getElem?_cons_succ]
      · rw [if_neg h2, if_neg (by omega)]
theorem fill_two (z p l : Array Value) (hp : p.size = 255) (hl : l.size = 256) (hz : z.size = 511) :
    Instr.fill (([(0, 255), (255, 256)] : List (Nat × Nat)).toArray[·]?) z [(0, .agg p), (1, .agg l)] = some (p ++ l) := by
  have f1 : ∀ (off : Nat) (xs cells : Array Value), (xs.zipIdx.foldl (fun cs (c, j) => cs.setIfInBounds (off + j) c) cells) = ((xs.toList.zipIdx 0).foldl (fun cs x => cs.setIfInBounds (off + x.2) x.1) cells) := by
    intro off xs cells
    rw [← Array.foldl_toList, Array.toList_zipIdx]
  have s1 : ∀ (off : Nat) (xs : List (Value × Nat)) (cells : Array Value), (xs.foldl (fun cs x => cs.setIfInBounds (off + x.2) x.1) cells).size = cells.size := by
    intro off xs
    induction xs with
    | nil => intro cells; rfl
    | cons x xs ih => intro cells; rw [List.foldl_cons, ih, Array.size_setIfInBounds]
  simp only [Instr.fill, Value.cells, f1]
  have s2 := fun xs cells => s1 0 xs cells
  have f2 := fun xs n cells i => foldSet 0 xs n cells i
  simp only [Nat.zero_add] at s2 f2
  simp [hp, hl, hz]
  refine ⟨by rw [s2]; omega, ?_⟩
  apply Array.ext_getElem?
  intro i
  rw [foldSet, s2, f2, Array.getElem?_append]
  by_cases h1 : i < 255
  · rw [if_neg (by omega), if_pos (by simp [hp, hz]; omega), if_pos (by omega)]
    simp
  · by_cases h2 : i < 511
    · rw [if_pos (by simp [hl, hz]; omega), if_neg (by omega)]
      simp [hp]
    · rw [if_neg (by simp [hl, hz]; omega), if_neg (by simp [hp]; omega), if_neg (by omega), Array.getElem?_eq_none (by omega), Array.getElem?_eq_none (by omega)]
theorem keptRow {W w' : World} (hg : Gr W w') {b : Nat} {c : Array Value} {t : TypeId} {fr : Nat × Nat} (h : W.heap[b]? = some (.cells c t fr)) : w'.heap[b]? = some (.cells c t fr) := by
  rw [hg.2.2.2.2 b (Array.getElem?_eq_some_iff.1 h).1]
  exact h
end Go.Proofs.Ytdmcncpndogdlaa
namespace Go.Proofs.Ytdmcncpndogdlaa
open Go.RowKit

/-- A Field whose tables are made lies where block b begins (other things may lie behind it). -/
def FieldAt (w : World) (b : Nat) : Prop := w.rangeAt b 0 (tab 255 M.exN ++ tab 256 M.lgN).toList
theorem rangeAt_all {w : World} {b : Nat} {C : Array Value} {t : TypeId} {fr : Nat × Nat} (hb : w.heap[b]? = some (.cells C t fr)) : w.rangeAt b 0 C.toList := by
  have := World.rangeAt_of_block hb 0 C.size
  simpa using this
theorem rangeAt_grown {w w' : World} (hg : Gr w w') {b : Nat} {cs : List Value} (h : w.rangeAt b 0 cs) : w'.rangeAt b 0 cs := fun j v hv => by
  have h1 := h j v hv
  have hb := World.block_lt_of_cell? w _ h1
  cases ho : w.heap[b]? with
  | none => simp [World.cell?, ho] at h1
  | some o =>
    cases o with
    | cells c t fr =>
      rw [cell_of_row w' b _ c t fr (keptRow hg ho)]
      rw [cell_of_row w b _ c t fr ho] at h1
      exact h1
    | _ => simp [World.cell?, ho] at h1
theorem wp_built {P : Program} {o : Oper} {a : Act} {w : World} {K : Act → World → Prop} {Q : Exit → Act → World → Prop} (t : TypeId) (parts : Array (Nat × Operand)) (ho : o.op = .build t parts) (cells : Array Value)
    (hf : P.built t (parts.map fun (i, x) => (i, a.eval x)).toList = some cells) (h : K (a.put o.dst (.agg cells)) w) : o.wp P a w K Q :=
  wp_build t parts ho (by rw [hf]; rfl) (by rw [hf]; exact h)
end Go.Proofs.Ytdmcncpndogdlaa
