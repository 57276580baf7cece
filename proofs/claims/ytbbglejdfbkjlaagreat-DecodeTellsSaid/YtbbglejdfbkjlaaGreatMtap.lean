/-
  Texts laid behind one another: Ib Ic Id Dh Lso Da.
-/
import Derived.Test.YtbbglejdfbkjlaaGreatMtao
import Derived.Laws.ResultCell
import Derived.Test.YtbbglejdfbkjlaaGreatMtam
import Derived.Test.YtbbglejdfbkjlaaGreatMtan
import Derived.Test.YtbbglejdfbkjlaaGreatMtae
import Derived.Test.YtbbglejdfbkjlaaGreatMtaf
namespace Go.Proofs.YtbbglejdfbkjlaaGreat
open Go.RowKit
namespace PN
def isOne (dn us : List Bool) (R : List (List Int)) (i : Nat) : Bool := !(us.getD i false) && decide ((openL dn (R.getD i [])).length = 1)
def firstTo (dn us : List Bool) (R : List (List Int)) : Nat → Option Nat
 | 0 => none
 | k + 1 => match firstTo dn us R k with
  | some i => some i
  | none => if isOne dn us R k = true then some k else none
def colOf (dn : List Bool) (R : List (List Int)) (i : Nat) : Int := (openL dn (R.getD i [])).getD 0 0
def cntTo (dn us : List Bool) (R : List (List Int)) : Nat → Nat → Nat
 | 0, _ => 0
 | k + 1, c => cntTo dn us R k c + (if us.getD k false = false ∧ (c : Int) ∈ openL dn (R.getD k []) then 1 else 0)
def bestTo (dn : List Bool) (f : Nat → Nat) : Nat → Option Nat
 | 0 => none
 | c + 1 => if dn.getD c false = true then bestTo dn f c else match bestTo dn f c with
  | none => some c
  | some b => if f b < f c then some c else some b
structure St where
 dn : List Bool
 us : List Bool
 steps : List (Int × Int)
 dead : List Int
def start (n m : Nat) : St := ⟨List.replicate n false, List.replicate m false, [], []⟩
def next (n : Nat) (R : List (List Int)) (s : St) : St :=
 match firstTo s.dn s.us R R.length with
 | some i => ⟨s.dn.set (colOf s.dn R i).toNat true, s.us.set i true, s.steps ++ [((i : Int), colOf s.dn R i)], s.dead⟩
 | none => match bestTo s.dn (cntTo s.dn s.us R R.length) n with
  | some b => ⟨s.dn.set b true, s.us, s.steps, s.dead ++ [(b : Int)]⟩
  | none => s
def run (n : Nat) (R : List (List Int)) : Nat → St
 | 0 => start n R.length
 | t + 1 => next n R (run n R t)
def leftTo (us : List Bool) : Nat → List Int
 | 0 => []
 | k + 1 => leftTo us k ++ (if us.getD k false = true then [] else [(k : Int)])
theorem leftTo_le (us : List Bool) : ∀ k, (leftTo us k).length ≤ k
 | 0 => Nat.le_refl _
 | k + 1 => by
  have := leftTo_le us k
  show (leftTo us k ++ _).length ≤ _
  rw [List.length_append]
  split <;> simp <;> omega
theorem leftTo_mem (us : List Bool) : ∀ k x, x ∈ leftTo us k ↔ ∃ i : Nat, i < k ∧ us.getD i false = false ∧ x = (i : Int)
 | 0, x => ⟨fun h => (by cases h), fun ⟨i, h, _⟩ => by omega⟩
 | k + 1, x => by
  show x ∈ leftTo us k ++ _ ↔ _
  rw [List.mem_append, leftTo_mem us k x]
  constructor
  ·rintro (⟨i, h1, h2, h3⟩ | h)
   ·exact ⟨i, by omega, h2, h3⟩
   ·split at h
    ·cases h
    ·rename_i hne
     exact ⟨k, by omega, by simpa using hne, by simpa using h⟩
  ·rintro ⟨i, h1, h2, h3⟩
   by_cases e : i = k
   ·right
    subst e
    rw [if_neg (by rw [h2]; simp), h3]
    simp
   ·exact .inl ⟨i, by omega, h2, h3⟩
def May (n : Int) (R : List (List Int)) : Prop := 0 ≤ n ∧ n ≤ 64 ∧ ∀ c ∈ R, MayRow n c
def unkN (dn : List Bool) (n : Nat) : Nat := ((List.range n).filter fun i => !(dn.getD i false)).length
theorem unkN_set {dn : List Bool} {n x : Nat} (hl : dn.length = n) (hx : x < n) (hk : dn.getD x false = false) : unkN (dn.set x true) n + 1 = unkN dn n := by
 unfold unkN
 have h1 : ∀ m, x < m → m ≤ n → ((List.range m).filter fun i => !((dn.set x true).getD i false)).length + 1 = ((List.range m).filter fun i => !(dn.getD i false)).length := by
  intro m
  induction m with
  | zero => intro h; omega
  | succ m ih =>
   intro h hm
   rw [List.range_succ, List.filter_append, List.filter_append, List.length_append, List.length_append]
   by_cases e : x = m
   ·subst e
    have h2 : ((List.range x).filter fun i => !((dn.set x true).getD i false)) = (List.range x).filter fun i => !(dn.getD i false) := by
     apply List.filter_congr
     intro i hi
     have hi := List.mem_range.1 hi
     rw [getD_set_neT (by omega)]
    rw [h2, List.filter_cons_of_neg (by rw [getD_set_selfT (by omega)]; simp), List.filter_cons_of_pos (by rw [hk]; rfl)]
    simp
   ·have h3 := ih (by omega) (by omega)
    have h4 : (dn.set x true).getD m false = dn.getD m false := getD_set_neT (by omega) _
    have h5 : ([m].filter fun i => !((dn.set x true).getD i false)) = [m].filter fun i => !(dn.getD i false) := by
     apply List.filter_congr
     intro i hi
     obtain rfl := List.mem_singleton.1 hi
     rw [h4]
    rw [h5]
    omega
 exact h1 n hx (Nat.le_refl _)
theorem firstTo_spec (dn us : List Bool) (R : List (List Int)) : ∀ k, (∀ i, firstTo dn us R k = some i → i < k ∧ isOne dn us R i = true ∧ ∀ j, j < i → isOne dn us R j = false) ∧ (firstTo dn us R k = none → ∀ j, j < k → isOne dn us R j = false)
 | 0 => ⟨(fun i h => by cases h), (fun _ j hj => by omega)⟩
 | k + 1 => by
  obtain ⟨h1, h2⟩ := firstTo_spec dn us R k
  unfold firstTo
  cases hf : firstTo dn us R k with
  | some i =>
   obtain ⟨a, b, c⟩ := h1 i hf
   exact ⟨(fun j hj => by cases hj; exact ⟨by omega, b, c⟩), (fun h => by cases h)⟩
  | none =>
   have hn := h2 hf
   by_cases e : isOne dn us R k = true
   ·simp only [e, if_true]
    exact ⟨(fun j hj => by cases hj; exact ⟨by omega, e, hn⟩), (fun h => by cases h)⟩
   ·have e' : isOne dn us R k = false := by simpa using e
    simp only [e', Bool.false_eq_true, if_false]
    refine ⟨(fun j hj => by cases hj), fun _ j hj => ?_⟩
    by_cases ej : j = k
    ·rw [ej]; exact e'
    ·exact hn j (by omega)
theorem bestTo_spec (dn : List Bool) (f : Nat → Nat) : ∀ n, (∀ b, bestTo dn f n = some b → b < n ∧ dn.getD b false = false ∧ (∀ c, c < n → dn.getD c false = false → f c ≤ f b) ∧ ∀ c, c < b → dn.getD c false = false → f c < f b) ∧ (bestTo dn f n = none → ∀ c, c < n → dn.getD c false = true)
 | 0 => ⟨(fun b h => by cases h), (fun _ c hc => by omega)⟩
 | n + 1 => by
  obtain ⟨h1, h2⟩ := bestTo_spec dn f n
  unfold bestTo
  by_cases e : dn.getD n false = true
  ·rw [if_pos e]
   refine ⟨fun b hb => ?_, fun hb c hc => ?_⟩
   ·obtain ⟨a, b', c, d⟩ := h1 b hb
    refine ⟨by omega, b', fun x hx hd => ?_, d⟩
    by_cases ex : x = n
    ·rw [ex, e] at hd; cases hd
    ·exact c x (by omega) hd
   ·by_cases ec : c = n
    ·rw [ec]; exact e
    ·exact h2 hb c (by omega)
  ·have e' : dn.getD n false = false := by simpa using e
   rw [if_neg e]
   cases hf : bestTo dn f n with
   | none =>
    have hn := h2 hf
    refine ⟨fun b hb => ?_, fun h => by cases h⟩
    cases hb
    refine ⟨by omega, e', fun x hx hd => ?_, fun x hx hd => ?_⟩
    ·by_cases ex : x = n
     ·rw [ex]; exact Nat.le_refl _
     ·rw [hn x (by omega)] at hd; cases hd
    ·rw [hn x hx] at hd; cases hd
   | some b0 =>
    obtain ⟨a, b', c, d⟩ := h1 b0 hf
    by_cases el : f b0 < f n
    ·simp only [el, if_true]
     refine ⟨fun b hb => ?_, fun h => by cases h⟩
     cases hb
     refine ⟨by omega, e', fun x hx hd => ?_, fun x hx hd => ?_⟩
     ·by_cases ex : x = n
      ·rw [ex]; exact Nat.le_refl _
      ·have := c x (by omega) hd; omega
     ·have := c x hx hd; omega
    ·simp only [el, if_false]
     refine ⟨fun b hb => ?_, fun h => by cases h⟩
     cases hb
     refine ⟨by omega, b', fun x hx hd => ?_, d⟩
     by_cases ex : x = n
     ·rw [ex]; omega
     ·exact c x (by omega) hd
theorem bestTo_some {dn : List Bool} {f : Nat → Nat} {n : Nat} (h : 0 < unkN dn n) : ∃ b, bestTo dn f n = some b := by
 cases hb : bestTo dn f n with
 | some b => exact ⟨b, rfl⟩
 | none =>
  have hn := (bestTo_spec dn f n).2 hb
  unfold unkN at h
  have : (List.range n).filter (fun i => !(dn.getD i false)) = [] := by
   rw [List.filter_eq_nil_iff]
   intro i hi
   rw [hn i (List.mem_range.1 hi)]
   simp
  rw [this] at h
  simp at h
theorem one_col {n : Nat} {dn us : List Bool} {R : List (List Int)} (hR : ∀ c ∈ R, MayRow n c) {i : Nat} (hi : i < R.length) (h : isOne dn us R i = true) :
  us.getD i false = false ∧ openL dn (R.getD i []) = [colOf dn R i] ∧ 0 ≤ colOf dn R i ∧ colOf dn R i < (n : Int) ∧ dn.getD (colOf dn R i).toNat false = false := by
 unfold isOne at h
 simp only [Bool.and_eq_true, Bool.not_eq_true', decide_eq_true_eq] at h
 obtain ⟨h1, h2⟩ := h
 obtain ⟨x, hx⟩ := List.length_eq_one_iff.1 h2
 have hc : colOf dn R i = x := by
  unfold colOf
  rw [hx]
  rfl
 have hm : x ∈ openL dn (R.getD i []) := by rw [hx]; simp
 obtain ⟨hm1, hm2⟩ := openL_mem.1 hm
 have := (hR _ (getD_memL hi)).1 x hm1
 rw [hc, hx]
 exact ⟨h1, rfl, this.1, this.2, hm2⟩
structure Inv (n : Nat) (R : List (List Int)) (t : Nat) (s : St) : Prop where
 dn : s.dn.length = n
 us : s.us.length = R.length
 unk : unkN s.dn n + t = n
 cnt : s.steps.length + s.dead.length = t
theorem unkN_start (n : Nat) : unkN (List.replicate n false) n = n := by
 unfold unkN
 rw [List.filter_eq_self.2 fun i _ => by rw [rep_false]; rfl]
 simp
theorem run_inv {n : Nat} {R : List (List Int)} (hR : ∀ c ∈ R, MayRow n c) : ∀ t, t ≤ n → Inv n R t (run n R t)
 | 0, _ => ⟨by simp [run, start], by simp [run, start], by show unkN (List.replicate n false) n + 0 = n; rw [unkN_start]; rfl, rfl⟩
 | t + 1, ht => by
  have h := run_inv hR t (by omega)
  show Inv n R (t + 1) (next n R (run n R t))
  unfold next
  cases hf : firstTo (run n R t).dn (run n R t).us R R.length with
  | some i =>
   obtain ⟨h1, h2, _⟩ := (firstTo_spec _ _ R R.length).1 i hf
   obtain ⟨_, _, h3, h4, h5⟩ := one_col hR h1 h2
   have h6 := unkN_set h.dn (x := (colOf (run n R t).dn R i).toNat) (by omega) h5
   exact ⟨by simp [h.dn], by simp [h.us], by have := h.unk; show unkN (List.set _ _ _) n + _ = n; omega, by have := h.cnt; simp; omega⟩
  | none =>
   obtain ⟨b, hb⟩ := bestTo_some (f := cntTo (run n R t).dn (run n R t).us R R.length) (dn := (run n R t).dn) (n := n) (by have := h.unk; omega)
   obtain ⟨h1, h2, _⟩ := (bestTo_spec _ _ n).1 b hb
   have h6 := unkN_set h.dn h1 h2
   simp only [hb]
   exact ⟨by simp [h.dn], h.us, by have := h.unk; show unkN (List.set _ _ _) n + _ = n; omega, by have := h.cnt; simp; omega⟩
def rowZ : Option Nat → Int
 | none => -1
 | some i => i
theorem rowZ_neg (o : Option Nat) : rowZ o < 0 ↔ o = none := by
 cases o with
 | none => simp [rowZ]
 | some i => simp [rowZ]
def cntL (n : Nat) (f : Nat → Nat) : List Int := (List.range n).map fun c => (f c : Int)
theorem cntL_length (n : Nat) (f : Nat → Nat) : (cntL n f).length = n := by simp [cntL]
theorem cntL_get {n : Nat} {f : Nat → Nat} {c : Nat} (h : c < n) : (cntL n f).getD c 0 = (f c : Int) := by simp [cntL, h]
theorem cntL_set {n : Nat} {f : Nat → Nat} {c : Nat} (_ : c < n) (y : Nat) : (cntL n f).set c (y : Int) = cntL n fun x => if x = c then y else f x := by
 apply List.ext_getElem (by simp [cntL])
 intro i h1 h2
 rw [List.getElem_set]
 simp only [cntL, List.getElem_map, List.getElem_range]
 by_cases e : i = c
 ·rw [if_pos e.symm, if_pos e]
 ·rw [if_neg (fun h => e h.symm), if_neg e]
def cntP (f : Nat → Nat) (o : List Int) (p : Nat) (c : Nat) : Nat := f c + (if (c : Int) ∈ o.take p then 1 else 0)
theorem cntP_zero (f : Nat → Nat) (o : List Int) : cntP f o 0 = f := funext fun c => by simp [cntP]
theorem cntP_step {f : Nat → Nat} {o : List Int} {p c : Nat} (hp : p < o.length) (hn : o.Nodup) (hc : o.getD p 0 = (c : Int)) : (fun x => if x = c then cntP f o p c + 1 else cntP f o p x) = cntP f o (p + 1) := funext fun x => by
 have ht := take_snoc o p 0 hp
 rw [hc] at ht
 unfold cntP
 rw [ht]
 have hno : (c : Int) ∉ o.take p := fun h => by
  obtain ⟨i, hi, he⟩ := List.getElem_of_mem h
  rw [List.length_take] at hi
  rw [List.getElem_take] at he
  have h2 : o[p] = (c : Int) := by
   rw [List.getD_eq_getElem?_getD, List.getElem?_eq_getElem hp] at hc
   exact hc
  have := (List.nodup_iff_pairwise_ne.1 hn)
  rw [List.pairwise_iff_getElem] at this
  exact this i p (by omega) hp (by omega) (by rw [he, h2])
 by_cases e : x = c
 ·subst e
  rw [if_pos rfl, if_neg hno, if_pos (by simp)]
 ·rw [if_neg e]
  congr 1
  have : ((x : Int) ∈ o.take p ++ [(c : Int)]) ↔ (x : Int) ∈ o.take p := by
   rw [List.mem_append, List.mem_singleton]
   exact ⟨fun h => h.elim id fun h => absurd (by omega : x = c) e, .inl⟩
  simp only [this]
theorem cntTo_more {dn us : List Bool} {R : List (List Int)} {k : Nat} (h : us.getD k false = false) : cntTo dn us R (k + 1) = cntP (cntTo dn us R k) (openL dn (R.getD k [])) (openL dn (R.getD k [])).length := funext fun c => by
 show cntTo dn us R k c + _ = cntTo dn us R k c + _
 rw [List.take_length]
 simp only [h, true_and]
theorem firstTo_skip {dn us : List Bool} {R : List (List Int)} {k : Nat} (h : isOne dn us R k = false) : firstTo dn us R (k + 1) = firstTo dn us R k := by
 show (match firstTo dn us R k with | some i => some i | none => if isOne dn us R k = true then some k else none) = _
 rw [h]
 cases firstTo dn us R k <;> rfl
theorem firstTo_had {dn us : List Bool} {R : List (List Int)} {k i : Nat} (h : firstTo dn us R k = some i) : firstTo dn us R (k + 1) = some i := by
 show (match firstTo dn us R k with | some i => some i | none => if isOne dn us R k = true then some k else none) = _
 rw [h]
theorem firstTo_hit {dn us : List Bool} {R : List (List Int)} {k : Nat} (h : firstTo dn us R k = none) (h1 : isOne dn us R k = true) : firstTo dn us R (k + 1) = some k := by
 show (match firstTo dn us R k with | some i => some i | none => if isOne dn us R k = true then some k else none) = _
 rw [h, h1]
 rfl
theorem cntTo_le (dn us : List Bool) (R : List (List Int)) (c : Nat) : ∀ k, cntTo dn us R k c ≤ k
 | 0 => Nat.le_refl _
 | k + 1 => by
  have := cntTo_le dn us R c k
  show cntTo dn us R k c + _ ≤ _
  split <;> omega
theorem next_some {n : Nat} {R : List (List Int)} {s : St} {i : Nat} (h : firstTo s.dn s.us R R.length = some i) : next n R s = ⟨s.dn.set (colOf s.dn R i).toNat true, s.us.set i true, s.steps ++ [((i : Int), colOf s.dn R i)], s.dead⟩ := by
 unfold next
 rw [h]
theorem next_none {n : Nat} {R : List (List Int)} {s : St} {b : Nat} (h : firstTo s.dn s.us R R.length = none) (hb : bestTo s.dn (cntTo s.dn s.us R R.length) n = some b) : next n R s = ⟨s.dn.set b true, s.us, s.steps, s.dead ++ [(b : Int)]⟩ := by
 unfold next
 rw [h]
 simp only [hb]
def steps (n : Nat) (R : List (List Int)) : List (Int × Int) := (run n R n).steps
def dead (n : Nat) (R : List (List Int)) : List Int := (run n R n).dead
def left (n : Nat) (R : List (List Int)) : List Int := leftTo (run n R n).us R.length
theorem run_rng {n : Nat} {R : List (List Int)} (hR : ∀ c ∈ R, MayRow n c) : ∀ t, t ≤ n → (∀ x ∈ (run n R t).dead, 0 ≤ x ∧ x < (n : Int)) ∧ ∀ p ∈ (run n R t).steps, 0 ≤ p.1 ∧ p.1 < (R.length : Int) ∧ 0 ≤ p.2 ∧ p.2 < (n : Int)
 | 0, _ => ⟨fun x hx => (by cases hx), fun p hp => by cases hp⟩
 | t + 1, ht => by
  obtain ⟨h1, h2⟩ := run_rng hR t (by omega)
  have h := run_inv hR t (by omega)
  show (∀ x ∈ (next n R (run n R t)).dead, _) ∧ ∀ p ∈ (next n R (run n R t)).steps, _
  cases hf : firstTo (run n R t).dn (run n R t).us R R.length with
  | some i =>
   rw [next_some hf]
   obtain ⟨a1, a2, _⟩ := (firstTo_spec _ _ R R.length).1 i hf
   obtain ⟨_, _, a3, a4, _⟩ := one_col hR a1 a2
   refine ⟨h1, fun p hp => ?_⟩
   rcases List.mem_append.1 hp with hp | hp
   ·exact h2 p hp
   ·obtain rfl := List.mem_singleton.1 hp
    exact ⟨by show (0 : Int) ≤ (i : Int); omega, by show (i : Int) < _; omega, a3, a4⟩
  | none =>
   obtain ⟨b, hb⟩ := bestTo_some (f := cntTo (run n R t).dn (run n R t).us R R.length) (dn := (run n R t).dn) (n := n) (by have := h.unk; omega)
   rw [next_none hf hb]
   have a1 := ((bestTo_spec _ _ n).1 b hb).1
   refine ⟨fun x hx => ?_, h2⟩
   rcases List.mem_append.1 hx with hx | hx
   ·exact h1 x hx
   ·obtain rfl := List.mem_singleton.1 hx
    omega
end PN
end Go.Proofs.YtbbglejdfbkjlaaGreat
namespace Go.Proofs.YtbbglejdfbkjlaaGreat
open Go.RowKit
def stepC (p : Int × Int) : List Value := [.int .i64 p.1, .int .i64 p.2]
def StepsO (base : Nat) (w : World) (v : Value) (L : List (Int × Int)) : Prop := w.ownsRow base 157 2 v L.length (L.flatMap stepC)
def Stp (w : World) (v : Value) (L : List (Int × Int)) : Prop :=
 ∃ oa c, v = .slice oa L.length c ∧ L.length ≤ c ∧ c ≤ 9223372036854775807 ∧ (oa = none → c = 0) ∧ (0 < L.length → ∃ b o, oa = some ⟨b, o, none⟩ ∧ ∀ i, i < L.length → w.cell? ⟨b, o + i * 2, none⟩ = some (.int .i64 (L.getD i (0, 0)).1) ∧ w.cell? ⟨b, o + i * 2 + 1, none⟩ = some (.int .i64 (L.getD i (0, 0)).2))
theorem Stp.grown {w w' : World} {v : Value} {L : List (Int × Int)} (h : Stp w v L) (hg : Gr w w') : Stp w' v L := by
 obtain ⟨oa, c, h1, h2, h3, h4, h5⟩ := h
 refine ⟨oa, c, h1, h2, h3, h4, fun h0 => ?_⟩
 obtain ⟨b, o, q1, q2⟩ := h5 h0
 exact ⟨b, o, q1, fun i hi => ⟨cell_gr hg (q2 i hi).1, cell_gr hg (q2 i hi).2⟩⟩
theorem Stp.nil (w : World) : Stp w (.slice none 0 0) [] := ⟨none, 0, rfl, by simp, by omega, fun _ => rfl, fun h => by simp at h⟩
theorem Stp.form {w : World} {v : Value} {L : List (Int × Int)} (h : Stp w v L) : ∃ o c, v = .slice o L.length c := by
 obtain ⟨oa, c, h1, _⟩ := h
 exact ⟨oa, c, h1⟩
theorem stepC_get : ∀ (L : List (Int × Int)) (i : Nat), i < L.length → (L.flatMap stepC)[i * 2]? = some (.int .i64 (L.getD i (0, 0)).1) ∧ (L.flatMap stepC)[i * 2 + 1]? = some (.int .i64 (L.getD i (0, 0)).2)
 | [], i, h => by simp at h
 | p :: L, 0, _ => ⟨rfl, rfl⟩
 | p :: L, i + 1, h => by
  rw [List.length_cons] at h
  have h2 := stepC_get L i (by omega)
  have e : (p :: L).flatMap stepC = .int .i64 p.1 :: .int .i64 p.2 :: L.flatMap stepC := rfl
  rw [e, show (i + 1) * 2 = i * 2 + 1 + 1 from by omega, List.getElem?_cons_succ, List.getElem?_cons_succ, List.getElem?_cons_succ, List.getElem?_cons_succ]
  exact h2
theorem StepsO.nil (base : Nat) (w : World) : StepsO base w (.slice none 0 0) [] := World.ownsRow_nil _ _ _ _
theorem StepsO.form {base : Nat} {w : World} {v : Value} {L : List (Int × Int)} (h : StepsO base w v L) : ∃ o c, v = .slice o L.length c := by
 obtain ⟨_, ⟨rfl, h⟩ | ⟨g, c, cur, rfl, _⟩⟩ := h
 ·exact ⟨none, 0, by rw [h]⟩
 ·exact ⟨_, _, rfl⟩
theorem StepsO.stp {base : Nat} {w : World} {v : Value} {L : List (Int × Int)} (h : StepsO base w v L) : Stp w v L := by
 obtain ⟨hlen, ⟨rfl, h0⟩ | ⟨g, c, cur, rfl, h1, h2, h3, h4, h5, h6⟩⟩ := h
 ·obtain rfl : L = [] := List.eq_nil_of_length_eq_zero h0
  exact Stp.nil w
 ·have hcell : ∀ j, j < L.length * 2 → w.cell? ⟨g, j, none⟩ = (L.flatMap stepC)[j]? := fun j hj => by
   rw [cell_of_row _ _ _ _ _ _ h2, ← h6, List.getElem?_take_of_lt hj]
   simp
  refine ⟨_, c, rfl, h3, by unfold maxLen at h4; omega, (fun e => by cases e), fun _ => ⟨g, 0, rfl, fun i hi => ?_⟩⟩
  have hs := stepC_get L i hi
  rw [Nat.zero_add]
  exact ⟨by rw [hcell _ (by omega)]; exact hs.1, by rw [hcell _ (by omega)]; exact hs.2⟩
theorem infoSt : (Tryz.prog.info? 157).map (fun i => (i.zero.map (·.cells.size), i.size, i.bytes)) = some (some 2, 2, 16) := by kernel_rfl
theorem wpList_append_step {w : World} {ops : Array Oper} {rest : List Oper} {o : Oper} {a : Act} {Q : Exit → Act → World → Prop} (hgd : o.guard = none) (s x : Operand)
  (ho : o.op = .call { callee := .builtin .append, args := #[s, x], argTypes := #[147, 147] }) (base : Nat) (v : Value) (L : List (Int × Int)) (hs : a.eval s = v) (hR : StepsO base w v L)
  (g : Nat) (p : Int × Int) (hx : a.eval x = .slice (some ⟨g, 0, none⟩) 1 1) (hc : w.cell? ⟨g, 0, none⟩ = some (.int .i64 p.1)) (hd : w.cell? ⟨g, 1, none⟩ = some (.int .i64 p.2)) (hm : L.length ≤ 100000) (hbase : base ≤ w.heap.size)
  (h : ∀ v' w', StepsO base w' v' (L ++ [p]) → w.grownBy w' v.ownBlock → wpList Tryz.prog ops Q rest (a.put o.dst v') w') : wpList Tryz.prog ops Q (o :: rest) a w := by
 obtain ⟨i, hi, hzz⟩ := Option.map_eq_some_iff.1 infoSt
 simp only [Prod.mk.injEq] at hzz
 obtain ⟨hz0, hz1, hz2⟩ := hzz
 obtain ⟨z, hz, hzs⟩ := Option.map_eq_some_iff.1 hz0
 refine wpList_append_own w hgd s x 147 ho base 157 i z 2 16 Tryz.underlying147 hi hz hz1 hz2 hzs (by omega) v L.length _ hs hR ⟨g, 0, none⟩ 1 1 (stepC p) hx rfl (fun j u hj => by
   match j, hj with
   | 0, hj =>
     obtain rfl : Value.int .i64 p.1 = u := by simpa [stepC] using hj
     exact hc
   | 1, hj =>
     obtain rfl : Value.int .i64 p.2 = u := by simpa [stepC] using hj
     exact hd
   | j + 2, hj => simp [stepC] at hj) (fun u hu => by
     simp [stepC] at hu
     rcases hu with rfl | rfl <;> rfl) (by unfold maxLen; omega) (by omega) hbase ?_
 intro v' w' h1 h2 _
 refine h v' w' ?_ h2
 unfold StepsO
 rw [List.length_append, List.flatMap_append, List.flatMap_singleton]
 exact h1
theorem Blz.putP {w : World} {g : Nat} {L : List Int} (h : Blz w g L) (i : Nat) (x : Int) : Blz (w.setCell ⟨g, i, none⟩ (.int .i64 x)) g (L.set i x) := by
 unfold Blz at *
 rw [heap_setCell_same _ _ _ _ _ _ h, rowZ_set]
theorem Blz.frzP {w : World} {g : Nat} {L : List Int} (h : Blz w g L) (i : Nat) : w.frozen? ⟨g, i, none⟩ = false := frozen_of_row w g i _ _ h
section
variable {w0 W W' : World} {gk gu go : Nat} {dn us : List Bool} {sv dv lv : Value} {st : List (Int × Int)} {de le : List Int}
theorem keep_block {W W' : World} {row : Option Nat} {g : Nat} {cur : Array Value} {t : TypeId} (h : W.heap[g]? = some (.cells cur t (0, 0))) (hg : W.grownBy W' row) (hn : row ≠ some g) : W'.heap[g]? = some (.cells cur t (0, 0)) := by
 rw [hg.block g (Array.getElem?_eq_some_iff.1 h).1 (fun e => hn e.symm)]
 exact h
theorem own_other {W W' : World} {base base' : Nat} {e e' : TypeId} {size size' n n' : Nat} {v v' : Value} {xs xs' : List Value} (h : W.ownsRow base e size v n xs) (h' : W.ownsRow base' e' size' v' n' xs') (hne : e ≠ e') (hg : W.grownBy W' v'.ownBlock) : W'.ownsRow base e size v n xs := by
 refine own_through h hg fun g hv hv' => ?_
 obtain ⟨_, ⟨rfl, _⟩ | ⟨g1, c, cur, rfl, _, hgg, _⟩⟩ := h
 ·cases hv
 ·simp [Value.ownBlock] at hv
  subst hv
  exact own_type h' hgg hne hv'
theorem own_set {base n g o : Nat} {e t : TypeId} {size : Nat} {v x : Value} {xs : List Value} {cur : Array Value} (h : W.ownsRow base e size v n xs) (hg : W.heap[g]? = some (.cells cur t (0, 0))) (ht : t ≠ e) : (W.setCell ⟨g, o, none⟩ x).ownsRow base e size v n xs := by
 obtain ⟨h0, h1 | ⟨g', c, cur', rfl, hb, hgg, h2⟩⟩ := h
 ·exact ⟨h0, .inl h1⟩
 ·refine ⟨h0, .inr ⟨g', c, cur', rfl, hb, ?_, h2⟩⟩
  rw [heap_setCell_other _ _ _ _ (fun e' => ?_)]
  ·exact hgg
  ·have e' : g' = g := e'
   rw [e', hg] at hgg
   simp at hgg
   exact ht hgg.2
end
end Go.Proofs.YtbbglejdfbkjlaaGreat
namespace Go.Proofs.YtbbglejdfbkjlaaGreat
open Go.RowKit
namespace PN
def Says (n : Int) (R : List (List Int)) (st : List (Int × Int)) (de le : List Int) (ok : Bool) : Prop :=
 (¬ May n R ∧ ok = false ∧ st = [] ∧ de = [] ∧ le = []) ∨ (May n R ∧ ok = true ∧ st = steps n.toNat R ∧ de = dead n.toNat R ∧ le = left n.toNat R)
end PN
theorem drN_moreQ {w W : World} (h : ∃ d, W = w.drewN d) (m : Nat) : ∃ d, W.drewN m = w.drewN d := by
 obtain ⟨d, rfl⟩ := h
 exact ⟨_, World.drewN_drewN _ _ _⟩
theorem plan_load {W : World} {g : Nat} {sv dv lv : Value} (h : W.heap[g]? = some (.cells #[sv, dv, lv] 149 (0, 0))) : (loadVar 149 ⟨g, 0, none⟩).run Tryz.prog W = .ok (.agg #[sv, dv, lv]) W :=
 run_loadVar_mid W g 0 149 [sv, dv, lv] _ (fun j v hv => by
   rw [Nat.zero_add, cell_of_row _ _ _ _ _ _ h]
   simpa using hv) Tryz.underlying149 rfl (by kernel_rfl)
theorem plan_res {W : World} {g : Nat} {u : Value} {v : Value} (h : (loadVar 149 ⟨g, 0, none⟩).run Tryz.prog W = .ok v W) :
  (((asAddr (.pointer (some ⟨g, 0, none⟩))).run Tryz.prog W).andThen fun a w₁ => ((loadVar 149 a).run Tryz.prog w₁).andThen fun v w₂ => Result.ok (Value.tuple #[v, u]) w₂) = .ok (.tuple #[v, u]) W := by
 simp only [asAddr, Sem.run_pure, Result.andThen_ok, h]
end Go.Proofs.YtbbglejdfbkjlaaGreat
namespace Go.Proofs.YtbbglejdfbkjlaaGreat
open Go.RowKit
def Rw (W : World) (g : Nat) (t : TypeId) (us : List Value) : Prop := W.heap[g]? = some (.cells us.toArray t (0, 0))
section
variable {W W' : World} {g : Nat} {t : TypeId} {us : List Value}
theorem Rw.cell (h : Rw W g t us) (i : Nat) (hi : i < us.length) : W.cell? ⟨g, i, none⟩ = some (us.getD i undef) := by
 rw [cell_of_row W g i _ _ _ h, List.getElem?_toArray, List.getD_eq_getElem?_getD, List.getElem?_eq_getElem hi]
 rfl
theorem Rw.frz (h : Rw W g t us) (i : Nat) : W.frozen? ⟨g, i, none⟩ = false := frozen_of_row W g i _ _ h
theorem Rw.set (h : Rw W g t us) (i : Nat) (x : Value) : Rw (W.setCell ⟨g, i, none⟩ x) g t (us.set i x) := by
 unfold Rw at *
 rw [heap_setCell_same _ _ _ _ _ _ h, List.setIfInBounds_toArray]
theorem Rw.kp {F : Nat → Prop} (h : Rw W g t us) (hk : Kp F W W') (hn : ¬ F g) : Rw W' g t us := hk.block h hn
theorem Rw.grown (h : Rw W g t us) (hg : Gr W W') : Rw W' g t us := keptRow hg h
end
theorem getD_selfV {us : List Value} {i : Nat} (h : i < us.length) (x : Value) : (us.set i x).getD i undef = x := by
 rw [List.getD_eq_getElem?_getD, List.getElem?_set_self h]
 rfl
theorem getD_neV {us : List Value} {i j : Nat} (h : i ≠ j) (x : Value) : (us.set i x).getD j undef = us.getD j undef := by
 rw [List.getD_eq_getElem?_getD, List.getElem?_set_ne h, ← List.getD_eq_getElem?_getD]
theorem alloc_rw (w : World) (us : List Value) (t : TypeId) : Rw (w.alloc (.cells us.toArray t)) w.heap.size t us := heap_alloc_new _ _
set_option maxRecDepth 100000 in
set_option maxHeartbeats 1600000 in
theorem dids_any (v : Value) (Y : List Symb) (w : World) (hy : Syms w v Y) (hl : Y.length ≤ 1000) :
  Calls Tryz.prog 36 #[v] w fun e w' => ∃ u, e = .returned u ∧ Zs w' u (idsY Y) ∧ Gr w w' := by
 obtain ⟨n, hn⟩ : ∃ n, Y.length = n := ⟨_, rfl⟩
 obtain ⟨oy, cy, rfl⟩ := hy.form
 rw [hn] at hy hl ⊢
 have HY := Lib.hid hy
 have HN := Lib.hid hn
 have hmk := makeZ n n (Nat.le_refl _) (by omega)
 have R0 : Hid (Rw (w.alloc (.cells (rowZ (List.replicate n 0)) 3)) w.heap.size 3 ((List.replicate n (0 : Int)).map (Value.int .i64))) := Lib.hid (heap_alloc_new _ _)
 have HG0 : Hid (Gr w (w.alloc (.cells (rowZ (List.replicate n 0)) 3))) := Lib.hid (Gr.alloc (Gr.refl _) _ _)
 have L0 : Hid (((List.replicate n (0 : Int)).map (Value.int .i64)).length = n) := Lib.hid (by simp)
 clear hy hn
 go_enter Tryz.func36, Tryz.ntmps36
 go_wp2_with fail
 clear hmk
 generalize w.alloc (.cells (rowZ (List.replicate n 0)) 3) = W0 at *
 generalize hgp : w.heap.size = gp at *
 have HGP := Lib.hid hgp
 generalize (List.replicate n (0 : Int)).map (Value.int .i64) = us0 at *
 go_loopw [11] (fun iv W => ∃ (i : Nat) (us : List Value), i ≤ n ∧ iv = .int .i64 i ∧ Rw W gp 3 us ∧ us.length = n ∧ Gr w W ∧ ∀ j, j < i → us.getD j undef = .int .i64 (Y.getD j noY).i) (fun iv _ => n - (intOf iv).toNat)
 case atStart => exact ⟨0, us0, by omega, rfl, R0.out, L0.out, HG0.out, fun j hj => by omega⟩
 case round =>
  clear R0 HG0 L0 hgp
  obtain ⟨wo, hwo⟩ : ∃ x, x = wr := ⟨_, rfl⟩
  subst hwo
  obtain ⟨i, us, hi, rfl, hr, hul, hg, hs⟩ := hrel
  have HS := Lib.hid hs
  have HU := Lib.hid hul
  clear hs hul
  by_cases hlt : i < n
  ·obtain ⟨b0, q0, rfl, _⟩ := HY.out.lay (by omega)
   have hat := HY.out.at hlt
   obtain ⟨q, hq⟩ : ∃ q, Y.getD i noY = q := ⟨_, rfl⟩
   rw [hq] at hat
   have HQ := Lib.hid hq
   obtain ⟨oz, nz, cz, q1, q2, hi64, hbz⟩ := hat
   have q1 := cell_grown hg q1
   have q2 := cell_grown hg q2
   have gA : Gr wo (wo.alloc (.cells #[.int .i64 q.i, .slice oz nz cz] 30)) := Gr.alloc (Gr.refl _) _ _
   have k0 : (wo.alloc (.cells #[.int .i64 q.i, .slice oz nz cz] 30)).cell? ⟨wo.heap.size, 0, none⟩ = some (.int .i64 q.i) := by rw [cell_of_row _ _ 0 _ _ _ (heap_alloc_new _ _)]; rfl
   have RA := Lib.hid (hr.grown gA)
   have GA := Lib.hid (Gr.trans hg gA)
   clear hq hbz hr hg gA
   go_upto_region 5 with fail
   generalize wo.alloc (.cells #[.int .i64 q.i, .slice oz nz cz] 30) = wA at *
   generalize wo.heap.size = gz at *
   have e1 := RA.out.cell i (by rw [HU.out]; exact hlt)
   have e2 := RA.out.frz i
   go_wp2_with fail
   refine ⟨⟨i + 1, us.set i (.int .i64 q.i), by omega, by go_num, RA.out.set i _, by rw [List.length_set]; exact HU.out, Gr.setCell GA.out (by rw [← HGP.out]; exact Nat.le_refl _) _, fun j hj => ?_⟩, by simp [intOf]; omega⟩
   by_cases e : j = i
   ·subst e
    rw [getD_selfV (by rw [HU.out]; exact hlt), HQ.out]
   ·rw [getD_neV (fun c => e c.symm)]
    exact HS.out j (by omega)
  ·obtain rfl : i = n := by omega
   have R := Lib.hid hr
   have G := Lib.hid hg
   clear hr hg
   go_wp2_with fail
   go_ret
   have hlen : (idsY Y).length = i := by unfold idsY; rw [List.length_map, HN.out]
   have hgd : ∀ j, j < i → (idsY Y).getD j 0 = (Y.getD j noY).i := fun j hj => by
    unfold idsY
    rw [List.getD_eq_getElem?_getD, List.getElem?_map, List.getD_eq_getElem?_getD, List.getElem?_eq_getElem (by rw [HN.out]; exact hj)]
    rfl
   refine ⟨.slice (some ⟨gp, 0, none⟩) i i, rfl, ⟨fun x hx => ?_, some ⟨gp, 0, none⟩, i, by rw [hlen], by omega, by omega, (fun h => by cases h), fun a ha j hj => ?_⟩, G.out⟩
   ·obtain ⟨q, hq, rfl⟩ := List.mem_map.1 hx
    obtain ⟨j, hj, rfl⟩ := List.getElem_of_mem hq
    obtain ⟨b0, q0, rfl, _⟩ := HY.out.lay (by rw [← HN.out]; omega)
    obtain ⟨_, _, _, _, _, h64, _⟩ := HY.out.at (i := j) (by rw [← HN.out]; exact hj)
    rw [List.getD_eq_getElem?_getD, List.getElem?_eq_getElem hj] at h64
    exact h64
   ·cases ha
    rw [hlen] at hj
    rw [Addr.add_mid, Nat.zero_add, R.out.cell j (by rw [HU.out]; exact hj), HS.out j hj, hgd j hj]
set_option maxRecDepth 100000 in
set_option maxHeartbeats 1600000 in
theorem dcolumns_any (v : Value) (L : List Eqn) (w : World) (hy : Eqs w v L) (hl : L.length ≤ 1000) :
  Calls Tryz.prog 102 #[v] w fun e w' => ∃ u, e = .returned u ∧ Zss w' u (L.map (·.c)) ∧ Gr w w' := by
 obtain ⟨n, hn⟩ : ∃ n, L.length = n := ⟨_, rfl⟩
 obtain ⟨oy, cy, rfl⟩ := hy.form
 rw [hn] at hy hl ⊢
 have HY := Lib.hid hy
 have HN := Lib.hid hn
 have hmk := make26 n n (Nat.le_refl _) (by omega)
 have R0 : Hid (Rw (w.alloc (.cells (nilsZ n) 26)) w.heap.size 26 (List.replicate n (.slice none 0 0))) := Lib.hid (heap_alloc_new _ _)
 have HG0 : Hid (Gr w (w.alloc (.cells (nilsZ n) 26))) := Lib.hid (Gr.alloc (Gr.refl _) _ _)
 have L0 : Hid ((List.replicate n (Value.slice none 0 0)).length = n) := Lib.hid (by simp)
 clear hy hn
 go_enter Tryz.func102, Tryz.ntmps102
 go_wp2_with fail
 clear hmk
 generalize w.alloc (.cells (nilsZ n) 26) = W0 at *
 generalize hgp : w.heap.size = gp at *
 have HGP := Lib.hid hgp
 generalize List.replicate n (Value.slice none 0 0) = us0 at *
 go_loopw [11] (fun iv W => ∃ (i : Nat) (us : List Value), i ≤ n ∧ iv = .int .i64 i ∧ Rw W gp 26 us ∧ us.length = n ∧ Gr w W ∧ ∀ j, j < i → Zs w (us.getD j undef) (L.getD j noE).c) (fun iv _ => n - (intOf iv).toNat)
 case atStart => exact ⟨0, us0, by omega, rfl, R0.out, L0.out, HG0.out, fun j hj => by omega⟩
 case round =>
  clear R0 HG0 L0 hgp
  obtain ⟨wo, hwo⟩ : ∃ x, x = wr := ⟨_, rfl⟩
  subst hwo
  obtain ⟨i, us, hi, rfl, hr, hul, hg, hs⟩ := hrel
  have HS := Lib.hid hs
  have HU := Lib.hid hul
  clear hs hul
  by_cases hlt : i < n
  ·obtain ⟨b0, q0, rfl, _⟩ := HY.out.lay (by omega)
   have hat := HY.out.at hlt
   obtain ⟨oc, nc, cc, oz, nz, cz, q1, q2, hzc, hbz⟩ := hat
   have q1 := cell_grown hg q1
   have q2 := cell_grown hg q2
   have gA : Gr wo (wo.alloc (.cells #[.slice oc nc cc, .slice oz nz cz] 160)) := Gr.alloc (Gr.refl _) _ _
   have k0 : (wo.alloc (.cells #[.slice oc nc cc, .slice oz nz cz] 160)).cell? ⟨wo.heap.size, 0, none⟩ = some (.slice oc nc cc) := by rw [cell_of_row _ _ 0 _ _ _ (heap_alloc_new _ _)]; rfl
   have RA := Lib.hid (hr.grown gA)
   have GA := Lib.hid (Gr.trans hg gA)
   have HZC := Lib.hid hzc
   clear hbz hr hg gA hzc
   go_upto_region 5 with fail
   generalize wo.alloc (.cells #[.slice oc nc cc, .slice oz nz cz] 160) = wA at *
   generalize wo.heap.size = gz at *
   have e1 := RA.out.cell i (by rw [HU.out]; exact hlt)
   have e2 := RA.out.frz i
   go_wp2_with fail
   refine ⟨⟨i + 1, us.set i (.slice oc nc cc), by omega, by go_num, RA.out.set i _, by rw [List.length_set]; exact HU.out, Gr.setCell GA.out (by rw [← HGP.out]; exact Nat.le_refl _) _, fun j hj => ?_⟩, by simp [intOf]; omega⟩
   by_cases e : j = i
   ·subst e
    rw [getD_selfV (by rw [HU.out]; exact hlt)]
    exact HZC.out
   ·rw [getD_neV (fun c => e c.symm)]
    exact HS.out j (by omega)
  ·obtain rfl : i = n := by omega
   have R := Lib.hid hr
   have G := Lib.hid hg
   clear hr hg
   go_wp2_with fail
   go_ret
   have hlen : (L.map (·.c)).length = i := by rw [List.length_map, HN.out]
   have hgd : ∀ j, j < i → (L.map (·.c)).getD j [] = (L.getD j noE).c := fun j hj => by
    rw [List.getD_eq_getElem?_getD, List.getElem?_map, List.getD_eq_getElem?_getD, List.getElem?_eq_getElem (by rw [HN.out]; exact hj)]
    rfl
   refine ⟨.slice (some ⟨gp, 0, none⟩) i i, rfl, ⟨some ⟨gp, 0, none⟩, i, by rw [hlen], by omega, by omega, (fun h => by cases h), fun a ha j hj => ?_⟩, G.out⟩
   cases ha
   rw [hlen] at hj
   refine ⟨us.getD j undef, by rw [Addr.add_mid, Nat.zero_add, R.out.cell j (by rw [HU.out]; exact hj)], ?_⟩
   rw [hgd j hj]
   exact (HS.out j hj).grown G.out
end Go.Proofs.YtbbglejdfbkjlaaGreat
namespace Go.Proofs.YtbbglejdfbkjlaaGreat.L
def cutV (k : Nat) (v : V) : V := fun j => if j < k then v j else zero
def shV (k : Nat) (v : V) : V := fun j => v (k + j)
structure Lin (φ : V → V) : Prop where
 zero : φ vzero = vzero
 add : ∀ x y, φ (vadd x y) = vadd (φ x) (φ y)
 smul : ∀ c x, φ (L.smul c x) = L.smul c (φ x)
theorem cutV_lin (k : Nat) : Lin (cutV k) := by
 refine ⟨funext fun j => ?_, fun x y => funext fun j => ?_, fun c x => funext fun j => ?_⟩
 ·unfold cutV
  split <;> rfl
 ·show (if j < k then add (x j) (y j) else zero) = add (if j < k then x j else zero) (if j < k then y j else zero)
  split
  ·rfl
  ·rw [add_zero]
 ·show (if j < k then mul c (x j) else zero) = mul c (if j < k then x j else zero)
  split
  ·rfl
  ·rw [mul_zero]
theorem Sp.lin {φ : V → V} (h : Lin φ) {A : List V} {v : V} (hv : Sp A v) : Sp (A.map φ) (φ v) := by
 induction hv with
 | zero => rw [h.zero]; exact Sp.zero
 | step c x v hx _ ih =>
  rw [h.add, h.smul]
  exact Sp.step c _ _ (List.mem_map.2 ⟨x, hx, rfl⟩) ih
theorem Same.lin {φ : V → V} (h : Lin φ) {A B : List V} (hs : Same A B) : Same (A.map φ) (B.map φ) := by
 refine Same.of (fun x hx => ?_) fun x hx => ?_
 ·obtain ⟨a, ha, rfl⟩ := List.mem_map.1 hx
  exact Sp.lin h ((hs a).1 (Sp.mem ha))
 ·obtain ⟨a, ha, rfl⟩ := List.mem_map.1 hx
  exact Sp.lin h ((hs a).2 (Sp.mem ha))
theorem rowAt_map {φ : V → V} (h : Lin φ) (A : List V) (i : Nat) : rowAt (A.map φ) i = φ (rowAt A i) := by
 unfold rowAt
 rw [List.getElem?_map]
 cases A[i]? with
 | none => exact h.zero.symm
 | some x => rfl
theorem cutV_lt {k j : Nat} (v : V) (h : j < k) : cutV k v j = v j := if_pos h
theorem Ech.cut {A X : List V} {ps : List Nat} {k : Nat} (h : Ech A X ps k) : Ech (A.map (cutV k)) (X.map (cutV k)) ps k := by
 have hl := cutV_lin k
 refine ⟨h.same.lin hl, h.psort, h.plt, fun t p hp => ?_, fun t p hp j hj => ?_, fun t p hp s hs => ?_, fun s hs j hj => ?_, by rw [List.length_map]; exact h.le⟩
 ·rw [rowAt_map hl, cutV_lt _ (h.plt p (List.mem_of_getElem? hp))]
  exact h.lead t p hp
 ·have := h.plt p (List.mem_of_getElem? hp)
  rw [rowAt_map hl, cutV_lt _ (by omega)]
  exact h.ahead t p hp j hj
 ·rw [rowAt_map hl, cutV_lt _ (h.plt p (List.mem_of_getElem? hp))]
  exact h.apart t p hp s hs
 ·rw [rowAt_map hl, cutV_lt _ hj]
  exact h.rest s hs j hj
theorem cutV_supp (k : Nat) (v : V) : Supp k (cutV k v) := fun j hj => if_neg (by omega)
theorem Ech.rank {A X : List V} {ps : List Nat} {k : Nat} (h : Ech A X ps k) : rk (A.map (cutV k)) = ps.length := by
 have hd := h.cut.done fun x hx => by
  obtain ⟨a, _, rfl⟩ := List.mem_map.1 hx
  exact cutV_supp k a
 have hle := h.le
 rw [rk_eq hd.1, List.length_zip, List.length_take, List.length_map]
 omega
theorem range_of : ∀ (ps : List Nat) (b : Nat), ps.Pairwise (· < ·) → (∀ p ∈ ps, b ≤ p ∧ p < b + ps.length) → ps = List.range' b ps.length
 | [], _, _, _ => rfl
 | p :: ps, b, hs, hb => by
  obtain ⟨h1, h2⟩ := List.pairwise_cons.1 hs
  have hp := hb p (by simp)
  rw [List.length_cons] at hp
  have hc := places_le (ps.map fun q => (q, vzero)) (p + 1) (b + (ps.length + 1)) (by
    rw [List.pairwise_map]
    exact h2) fun a ha => by
   obtain ⟨q, hq, rfl⟩ := List.mem_map.1 ha
   have e1 := h1 q hq
   have e2 := hb q (by simp [hq])
   rw [List.length_cons] at e2
   exact ⟨e1, e2.2⟩
  rw [List.length_map] at hc
  by_cases h0 : ps.length = 0
  ·have : ps = [] := List.eq_nil_of_length_eq_zero h0
   subst this
   have : p = b := by simp at hp; omega
   subst this
   rfl
  ·have e : p = b := by omega
   subst e
   have ih := range_of ps (p + 1) h2 fun q hq => by
    have e1 := h1 q hq
    have e2 := hb q (by simp [hq])
    rw [List.length_cons] at e2
    omega
   rw [List.length_cons, List.range'_succ, ← ih]
theorem Ech.full {A X : List V} {ps : List Nat} {k : Nat} (h : Ech A X ps k) (hk : ps.length = k) : ps = List.range k := by
 have := range_of ps 0 h.psort fun p hp => ⟨Nat.zero_le _, by have := h.plt p hp; omega⟩
 rw [this, hk, List.range_eq_range']
theorem lc_congr : ∀ (M : List V) (c d : V), (∀ j, j < M.length → c j = d j) → lc c M = lc d M
 | [], _, _, _ => rfl
 | x :: M, c, d, h => by
  show vadd (smul (c 0) x) (lc (fun i => c (i + 1)) M) = vadd (smul (d 0) x) (lc (fun i => d (i + 1)) M)
  rw [h 0 (by simp), lc_congr M _ (fun i => d (i + 1)) fun j hj => h (j + 1) (by simp; omega)]
def Ans (k : Nat) (M : List V) (v : V) : Prop := lc v M = shV k v
theorem Ans.span {k : Nat} {M A : List V} (h : ∀ a ∈ A, Ans k M a) {v : V} (hv : Sp A v) : Ans k M v := by
 induction hv with
 | zero => exact lc_zero M
 | step c x v hx _ ih =>
  unfold Ans at *
  rw [lc_add, lc_smul, h x hx, ih]
  rfl
theorem Ans.same {k : Nat} {M A X : List V} (h : Same A X) : (∀ a ∈ A, Ans k M a) ↔ ∀ x ∈ X, Ans k M x :=
 ⟨fun ha x hx => Ans.span ha ((h x).2 (Sp.mem hx)), fun ha x hx => Ans.span ha ((h x).1 (Sp.mem hx))⟩
theorem mem_iff_rowAt {X : List V} {P : V → Prop} : (∀ x ∈ X, P x) ↔ ∀ i, i < X.length → P (rowAt X i) := by
 refine ⟨fun h i hi => h _ (rowAt_mem hi), fun h x hx => ?_⟩
 obtain ⟨i, hi, rfl⟩ := mem_rowAt hx
 exact h i hi
theorem Ech.answers {A X M : List V} {ps : List Nat} {k : Nat} (h : Ech A X ps k) (hk : ps.length = k) (hM : M.length = k) :
  (∀ a ∈ A, Ans k M a) ↔ (∀ i, i < k → rowAt M i = shV k (rowAt X i)) ∧ ∀ i, k ≤ i → i < X.length → rowAt X i = vzero := by
 have hp := h.full hk
 subst hp
 have hle : k ≤ X.length := by have := h.le; simpa using this
 have get : ∀ t, t < k → (List.range k)[t]? = some t := fun t ht => List.getElem?_range ht
 have hu : ∀ i, i < k → lc (rowAt X i) M = rowAt M i := fun i hi => by
  rw [← lc_unit M i]
  refine lc_congr M _ _ fun j hj => ?_
  unfold unit
  rw [hM] at hj
  by_cases e : j = i
  ·subst e
   rw [if_pos rfl, h.lead j j (get j hj)]
  ·rw [if_neg e]
   exact h.apart j j (get j hj) i fun c => e c.symm
 have hz : ∀ i, k ≤ i → lc (rowAt X i) M = vzero := fun i hi => by
  rw [← lc_zero M]
  refine lc_congr M _ _ fun j hj => ?_
  rw [hM] at hj
  exact h.rest i (by simpa using hi) j hj
 rw [Ans.same h.same.symm, mem_iff_rowAt]
 constructor
 ·intro ha
  refine ⟨fun i hi => ?_, fun i h1 h2 => ?_⟩
  ·rw [← hu i hi]
   exact ha i (by omega)
  ·have e : shV k (rowAt X i) = vzero := by rw [← hz i h1]; exact (ha i h2).symm
   funext j
   by_cases hj : j < k
   ·exact h.rest i (by simpa using h1) j hj
   ·have := congrFun e (j - k)
    unfold shV at this
    rwa [show k + (j - k) = j by omega] at this
 ·rintro ⟨h1, h2⟩ i hi
  unfold Ans
  by_cases e : i < k
  ·rw [hu i e, h1 i e]
  ·rw [hz i (by omega), h2 i (by omega) hi]
   rfl
end Go.Proofs.YtbbglejdfbkjlaaGreat.L
namespace Go.Proofs.YtbbglejdfbkjlaaGreat
open Go.RowKit
namespace DC
open L
theorem tot_cons (v : Nat → V) (c : Nat) (l : List Nat) : PL.tot VT v (c :: l) = vadd (v c) (PL.tot VT v l) := rfl
theorem lin_tot {φ : V → V} (h : Lin φ) (f : Nat → V) : ∀ l : List Nat, φ (PL.tot VT f l) = PL.tot VT (fun c => φ (f c)) l
 | [] => h.zero
 | c :: l => by rw [tot_cons, tot_cons, h.add, lin_tot h f l]
theorem lin_lc {φ : V → V} (h : Lin φ) : ∀ (X : List V) (a : V), φ (lc a X) = lc a (X.map φ)
 | [], _ => h.zero
 | x :: X, a => by
  show φ (vadd (L.smul (a 0) x) (lc (fun i => a (i + 1)) X)) = vadd (L.smul (a 0) (φ x)) (lc (fun i => a (i + 1)) (X.map φ))
  rw [h.add, h.smul, lin_lc h X]
theorem lc_tot (f : Nat → V) (X : List V) : ∀ l : List Nat, lc (PL.tot VT f l) X = PL.tot VT (fun c => lc (f c) X) l
 | [] => lc_zero X
 | c :: l => by rw [tot_cons, tot_cons, lc_add, lc_tot f X l]
theorem tot_units (X : List V) (l : List Nat) : lc (PL.tot VT L.unit l) X = PL.tot VT (L.rowAt X) l := by
 rw [lc_tot]
 exact PL.tot_congr VT fun c _ => lc_unit X c
def pad (d : Nat) (v : V) : V := fun j => if j < d then zero else v (j - d)
def ev (d : Nat) (x : List V) (v : V) : V := vadd (lc v x) (shV d v)
theorem shV_lin (d : Nat) : Lin (shV d) := ⟨rfl, fun _ _ => rfl, fun _ _ => rfl⟩
theorem ev_lin (d : Nat) (x : List V) : Lin (ev d x) := by
 refine ⟨?_, fun a b => ?_, fun c a => ?_⟩
 ·unfold ev
  rw [lc_zero, (shV_lin d).zero, vzero_add]
 ·unfold ev
  rw [lc_add, (shV_lin d).add, vadd_assoc, vadd_assoc, vadd_left_comm (lc b x)]
 ·unfold ev
  rw [lc_smul, (shV_lin d).smul, smul_add]
theorem ev_pad {d : Nat} {x : List V} (hx : x.length = d) (v : V) : ev d x (pad d v) = v := by
 unfold ev
 have h1 : lc (pad d v) x = vzero := by
  rw [← lc_zero x]
  exact lc_congr x _ _ fun j hj => if_pos (by omega)
 rw [h1, vzero_add]
 funext j
 show (if d + j < d then zero else v (d + j - d)) = v j
 rw [if_neg (by omega), Nat.add_sub_cancel_left]
theorem ev_unit {d i : Nat} {x : List V} (hi : i < d) : ev d x (L.unit i) = L.rowAt x i := by
 unfold ev
 have h1 : shV d (L.unit i) = vzero := funext fun j => if_neg (by omega)
 rw [h1, vadd_zero, lc_unit]
theorem ev_zero_iff {d : Nat} {x : List V} {v : V} : ev d x v = vzero ↔ Ans d x v := by
 unfold ev Ans
 constructor
 ·intro h
  have := congrArg (fun z => vadd z (shV d v)) h
  simp only [vadd_assoc, vadd_self, vadd_zero, vzero_add] at this
  exact this
 ·intro h
  rw [h, vadd_self]
theorem cut_pad (d : Nat) (v : V) : cutV d (pad d v) = vzero := funext fun j => by
 show (if j < d then (if j < d then zero else v (j - d)) else zero) = zero
 split <;> rfl
theorem cut_unit {d i : Nat} (hi : i < d) : cutV d (L.unit i) = L.unit i := funext fun j => by
 show (if j < d then L.unit i j else zero) = L.unit i j
 split
 ·rfl
 ·exact (if_neg (by omega)).symm
structure Formed (n d : Nat) (kn : Nat → Bool) (vs : Nat → V) (rs : List (PL.E V)) (late : List Nat) (F : Nat → V) (Z : List V) : Prop where
 len : late.length = d
 lt : ∀ i, i < d → late.getD i 0 < n
 known : ∀ c, c < n → kn c = true → F c = pad d (vs c)
 unit : ∀ i, i < d → F (late.getD i 0) = L.unit i
 row : ∀ q ∈ rs, PL.tot VT F q.cols = pad d q.data ∨ vadd (PL.tot VT F q.cols) (pad d q.data) ∈ Z
 zero : ∀ z ∈ Z, ∃ q ∈ rs, z = vadd (PL.tot VT F q.cols) (pad d q.data)
 all : ∀ v : Nat → V, (∀ c, c < n → kn c = true → v c = vs c) → (∀ q ∈ rs, PL.tot VT v q.cols = q.data) → ∀ c, c < n → v c = ev d (late.map v) (F c)
section
variable {n d : Nat} {kn : Nat → Bool} {vs : Nat → V} {E : List (PL.E V)} {late : List Nat} {F : Nat → V} {Z : List V}
theorem sat_of_left {v : Nat → V} (hk : ∀ c, kn c = true ↔ PL.Der E c) (hh : PL.Holds VT E vs) (hb : ∀ q ∈ E, ∀ c ∈ q.cols, c < n) (h1 : ∀ c, c < n → kn c = true → v c = vs c) (h2 : ∀ q ∈ PL.left VT kn vs E, PL.tot VT v q.cols = q.data) : ∀ q ∈ E, PL.tot VT v q.cols = q.data := by
 intro q hq
 by_cases ha : ∀ c ∈ q.cols, kn c = true
 ·rw [← hh q hq fun c hc => (hk c).1 (ha c hc)]
  exact PL.tot_congr VT fun c hc => h1 c (hb q hq c hc) (ha c hc)
 ·have hm : PL.rest VT kn vs q ∈ PL.left VT kn vs E := List.mem_map.2 ⟨q, List.mem_filter.2 ⟨hq, by
    rw [List.any_eq_true]
    apply Classical.byContradiction
    intro hn
    refine ha fun c hc => ?_
    cases hkc : kn c with
    | true => rfl
    | false => exact absurd ⟨c, hc, by rw [hkc]; rfl⟩ hn⟩, rfl⟩
  have h3 := h2 _ hm
  show PL.tot VT v q.cols = q.data
  rw [PL.tot_split VT v kn q.cols]
  have e1 : PL.tot VT v (q.cols.filter fun c => !kn c) = VT.add q.data (PL.tot VT vs (q.cols.filter kn)) := h3
  rw [e1, PL.tot_congr VT (v := v) (v' := vs) (l := q.cols.filter kn) fun c hc => h1 c (hb q hq c (List.mem_filter.1 hc).1) (List.mem_filter.1 hc).2, VT.assoc, VT.self, VT.nil']
theorem left_of_sat {v : Nat → V} (hk : ∀ c, kn c = true ↔ PL.Der E c) (hh : PL.Holds VT E vs) (hn : ∀ q ∈ E, q.cols.Nodup) (h : ∀ q ∈ E, PL.tot VT v q.cols = q.data) : (∀ c, c < n → kn c = true → v c = vs c) ∧ ∀ q ∈ PL.left VT kn vs E, PL.tot VT v q.cols = q.data := by
 have hv : ∀ c, kn c = true → v c = vs c := fun c hc => PL.Holds.unique VT hn (PL.Holds.of_all VT h) hh ((hk c).1 hc)
 refine ⟨fun c _ hc => hv c hc, fun q hq => ?_⟩
 obtain ⟨q0, hq0, rfl⟩ := List.mem_map.1 hq
 exact PL.rest_holds VT (h q0 (List.mem_filter.1 hq0).1) fun c _ hc => (hv c hc).symm
theorem Formed.sat (h : Formed n d kn vs (PL.left VT kn vs E) late F Z) (hk : ∀ c, kn c = true ↔ PL.Der E c) (hh : PL.Holds VT E vs) (hb : ∀ q ∈ E, ∀ c ∈ q.cols, c < n) {x : List V} (hx : x.length = d) (hz : ∀ z ∈ Z, ev d x z = vzero) : ∀ q ∈ E, PL.tot VT (fun c => ev d x (F c)) q.cols = q.data := by
 refine sat_of_left hk hh hb (fun c hc hkc => ?_) fun q hq => ?_
 ·show ev d x (F c) = vs c
  rw [h.known c hc hkc, ev_pad hx]
 ·rw [← lin_tot (ev_lin d x)]
  rcases h.row q hq with h1 | h1
  ·rw [h1, ev_pad hx]
  ·have h2 := hz _ h1
   rw [(ev_lin d x).add, ev_pad hx] at h2
   have := congrArg (fun z => vadd z q.data) h2
   simp only [vadd_assoc, vadd_self, vadd_zero, vzero_add] at this
   exact this
theorem Formed.of (h : Formed n d kn vs (PL.left VT kn vs E) late F Z) (hk : ∀ c, kn c = true ↔ PL.Der E c) (hh : PL.Holds VT E vs) (hn : ∀ q ∈ E, q.cols.Nodup) (hb : ∀ q ∈ E, ∀ c ∈ q.cols, c < n) {v : Nat → V} (hv : ∀ q ∈ E, PL.tot VT v q.cols = q.data) :
  (∀ c, c < n → v c = ev d (late.map v) (F c)) ∧ ∀ z ∈ Z, ev d (late.map v) z = vzero := by
 obtain ⟨h1, h2⟩ := left_of_sat (n := n) hk hh hn hv
 have h3 := h.all v h1 h2
 refine ⟨h3, fun z hz => ?_⟩
 obtain ⟨q, hq, rfl⟩ := h.zero z hz
 have hlt : ∀ c ∈ q.cols, c < n := fun c hc => by
  obtain ⟨q0, hq0, rfl⟩ := List.mem_map.1 hq
  exact hb q0 (List.mem_filter.1 hq0).1 c (List.mem_filter.1 hc).1
 have h4 := h2 q hq
 rw [(ev_lin d _).add, lin_tot (ev_lin d _), ev_pad (by rw [List.length_map, h.len])]
 rw [PL.tot_congr VT (v := fun c => ev d (late.map v) (F c)) (v' := v) fun c hc => (h3 c (hlt c hc)).symm]
 show vadd (PL.tot VT v q.cols) q.data = vzero
 rw [h4, vadd_self]
theorem Formed.rank (h : Formed n d kn vs (PL.left VT kn vs E) late F Z) (hb : ∀ q ∈ E, ∀ c ∈ q.cols, c < n) {A : List V} (hA : ∀ a ∈ A, Supp n a) {W : List V} (hW : ∀ a ∈ W, Supp d a)
  (hf : rk (A ++ E.map fun q => PL.tot VT L.unit q.cols) = n) {X : List V} (hXF : ∀ c, c < n → L.rowAt X c = F c) (hd : ∀ a ∈ A, cutV d (lc a X) ∈ W) (hz : ∀ z ∈ Z, cutV d z ∈ W) : rk W = d := by
 have hu : ∀ q ∈ E, Supp n (PL.tot VT L.unit q.cols) := fun q hq => by
  have : ∀ l : List Nat, (∀ c ∈ l, c < n) → Supp n (PL.tot VT L.unit l) := by
   intro l
   induction l with
   | nil => intro _; exact Supp.zero n
   | cons c l ih => intro hl; rw [tot_cons]; exact Supp.add (unit_supp (hl c (by simp))) (ih fun e he => hl e (by simp [he]))
  exact this _ (hb q hq)
 have hS : ∀ a ∈ A ++ E.map fun q => PL.tot VT L.unit q.cols, Supp n a := fun a ha => by
  rcases List.mem_append.1 ha with ha | ha
  ·exact hA a ha
  ·obtain ⟨q, hq, rfl⟩ := List.mem_map.1 ha
   exact hu q hq
 have hG : ∀ c, c < n → L.rowAt (X.map (cutV d)) c = cutV d (F c) := fun c hc => by rw [rowAt_map (cutV_lin d), hXF c hc]
 have hknz : ∀ c, c < n → kn c = true → cutV d (F c) = vzero := fun c hc hkc => by rw [h.known c hc hkc, cut_pad]
 have hrow : ∀ a ∈ A ++ E.map fun q => PL.tot VT L.unit q.cols, Sp W (lc a (X.map (cutV d))) := fun a ha => by
  rcases List.mem_append.1 ha with ha | ha
  ·rw [← lin_lc (cutV_lin d)]
   exact Sp.mem (hd a ha)
  ·obtain ⟨q, hq, rfl⟩ := List.mem_map.1 ha
   rw [tot_units]
   have e0 : PL.tot VT (L.rowAt (X.map (cutV d))) q.cols = PL.tot VT (fun c => cutV d (F c)) q.cols := PL.tot_congr VT fun c hc => hG c (hb q hq c hc)
   rw [e0]
   show Sp W (PL.tot VT _ q.cols)
   rw [PL.tot_split VT _ kn q.cols]
   have e1 : PL.tot VT (fun c => cutV d (F c)) (q.cols.filter kn) = vzero := by
    have : ∀ l : List Nat, (∀ c ∈ l, c < n ∧ kn c = true) → PL.tot VT (fun c => cutV d (F c)) l = vzero := by
     intro l
     induction l with
     | nil => intro _; rfl
     | cons c l ih =>
      intro hl
      show vadd (cutV d (F c)) (PL.tot VT _ l) = vzero
      rw [ih fun e he => hl e (by simp [he]), hknz c (hl c (by simp)).1 (hl c (by simp)).2, vadd_zero]
    exact this _ fun c hc => ⟨hb q hq c (List.mem_filter.1 hc).1, (List.mem_filter.1 hc).2⟩
   rw [e1]
   show Sp W (vadd _ vzero)
   rw [vadd_zero]
   by_cases ha : q.cols.any (fun c => !kn c) = true
   ·have hm : PL.rest VT kn vs q ∈ PL.left VT kn vs E := List.mem_map.2 ⟨q, List.mem_filter.2 ⟨hq, ha⟩, rfl⟩
    have e2 : PL.tot VT (fun c => cutV d (F c)) (q.cols.filter fun c => !kn c) = cutV d (PL.tot VT F (q.cols.filter fun c => !kn c)) := (lin_tot (cutV_lin d) F _).symm
    rw [e2]
    rcases h.row _ hm with h1 | h1
    ·have h1' : PL.tot VT F (q.cols.filter fun c => !kn c) = _ := h1
     rw [h1', cut_pad]
     exact Sp.zero
    ·have h2 := hz _ h1
     rw [(cutV_lin d).add, cut_pad, vadd_zero] at h2
     exact Sp.mem h2
   ·have : (q.cols.filter fun c => !kn c) = [] := by
     rw [List.filter_eq_nil_iff]
     intro c hc hkc
     exact ha (List.any_eq_true.2 ⟨c, hc, hkc⟩)
    rw [this]
    exact Sp.zero
 have hunit : ∀ x ∈ idM d, Sp W x := fun x hx => by
  obtain ⟨i, hi, rfl⟩ := List.mem_map.1 hx
  have hi := List.mem_range.1 hi
  have h1 := Sp.lc (X.map (cutV d)) (full_span hS hf (unit_supp (h.lt i hi)))
  rw [lc_unit, hG _ (h.lt i hi), h.unit i hi, cut_unit hi] at h1
  refine Sp.trans (fun y hy => ?_) h1
  obtain ⟨a, ha, rfl⟩ := List.mem_map.1 hy
  exact hrow a ha
 have h2 := rk_mono (idM_supp d) hW hunit
 rw [rk_id] at h2
 have h3 := rk_le_cols hW
 omega
end
end DC
end Go.Proofs.YtbbglejdfbkjlaaGreat
