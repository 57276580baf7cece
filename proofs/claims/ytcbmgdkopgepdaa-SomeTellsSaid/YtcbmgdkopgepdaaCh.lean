/-
  Which are chosen, plain: exchanges in a list of numbers, and the first of them in their order. No condition.
-/
import Derived.Test.YtcbmgdkopgepdaaDr
import Derived.Test.YtcbmgdkopgepdaaZp
namespace Go.Proofs.Ytcbmgdkopgepdaa
open Go.RowKit

namespace C
/-- The state behind i draws. -/
def st (s : Nat) : Nat → Nat
  | 0 => s
  | i + 1 => nextS (st s i)
theorem st_lt {s : Nat} (h : s < 18446744073709551616) : ∀ i, st s i < 18446744073709551616
  | 0 => h
  | _ + 1 => nextS_lt _
def swap (l : List Int) (i j : Nat) : List Int := (l.set i (l.getD j 0)).set j (l.getD i 0)
/-- With what the element at index i is exchanged. -/
def pick (s n i : Nat) : Nat := i + topS (nextS (st s i)) % (n - i)
def shuf (s n : Nat) : Nat → List Int
  | 0 => (List.range n).map fun i : Nat => (i : Int)
  | i + 1 => swap (shuf s n i) i (pick s n i)
theorem pick_lt {s n i : Nat} (h : i < n) : i ≤ pick s n i ∧ pick s n i < n := by
  unfold pick
  have := Nat.mod_lt (topS (nextS (st s i))) (by omega : 0 < n - i)
  omega
theorem swap_length (l : List Int) (i j : Nat) : (swap l i j).length = l.length := by simp [swap]
theorem swap_getD (l : List Int) (i j : Nat) (hi : i < l.length) (hj : j < l.length) (k : Nat) : (swap l i j).getD k 0 = if k = j then l.getD i 0 else if k = i then l.getD j 0 else l.getD k 0 := by
  unfold swap
  by_cases e : k = j
  · subst e
    rw [if_pos rfl, List.getD_eq_getElem?_getD, List.getElem?_set_self (by simp; exact hj)]
    rfl
  · rw [if_neg e, List.getD_eq_getElem?_getD, List.getElem?_set_ne (fun c => e c.symm)]
    by_cases e2 : k = i
    · subst e2
      rw [if_pos rfl, List.getElem?_set_self hi]
      rfl
    · rw [if_neg e2, List.getElem?_set_ne (fun c => e2 c.symm), List.getD_eq_getElem?_getD]
theorem shuf_length (s n : Nat) : ∀ i, (shuf s n i).length = n
  | 0 => by simp [shuf]
  | i + 1 => by
    show (swap _ _ _).length = n
    rw [swap_length, shuf_length s n i]
/-- Each place holds another number below n. -/
structure Inj (n : Nat) (l : List Int) : Prop where
  len : l.length = n
  rng : ∀ i, i < n → 0 ≤ l.getD i 0 ∧ l.getD i 0 < n
  inj : ∀ i j, i < n → j < n → l.getD i 0 = l.getD j 0 → i = j
theorem Inj.swap {n : Nat} {l : List Int} (h : Inj n l) {i j : Nat} (hi : i < n) (hj : j < n) : Inj n (C.swap l i j) := by
  have hl := h.len
  have hg := swap_getD l i j (by omega) (by omega)
  refine ⟨by rw [swap_length, hl], fun k hk => ?_, fun k m hk hm e => ?_⟩
  · rw [hg k]
    split
    · exact h.rng i hi
    · split
      · exact h.rng j hj
      · exact h.rng k hk
  · rw [hg k, hg m] at e
    split at e <;> rename_i e1
    · split at e <;> rename_i e2
      · omega
      · split at e <;> rename_i e3
        · have := h.inj i j hi hj e; omega
        · have := h.inj i m hi hm e; omega
    · split at e <;> rename_i e4
      · split at e <;> rename_i e2
        · have := h.inj j i hj hi e; omega
        · split at e <;> rename_i e3
          · omega
          · have := h.inj j m hj hm e; omega
      · split at e <;> rename_i e2
        · have := h.inj k i hk hi e; omega
        · split at e <;> rename_i e3
          · have := h.inj k j hk hj e; omega
          · exact h.inj k m hk hm e
theorem range_getD {n i : Nat} (h : i < n) : ((List.range n).map fun i : Nat => (i : Int)).getD i 0 = i := by
  rw [List.getD_eq_getElem?_getD, List.getElem?_map, List.getElem?_range h]
  rfl
theorem shuf_inj (s n : Nat) : ∀ i, i ≤ n → Inj n (shuf s n i)
  | 0, _ => ⟨by simp [shuf], fun i hi => by
      show 0 ≤ ((List.range n).map fun i : Nat => (i : Int)).getD i 0 ∧ _
      rw [range_getD hi]
      exact ⟨by omega, by show ((List.range n).map fun i : Nat => (i : Int)).getD i 0 < _; rw [range_getD hi]; omega⟩, fun i j hi hj e => by
      have e' : ((List.range n).map fun i : Nat => (i : Int)).getD i 0 = ((List.range n).map fun i : Nat => (i : Int)).getD j 0 := e
      rw [range_getD hi, range_getD hj] at e'
      omega⟩
  | i + 1, h => (shuf_inj s n i (by omega)).swap (by omega) (pick_lt (by omega)).2
/-- The first i elements are what they were. -/
theorem shuf_keep {s n i k : Nat} (h : i < n) (hk : k < i) : (shuf s n (i + 1)).getD k 0 = (shuf s n i).getD k 0 := by
  have hp := pick_lt (s := s) h
  show (swap (shuf s n i) i (pick s n i)).getD k 0 = _
  rw [swap_getD _ _ _ (by rw [shuf_length]; omega) (by rw [shuf_length]; omega), if_neg (by omega), if_neg (by omega)]
/-- Put into its place. -/
def ins (x : Int) : List Int → List Int
  | [] => [x]
  | a :: t => if x ≤ a then x :: a :: t else a :: ins x t
def isort : List Int → List Int
  | [] => []
  | a :: t => ins a (isort t)
theorem ins_length (x : Int) : ∀ l, (ins x l).length = l.length + 1
  | [] => rfl
  | a :: t => by
    unfold ins
    split
    · rfl
    · simp [ins_length x t]
theorem isort_length : ∀ l, (isort l).length = l.length
  | [] => rfl
  | a :: t => by
    show (ins a (isort t)).length = _
    rw [ins_length, isort_length t]
    rfl
theorem mem_ins (x y : Int) : ∀ l, y ∈ ins x l ↔ y = x ∨ y ∈ l
  | [] => by simp [ins]
  | a :: t => by
    unfold ins
    split
    · simp
    · rw [List.mem_cons, mem_ins x y t, List.mem_cons]
      constructor
      · rintro (h | h | h)
        · exact .inr (.inl h)
        · exact .inl h
        · exact .inr (.inr h)
      · rintro (h | h | h)
        · exact .inr (.inl h)
        · exact .inl h
        · exact .inr (.inr h)
theorem mem_isort (y : Int) : ∀ l, y ∈ isort l ↔ y ∈ l
  | [] => Iff.rfl
  | a :: t => by
    show y ∈ ins a (isort t) ↔ _
    rw [mem_ins, mem_isort y t, List.mem_cons]
theorem ins_sorted (x : Int) : ∀ l, l.Pairwise (· < ·) → x ∉ l → (ins x l).Pairwise (· < ·)
  | [], _, _ => by simp [ins]
  | a :: t, h, hn => by
    obtain ⟨h1, h2⟩ := List.pairwise_cons.1 h
    have hne : x ≠ a := fun e => hn (by rw [e]; simp)
    unfold ins
    split
    · refine List.pairwise_cons.2 ⟨fun y hy => ?_, h⟩
      rcases List.mem_cons.1 hy with rfl | hy
      · omega
      · have := h1 y hy; omega
    · refine List.pairwise_cons.2 ⟨fun y hy => ?_, ins_sorted x t h2 (fun c => hn (by simp [c]))⟩
      rcases (mem_ins x y t).1 hy with rfl | hy
      · omega
      · exact h1 y hy
theorem isort_sorted : ∀ l : List Int, l.Nodup → (isort l).Pairwise (· < ·)
  | [], _ => List.Pairwise.nil
  | a :: t, h => by
    obtain ⟨h1, h2⟩ := List.nodup_cons.1 h
    exact ins_sorted a _ (isort_sorted t h2) (fun c => h1 ((mem_isort a t).1 c))
/-- There is just one list that rises and has these elements. -/
theorem rise_ext : ∀ (a b : List Int), a.Pairwise (· < ·) → b.Pairwise (· < ·) → (∀ x, x ∈ a ↔ x ∈ b) → a = b
  | [], [], _, _, _ => rfl
  | [], y :: b, _, _, h => by have := (h y).2 (by simp); simp at this
  | x :: a, [], _, _, h => by have := (h x).1 (by simp); simp at this
  | x :: a, y :: b, ha, hb, h => by
    obtain ⟨a1, a2⟩ := List.pairwise_cons.1 ha
    obtain ⟨b1, b2⟩ := List.pairwise_cons.1 hb
    have exy : x = y := by
      have h1 : x ∈ y :: b := (h x).1 (by simp)
      have h2 : y ∈ x :: a := (h y).2 (by simp)
      rcases List.mem_cons.1 h1 with e | h1
      · exact e
      · rcases List.mem_cons.1 h2 with e | h2
        · exact e.symm
        · have := b1 x h1
          have := a1 y h2
          omega
    subst exy
    rw [rise_ext a b a2 b2 fun z => ?_]
    constructor
    · intro hz
      rcases List.mem_cons.1 ((h z).1 (by simp [hz])) with e | hz'
      · have := a1 z hz; omega
      · exact hz'
    · intro hz
      rcases List.mem_cons.1 ((h z).2 (by simp [hz])) with e | hz'
      · have := b1 z hz; omega
      · exact hz'
def some (s n k : Nat) : List Int := isort ((shuf s n k).take k)
theorem Inj.nodup {n : Nat} {l : List Int} (h : Inj n l) : l.Nodup := by
  rw [List.nodup_iff_pairwise_ne, List.pairwise_iff_getElem]
  intro i j hi hj hij e
  have hl := h.len
  have := h.inj i j (by omega) (by omega) (by
    rw [List.getD_eq_getElem?_getD, List.getD_eq_getElem?_getD, List.getElem?_eq_getElem hi, List.getElem?_eq_getElem hj]
    simpa using e)
  omega
theorem some_length {s n k : Nat} (h : k ≤ n) : (some s n k).length = k := by
  unfold some
  rw [isort_length, List.length_take, shuf_length]
  omega
theorem some_sorted {s n k : Nat} (h : k ≤ n) : (some s n k).Pairwise (· < ·) := isort_sorted _ ((shuf_inj s n k h).nodup.sublist (List.take_sublist _ _))
theorem some_mem {s n k : Nat} (h : k ≤ n) (x : Int) : x ∈ some s n k ↔ ∃ i, i < k ∧ (shuf s n k).getD i 0 = x := by
  unfold some
  rw [mem_isort]
  constructor
  · intro hx
    obtain ⟨i, hi, rfl⟩ := List.getElem_of_mem hx
    rw [List.length_take, shuf_length] at hi
    refine ⟨i, by omega, ?_⟩
    rw [List.getElem_take, List.getD_eq_getElem?_getD, List.getElem?_eq_getElem (by rw [shuf_length]; omega)]
    rfl
  · rintro ⟨i, hi, rfl⟩
    rw [List.getD_eq_getElem?_getD, List.getElem?_eq_getElem (by rw [shuf_length]; omega)]
    exact List.mem_of_getElem? (i := i) (by rw [List.getElem?_take_of_lt hi, List.getElem?_eq_getElem (by rw [shuf_length]; omega)]; rfl)
theorem some_rng {s n k : Nat} (h : k ≤ n) {x : Int} (hx : x ∈ some s n k) : 0 ≤ x ∧ x < n := by
  obtain ⟨i, hi, rfl⟩ := (some_mem h x).1 hx
  exact (shuf_inj s n k h).rng i (by omega)
/-- One more has the others, too. -/
theorem some_more {s n k : Nat} (h : k < n) {x : Int} (hx : x ∈ some s n k) : x ∈ some s n (k + 1) := by
  obtain ⟨i, hi, rfl⟩ := (some_mem (by omega) x).1 hx
  exact (some_mem (by omega) _).2 ⟨i, by omega, shuf_keep h hi⟩
/-- What is chosen, of any numbers; the state behind it. -/
def May (n k : Int) : Prop := 0 ≤ n ∧ n ≤ 64 ∧ 0 ≤ k ∧ k ≤ n
instance (n k : Int) : Decidable (May n k) := by unfold May; infer_instance
def someZ (s : Nat) (n k : Int) : List Int := if May n k then some s n.toNat k.toNat else []
def someS (s : Nat) (n k : Int) : Nat := if May n k then st s k.toNat else s
end C
end Go.Proofs.Ytcbmgdkopgepdaa
