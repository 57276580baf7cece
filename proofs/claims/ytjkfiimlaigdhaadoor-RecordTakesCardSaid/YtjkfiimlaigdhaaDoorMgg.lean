/-
  Texts laid behind one another: Td Tl Ch Cw Ci.
-/
import Derived.Test.YtjkfiimlaigdhaaDoorMgf
import Derived.Deep.AppendLies
import Derived.Deep.DeepCutAuto
namespace Go.Proofs.YtjkfiimlaigdhaaDoor
open Go.RowKit

def lastZ' (t : List Int) : Int := t.getD (t.length - 1) 0
def drawV (t : List Int) (s : Nat) : Int := if t = [] then 0 else T.deg t (belowV s (lastZ' t))
def drawS (t : List Int) (s : Nat) : Nat := if t = [] then s else belowS s (lastZ' t)
/-- The first j numbers of the table as values. -/
def tabV (N j : Nat) : List Int := (List.range j).map fun i => ((T.sum N (i + 1) : Nat) : Int)
theorem tabV_succ (N j : Nat) : tabV N (j + 1) = tabV N j ++ [((T.sum N j : Nat) : Int) + (T.weight N (j + 1) : Nat)] := by
  unfold tabV
  rw [List.range_succ, List.map_append]
  rfl
end Go.Proofs.YtjkfiimlaigdhaaDoor
namespace Go.Proofs.YtjkfiimlaigdhaaDoor
open Go.RowKit

theorem tabZ_rng {N : Nat} (h1 : 1 ≤ N) (h2 : N ≤ 64) : ∀ x ∈ T.tabZ N, 0 ≤ x ∧ x < 8388608 := by
  intro x hx
  obtain ⟨i, hi, rfl⟩ := List.mem_map.1 hx
  have := T.sum_le h1 h2 (i := i + 1) (by have := List.mem_range.1 hi; omega)
  omega
/-- The contracts of package soliton, of tables; At: how a Draw lies in memory. -/
structure SolOk (At : World → Value → (Nat → Prop) → Nat → Prop) : Prop where
theorem tableOne : T.tab 1 = [2097152] := by decide +kernel
theorem i64_tab {l : Int} (h : 1 ≤ l ∧ l ≤ 64) : I64 l := by unfold I64; omega
end Go.Proofs.YtjkfiimlaigdhaaDoor
namespace Go.Proofs.YtjkfiimlaigdhaaDoor
open Go.RowKit

namespace C
/-- The state behind i draws. -/
def st (s : Nat) : Nat → Nat
  | 0 => s
  | i + 1 => nextS (st s i)
theorem st_lt {s : Nat} (h : s < 18446744073709551616) : ∀ i, st s i < 18446744073709551616
  | 0 => h
  | _ + 1 => nextS_lt _
def swap (l : List Int) (i j : Nat) : List Int := (l.set i (l.getD j 0)).set j (l.getD i 0)
/-- With what the element at index i is exchanged. -/
def pick (s n i : Nat) : Nat := i + topS (nextS (st s i)) % (n - i)
def shuf (s n : Nat) : Nat → List Int
  | 0 => (List.range n).map fun i : Nat => (i : Int)
  | i + 1 => swap (shuf s n i) i (pick s n i)
theorem pick_lt {s n i : Nat} (h : i < n) : i ≤ pick s n i ∧ pick s n i < n := by
  unfold pick
  have := Nat.mod_lt (topS (nextS (st s i))) (by omega : 0 < n - i)
  omega
theorem swap_length (l : List Int) (i j : Nat) : (swap l i j).length = l.length := by simp [swap]
theorem swap_getD (l : List Int) (i j : Nat) (hi : i < l.length) (hj : j < l.length) (k : Nat) : (swap l i j).getD k 0 = if k = j then l.getD i 0 else if k = i then l.getD j 0 else l.getD k 0 := by
  unfold swap
  by_cases e : k = j
  · subst e
    rw [if_pos rfl, List.getD_eq_getElem?_getD, List.getElem?_set_self (by simp; exact hj)]
    rfl
  · rw [if_neg e, List.getD_eq_getElem?_getD, List.getElem?_set_ne (fun c => e c.symm)]
    by_cases e2 : k = i
    · subst e2
      rw [if_pos rfl, List.getElem?_set_self hi]
      rfl
    · rw [if_neg e2, List.getElem?_set_ne (fun c => e2 c.symm), List.getD_eq_getElem?_getD]
theorem shuf_length (s n : Nat) : ∀ i, (shuf s n i).length = n
  | 0 => by simp [shuf]
  | i + 1 => by
    show (swap _ _ _).length = n
    rw [swap_length, shuf_length s n i]
/-- Each place holds another number below n. -/
structure Inj (n : Nat) (l : List Int) : Prop where
  len : l.length = n
  rng : ∀ i, i < n → 0 ≤ l.getD i 0 ∧ l.getD i 0 < n
  inj : ∀ i j, i < n → j < n → l.getD i 0 = l.getD j 0 → i = j
theorem Inj.swap {n : Nat} {l : List Int} (h : Inj n l) {i j : Nat} (hi : i < n) (hj : j < n) : Inj n (C.swap l i j) := by
  have hl := h.len
  have hg := swap_getD l i j (by omega) (by omega)
  refine ⟨by rw [swap_length, hl], fun k hk => ?_, fun k m hk hm e => ?_⟩
  · rw [hg k]
    split
    · exact h.rng i hi
    · split
      · exact h.rng j hj
      · exact h.rng k hk
  · rw [hg k, hg m] at e
    split at e <;> rename_i e1
    · split at e <;> rename_i e2
      · omega
      · split at e <;> rename_i e3
        · have := h.inj i j hi hj e; omega
        · have := h.inj i m hi hm e; omega
    · split at e <;> rename_i e4
      · split at e <;> rename_i e2
        · have := h.inj j i hj hi e; omega
        · split at e <;> rename_i e3
          · omega
          · have := h.inj j m hj hm e; omega
      · split at e <;> rename_i e2
        · have := h.inj k i hk hi e; omega
        · split at e <;> rename_i e3
          · have := h.inj k j hk hj e; omega
          · exact h.inj k m hk hm e
theorem range_getD {n i : Nat} (h : i < n) : ((List.range n).map fun i : Nat => (i : Int)).getD i 0 = i := by
  rw [List.getD_eq_getElem?_getD, List.getElem?_map, List.getElem?_range h]
  rfl
theorem shuf_inj (s n : Nat) : ∀ i, i ≤ n → Inj n (shuf s n i)
  | 0, _ => ⟨by simp [shuf], fun i hi => by
      show 0 ≤ ((List.range n).map fun i : Nat => (i : Int)).getD i 0 ∧ _
      rw [range_getD hi]
      exact ⟨by omega, by show ((List.range n).map fun i : Nat => (i : Int)).getD i 0 < _; rw [range_getD hi]; omega⟩, fun i j hi hj e => by
      have e' : ((List.range n).map fun i : Nat => (i : Int)).getD i 0 = ((List.range n).map fun i : Nat => (i : Int)).getD j 0 := e
      rw [range_getD hi, range_getD hj] at e'
      omega⟩
  | i + 1, h => (shuf_inj s n i (by omega)).swap (by omega) (pick_lt (by omega)).2
/-- The first i elements are what they were. -/
theorem shuf_keep {s n i k : Nat} (h : i < n) (hk : k < i) : (shuf s n (i + 1)).getD k 0 = (shuf s n i).getD k 0 := by
  have hp := pick_lt (s := s) h
  show (swap (shuf s n i) i (pick s n i)).getD k 0 = _
  rw [swap_getD _ _ _ (by rw [shuf_length]; omega) (by rw [shuf_length]; omega), if_neg (by omega), if_neg (by omega)]
/-- Put into its place. -/
def ins (x : Int) : List Int → List Int
  | [] => [x]
  | a :: t => if x ≤ a then x :: a :: t else a :: ins x t
def isort : List Int → List Int
  | [] => []
  | a :: t => ins a (isort t)
theorem ins_length (x : Int) : ∀ l, (ins x l).length = l.length + 1
  | [] => rfl
  | a :: t => by
    unfold ins
    split
    · rfl
    · simp [ins_length x t]
theorem isort_length : ∀ l, (isort l).length = l.length
  | [] => rfl
  | a :: t => by
    show (ins a (isort t)).length = _
    rw [ins_length, isort_length t]
    rfl
theorem mem_ins (x y : Int) : ∀ l, y ∈ ins x l ↔ y = x ∨ y ∈ l
  | [] => by simp [ins]
  | a :: t => by
    unfold ins
    split
    · simp
    · rw [List.mem_cons, mem_ins x y t, List.mem_cons]
      constructor
      · rintro (h | h | h)
        · exact .inr (.inl h)
        · exact .inl h
        · exact .inr (.inr h)
      · rintro (h | h | h)
        · exact .inr (.inl h)
        · exact .inl h
        · exact .inr (.inr h)
theorem mem_isort (y : Int) : ∀ l, y ∈ isort l ↔ y ∈ l
  | [] => Iff.rfl
  | a :: t => by
    show y ∈ ins a (isort t) ↔ _
    rw [mem_ins, mem_isort y t, List.mem_cons]
theorem ins_sorted (x : Int) : ∀ l, l.Pairwise (· < ·) → x ∉ l → (ins x l).Pairwise (· < ·)
  | [], _, _ => by simp [ins]
  | a :: t, h, hn => by
    obtain ⟨h1, h2⟩ := List.pairwise_cons.1 h
    have hne : x ≠ a := fun e => hn (by rw [e]; simp)
    unfold ins
    split
    · refine List.pairwise_cons.2 ⟨fun y hy => ?_, h⟩
      rcases List.mem_cons.1 hy with rfl | hy
      · omega
      · have := h1 y hy; omega
    · refine List.pairwise_cons.2 ⟨fun y hy => ?_, ins_sorted x t h2 (fun c => hn (by simp [c]))⟩
      rcases (mem_ins x y t).1 hy with rfl | hy
      · omega
      · exact h1 y hy
theorem isort_sorted : ∀ l : List Int, l.Nodup → (isort l).Pairwise (· < ·)
  | [], _ => List.Pairwise.nil
  | a :: t, h => by
    obtain ⟨h1, h2⟩ := List.nodup_cons.1 h
    exact ins_sorted a _ (isort_sorted t h2) (fun c => h1 ((mem_isort a t).1 c))
/-- There is just one list that rises and has these elements. -/
theorem rise_ext : ∀ (a b : List Int), a.Pairwise (· < ·) → b.Pairwise (· < ·) → (∀ x, x ∈ a ↔ x ∈ b) → a = b
  | [], [], _, _, _ => rfl
  | [], y :: b, _, _, h => by have := (h y).2 (by simp); simp at this
  | x :: a, [], _, _, h => by have := (h x).1 (by simp); simp at this
  | x :: a, y :: b, ha, hb, h => by
    obtain ⟨a1, a2⟩ := List.pairwise_cons.1 ha
    obtain ⟨b1, b2⟩ := List.pairwise_cons.1 hb
    have exy : x = y := by
      have h1 : x ∈ y :: b := (h x).1 (by simp)
      have h2 : y ∈ x :: a := (h y).2 (by simp)
      rcases List.mem_cons.1 h1 with e | h1
      · exact e
      · rcases List.mem_cons.1 h2 with e | h2
        · exact e.symm
        · have := b1 x h1
          have := a1 y h2
          omega
    subst exy
    rw [rise_ext a b a2 b2 fun z => ?_]
    constructor
    · intro hz
      rcases List.mem_cons.1 ((h z).1 (by simp [hz])) with e | hz'
      · have := a1 z hz; omega
      · exact hz'
    · intro hz
      rcases List.mem_cons.1 ((h z).2 (by simp [hz])) with e | hz'
      · have := b1 z hz; omega
      · exact hz'
def some (s n k : Nat) : List Int := isort ((shuf s n k).take k)
theorem Inj.nodup {n : Nat} {l : List Int} (h : Inj n l) : l.Nodup := by
  rw [List.nodup_iff_pairwise_ne, List.pairwise_iff_getElem]
  intro i j hi hj hij e
  have hl := h.len
  have := h.inj i j (by omega) (by omega) (by
    rw [List.getD_eq_getElem?_getD, List.getD_eq_getElem?_getD, List.getElem?_eq_getElem hi, List.getElem?_eq_getElem hj]
    simpa using e)
  omega
theorem some_length {s n k : Nat} (h : k ≤ n) : (some s n k).length = k := by
  unfold some
  rw [isort_length, List.length_take, shuf_length]
  omega
theorem some_sorted {s n k : Nat} (h : k ≤ n) : (some s n k).Pairwise (· < ·) := isort_sorted _ ((shuf_inj s n k h).nodup.sublist (List.take_sublist _ _))
theorem some_mem {s n k : Nat} (h : k ≤ n) (x : Int) : x ∈ some s n k ↔ ∃ i, i < k ∧ (shuf s n k).getD i 0 = x := by
  unfold some
  rw [mem_isort]
  constructor
  · intro hx
    obtain ⟨i, hi, rfl⟩ := List.getElem_of_mem hx
    rw [List.length_take, shuf_length] at hi
    refine ⟨i, by omega, ?_⟩
    rw [List.getElem_take, List.getD_eq_getElem?_getD, List.getElem?_eq_getElem (by rw [shuf_length]; omega)]
    rfl
  · rintro ⟨i, hi, rfl⟩
    rw [List.getD_eq_getElem?_getD, List.getElem?_eq_getElem (by rw [shuf_length]; omega)]
    exact List.mem_of_getElem? (i := i) (by rw [List.getElem?_take_of_lt hi, List.getElem?_eq_getElem (by rw [shuf_length]; omega)]; rfl)
theorem some_rng {s n k : Nat} (h : k ≤ n) {x : Int} (hx : x ∈ some s n k) : 0 ≤ x ∧ x < n := by
  obtain ⟨i, hi, rfl⟩ := (some_mem h x).1 hx
  exact (shuf_inj s n k h).rng i (by omega)
/-- One more has the others, too. -/
theorem some_more {s n k : Nat} (h : k < n) {x : Int} (hx : x ∈ some s n k) : x ∈ some s n (k + 1) := by
  obtain ⟨i, hi, rfl⟩ := (some_mem (by omega) x).1 hx
  exact (some_mem (by omega) _).2 ⟨i, by omega, shuf_keep h hi⟩
/-- What is chosen, of any numbers; the state behind it. -/
def May (n k : Int) : Prop := 0 ≤ n ∧ n ≤ 64 ∧ 0 ≤ k ∧ k ≤ n
instance (n k : Int) : Decidable (May n k) := by unfold May; infer_instance
def someZ (s : Nat) (n k : Int) : List Int := if May n k then some s n.toNat k.toNat else []
def someS (s : Nat) (n k : Int) : Nat := if May n k then st s k.toNat else s
end C
end Go.Proofs.YtjkfiimlaigdhaaDoor
namespace Go.Proofs.YtjkfiimlaigdhaaDoor
open Go.RowKit

/-- The contracts of package choose; At: how a Draw lies in memory. Without a Draw what is told is new memory. -/
structure ChooseOk (At : World → Value → (Nat → Prop) → Nat → Prop) : Prop where
def Rising (l : List Int) : Prop := ∀ i, i + 1 < l.length → l.getD i 0 < l.getD (i + 1) 0
theorem rising_of {l : List Int} (h : l.Pairwise (· < ·)) : Rising l := fun i hi => by
  have := List.pairwise_iff_getElem.1 h i (i + 1) (by omega) hi (by omega)
  rw [List.getD_eq_getElem?_getD, List.getD_eq_getElem?_getD, List.getElem?_eq_getElem (by omega : i < l.length), List.getElem?_eq_getElem hi]
  simpa using this
theorem may_33 : C.May 3 3 := ⟨by omega, by omega, by omega, by omega⟩
theorem some_wake : C.someZ 5 3 3 = [0, 1, 2] := by decide +kernel
theorem i64_small {n : Int} (h0 : -1000 ≤ n) (h1 : n ≤ 1000) : I64 n := by unfold I64; omega
theorem lit_zs {w : World} (l : List Int) (hb : ∀ x ∈ l, I64 x) (hn : l.length ≤ 1000) : Zs (w.alloc (.cells (rowZ l) 3)) (.slice (some ⟨w.heap.size, 0, none⟩) l.length l.length) l :=
  Blz.zs (L := l) (heap_alloc_new _ _) l _ (Nat.le_refl _) (Nat.le_refl _) (by omega) hb fun _ _ => rfl
end Go.Proofs.YtjkfiimlaigdhaaDoor
namespace Go.Proofs.YtjkfiimlaigdhaaDoor
open Go.RowKit

namespace C
/-- The first k of M are those of M0, in some order. -/
structure Srt (n k : Nat) (M0 M : List Int) : Prop where
  inj : Inj n M
  mem : ∀ x, (∃ i, i < k ∧ M.getD i 0 = x) ↔ ∃ i, i < k ∧ M0.getD i 0 = x
theorem Srt.refl {n k : Nat} {M : List Int} (h : Inj n M) : Srt n k M M := ⟨h, fun _ => Iff.rfl⟩
theorem Srt.swap {n k : Nat} {M0 M : List Int} (h : Srt n k M0 M) {i j : Nat} (hi : i < k) (hj : j < k) (hk : k ≤ n) : Srt n k M0 (C.swap M i j) := by
  refine ⟨h.inj.swap (by omega) (by omega), fun x => ?_⟩
  rw [← h.mem]
  have hl := h.inj.len
  have hg := swap_getD M i j (by omega) (by omega)
  constructor
  · rintro ⟨a, ha, rfl⟩
    rw [hg]
    split
    · exact ⟨i, hi, rfl⟩
    · split
      · exact ⟨j, hj, rfl⟩
      · exact ⟨a, ha, rfl⟩
  · rintro ⟨a, ha, rfl⟩
    by_cases e1 : a = i
    · exact ⟨j, hj, by rw [hg, if_pos rfl, e1]⟩
    · by_cases e2 : a = j
      · refine ⟨i, hi, ?_⟩
        rw [hg]
        split
        · rename_i e; rw [e2, e]
        · rw [if_pos rfl, e2]
      · exact ⟨a, ha, by rw [hg, if_neg e2, if_neg e1]⟩
def Up (M : List Int) (i : Nat) : Prop := ∀ a b, a < b → b < i → M.getD a 0 < M.getD b 0
/-- In order up to i, but for what stands at j, which may stand too far behind. -/
def Hole (M : List Int) (i j : Nat) : Prop := ∀ a b, a < b → b ≤ i → b ≠ j → M.getD a 0 < M.getD b 0
theorem Hole.start {M : List Int} {i : Nat} (h : Up M i) : Hole M i i := fun a b h1 h2 h3 => h a b h1 (by omega)
theorem Hole.step {M : List Int} {i j : Nat} (h : Hole M i (j + 1)) (hj : j + 1 ≤ i) (hl : i < M.length) (hlt : M.getD (j + 1) 0 < M.getD j 0) : Hole (C.swap M (j + 1) j) i j := by
  intro a b h1 h2 h3
  have hg := swap_getD M (j + 1) j (by omega) (by omega)
  rw [hg, hg, if_neg h3]
  by_cases e : b = j + 1
  · subst e
    rw [if_pos rfl]
    by_cases e2 : a = j
    · rw [if_pos e2]; exact hlt
    · rw [if_neg e2, if_neg (by omega)]
      exact h a j (by omega) (by omega) (by omega)
  · rw [if_neg e]
    by_cases e2 : a = j
    · rw [if_pos e2]
      exact h (j + 1) b (by omega) h2 e
    · rw [if_neg e2]
      by_cases e3 : a = j + 1
      · rw [if_pos e3]
        exact h j b (by omega) h2 e
      · rw [if_neg e3]
        exact h a b h1 h2 e
theorem Hole.top {M : List Int} {i : Nat} (h : Hole M i 0) : Up M (i + 1) := fun a b h1 h2 => h a b h1 (by omega) (by omega)
theorem Hole.stop {M : List Int} {i j : Nat} (h : Hole M i (j + 1)) (hj : j + 1 ≤ i) (hlt : M.getD j 0 < M.getD (j + 1) 0) : Up M (i + 1) := fun a b h1 h2 => by
  by_cases e : b = j + 1
  · subst e
    by_cases e2 : a = j
    · rw [e2]; exact hlt
    · have := h a j (by omega) (by omega) (by omega)
      omega
  · exact h a b h1 (by omega) e
theorem Srt.done {s n k : Nat} {M : List Int} (h : Srt n k (shuf s n k) M) (hu : Up M k) (hk : k ≤ n) : M.take k = some s n k := by
  have hl := h.inj.len
  have ht : (M.take k).length = k := by rw [List.length_take]; omega
  have hget : ∀ i (hi : i < (M.take k).length), (M.take k)[i] = M.getD i 0 := fun i hi => by
    rw [List.getElem_take, List.getD_eq_getElem?_getD, List.getElem?_eq_getElem (by omega)]
    rfl
  refine rise_ext _ _ ?_ (some_sorted hk) fun x => ?_
  · rw [List.pairwise_iff_getElem]
    intro i j hi hj hij
    rw [hget, hget]
    exact hu i j hij (by omega)
  · rw [some_mem hk, ← h.mem]
    constructor
    · intro hx
      obtain ⟨i, hi, rfl⟩ := List.getElem_of_mem hx
      exact ⟨i, by omega, (hget i hi).symm⟩
    · rintro ⟨i, hi, rfl⟩
      rw [← hget i (by omega)]
      exact List.getElem_mem _
theorem pick_below {s n i : Nat} (h : i < n) : (i : Int) + belowV (st s i) ((n : Int) - i) = (pick s n i : Nat) ∧ belowS (st s i) ((n : Int) - i) = st s (i + 1) := by
  have e : (n : Int) - i = ((n - i : Nat) : Int) := by omega
  refine ⟨?_, ?_⟩
  · unfold belowV pick
    rw [if_neg (by omega), e]
    omega
  · unfold belowS
    rw [if_neg (by omega)]
    rfl
end C

/-- A row of ints of one's own, with room c; it reads as L. -/
def Iz (W : World) (g c n : Nat) (L : List Int) : Prop :=
  L.length = n ∧ n ≤ c ∧ c ≤ 9223372036854775807 ∧ ∃ cur : Array Value, W.heap[g]? = some (.cells cur 3 (0, 0)) ∧ cur.size = c ∧ ∀ i, i < n → cur[i]? = some (.int .i64 (L.getD i 0))
theorem Iz.cell {W : World} {g c n : Nat} {L : List Int} (h : Iz W g c n L) (i : Nat) (hi : i < n) : W.cell? ⟨g, i, none⟩ = some (.int .i64 (L.getD i 0)) := by
  obtain ⟨_, _, _, cur, hg, hs, hc⟩ := h
  rw [cell_of_row W g i _ _ _ hg]
  exact hc i hi
theorem Iz.frozen {W : World} {g c n : Nat} {L : List Int} (h : Iz W g c n L) (i : Nat) : W.frozen? ⟨g, i, none⟩ = false := by
  obtain ⟨_, _, _, cur, hg, _, _⟩ := h
  exact frozen_of_row W g i _ _ hg
theorem Iz.set {W : World} {g c n : Nat} {L : List Int} (h : Iz W g c n L) (i : Nat) (hi : i < n) (x : Int) : Iz (W.setCell ⟨g, i, none⟩ (.int .i64 x)) g c n (L.set i x) := by
  obtain ⟨h1, h2, h3, cur, hg, hs, hc⟩ := h
  refine ⟨by rw [List.length_set]; exact h1, h2, h3, cur.setIfInBounds i (.int .i64 x), heap_setCell_same _ _ _ _ _ _ hg, by simpa using hs, fun k hk => ?_⟩
  by_cases e : k = i
  · subst e
    rw [Array.getElem?_setIfInBounds_self_of_lt (by omega), List.getD_eq_getElem?_getD, List.getElem?_set_self (by omega)]
    rfl
  · rw [Array.getElem?_setIfInBounds_ne (fun c => e c.symm), hc k hk, List.getD_eq_getElem?_getD, List.getD_eq_getElem?_getD, List.getElem?_set_ne (fun c => e c.symm)]
theorem Iz.swap {W : World} {g c n : Nat} {L : List Int} (h : Iz W g c n L) (i j : Nat) (hi : i < n) (hj : j < n) :
    Iz ((W.setCell ⟨g, i, none⟩ (.int .i64 (L.getD j 0))).setCell ⟨g, j, none⟩ (.int .i64 (L.getD i 0))) g c n (C.swap L i j) :=
  (h.set i hi (L.getD j 0)).set j hj (L.getD i 0)
theorem Iz.any {W : World} {g c n : Nat} {L : List Int} (h : Iz W g c n L) (i j : Nat) (x : Int) (hi : i < n) (hj : j < n) : ∃ y, (W.setCell ⟨g, i, none⟩ (.int .i64 x)).cell? ⟨g, j, none⟩ = some y :=
  ⟨_, (h.set i hi x).cell j hj⟩
theorem Iz.kp {F : Nat → Prop} {W W' : World} {g c n : Nat} {L : List Int} (h : Iz W g c n L) (hk : Kp F W W') (hn : ¬ F g) : Iz W' g c n L := by
  obtain ⟨h1, h2, h3, cur, hg, hs, hc⟩ := h
  exact ⟨h1, h2, h3, cur, hk.block hg hn, hs, hc⟩
theorem Iz.zs {W : World} {g c n : Nat} {L : List Int} (h : Iz W g c n L) (k : Nat) (hk : k ≤ n) (hb : ∀ x ∈ L, I64 x) : Zs W (.slice (some ⟨g, 0, none⟩) k c) (L.take k) := by
  have hl : (L.take k).length = k := by rw [List.length_take, h.1]; omega
  refine ⟨fun x hx => hb x (List.mem_of_mem_take hx), some ⟨g, 0, none⟩, c, by rw [hl], by rw [hl]; have := h.2.1; omega, h.2.2.1, (fun e => by cases e), fun a ha i hi => ?_⟩
  cases ha
  rw [hl] at hi
  rw [Addr.add_mid, Nat.zero_add, h.cell i (by omega), List.getD_eq_getElem?_getD, List.getD_eq_getElem?_getD, List.getElem?_take_of_lt hi]
theorem Iz.of_own {base n : Nat} {w : World} {v : Value} {l : List Int} (ho : w.ownsRow base 3 1 v n (l.map (Value.int .i64))) (hl : l.length = n) (h0 : 0 < n) : ∃ g c, v = .slice (some ⟨g, 0, none⟩) n c ∧ base ≤ g ∧ Iz w g c n l := by
  obtain ⟨_, ⟨rfl, rfl⟩ | ⟨g, c, cur, rfl, hb, hg, h1, h2, h3, h4⟩⟩ := ho
  · omega
  · unfold maxLen at h2
    refine ⟨g, c, rfl, hb, hl, h1, h2, cur, hg, by omega, fun i hi => ?_⟩
    have hi2 : i < cur.toList.length := by simp; omega
    have e : (cur.toList.take (n * 1))[i]? = some (.int .i64 (l.getD i 0)) := by
      rw [h4, List.getElem?_map, List.getElem?_eq_getElem (by omega), List.getD_eq_getElem?_getD, List.getElem?_eq_getElem (by omega)]
      rfl
    rw [List.getElem?_take_of_lt (by omega)] at e
    simpa using e
theorem Kp.setNew {F : Nat → Prop} {w W : World} (h : Kp F w W) {g : Nat} (hg : w.heap.size ≤ g) (i : Nat) (v : Value) : Kp F w (W.setCell ⟨g, i, none⟩ v) :=
  h.trans (Kp.set W g i v) fun k e => .inr (by omega)
/-- Ints in memory of one's own, since base: the first of a row that may be longer. -/
def OwnZ (base : Nat) (w : World) (v : Value) (l : List Int) : Prop :=
  (∀ x ∈ l, I64 x) ∧ ((v = .slice none 0 0 ∧ l = []) ∨ ∃ g c C, v = .slice (some ⟨g, 0, none⟩) l.length c ∧ base ≤ g ∧ l.length ≤ c ∧ c ≤ 9223372036854775807 ∧ Iz w g C l.length l)
theorem OwnZ.zs {base : Nat} {w : World} {v : Value} {l : List Int} (h : OwnZ base w v l) : Zs w v l := by
  obtain ⟨hr, ⟨rfl, rfl⟩ | ⟨g, c, C, rfl, _, h2, h3, h4⟩⟩ := h
  · exact Zs.nil w
  · refine ⟨hr, some ⟨g, 0, none⟩, c, rfl, h2, h3, (fun e => by cases e), fun a ha i hi => ?_⟩
    cases ha
    rw [Addr.add_mid, Nat.zero_add]
    exact h4.cell i hi
theorem OwnZ.formN {base n : Nat} {w : World} {v : Value} {l : List Int} (h : OwnZ base w v l) (hn : l.length = n) : ∃ o c, v = .slice o n c := by
  obtain ⟨o, c, e⟩ := h.zs.form
  exact ⟨o, c, by rw [e, hn]⟩
theorem OwnZ.form3 {base : Nat} {w : World} {v : Value} {l : List Int} (h : OwnZ base w v l) : ∃ o m c, v = .slice o m c := h.zs.form3
theorem OwnZ.away {base : Nat} {w : World} {v : Value} {l : List Int} {F : Nat → Prop} (h : OwnZ base w v l) (hF : ∀ k, F k → k < base) : AwayZ F v := fun a m c hv _ hf => by
  obtain ⟨_, ⟨rfl, _⟩ | ⟨g, c', C, rfl, h1, _⟩⟩ := h
  · cases hv
  · cases hv
    have h3 : g < base := hF g hf
    omega
theorem OwnZ.at {base n c : Nat} {o : Option Addr} {w : World} {l : List Int} (h : OwnZ base w (.slice o n c) l) (h0 : 0 < n) : ∃ g C, o = some ⟨g, 0, none⟩ ∧ base ≤ g ∧ Iz w g C n l := by
  obtain ⟨_, ⟨he, _⟩ | ⟨g, c', C, he, h1, _, _, h4⟩⟩ := h
  · cases he
    omega
  · cases he
    exact ⟨g, C, rfl, h1, h4⟩
theorem OwnZ.of_own {base n : Nat} {w : World} {v : Value} {l : List Int} (ho : w.ownsRow base 3 1 v n (l.map (Value.int .i64))) (hl : l.length = n) (hr : ∀ x ∈ l, I64 x) : OwnZ base w v l := by
  by_cases h0 : 0 < n
  · obtain ⟨g, c, rfl, hb, hz⟩ := Iz.of_own ho hl h0
    exact ⟨hr, .inr ⟨g, c, c, by rw [hl], hb, by rw [hl]; exact hz.2.1, hz.2.2.1, by rw [hl]; exact hz⟩⟩
  · obtain rfl : n = 0 := by omega
    obtain rfl := List.eq_nil_of_length_eq_zero hl
    obtain ⟨_, ⟨rfl, _⟩ | ⟨g, c, cur, rfl, hb, hg, h1, h2, h3, h4⟩⟩ := ho
    · exact ⟨hr, .inl ⟨rfl, rfl⟩⟩
    · have : maxLen = 9223372036854775807 := rfl
      exact ⟨hr, .inr ⟨g, c, c, rfl, hb, by simp, by omega, rfl, by simp, by omega, cur, hg, by omega, fun i hi => by simp at hi⟩⟩
/-- 0, 1, .. -/
def upTo (n : Nat) : List Int := (List.range n).map fun i : Nat => (i : Int)
theorem upTo_succ (n : Nat) : upTo (n + 1) = upTo n ++ [(n : Int)] := by
  unfold upTo
  rw [List.range_succ, List.map_append]
  rfl
end Go.Proofs.YtjkfiimlaigdhaaDoor
