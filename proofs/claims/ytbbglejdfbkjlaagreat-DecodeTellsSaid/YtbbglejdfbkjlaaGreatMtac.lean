/-
  Texts laid behind one another: Ch Cw Ci St Sl Sp Rv.
-/
import Derived.Test.YtbbglejdfbkjlaaGreatMtaa
import Derived.Test.YtbbglejdfbkjlaaGreatMtab
import Derived.Deep.AppendLies
import Derived.Deep.DeepCutAuto
import Derived.OpenShut
import Derived.Laws.CopyOwn
import Derived.Deep.RegionHeld3
namespace Go.Proofs.YtbbglejdfbkjlaaGreat
open Go.RowKit
namespace C
def st (s : Nat) : Nat → Nat
 | 0 => s
 | i + 1 => nextS (st s i)
theorem st_lt {s : Nat} (h : s < 18446744073709551616) : ∀ i, st s i < 18446744073709551616
 | 0 => h
 | _ + 1 => nextS_lt _
def swap (l : List Int) (i j : Nat) : List Int := (l.set i (l.getD j 0)).set j (l.getD i 0)
def pick (s n i : Nat) : Nat := i + topS (nextS (st s i)) % (n - i)
def shuf (s n : Nat) : Nat → List Int
 | 0 => (List.range n).map fun i : Nat => (i : Int)
 | i + 1 => swap (shuf s n i) i (pick s n i)
theorem pick_lt {s n i : Nat} (h : i < n) : i ≤ pick s n i ∧ pick s n i < n := by
 unfold pick
 have := Nat.mod_lt (topS (nextS (st s i))) (by omega : 0 < n - i)
 omega
theorem swap_length (l : List Int) (i j : Nat) : (swap l i j).length = l.length := by simp [swap]
theorem swap_getD (l : List Int) (i j : Nat) (hi : i < l.length) (hj : j < l.length) (k : Nat) : (swap l i j).getD k 0 = if k = j then l.getD i 0 else if k = i then l.getD j 0 else l.getD k 0 := by
 unfold swap
 by_cases e : k = j
 ·subst e
  rw [if_pos rfl, List.getD_eq_getElem?_getD, List.getElem?_set_self (by simp; exact hj)]
  rfl
 ·rw [if_neg e, List.getD_eq_getElem?_getD, List.getElem?_set_ne (fun c => e c.symm)]
  by_cases e2 : k = i
  ·subst e2
   rw [if_pos rfl, List.getElem?_set_self hi]
   rfl
  ·rw [if_neg e2, List.getElem?_set_ne (fun c => e2 c.symm), List.getD_eq_getElem?_getD]
theorem shuf_length (s n : Nat) : ∀ i, (shuf s n i).length = n
 | 0 => by simp [shuf]
 | i + 1 => by
  show (swap _ _ _).length = n
  rw [swap_length, shuf_length s n i]
structure Inj (n : Nat) (l : List Int) : Prop where
 len : l.length = n
 rng : ∀ i, i < n → 0 ≤ l.getD i 0 ∧ l.getD i 0 < n
 inj : ∀ i j, i < n → j < n → l.getD i 0 = l.getD j 0 → i = j
theorem Inj.swap {n : Nat} {l : List Int} (h : Inj n l) {i j : Nat} (hi : i < n) (hj : j < n) : Inj n (C.swap l i j) := by
 have hl := h.len
 have hg := swap_getD l i j (by omega) (by omega)
 refine ⟨by rw [swap_length, hl], fun k hk => ?_, fun k m hk hm e => ?_⟩
 ·rw [hg k]
  split
  ·exact h.rng i hi
  ·split
   ·exact h.rng j hj
   ·exact h.rng k hk
 ·rw [hg k, hg m] at e
  split at e <;> rename_i e1
  ·split at e <;> rename_i e2
   ·omega
   ·split at e <;> rename_i e3
    ·have := h.inj i j hi hj e; omega
    ·have := h.inj i m hi hm e; omega
  ·split at e <;> rename_i e4
   ·split at e <;> rename_i e2
    ·have := h.inj j i hj hi e; omega
    ·split at e <;> rename_i e3
     ·omega
     ·have := h.inj j m hj hm e; omega
   ·split at e <;> rename_i e2
    ·have := h.inj k i hk hi e; omega
    ·split at e <;> rename_i e3
     ·have := h.inj k j hk hj e; omega
     ·exact h.inj k m hk hm e
theorem range_getD {n i : Nat} (h : i < n) : ((List.range n).map fun i : Nat => (i : Int)).getD i 0 = i := by
 rw [List.getD_eq_getElem?_getD, List.getElem?_map, List.getElem?_range h]
 rfl
theorem shuf_inj (s n : Nat) : ∀ i, i ≤ n → Inj n (shuf s n i)
 | 0, _ => ⟨by simp [shuf], fun i hi => by
     show 0 ≤ ((List.range n).map fun i : Nat => (i : Int)).getD i 0 ∧ _
     rw [range_getD hi]
     exact ⟨by omega, by show ((List.range n).map fun i : Nat => (i : Int)).getD i 0 < _; rw [range_getD hi]; omega⟩, fun i j hi hj e => by
     have e' : ((List.range n).map fun i : Nat => (i : Int)).getD i 0 = ((List.range n).map fun i : Nat => (i : Int)).getD j 0 := e
     rw [range_getD hi, range_getD hj] at e'
     omega⟩
 | i + 1, h => (shuf_inj s n i (by omega)).swap (by omega) (pick_lt (by omega)).2
def ins (x : Int) : List Int → List Int
 | [] => [x]
 | a :: t => if x ≤ a then x :: a :: t else a :: ins x t
def isort : List Int → List Int
 | [] => []
 | a :: t => ins a (isort t)
theorem ins_length (x : Int) : ∀ l, (ins x l).length = l.length + 1
 | [] => rfl
 | a :: t => by
  unfold ins
  split
  ·rfl
  ·simp [ins_length x t]
theorem isort_length : ∀ l, (isort l).length = l.length
 | [] => rfl
 | a :: t => by
  show (ins a (isort t)).length = _
  rw [ins_length, isort_length t]
  rfl
theorem mem_ins (x y : Int) : ∀ l, y ∈ ins x l ↔ y = x ∨ y ∈ l
 | [] => by simp [ins]
 | a :: t => by
  unfold ins
  split
  ·simp
  ·rw [List.mem_cons, mem_ins x y t, List.mem_cons]
   constructor
   ·rintro (h | h | h)
    ·exact .inr (.inl h)
    ·exact .inl h
    ·exact .inr (.inr h)
   ·rintro (h | h | h)
    ·exact .inr (.inl h)
    ·exact .inl h
    ·exact .inr (.inr h)
theorem mem_isort (y : Int) : ∀ l, y ∈ isort l ↔ y ∈ l
 | [] => Iff.rfl
 | a :: t => by
  show y ∈ ins a (isort t) ↔ _
  rw [mem_ins, mem_isort y t, List.mem_cons]
theorem ins_sorted (x : Int) : ∀ l, l.Pairwise (· < ·) → x ∉ l → (ins x l).Pairwise (· < ·)
 | [], _, _ => by simp [ins]
 | a :: t, h, hn => by
  obtain ⟨h1, h2⟩ := List.pairwise_cons.1 h
  have hne : x ≠ a := fun e => hn (by rw [e]; simp)
  unfold ins
  split
  ·refine List.pairwise_cons.2 ⟨fun y hy => ?_, h⟩
   rcases List.mem_cons.1 hy with rfl | hy
   ·omega
   ·have := h1 y hy; omega
  ·refine List.pairwise_cons.2 ⟨fun y hy => ?_, ins_sorted x t h2 (fun c => hn (by simp [c]))⟩
   rcases (mem_ins x y t).1 hy with rfl | hy
   ·omega
   ·exact h1 y hy
theorem isort_sorted : ∀ l : List Int, l.Nodup → (isort l).Pairwise (· < ·)
 | [], _ => List.Pairwise.nil
 | a :: t, h => by
  obtain ⟨h1, h2⟩ := List.nodup_cons.1 h
  exact ins_sorted a _ (isort_sorted t h2) (fun c => h1 ((mem_isort a t).1 c))
theorem rise_ext : ∀ (a b : List Int), a.Pairwise (· < ·) → b.Pairwise (· < ·) → (∀ x, x ∈ a ↔ x ∈ b) → a = b
 | [], [], _, _, _ => rfl
 | [], y :: b, _, _, h => by have := (h y).2 (by simp); simp at this
 | x :: a, [], _, _, h => by have := (h x).1 (by simp); simp at this
 | x :: a, y :: b, ha, hb, h => by
  obtain ⟨a1, a2⟩ := List.pairwise_cons.1 ha
  obtain ⟨b1, b2⟩ := List.pairwise_cons.1 hb
  have exy : x = y := by
   have h1 : x ∈ y :: b := (h x).1 (by simp)
   have h2 : y ∈ x :: a := (h y).2 (by simp)
   rcases List.mem_cons.1 h1 with e | h1
   ·exact e
   ·rcases List.mem_cons.1 h2 with e | h2
    ·exact e.symm
    ·have := b1 x h1
     have := a1 y h2
     omega
  subst exy
  rw [rise_ext a b a2 b2 fun z => ?_]
  constructor
  ·intro hz
   rcases List.mem_cons.1 ((h z).1 (by simp [hz])) with e | hz'
   ·have := a1 z hz; omega
   ·exact hz'
  ·intro hz
   rcases List.mem_cons.1 ((h z).2 (by simp [hz])) with e | hz'
   ·have := b1 z hz; omega
   ·exact hz'
def some (s n k : Nat) : List Int := isort ((shuf s n k).take k)
theorem Inj.nodup {n : Nat} {l : List Int} (h : Inj n l) : l.Nodup := by
 rw [List.nodup_iff_pairwise_ne, List.pairwise_iff_getElem]
 intro i j hi hj hij e
 have hl := h.len
 have := h.inj i j (by omega) (by omega) (by
   rw [List.getD_eq_getElem?_getD, List.getD_eq_getElem?_getD, List.getElem?_eq_getElem hi, List.getElem?_eq_getElem hj]
   simpa using e)
 omega
theorem some_length {s n k : Nat} (h : k ≤ n) : (some s n k).length = k := by
 unfold some
 rw [isort_length, List.length_take, shuf_length]
 omega
theorem some_sorted {s n k : Nat} (h : k ≤ n) : (some s n k).Pairwise (· < ·) := isort_sorted _ ((shuf_inj s n k h).nodup.sublist (List.take_sublist _ _))
theorem some_mem {s n k : Nat} (h : k ≤ n) (x : Int) : x ∈ some s n k ↔ ∃ i, i < k ∧ (shuf s n k).getD i 0 = x := by
 unfold some
 rw [mem_isort]
 constructor
 ·intro hx
  obtain ⟨i, hi, rfl⟩ := List.getElem_of_mem hx
  rw [List.length_take, shuf_length] at hi
  refine ⟨i, by omega, ?_⟩
  rw [List.getElem_take, List.getD_eq_getElem?_getD, List.getElem?_eq_getElem (by rw [shuf_length]; omega)]
  rfl
 ·rintro ⟨i, hi, rfl⟩
  rw [List.getD_eq_getElem?_getD, List.getElem?_eq_getElem (by rw [shuf_length]; omega)]
  exact List.mem_of_getElem? (i := i) (by rw [List.getElem?_take_of_lt hi, List.getElem?_eq_getElem (by rw [shuf_length]; omega)]; rfl)
theorem some_rng {s n k : Nat} (h : k ≤ n) {x : Int} (hx : x ∈ some s n k) : 0 ≤ x ∧ x < n := by
 obtain ⟨i, hi, rfl⟩ := (some_mem h x).1 hx
 exact (shuf_inj s n k h).rng i (by omega)
def May (n k : Int) : Prop := 0 ≤ n ∧ n ≤ 64 ∧ 0 ≤ k ∧ k ≤ n
instance (n k : Int) : Decidable (May n k) := by unfold May; infer_instance
def someZ (s : Nat) (n k : Int) : List Int := if May n k then some s n.toNat k.toNat else []
def someS (s : Nat) (n k : Int) : Nat := if May n k then st s k.toNat else s
end C
end Go.Proofs.YtbbglejdfbkjlaaGreat
namespace Go.Proofs.YtbbglejdfbkjlaaGreat
open Go.RowKit
def Rising (l : List Int) : Prop := ∀ i, i + 1 < l.length → l.getD i 0 < l.getD (i + 1) 0
theorem rising_of {l : List Int} (h : l.Pairwise (· < ·)) : Rising l := fun i hi => by
 have := List.pairwise_iff_getElem.1 h i (i + 1) (by omega) hi (by omega)
 rw [List.getD_eq_getElem?_getD, List.getD_eq_getElem?_getD, List.getElem?_eq_getElem (by omega : i < l.length), List.getElem?_eq_getElem hi]
 simpa using this
end Go.Proofs.YtbbglejdfbkjlaaGreat
namespace Go.Proofs.YtbbglejdfbkjlaaGreat
open Go.RowKit
namespace C
structure Srt (n k : Nat) (M0 M : List Int) : Prop where
 inj : Inj n M
 mem : ∀ x, (∃ i, i < k ∧ M.getD i 0 = x) ↔ ∃ i, i < k ∧ M0.getD i 0 = x
theorem Srt.refl {n k : Nat} {M : List Int} (h : Inj n M) : Srt n k M M := ⟨h, fun _ => Iff.rfl⟩
theorem Srt.swap {n k : Nat} {M0 M : List Int} (h : Srt n k M0 M) {i j : Nat} (hi : i < k) (hj : j < k) (hk : k ≤ n) : Srt n k M0 (C.swap M i j) := by
 refine ⟨h.inj.swap (by omega) (by omega), fun x => ?_⟩
 rw [← h.mem]
 have hl := h.inj.len
 have hg := swap_getD M i j (by omega) (by omega)
 constructor
 ·rintro ⟨a, ha, rfl⟩
  rw [hg]
  split
  ·exact ⟨i, hi, rfl⟩
  ·split
   ·exact ⟨j, hj, rfl⟩
   ·exact ⟨a, ha, rfl⟩
 ·rintro ⟨a, ha, rfl⟩
  by_cases e1 : a = i
  ·exact ⟨j, hj, by rw [hg, if_pos rfl, e1]⟩
  ·by_cases e2 : a = j
   ·refine ⟨i, hi, ?_⟩
    rw [hg]
    split
    ·rename_i e; rw [e2, e]
    ·rw [if_pos rfl, e2]
   ·exact ⟨a, ha, by rw [hg, if_neg e2, if_neg e1]⟩
def Up (M : List Int) (i : Nat) : Prop := ∀ a b, a < b → b < i → M.getD a 0 < M.getD b 0
def Hole (M : List Int) (i j : Nat) : Prop := ∀ a b, a < b → b ≤ i → b ≠ j → M.getD a 0 < M.getD b 0
theorem Hole.start {M : List Int} {i : Nat} (h : Up M i) : Hole M i i := fun a b h1 h2 h3 => h a b h1 (by omega)
theorem Hole.step {M : List Int} {i j : Nat} (h : Hole M i (j + 1)) (hj : j + 1 ≤ i) (hl : i < M.length) (hlt : M.getD (j + 1) 0 < M.getD j 0) : Hole (C.swap M (j + 1) j) i j := by
 intro a b h1 h2 h3
 have hg := swap_getD M (j + 1) j (by omega) (by omega)
 rw [hg, hg, if_neg h3]
 by_cases e : b = j + 1
 ·subst e
  rw [if_pos rfl]
  by_cases e2 : a = j
  ·rw [if_pos e2]; exact hlt
  ·rw [if_neg e2, if_neg (by omega)]
   exact h a j (by omega) (by omega) (by omega)
 ·rw [if_neg e]
  by_cases e2 : a = j
  ·rw [if_pos e2]
   exact h (j + 1) b (by omega) h2 e
  ·rw [if_neg e2]
   by_cases e3 : a = j + 1
   ·rw [if_pos e3]
    exact h j b (by omega) h2 e
   ·rw [if_neg e3]
    exact h a b h1 h2 e
theorem Hole.top {M : List Int} {i : Nat} (h : Hole M i 0) : Up M (i + 1) := fun a b h1 h2 => h a b h1 (by omega) (by omega)
theorem Hole.stop {M : List Int} {i j : Nat} (h : Hole M i (j + 1)) (hj : j + 1 ≤ i) (hlt : M.getD j 0 < M.getD (j + 1) 0) : Up M (i + 1) := fun a b h1 h2 => by
 by_cases e : b = j + 1
 ·subst e
  by_cases e2 : a = j
  ·rw [e2]; exact hlt
  ·have := h a j (by omega) (by omega) (by omega)
   omega
 ·exact h a b h1 (by omega) e
theorem Srt.done {s n k : Nat} {M : List Int} (h : Srt n k (shuf s n k) M) (hu : Up M k) (hk : k ≤ n) : M.take k = some s n k := by
 have hl := h.inj.len
 have ht : (M.take k).length = k := by rw [List.length_take]; omega
 have hget : ∀ i (hi : i < (M.take k).length), (M.take k)[i] = M.getD i 0 := fun i hi => by
  rw [List.getElem_take, List.getD_eq_getElem?_getD, List.getElem?_eq_getElem (by omega)]
  rfl
 refine rise_ext _ _ ?_ (some_sorted hk) fun x => ?_
 ·rw [List.pairwise_iff_getElem]
  intro i j hi hj hij
  rw [hget, hget]
  exact hu i j hij (by omega)
 ·rw [some_mem hk, ← h.mem]
  constructor
  ·intro hx
   obtain ⟨i, hi, rfl⟩ := List.getElem_of_mem hx
   exact ⟨i, by omega, (hget i hi).symm⟩
  ·rintro ⟨i, hi, rfl⟩
   rw [← hget i (by omega)]
   exact List.getElem_mem _
theorem pick_below {s n i : Nat} (h : i < n) : (i : Int) + belowV (st s i) ((n : Int) - i) = (pick s n i : Nat) ∧ belowS (st s i) ((n : Int) - i) = st s (i + 1) := by
 have e : (n : Int) - i = ((n - i : Nat) : Int) := by omega
 refine ⟨?_, ?_⟩
 ·unfold belowV pick
  rw [if_neg (by omega), e]
  omega
 ·unfold belowS
  rw [if_neg (by omega)]
  rfl
end C
def Iz (W : World) (g c n : Nat) (L : List Int) : Prop :=
 L.length = n ∧ n ≤ c ∧ c ≤ 9223372036854775807 ∧ ∃ cur : Array Value, W.heap[g]? = some (.cells cur 3 (0, 0)) ∧ cur.size = c ∧ ∀ i, i < n → cur[i]? = some (.int .i64 (L.getD i 0))
theorem Iz.cell {W : World} {g c n : Nat} {L : List Int} (h : Iz W g c n L) (i : Nat) (hi : i < n) : W.cell? ⟨g, i, none⟩ = some (.int .i64 (L.getD i 0)) := by
 obtain ⟨_, _, _, cur, hg, hs, hc⟩ := h
 rw [cell_of_row W g i _ _ _ hg]
 exact hc i hi
theorem Iz.frozen {W : World} {g c n : Nat} {L : List Int} (h : Iz W g c n L) (i : Nat) : W.frozen? ⟨g, i, none⟩ = false := by
 obtain ⟨_, _, _, cur, hg, _, _⟩ := h
 exact frozen_of_row W g i _ _ hg
theorem Iz.set {W : World} {g c n : Nat} {L : List Int} (h : Iz W g c n L) (i : Nat) (hi : i < n) (x : Int) : Iz (W.setCell ⟨g, i, none⟩ (.int .i64 x)) g c n (L.set i x) := by
 obtain ⟨h1, h2, h3, cur, hg, hs, hc⟩ := h
 refine ⟨by rw [List.length_set]; exact h1, h2, h3, cur.setIfInBounds i (.int .i64 x), heap_setCell_same _ _ _ _ _ _ hg, by simpa using hs, fun k hk => ?_⟩
 by_cases e : k = i
 ·subst e
  rw [Array.getElem?_setIfInBounds_self_of_lt (by omega), List.getD_eq_getElem?_getD, List.getElem?_set_self (by omega)]
  rfl
 ·rw [Array.getElem?_setIfInBounds_ne (fun c => e c.symm), hc k hk, List.getD_eq_getElem?_getD, List.getD_eq_getElem?_getD, List.getElem?_set_ne (fun c => e c.symm)]
theorem Iz.swap {W : World} {g c n : Nat} {L : List Int} (h : Iz W g c n L) (i j : Nat) (hi : i < n) (hj : j < n) :
  Iz ((W.setCell ⟨g, i, none⟩ (.int .i64 (L.getD j 0))).setCell ⟨g, j, none⟩ (.int .i64 (L.getD i 0))) g c n (C.swap L i j) :=
 (h.set i hi (L.getD j 0)).set j hj (L.getD i 0)
theorem Iz.any {W : World} {g c n : Nat} {L : List Int} (h : Iz W g c n L) (i j : Nat) (x : Int) (hi : i < n) (hj : j < n) : ∃ y, (W.setCell ⟨g, i, none⟩ (.int .i64 x)).cell? ⟨g, j, none⟩ = some y :=
 ⟨_, (h.set i hi x).cell j hj⟩
theorem Iz.kp {F : Nat → Prop} {W W' : World} {g c n : Nat} {L : List Int} (h : Iz W g c n L) (hk : Kp F W W') (hn : ¬ F g) : Iz W' g c n L := by
 obtain ⟨h1, h2, h3, cur, hg, hs, hc⟩ := h
 exact ⟨h1, h2, h3, cur, hk.block hg hn, hs, hc⟩
theorem Iz.zs {W : World} {g c n : Nat} {L : List Int} (h : Iz W g c n L) (k : Nat) (hk : k ≤ n) (hb : ∀ x ∈ L, I64 x) : Zs W (.slice (some ⟨g, 0, none⟩) k c) (L.take k) := by
 have hl : (L.take k).length = k := by rw [List.length_take, h.1]; omega
 refine ⟨fun x hx => hb x (List.mem_of_mem_take hx), some ⟨g, 0, none⟩, c, by rw [hl], by rw [hl]; have := h.2.1; omega, h.2.2.1, (fun e => by cases e), fun a ha i hi => ?_⟩
 cases ha
 rw [hl] at hi
 rw [Addr.add_mid, Nat.zero_add, h.cell i (by omega), List.getD_eq_getElem?_getD, List.getD_eq_getElem?_getD, List.getElem?_take_of_lt hi]
theorem Iz.of_own {base n : Nat} {w : World} {v : Value} {l : List Int} (ho : w.ownsRow base 3 1 v n (l.map (Value.int .i64))) (hl : l.length = n) (h0 : 0 < n) : ∃ g c, v = .slice (some ⟨g, 0, none⟩) n c ∧ base ≤ g ∧ Iz w g c n l := by
 obtain ⟨_, ⟨rfl, rfl⟩ | ⟨g, c, cur, rfl, hb, hg, h1, h2, h3, h4⟩⟩ := ho
 ·omega
 ·unfold maxLen at h2
  refine ⟨g, c, rfl, hb, hl, h1, h2, cur, hg, by omega, fun i hi => ?_⟩
  have hi2 : i < cur.toList.length := by simp; omega
  have e : (cur.toList.take (n * 1))[i]? = some (.int .i64 (l.getD i 0)) := by
   rw [h4, List.getElem?_map, List.getElem?_eq_getElem (by omega), List.getD_eq_getElem?_getD, List.getElem?_eq_getElem (by omega)]
   rfl
  rw [List.getElem?_take_of_lt (by omega)] at e
  simpa using e
theorem Kp.setNew {F : Nat → Prop} {w W : World} (h : Kp F w W) {g : Nat} (hg : w.heap.size ≤ g) (i : Nat) (v : Value) : Kp F w (W.setCell ⟨g, i, none⟩ v) :=
 h.trans (Kp.set W g i v) fun k e => .inr (by omega)
theorem RAt.setOther {w : World} {g s b : Nat} (h : RAt w g s) (hb : g ≠ b) (i : Nat) (v : Value) : RAt (w.setCell ⟨b, i, none⟩ v) g s :=
 h.kept (Kp.set w b i v) (fun e => hb e)
def OwnZ (base : Nat) (w : World) (v : Value) (l : List Int) : Prop :=
 (∀ x ∈ l, I64 x) ∧ ((v = .slice none 0 0 ∧ l = []) ∨ ∃ g c C, v = .slice (some ⟨g, 0, none⟩) l.length c ∧ base ≤ g ∧ l.length ≤ c ∧ c ≤ 9223372036854775807 ∧ Iz w g C l.length l)
theorem OwnZ.zs {base : Nat} {w : World} {v : Value} {l : List Int} (h : OwnZ base w v l) : Zs w v l := by
 obtain ⟨hr, ⟨rfl, rfl⟩ | ⟨g, c, C, rfl, _, h2, h3, h4⟩⟩ := h
 ·exact Zs.nil w
 ·refine ⟨hr, some ⟨g, 0, none⟩, c, rfl, h2, h3, (fun e => by cases e), fun a ha i hi => ?_⟩
  cases ha
  rw [Addr.add_mid, Nat.zero_add]
  exact h4.cell i hi
theorem OwnZ.away {base : Nat} {w : World} {v : Value} {l : List Int} {F : Nat → Prop} (h : OwnZ base w v l) (hF : ∀ k, F k → k < base) : AwayZ F v := fun a m c hv _ hf => by
 obtain ⟨_, ⟨rfl, _⟩ | ⟨g, c', C, rfl, h1, _⟩⟩ := h
 ·cases hv
 ·cases hv
  have h3 : g < base := hF g hf
  omega
def upTo (n : Nat) : List Int := (List.range n).map fun i : Nat => (i : Int)
theorem upTo_succ (n : Nat) : upTo (n + 1) = upTo n ++ [(n : Int)] := by
 unfold upTo
 rw [List.range_succ, List.map_append]
 rfl
set_option maxRecDepth 100000 in
set_option maxHeartbeats 1600000 in
theorem refSome_any (gr s : Nat) (n k : Int) (w : World) (hr : RAt w gr s) (hn : I64 n) (hk : I64 k) :
  Calls Tryz.prog 83 #[.pointer (some ⟨gr, 0, none⟩), .int .i64 n, .int .i64 k] w fun e w' => ∃ v, e = .returned v ∧ Zs w' v (C.someZ s n k) ∧ RAt w' gr (C.someS s n k) ∧ Kp (fun b => b = gr) w w' := by
 obtain ⟨i0, hi0, hz0, hz1, hz2⟩ := info_parts infoZ
 have I0 := Lib.hid hi0
 have I1 := Lib.hid hz0
 have I2 := Lib.hid hz1
 have I3 := Lib.hid hz2
 clear hi0 hz0 hz1 hz2
 have HRR := Lib.hid hr
 have HGL := Lib.hid hr.lt
 unfold I64 at hn hk
 clear hr
 by_cases hmay : C.May n k
 ·obtain ⟨m1, m2, m3, m4⟩ := id hmay
  have e1 : C.someZ s n k = C.some s n.toNat k.toNat := if_pos hmay
  have e2 : C.someS s n k = C.st s k.toNat := if_pos hmay
  rw [e1, e2]
  obtain ⟨N, rfl⟩ : ∃ N : Nat, n = N := ⟨n.toNat, by omega⟩
  obtain ⟨K, rfl⟩ : ∃ K : Nat, k = K := ⟨k.toNat, by omega⟩
  rw [Int.toNat_natCast, Int.toNat_natCast]
  have hN : N ≤ 64 := by omega
  have hK : K ≤ N := by omega
  clear hmay e1 e2 m1 m2 m3 m4 hn hk
  have d1 : decide ((N : Int) < 0) = false := decide_eq_false (by omega)
  have d2 : decide ((64 : Int) < N) = false := decide_eq_false (by omega)
  have d3 : decide ((K : Int) < 0) = false := decide_eq_false (by omega)
  have d4 : decide (N < K) = false := decide_eq_false (by omega)
  have d5 : decide ((N : Int) < K) = false := decide_eq_false (by omega)
  go_enter Tryz.func83, Tryz.ntmps83
  go_wp2
  go_loopw [7, 8] (fun lv iv W => ∃ i : Nat, i ≤ N ∧ iv = .int .i64 i ∧ W.ownsRow w.heap.size 3 1 lv i ((upTo i).map (Value.int .i64)) ∧ Gr w W ∧ (i = 0 → lv = .slice none 0 0)) (fun _ iv _ => N - (intOf iv).toNat)
  case atStart => exact ⟨0, by omega, rfl, World.ownsRow_nil _ _ _ _, Gr.refl _, fun _ => rfl⟩
  case round =>
   obtain ⟨wo, hwo⟩ : ∃ x, x = wr := ⟨_, rfl⟩
   subst hwo
   obtain ⟨i, hi, rfl, ho, hg, hv⟩ := hrel
   have HV := Lib.hid hv
   clear hv
   have HO := Lib.hid ho
   have HG := Lib.hid hg
   obtain ⟨oo, co, rfl⟩ := ownsRow_form'' ho
   clear ho hg
   by_cases hlt : i < N
   ·go_wp2_with (at_builtin; refine wpList_append_lies _ rfl _ _ _ rfl w.heap.size 3 i0 _ 1 8 Tryz.underlying26 I0.out I1.out I2.out I3.out rfl (by omega) (.slice oo i co) i _ rfl (HO.out.alloc _) ⟨wo.heap.size, 0, none⟩ 1 1 [.int .i64 (i : Int)] rfl rfl (World.news_of_block (cs := #[.int .i64 (i : Int)]) (t := 3) (fr := (0, 0)) (heap_alloc_new wo _)) (by simp [Value.oneCell']) (by omega) (by unfold maxLen; omega) (by omega) (by have := HG.out.size; simp; omega) (wo.heap.size + 1) (by simp) ?_; intro gg cap w2 hown2 hgrow2 hat2 hlt2; have HO2 := Lib.hid hown2; have HG2 := Lib.hid hgrow2; clear hown2 hgrow2 hat2 hlt2)
    refine ⟨⟨i + 1, by omega, by go_num, ?_, ?_, fun e => by omega⟩, by simp [intOf]; omega⟩
    ·rw [upTo_succ, List.map_append]
     exact HO2.out
    ·exact Gr.append (Gr.alloc HG.out _ _) HG2.out (fun g hg => by
       obtain ⟨_, ⟨he, _⟩ | ⟨g', c', cur, he, hb, _⟩⟩ := HO.out
       · rw [he] at hg
         cases hg
       · rw [he] at hg
         cases hg
         exact hb)
   ·obtain rfl : i = N := by omega
    clear hlt
    by_cases h0 : 0 < i
    ·obtain ⟨g, c, he, hb, hz⟩ := Iz.of_own HO.out (by simp [upTo]) h0
     obtain ⟨he1, he2⟩ : oo = some ⟨g, 0, none⟩ ∧ co = c := by simpa using he
     subst oo
     subst co
     clear he d1 d2 d3 d4 d5 HV
     have Z0 := Lib.hid hz
     have HB := Lib.hid hb
     have R0 := Lib.hid (HRR.out.kept (HG.out.kp fun _ => False) (fun e => e))
     have K0 := Lib.hid (HG.out.kp (fun b => b = gr))
     clear hz hb HO HG
     go_wp2
     go_loopw [9] (fun iv W => ∃ j : Nat, j ≤ K ∧ iv = .int .i64 j ∧ Iz W g c i (C.shuf s i j) ∧ RAt W gr (C.st s j) ∧ Kp (fun b => b = gr) w W) (fun iv _ => K - (intOf iv).toNat)
     case atStart => exact ⟨0, by omega, rfl, Z0.out, R0.out, K0.out⟩
     case round =>
      clear Z0 R0 K0
      obtain ⟨wi, hwi⟩ : ∃ x, x = wr := ⟨_, rfl⟩
      subst hwi
      obtain ⟨j, hj, rfl, hz, hr, hk⟩ := hrel
      have ZZ := Lib.hid hz
      have RR := Lib.hid hr
      have KK := Lib.hid hk
      clear hz hr hk
      by_cases hlt : j < K
      ·obtain ⟨pb1, pb2⟩ := C.pick_below (s := s) (show j < i by omega)
       obtain ⟨pl1, pl2⟩ := C.pick_lt (s := s) (show j < i by omega)
       have PB2 := Lib.hid pb2
       have hbr := belowV_rng (C.st s j) ((i : Int) - j)
       have ZS : Hid (∀ q W', Kp (fun b => b = gr) wi W' → q < i → Iz (((W'.setCell ⟨g, j, none⟩ (.int .i64 ((C.shuf s i j).getD q 0))).setCell ⟨g, q, none⟩ (.int .i64 ((C.shuf s i j).getD j 0)))) g c i (C.swap (C.shuf s i j) j q)) := Lib.hid fun q W' hk hq => (ZZ.out.kp hk (fun e => by have := HGL.out; have := HB.out; omega)).swap j q (by omega) hq
       clear pb2
       go_upto_region 12 with fail
       refine (refBelow_any gr (C.st s j) ((i : Int) - j) _ RR.out (by omega)).mono ?_
       rintro e w1 ⟨rfl, hr1, hk1⟩
       rw [PB2.out] at hr1
       have hgr : gr ≠ g := by have := HGL.out; have := HB.out; omega
       have Z1 := Lib.hid (ZZ.out.kp hk1 (fun e => hgr e.symm))
       have K1 := Lib.hid (KK.out.trans hk1 fun k e => .inl e)
       have ZS1 := Lib.hid (ZS.out (C.pick s i j) w1 hk1 pl2)
       have SH : Hid (C.shuf s i (j + 1) = C.swap (C.shuf s i j) j (C.pick s i j)) := Lib.hid rfl
       have R1 := Lib.hid hr1
       have GN := Lib.hid hgr
       clear hr1 hk1 ZS PB2 RR KK ZZ hgr
       generalize C.pick s i j = q at *
       generalize belowV (C.st s j) ((i : Int) - j) = bv at *
       have ji : j < i := by omega
       have q1 := Z1.out.cell j ji
       have q2 := Z1.out.cell q pl2
       have fr1 := Z1.out.frozen j
       have fr2 := Z1.out.frozen q
       generalize hx : (C.shuf s i j).getD j 0 = x at *
       generalize hy : (C.shuf s i j).getD q 0 = y at *
       obtain ⟨y2, hy2⟩ := Z1.out.any j q y ji pl2
       have G1 : Hid (RAt ((w1.setCell ⟨g, j, none⟩ (.int .i64 y)).setCell ⟨g, q, none⟩ (.int .i64 x)) gr (C.st s (j + 1)) ∧ Kp (fun b => b = gr) w ((w1.setCell ⟨g, j, none⟩ (.int .i64 y)).setCell ⟨g, q, none⟩ (.int .i64 x))) :=
        Lib.hid ⟨(R1.out.setOther GN.out _ _).setOther GN.out _ _, (K1.out.setNew HB.out _ _).setNew HB.out _ _⟩
       clear R1 K1 hx hy Z1
       go_wp2
       go_region
       go_wp2
       exact ⟨⟨j + 1, by omega, by go_num, by rw [SH.out]; exact ZS1.out.kp ((Kp.refl (fun _ => False) _).drew) (fun e => e), G1.out.1.kept ((Kp.refl (fun _ => False) _).drew) (fun e => e), G1.out.2.drew⟩, by simp [intOf]; omega⟩
      ·obtain rfl : j = K := by omega
       have hS := C.Srt.refl (k := j) (C.shuf_inj s i j hK)
       generalize hM : C.shuf s i j = M0 at *
       have HM0 := Lib.hid hM
       have Z0 := Lib.hid ZZ.out
       clear hM ZZ
       obtain ⟨t, ht⟩ : ∃ t, C.st s j = t := ⟨_, rfl⟩
       rw [ht] at RR
       have HT := Lib.hid ht
       clear ht
       have bc : (j : Int) ≤ c := by have := Z0.out.2.1; omega
       have bc0 : (c : Int) ≠ 0 := by have := Z0.out.2.1; omega
       go_wp2
       clear bc bc0
       go_loopw [68] (fun iv W => ∃ (a : Nat) (M : List Int), a ≤ j ∧ iv = .int .i64 a ∧ Iz W g c i M ∧ C.Srt i j M0 M ∧ C.Up M a ∧ RAt W gr t ∧ Kp (fun b => b = gr) w W) (fun iv _ => j - (intOf iv).toNat)
       case atStart => exact ⟨0, M0, by omega, rfl, Z0.out, hS, fun a b _ h => by omega, RR.out, KK.out⟩
       case round =>
        clear Z0 RR KK hS
        obtain ⟨wa, hwa⟩ : ∃ x, x = wr := ⟨_, rfl⟩
        subst hwa
        obtain ⟨a, M, ha, rfl, hz, hs, hu, hr, hk⟩ := hrel
        have ZZ := Lib.hid hz
        have SS := Lib.hid hs
        have UU := Lib.hid hu
        have RR := Lib.hid hr
        have KK := Lib.hid hk
        clear hz hs hu hr hk
        by_cases hlt2 : a < j
        ·go_wp2
         go_loopw [12] (fun bv W => ∃ (b : Nat) (M : List Int), b ≤ a ∧ bv = .int .i64 b ∧ Iz W g c i M ∧ C.Srt i j M0 M ∧ C.Hole M a b ∧ RAt W gr t ∧ Kp (fun b => b = gr) w W) (fun bv _ => (intOf bv).toNat)
         case atStart => exact ⟨a, M, by omega, rfl, ZZ.out, SS.out, C.Hole.start UU.out, RR.out, KK.out⟩
         case round =>
          clear ZZ SS UU RR KK
          clear M
          obtain ⟨wb, hwb⟩ : ∃ x, x = wr := ⟨_, rfl⟩
          subst hwb
          obtain ⟨b, M, hb, rfl, hz, hs, hu, hr, hk⟩ := hrel
          have ZZ := Lib.hid hz
          have SS := Lib.hid hs
          have UU := Lib.hid hu
          have RR := Lib.hid hr
          have KK := Lib.hid hk
          clear hz hs hu hr hk
          by_cases hb0 : 0 < b
          ·obtain ⟨d, hd⟩ : ∃ d, b = d + 1 := ⟨b - 1, by omega⟩
           have fb : (b : Int) - 1 = d := by omega
           have bi : b < i := by omega
           have di : d < i := by omega
           have q1 := ZZ.out.cell b bi
           have q0 := ZZ.out.cell d di
           have fr1 := ZZ.out.frozen b
           have fr0 := ZZ.out.frozen d
           have HD := Lib.hid hd
           have SW := Lib.hid (ZZ.out.swap b d bi di)
           obtain ⟨y1, hy1⟩ : ∃ y, M.getD b 0 = y := ⟨_, rfl⟩
           obtain ⟨y0, hy0⟩ : ∃ y, M.getD d 0 = y := ⟨_, rfl⟩
           rw [hy1] at q1 SW
           rw [hy0] at q0 SW
           have HY1 := Lib.hid hy1
           have HY0 := Lib.hid hy0
           clear hy1 hy0 hd
           have g1 : decide ((0 : Int) < b) = true := decide_eq_true (by omega)
           have b1 : (b : Int) < j := by omega
           have b2 : (d : Int) < j := by omega
           by_cases hlt3 : y1 < y0
           ·have hf : decide (y1 < y0) = true := decide_eq_true hlt3
            obtain ⟨y2, hy2⟩ := ZZ.out.any b d y0 bi di
            have KD : ∀ m, Kp (fun _ => False) wb (wb.drewN m) := fun m => Kp.refl (fun _ => False) wb
            have GG : Hid (∀ m, Iz (((wb.drewN m).setCell ⟨g, b, none⟩ (.int .i64 y0)).setCell ⟨g, d, none⟩ (.int .i64 y1)) g c i (C.swap M b d) ∧ RAt (((wb.drewN m).setCell ⟨g, b, none⟩ (.int .i64 y0)).setCell ⟨g, d, none⟩ (.int .i64 y1)) gr t ∧ Kp (fun b => b = gr) w (((wb.drewN m).setCell ⟨g, b, none⟩ (.int .i64 y0)).setCell ⟨g, d, none⟩ (.int .i64 y1))) :=
             Lib.hid (fun m => by
               have hgr : gr ≠ g := by have := HGL.out; have := HB.out; omega
               have sw := (ZZ.out.kp (KD m) (fun e => e)).swap b d bi di
               rw [HY1.out, HY0.out] at sw
               exact ⟨sw, ((RR.out.kept (KD m) (fun e => e)).setOther hgr _ _).setOther hgr _ _, ((KK.out.trans (KD m) (fun k e => e.elim)).setNew HB.out _ _).setNew HB.out _ _⟩)
            clear KD SW
            have UH : Hid (C.Hole (C.swap M b d) a d) := Lib.hid (by
              have h := UU.out
              rw [HD.out] at h ⊢
              exact C.Hole.step h (by omega) (by rw [SS.out.inj.len]; omega) (by rw [← HD.out, HY1.out, HY0.out]; exact hlt3))
            have S2 := Lib.hid (SS.out.swap (show b < j by omega) (show d < j by omega) hK)
            clear UU SS ZZ RR KK HY1 HY0
            go_wp2
            go_quiet (fail)
            go_wp2
            go_region
            go_wp2
            exact ⟨⟨d, C.swap M b d, by omega, by go_num, (GG.out _).1, S2.out, UH.out, (GG.out _).2.1, (GG.out _).2.2⟩, by simp [intOf]; omega⟩
           ·have hf : decide (y1 < y0) = false := decide_eq_false hlt3
            go_wp2
            go_quiet (fail)
            go_wp2
            have hne : y0 ≠ y1 := fun e => by
             have := SS.out.inj.inj d b di bi (by rw [HY0.out, HY1.out, e])
             have := HD.out
             omega
            have UH : C.Up M (a + 1) := by
             have h := UU.out
             rw [HD.out] at h
             exact C.Hole.stop h (by have := HD.out; omega) (by rw [← HD.out, HY1.out, HY0.out]; omega)
            exact ⟨⟨a + 1, M, by omega, by go_num, ZZ.out, SS.out, UH, RR.out, KK.out⟩, by simp [intOf]; omega⟩
          ·obtain rfl : b = 0 := by omega
           rw [show ((0 : Nat) : Int) = 0 from rfl]
           go_wp2
           go_quiet (fail)
           go_wp2
           exact ⟨⟨a + 1, M, by omega, by go_num, ZZ.out, SS.out, C.Hole.top UU.out, RR.out, KK.out⟩, by simp [intOf]; omega⟩
        ·obtain rfl : a = j := by omega
         go_wp2
         go_ret
         have hz := ZZ.out.zs a hK (fun x hx => by
           obtain ⟨m, hm, rfl⟩ := List.getElem_of_mem hx
           have hl := SS.out.inj.len
           have := SS.out.inj.rng m (by omega)
           rw [List.getD_eq_getElem?_getD, List.getElem?_eq_getElem hm] at this
           unfold I64
           have h2 : (M[m]?.getD 0 : Int) = M[m] := by rw [List.getElem?_eq_getElem hm]; rfl
           simp at this
           omega)
         rw [C.Srt.done (by rw [HM0.out]; exact SS.out) UU.out hK] at hz
         exact ⟨_, rfl, hz, by rw [HT.out]; exact RR.out, KK.out⟩
    ·obtain rfl : i = 0 := by omega
     obtain rfl : K = 0 := by omega
     obtain ⟨he1, he2⟩ : oo = none ∧ co = 0 := by simpa using HV.out rfl
     subst oo
     subst co
     have K0 := Lib.hid (HG.out.kp (fun b => b = gr))
     have R0 := Lib.hid (HRR.out.kept (HG.out.kp fun _ => False) (fun e => e))
     clear HV HO HG
     go_wp2
     go_loopw [9] (fun iv W => iv = .int .i64 0 ∧ wo = W) (fun _ _ => 0)
     case atStart => exact ⟨rfl, rfl⟩
     case round =>
      obtain ⟨rfl, rfl⟩ := hrel
      go_wp2
      go_loopw [68] (fun iv W => iv = .int .i64 0 ∧ wo = W) (fun _ _ => 0)
      case atStart => exact ⟨rfl, rfl⟩
      case round =>
       obtain ⟨rfl, rfl⟩ := hrel
       go_wp2
       go_ret
       exact ⟨_, rfl, Zs.nil _, R0.out, K0.out⟩
 ·have e1 : C.someZ s n k = [] := if_neg hmay
  have e2 : C.someS s n k = s := if_neg hmay
  rw [e1, e2]
  have fin : Zs w (.slice none 0 0) [] ∧ RAt w gr s ∧ Kp (fun b => b = gr) w w := ⟨Zs.nil w, HRR.out, Kp.refl _ _⟩
  by_cases c1 : 0 ≤ n
  ·by_cases c2 : n ≤ 64
   ·by_cases c3 : 0 ≤ k
    ·have c4 : ¬ k ≤ n := fun c4 => hmay ⟨c1, c2, c3, c4⟩
     clear hmay e1 e2
     go_enter Tryz.func83, Tryz.ntmps83
     go_wp2
     go_ret
     exact ⟨_, rfl, fin⟩
    ·clear hmay e1 e2
     go_enter Tryz.func83, Tryz.ntmps83
     go_wp2
     go_ret
     exact ⟨_, rfl, fin⟩
   ·clear hmay e1 e2
    go_enter Tryz.func83, Tryz.ntmps83
    go_wp2
    go_ret
    exact ⟨_, rfl, fin⟩
  ·clear hmay e1 e2
   go_enter Tryz.func83, Tryz.ntmps83
   go_wp2
   go_ret
   exact ⟨_, rfl, fin⟩
end Go.Proofs.YtbbglejdfbkjlaaGreat
namespace Go.Proofs.YtbbglejdfbkjlaaGreat
open Go.RowKit
def addZ (a b : Int) : Int := ((a.toNat ^^^ b.toNat : Nat) : Int)
theorem addZ_byt {a b : Int} (ha : Byt a) (hb : Byt b) : Byt (addZ a b) := by
 unfold Byt at *
 have h := M.xor_lt (x := a.toNat) (y := b.toNat) (by omega) (by omega)
 unfold addZ
 omega
def St (w0 w : World) (f : Value) : Prop := Gr w0 w ∧ IsF w f
theorem new_st (w : World) : Calls Tryz.prog 65 #[] w fun e w' => ∃ b, e = .returned (.pointer (some ⟨b, 0, none⟩)) ∧ St w w' (.pointer (some ⟨b, 0, none⟩)) :=
 (new_any w).mono fun _ _ ⟨b, he, hf, hg⟩ => ⟨b, he, hg, Or.inr ⟨b, rfl, hf⟩⟩
theorem byt_of_wf {a : Int} (h : (Lit.int .u8 a).wf = true) : Byt a := by
 have := bounds_u8 h
 unfold Byt
 omega
theorem byt_nat {a : Int} (h : Byt a) : ∃ x : Nat, a = x ∧ x < 256 := by
 unfold Byt at h
 exact ⟨a.toNat, by omega, by omega⟩
/-! ### The laws of a field, on integers -/
theorem addZ_comm (a b : Int) : addZ a b = addZ b a := by
 unfold addZ
 rw [Nat.xor_comm]
theorem addZ_self (a : Int) : addZ a a = 0 := by
 unfold addZ
 rw [Nat.xor_self]
 rfl
theorem mulZ_comm (a b : Int) : mulZ a b = mulZ b a := by
 unfold mulZ
 rw [M.mulN_comm]
theorem mulZ_one (a : Int) (ha : Byt a) : mulZ a 1 = a := by
 unfold Byt at *
 unfold mulZ
 rw [show (1 : Int).toNat = 1 from rfl, M.mulN_one _ (by omega)]
 omega
theorem mulZ_zero (a : Int) : mulZ a 0 = 0 := by simp [mulZ, M.mulN_zero_right]
theorem mulZ_inv (a : Int) (ha : Byt a) (h0 : a ≠ 0) : mulZ a (invZ a) = 1 := by
 unfold Byt at ha
 unfold mulZ invZ
 rw [Int.toNat_natCast, M.mulN_inv _ (by omega) (by omega)]
 rfl
theorem xorZ (a b : Int) (ha : Byt a) (hb : Byt b) : bits BinOp.xor IntKind.u8 a b = addZ a b := by
 unfold Byt at *
 exact u8_xor a b (by omega) (by omega) (by omega) (by omega)
end Go.Proofs.YtbbglejdfbkjlaaGreat
namespace Go.Proofs.YtbbglejdfbkjlaaGreat
open Go.RowKit
def Bs (w : World) (v : Value) (l : List Int) : Prop :=
 (∀ x ∈ l, Byt x) ∧ ∃ oa c, v = .slice oa l.length c ∧ l.length ≤ c ∧ c ≤ 9223372036854775807 ∧ (oa = none → c = 0) ∧ ∀ a, oa = some a → ∀ i, i < l.length → w.cell? (a.add i) = some (.int .u8 (l.getD i 0))
theorem Bs.nil (w : World) : Bs w (.slice none 0 0) [] := ⟨by simp, none, 0, rfl, by simp, by omega, fun _ => rfl, fun a h => by cases h⟩
theorem Bs.byt {w : World} {v : Value} {l : List Int} (h : Bs w v l) (i : Nat) : Byt (l.getD i 0) := by
 by_cases hi : i < l.length
 ·rw [List.getD_eq_getElem?_getD, List.getElem?_eq_getElem hi]
  exact h.1 _ (List.getElem_mem hi)
 ·rw [List.getD_eq_getElem?_getD, List.getElem?_eq_none (by omega)]
  unfold Byt
  simp
theorem Bs.at {w : World} {v : Value} {l : List Int} (h : Bs w v l) (hl : 0 < l.length) :
  ∃ a c, v = .slice (some a) l.length c ∧ l.length ≤ c ∧ c ≤ 9223372036854775807 ∧ ∀ i, i < l.length → w.cell? (a.add i) = some (.int .u8 (l.getD i 0)) := by
 obtain ⟨_, oa, c, h1, h2, h3, h4, h5⟩ := h
 cases oa with
 | none => exact absurd (h4 rfl) (by omega)
 | some a => exact ⟨a, c, h1, h2, h3, h5 a rfl⟩
theorem cell_grown {w w' : World} (hg : Gr w w') {a : Addr} {x : Value} (h : w.cell? a = some x) : w'.cell? a = some x := by
 obtain ⟨b, o, s⟩ := a
 have hs : s = none := by simpa using World.cell?_spot h
 subst hs
 cases ho : w.heap[b]? with
 | none => simp [World.cell?, ho] at h
 | some ob =>
  cases ob with
  | cells c t fr =>
   rw [cell_of_row w' b _ c t fr (keptRow hg ho)]
   rw [cell_of_row w b _ c t fr ho] at h
   exact h
  | _ => simp [World.cell?, ho] at h
theorem Bs.grown {w w' : World} {v : Value} {l : List Int} (h : Bs w v l) (hg : Gr w w') : Bs w' v l := by
 obtain ⟨h0, oa, c, h1, h2, h3, h4, h5⟩ := h
 exact ⟨h0, oa, c, h1, h2, h3, h4, fun a ha i hi => cell_grown hg (h5 a ha i hi)⟩
theorem eq_of_getD {x y : List Int} (hl : y.length = x.length) (h : ∀ j, j < x.length → x.getD j 0 = y.getD j 0) : x = y := by
 apply List.ext_getElem hl.symm
 intro j h1 h2
 have := h j h1
 rw [List.getD_eq_getElem?_getD, List.getD_eq_getElem?_getD, List.getElem?_eq_getElem h1, List.getElem?_eq_getElem h2] at this
 simpa using this
set_option maxHeartbeats 400000 in
theorem same_core (a b : Addr) (n ca cb : Nat) (x y : List Int) (w : World) (hn : x.length = n) (hl : y.length = n) (hx : n ≤ ca) (hy : n ≤ cb) (hm : ca ≤ 9223372036854775807)
  (hxc : ∀ i, i < n → w.cell? (a.add i) = some (.int .u8 (x.getD i 0))) (hyc : ∀ i, i < n → w.cell? (b.add i) = some (.int .u8 (y.getD i 0))) :
  Calls Tryz.prog 19 #[.slice (some a) n ca, .slice (some b) n cb] w fun e w' => e = .returned (.bool (x == y)) ∧ Gr w w' := by
 have HX := Lib.hid hxc
 have HY := Lib.hid hyc
 have HL := Lib.hid hl
 have HN := Lib.hid hn
 clear hxc hyc hl hn
 go_enter Tryz.func19, Tryz.ntmps19
 go_wp2
 go_loopw [13] (fun i wr => ∃ k : Nat, k ≤ n ∧ i = .int .i64 k ∧ (∃ d, wr = w.drewN d) ∧ (∀ j, j < k → x.getD j 0 = y.getD j 0)) (fun i _ => n - (intOf i).toNat)
 case atStart => exact ⟨0, by omega, rfl, ⟨0, rfl⟩, by omega⟩
 case round =>
  obtain ⟨k, hk, rfl, ⟨d, rfl⟩, hs⟩ := hrel
  have HS := Lib.hid hs
  clear hs
  by_cases hlt : k < n
  ·have h1 := HX.out k hlt
   have h2 := HY.out k hlt
   obtain ⟨p, hp⟩ : ∃ p, x.getD k 0 = p := ⟨_, rfl⟩
   obtain ⟨q, hq⟩ : ∃ q, y.getD k 0 = q := ⟨_, rfl⟩
   rw [hp] at h1
   rw [hq] at h2
   have HP := Lib.hid hp
   have HQ := Lib.hid hq
   clear hp hq
   by_cases he : p = q
   ·subst he
    go_wp2
    go_quiet (fail)
    go_wp2
    refine ⟨⟨k + 1, by omega, by go_num, ⟨_, rfl⟩, fun j hj => ?_⟩, by simp [intOf]; omega⟩
    by_cases e : j = k
    ·rw [e, HP.out, HQ.out]
    ·exact HS.out j (by omega)
   ·have hb : (p != q) = true := by simpa using he
    have HE := Lib.hid he
    clear he
    go_wp2
    go_quiet (fail)
    go_wp2
    go_ret
    have hne : (x == y) = false := by
     rw [beq_eq_false_iff_ne]
     intro c
     apply HE.out
     rw [← HP.out, ← HQ.out, c]
    exact ⟨by rw [hne]; rfl, Gr.refl _⟩
  ·obtain rfl : k = n := by omega
   go_wp2
   go_ret
   have he : x = y := eq_of_getD (by rw [HL.out, HN.out]) (fun j hj => HS.out j (by rw [HN.out] at hj; exact hj))
   exact ⟨by rw [he]; simp, Gr.refl _⟩
set_option maxHeartbeats 400000 in
theorem same_any (va vb : Value) (x y : List Int) (w : World) (ha : Bs w va x) (hb : Bs w vb y) :
  Calls Tryz.prog 19 #[va, vb] w fun e w' => e = .returned (.bool (x == y)) ∧ Gr w w' := by
 by_cases hl : y.length = x.length
 ·by_cases h0 : 0 < x.length
  ·obtain ⟨a, ca, rfl, h1, h2, h3⟩ := Bs.at ha h0
   obtain ⟨b, cb, rfl, h4, h5, h6⟩ := Bs.at hb (by omega)
   rw [hl]
   rw [hl] at h4 h6
   exact same_core a b x.length ca cb x y w rfl hl h1 h4 h2 h3 h6
  ·obtain rfl : x = [] := List.eq_nil_of_length_eq_zero (by omega)
   obtain rfl : y = [] := List.eq_nil_of_length_eq_zero (by simpa using hl)
   obtain ⟨_, oa, ca, rfl, _, _, _, _⟩ := ha
   obtain ⟨_, ob, cb, rfl, _, _, _, _⟩ := hb
   go_enter Tryz.func19, Tryz.ntmps19
   go_wp2
   go_loopw [13] (fun i wr => i = .int .i64 0 ∧ wr = w) (fun _ _ => 0)
   case atStart => exact ⟨rfl, rfl⟩
   case round =>
    obtain ⟨rfl, rfl⟩ := hrel
    go_wp2
    go_ret
    exact ⟨rfl, Gr.refl _⟩
 ·have hne : (x == y) = false := by
   rw [beq_eq_false_iff_ne]
   intro c
   rw [c] at hl
   exact hl rfl
  obtain ⟨_, oa, ca, rfl, h1, h2, _, _⟩ := ha
  obtain ⟨_, ob, cb, rfl, h3, h4, _, _⟩ := hb
  rw [hne]
  generalize x.length = n at *
  generalize y.length = m at *
  have ht : ((n : Int) != m) = true := by simp; omega
  go_enter Tryz.func19, Tryz.ntmps19
  go_wp2
  go_ret
  exact ⟨rfl, Gr.refl _⟩
end Go.Proofs.YtbbglejdfbkjlaaGreat
namespace Go.Proofs.YtbbglejdfbkjlaaGreat
open Go.RowKit
def rowB (L : List Int) : Array Value := (L.map (Value.int .u8)).toArray
theorem rowB_size (L : List Int) : (rowB L).size = L.length := by simp [rowB]
theorem rowB_get (L : List Int) (i : Nat) (h : i < L.length) : (rowB L)[i]? = some (.int .u8 (L.getD i 0)) := by
 simp [rowB, h]
theorem rowB_set (L : List Int) (i : Nat) (x : Int) : (rowB L).setIfInBounds i (.int .u8 x) = rowB (L.set i x) := by
 simp [rowB, List.map_set]
theorem rowB_made (n : Nat) : madeCells #[.int .u8 0] n = rowB (List.replicate n 0) := by
 apply Array.ext'
 rw [toList_madeCells_one]
 simp [rowB]
def Blk (w : World) (g : Nat) (L : List Int) : Prop := w.heap[g]? = some (.cells (rowB L) 5 (0, 0))
theorem Blk.grown {w w' : World} {g : Nat} {L : List Int} (h : Blk w g L) (hg : Gr w w') : Blk w' g L := keptRow hg h
theorem Blk.cell {w : World} {g : Nat} {L : List Int} (h : Blk w g L) (i : Nat) (hi : i < L.length) : w.cell? ⟨g, i, none⟩ = some (.int .u8 (L.getD i 0)) := by
 rw [cell_of_row w g i _ _ _ h, rowB_get L i hi]
theorem Blk.bs {w : World} {g : Nat} {L : List Int} (h : Blk w g L) (l : List Int) (c : Nat) (hl : l.length ≤ L.length) (hlc : l.length ≤ c) (hc : c ≤ 9223372036854775807) (hb : ∀ x ∈ l, Byt x) (he : ∀ i, i < l.length → L.getD i 0 = l.getD i 0) :
  Bs w (.slice (some ⟨g, 0, none⟩) l.length c) l :=
 ⟨hb, some ⟨g, 0, none⟩, c, rfl, hlc, hc, (fun h => by cases h), fun a ha i hi => by
   cases ha
   rw [Addr.add_mid, Nat.zero_add, Blk.cell h i (by omega), he i hi]⟩
theorem info5 : (Tryz.prog.info? 5).map (fun i => (i.zero, i.size, i.bytes)) = some (some (.int .u8 0), 1, 1) := by kernel_rfl
theorem make22 (l c : Nat) (h : l ≤ c) (hc : c ≤ 281474976710656) (w : World) :
  (Instr.makeSlice 25 (.int .i64 (l : Int)) (.int .i64 (c : Int))).run Tryz.prog w = .ok (.slice (some ⟨w.heap.size, 0, none⟩) l c) (w.alloc (.cells (rowB (List.replicate c 0)) 5)) := by
 obtain ⟨i, hi, hzz⟩ := Option.map_eq_some_iff.1 info5
 simp only [Prod.mk.injEq] at hzz
 obtain ⟨hz, hs, hb⟩ := hzz
 have hr := run_make (P := Tryz.prog) w 25 5 i _ Tryz.underlying25 hi hz .i64 .i64 l c (by omega) (by omega) (by rw [hb]; omega) (by omega)
 rw [Int.toNat_natCast, Int.toNat_natCast, hs, Nat.mul_one] at hr
 rw [hr, ← rowB_made]
 rfl
def marks (m : Int) : Nat → List Int
 | 0 => [0, 0]
 | 1 => [m, 0]
 | _ => [m, m]
theorem marks_length (m : Int) (k : Nat) : (marks m k).length = 2 := by
 unfold marks
 split <;> rfl
theorem marks_set (l : List Int) (n : Nat) (m : Int) (k : Nat) (hn : l.length = n) (h : k < 2) : (l ++ marks m k).set (n + k) m = l ++ marks m (k + 1) := by
 subst hn
 rw [List.set_append, if_neg (by omega), Nat.add_sub_cancel_left]
 have : k = 0 ∨ k = 1 := by omega
 rcases this with rfl | rfl <;> rfl
def spW (w : World) (L : List Int) : World := w.alloc (.cells (rowB L) 5)
set_option maxHeartbeats 400000 in
theorem spare_core (a : Addr) (n c : Nat) (l : List Int) (m : Int) (w : World) (hn : l.length = n) (h2 : n ≤ 281474976710000) (h0 : 0 < n)
  (hc : ∀ i, i < n → w.cell? (a.add i) = some (.int .u8 (l.getD i 0))) :
  Calls Tryz.prog 16 #[.slice (some a) n c, .int .u8 m] w fun e w' => ∃ g, e = .returned (.slice (some ⟨g, 0, none⟩) n (n + 2)) ∧ w.heap.size ≤ g ∧ Blk w' g (l ++ [m, m]) ∧ Gr w w' := by
 have HC := Lib.hid hc
 have HN := Lib.hid hn
 have hmk := make22 n (n + 2) (by omega) (by omega)
 rw [show ((n + 2 : Nat) : Int) = (n : Int) + 2 from by omega] at hmk
 clear hc hn
 go_enter Tryz.func16, Tryz.ntmps16
 have hsz : (Tryz.prog.info? 5).map (·.size) = some 1 := by kernel_rfl
 have SZ := Lib.hid hsz
 clear hsz
 have hB := heap_alloc_new w (.cells (rowB (List.replicate (n + 2) 0)) 5)
 have HB := Lib.hid hB
 clear hB
 have HS : Hid ((l.map (Value.int .u8)).length = Nat.min n n) := Lib.hid (by rw [List.length_map, HN.out]; simp)
 have HF : Hid (0 + (l.map (Value.int .u8)).length ≤ (rowB (List.replicate (n + 2) 0)).size) := Lib.hid (by rw [List.length_map, HN.out, rowB_size, List.length_replicate]; omega)
 have H1 : Hid (∀ v ∈ l.map (Value.int .u8), v.oneCell' = true) := Lib.hid (by
   intro v hv
   simp at hv
   obtain ⟨j, _, rfl⟩ := hv
   rfl)
 have HV : Hid (∀ j v, (l.map (Value.int .u8))[j]? = some v → (w.alloc (.cells (rowB (List.replicate (n + 2) 0)) 5)).cell? (a.add j) = some v) := Lib.hid (by
   intro j v hv
   have hj : j < n := by
     have := (List.getElem?_eq_some_iff.1 hv).1
     rw [List.length_map, HN.out] at this
     exact this
   have := HC.out j hj
   rw [cell_grown (Gr.alloc (Gr.refl _) _ _) this]
   simp [HN.out, hj] at hv
   rw [← hv]
   simp [HN.out, hj])
 have HR : Hid ((l.map (Value.int .u8) ++ List.drop (l.map (Value.int .u8)).length (rowB (List.replicate (n + 2) 0)).toList).toArray = rowB (l ++ marks m 0)) := Lib.hid (by
   simp [rowB, HN.out, marks])
 generalize l.map (Value.int .u8) = cs at *
 generalize rowB (List.replicate (n + 2) 0) = cur at *
 go_wp2_with (refine wpList_copy_own rfl _ _ 25 25 rfl 5 Tryz.underlying25 SZ.out w.heap.size 0 n (n + 2) a n c rfl rfl cur 5 HB.out cs HS.out HV.out HF.out H1.out ?_)
 rw [World.setRow_alloc_new, HR.out]
 clear HR H1 HV HF HS HB SZ HC hmk
 go_loopw [7] (fun i wr => ∃ k : Nat, k ≤ 2 ∧ i = .int .i64 ((n + k : Nat) : Int) ∧ wr = spW w (l ++ marks m k)) (fun i _ => n + 2 - (intOf i).toNat)
 case atStart => exact ⟨0, by omega, rfl, rfl⟩
 case round =>
  obtain ⟨k, hk, rfl, rfl⟩ := hrel
  unfold spW
  by_cases hlt : k < 2
  ·have hg : (rowB (l ++ marks m k))[n + k]? = some (.int .u8 ((l ++ marks m k).getD (n + k) 0)) := rowB_get _ _ (by rw [List.length_append, HN.out, marks_length]; omega)
   have HST : Hid ((rowB (l ++ marks m k)).setIfInBounds (n + k) (.int .u8 m) = rowB (l ++ marks m (k + 1))) := Lib.hid (by rw [rowB_set, marks_set l n m k HN.out hlt])
   generalize (l ++ marks m k).getD (n + k) 0 = old at *
   generalize rowB (l ++ marks m k) = C at *
   go_wp2
   exact ⟨⟨k + 1, by omega, by go_num, by rw [HST.out]⟩, by simp [intOf]; omega⟩
  ·obtain rfl : k = 2 := by omega
   go_wp2
   go_ret
   exact ⟨_, rfl, Nat.le_refl _, heap_alloc_new _ _, Gr.alloc (Gr.refl _) _ _⟩
set_option maxHeartbeats 400000 in
theorem spare_none (oa : Option Addr) (c : Nat) (m : Int) (w : World) :
  Calls Tryz.prog 16 #[.slice oa 0 c, .int .u8 m] w fun e w' => ∃ g, e = .returned (.slice (some ⟨g, 0, none⟩) 0 2) ∧ w.heap.size ≤ g ∧ Blk w' g [m, m] ∧ Gr w w' := by
 have hmk : ∀ w, (Instr.makeSlice 25 (.int .i64 0) (.int .i64 2)).run Tryz.prog w = .ok (.slice (some ⟨w.heap.size, 0, none⟩) 0 2) (w.alloc (.cells (rowB (List.replicate 2 0)) 5)) := fun w => make22 0 2 (by omega) (by omega) w
 have hsz : (Tryz.prog.info? 5).map (·.size) = some 1 := by kernel_rfl
 have SZ := Lib.hid hsz
 clear hsz
 have HR : Hid (rowB (List.replicate 2 0) = rowB (marks m 0)) := Lib.hid rfl
 generalize rowB (List.replicate 2 0) = cur at *
 go_enter Tryz.func16, Tryz.ntmps16
 go_wp2_with (refine wpList_copy_nothing rfl _ _ 25 25 rfl 5 Tryz.underlying25 SZ.out _ _ _ _ _ _ rfl rfl rfl ?_)
 rw [HR.out]
 clear HR SZ hmk
 go_loopw [7] (fun i wr => ∃ k : Nat, k ≤ 2 ∧ i = .int .i64 (k : Int) ∧ wr = spW w (marks m k)) (fun i _ => 2 - (intOf i).toNat)
 case atStart => exact ⟨0, by omega, rfl, rfl⟩
 case round =>
  obtain ⟨k, hk, rfl, rfl⟩ := hrel
  unfold spW
  by_cases hlt : k < 2
  ·have hg : (rowB (marks m k))[k]? = some (.int .u8 ((marks m k).getD k 0)) := rowB_get _ _ (by rw [marks_length]; omega)
   have HST : Hid ((rowB (marks m k)).setIfInBounds k (.int .u8 m) = rowB (marks m (k + 1))) := Lib.hid (by rw [rowB_set]; have := marks_set [] 0 m k rfl hlt; simp at this; rw [this])
   generalize (marks m k).getD k 0 = old at *
   generalize rowB (marks m k) = C at *
   go_wp2
   exact ⟨⟨k + 1, by omega, by go_num, by rw [HST.out]⟩, by simp [intOf]; omega⟩
  ·obtain rfl : k = 2 := by omega
   go_wp2
   go_ret
   exact ⟨_, rfl, Nat.le_refl _, heap_alloc_new _ _, Gr.alloc (Gr.refl _) _ _⟩
theorem spare_any (v : Value) (l : List Int) (m : Int) (w : World) (h : Bs w v l) (hc : l.length ≤ 281474976710000) :
  Calls Tryz.prog 16 #[v, .int .u8 m] w fun e w' => ∃ g, e = .returned (.slice (some ⟨g, 0, none⟩) l.length (l.length + 2)) ∧ w.heap.size ≤ g ∧ Blk w' g (l ++ [m, m]) ∧ Gr w w' := by
 by_cases h0 : 0 < l.length
 ·obtain ⟨a, c, rfl, _, _, h3⟩ := Bs.at h h0
  exact spare_core a l.length c l m w rfl hc h0 h3
 ·obtain rfl : l = [] := List.eq_nil_of_length_eq_zero (by omega)
  obtain ⟨_, oa, c, rfl, _, _, _, _⟩ := h
  exact spare_none oa c m w
theorem Blk.bs_pre {w : World} {g : Nat} {l r : List Int} (h : Blk w g (l ++ r)) (hb : ∀ x ∈ l, Byt x) (hn : (l ++ r).length ≤ 9223372036854775807) : Bs w (.slice (some ⟨g, 0, none⟩) l.length (l ++ r).length) l :=
 Blk.bs h l _ (by simp) (by simp) hn hb (fun i hi => by
   rw [List.getD_eq_getElem?_getD, List.getD_eq_getElem?_getD, List.getElem?_append_left hi])
set_option maxHeartbeats 400000 in
theorem kept_true (g : Nat) (l : List Int) (vw : Value) (m : Int) (w : World) (h : Blk w g (l ++ [m, m])) (hb : ∀ x ∈ l, Byt x) (hw : Bs w vw l) (hn : l.length ≤ 281474976710000) :
  Calls Tryz.prog 20 #[.slice (some ⟨g, 0, none⟩) l.length (l.length + 2), vw, .int .u8 m] w fun e w' => e = .returned (.bool true) ∧ Gr w w' := by
 have hB : Bs w (.slice (some ⟨g, 0, none⟩) l.length (l.length + 2)) l := by
  have := Blk.bs_pre h hb (by simp; omega)
  simpa using this
 have HS : Hid (Calls Tryz.prog 19 #[.slice (some ⟨g, 0, none⟩) l.length (l.length + 2), vw] w fun e w' => e = .returned (.bool true) ∧ Gr w w') := Lib.hid ((same_any _ _ l l w hB hw).mono fun _ _ ⟨he, hg⟩ => ⟨by rw [he]; simp, hg⟩)
 have HM : Hid (∀ k, k < 2 → (l ++ [m, m]).getD (l.length + k) 0 = m ∧ l.length + k < (l ++ [m, m]).length) := Lib.hid (fun k hk => by
   rw [List.getD_eq_getElem?_getD, List.getElem?_append_right (by omega), Nat.add_sub_cancel_left]
   have : k = 0 ∨ k = 1 := by omega
   rcases this with rfl | rfl <;> simp)
 have H := Lib.hid h
 clear h hB hb hw
 generalize l ++ [m, m] = L at *
 generalize l.length = n at *
 go_enter Tryz.func20, Tryz.ntmps20
 go_wp2_with (go_at_call 19; refine HS.out.mono ?_; rintro e w' ⟨rfl, hg⟩; have G := Lib.hid hg; clear hg)
 go_loop [8] (fun i => ∃ k : Nat, k ≤ 2 ∧ i = .int .i64 ((n + k : Nat) : Int)) (fun i => n + 2 - (intOf i).toNat)
 case atStart => exact ⟨0, by omega, rfl⟩
 case round =>
  obtain ⟨k, hk, rfl⟩ := hrel
  by_cases hlt : k < 2
  ·have hc : w'.cell? ⟨g, n + k, none⟩ = some (.int .u8 m) := by
    rw [Blk.cell (Blk.grown H.out G.out) (n + k) (HM.out k hlt).2, (HM.out k hlt).1]
   go_wp2
   exact ⟨⟨k + 1, by omega, by go_num⟩, by simp [intOf]; omega⟩
  ·obtain rfl : k = 2 := by omega
   go_wp2
   go_ret
   exact ⟨rfl, G.out⟩
end Go.Proofs.YtbbglejdfbkjlaaGreat
namespace Go.Proofs.YtbbglejdfbkjlaaGreat
open Go.RowKit
def lst (n : Nat) (f : Nat → Int) : List Int := (List.range n).map f
theorem lst_length (n : Nat) (f : Nat → Int) : (lst n f).length = n := by simp [lst]
theorem lst_getD (n : Nat) (f : Nat → Int) (i : Nat) (h : i < n) : (lst n f).getD i 0 = f i := by simp [lst, h]
theorem lst_congr (n : Nat) (f f' : Nat → Int) (h : ∀ j, j < n → f j = f' j) : lst n f = lst n f' :=
 List.map_congr_left fun j hj => h j (List.mem_range.1 hj)
theorem lst_set (n : Nat) (f : Nat → Int) (k : Nat) (v : Int) : (lst n f).set k v = lst n (fun j => if j = k then v else f j) := by
 apply List.ext_getElem
 ·simp [lst]
 intro j h1 h2
 simp only [lst, List.getElem_set, List.getElem_map, List.getElem_range]
 by_cases e : k = j
 ·rw [if_pos e, if_pos e.symm]
 ·rw [if_neg e, if_neg (fun c => e c.symm)]
theorem lst_byt {n : Nat} {f : Nat → Int} (h : ∀ i, i < n → Byt (f i)) : ∀ x ∈ lst n f, Byt x := by
 intro x hx
 simp [lst] at hx
 obtain ⟨i, hi, rfl⟩ := hx
 exact h i hi
def part (f : Nat → Int) (k : Nat) : Nat → Int := fun j => if j < k then f j else 0
theorem part_set (n : Nat) (f : Nat → Int) (k : Nat) : (lst n (part f k)).set k (f k) = lst n (part f (k + 1)) := by
 rw [lst_set]
 apply lst_congr
 intro j _
 unfold part
 by_cases e : j = k
 ·rw [if_pos e, if_pos (by omega), e]
 ·by_cases h : j < k
  ·rw [if_neg e, if_pos h, if_pos (by omega)]
  ·rw [if_neg e, if_neg h, if_neg (by omega)]
theorem part_nil (n : Nat) (f : Nat → Int) : List.replicate n 0 = lst n (part f 0) := by
 apply List.ext_getElem
 ·simp [lst]
 intro j h1 h2
 simp [lst, part]
theorem part_all (n : Nat) (f : Nat → Int) : lst n (part f n) = lst n f := lst_congr n _ _ fun j h => by simp [part, h]
theorem far_of {w : World} {g k : Nat} {a : Addr} {v : Value} (hg : w.heap.size ≤ g) (h : w.cell? a = some v) : a ≠ ⟨g, k, none⟩ := by
 intro c
 subst c
 have := World.block_lt_of_cell? w _ h
 simp at this
 omega
theorem cell_set_far {W : World} {x y : Addr} {v u : Value} (h : W.cell? x = some u) (hne : x ≠ y) : (W.setCell y v).drew.cell? x = some u := by
 rw [World.cell?_drew, World.cell?_setCell_other _ _ _ _ hne.symm]
 exact h
def axpyL (c : Int) (a b : List Int) : Nat → Int := fun i => addZ (b.getD i 0) (mulZ c (a.getD i 0))
def Making (w : World) (g n : Nat) (f : Nat → Int) (k : Nat) (wr : World) : Prop := Gr w wr ∧ w.heap.size ≤ g ∧ Blk wr g (lst n (part f k))
theorem Making.store {w wr : World} {g n k : Nat} {f : Nat → Int} (h : Making w g n f k wr) : Making w g n f (k + 1) (wr.setCell ⟨g, k, none⟩ (.int .u8 (f k))) := by
 obtain ⟨h1, h2, h3⟩ := h
 refine ⟨Gr.setCell h1 h2 _, h2, ?_⟩
 unfold Blk at *
 rw [heap_setCell_same _ _ _ _ _ _ h3, rowB_set, part_set]
theorem Making.drew {w wr : World} {g n k : Nat} {f : Nat → Int} (h : Making w g n f k wr) : Making w g n f k wr.drew := ⟨Gr.drew h.1, h.2.1, h.2.2⟩
set_option maxHeartbeats 400000 in
theorem refAxpy_core (a b : Addr) (n ca cb : Nat) (c : Int) (x y : List Int) (w : World) (hx : ∀ i, Byt (x.getD i 0)) (hy : ∀ i, Byt (y.getD i 0)) (hc : Byt c) (hn : n ≤ 281474976710000)
  (hxc : ∀ i, i < n → w.cell? (a.add i) = some (.int .u8 (x.getD i 0))) (hyc : ∀ i, i < n → w.cell? (b.add i) = some (.int .u8 (y.getD i 0))) :
  Calls Tryz.prog 74 #[.int .u8 c, .slice (some a) n ca, .slice (some b) n cb] w fun e w' => ∃ g, e = .returned (.slice (some ⟨g, 0, none⟩) n n) ∧ w.heap.size ≤ g ∧ Blk w' g (lst n (axpyL c x y)) ∧ Gr w w' := by
 have HXB := Lib.hid hx
 have HYB := Lib.hid hy
 have HX := Lib.hid hxc
 have HY := Lib.hid hyc
 have hmk := make22 n n (by omega) (by omega)
 clear hx hy hxc hyc
 have HB : Hid (Making w w.heap.size n (axpyL c x y) 0 (w.alloc (.cells (rowB (List.replicate n 0)) 5))) :=
  Lib.hid ⟨Gr.alloc (Gr.refl _) _ _, Nat.le_refl _, by rw [← part_nil]; exact heap_alloc_new _ _⟩
 generalize rowB (List.replicate n 0) = cur at *
 go_enter Tryz.func74, Tryz.ntmps74
 go_wp2
 clear hmk
 generalize hW : w.alloc (.cells cur 5) = W at *
 generalize hG : w.heap.size = g at *
 go_loopw [14] (fun i wr => ∃ k : Nat, k ≤ n ∧ i = .int .i64 k ∧ Making w g n (axpyL c x y) k wr) (fun i _ => n - (intOf i).toNat)
 case atStart => exact ⟨0, by omega, rfl, HB.out⟩
 case round =>
  clear HB
  obtain ⟨k, hk, rfl, hm⟩ := hrel
  obtain ⟨hg, hge, hblk⟩ := hm
  by_cases hlt : k < n
  ·have q1 := cell_grown hg (HX.out k hlt)
   have q2 := cell_grown hg (HY.out k hlt)
   have q3 := Blk.cell hblk k (by rw [lst_length]; exact hlt)
   have q4 := frozen_of_row wr g k _ _ hblk
   have n1 : a.add k ≠ ⟨g, k, none⟩ := far_of hge (HX.out k hlt)
   have n2 : b.add k ≠ ⟨g, k, none⟩ := far_of hge (HY.out k hlt)
   have M0 : Hid (Making w g n (axpyL c x y) k wr) := Lib.hid ⟨hg, hge, hblk⟩
   have E : Hid (bits BinOp.xor IntKind.u8 (y.getD k 0) (mulZ c (x.getD k 0)) = axpyL c x y k) := Lib.hid (xorZ _ _ (HYB.out k) (mulZ_byt _ _))
   have hp := HXB.out k
   clear hg hge hblk
   generalize (lst n (part (axpyL c x y) k)).getD k 0 = old at *
   generalize x.getD k 0 = p at *
   generalize y.getD k 0 = q at *
   go_wp2
   go_region_held3 (fun W => W.cell? (a.add k) = some (.int .u8 p) ∧ W.cell? (b.add k) = some (.int .u8 q)) (first | exact ⟨cell_set_far q1 n1, cell_set_far q2 n2⟩ | go_keep)
    (first | (go_at_call 109; refine (refMul_any c p hc hp _).mono ?_; rintro e w' ⟨rfl, rfl⟩))
   rw [E.out]
   go_wp2
   exact ⟨⟨k + 1, by omega, by go_num, Making.drew (Making.store M0.out)⟩, by simp [intOf]; omega⟩
  ·obtain rfl : k = n := by omega
   rw [part_all] at hblk
   have G := Lib.hid hg
   have K := Lib.hid hblk
   clear hg hblk
   go_wp2
   go_ret
   exact ⟨g, rfl, hge, K.out, G.out⟩
set_option maxHeartbeats 400000 in
theorem refAxpy_none (oa ob : Option Addr) (ca cb : Nat) (c : Int) (w : World) :
  Calls Tryz.prog 74 #[.int .u8 c, .slice oa 0 ca, .slice ob 0 cb] w fun e w' => ∃ g, e = .returned (.slice (some ⟨g, 0, none⟩) 0 0) ∧ w.heap.size ≤ g ∧ Blk w' g [] ∧ Gr w w' := by
 have hmk : ∀ w, (Instr.makeSlice 25 (.int .i64 0) (.int .i64 0)).run Tryz.prog w = .ok (.slice (some ⟨w.heap.size, 0, none⟩) 0 0) (w.alloc (.cells (rowB []) 5)) := fun w => make22 0 0 (by omega) (by omega) w
 generalize hR : rowB [] = cur at *
 have R := Lib.hid hR
 clear hR
 go_enter Tryz.func74, Tryz.ntmps74
 go_wp2
 clear hmk
 go_loopw [14] (fun i wr => i = .int .i64 0 ∧ wr = w.alloc (.cells cur 5)) (fun _ _ => 0)
 case atStart => exact ⟨rfl, rfl⟩
 case round =>
  obtain ⟨rfl, rfl⟩ := hrel
  go_wp2
  go_ret
  exact ⟨_, rfl, Nat.le_refl _, by unfold Blk; rw [heap_alloc_new, R.out], Gr.alloc (Gr.refl _) _ _⟩
def Mine (w w' : World) (e : Ending) (l : List Int) : Prop := ∃ g, e = .returned (.slice (some ⟨g, 0, none⟩) l.length l.length) ∧ w.heap.size ≤ g ∧ Blk w' g l ∧ Gr w w'
theorem refAxpy_any (c : Int) (va vb : Value) (x y : List Int) (w : World) (hc : Byt c) (ha : Bs w va x) (hb : Bs w vb y) (hl : x.length = y.length) (hn : y.length ≤ 281474976710000) :
  Calls Tryz.prog 74 #[.int .u8 c, va, vb] w fun e w' => Mine w w' e (lst y.length (axpyL c x y)) := by
 unfold Mine
 rw [lst_length]
 have hx := Bs.byt ha
 have hy := Bs.byt hb
 by_cases h0 : 0 < y.length
 ·obtain ⟨a, ca, rfl, h1, _, h3⟩ := Bs.at ha (by omega)
  obtain ⟨b, cb, rfl, h4, _, h6⟩ := Bs.at hb h0
  rw [hl] at h1 h3 ⊢
  exact refAxpy_core a b y.length ca cb c x y w hx hy hc hn h3 h6
 ·obtain rfl : y = [] := List.eq_nil_of_length_eq_zero (by omega)
  obtain rfl : x = [] := List.eq_nil_of_length_eq_zero hl
  obtain ⟨_, oa, ca, rfl, _, _, _, _⟩ := ha
  obtain ⟨_, ob, cb, rfl, _, _, _, _⟩ := hb
  exact refAxpy_none oa ob ca cb c w
end Go.Proofs.YtbbglejdfbkjlaaGreat
