/-
  The verifier's rows of one length, out of bytes.
-/
import Derived.Test.YtpckdjapkngpgaaDoorSo
namespace Go.Proofs.YtpckdjapkngpgaaDoor
open Go.RowKit

/-- The first k rows of n bytes each. -/
def chunk (n : Nat) (l : List Int) (k : Nat) : List (List Int) := (List.range k).map fun i => (l.drop (n * i)).take n
theorem chunk_length (n : Nat) (l : List Int) (k : Nat) : (chunk n l k).length = k := by simp [chunk]
theorem chunk_succ (n : Nat) (l : List Int) (k : Nat) : chunk n l (k + 1) = chunk n l k ++ [(l.drop (n * k)).take n] := by
  simp [chunk, List.range_succ]
/-- How many rows there are. -/
def evenN (n : Nat) (l : List Int) : Nat := min 14 (l.length / n)
def evenL (n : Nat) (l : List Int) : List (List Int) := chunk n l (evenN n l)
theorem Bs.drop {w : World} {a : Addr} {m cap : Nat} {t : List Int} (h : Bs w (.slice (some a) m cap) t) (hm : t.length = m) (n : Nat) (hn : n ≤ m) :
    Bs w (.slice (if cap = n then some a else some (a.add n)) (m - n) (cap - n)) (t.drop n) := by
  have := Bs.slice h hm n m hn (Nat.le_refl _)
  rwa [List.take_of_length_le (by simp; omega)] at this
theorem Bs.head {w : World} {a : Addr} {m cap : Nat} {t : List Int} (h : Bs w (.slice (some a) m cap) t) (hm : t.length = m) (n : Nat) (hn : n ≤ m) :
    Bs w (.slice (some a) n n) (t.take n) := by
  obtain ⟨hb, oa, c, he, h3, h4, h5, h6⟩ := h
  cases he
  have hlen : (t.take n).length = n := by rw [List.length_take]; omega
  refine ⟨fun x hx => hb x (List.mem_of_mem_take hx), some a, n, by rw [hlen], by omega, by omega, (fun h => by cases h), fun a' ha i hi => ?_⟩
  cases ha
  rw [hlen] at hi
  rw [h6 a rfl i (by omega), List.getD_eq_getElem?_getD, List.getD_eq_getElem?_getD, List.getElem?_take_of_lt hi]
theorem Bs.low {w : World} {a : Addr} {n c : Nat} {l : List Int} (h : Bs w (.slice (some a) n c) l) (hn : 0 < n) : a.block < w.heap.size := by
  obtain ⟨_, oa, c', he, _, _, _, h6⟩ := h
  obtain ⟨rfl, rfl, _⟩ : some a = oa ∧ n = l.length ∧ c = c' := by simpa using he
  have := World.block_lt_of_cell? w _ (h6 a rfl 0 hn)
  have hbl : (a.add 0).block = a.block := by unfold Addr.add; split <;> rfl
  rwa [hbl] at this
theorem ownsRow_form {w : World} {base : Nat} {e : TypeId} {v : Value} {n : Nat} {us : List Value} (h : w.ownsRow base e 1 v n us) : ∃ oa c, v = .slice oa n c := by
  obtain ⟨_, ⟨rfl, rfl⟩ | ⟨g, c, cur, rfl, _⟩⟩ := h
  · exact ⟨_, _, rfl⟩
  · exact ⟨_, _, rfl⟩
theorem Bs.form {w : World} {v : Value} {l : List Int} (h : Bs w v l) : ∃ oa c, v = .slice oa l.length c := by
  obtain ⟨_, oa, c, h, _⟩ := h
  exact ⟨oa, c, h⟩
def lenOf : Value → Nat
  | .slice _ n _ => n
  | _ => 0
end Go.Proofs.YtpckdjapkngpgaaDoor
