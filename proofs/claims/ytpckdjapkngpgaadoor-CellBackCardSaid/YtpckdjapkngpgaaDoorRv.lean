/-
  The document's own answers on rows of bytes.
-/
import Derived.Test.YtpckdjapkngpgaaDoorSp
import Derived.Deep.RegionHeld3
namespace Go.Proofs.YtpckdjapkngpgaaDoor
open Go.RowKit

/-- A list by its places. -/
def lst (n : Nat) (f : Nat → Int) : List Int := (List.range n).map f
theorem lst_length (n : Nat) (f : Nat → Int) : (lst n f).length = n := by simp [lst]
theorem lst_getD (n : Nat) (f : Nat → Int) (i : Nat) (h : i < n) : (lst n f).getD i 0 = f i := by simp [lst, h]
theorem lst_congr (n : Nat) (f f' : Nat → Int) (h : ∀ j, j < n → f j = f' j) : lst n f = lst n f' :=
  List.map_congr_left fun j hj => h j (List.mem_range.1 hj)
theorem lst_set (n : Nat) (f : Nat → Int) (k : Nat) (v : Int) : (lst n f).set k v = lst n (fun j => if j = k then v else f j) := by
  apply List.ext_getElem
  · simp [lst]
  intro j h1 h2
  simp only [lst, List.getElem_set, List.getElem_map, List.getElem_range]
  by_cases e : k = j
  · rw [if_pos e, if_pos e.symm]
  · rw [if_neg e, if_neg (fun c => e c.symm)]
theorem lst_self (l : List Int) : lst l.length (fun i => l.getD i 0) = l := by
  apply List.ext_getElem
  · simp [lst]
  intro j h1 h2
  simp [lst, h2]
theorem lst_byt {n : Nat} {f : Nat → Int} (h : ∀ i, i < n → Byt (f i)) : ∀ x ∈ lst n f, Byt x := by
  intro x hx
  simp [lst] at hx
  obtain ⟨i, hi, rfl⟩ := hx
  exact h i hi
/-- The first k places are made, the others are 0. -/
def part (f : Nat → Int) (k : Nat) : Nat → Int := fun j => if j < k then f j else 0
theorem part_set (n : Nat) (f : Nat → Int) (k : Nat) : (lst n (part f k)).set k (f k) = lst n (part f (k + 1)) := by
  rw [lst_set]
  apply lst_congr
  intro j _
  unfold part
  by_cases e : j = k
  · rw [if_pos e, if_pos (by omega), e]
  · by_cases h : j < k
    · rw [if_neg e, if_pos h, if_pos (by omega)]
    · rw [if_neg e, if_neg h, if_neg (by omega)]
theorem part_nil (n : Nat) (f : Nat → Int) : List.replicate n 0 = lst n (part f 0) := by
  apply List.ext_getElem
  · simp [lst]
  intro j h1 h2
  simp [lst, part]
theorem part_all (n : Nat) (f : Nat → Int) : lst n (part f n) = lst n f := lst_congr n _ _ fun j h => by simp [part, h]

theorem far_of {w : World} {g k : Nat} {a : Addr} {v : Value} (hg : w.heap.size ≤ g) (h : w.cell? a = some v) : a ≠ ⟨g, k, none⟩ := by
  intro c
  subst c
  have := World.block_lt_of_cell? w _ h
  simp at this
  omega
theorem cell_set_far {W : World} {x y : Addr} {v u : Value} (h : W.cell? x = some u) (hne : x ≠ y) : (W.setCell y v).drew.cell? x = some u := by
  rw [World.cell?_drew, World.cell?_setCell_other _ _ _ _ hne.symm]
  exact h
/-- c times a, plus b, place by place. -/
def axpyL (c : Int) (a b : List Int) : Nat → Int := fun i => addZ (b.getD i 0) (mulZ c (a.getD i 0))
/-- In wr there stands in block g what k rounds have made; only new memory was written since w. -/
def Making (w : World) (g n : Nat) (f : Nat → Int) (k : Nat) (wr : World) : Prop := Gr w wr ∧ w.heap.size ≤ g ∧ Blk wr g (lst n (part f k))
theorem Making.store {w wr : World} {g n k : Nat} {f : Nat → Int} (h : Making w g n f k wr) : Making w g n f (k + 1) (wr.setCell ⟨g, k, none⟩ (.int .u8 (f k))) := by
  obtain ⟨h1, h2, h3⟩ := h
  refine ⟨Gr.setCell h1 h2 _, h2, ?_⟩
  unfold Blk at *
  rw [heap_setCell_same _ _ _ _ _ _ h3, rowB_set, part_set]

theorem Making.drew {w wr : World} {g n k : Nat} {f : Nat → Int} (h : Making w g n f k wr) : Making w g n f k wr.drew := ⟨Gr.drew h.1, h.2.1, h.2.2⟩
/-- What a call hands back as a row of its own: a slice of a new block that holds just l. -/
def Mine (w w' : World) (e : Ending) (l : List Int) : Prop := ∃ g, e = .returned (.slice (some ⟨g, 0, none⟩) l.length l.length) ∧ w.heap.size ≤ g ∧ Blk w' g l ∧ Gr w w'
end Go.Proofs.YtpckdjapkngpgaaDoor
