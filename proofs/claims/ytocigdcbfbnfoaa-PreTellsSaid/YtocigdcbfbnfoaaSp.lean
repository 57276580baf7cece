/-
  Slices of bytes in new memory: the verifier's copies.
-/
import Derived.Test.YtocigdcbfbnfoaaSl
import Derived.Laws.CopyOwn
namespace Go.Proofs.Ytocigdcbfbnfoaa
open Go.RowKit

/-- A block's cells that are the bytes of a list. -/
def rowB (L : List Int) : Array Value := (L.map (Value.int .u8)).toArray
theorem rowB_size (L : List Int) : (rowB L).size = L.length := by simp [rowB]
theorem rowB_get (L : List Int) (i : Nat) (h : i < L.length) : (rowB L)[i]? = some (.int .u8 (L.getD i 0)) := by
  simp [rowB, h]
theorem rowB_set (L : List Int) (i : Nat) (x : Int) : (rowB L).setIfInBounds i (.int .u8 x) = rowB (L.set i x) := by
  simp [rowB, List.map_set]
theorem rowB_one (L : List Int) : (rowB L).all (·.oneCell') = true := by
  rw [Array.all_eq_true_iff_forall_mem]
  intro v hv
  simp [rowB] at hv
  obtain ⟨j, _, rfl⟩ := hv
  rfl
theorem rowB_made (n : Nat) : madeCells #[.int .u8 0] n = rowB (List.replicate n 0) := by
  apply Array.ext'
  rw [toList_madeCells_one]
  simp [rowB]
/-- Block g is whole, of bytes L. -/
def Blk (w : World) (g : Nat) (L : List Int) : Prop := w.heap[g]? = some (.cells (rowB L) 5 (0, 0))
theorem Blk.grown {w w' : World} {g : Nat} {L : List Int} (h : Blk w g L) (hg : Gr w w') : Blk w' g L := keptRow hg h
theorem Blk.cell {w : World} {g : Nat} {L : List Int} (h : Blk w g L) (i : Nat) (hi : i < L.length) : w.cell? ⟨g, i, none⟩ = some (.int .u8 (L.getD i 0)) := by
  rw [cell_of_row w g i _ _ _ h, rowB_get L i hi]
theorem Blk.bs {w : World} {g : Nat} {L : List Int} (h : Blk w g L) (l : List Int) (c : Nat) (hl : l.length ≤ L.length) (hlc : l.length ≤ c) (hc : c ≤ 9223372036854775807) (hb : ∀ x ∈ l, Byt x) (he : ∀ i, i < l.length → L.getD i 0 = l.getD i 0) :
    Bs w (.slice (some ⟨g, 0, none⟩) l.length c) l :=
  ⟨hb, some ⟨g, 0, none⟩, c, rfl, hlc, hc, (fun h => by cases h), fun a ha i hi => by
    cases ha
    rw [Addr.add_mid, Nat.zero_add, Blk.cell h i (by omega), he i hi]⟩
theorem info5 : (Try.prog.info? 5).map (fun i => (i.zero, i.size, i.bytes)) = some (some (.int .u8 0), 1, 1) := by kernel_rfl
theorem make22 (l c : Nat) (h : l ≤ c) (hc : c ≤ 281474976710656) (w : World) :
    (Instr.makeSlice 33 (.int .i64 (l : Int)) (.int .i64 (c : Int))).run Try.prog w = .ok (.slice (some ⟨w.heap.size, 0, none⟩) l c) (w.alloc (.cells (rowB (List.replicate c 0)) 5)) := by
  obtain ⟨i, hi, hzz⟩ := Option.map_eq_some_iff.1 info5
  simp only [Prod.mk.injEq] at hzz
  obtain ⟨hz, hs, hb⟩ := hzz
  have hr := run_make (P := Try.prog) w 33 5 i _ Try.underlying33 hi hz .i64 .i64 l c (by omega) (by omega) (by rw [hb]; omega) (by omega)
  rw [Int.toNat_natCast, Int.toNat_natCast, hs, Nat.mul_one] at hr
  rw [hr, ← rowB_made]
  rfl

/-- What stands in the two places behind, when k of them are set. -/
def marks (m : Int) : Nat → List Int
  | 0 => [0, 0]
  | 1 => [m, 0]
  | _ => [m, m]
theorem marks_length (m : Int) (k : Nat) : (marks m k).length = 2 := by
  unfold marks
  split <;> rfl
theorem marks_set (l : List Int) (n : Nat) (m : Int) (k : Nat) (hn : l.length = n) (h : k < 2) : (l ++ marks m k).set (n + k) m = l ++ marks m (k + 1) := by
  subst hn
  rw [List.set_append, if_neg (by omega), Nat.add_sub_cancel_left]
  have : k = 0 ∨ k = 1 := by omega
  rcases this with rfl | rfl <;> rfl
def spW (w : World) (L : List Int) : World := w.alloc (.cells (rowB L) 5)
theorem Blk.bs_pre {w : World} {g : Nat} {l r : List Int} (h : Blk w g (l ++ r)) (hb : ∀ x ∈ l, Byt x) (hn : (l ++ r).length ≤ 9223372036854775807) : Bs w (.slice (some ⟨g, 0, none⟩) l.length (l ++ r).length) l :=
  Blk.bs h l _ (by simp) (by simp) hn hb (fun i hi => by
    rw [List.getD_eq_getElem?_getD, List.getD_eq_getElem?_getD, List.getElem?_append_left hi])
end Go.Proofs.Ytocigdcbfbnfoaa
