/-
  What package row is to do, as contracts; the document's example of it.
-/
import Derived.Test.YtpckdjapkngpgaaDoorRw
namespace Go.Proofs.YtpckdjapkngpgaaDoor
open Go.RowKit

/-- v is new memory since w (or has no elements), and reads as l in w'. -/
def New (w w' : World) (v : Value) (l : List Int) : Prop :=
  Gr w w' ∧ (∀ x ∈ l, Byt x) ∧ ((l = [] ∧ ∃ oa c, v = .slice oa 0 c ∧ (oa = none → c = 0) ∧ c ≤ 9223372036854775807) ∨
    ∃ g c cur, v = .slice (some ⟨g, 0, none⟩) l.length c ∧ w.heap.size ≤ g ∧ w'.heap[g]? = some (.cells cur 5 (0, 0)) ∧ l.length ≤ c ∧ c ≤ 9223372036854775807 ∧ ∀ i, i < l.length → cur[i]? = some (.int .u8 (l.getD i 0)))
theorem New.bs {w w' : World} {v : Value} {l : List Int} (h : New w w' v l) : Bs w' v l := by
  obtain ⟨_, hb, h | h⟩ := h
  · obtain ⟨rfl, oa, c, rfl, h1, h2⟩ := h
    exact ⟨by simp, oa, c, rfl, by simp, h2, h1, fun a _ i hi => by simp at hi⟩
  · obtain ⟨g, c, cur, rfl, _, h2, h3, h4, h5⟩ := h
    exact ⟨hb, some ⟨g, 0, none⟩, c, rfl, h3, h4, (fun h => by cases h), fun a ha i hi => by
      cases ha
      rw [Addr.add_mid, Nat.zero_add, cell_of_row w' g i _ _ _ h2, h5 i hi]⟩
theorem New.grown {w w' : World} {v : Value} {l : List Int} (h : New w w' v l) : Gr w w' := h.1

def sumL (x y : List Int) : List Int := lst x.length fun i => addZ (x.getD i 0) (y.getD i 0)
def scaleL (c : Int) (x : List Int) : List Int := lst x.length fun i => mulZ c (x.getD i 0)
def axL (c : Int) (x y : List Int) : List Int := lst x.length fun i => addZ (y.getD i 0) (mulZ c (x.getD i 0))
def unitL (n at' : Nat) : List Int := lst n fun i => if i = at' then 1 else 0
theorem sumL_length (x y : List Int) : (sumL x y).length = x.length := lst_length _ _
theorem scaleL_length (c : Int) (x : List Int) : (scaleL c x).length = x.length := lst_length _ _
theorem axL_length (c : Int) (x y : List Int) : (axL c x y).length = x.length := lst_length _ _

/-- The contracts of package row. -/
structure RowOk : Prop where
/-- All of these read so. -/
def Al (w : World) (L : List (Value × List Int)) : Prop := ∀ p ∈ L, Bs w p.1 p.2
theorem Al.grown {w w' : World} {L : List (Value × List Int)} (h : Al w L) (hg : Gr w w') : Al w' L := fun p hp => Bs.grown (h p hp) hg
theorem Al.cons {w : World} {L : List (Value × List Int)} {v : Value} {l : List Int} (h : Bs w v l) (hL : Al w L) : Al w ((v, l) :: L) := fun p hp => by
  rcases List.mem_cons.1 hp with rfl | hp
  · exact h
  · exact hL p hp

theorem lit_bs1 {w : World} (l : List Int) (hb : ∀ x ∈ l, Byt x) (hn : l.length ≤ 1000) : Bs (w.alloc (.cells (rowB l) 5)) (.slice (some ⟨w.heap.size, 0, none⟩) l.length l.length) l :=
  Blk.bs (L := l) (heap_alloc_new _ _) l _ (Nat.le_refl _) (Nat.le_refl _) (by omega) hb fun _ _ => rfl
theorem lit_bs {w : World} (l m : List Int) (hb : ∀ x ∈ l, Byt x) (hn : l.length ≤ 1000) : Bs ((w.alloc (.cells (rowB l) 5)).alloc (.cells (rowB m) 5)) (.slice (some ⟨w.heap.size, 0, none⟩) l.length l.length) l :=
  Blk.bs (L := l) (heap_alloc2_old _ _ _) l _ (Nat.le_refl _) (Nat.le_refl _) (by omega) hb fun _ _ => rfl
theorem lit_bs2 {w : World} (l m : List Int) (hb : ∀ x ∈ m, Byt x) (hn : m.length ≤ 1000) : Bs ((w.alloc (.cells (rowB l) 5)).alloc (.cells (rowB m) 5)) (.slice (some ⟨w.heap.size + 1, 0, none⟩) m.length m.length) m :=
  Blk.bs (L := m) (heap_alloc2_new _ _ _) m _ (Nat.le_refl _) (Nat.le_refl _) (by omega) hb fun _ _ => rfl
end Go.Proofs.YtpckdjapkngpgaaDoor
