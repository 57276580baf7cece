/-
  The document's own degrees: the degree of a number, what is drawn, the table.
-/
import Derived.Test.YtcbmgdkopgepdaaZp
import Derived.Test.YtcbmgdkopgepdaaTb
import Derived.Deep.AppendLies
import Derived.Deep.DeepCutAuto
namespace Go.Proofs.Ytcbmgdkopgepdaa
open Go.RowKit

/-- The document's own Draw lies nowhere in a slice of ints. -/
theorem Zs.kept {w w' : World} {v : Value} {l : List Int} {g s : Nat} (h : Zs w v l) (hr : RAt w g s) (hk : Kp (fun k => k = g) w w') : Zs w' v l := by
  obtain ⟨h0, oa, c, h1, h2, h3, h4, h5⟩ := h
  have key : ∀ (ad : Addr) (z : Int), w.cell? ad = some (.int .i64 z) → ad.block ≠ g := by
    rintro ⟨b, o, sp⟩ z q e
    have e' : b = g := e
    subst e'
    have hsp : sp = none := by simpa using World.cell?_spot q
    subst hsp
    unfold RAt at hr
    rw [cell_of_row w _ o _ _ _ hr] at q
    cases o with
    | zero => simp at q
    | succ o => simp at q
  exact ⟨h0, oa, c, h1, h2, h3, h4, fun a ha i hi => hk.cell (h5 a ha i hi) (key _ _ (h5 a ha i hi))⟩
def lastZ' (t : List Int) : Int := t.getD (t.length - 1) 0
def drawV (t : List Int) (s : Nat) : Int := if t = [] then 0 else T.deg t (belowV s (lastZ' t))
def drawS (t : List Int) (s : Nat) : Nat := if t = [] then s else belowS s (lastZ' t)
theorem owns_zs {base n : Nat} {w : World} {v : Value} {l : List Int} (ho : w.ownsRow base 3 1 v n (l.map (Value.int .i64))) (hl : l.length = n) (hr : ∀ x ∈ l, I64 x) : Zs w v l := by
  obtain ⟨h0, ⟨rfl, rfl⟩ | ⟨g, c, cur, rfl, hb, hg, h1, h2, h3, h4⟩⟩ := ho
  · obtain rfl : l = [] := List.eq_nil_of_length_eq_zero hl
    exact Zs.nil w
  · unfold maxLen at h2
    refine ⟨hr, some ⟨g, 0, none⟩, c, by rw [hl], by omega, h2, (fun h => by cases h), fun a ha i hi => ?_⟩
    cases ha
    rw [Addr.add_mid, Nat.zero_add, cell_of_row w g i _ _ _ hg]
    have hi2 : i < cur.toList.length := by simp; omega
    have e : (cur.toList.take (n * 1))[i]? = some (.int .i64 (l.getD i 0)) := by
      rw [h4, List.getElem?_map, List.getElem?_eq_getElem hi, List.getD_eq_getElem?_getD, List.getElem?_eq_getElem hi]
      rfl
    rw [List.getElem?_take_of_lt (by omega)] at e
    simpa using e
/-- The first j numbers of the table as values. -/
def tabV (N j : Nat) : List Int := (List.range j).map fun i => ((T.sum N (i + 1) : Nat) : Int)
theorem tabV_succ (N j : Nat) : tabV N (j + 1) = tabV N j ++ [((T.sum N j : Nat) : Int) + (T.weight N (j + 1) : Nat)] := by
  unfold tabV
  rw [List.range_succ, List.map_append]
  rfl
end Go.Proofs.Ytcbmgdkopgepdaa
