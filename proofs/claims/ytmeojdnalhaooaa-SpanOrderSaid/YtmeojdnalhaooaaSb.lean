/-
  Package span as it was written: how a Span lies in memory.
-/
import Derived.Test.YtmeojdnalhaooaaBc
import Derived.Test.YtmeojdnalhaooaaSq
import Derived.Test.YtmeojdnalhaooaaRo
namespace Go.Proofs.Ytmeojdnalhaooaa
open Go.RowKit

theorem run_neq_slice_nil {P : Program} (w : World) (t e : TypeId) (a : Option Addr) (n c n' c' : Nat) (h : P.underlying t = some (.slice e)) :
    (binOp .neq t (.slice a n c) (.slice none n' c')).run P w = .ok (.bool (!a.isNone)) w := by
  simp only [binOp]
  simp [Op.equal, Op.maxDepth, Lib.run_equalIn_slice_nil w 9999 t e a n c n' c' h]
/-- A place: none, or a row of n bytes. -/
def Plc (w : World) (n : Nat) (u : Value) (l : List Int) : Prop :=
  (u = .slice none 0 0 ∧ l = []) ∨ ∃ g c, u = .slice (some ⟨g, 0, none⟩) n c ∧ 0 < n ∧ l.length = n ∧ Bs w u l ∧ ∃ cur, w.heap[g]? = some (.cells cur 5 (0, 0))
theorem Plc.grown {w w' : World} {n : Nat} {u : Value} {l : List Int} (h : Plc w n u l) (hg : Gr w w') : Plc w' n u l := by
  rcases h with h | ⟨g, c, rfl, h0, hl, hb, cur, hc⟩
  · exact .inl h
  · exact .inr ⟨g, c, rfl, h0, hl, Bs.grown hb hg, cur, keptRow hg hc⟩
theorem Plc.of_new {w w' : World} {n : Nat} {u : Value} {l : List Int} (h : New w w' u l) (hl : l.length = n) (h0 : 0 < n) : Plc w' n u l := by
  have hb := New.bs h
  obtain ⟨_, _, ⟨rfl, _⟩ | ⟨g, c, cur, rfl, _, h2, _⟩⟩ := h
  · simp at hl
    omega
  · exact .inr ⟨g, c, by rw [hl], h0, hl, hb, cur, h2⟩
/-- The cells of a Span. -/
def spanCells (h n : Nat) : Array Value := (tab 255 M.exN ++ tab 256 M.lgN).push (.slice (some ⟨h, 0, none⟩) n n)
/-- A Span lies in block b, its places (us, of which the rows are Ls) in block h. -/
structure Sb (w : World) (b h n : Nat) (us : List Value) (Ls : List (List Int)) : Prop where
  blk : w.heap[b]? = some (.cells (spanCells h n) 59 (0, 0))
  row : ∃ cur, w.heap[h]? = some (.cells cur 23 (0, 0)) ∧ cur.toList = us
  len : us.length = n
  plc : ∀ i, i < n → Plc w n (us.getD i undef) (Ls.getD i [])
section
variable {w w' : World} {b h n : Nat} {us : List Value} {Ls : List (List Int)}
theorem Sb.field (H : Sb w b h n us Ls) : FieldAt w b := fun j v hv => by
  have hj := (List.getElem?_eq_some_iff.1 hv).1
  rw [Array.length_toList] at hj
  rw [Array.getElem?_toList] at hv
  rw [cell_of_row w b _ _ _ _ H.blk]
  unfold spanCells
  rw [Nat.zero_add, Array.getElem?_push, if_neg (by omega)]
  exact hv
theorem Sb.begun (H : Sb w b h n us Ls) : w.cell? ⟨b, 511, none⟩ = some (.slice (some ⟨h, 0, none⟩) n n) := by
  rw [cell_of_row w b _ _ _ _ H.blk]
  unfold spanCells
  rw [Array.getElem?_push, if_pos (by simp [tab_size])]
theorem Sb.cell (H : Sb w b h n us Ls) (i : Nat) (hi : i < n) : w.cell? ⟨h, i, none⟩ = some (us.getD i undef) := by
  obtain ⟨cur, h1, h2⟩ := H.row
  rw [cell_of_row w h _ _ _ _ h1, ← Array.getElem?_toList, h2, List.getD_eq_getElem?_getD, List.getElem?_eq_getElem (by rw [H.len]; exact hi)]
  rfl
theorem Sb.frozen (H : Sb w b h n us Ls) (i : Nat) : w.frozen? ⟨h, i, none⟩ = false := by
  obtain ⟨cur, h1, h2⟩ := H.row
  exact frozen_of_row w h i _ _ h1
theorem Sb.ne (H : Sb w b h n us Ls) : b ≠ h := by
  intro e
  obtain ⟨cur, h1, _⟩ := H.row
  have := H.blk
  rw [e, h1] at this
  simp at this
theorem Sb.grown (H : Sb w b h n us Ls) (hg : Gr w w') : Sb w' b h n us Ls := by
  obtain ⟨cur, h1, h2⟩ := H.row
  exact ⟨keptRow hg H.blk, ⟨cur, keptRow hg h1, h2⟩, H.len, fun i hi => (H.plc i hi).grown hg⟩
theorem Sb.plcPut (H : Sb w b h n us Ls) (j : Nat) (u : Value) {v : Value} {k : List Int} (hv : Plc w n v k) : Plc (w.setCell ⟨h, j, none⟩ u) n v k := by
  obtain ⟨cur, h1, h2⟩ := H.row
  have far : ∀ {g : Nat} {c : Array Value}, w.heap[g]? = some (.cells c 5 (0, 0)) → g ≠ h := fun hc e => by
    rw [e, h1] at hc
    simp at hc
  rcases hv with hv | ⟨g, c, rfl, q0, ql, qb, cc, qc⟩
  · exact .inl hv
  · refine .inr ⟨g, c, rfl, q0, ql, ?_, cc, by rw [heap_setCell_other _ _ _ _ (far qc)]; exact qc⟩
    exact Bs.kp qb (Kp.set w h j u) fun a m c' e _ e2 => by
      cases e
      exact far qc e2
/-- A row is put into a place. -/
theorem Sb.put (H : Sb w b h n us Ls) (hL : Ls.length = n) {j : Nat} (hj : j < n) {u : Value} {l : List Int} (hp : Plc w n u l) : Sb (w.setCell ⟨h, j, none⟩ u) b h n (us.set j u) (Ls.set j l) := by
  obtain ⟨cur, h1, h2⟩ := H.row
  refine ⟨?_, ⟨cur.setIfInBounds j u, ?_, ?_⟩, by rw [List.length_set]; exact H.len, fun i hi => ?_⟩
  · rw [heap_setCell_other _ _ _ _ H.ne]
    exact H.blk
  · exact heap_setCell_same _ _ _ _ _ _ h1
  · rw [Array.toList_setIfInBounds, h2]
  · by_cases e : i = j
    · subst e
      have e1 : (us.set i u).getD i undef = u := by rw [List.getD_eq_getElem?_getD, List.getElem?_set_self (by rw [H.len]; exact hi)]; rfl
      rw [e1, getD_set_self _ _ _ (by rw [hL]; exact hi)]
      exact H.plcPut _ _ hp
    · have e1 : (us.set j u).getD i undef = us.getD i undef := by rw [List.getD_eq_getElem?_getD, List.getElem?_set_ne (fun c => e c.symm), ← List.getD_eq_getElem?_getD]
      rw [e1, getD_set_ne _ _ _ _ (fun c => e c.symm)]
      exact H.plcPut _ _ (H.plc i hi)
end
/-- The blocks of a Span. -/
def Fo (b h : Nat) (us : List Value) (k : Nat) : Prop := k = b ∨ k = h ∨ ∃ u ∈ us, blkOf u = some k
/-- How a Span lies in memory. -/
def SAt (w : World) (_ s : Value) (F : Nat → Prop) (n : Nat) (A : List (List Int)) : Prop :=
  ∃ b h us Ls, s = .pointer (some ⟨b, 0, none⟩) ∧ Sb w b h n us Ls ∧ Bg n Ls A ∧ n ≤ 64 ∧ F = Fo b h us
theorem SAt.ptr {w : World} {f s : Value} {F : Nat → Prop} {n : Nat} {A : List (List Int)} (H : SAt w f s F n A) : ∃ a, s = .pointer (some a) := by
  obtain ⟨b, _, _, _, rfl, _⟩ := H
  exact ⟨_, rfl⟩
theorem SAt.lt {w : World} {f s : Value} {F : Nat → Prop} {n : Nat} {A : List (List Int)} (H : SAt w f s F n A) : ∀ k, F k → k < w.heap.size := by
  obtain ⟨b, h, us, Ls, _, hs, _, _, rfl⟩ := H
  obtain ⟨cur, h1, h2⟩ := hs.row
  rintro k (rfl | rfl | ⟨u, hu, hk⟩)
  · exact (Array.getElem?_eq_some_iff.1 hs.blk).1
  · exact (Array.getElem?_eq_some_iff.1 h1).1
  · obtain ⟨i, hi, rfl⟩ := List.getElem_of_mem hu
    have hp := hs.plc i (by rw [← hs.len]; exact hi)
    have e : us.getD i undef = us[i] := by rw [List.getD_eq_getElem?_getD, List.getElem?_eq_getElem hi]; rfl
    rw [e] at hp
    rcases hp with ⟨hp, _⟩ | ⟨g, c, hp, _, _, _, cc, hc⟩
    · rw [hp] at hk
      cases hk
    · rw [hp] at hk
      cases hk
      exact (Array.getElem?_eq_some_iff.1 hc).1
theorem SAt.keep {w w' : World} {f s : Value} {F G : Nat → Prop} {n : Nat} {A : List (List Int)} (H : SAt w f s F n A) (hk : Kp G w w') (_ : IsF w' f) (hd : ∀ k, F k → ¬ G k) : SAt w' f s F n A := by
  obtain ⟨b, h, us, Ls, rfl, hs, hB, hn, rfl⟩ := H
  obtain ⟨cur, h1, h2⟩ := hs.row
  refine ⟨b, h, us, Ls, rfl, ⟨hk.block hs.blk (hd b (.inl rfl)), ⟨cur, hk.block h1 (hd h (.inr (.inl rfl))), h2⟩, hs.len, fun i hi => ?_⟩, hB, hn, rfl⟩
  have hm : us.getD i undef ∈ us := by
    rw [List.getD_eq_getElem?_getD, List.getElem?_eq_getElem (by rw [hs.len]; exact hi)]
    exact List.getElem_mem _
  rcases hs.plc i hi with hp | ⟨g, c, he, q0, ql, qb, cc, hc⟩
  · exact .inl hp
  · have hG : ¬ G g := hd g (.inr (.inr ⟨_, hm, by rw [he]; rfl⟩))
    refine .inr ⟨g, c, he, q0, ql, Bs.kp qb hk fun a m c' e _ e2 => ?_, cc, hk.block hc hG⟩
    rw [he] at e
    cases e
    exact hG e2
end Go.Proofs.Ytmeojdnalhaooaa
