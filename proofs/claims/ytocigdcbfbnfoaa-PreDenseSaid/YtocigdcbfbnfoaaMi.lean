/-
  Package mat as it was written: Solve; package mat keeps its contracts.
-/
import Derived.Test.YtocigdcbfbnfoaaMh
import Derived.Test.YtocigdcbfbnfoaaLso
namespace Go.Proofs.Ytocigdcbfbnfoaa
open Go.RowKit

theorem vec_app_lt {a b : List Int} {j : Nat} (h : j < a.length) : vec (a ++ b) j = vec a j := by
  show fb ((a ++ b).getD j 0) = fb (a.getD j 0)
  rw [List.getD_eq_getElem?_getD, List.getElem?_append_left h, ← List.getD_eq_getElem?_getD]
theorem vec_app_ge {a b : List Int} (j : Nat) : vec (a ++ b) (a.length + j) = vec b j := by
  show fb ((a ++ b).getD (a.length + j) 0) = fb (b.getD j 0)
  rw [List.getD_eq_getElem?_getD, List.getElem?_append_right (by omega), Nat.add_sub_cancel_left, ← List.getD_eq_getElem?_getD]
theorem vec_drop (l : List Int) (k : Nat) : vec (l.drop k) = L.shV k (vec l) := by
  funext j
  show fb ((l.drop k).getD j 0) = fb (l.getD (k + j) 0)
  rw [List.getD_eq_getElem?_getD, List.getElem?_drop, ← List.getD_eq_getElem?_getD]
/-- Rows of A, each followed by the row of B with the same index. -/
structure Side (k m n : Nat) (A B J : List (List Int)) : Prop where
  wa : Wide k A
  wb : Wide m B
  la : A.length = n
  lb : B.length = n
  lj : J.length = n
  is : ∀ i, i < n → J.getD i [] = A.getD i [] ++ B.getD i []
section
variable {k m n : Nat} {A B J : List (List Int)}
theorem Side.wide (h : Side k m n A B J) : Wide (k + m) J := by
  intro r hr
  obtain ⟨i, hi, rfl⟩ := List.getElem_of_mem hr
  have e := h.is i (by rw [← h.lj]; exact hi)
  rw [List.getD_eq_getElem?_getD, List.getElem?_eq_getElem hi] at e
  have h1 := h.wa.at i (by rw [h.la, ← h.lj]; exact hi)
  have h2 := h.wb.at i (by rw [h.lb, ← h.lj]; exact hi)
  rw [show J[i] = A.getD i [] ++ B.getD i [] from e]
  refine ⟨by rw [List.length_append, h1.1, h2.1], fun x hx => ?_⟩
  rcases List.mem_append.1 hx with hx | hx
  · exact h1.2 x hx
  · exact h2.2 x hx
theorem Side.cut (h : Side k m n A B J) : (J.map vec).map (L.cutV k) = A.map vec := by
  apply List.ext_getElem
  · simp [h.la, h.lj]
  intro i h1 h2
  rw [List.length_map] at h2
  have hi : i < J.length := by rw [h.lj, ← h.la]; exact h2
  have e := h.is i (by rw [← h.la]; exact h2)
  have hw := (h.wa.at i h2).1
  rw [List.getD_eq_getElem?_getD, List.getElem?_eq_getElem hi] at e
  rw [List.getElem_map, List.getElem_map, List.getElem_map, show J[i] = A.getD i [] ++ B.getD i [] from e]
  rw [show A[i] = A.getD i [] by rw [List.getD_eq_getElem?_getD, List.getElem?_eq_getElem h2]; rfl]
  funext j
  by_cases hj : j < k
  · rw [L.cutV_lt _ hj, vec_app_lt (by rw [hw]; exact hj)]
  · rw [show L.cutV k (vec (A.getD i [] ++ B.getD i [])) j = L.zero from if_neg hj]
    exact (vec_supp hw j (by omega)).symm
theorem Side.ans (h : Side k m n A B J) {M : List L.V} (hM : M.length = k) : L.mulM (A.map vec) M = B.map vec ↔ ∀ a ∈ J.map vec, L.Ans k M a := by
  have key : ∀ i, i < n → (L.lc (L.rowAt (A.map vec) i) M = L.rowAt (B.map vec) i ↔ L.Ans k M (L.rowAt (J.map vec) i)) := by
    intro i hi
    have hw := (h.wa.at i (by rw [h.la]; exact hi)).1
    rw [rowAt_vec, rowAt_vec, rowAt_vec, h.is i hi]
    unfold L.Ans
    have e1 : L.lc (vec (A.getD i [] ++ B.getD i [])) M = L.lc (vec (A.getD i [])) M := L.lc_congr M _ _ fun j hj => vec_app_lt (by rw [hw, ← hM]; exact hj)
    have e2 : L.shV k (vec (A.getD i [] ++ B.getD i [])) = vec (B.getD i []) := funext fun j => by
      show vec (A.getD i [] ++ B.getD i []) (k + j) = _
      rw [← hw, vec_app_ge]
    rw [e1, e2]
  rw [L.Sat.of_mul (by simp [h.la, h.lb]), L.mem_iff_rowAt]
  unfold L.Sat
  rw [List.length_map, List.length_map, h.la, h.lj]
  exact ⟨fun g i hi => (key i hi).1 (g i hi), fun g i hi => (key i hi).2 (g i hi)⟩
theorem Side.rank {X : List (List Int)} {ps : List Nat} (h : Side k m n A B J) (he : L.Ech (J.map vec) (X.map vec) ps k) : rkL A = ps.length := by
  unfold rkL
  rw [← h.cut]
  exact he.rank
/-- A row behind the first ones is left: there is no solution. -/
theorem Side.clash {X : List (List Int)} {ps : List Nat} (h : Side k m n A B J) (he : L.Ech (J.map vec) (X.map vec) ps k) (hk : ps.length = k) (hX : Wide (k + m) X) (i : Nat) (h1 : k ≤ i) (h2 : i < X.length) (h3 : 0 ≤ leadL (X.getD i [])) :
    ∀ M : List L.V, M.length = k → L.mulM (A.map vec) M ≠ B.map vec := by
  intro M hM e
  have := ((he.answers hk hM).1 ((h.ans hM).1 e)).2 i h1 (by rw [List.length_map]; exact h2)
  rw [rowAt_vec] at this
  exact vec_ne (hX.at i h2).2 h3 this
/-- None is left: what stands behind the first columns is the solution. -/
theorem Side.solved {X S : List (List Int)} {ps : List Nat} (h : Side k m n A B J) (he : L.Ech (J.map vec) (X.map vec) ps k) (hk : ps.length = k) (h0 : ∀ i, k ≤ i → i < X.length → leadL (X.getD i []) = -1) (hX : Wide (k + m) X)
    (hS : S.length = k) (hi : ∀ i, i < k → S.getD i [] = (X.getD i []).drop k) : IsMul m A S B ∧ Wide m S := by
  have hle : k ≤ X.length := by have := he.le; rw [List.length_map] at this; omega
  refine ⟨⟨h.wb, ?_⟩, fun r hr => ?_⟩
  · refine ((h.ans (by rw [List.length_map]; exact hS)).2 ((he.answers hk (by rw [List.length_map]; exact hS)).2 ⟨fun i h1 => ?_, fun i h1 h2 => ?_⟩)).symm
    · rw [rowAt_vec, rowAt_vec, hi i h1, vec_drop]
    · rw [List.length_map] at h2
      rw [rowAt_vec]
      exact vec_nought (h0 i h1 h2)
  · obtain ⟨i, h1, rfl⟩ := List.getElem_of_mem hr
    have e := hi i (by omega)
    rw [List.getD_eq_getElem?_getD, List.getElem?_eq_getElem h1] at e
    have hw := hX.at i (by omega)
    rw [show S[i] = (X.getD i []).drop k from e]
    exact ⟨by rw [List.length_drop, hw.1]; omega, fun x hx => hw.2 x (List.mem_of_mem_drop hx)⟩
end
theorem Bs.dropAt {w : World} {b : Addr} {p c k : Nat} {l : List Int} (h : Bs w (.slice (some b) p c) l) (hk : k ≤ p) : Bs w (.slice (some (b.add k)) (p - k) (c - k)) (l.drop k) := by
  obtain ⟨h0, oa, c', he, h2, h3, h4, h5⟩ := h
  obtain ⟨rfl, rfl, rfl⟩ : some b = oa ∧ p = l.length ∧ c = c' := by simpa using he
  have hl : (l.drop k).length = l.length - k := List.length_drop
  refine ⟨fun x hx => h0 x (List.mem_of_mem_drop hx), some (b.add k), c - k, by rw [hl], by rw [hl]; omega, by omega, (fun h => by cases h), fun a ha i hi => ?_⟩
  cases ha
  rw [hl] at hi
  rw [Addr.add_add', h5 b rfl (k + i) (by omega), List.getD_eq_getElem?_getD, List.getD_eq_getElem?_getD, List.getElem?_drop]
theorem ok_mayNil : ∀ w, Calls Try.prog 34 #[.slice none 0 0] w fun e w' => e = .returned (.bool true) ∧ Gr w w' := fun w => may_nil none 0 w (Bss.nil w)
end Go.Proofs.Ytocigdcbfbnfoaa
