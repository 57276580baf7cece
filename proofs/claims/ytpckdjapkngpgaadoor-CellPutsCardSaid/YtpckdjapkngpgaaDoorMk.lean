/-
  What package mat is to do, as contracts; the document's example of it.
-/
import Derived.Test.YtpckdjapkngpgaaDoorVec
import Derived.Test.YtpckdjapkngpgaaDoorLsq
namespace Go.Proofs.YtpckdjapkngpgaaDoor
open Go.RowKit

theorem Bss.byt {w : World} {v : Value} {A : List (List Int)} (h : Bss w v A) : ∀ r ∈ A, ∀ x ∈ r, Byt x := by
  intro r hr
  obtain ⟨i, hi, rfl⟩ := List.getElem_of_mem hr
  obtain ⟨a, c, _, _, _, h3⟩ := Bss.at h (by omega)
  obtain ⟨u, _, hu⟩ := h3 i hi
  rw [List.getD_eq_getElem?_getD, List.getElem?_eq_getElem hi] at hu
  exact hu.1
/-- How many columns. -/
def wd (A : List (List Int)) : Nat := (A.getD 0 []).length
theorem wd_nil : wd [] = 0 := rfl
theorem Wide.of_bss {w : World} {v : Value} {A : List (List Int)} (h : Bss w v A) (hm : mayL A = true) : Wide (wd A) A := Wide.of_may hm h.byt
theorem Wide.may {k : Nat} {A : List (List Int)} (h : Wide k A) (hk : k ≤ 64) : mayL A = true := mayL_true fun i hi => by
  have h0 := (h.at i hi).1
  have h1 := (h.at 0 (by omega)).1
  omega
theorem Wide.wd {k : Nat} {A : List (List Int)} (h : Wide k A) (h0 : 0 < A.length) : wd A = k := (h.at 0 h0).1
theorem Wide.nil (k : Nat) : Wide k [] := fun r hr => by simp at hr
/-- The rank, as the algebra has it. -/
noncomputable def rkL (A : List (List Int)) : Nat := L.rk (A.map vec)
/-- out is a times x. -/
def IsMul (m : Nat) (A X out : List (List Int)) : Prop := Wide m out ∧ out.map vec = L.mulM (A.map vec) (X.map vec)
theorem IsMul.unique {m : Nat} {A X o o' : List (List Int)} (h : IsMul m A X o) (h' : IsMul m A X o') : o = o' := map_vec_inj h.1 h'.1 (by rw [h.2, h'.2])
theorem IsMul.length {m : Nat} {A X o : List (List Int)} (h : IsMul m A X o) : o.length = A.length := by
  have := congrArg List.length h.2
  simpa [L.mulM] using this
/-- What Solve answers. -/
def SolSays (A B : List (List Int)) (e : Int) (S : List (List Int)) : Prop :=
  (A = [] ∧ e = 1 ∧ S = []) ∨ (A ≠ [] ∧ rkL A < wd A ∧ e = 9 ∧ S = []) ∨
  (A ≠ [] ∧ rkL A = wd A ∧ e = 0 ∧ S.length = wd A ∧ IsMul (wd B) A S B ∧ Wide (wd B) S) ∨
  (A ≠ [] ∧ rkL A = wd A ∧ e = 10 ∧ S = [] ∧ ∀ M : List L.V, M.length = wd A → (∀ x ∈ M, L.Supp (wd B) x) → L.mulM (A.map vec) M ≠ B.map vec)
theorem SolSays.unique {A B S S' : List (List Int)} {e e' : Int} (hA : Wide (wd A) A) (h : SolSays A B e S) (h' : SolSays A B e' S') : e = e' ∧ S = S' := by
  rcases h with ⟨h0, h1, h2⟩ | ⟨h0, h1, h2, h3⟩ | ⟨h0, h1, h2, h3, h4, h5⟩ | ⟨h0, h1, h2, h3, h4⟩ <;>
  rcases h' with ⟨g0, g1, g2⟩ | ⟨g0, g1, g2, g3⟩ | ⟨g0, g1, g2, g3, g4, g5⟩ | ⟨g0, g1, g2, g3, g4⟩ <;>
  first
    | exact absurd h0 g0
    | exact absurd g0 h0
    | (exfalso; omega)
    | (subst_vars; exact ⟨rfl, rfl⟩)
    | skip
  · refine ⟨by rw [h2, g2], map_vec_inj h5 g5 (L.mul_unique hA.supp h1 (by simp [h3]) (by simp [g3]) ?_)⟩
    rw [← h4.2, ← g4.2]
  · exact absurd h4.2.symm (g4 _ (by simp [h3]) (h5.supp))
  · exact absurd g4.2.symm (h4 _ (by simp [g3]) (g5.supp))

/-- The contracts of package mat. -/
structure MatOk : Prop where
theorem bss_two {w : World} {g : Nat} {u v : Value} {x y : List Int} {t : TypeId} {fr : Nat × Nat} (h : w.heap[g]? = some (.cells #[u, v] t fr)) (hu : Bs w u x) (hv : Bs w v y) : Bss w (.slice (some ⟨g, 0, none⟩) 2 2) [x, y] :=
  ⟨some ⟨g, 0, none⟩, 2, rfl, by simp, by omega, (fun h => by cases h), fun a ha i hi => by
    cases ha
    rw [Addr.add_mid, Nat.zero_add]
    have : i = 0 ∨ i = 1 := by simp at hi; omega
    rcases this with rfl | rfl
    · exact ⟨u, by rw [cell_of_row w g 0 _ _ _ h]; rfl, hu⟩
    · exact ⟨v, by rw [cell_of_row w g 1 _ _ _ h]; rfl, hv⟩⟩
theorem rk_wake : rkL [[1, 1], [1, 1]] = 1 := by
  have h1 : Wide 2 [[1, 1], [1, 1]] := fun r hr => by
    simp at hr
    subst hr
    exact ⟨rfl, fun x hx => by simp at hx; subst hx; unfold Byt; omega⟩
  have hr : L.Rref [(0, vec [1, 1])] := ⟨List.pairwise_singleton _ _, fun p x h => by
      simp at h
      obtain ⟨rfl, rfl⟩ := h
      rfl, fun p x h k hk => by
      simp at h
      omega, fun p x q y h h' hne => by
      simp at h h'
      omega⟩
  have hs : L.Same (L.rows [(0, vec [1, 1])]) (([[1, 1], [1, 1]] : List (List Int)).map vec) := L.Same.of_mem fun x => by simp [L.rows]
  exact L.rk_eq ⟨hr, hs⟩
end Go.Proofs.YtpckdjapkngpgaaDoor
