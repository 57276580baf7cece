/-
  What package mat is to do, as contracts; the document's example of it.
-/
import Derived.Test.YtgbdhdjcjilooaaVec
import Derived.Test.YtgbdhdjcjilooaaLsq
namespace Go.Proofs.Ytgbdhdjcjilooaa
open Go.RowKit

theorem Bss.byt {w : World} {v : Value} {A : List (List Int)} (h : Bss w v A) : ∀ r ∈ A, ∀ x ∈ r, Byt x := by
  intro r hr
  obtain ⟨i, hi, rfl⟩ := List.getElem_of_mem hr
  obtain ⟨a, c, _, _, _, h3⟩ := Bss.at h (by omega)
  obtain ⟨u, _, hu⟩ := h3 i hi
  rw [List.getD_eq_getElem?_getD, List.getElem?_eq_getElem hi] at hu
  exact hu.1
/-- How many columns. -/
def wd (A : List (List Int)) : Nat := (A.getD 0 []).length
theorem wd_nil : wd [] = 0 := rfl
theorem Wide.of_bss {w : World} {v : Value} {A : List (List Int)} (h : Bss w v A) (hm : mayL A = true) : Wide (wd A) A := Wide.of_may hm h.byt
theorem Wide.may {k : Nat} {A : List (List Int)} (h : Wide k A) (hk : k ≤ 64) : mayL A = true := mayL_true fun i hi => by
  have h0 := (h.at i hi).1
  have h1 := (h.at 0 (by omega)).1
  omega
theorem Wide.wd {k : Nat} {A : List (List Int)} (h : Wide k A) (h0 : 0 < A.length) : wd A = k := (h.at 0 h0).1
theorem Wide.nil (k : Nat) : Wide k [] := fun r hr => by simp at hr
/-- The rank, as the algebra has it. -/
noncomputable def rkL (A : List (List Int)) : Nat := L.rk (A.map vec)
/-- out is a times x. -/
def IsMul (m : Nat) (A X out : List (List Int)) : Prop := Wide m out ∧ out.map vec = L.mulM (A.map vec) (X.map vec)
theorem IsMul.unique {m : Nat} {A X o o' : List (List Int)} (h : IsMul m A X o) (h' : IsMul m A X o') : o = o' := map_vec_inj h.1 h'.1 (by rw [h.2, h'.2])
theorem IsMul.length {m : Nat} {A X o : List (List Int)} (h : IsMul m A X o) : o.length = A.length := by
  have := congrArg List.length h.2
  simpa [L.mulM] using this
/-- What Solve answers. -/
def SolSays (A B : List (List Int)) (e : Int) (S : List (List Int)) : Prop :=
  (A = [] ∧ e = 1 ∧ S = []) ∨ (A ≠ [] ∧ rkL A < wd A ∧ e = 9 ∧ S = []) ∨
  (A ≠ [] ∧ rkL A = wd A ∧ e = 0 ∧ S.length = wd A ∧ IsMul (wd B) A S B ∧ Wide (wd B) S) ∨
  (A ≠ [] ∧ rkL A = wd A ∧ e = 10 ∧ S = [] ∧ ∀ M : List L.V, M.length = wd A → (∀ x ∈ M, L.Supp (wd B) x) → L.mulM (A.map vec) M ≠ B.map vec)
theorem SolSays.unique {A B S S' : List (List Int)} {e e' : Int} (hA : Wide (wd A) A) (h : SolSays A B e S) (h' : SolSays A B e' S') : e = e' ∧ S = S' := by
  rcases h with ⟨h0, h1, h2⟩ | ⟨h0, h1, h2, h3⟩ | ⟨h0, h1, h2, h3, h4, h5⟩ | ⟨h0, h1, h2, h3, h4⟩ <;>
  rcases h' with ⟨g0, g1, g2⟩ | ⟨g0, g1, g2, g3⟩ | ⟨g0, g1, g2, g3, g4, g5⟩ | ⟨g0, g1, g2, g3, g4⟩ <;>
  first
    | exact absurd h0 g0
    | exact absurd g0 h0
    | (exfalso; omega)
    | (subst_vars; exact ⟨rfl, rfl⟩)
    | skip
  · refine ⟨by rw [h2, g2], map_vec_inj h5 g5 (L.mul_unique hA.supp h1 (by simp [h3]) (by simp [g3]) ?_)⟩
    rw [← h4.2, ← g4.2]
  · exact absurd h4.2.symm (g4 _ (by simp [h3]) (h5.supp))
  · exact absurd g4.2.symm (h4 _ (by simp [g3]) (g5.supp))

/-- The contracts of package mat. -/
structure MatOk : Prop where
  mayNil : ∀ w, Calls Try.prog 23 #[.slice none 0 0] w fun e w' => e = .returned (.bool true) ∧ Gr w w'
  reduce : ∀ (f va : Value) (A : List (List Int)) (w : World), IsF w f → Bss w va A → A.length ≤ 1000 → mayL A = true →
    Calls Try.prog 14 #[f, va] w fun e w' => ∃ v R, e = .returned v ∧ Bss w' v R ∧ Gr w w' ∧ IsRed (wd A) A R
  rank : ∀ (f va : Value) (A : List (List Int)) (w : World), IsF w f → Bss w va A → A.length ≤ 1000 → mayL A = true →
    Calls Try.prog 18 #[f, va] w fun e w' => e = .returned (.int .i64 (rkL A)) ∧ Gr w w'
  mul : ∀ (f va vx : Value) (A X : List (List Int)) (w : World), IsF w f → Bss w va A → Bss w vx X → A.length ≤ 1000 → X.length ≤ 1000 → mayL A = true → mayL X = true → (A = [] ∨ wd A = X.length) → 
    Calls Try.prog 19 #[f, va, vx] w fun e w' => ∃ v out, e = .returned (.tuple #[v, .bool true]) ∧ Bss w' v out ∧ Gr w w' ∧ IsMul (wd X) A X out
  mulNe : ∀ (f va vx : Value) (A X : List (List Int)) (w : World), IsF w f → Bss w va A → Bss w vx X → A.length ≤ 1000 → X.length ≤ 1000 → mayL A = true → mayL X = true → A ≠ [] → wd A ≠ X.length → 
    Calls Try.prog 19 #[f, va, vx] w fun e w' => ∃ v, e = .returned (.tuple #[v, .bool false]) ∧ Bss w' v [] ∧ Gr w w'
  solve : ∀ (f va vb : Value) (A B : List (List Int)) (w : World), IsF w f → Bss w va A → Bss w vb B → A.length ≤ 1000 → B.length = A.length → mayL A = true → mayL B = true → (A ≠ [] → 1 ≤ wd A ∧ 1 ≤ wd B) →
    Calls Try.prog 11 #[f, va, vb] w fun e w' => ∃ v n S, e = .returned (.tuple #[v, .int .i64 n]) ∧ Bss w' v S ∧ Gr w w' ∧ SolSays A B n S

theorem bss_two {w : World} {g : Nat} {u v : Value} {x y : List Int} {t : TypeId} {fr : Nat × Nat} (h : w.heap[g]? = some (.cells #[u, v] t fr)) (hu : Bs w u x) (hv : Bs w v y) : Bss w (.slice (some ⟨g, 0, none⟩) 2 2) [x, y] :=
  ⟨some ⟨g, 0, none⟩, 2, rfl, by simp, by omega, (fun h => by cases h), fun a ha i hi => by
    cases ha
    rw [Addr.add_mid, Nat.zero_add]
    have : i = 0 ∨ i = 1 := by simp at hi; omega
    rcases this with rfl | rfl
    · exact ⟨u, by rw [cell_of_row w g 0 _ _ _ h]; rfl, hu⟩
    · exact ⟨v, by rw [cell_of_row w g 1 _ _ _ h]; rfl, hv⟩⟩
theorem rk_wake : rkL [[1, 1], [1, 1]] = 1 := by
  have h1 : Wide 2 [[1, 1], [1, 1]] := fun r hr => by
    simp at hr
    subst hr
    exact ⟨rfl, fun x hx => by simp at hx; subst hx; unfold Byt; omega⟩
  have hr : L.Rref [(0, vec [1, 1])] := ⟨List.pairwise_singleton _ _, fun p x h => by
      simp at h
      obtain ⟨rfl, rfl⟩ := h
      rfl, fun p x h k hk => by
      simp at h
      omega, fun p x q y h h' hne => by
      simp at h h'
      omega⟩
  have hs : L.Same (L.rows [(0, vec [1, 1])]) (([[1, 1], [1, 1]] : List (List Int)).map vec) := L.Same.of_mem fun x => by simp [L.rows]
  exact L.rk_eq ⟨hr, hs⟩
set_option maxRecDepth 100000 in
set_option maxHeartbeats 400000 in
theorem matWakes_any (R : MatOk) (w : World) : Calls Try.prog 16 #[] w fun e w' => e = .returned (.bool true) ∧ Gr w w' := by
  have H := Lib.hid R
  clear R
  have b1 : Byt 1 := by unfold Byt; omega
  go_enter Try.func16, Try.ntmps16
  go_wp2_with (first | (go_at_call 10; refine (new_st _).mono ?_; rintro e w1 ⟨b, rfl, hs⟩; have S1 := Lib.hid hs; clear hs))
  have hg1 : Gr w1 (((w1.alloc (.cells #[.int .u8 1, .int .u8 1] 5)).alloc (.cells #[.int .u8 1, .int .u8 1] 5)).alloc (.cells #[.slice (some ⟨w1.heap.size, 0, none⟩) 2 2, .slice (some ⟨w1.heap.size + 1, 0, none⟩) 2 2] 22)) := Gr.alloc (Gr.alloc (Gr.alloc (Gr.refl _) _ _) _ _) _ _
  have ha := Bs.grown (lit_bs (w := w1) [1, 1] [1, 1] (by simp [b1]) (by simp)) (Gr.alloc (Gr.refl _) #[.slice (some ⟨w1.heap.size, 0, none⟩) 2 2, .slice (some ⟨w1.heap.size + 1, 0, none⟩) 2 2] 22)
  have hb := Bs.grown (lit_bs2 (w := w1) [1, 1] [1, 1] (by simp [b1]) (by simp)) (Gr.alloc (Gr.refl _) #[.slice (some ⟨w1.heap.size, 0, none⟩) 2 2, .slice (some ⟨w1.heap.size + 1, 0, none⟩) 2 2] 22)
  have hab := bss_two (heap_alloc_new ((w1.alloc (.cells #[.int .u8 1, .int .u8 1] 5)).alloc (.cells #[.int .u8 1, .int .u8 1] 5)) _) ha hb
  have hsz : ((w1.alloc (.cells #[.int .u8 1, .int .u8 1] 5)).alloc (.cells #[.int .u8 1, .int .u8 1] 5)).heap.size = w1.heap.size + 2 := by simp
  rw [hsz] at hab
  refine (H.out.rank _ _ [[1, 1], [1, 1]] _ (IsF.grown S1.out.2 hg1) hab (by simp) (by decide)).mono ?_
  rintro e w2 ⟨rfl, hg2⟩
  have G2 := Lib.hid (Gr.trans S1.out.1 (Gr.trans hg1 hg2))
  rw [rk_wake]
  clear ha hb hab hsz hg1 hg2 S1 b1
  go_wp2_with (first | (go_at_call 23; refine (H.out.mayNil _).mono ?_; rintro e w3 ⟨rfl, hg3⟩; have G3 := Lib.hid hg3; clear hg3))
  go_ret
  exact ⟨rfl, Gr.trans G2.out G3.out⟩
end Go.Proofs.Ytgbdhdjcjilooaa
