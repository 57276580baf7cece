/-
  Texts laid behind one another: Nb Ap Yi Rd Ra Yc Yb Hd Yd.
-/
import Derived.Test.YtdmcncpndogdlaaMgg
import Derived.Test.YtdmcncpndogdlaaMgf
import Derived.Test.YtdmcncpndogdlaaMgb
import Derived.Laws.AppendOwnNone
import Derived.Deep.AppendLies
import Derived.Deep.RegionHeld3
import Derived.Test.YtdmcncpndogdlaaMge
import Derived.Test.YtdmcncpndogdlaaMgc
import Derived.BigRegion
import Derived.Deep.RegionLaw
import Derived.Deep.DeepCutAuto
import Derived.Test.YtdmcncpndogdlaaProg
namespace Go.Proofs.Ytdmcncpndogdlaa
open Go.RowKit

theorem atN_nodup {N : Nat} (h1 : 1 ≤ N) (h2 : N ≤ 64) (seed id : Nat) : (atN N seed id).Nodup := by
  obtain ⟨s, k, _, hb, h⟩ := atN_some h1 h2 seed id
  rw [h]
  refine List.Pairwise.imp (fun h => ?_) (C.some_sorted hb)
  omega
/-- A symbol of a block. -/
def symP (K H S seed : Nat) (M : List (List Int)) (id : Int) : List Int := if MayI id then addL S M (atN (K + H) seed id.toNat) else []
theorem sym_is {K H S seed : Nat} {M : List (List Int)} (hm : MayP K H S) (hM : Wide S M) (hl : M.length = K + H) {id : Int} (hi : MayI id) :
    (symP K H S seed M id).length = S ∧ (∀ z ∈ symP K H S seed M id, Byt z) ∧ vec (symP K H S seed M id) = L.lc (vec (rowP K H S seed id)) (M.map vec) := by
  have hN : 1 ≤ K + H ∧ K + H ≤ 64 := by unfold MayP at hm; omega
  unfold symP
  rw [if_pos hi, rowP_in hm hi]
  exact addL_is hM hl (atN_rng _ _ _) (atN_nodup hN.1 hN.2 _ _)
theorem sym_byt {K H S seed : Nat} {M : List (List Int)} (hm : MayP K H S) (hM : Wide S M) (hl : M.length = K + H) (id : Int) : ∀ z ∈ symP K H S seed M id, Byt z := by
  by_cases hi : MayI id
  · exact (sym_is hm hM hl hi).2.1
  · unfold symP
    rw [if_neg hi]
    simp
theorem rhsL_src {K H S i : Nat} {D : List Int} (hi : i < K) : (rhsL K H S D).getD (H + i) [] = srcL S D i := by
  unfold rhsL
  rw [List.getD_eq_getElem?_getD, List.getElem?_append_right (by simp), List.length_replicate, Nat.add_sub_cancel_left, List.getElem?_map, List.getElem?_range hi]
  rfl
theorem rhsL_head {K H S i : Nat} {D : List Int} (hi : i < H) : (rhsL K H S D).getD i [] = List.replicate S 0 := by
  unfold rhsL
  rw [List.getD_eq_getElem?_getD, List.getElem?_append_left (by simpa using hi), List.getElem?_replicate, if_pos hi]
  rfl
theorem mul_at {A X O : List (List Int)} {m : Nat} (h : IsMul m A X O) {i : Nat} (hi : i < A.length) : L.lc (vec (A.getD i [])) (X.map vec) = vec (O.getD i []) := by
  have h2 := congrArg (fun l => l[i]?) h.2
  simp only [L.mulM, List.getElem?_map] at h2
  have hO : i < O.length := by rw [h.length]; exact hi
  rw [List.getElem?_eq_getElem hi, List.getElem?_eq_getElem hO] at h2
  rw [List.getD_eq_getElem?_getD, List.getD_eq_getElem?_getD, List.getElem?_eq_getElem hi, List.getElem?_eq_getElem hO]
  simpa using h2.symm
theorem firstI_getD {K i : Nat} (hi : i < K) : (firstI K).getD i 0 = (i : Int) := by
  unfold firstI
  rw [List.getD_eq_getElem?_getD, List.getElem?_map, List.getElem?_range hi]
  rfl
theorem firstM_row {K H S i : Nat} (hm : MayP K H S) (seed : Nat) (hi : i < K) : (matP K H S seed (firstI K)).getD (H + i) [] = rowP K H S seed i := by
  rw [firstM_is hm, List.getD_eq_getElem?_getD, List.getElem?_append_right (by rw [ahead_length]; omega), ahead_length, Nat.add_sub_cancel_left, List.getElem?_map, List.getElem?_eq_getElem (by rw [firstI_length]; exact hi)]
  have := firstI_getD hi
  rw [List.getD_eq_getElem?_getD, List.getElem?_eq_getElem (by rw [firstI_length]; exact hi)] at this
  simp at this
  simp [this]
theorem may_of_lt {K i : Nat} (hK : K ≤ 1000) (hi : i < K) : MayI (i : Int) := by
  unfold MayI
  omega
/-- The first symbols are the data. -/
theorem IsMid.first {K H S seed : Nat} {D : List Int} {M : List (List Int)} (hm : MayP K H S) (h : IsMid K H S seed D M) (hD : D.length = K * S) (hb : ∀ z ∈ D, Byt z) {i : Nat} (hi : i < K) : symP K H S seed M i = srcL S D i := by
  have hi2 : MayI (i : Int) := may_of_lt (by unfold MayP at hm; omega) hi
  obtain ⟨h1, h2, h3⟩ := sym_is (seed := seed) hm h.wide h.len hi2
  refine vec_inj (by rw [h1, srcL_length hD hi]) h2 (srcL_byt hb) ?_
  have := mul_at h.mul (i := H + i) (by rw [firstM_length hm]; omega)
  rw [firstM_row hm seed hi, rhsL_src hi] at this
  rw [h3, this]
/-- The rows ahead come to noughts. -/
theorem IsMid.ahead {K H S seed : Nat} {D : List Int} {M O : List (List Int)} (hm : MayP K H S) (h : IsMid K H S seed D M) (ho : IsMul S (ahead K H) M O) : O = List.replicate H (List.replicate S 0) := by
  refine map_vec_inj ho.1 (fun r hr => by rw [List.eq_of_mem_replicate hr]; exact ⟨by simp, replicate_byt S⟩) ?_
  rw [ho.2]
  have h2 := congrArg (List.take H) h.mul.2
  rw [firstM_is hm] at h2
  unfold rhsL L.mulM at h2
  rw [← List.map_take, ← List.map_take, List.take_left' (by simp)] at h2
  rw [h2, List.map_append, List.take_left' (by simp [ahead_length])]
  rfl
theorem sumL_assoc {S : Nat} {a b c : List Int} (ha : a.length = S) (hb : b.length = S) : sumL (sumL a b) c = sumL a (sumL b c) := by
  apply ext_getD (by rw [sumL_length, sumL_length, sumL_length])
  intro j hj
  rw [sumL_length, sumL_length] at hj
  rw [sumL_getD _ _ _ (by rw [sumL_length]; exact hj), sumL_getD _ _ _ hj, sumL_getD _ _ _ hj, sumL_getD _ _ _ (by omega), addZ_assoc]
/-- The middle symbols of a sum. -/
def sumM (M M' : List (List Int)) : List (List Int) := List.zipWith sumL M M'
theorem zip_vec {S : Nat} : ∀ {M M' : List (List Int)}, Wide S M → Wide S M' → M.length = M'.length → (sumM M M').map vec = List.zipWith L.vadd (M.map vec) (M'.map vec)
  | [], [], _, _, _ => rfl
  | [], _ :: _, _, _, h => by simp at h
  | _ :: _, [], _, _, h => by simp at h
  | r :: M, s :: M', h, h', hl => by
    have hr := h r (by simp)
    have hs := h' s (by simp)
    show vec (sumL r s) :: (sumM M M').map vec = L.vadd (vec r) (vec s) :: List.zipWith L.vadd (M.map vec) (M'.map vec)
    rw [vec_sum hr.2 hs.2 (by rw [hr.1, hs.1]), zip_vec (fun x hx => h x (by simp [hx])) (fun x hx => h' x (by simp [hx])) (by simpa using hl)]
theorem lc_zip (c : L.V) : ∀ (X Y : List L.V), X.length = Y.length → L.lc c (List.zipWith L.vadd X Y) = L.vadd (L.lc c X) (L.lc c Y) := by
  intro X
  induction X generalizing c with
  | nil =>
    intro Y h
    obtain rfl : Y = [] := List.eq_nil_of_length_eq_zero (by simpa using h.symm)
    exact (L.vadd_zero _).symm
  | cons x X ih =>
    intro Y h
    cases Y with
    | nil => simp at h
    | cons y Y =>
      show L.vadd (L.smul (c 0) (L.vadd x y)) (L.lc (fun i => c (i + 1)) (List.zipWith L.vadd X Y)) = L.vadd (L.vadd (L.smul (c 0) x) (L.lc (fun i => c (i + 1)) X)) (L.vadd (L.smul (c 0) y) (L.lc (fun i => c (i + 1)) Y))
      rw [ih _ _ (by simpa using h), L.smul_add, L.vadd_assoc, L.vadd_assoc, L.vadd_left_comm (L.smul (c 0) y)]
theorem sumM_wide {S : Nat} {M M' : List (List Int)} (h : Wide S M) (h' : Wide S M') : Wide S (sumM M M') := fun r hr => by
  unfold sumM at hr
  obtain ⟨i, hi, rfl⟩ := List.getElem_of_mem hr
  rw [List.length_zipWith] at hi
  rw [List.getElem_zipWith]
  have h1 := h (M[i]'(by omega)) (List.getElem_mem _)
  have h2 := h' (M'[i]'(by omega)) (List.getElem_mem _)
  exact ⟨by rw [sumL_length]; exact h1.1, sumL_byt h1.2 h2.2⟩
theorem sum_src {S K i : Nat} {D D' : List Int} (hD : D.length = K * S) (hD' : D'.length = K * S) (hi : i < K) : srcL S (sumL D D') i = sumL (srcL S D i) (srcL S D' i) := by
  have hl := srcL_length hD hi
  have hl' := srcL_length hD' hi
  have hls : (srcL S (sumL D D') i).length = S := srcL_length (by rw [sumL_length, hD]) hi
  apply ext_getD (by rw [sumL_length, hl, hls])
  intro j hj
  rw [hls] at hj
  have hij : i * S + j < K * S := by
    have : (i + 1) * S ≤ K * S := Nat.mul_le_mul_right S (by omega)
    rw [Nat.add_mul, Nat.one_mul] at this
    omega
  rw [sumL_getD _ _ _ (by omega)]
  unfold srcL
  simp only [List.getD_eq_getElem?_getD, List.getElem?_take_of_lt hj, List.getElem?_drop]
  simp only [← List.getD_eq_getElem?_getD]
  rw [sumL_getD _ _ _ (by omega)]
theorem sum_noughts {S : Nat} : sumL (List.replicate S 0) (List.replicate S 0) = List.replicate S 0 := by
  apply ext_getD (by rw [sumL_length])
  intro j hj
  rw [sumL_length, List.length_replicate] at hj
  rw [sumL_getD _ _ _ (by simpa using hj)]
  have : (List.replicate S (0 : Int)).getD j 0 = 0 := by rw [List.getD_eq_getElem?_getD, List.getElem?_replicate]; split <;> rfl
  rw [this, addZ_self]
theorem rhs_sum {K H S : Nat} {D D' : List Int} (hD : D.length = K * S) (hD' : D'.length = K * S) : rhsL K H S (sumL D D') = sumM (rhsL K H S D) (rhsL K H S D') := by
  apply List.ext_getElem?
  intro i
  unfold sumM
  rw [List.getElem?_zipWith]
  by_cases h1 : i < H + K
  · have e : ∀ X : List Int, (rhsL K H S X)[i]? = some ((rhsL K H S X).getD i []) := fun X => by
      rw [List.getD_eq_getElem?_getD, List.getElem?_eq_getElem (by rw [rhsL_length]; exact h1)]
      rfl
    rw [e, e, e]
    show some _ = some _
    congr 1
    by_cases h2 : i < H
    · rw [rhsL_head h2, rhsL_head h2, rhsL_head h2, sum_noughts]
    · obtain ⟨k, rfl⟩ : ∃ k, i = H + k := ⟨i - H, by omega⟩
      rw [rhsL_src (by omega), rhsL_src (by omega), rhsL_src (by omega), sum_src hD hD' (by omega)]
  · have e : ∀ X : List Int, (rhsL K H S X)[i]? = none := fun X => List.getElem?_eq_none (by rw [rhsL_length]; omega)
    rw [e, e, e]
/-- The middle symbols of a sum of blocks are the sums of theirs. -/
theorem IsMid.sum {K H S seed : Nat} {D D' : List Int} {M M' : List (List Int)} (h : IsMid K H S seed D M) (h' : IsMid K H S seed D' M') (hD : D.length = K * S) (hD' : D'.length = K * S) (hb : ∀ z ∈ D, Byt z) (hb' : ∀ z ∈ D', Byt z) : IsMid K H S seed (sumL D D') (sumM M M') := by
  have hl : M.length = M'.length := by rw [h.len, h'.len]
  refine ⟨by unfold sumM; rw [List.length_zipWith, h.len, h'.len, Nat.min_self], sumM_wide h.wide h'.wide, rhsL_wide (by rw [sumL_length, hD]) (sumL_byt hb hb'), ?_⟩
  rw [rhs_sum hD hD', zip_vec (rhsL_wide hD hb) (rhsL_wide hD' hb') (by rw [rhsL_length, rhsL_length]), h.mul.2, h'.mul.2, zip_vec h.wide h'.wide hl]
  unfold L.mulM
  apply List.ext_getElem?
  intro i
  rw [List.getElem?_zipWith, List.getElem?_map, List.getElem?_map, List.getElem?_map, List.getElem?_map, List.getElem?_map, List.getElem?_map]
  cases (matP K H S seed (firstI K))[i]? with
  | none => rfl
  | some r => exact congrArg some (lc_zip (vec r) _ _ (by rw [List.length_map, List.length_map, hl])).symm
/-- The symbols of a sum of blocks. -/
theorem sym_sum {K H S seed : Nat} {M M' : List (List Int)} (hm : MayP K H S) (hM : Wide S M) (hM' : Wide S M') (hl : M.length = K + H) (hl' : M'.length = K + H) {id : Int} (hi : MayI id) : symP K H S seed (sumM M M') id = sumL (symP K H S seed M id) (symP K H S seed M' id) := by
  obtain ⟨a1, a2, a3⟩ := sym_is (seed := seed) hm hM hl hi
  obtain ⟨b1, b2, b3⟩ := sym_is (seed := seed) hm hM' hl' hi
  obtain ⟨c1, c2, c3⟩ := sym_is (seed := seed) hm (sumM_wide hM hM') (by unfold sumM; rw [List.length_zipWith, hl, hl', Nat.min_self]) hi
  refine vec_inj (by rw [c1, sumL_length, a1]) c2 (sumL_byt a2 b2) ?_
  rw [c3, vec_sum a2 b2 (by rw [a1, b1]), a3, b3, zip_vec hM hM' (by rw [hl, hl']), lc_zip _ _ _ (by rw [List.length_map, List.length_map, hl, hl'])]
/-- The block of noughts. -/
theorem mid_noughts {K H S seed : Nat} (hm : MayP K H S) : IsMid K H S seed (List.replicate (K * S) 0) (List.replicate (K + H) (List.replicate S 0)) := by
  have hb := replicate_byt (K * S)
  have hz : (List.replicate (K + H) (List.replicate S (0 : Int))).map vec = List.replicate (K + H) L.vzero := by rw [List.map_replicate, vec_noughts]
  refine ⟨by simp, fun r hr => by rw [List.eq_of_mem_replicate hr]; exact ⟨by simp, replicate_byt S⟩, rhsL_wide (by simp) hb, ?_⟩
  have hlc : ∀ (n : Nat) (c : L.V), L.lc c (List.replicate n L.vzero) = L.vzero := by
    intro n
    induction n with
    | zero => intro c; rfl
    | succ n ih =>
      intro c
      rw [List.replicate_succ]
      show L.vadd (L.smul (c 0) L.vzero) (L.lc (fun i => c (i + 1)) (List.replicate n L.vzero)) = L.vzero
      rw [ih, L.smul_zero, L.vadd_zero]
  rw [hz]
  unfold L.mulM
  apply List.ext_getElem?
  intro i
  rw [List.getElem?_map, List.getElem?_map, List.getElem?_map]
  have hsr : ∀ k, srcL S (List.replicate (K * S) 0) k = List.replicate (min S (K * S - k * S)) 0 := fun k => by
    unfold srcL
    rw [List.drop_replicate, List.take_replicate]
  by_cases h1 : i < H + K
  · rw [List.getElem?_eq_getElem (by rw [rhsL_length]; exact h1), List.getElem?_eq_getElem (by rw [firstM_length hm]; exact h1)]
    show some _ = some _
    congr 1
    show vec _ = L.lc _ (List.replicate (K + H) L.vzero)
    rw [hlc]
    have e : (rhsL K H S (List.replicate (K * S) 0))[i]'(by rw [rhsL_length]; exact h1) = (rhsL K H S (List.replicate (K * S) 0)).getD i [] := by
      rw [List.getD_eq_getElem?_getD, List.getElem?_eq_getElem (by rw [rhsL_length]; exact h1)]
      rfl
    rw [e]
    by_cases h2 : i < H
    · rw [rhsL_head h2, vec_noughts]
    · obtain ⟨k, rfl⟩ : ∃ k, i = H + k := ⟨i - H, by omega⟩
      rw [rhsL_src (by omega), hsr, vec_noughts]
  · rw [List.getElem?_eq_none (by rw [rhsL_length]; omega), List.getElem?_eq_none (by rw [firstM_length hm]; omega)]
    rfl
end Go.Proofs.Ytdmcncpndogdlaa
namespace Go.Proofs.Ytdmcncpndogdlaa
open Go.RowKit

/-- The rows of a slice of rows, one by one. -/
def Vals (w : World) (oa : Option Addr) (us : List Value) (L : List (List Int)) : Prop :=
  us.length = L.length ∧ (∀ ad, oa = some ad → ∀ j u, us[j]? = some u → w.cell? (ad.add j) = some u) ∧ (∀ i, i < L.length → Bs w (us.getD i undef) (L.getD i [])) ∧ ∀ u ∈ us, u.oneCell' = true
theorem Vals.grown {w w' : World} {oa : Option Addr} {us : List Value} {L : List (List Int)} (h : Vals w oa us L) (hg : Gr w w') : Vals w' oa us L :=
  ⟨h.1, fun ad ha j u hu => cell_grown hg (h.2.1 ad ha j u hu), fun i hi => Bs.grown (h.2.2.1 i hi) hg, h.2.2.2⟩
theorem Bss.vals {w : World} {oa : Option Addr} {n c : Nat} {L : List (List Int)} (h : Bss w (.slice oa n c) L) : ∃ us, Vals w oa us L := by
  obtain ⟨oa', c', he, h2, h3, h4, h5⟩ := h
  obtain ⟨rfl, rfl, rfl⟩ : oa = oa' ∧ n = L.length ∧ c = c' := by simpa using he
  cases oa with
  | none =>
    have : L = [] := List.eq_nil_of_length_eq_zero (by have := h4 rfl; omega)
    subst this
    exact ⟨[], rfl, (fun ad ha => by cases ha), (fun i hi => by simp at hi), by simp⟩
  | some a =>
    have hex : ∀ i, ∃ u, i < L.length → w.cell? (a.add i) = some u ∧ Bs w u (L.getD i []) := fun i => by
      by_cases hi : i < L.length
      · obtain ⟨u, h⟩ := h5 a rfl i hi
        exact ⟨u, fun _ => h⟩
      · exact ⟨undef, fun h => absurd h hi⟩
    have hf := fun i => Classical.choose_spec (hex i)
    have hget : ∀ i, i < L.length → ((List.range L.length).map fun i => Classical.choose (hex i)).getD i undef = Classical.choose (hex i) := fun i hi => by
      rw [List.getD_eq_getElem?_getD, List.getElem?_map, List.getElem?_range hi]
      rfl
    refine ⟨(List.range L.length).map fun i => Classical.choose (hex i), by simp, fun ad ha j u hu => ?_, fun i hi => ?_, fun u hu => ?_⟩
    · cases ha
      rw [List.getElem?_map] at hu
      by_cases hj : j < L.length
      · rw [List.getElem?_range hj] at hu
        simp at hu
        rw [← hu]
        exact (hf j hj).1
      · rw [List.getElem?_eq_none (by simp; omega)] at hu
        cases hu
    · rw [hget i hi]
      exact (hf i hi).2
    · obtain ⟨i, hi, rfl⟩ := List.mem_map.1 hu
      obtain ⟨o, cc, he⟩ := ((hf i (List.mem_range.1 hi)).2).form
      rw [he]
      rfl
theorem Vals.append {w : World} {us us' : List Value} {L L' : List (List Int)} {oa ob : Option Addr} (h : Vals w oa us L) (h' : Vals w ob us' L') :
    (us ++ us').length = (L ++ L').length ∧ (∀ i, i < (L ++ L').length → Bs w ((us ++ us').getD i undef) ((L ++ L').getD i [])) := by
  refine ⟨by rw [List.length_append, List.length_append, h.1, h'.1], fun i hi => ?_⟩
  rw [List.getD_eq_getElem?_getD, List.getD_eq_getElem?_getD]
  by_cases e : i < L.length
  · rw [List.getElem?_append_left (by rw [h.1]; exact e), List.getElem?_append_left e, ← List.getD_eq_getElem?_getD, ← List.getD_eq_getElem?_getD]
    exact h.2.2.1 i e
  · rw [List.length_append] at hi
    rw [List.getElem?_append_right (by rw [h.1]; omega), List.getElem?_append_right (by omega), h.1, ← List.getD_eq_getElem?_getD, ← List.getD_eq_getElem?_getD]
    exact h'.2.2.1 _ (by omega)
theorem Vals.take {w : World} {oa : Option Addr} {us : List Value} {L : List (List Int)} (h : Vals w oa us L) (k : Nat) : Vals w oa (us.take k) (L.take k) := by
  refine ⟨by rw [List.length_take, List.length_take, h.1], fun ad ha j u hu => ?_, fun i hi => ?_, fun u hu => h.2.2.2 u (List.mem_of_mem_take hu)⟩
  · by_cases e : j < k
    · rw [List.getElem?_take_of_lt e] at hu
      exact h.2.1 ad ha j u hu
    · rw [List.getElem?_eq_none (by rw [List.length_take]; omega)] at hu
      cases hu
  · rw [List.length_take] at hi
    rw [List.getD_eq_getElem?_getD, List.getD_eq_getElem?_getD, List.getElem?_take_of_lt (by omega), List.getElem?_take_of_lt (by omega), ← List.getD_eq_getElem?_getD, ← List.getD_eq_getElem?_getD]
    exact h.2.2.1 i (by omega)
theorem Vals.drop {w : World} {b : Addr} {us : List Value} {L : List (List Int)} {k ca : Nat} (h : Vals w (some b) us L) (hm : L.length ≤ ca) (hk : k ≤ L.length) : Vals w (if ca = k then some b else some (b.add k)) (us.drop k) (L.drop k) := by
  refine ⟨by rw [List.length_drop, List.length_drop, h.1], fun ad ha j u hu => ?_, fun i hi => ?_, fun u hu => h.2.2.2 u (List.mem_of_mem_drop hu)⟩
  · rw [List.getElem?_drop] at hu
    have hlt := (List.getElem?_eq_some_iff.1 hu).1
    rw [h.1] at hlt
    rw [if_neg (by omega)] at ha
    cases ha
    rw [Addr.add_add']
    exact h.2.1 b rfl _ u hu
  · rw [List.length_drop] at hi
    rw [List.getD_eq_getElem?_getD, List.getD_eq_getElem?_getD, List.getElem?_drop, List.getElem?_drop, ← List.getD_eq_getElem?_getD, ← List.getD_eq_getElem?_getD]
    exact h.2.2.1 _ (by omega)
end Go.Proofs.Ytdmcncpndogdlaa
namespace Go.Proofs.Ytdmcncpndogdlaa
open Go.RowKit

theorem Bss.rowAt {w : World} {a : Addr} {m c : Nat} {L : List (List Int)} (h : Bss w (.slice (some a) m c) L) {i : Nat} (hi : i < m) : ∃ u, w.cell? (a.add i) = some u ∧ Bs w u (L.getD i []) := by
  obtain ⟨oa', c', he, h2, h3, h4, h5⟩ := h
  obtain ⟨rfl, rfl, rfl⟩ : some a = oa' ∧ m = L.length ∧ c = c' := by simpa using he
  exact h5 a rfl i hi
theorem Bss.addr {w : World} {oa : Option Addr} {m c : Nat} {L : List (List Int)} (h : Bss w (.slice oa m c) L) (hm : 0 < m) : ∃ a, oa = some a := by
  obtain ⟨oa', c', he, h2, h3, h4, h5⟩ := h
  obtain ⟨rfl, rfl, rfl⟩ : oa = oa' ∧ m = L.length ∧ c = c' := by simpa using he
  cases oa with
  | none => have := h4 rfl; omega
  | some a => exact ⟨a, rfl⟩
theorem Bs.form4 {w : World} {v : Value} {l : List Int} (h : Bs w v l) : ∃ o m c, v = .slice o m c := by
  obtain ⟨o, c, h⟩ := h.form
  exact ⟨o, _, c, h⟩
end Go.Proofs.Ytdmcncpndogdlaa
namespace Go.Proofs.Ytdmcncpndogdlaa
open Go.RowKit

theorem info5' : (Try.prog.info? 5).map (fun i => (i.zero, i.size, i.bytes)) = some (some (.int .u8 0), 1, 1) := by kernel_rfl
end Go.Proofs.Ytdmcncpndogdlaa
namespace Go.Proofs.Ytdmcncpndogdlaa
open Go.RowKit

end Go.Proofs.Ytdmcncpndogdlaa
namespace Go.Proofs.Ytdmcncpndogdlaa
open Go.RowKit

end Go.Proofs.Ytdmcncpndogdlaa
namespace Go.Proofs.Ytdmcncpndogdlaa
open Go.RowKit

end Go.Proofs.Ytdmcncpndogdlaa
namespace Go.Proofs.Ytdmcncpndogdlaa

/-- An operation whose guard says no is passed. -/
theorem wpAnyH_skip {P : Program} {md : Region.Mode} {ops : Array Oper} {Q : Exit → Act → World → Prop} {S : World → Prop} {i d : Nat} {oi : Oper} {fuel : Nat} {listed : Array Bool} {a : Act} {w : World} (hi : ops[i]? = some oi) (hd : oi.dst = some d)
    (hs : Region.noSelect ops = true) (hf : Region.free md ops listed i = true) (hr : (Region.ready md ops listed).contains i = true)
    (hQ : ∀ c a w, Q (.panic c) (a.put oi.dst undef) w → Q (.panic c) a w) (hw : Region.wanted oi (yielded ops a.tmps) = false) (hS : S w)
    (h : wpAnyH P md ops Q S fuel (listed.setIfInBounds i true) { a with tmps := a.tmps.setIfInBounds d undef } w) : wpAnyH P md ops Q S (fuel + 1) listed a w :=
  wpAnyH_take hi hs hf hr hQ (.inr ⟨hw, rfl⟩) hS (by rw [hd]; exact h)
/-- An operation that yields v is taken. -/
theorem wpAnyH_yield {P : Program} {md : Region.Mode} {ops : Array Oper} {Q : Exit → Act → World → Prop} {S : World → Prop} {i d : Nat} {oi : Oper} {v : Value} {fuel : Nat} {listed : Array Bool} {a : Act} {w : World} (hi : ops[i]? = some oi) (hd : oi.dst = some d)
    (hs : Region.noSelect ops = true) (hf : Region.free md ops listed i = true) (hr : (Region.ready md ops listed).contains i = true)
    (hQ : ∀ c a w, Q (.panic c) (a.put oi.dst v) w → Q (.panic c) a w) (hy : YieldsIf P ops S oi v a) (hS : S w)
    (h : wpAnyH P md ops Q S fuel (listed.setIfInBounds i true) { a with tmps := a.tmps.setIfInBounds d v } w) : wpAnyH P md ops Q S (fuel + 1) listed a w :=
  wpAnyH_take hi hs hf hr hQ hy hS (by rw [hd]; exact h)
end Go.Proofs.Ytdmcncpndogdlaa
namespace Go.Proofs.Ytdmcncpndogdlaa
open Go.RowKit

/-- The contracts of package system. -/
structure SystemOk : Prop where
end Go.Proofs.Ytdmcncpndogdlaa
