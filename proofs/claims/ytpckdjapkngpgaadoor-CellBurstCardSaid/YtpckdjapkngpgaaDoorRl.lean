/-
  Rows of bytes: laws of lists that the statements on package row lean on.
-/
import Derived.Test.YtpckdjapkngpgaaDoorRk
import Derived.Deep.QuietTactic
import Derived.BigQuiet
import Derived.Test.YtpckdjapkngpgaaDoorAq
namespace Go.Proofs.YtpckdjapkngpgaaDoor
open Go.RowKit

theorem Bs.slice {w : World} {a : Addr} {m cap : Nat} {t : List Int} (h : Bs w (.slice (some a) m cap) t) (hm : t.length = m) (lo hi : Nat) (h1 : lo ≤ hi) (h2 : hi ≤ m) :
    Bs w (.slice (if cap = lo then some a else some (a.add lo)) (hi - lo) (cap - lo)) ((t.drop lo).take (hi - lo)) := by
  obtain ⟨hb, oa, c, he, h3, h4, h5, h6⟩ := h
  cases he
  have hlen : ((t.drop lo).take (hi - lo)).length = hi - lo := by simp; omega
  refine ⟨fun x hx => hb x (List.mem_of_mem_drop (List.mem_of_mem_take hx)), _, cap - lo, by rw [hlen], by rw [hlen]; omega, by omega, ?_, ?_⟩
  · intro hn
    split at hn <;> cases hn
  · intro a' ha i hi2
    rw [hlen] at hi2
    rw [if_neg (by omega)] at ha
    cases ha
    rw [Addr.add_add', h6 a rfl (lo + i) (by omega)]
    congr 2
    rw [List.getD_eq_getElem?_getD, List.getD_eq_getElem?_getD, List.getElem?_take_of_lt hi2, List.getElem?_drop]
theorem Bs.pre {w : World} {a : Addr} {m cap : Nat} {t : List Int} (h : Bs w (.slice (some a) m cap) t) (hm : t.length = m) (n : Nat) (hn : n ≤ m) : Bs w (.slice (some a) n cap) (t.take n) := by
  obtain ⟨hb, oa, c, he, h3, h4, h5, h6⟩ := h
  cases he
  have hlen : (t.take n).length = n := by rw [List.length_take]; omega
  refine ⟨fun x hx => hb x (List.mem_of_mem_take hx), some a, cap, by rw [hlen], by rw [hlen]; omega, h4, (fun h => by cases h), fun a' ha i hi => ?_⟩
  cases ha
  rw [hlen] at hi
  rw [h6 a rfl i (by omega), List.getD_eq_getElem?_getD, List.getD_eq_getElem?_getD, List.getElem?_take_of_lt hi]
theorem same_eq {va vb : Value} {x y : List Int} {w : World} (ha : Bs w va x) (hb : Bs w vb y) (he : x = y) :
    Calls Tryd.prog 11 #[va, vb] w fun e w' => e = .returned (.bool true) ∧ Gr w w' :=
  (same_any va vb x y w ha hb).mono fun _ _ ⟨h, hg⟩ => ⟨by rw [h, he]; simp, hg⟩
theorem ext_getD {x y : List Int} (hl : x.length = y.length) (h : ∀ i, i < x.length → x.getD i 0 = y.getD i 0) : x = y := eq_of_getD hl.symm h
theorem sumL_getD (x y : List Int) (i : Nat) (h : i < x.length) : (sumL x y).getD i 0 = addZ (x.getD i 0) (y.getD i 0) := lst_getD _ _ i h
theorem scaleL_getD (c : Int) (x : List Int) (i : Nat) (h : i < x.length) : (scaleL c x).getD i 0 = mulZ c (x.getD i 0) := lst_getD _ _ i h
theorem axL_getD (c : Int) (x y : List Int) (i : Nat) (h : i < x.length) : (axL c x y).getD i 0 = addZ (y.getD i 0) (mulZ c (x.getD i 0)) := lst_getD _ _ i h
theorem sumL_comm (A B : List Int) (h : A.length = B.length) : sumL A B = sumL B A :=
  ext_getD (by simp [sumL_length, h]) fun i hi => by
    rw [sumL_length] at hi
    rw [sumL_getD _ _ _ hi, sumL_getD _ _ _ (by omega), addZ_comm]
theorem addZ_zero (a : Int) (ha : Byt a) : addZ a 0 = a := by rw [addZ_comm, addZ_zero_left a ha]
theorem sumL_twice (A B : List Int) (hb : ∀ i, Byt (A.getD i 0)) : sumL (sumL A B) B = A :=
  ext_getD (by simp [sumL_length]) fun i hi => by
    rw [sumL_length, sumL_length] at hi
    rw [sumL_getD _ _ _ (by rw [sumL_length]; exact hi), sumL_getD _ _ _ hi, addZ_assoc, addZ_self, addZ_zero _ (hb i)]
theorem axL_sum (c : Int) (A B E : List Int) (h : A.length = B.length) (h2 : A.length = E.length) (hA : ∀ i, Byt (A.getD i 0)) (hB : ∀ i, Byt (B.getD i 0)) : axL c (sumL A B) E = axL c B (axL c A E) :=
  ext_getD (by simp [sumL_length, axL_length, h]) fun i hi => by
    rw [axL_length, sumL_length] at hi
    rw [axL_getD _ _ _ _ (by rw [sumL_length]; exact hi), axL_getD _ _ _ _ (by omega), axL_getD _ _ _ _ hi, sumL_getD _ _ _ hi, mulZ_addZ _ _ _ (hA i) (hB i), addZ_assoc]
theorem scaleL_scale (c d : Int) (A : List Int) : scaleL c (scaleL d A) = scaleL (mulZ c d) A :=
  ext_getD (by simp [scaleL_length]) fun i hi => by
    rw [scaleL_length, scaleL_length] at hi
    rw [scaleL_getD _ _ _ (by rw [scaleL_length]; exact hi), scaleL_getD _ _ _ hi, scaleL_getD _ _ _ hi, mulZ_assoc]

theorem within_gr (x n : Int) (h1 : 1 ≤ n) (h2 : n ≤ 1000000) (w : World) :
    Calls Tryd.prog 10 #[.int .i64 x, .int .i64 n] w fun e w' => e = .returned (.int .i64 (x % n)) ∧ Gr w w' :=
  (within_any x n h1 h2 w).mono fun _ _ ⟨he, hw⟩ => ⟨he, hw ▸ Gr.refl _⟩
theorem Bs.cell_at {w : World} {a : Addr} {n c : Nat} {A : List Int} (h : Bs w (.slice (some a) n c) A) (i : Nat) (hi : i < A.length) : w.cell? (a.add i) = some (.int .u8 (A.getD i 0)) := by
  obtain ⟨_, oa, c', he, _, _, _, h6⟩ := h
  obtain ⟨rfl, _, _⟩ : some a = oa ∧ n = A.length ∧ c = c' := by simpa using he
  exact h6 a rfl i hi
theorem unitL_length (n k : Nat) : (unitL n k).length = n := lst_length _ _
theorem addZ_swap (a b c d : Int) : addZ (addZ a b) (addZ c d) = addZ (addZ a c) (addZ b d) := by
  rw [addZ_assoc, ← addZ_assoc b, addZ_comm b c, addZ_assoc c, ← addZ_assoc]
theorem dot_axpy (c : Int) (A B E : List Int) (hA : ∀ i, Byt (A.getD i 0)) (hB : ∀ i, Byt (B.getD i 0)) (hE : ∀ i, Byt (E.getD i 0)) :
    ∀ k, k ≤ A.length → dotL (axL c A B) E k = addZ (mulZ c (dotL E A k)) (dotL B E k)
  | 0, _ => by simp [dotL, mulZ_zero, addZ_self]
  | k + 1, h => by
    have ih := dot_axpy c A B E hA hB hE k (by omega)
    have e1 : mulZ (addZ (B.getD k 0) (mulZ c (A.getD k 0))) (E.getD k 0) = addZ (mulZ c (mulZ (E.getD k 0) (A.getD k 0))) (mulZ (B.getD k 0) (E.getD k 0)) := by
      rw [mulZ_comm _ (E.getD k 0), mulZ_addZ _ _ _ (hB k) (mulZ_byt _ _), addZ_comm, mulZ_comm (E.getD k 0) (B.getD k 0), mulZ_comm (E.getD k 0) (mulZ c _), mulZ_assoc, mulZ_comm (A.getD k 0)]
    simp only [dotL]
    rw [ih, axL_getD _ _ _ _ (by omega), e1, mulZ_addZ _ _ _ (dotL_byt _ _ _) (mulZ_byt _ _), addZ_swap]
theorem unitL_getD (n k i : Nat) (h : i < n) : (unitL n k).getD i 0 = if i = k then 1 else 0 := lst_getD _ _ i h
theorem dot_unit (n k : Nat) (A : List Int) (hA : ∀ i, Byt (A.getD i 0)) (hk : k < n) : ∀ j, j ≤ n → dotL (unitL n k) A j = if k < j then A.getD k 0 else 0
  | 0, _ => by simp [dotL]
  | j + 1, h => by
    have ih := dot_unit n k A hA hk j (by omega)
    simp only [dotL]
    rw [ih, unitL_getD _ _ _ (by omega)]
    by_cases e : j = k
    · subst e
      rw [if_neg (by omega), if_pos rfl, if_pos (by omega), mulZ_one_left _ (hA j), addZ_zero_left _ (hA j)]
    · rw [if_neg e, mulZ_comm 0, mulZ_zero]
      by_cases h2 : k < j
      · rw [if_pos h2, if_pos (by omega), addZ_zero _ (hA k)]
      · rw [if_neg h2, if_neg (by omega)]
        exact addZ_self 0

end Go.Proofs.YtpckdjapkngpgaaDoor
