/-
  Rows of bytes as rows of the field; a store into a slice of rows.
-/
import Derived.Test.YtpckdjapkngpgaaDoorCs
import Derived.Test.YtpckdjapkngpgaaDoorLec
namespace Go.Proofs.YtpckdjapkngpgaaDoor
open Go.RowKit

def fb (z : Int) : L.Fb := ⟨z.toNat % 256, Nat.mod_lt _ (by decide)⟩
def vec (l : List Int) : L.V := fun i => fb (l.getD i 0)
theorem fb_zero : fb 0 = L.zero := rfl
theorem fb_one : fb 1 = L.one := rfl
theorem fb_inj {a b : Int} (ha : Byt a) (hb : Byt b) (h : fb a = fb b) : a = b := by
  unfold Byt at *
  have := congrArg L.Fb.n h
  simp only [fb] at this
  omega
theorem fb_add {a b : Int} (ha : Byt a) (hb : Byt b) : fb (addZ a b) = L.add (fb a) (fb b) := by
  unfold Byt at *
  apply L.Fb.ext
  simp only [fb, L.add, addZ, Int.toNat_natCast]
  rw [Nat.mod_eq_of_lt (show a.toNat < 256 by omega), Nat.mod_eq_of_lt (show b.toNat < 256 by omega)]
  exact Nat.mod_eq_of_lt (M.xor_lt (by omega) (by omega))
theorem fb_mul {a b : Int} (ha : Byt a) (hb : Byt b) : fb (mulZ a b) = L.mul (fb a) (fb b) := by
  unfold Byt at *
  apply L.Fb.ext
  simp only [fb, L.mul, mulZ, Int.toNat_natCast]
  rw [Nat.mod_eq_of_lt (show a.toNat < 256 by omega), Nat.mod_eq_of_lt (show b.toNat < 256 by omega)]
  exact Nat.mod_eq_of_lt (M.mulN_lt _ _)
theorem fb_inv {a : Int} (ha : Byt a) : fb (invZ a) = L.inv (fb a) := by
  unfold Byt at *
  apply L.Fb.ext
  simp only [fb, L.inv, invZ, Int.toNat_natCast]
  rw [Nat.mod_eq_of_lt (show a.toNat < 256 by omega)]
  exact Nat.mod_eq_of_lt (M.invN_lt _)
theorem fb_ne {a : Int} (ha : Byt a) (h : a ≠ 0) : fb a ≠ L.zero := fun c => h (fb_inj ha (by unfold Byt; omega) (by rw [c, fb_zero]))
theorem getD_byt {l : List Int} (h : ∀ x ∈ l, Byt x) (i : Nat) : Byt (l.getD i 0) := by
  by_cases hi : i < l.length
  · rw [List.getD_eq_getElem?_getD, List.getElem?_eq_getElem hi]
    exact h _ (List.getElem_mem hi)
  · rw [List.getD_eq_getElem?_getD, List.getElem?_eq_none (by omega)]
    unfold Byt
    simp
theorem getD_out {l : List Int} {i : Nat} (h : l.length ≤ i) : l.getD i 0 = 0 := by
  rw [List.getD_eq_getElem?_getD, List.getElem?_eq_none h]
  rfl
theorem vec_supp {l : List Int} {n : Nat} (h : l.length = n) : L.Supp n (vec l) := fun k hk => by
  show fb (l.getD k 0) = L.zero
  rw [getD_out (by omega), fb_zero]
theorem vec_nil : vec [] = L.vzero := rfl
theorem vec_inj {x y : List Int} (hl : x.length = y.length) (hx : ∀ z ∈ x, Byt z) (hy : ∀ z ∈ y, Byt z) (h : vec x = vec y) : x = y :=
  ext_getD hl fun i _ => fb_inj (getD_byt hx i) (getD_byt hy i) (congrFun h i)
theorem vec_scale {c : Int} {x : List Int} (hc : Byt c) (hx : ∀ z ∈ x, Byt z) : vec (scaleL c x) = L.smul (fb c) (vec x) := by
  funext i
  show fb ((scaleL c x).getD i 0) = L.mul (fb c) (fb (x.getD i 0))
  by_cases h : i < x.length
  · rw [scaleL_getD _ _ _ h, fb_mul hc (getD_byt hx i)]
  · rw [getD_out (by rw [scaleL_length]; omega), getD_out (l := x) (by omega), fb_zero, L.mul_zero]
theorem vec_ax {c : Int} {x y : List Int} (hc : Byt c) (hx : ∀ z ∈ x, Byt z) (hy : ∀ z ∈ y, Byt z) (hl : x.length = y.length) : vec (axL c x y) = L.vadd (vec y) (L.smul (fb c) (vec x)) := by
  funext i
  show fb ((axL c x y).getD i 0) = L.add (fb (y.getD i 0)) (L.mul (fb c) (fb (x.getD i 0)))
  by_cases h : i < x.length
  · rw [axL_getD _ _ _ _ h, fb_add (getD_byt hy i) (mulZ_byt _ _), fb_mul hc (getD_byt hx i)]
  · rw [getD_out (by rw [axL_length]; omega), getD_out (l := x) (by omega), getD_out (l := y) (by omega), fb_zero, L.mul_zero, L.add_zero]
theorem vec_sum {x y : List Int} (hx : ∀ z ∈ x, Byt z) (hy : ∀ z ∈ y, Byt z) (hl : x.length = y.length) : vec (sumL x y) = L.vadd (vec x) (vec y) := by
  funext i
  show fb ((sumL x y).getD i 0) = L.add (fb (x.getD i 0)) (fb (y.getD i 0))
  by_cases h : i < x.length
  · rw [sumL_getD _ _ _ h, fb_add (getD_byt hx i) (getD_byt hy i)]
  · rw [getD_out (by rw [sumL_length]; omega), getD_out (l := x) (by omega), getD_out (l := y) (by omega), fb_zero, L.add_zero]
theorem rowAt_vec (A : List (List Int)) (i : Nat) : L.rowAt (A.map vec) i = vec (A.getD i []) := by
  unfold L.rowAt
  rw [List.getElem?_map, List.getD_eq_getElem?_getD]
  cases A[i]? <;> rfl
theorem at_vec (A : List (List Int)) (i j : Nat) : L.rowAt (A.map vec) i j = fb ((A.getD i []).getD j 0) := by
  rw [rowAt_vec]
  rfl

/-- Rows of k bytes each. -/
def Wide (k : Nat) (A : List (List Int)) : Prop := ∀ r ∈ A, r.length = k ∧ ∀ x ∈ r, Byt x
theorem Wide.at {k : Nat} {A : List (List Int)} (h : Wide k A) (i : Nat) (hi : i < A.length) : (A.getD i []).length = k ∧ ∀ x ∈ A.getD i [], Byt x := by
  rw [List.getD_eq_getElem?_getD, List.getElem?_eq_getElem hi]
  exact h _ (List.getElem_mem hi)
theorem Wide.byt {k : Nat} {A : List (List Int)} (h : Wide k A) (i j : Nat) : Byt ((A.getD i []).getD j 0) := by
  by_cases hi : i < A.length
  · exact getD_byt (h.at i hi).2 j
  · have : A.getD i [] = [] := by
      rw [List.getD_eq_getElem?_getD, List.getElem?_eq_none (by omega)]
      rfl
    rw [this]
    unfold Byt
    simp
theorem Wide.set {k : Nat} {A : List (List Int)} (h : Wide k A) (i : Nat) {l : List Int} (hl : l.length = k) (hb : ∀ x ∈ l, Byt x) : Wide k (A.set i l) := by
  intro r hr
  rcases List.mem_or_eq_of_mem_set hr with hr | rfl
  · exact h r hr
  · exact ⟨hl, hb⟩
theorem Wide.take {k : Nat} {A : List (List Int)} (h : Wide k A) (n : Nat) : Wide k (A.take n) := fun r hr => h r (List.mem_of_mem_take hr)
theorem Wide.supp {k : Nat} {A : List (List Int)} (h : Wide k A) : ∀ x ∈ A.map vec, L.Supp k x := by
  intro x hx
  obtain ⟨r, hr, rfl⟩ := List.mem_map.1 hx
  exact vec_supp (h r hr).1
theorem Wide.of_may {A : List (List Int)} (h : mayL A = true) (hb : ∀ r ∈ A, ∀ x ∈ r, Byt x) : Wide ((A.getD 0 []).length) A := by
  intro r hr
  obtain ⟨i, hi, rfl⟩ := List.getElem_of_mem hr
  have := mayL_at h i hi
  rw [List.getD_eq_getElem?_getD, List.getElem?_eq_getElem hi] at this
  exact ⟨this.1, hb _ hr⟩
/-- R is what A, rows of k bytes, is reduced to. -/
def IsRed (k : Nat) (A R : List (List Int)) : Prop := Wide k R ∧ ∃ ps : List Nat, ps.length = R.length ∧ L.Red (A.map vec) (ps.zip (R.map vec))
theorem IsRed.rank {k : Nat} {A R : List (List Int)} (h : IsRed k A R) : L.rk (A.map vec) = R.length := by
  obtain ⟨_, ps, hl, hr⟩ := h
  rw [L.rk_eq hr, List.length_zip, List.length_map, hl, Nat.min_self]
theorem zip_snd {α β : Type} {a : List α} {b c : List β} (h : a.length = b.length) (e : a.zip b = a.zip c) (h2 : a.length = c.length) : b = c := by
  have := congrArg (List.map Prod.snd) e
  rwa [List.map_snd_zip (by omega), List.map_snd_zip (by omega)] at this
theorem map_vec_inj {k : Nat} : ∀ {R S : List (List Int)}, Wide k R → Wide k S → R.map vec = S.map vec → R = S
  | [], [], _, _, _ => rfl
  | [], s :: S, _, _, h => by simp at h
  | r :: R, [], _, _, h => by simp at h
  | r :: R, s :: S, hr, hs, h => by
    rw [List.map_cons, List.map_cons] at h
    obtain ⟨h1, h2⟩ := List.cons.inj h
    have e1 := hr r (by simp)
    have e2 := hs s (by simp)
    rw [vec_inj (by rw [e1.1, e2.1]) e1.2 e2.2 h1, map_vec_inj (fun x hx => hr x (by simp [hx])) (fun x hx => hs x (by simp [hx])) h2]
theorem IsRed.unique {k : Nat} {A R S : List (List Int)} (h : IsRed k A R) (h' : IsRed k A S) : R = S := by
  obtain ⟨hw, ps, hl, hr⟩ := h
  obtain ⟨hw', qs, hl', hr'⟩ := h'
  have e := L.rref_unique hr.1 hr'.1 (hr.2.trans hr'.2.symm)
  have e1 := congrArg (List.map Prod.snd) e
  rw [List.map_snd_zip (by simp [hl]), List.map_snd_zip (by simp [hl'])] at e1
  exact map_vec_inj hw hw' e1

/-- What a call of the document's answers hands back is new memory. -/
theorem Mine.new {w w' : World} {e : Ending} {l : List Int} (h : Mine w w' e l) (hb : ∀ x ∈ l, Byt x) (hn : l.length ≤ 9223372036854775807) : ∃ v, e = .returned v ∧ New w w' v l := by
  obtain ⟨g, he, hge, hk, hg⟩ := h
  exact ⟨_, he, hg, hb, .inr ⟨g, l.length, rowB l, rfl, hge, hk, Nat.le_refl _, hn, fun i hi => rowB_get l i hi⟩⟩
/-- A store of a row into a slice of rows of one's own. -/
theorem ownsRow_set {w : World} {base g n c : Nat} {us : List Value} (h : w.ownsRow base 22 1 (.slice (some ⟨g, 0, none⟩) n c) n us) (i : Nat) (_ : i < n) (u : Value) :
    (w.setCell ⟨g, i, none⟩ u).ownsRow base 22 1 (.slice (some ⟨g, 0, none⟩) n c) n (us.set i u) := by
  obtain ⟨h0, ⟨he, _⟩ | ⟨g', c', cur, he, hb, hg, h1, h2, h3, h4⟩⟩ := h
  · cases he
  · cases he
    refine ⟨by rw [List.length_set]; exact h0, .inr ⟨g, c, cur.setIfInBounds i u, rfl, hb, heap_setCell_same _ _ _ _ _ _ hg, h1, h2, by simpa using h3, ?_⟩⟩
    rw [← h4]
    simp [Array.toList_setIfInBounds, List.take_set]
theorem Rws.set {base : Nat} {w : World} {g n c : Nat} {L : List (List Int)} {us : List Value} (ho : w.ownsRow base 22 1 (.slice (some ⟨g, 0, none⟩) n c) n us) (hl : L.length = n)
    (hr : ∀ i, i < n → Bs w (us.getD i undef) (L.getD i []) ∧ Rb base w (us.getD i undef)) (i : Nat) (hi : i < n) {u : Value} {l : List Int} (hb : Bs w u l) (hrb : Rb base w u) :
    (w.setCell ⟨g, i, none⟩ u).ownsRow base 22 1 (.slice (some ⟨g, 0, none⟩) n c) n (us.set i u) ∧
    ∀ j, j < n → Bs (w.setCell ⟨g, i, none⟩ u) ((us.set i u).getD j undef) ((L.set i l).getD j []) ∧ Rb base (w.setCell ⟨g, i, none⟩ u) ((us.set i u).getD j undef) := by
  have hus : us.length = n := by have := ho.1; omega
  have hrow := ownsRow_not_bytes ho
  have hk : ∀ k, k < w.heap.size → some k ≠ (Value.slice (some ⟨g, 0, none⟩) n c).ownBlock → (w.setCell ⟨g, i, none⟩ u).heap[k]? = w.heap[k]? := by
    intro k _ hne
    have hne' : k ≠ g := fun e => hne (by rw [e]; rfl)
    exact heap_setCell_other _ _ _ _ hne'
  refine ⟨ownsRow_set ho i hi u, fun j hj => ?_⟩
  by_cases e : j = i
  · subst e
    rw [List.getD_eq_getElem?_getD, List.getD_eq_getElem?_getD, List.getElem?_set_self (by omega), List.getElem?_set_self (by omega)]
    exact Rb.kept hb hrb hk hrow
  · rw [List.getD_eq_getElem?_getD, List.getD_eq_getElem?_getD, List.getElem?_set_ne (fun c => e c.symm), List.getElem?_set_ne (fun c => e c.symm), ← List.getD_eq_getElem?_getD, ← List.getD_eq_getElem?_getD]
    exact Rb.kept (hr j hj).1 (hr j hj).2 hk hrow
end Go.Proofs.YtpckdjapkngpgaaDoor
