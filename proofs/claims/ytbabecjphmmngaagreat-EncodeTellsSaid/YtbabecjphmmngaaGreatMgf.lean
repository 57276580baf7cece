/-
  Texts laid behind one another: Mk Mx Ms Pv Pw Co Px La.
-/
import Derived.Test.YtbabecjphmmngaaGreatMge
import Derived.Test.YtbabecjphmmngaaGreatMgd
import Derived.Test.YtbabecjphmmngaaGreatMga
import Derived.Test.YtbabecjphmmngaaGreatMgb
import Derived.Test.YtbabecjphmmngaaGreatMgc
import Derived.Deep.DeepCutAuto
namespace Go.Proofs.YtbabecjphmmngaaGreat
open Go.RowKit

theorem Bss.byt {w : World} {v : Value} {A : List (List Int)} (h : Bss w v A) : ∀ r ∈ A, ∀ x ∈ r, Byt x := by
  intro r hr
  obtain ⟨i, hi, rfl⟩ := List.getElem_of_mem hr
  obtain ⟨a, c, _, _, _, h3⟩ := Bss.at h (by omega)
  obtain ⟨u, _, hu⟩ := h3 i hi
  rw [List.getD_eq_getElem?_getD, List.getElem?_eq_getElem hi] at hu
  exact hu.1
/-- How many columns. -/
def wd (A : List (List Int)) : Nat := (A.getD 0 []).length
theorem wd_nil : wd [] = 0 := rfl
theorem Wide.of_bss {w : World} {v : Value} {A : List (List Int)} (h : Bss w v A) (hm : mayL A = true) : Wide (wd A) A := Wide.of_may hm h.byt
theorem Wide.may {k : Nat} {A : List (List Int)} (h : Wide k A) (hk : k ≤ 64) : mayL A = true := mayL_true fun i hi => by
  have h0 := (h.at i hi).1
  have h1 := (h.at 0 (by omega)).1
  omega
theorem Wide.wd {k : Nat} {A : List (List Int)} (h : Wide k A) (h0 : 0 < A.length) : wd A = k := (h.at 0 h0).1
theorem Wide.nil (k : Nat) : Wide k [] := fun r hr => by simp at hr
/-- The rank, as the algebra has it. -/
noncomputable def rkL (A : List (List Int)) : Nat := L.rk (A.map vec)
/-- out is a times x. -/
def IsMul (m : Nat) (A X out : List (List Int)) : Prop := Wide m out ∧ out.map vec = L.mulM (A.map vec) (X.map vec)
theorem IsMul.unique {m : Nat} {A X o o' : List (List Int)} (h : IsMul m A X o) (h' : IsMul m A X o') : o = o' := map_vec_inj h.1 h'.1 (by rw [h.2, h'.2])
theorem IsMul.length {m : Nat} {A X o : List (List Int)} (h : IsMul m A X o) : o.length = A.length := by
  have := congrArg List.length h.2
  simpa [L.mulM] using this
/-- What Solve answers. -/
def SolSays (A B : List (List Int)) (e : Int) (S : List (List Int)) : Prop :=
  (A = [] ∧ e = 1 ∧ S = []) ∨ (A ≠ [] ∧ rkL A < wd A ∧ e = 9 ∧ S = []) ∨
  (A ≠ [] ∧ rkL A = wd A ∧ e = 0 ∧ S.length = wd A ∧ IsMul (wd B) A S B ∧ Wide (wd B) S) ∨
  (A ≠ [] ∧ rkL A = wd A ∧ e = 10 ∧ S = [] ∧ ∀ M : List L.V, M.length = wd A → (∀ x ∈ M, L.Supp (wd B) x) → L.mulM (A.map vec) M ≠ B.map vec)
theorem SolSays.unique {A B S S' : List (List Int)} {e e' : Int} (hA : Wide (wd A) A) (h : SolSays A B e S) (h' : SolSays A B e' S') : e = e' ∧ S = S' := by
  rcases h with ⟨h0, h1, h2⟩ | ⟨h0, h1, h2, h3⟩ | ⟨h0, h1, h2, h3, h4, h5⟩ | ⟨h0, h1, h2, h3, h4⟩ <;>
  rcases h' with ⟨g0, g1, g2⟩ | ⟨g0, g1, g2, g3⟩ | ⟨g0, g1, g2, g3, g4, g5⟩ | ⟨g0, g1, g2, g3, g4⟩ <;>
  first
    | exact absurd h0 g0
    | exact absurd g0 h0
    | (exfalso; omega)
    | (subst_vars; exact ⟨rfl, rfl⟩)
    | skip
  · refine ⟨by rw [h2, g2], map_vec_inj h5 g5 (L.mul_unique hA.supp h1 (by simp [h3]) (by simp [g3]) ?_)⟩
    rw [← h4.2, ← g4.2]
  · exact absurd h4.2.symm (g4 _ (by simp [h3]) (h5.supp))
  · exact absurd g4.2.symm (h4 _ (by simp [g3]) (g5.supp))

/-- The contracts of package mat. -/
structure MatOk : Prop where
  mayNil : ∀ w, Calls Tryz.prog 38 #[.slice none 0 0] w fun e w' => e = .returned (.bool true) ∧ Gr w w'
  reduce : ∀ (f va : Value) (A : List (List Int)) (w : World), IsF w f → Bss w va A → A.length ≤ 1000 → mayL A = true →
    Calls Tryz.prog 104 #[f, va] w fun e w' => ∃ v R, e = .returned v ∧ Bss w' v R ∧ Gr w w' ∧ IsRed (wd A) A R
  rank : ∀ (f va : Value) (A : List (List Int)) (w : World), IsF w f → Bss w va A → A.length ≤ 1000 → mayL A = true →
    Calls Tryz.prog 84 #[f, va] w fun e w' => e = .returned (.int .i64 (rkL A)) ∧ Gr w w'
  mul : ∀ (f va vx : Value) (A X : List (List Int)) (w : World), IsF w f → Bss w va A → Bss w vx X → A.length ≤ 1000 → X.length ≤ 1000 → mayL A = true → mayL X = true → (A = [] ∨ wd A = X.length) → 
    Calls Tryz.prog 32 #[f, va, vx] w fun e w' => ∃ v out, e = .returned (.tuple #[v, .bool true]) ∧ Bss w' v out ∧ Gr w w' ∧ IsMul (wd X) A X out
  mulNe : ∀ (f va vx : Value) (A X : List (List Int)) (w : World), IsF w f → Bss w va A → Bss w vx X → A.length ≤ 1000 → X.length ≤ 1000 → mayL A = true → mayL X = true → A ≠ [] → wd A ≠ X.length → 
    Calls Tryz.prog 32 #[f, va, vx] w fun e w' => ∃ v, e = .returned (.tuple #[v, .bool false]) ∧ Bss w' v [] ∧ Gr w w'
  solve : ∀ (f va vb : Value) (A B : List (List Int)) (w : World), IsF w f → Bss w va A → Bss w vb B → A.length ≤ 1000 → B.length = A.length → mayL A = true → mayL B = true → (A ≠ [] → 1 ≤ wd A ∧ 1 ≤ wd B) →
    Calls Tryz.prog 21 #[f, va, vb] w fun e w' => ∃ v n S, e = .returned (.tuple #[v, .int .i64 n]) ∧ Bss w' v S ∧ Gr w w' ∧ SolSays A B n S

theorem bss_two {w : World} {g : Nat} {u v : Value} {x y : List Int} {t : TypeId} {fr : Nat × Nat} (h : w.heap[g]? = some (.cells #[u, v] t fr)) (hu : Bs w u x) (hv : Bs w v y) : Bss w (.slice (some ⟨g, 0, none⟩) 2 2) [x, y] :=
  ⟨some ⟨g, 0, none⟩, 2, rfl, by simp, by omega, (fun h => by cases h), fun a ha i hi => by
    cases ha
    rw [Addr.add_mid, Nat.zero_add]
    have : i = 0 ∨ i = 1 := by simp at hi; omega
    rcases this with rfl | rfl
    · exact ⟨u, by rw [cell_of_row w g 0 _ _ _ h]; rfl, hu⟩
    · exact ⟨v, by rw [cell_of_row w g 1 _ _ _ h]; rfl, hv⟩⟩
theorem rk_wake : rkL [[1, 1], [1, 1]] = 1 := by
  have h1 : Wide 2 [[1, 1], [1, 1]] := fun r hr => by
    simp at hr
    subst hr
    exact ⟨rfl, fun x hx => by simp at hx; subst hx; unfold Byt; omega⟩
  have hr : L.Rref [(0, vec [1, 1])] := ⟨List.pairwise_singleton _ _, fun p x h => by
      simp at h
      obtain ⟨rfl, rfl⟩ := h
      rfl, fun p x h k hk => by
      simp at h
      omega, fun p x q y h h' hne => by
      simp at h h'
      omega⟩
  have hs : L.Same (L.rows [(0, vec [1, 1])]) (([[1, 1], [1, 1]] : List (List Int)).map vec) := L.Same.of_mem fun x => by simp [L.rows]
  exact L.rk_eq ⟨hr, hs⟩
end Go.Proofs.YtbabecjphmmngaaGreat
namespace Go.Proofs.YtbabecjphmmngaaGreat
open Go.RowKit

/-- Since w0, block g holds the rows Lm (n of k bytes each), which A has become behind col columns. -/
structure Mx (w0 W : World) (g n c k : Nat) (A Lm : List (List Int)) (ps : List Nat) (col : Nat) (us : List Value) : Prop where
  own : W.ownsRow w0.heap.size 25 1 (.slice (some ⟨g, 0, none⟩) n c) n us
  row : ∀ i, i < n → Bs W (us.getD i undef) (Lm.getD i []) ∧ Rb w0.heap.size W (us.getD i undef)
  len : Lm.length = n
  wide : Wide k Lm
  ech : L.Ech (A.map vec) (Lm.map vec) ps col
  gr : Gr w0 W
section
variable {w0 W : World} {g n c k : Nat} {A Lm : List (List Int)} {ps : List Nat} {col : Nat} {us : List Value}
theorem Mx.cell (h : Mx w0 W g n c k A Lm ps col us) (i : Nat) (hi : i < n) :
    ∃ oi ci, us.getD i undef = .slice oi k ci ∧ W.cell? ⟨g, i, none⟩ = some (.slice oi k ci) ∧ ∀ j, j < k → ∃ a, oi = some a ∧ W.cell? (a.add j) = some (.int .u8 ((Lm.getD i []).getD j 0)) := by
  obtain ⟨g', c', he, _, _, _, _, hc⟩ := ownsRow_cell h.own (by omega)
  cases he
  have hb := (h.row i hi).1
  have hw := (h.wide.at i (by rw [h.len]; exact hi)).1
  obtain ⟨_, oi, ci, e, h1, _, h3, h4⟩ := hb
  rw [hw] at e h1 h4
  refine ⟨oi, ci, e, by rw [hc i hi, e], fun j hj => ?_⟩
  cases oi with
  | none => exact absurd (h3 rfl) (by omega)
  | some a => exact ⟨a, rfl, h4 a rfl j hj⟩
theorem Mx.frozen (h : Mx w0 W g n c k A Lm ps col us) (i : Nat) : W.frozen? ⟨g, i, none⟩ = false := by
  obtain ⟨_, ⟨he, _⟩ | ⟨g', c', cur, he, _, hg, _⟩⟩ := h.own
  · cases he
  · cases he
    exact frozen_of_row W g i _ _ hg
theorem Mx.base (h : Mx w0 W g n c k A Lm ps col us) : w0.heap.size ≤ g := (ownsRow_not_bytes h.own g rfl).1
theorem Mx.us_len (h : Mx w0 W g n c k A Lm ps col us) : us.length = n := by have := h.own.1; omega
theorem Mx.grow {W' : World} (h : Mx w0 W g n c k A Lm ps col us) (hg : Gr W W') : Mx w0 W' g n c k A Lm ps col us :=
  ⟨h.own.of_gr hg, fun i hi => Rb.gr (h.row i hi).1 (h.row i hi).2 hg, h.len, h.wide, h.ech, Gr.trans h.gr hg⟩
theorem Mx.to {qs : List Nat} {col' : Nat} (h : Mx w0 W g n c k A Lm ps col us) (he : L.Ech (A.map vec) (Lm.map vec) qs col') : Mx w0 W g n c k A Lm qs col' us :=
  ⟨h.own, h.row, h.len, h.wide, he, h.gr⟩
/-- A store of a row. -/
theorem Mx.put {qs : List Nat} {col' : Nat} {u : Value} {l : List Int} (h : Mx w0 W g n c k A Lm ps col us) (i : Nat) (hi : i < n) (hb : Bs W u l) (hrb : Rb w0.heap.size W u) (hl : l.length = k)
    (he : L.Ech (A.map vec) ((Lm.set i l).map vec) qs col') : Mx w0 (W.setCell ⟨g, i, none⟩ u) g n c k A (Lm.set i l) qs col' (us.set i u) := by
  obtain ⟨h1, h2⟩ := Rws.set h.own h.len h.row i hi hb hrb
  exact ⟨h1, h2, by rw [List.length_set]; exact h.len, h.wide.set i hl hb.1, he, Gr.setCell h.gr h.base u⟩
/-- Two stores: two rows change places. -/
theorem Mx.swap (h : Mx w0 W g n c k A Lm ps col us) (a d : Nat) (ha : ps.length ≤ a) (ha2 : a < n) (hd : ps.length ≤ d) (hd2 : d < n) :
    Mx w0 ((W.setCell ⟨g, a, none⟩ (us.getD d undef)).setCell ⟨g, d, none⟩ (us.getD a undef)) g n c k A ((Lm.set a (Lm.getD d [])).set d (Lm.getD a [])) ps col ((us.set a (us.getD d undef)).set d (us.getD a undef)) := by
  have hm : (Lm.map vec).length = n := by rw [List.length_map, h.len]
  have he := h.ech.swap (a := a) (d := d) ha (by rw [hm]; exact ha2) hd (by rw [hm]; exact hd2)
  have e1 : ((Lm.set a (Lm.getD d [])).set d (Lm.getD a [])).map vec = ((Lm.map vec).set a (L.rowAt (Lm.map vec) d)).set d (L.rowAt (Lm.map vec) a) := by
    rw [List.map_set, List.map_set, rowAt_vec, rowAt_vec]
  rw [← e1] at he
  have hk : ∀ W' : World, (∀ j, j ≠ g → W'.heap[j]? = W.heap[j]?) → ∀ i, i < n → Bs W' (us.getD i undef) (Lm.getD i []) ∧ Rb w0.heap.size W' (us.getD i undef) := fun W' hW i hi =>
    Rb.kept (h.row i hi).1 (h.row i hi).2 (row := some g) (fun j _ hne => hW j (fun e => hne (by rw [e]))) (fun g' e => by cases e; exact ownsRow_not_bytes h.own g rfl)
  obtain ⟨h1, h2⟩ := Rws.set h.own h.len h.row a ha2 (h.row d hd2).1 (h.row d hd2).2
  have hka := hk (W.setCell ⟨g, a, none⟩ (us.getD d undef)) (fun j hj => heap_setCell_other _ _ _ _ hj) a ha2
  obtain ⟨h3, h4⟩ := Rws.set (L := Lm.set a (Lm.getD d [])) h1 (by rw [List.length_set]; exact h.len) h2 d hd2 hka.1 hka.2
  have wa := h.wide.at a (by rw [h.len]; exact ha2)
  have wd := h.wide.at d (by rw [h.len]; exact hd2)
  exact ⟨h3, h4, by rw [List.length_set, List.length_set]; exact h.len, (h.wide.set a wd.1 wd.2).set d wa.1 wa.2, he, Gr.setCell (Gr.setCell h.gr h.base _) h.base _⟩
/-- Behind the last column: the first rows. -/
theorem Mx.out (h : Mx w0 W g n c k A Lm ps k us) : Rws w0.heap.size W (.slice (some ⟨g, 0, none⟩) ps.length c) (Lm.take ps.length) ∧ Gr w0 W ∧ IsRed k A (Lm.take ps.length) := by
  have hdn : ps.length ≤ n := by have := h.ech.le; rwa [List.length_map, h.len] at this
  have hlen : (Lm.take ps.length).length = ps.length := by rw [List.length_take, h.len]; omega
  refine ⟨⟨us.take ps.length, ?_, fun i hi => ?_⟩, h.gr, h.wide.take _, ps, hlen.symm, ?_⟩
  · obtain ⟨h0, ⟨he, _⟩ | ⟨g', c', cur, he, hb, hg, h1, h2, h3, h4⟩⟩ := h.own
    · cases he
    · cases he
      refine ⟨by rw [List.length_take, hlen]; omega, .inr ⟨g, c, cur, by rw [hlen], hb, hg, by omega, h2, h3, ?_⟩⟩
      rw [← h4, hlen, List.take_take, Nat.mul_one, Nat.mul_one, Nat.min_eq_left hdn]
  · rw [hlen] at hi
    rw [List.getD_eq_getElem?_getD, List.getD_eq_getElem?_getD, List.getElem?_take_of_lt hi, List.getElem?_take_of_lt hi, ← List.getD_eq_getElem?_getD, ← List.getD_eq_getElem?_getD]
    exact h.row i (by omega)
  · have := (h.ech.done h.wide.supp).1
    rwa [← List.map_take] at this
/-- A store of a row, times what is not 0. -/
theorem Mx.scaled {u : Value} {z : Int} (h : Mx w0 W g n c k A Lm ps col us) (d : Nat) (hd : ps.length ≤ d) (hd2 : d < n) (hz : Byt z) (hz0 : z ≠ 0) (hb : Bs W u (scaleL z (Lm.getD d []))) (hrb : Rb w0.heap.size W u) :
    Mx w0 (W.setCell ⟨g, d, none⟩ u) g n c k A (Lm.set d (scaleL z (Lm.getD d []))) ps col (us.set d u) := by
  have wd := h.wide.at d (by rw [h.len]; exact hd2)
  refine h.put d hd2 hb hrb (by rw [scaleL_length]; exact wd.1) ?_
  rw [List.map_set, vec_scale hz wd.2, ← rowAt_vec]
  exact h.ech.scale hd (by rw [List.length_map, h.len]; exact hd2) (fb_ne hz hz0)
/-- A store of a row, plus another one times something. -/
theorem Mx.added {u : Value} {z : Int} (h : Mx w0 W g n c k A Lm ps col us) (i d : Nat) (hd : ps.length ≤ d) (hd2 : d < n) (hi : i < n) (hne : i ≠ d) (hz : Byt z) (hb : Bs W u (axL z (Lm.getD d []) (Lm.getD i []))) (hrb : Rb w0.heap.size W u) :
    Mx w0 (W.setCell ⟨g, i, none⟩ u) g n c k A (Lm.set i (axL z (Lm.getD d []) (Lm.getD i []))) ps col (us.set i u) := by
  have wd := h.wide.at d (by rw [h.len]; exact hd2)
  have wi := h.wide.at i (by rw [h.len]; exact hi)
  refine h.put i hi hb hrb (by rw [axL_length]; exact wd.1) ?_
  rw [List.map_set, vec_ax hz wd.2 wi.2 (by rw [wd.1, wi.1]), ← rowAt_vec, ← rowAt_vec]
  exact h.ech.add hd hne (by rw [List.length_map, h.len]; exact hi)
end
theorem inv_mulZ {z : Int} (hz : Byt z) (h0 : z ≠ 0) : mulZ (invZ z) z = 1 := by
  unfold Byt at hz
  unfold mulZ invZ
  rw [Int.toNat_natCast, M.mulN_comm, M.mulN_inv _ (by omega) (by omega)]
  rfl
theorem invZ_ne {z : Int} (hz : Byt z) (h0 : z ≠ 0) : invZ z ≠ 0 := by
  unfold Byt at hz
  unfold invZ
  have := M.invN_ne z.toNat (by omega)
  omega
theorem getD_set_self (L : List (List Int)) (i : Nat) (l : List Int) (h : i < L.length) : (L.set i l).getD i [] = l := by
  rw [List.getD_eq_getElem?_getD, List.getElem?_set_self h]
  rfl
theorem getD_set_ne (L : List (List Int)) (i j : Nat) (l : List Int) (h : i ≠ j) : (L.set i l).getD j [] = L.getD j [] := by
  rw [List.getD_eq_getElem?_getD, List.getElem?_set_ne h, ← List.getD_eq_getElem?_getD]
theorem frozen_grown {w w' : World} (hg : Gr w w') {a : Addr} {x : Value} (h : w.cell? a = some x) (hf : w.frozen? a = false) : w'.frozen? a = false := by
  rw [World.frozen?_of_block (hg.2.2.2.2 _ (World.block_lt_of_cell? w _ h))]
  exact hf
theorem New.form3 {w w' : World} {v : Value} {l : List Int} (h : New w w' v l) : ∃ o m c, v = .slice o m c := by
  obtain ⟨o, c, h⟩ := (New.bs h).form
  exact ⟨o, _, c, h⟩
theorem New.of_row {w w' : World} {v : Value} {l : List Int} (hg : Gr w w') (hb : ∀ x ∈ l, Byt x) (h : w'.ownsRow w.heap.size 5 1 v l.length (l.map (Value.int .u8))) : New w w' v l := by
  by_cases h0 : 0 < l.length
  · obtain ⟨gg, cap, rfl, _, _⟩ := h.form h0
    exact (New.of_owns hg hb h).2
  · obtain rfl : l = [] := List.eq_nil_of_length_eq_zero (by omega)
    refine ⟨hg, by simp, .inl ⟨rfl, ?_⟩⟩
    obtain ⟨_, ⟨rfl, _⟩ | ⟨g, c, cur, rfl, _, _, _, h2, _⟩⟩ := h
    · exact ⟨none, 0, rfl, fun _ => rfl, by omega⟩
    · exact ⟨_, c, rfl, (fun h => by cases h), by unfold maxLen at h2; omega⟩
end Go.Proofs.YtbabecjphmmngaaGreat
namespace Go.Proofs.YtbabecjphmmngaaGreat
open Go.RowKit

theorem ownsRow_base {w : World} {base : Nat} {e : TypeId} {size : Nat} {v : Value} {n : Nat} {us : List Value} (h : w.ownsRow base e size v n us) : ∀ g, v.ownBlock = some g → base ≤ g := by
  intro g hg
  obtain ⟨_, ⟨rfl, _⟩ | ⟨g', c, cur, rfl, hb, _⟩⟩ := h
  · simp [Value.ownBlock] at hg
  · simp [Value.ownBlock] at hg
    omega
/-- Behind an append of one row to rows under way. -/
theorem Rws.more {base n : Nat} {w0 wo wr w4 : World} {v v' u : Value} {us : List Value} {L : List (List Int)} {l : List Int} (hL : L.length = n) (ho : wo.ownsRow base 25 1 v n us)
    (hr : ∀ i, i < n → Bs wo (us.getD i undef) (L.getD i []) ∧ Rb base wo (us.getD i undef)) (hb : Bs wr u l) (hrb : Rb base wr u) (hg : Gr wo wr) (hown : w4.ownsRow base 25 1 v' (n + 1) (us ++ [u]))
    (hgrow : (wr.alloc (.cells #[u] 25)).grownBy w4 v.ownBlock) (h0 : Gr w0 wo) (hw : w0.heap.size ≤ base) : Rws base w4 v' (L ++ [l]) ∧ Gr w0 w4 := by
  subst hL
  have hg1 : Gr wo (wr.alloc (.cells #[u] 25)) := Gr.alloc hg _ _
  have hg2 : Gr wr (wr.alloc (.cells #[u] 25)) := Gr.alloc (Gr.refl _) _ _
  have hnb := Rb.gr hb hrb hg2
  exact ⟨Rws.append ((ho.of_gr hg).alloc _) (fun i hi => Rb.gr (hr i hi).1 (hr i hi).2 hg1) hnb.1 hnb.2 hown hgrow,
    Gr.append (Gr.trans h0 hg1) hgrow fun k hk => Nat.le_trans hw (ownsRow_base ho k hk)⟩
theorem infoB : (Tryz.prog.info? 5).map (fun i => (i.zero, i.size, i.bytes)) = some (some (.int .u8 0), 1, 1) := by kernel_rfl
theorem Bs.byt' {w : World} {v : Value} {l : List Int} (h : Bs w v l) : ∀ x ∈ l, Byt x := h.1
theorem evenL_length (n : Nat) (l : List Int) : (evenL n l).length = evenN n l := chunk_length _ _ _
theorem evenN_le (n : Nat) (l : List Int) : evenN n l ≤ 14 := Nat.min_le_left _ _
theorem even_wide {n : Nat} {l : List Int} (hb : ∀ x ∈ l, Byt x) (h1 : 1 ≤ n) : Wide n (evenL n l) := by
  intro r hr
  unfold evenL chunk at hr
  obtain ⟨i, hi, rfl⟩ := List.mem_map.1 hr
  have h2 : i < l.length / n := Nat.lt_of_lt_of_le (List.mem_range.1 hi) (Nat.min_le_right _ _)
  have h3 : (i + 1) * n ≤ l.length := (Nat.le_div_iff_mul_le (by omega)).1 (by omega)
  have h4 : n * i + n ≤ l.length := by rw [Nat.mul_comm, ← Nat.succ_mul]; exact h3
  refine ⟨by rw [List.length_take, List.length_drop]; omega, fun x hx => hb x (List.mem_of_mem_drop (List.mem_of_mem_take hx))⟩
/-- The places j of all rows. -/
def colZ (A : List (List Int)) (j : Nat) : List Int := A.map fun r => r.getD j 0
def trZ (n : Nat) (A : List (List Int)) : List (List Int) := (List.range n).map (colZ A)
theorem colZ_length (A : List (List Int)) (j : Nat) : (colZ A j).length = A.length := by simp [colZ]
theorem trZ_length (n : Nat) (A : List (List Int)) : (trZ n A).length = n := by simp [trZ]
theorem colZ_getD (A : List (List Int)) (j i : Nat) : (colZ A j).getD i 0 = (A.getD i []).getD j 0 := by
  unfold colZ
  rw [List.getD_eq_getElem?_getD, List.getElem?_map]
  by_cases h : i < A.length
  · rw [List.getElem?_eq_getElem h, List.getD_eq_getElem?_getD (l := A), List.getElem?_eq_getElem h]
    rfl
  · rw [List.getElem?_eq_none (by omega), List.getD_eq_getElem?_getD (l := A), List.getElem?_eq_none (by omega)]
    rfl
theorem colZ_byt {k : Nat} {A : List (List Int)} (h : Wide k A) (j : Nat) : ∀ x ∈ colZ A j, Byt x := by
  intro x hx
  obtain ⟨r, hr, rfl⟩ := List.mem_map.1 hx
  exact getD_byt (h r hr).2 j
theorem trZ_succ (n : Nat) (A : List (List Int)) : trZ (n + 1) A = trZ n A ++ [colZ A n] := by simp [trZ, List.range_succ]
theorem colZ_succ (A : List (List Int)) (j i : Nat) (hi : i < A.length) : colZ (A.take (i + 1)) j = colZ (A.take i) j ++ [(A.getD i []).getD j 0] := by
  unfold colZ
  rw [List.take_add_one, List.getElem?_eq_getElem hi, List.getD_eq_getElem?_getD (l := A), List.getElem?_eq_getElem hi, List.map_append]
  rfl
theorem trZ_wide {k : Nat} {A : List (List Int)} (h : Wide k A) (n : Nat) : Wide A.length (trZ n A) := by
  intro r hr
  obtain ⟨j, _, rfl⟩ := List.mem_map.1 hr
  exact ⟨colZ_length A j, colZ_byt h j⟩
theorem trZ_vec (n : Nat) (A : List (List Int)) : (trZ n A).map vec = L.tr n (A.map vec) := by
  unfold trZ L.tr
  rw [List.map_map]
  apply List.map_congr_left
  intro j _
  funext i
  show fb ((colZ A j).getD i 0) = L.rowAt (A.map vec) i j
  rw [colZ_getD, at_vec]
theorem trZ_rk {k : Nat} {A : List (List Int)} (h : Wide k A) : rkL (trZ k A) = rkL A := by
  unfold rkL
  rw [trZ_vec]
  exact L.rk_tr h.supp
theorem Bss.take {w : World} {oa : Option Addr} {m c : Nat} {X : List (List Int)} (h : Bss w (.slice oa m c) X) (hm : X.length = m) (n : Nat) (hn : n ≤ m) : Bss w (.slice oa n c) (X.take n) := by
  obtain ⟨oa', c', he, h2, h3, h4, h5⟩ := h
  obtain ⟨rfl, _, rfl⟩ : oa = oa' ∧ m = X.length ∧ c = c' := by simpa using he
  have hl : (X.take n).length = n := by rw [List.length_take]; omega
  refine ⟨oa, c, by rw [hl], by rw [hl]; omega, h3, h4, fun a ha i hi => ?_⟩
  rw [hl] at hi
  obtain ⟨u, h6, h7⟩ := h5 a ha i (by omega)
  refine ⟨u, h6, ?_⟩
  rw [List.getD_eq_getElem?_getD, List.getElem?_take_of_lt hi, ← List.getD_eq_getElem?_getD]
  exact h7
theorem sol_low {A B S : List (List Int)} {e : Int} (h0 : A ≠ []) (hr : rkL A < wd A) (h : SolSays A B e S) : e = 9 ∧ S = [] := by
  rcases h with ⟨q, _⟩ | ⟨_, _, h1, h2⟩ | ⟨_, h1, _⟩ | ⟨_, h1, _⟩
  · exact absurd q h0
  · exact ⟨h1, h2⟩
  · omega
  · omega
theorem sol_back {m : Nat} {A X B S : List (List Int)} {e : Int} (hA : Wide (wd A) A) (h0 : A ≠ []) (hX : Wide m X) (hXl : X.length = wd A) (hB : IsMul m A X B) (hwb : wd B = m) (hr : rkL A = wd A) (h : SolSays A B e S) : e = 0 ∧ S = X := by
  rcases h with ⟨q, _⟩ | ⟨_, h1, _⟩ | ⟨_, _, h1, h2, h3, h4⟩ | ⟨_, _, _, _, h2⟩
  · exact absurd q h0
  · omega
  · refine ⟨h1, map_vec_inj h4 (by rw [hwb]; exact hX) (L.mul_unique hA.supp hr (by simp [h2]) (by simp [hXl]) ?_)⟩
    rw [← h3.2, ← hB.2]
  · exact absurd hB.2.symm (h2 _ (by simp [hXl]) (by rw [hwb]; exact hX.supp))
theorem sol_any {A C S : List (List Int)} {e : Int} (hA : Wide (wd A) A) (h0 : A ≠ []) (hC : Wide (wd C) C) (hCl : C.length = A.length) (hr : rkL A = wd A) (h : SolSays A C e S) :
    (e = 0 ∧ S.length = wd A ∧ IsMul (wd C) A S C ∧ Wide (wd C) S) ∨ (e = 10 ∧ A.length ≠ wd A) := by
  rcases h with ⟨q, _⟩ | ⟨_, h1, _⟩ | ⟨_, _, h1, h2, h3, h4⟩ | ⟨_, _, h1, _, h2⟩
  · exact absurd q h0
  · omega
  · exact .inl ⟨h1, h2, h3, h4⟩
  · refine .inr ⟨h1, fun e => ?_⟩
    obtain ⟨M, m1, m2, m3⟩ := L.square hA.supp (by simp [e]) hr (C := C.map vec) (by simp [hCl, e]) hC.supp
    exact h2 M m1 m2 m3
theorem rkL_nil : rkL [] = 0 := L.rk_eq (R := []) ⟨L.Rref.nil, L.Same.refl _⟩
theorem rkL_le_cols {k : Nat} {A : List (List Int)} (h : Wide k A) : rkL A ≤ k := L.rk_le_cols h.supp
theorem rkL_le_rows {k : Nat} {A : List (List Int)} (h : Wide k A) : rkL A ≤ A.length := by
  have := L.rk_le_len h.supp
  rwa [List.length_map] at this
theorem IsMul.rk {k m : Nat} {A X o : List (List Int)} (h : IsMul m A X o) (hA : Wide k A) (hX : Wide m X) : rkL o ≤ rkL A ∧ rkL o ≤ rkL X := by
  unfold rkL
  rw [h.2]
  exact ⟨L.rk_mul_left hA.supp hX.supp, L.rk_mul_right hX.supp⟩
end Go.Proofs.YtbabecjphmmngaaGreat
namespace Go.Proofs.YtbabecjphmmngaaGreat
open Go.RowKit

namespace L
/-! ### Unit rows -/
theorem units_red (k : Nat) : Red ((List.range k).map unit) ((List.range k).map fun i => (i, unit i)) := by
  have hm : ∀ {p : Nat} {x : V}, (p, x) ∈ (List.range k).map (fun i => (i, unit i)) → p < k ∧ x = unit p := fun h => by
    obtain ⟨i, hi, he⟩ := List.mem_map.1 h
    cases he
    exact ⟨List.mem_range.1 hi, rfl⟩
  refine ⟨⟨?_, fun p x h => ?_, fun p x h j hj => ?_, fun p x q y h h' hne => ?_⟩, ?_⟩
  · rw [List.pairwise_map]
    exact List.pairwise_lt_range
  · obtain ⟨_, rfl⟩ := hm h
    simp [unit]
  · obtain ⟨_, rfl⟩ := hm h
    unfold unit
    rw [if_neg (by omega)]
  · obtain ⟨_, rfl⟩ := hm h
    unfold unit
    rw [if_neg (fun e => hne e.symm)]
  · have : rows ((List.range k).map fun i => (i, unit i)) = (List.range k).map unit := by
      unfold rows
      rw [List.map_map]
      rfl
    rw [this]
    exact Same.refl _
theorem units_rk (k : Nat) : rk ((List.range k).map unit) = k := by
  rw [rk_eq (units_red k)]
  simp
/-- Rows that reach each unit row have all the rank. -/
theorem rk_of_units {k : Nat} {A : List V} (hA : ∀ x ∈ A, Supp k x) (h : ∀ i, i < k → Sp A (unit i)) : rk A = k := by
  refine Nat.le_antisymm (rk_le_cols hA) ?_
  have h1 := rk_mono (n := k) (A := (List.range k).map unit) (B := A) (fun x hx => by
    obtain ⟨i, hi, rfl⟩ := List.mem_map.1 hx
    exact unit_supp (List.mem_range.1 hi)) hA (fun x hx => by
    obtain ⟨i, hi, rfl⟩ := List.mem_map.1 hx
    exact h i (List.mem_range.1 hi))
  rwa [units_rk] at h1
/-! ### Powers of unlike things, side by side -/
/-- Of k things x the first powers, the second ones, and so on. -/
def vrow (x : Nat → Fb) (k : Nat) : Nat → V
  | 0 => fun j => if j < k then x j else zero
  | h + 1 => fun j => mul (x j) (vrow x k h j)
def xmul (x : Nat → Fb) (v : V) : V := fun j => mul (x j) (v j)
theorem xmul_step (x : Nat → Fb) (c : Fb) (u v : V) : xmul x (vadd (smul c u) v) = vadd (smul c (xmul x u)) (xmul x v) := by
  funext j
  show mul (x j) (add (mul c (u j)) (v j)) = add (mul c (mul (x j) (u j))) (mul (x j) (v j))
  rw [mul_add, ← mul_assoc, mul_comm (x j) c, mul_assoc]
theorem xmul_span (x : Nat → Fb) (k d : Nat) {v : V} (h : Sp ((List.range d).map (vrow x k)) v) : Sp ((List.range (d + 1)).map (vrow x k)) (xmul x v) := by
  induction h with
  | zero =>
    have : xmul x vzero = vzero := funext fun j => mul_zero _
    rw [this]
    exact Sp.zero
  | step c u v hu _ ih =>
    rw [xmul_step]
    refine Sp.step c _ _ ?_ ih
    obtain ⟨i, hi, rfl⟩ := List.mem_map.1 hu
    exact List.mem_map.2 ⟨i + 1, List.mem_range.2 (by have := List.mem_range.1 hi; omega), rfl⟩
/-- The first powers times all (x + a), a in rs. -/
def prodv (x : Nat → Fb) (k : Nat) : List Fb → V
  | [] => vrow x k 0
  | a :: rs => vadd (xmul x (prodv x k rs)) (smul a (prodv x k rs))
theorem prodv_at (x : Nat → Fb) (k : Nat) (a : Fb) (rs : List Fb) (j : Nat) : prodv x k (a :: rs) j = mul (add (x j) a) (prodv x k rs j) := by
  show add (mul (x j) (prodv x k rs j)) (mul a (prodv x k rs j)) = _
  rw [add_mul]
theorem prodv_span (x : Nat → Fb) (k : Nat) : ∀ rs : List Fb, Sp ((List.range (rs.length + 1)).map (vrow x k)) (prodv x k rs)
  | [] => Sp.mem (by simp [prodv])
  | a :: rs => by
    have ih := prodv_span x k rs
    refine Sp.add (xmul_span x k _ ih) (Sp.smul a (Sp.mono (fun v hv => ?_) ih))
    obtain ⟨i, hi, rfl⟩ := List.mem_map.1 hv
    exact List.mem_map.2 ⟨i, List.mem_range.2 (by have := List.mem_range.1 hi; simp; omega), rfl⟩
theorem prodv_zero (x : Nat → Fb) (k j : Nat) : ∀ rs : List Fb, (k ≤ j ∨ x j ∈ rs) → prodv x k rs j = zero
  | [], h => by
    rcases h with h | h
    · show (if j < k then x j else zero) = zero
      rw [if_neg (by omega)]
    · cases h
  | a :: rs, h => by
    rw [prodv_at]
    by_cases e : x j = a
    · rw [e, add_self, zero_mul]
    · rw [prodv_zero x k j rs (by
        rcases h with h | h
        · exact .inl h
        · rcases List.mem_cons.1 h with h | h
          · exact absurd h e
          · exact .inr h), mul_zero]
theorem prodv_ne (x : Nat → Fb) (k j : Nat) (hj : j < k) (h0 : x j ≠ zero) : ∀ rs : List Fb, x j ∉ rs → prodv x k rs j ≠ zero
  | [], _ => by
    show (if j < k then x j else zero) ≠ zero
    rwa [if_pos hj]
  | a :: rs, h => by
    rw [prodv_at]
    intro e
    refine prodv_ne x k j hj h0 rs (fun c => h (List.mem_cons_of_mem _ c)) (mul_eq_zero e fun c => ?_)
    exact h (by rw [eq_of_add c]; exact List.mem_cons_self)
theorem vrow_supp (x : Nat → Fb) (k : Nat) : ∀ h, Supp k (vrow x k h)
  | 0 => fun j hj => by
    show (if j < k then x j else zero) = zero
    rw [if_neg (by omega)]
  | h + 1 => fun j hj => by
    show mul (x j) (vrow x k h j) = zero
    rw [vrow_supp x k h j hj, mul_zero]
/-- Unlike things, none of them 0: as many powers of them as there are have all the rank. -/
theorem vrow_rk (x : Nat → Fb) (k n : Nat) (hk : k ≤ n) (h0 : ∀ i, i < k → x i ≠ zero) (hne : ∀ i j, i < k → j < k → i ≠ j → x i ≠ x j) : rk ((List.range n).map (vrow x k)) = k := by
  refine rk_of_units (fun v hv => ?_) fun i hi => ?_
  · obtain ⟨h, _, rfl⟩ := List.mem_map.1 hv
    exact vrow_supp x k h
  · obtain ⟨rs, hrs⟩ : ∃ rs, ((List.range i).map x ++ (List.range (k - i - 1)).map fun j => x (i + 1 + j)) = rs := ⟨_, rfl⟩
    have hl : rs.length = k - 1 := by rw [← hrs]; simp; omega
    have hn : x i ∉ rs := by
      rw [← hrs, List.mem_append]
      rintro (h | h)
      · obtain ⟨j, hj, e⟩ := List.mem_map.1 h
        have := List.mem_range.1 hj
        exact hne j i (by omega) hi (by omega) e
      · obtain ⟨j, hj, e⟩ := List.mem_map.1 h
        have := List.mem_range.1 hj
        exact hne (i + 1 + j) i (by omega) hi (by omega) e
    have hin : ∀ j, j < k → j ≠ i → x j ∈ rs := fun j hj e => by
      rw [← hrs, List.mem_append]
      by_cases c : j < i
      · exact .inl (List.mem_map.2 ⟨j, List.mem_range.2 c, rfl⟩)
      · exact .inr (List.mem_map.2 ⟨j - i - 1, List.mem_range.2 (by omega), by rw [show i + 1 + (j - i - 1) = j from by omega]⟩)
    have hc := prodv_ne x k i hi (h0 i hi) rs hn
    have hu : unit i = smul (inv (prodv x k rs i)) (prodv x k rs) := by
      funext j
      show (if j = i then one else zero) = mul (inv (prodv x k rs i)) (prodv x k rs j)
      by_cases e : j = i
      · subst e
        rw [if_pos rfl, inv_mul _ hc]
      · rw [if_neg e, prodv_zero x k j rs (by
          by_cases c : j < k
          · exact .inr (hin j c e)
          · exact .inl (by omega)), mul_zero]
    rw [hu]
    refine Sp.smul _ (Sp.mono (fun v hv => ?_) (prodv_span x k rs))
    obtain ⟨h, hh, rfl⟩ := List.mem_map.1 hv
    have := List.mem_range.1 hh
    exact List.mem_map.2 ⟨h, List.mem_range.2 (by omega), rfl⟩
end L
/-! ### The rows ahead -/
def aheadF (K h : Nat) : Nat → Int := fun j => if j < K then expZ (((h + 1) * (j + 1) : Nat) : Int) else if j = K + h then 1 else 0
def aheadRow (K H h : Nat) : List Int := lst (K + H) (aheadF K h)
def ahead (K H : Nat) : List (List Int) := (List.range H).map (aheadRow K H)
theorem aheadF_byt (K h j : Nat) : Byt (aheadF K h j) := by
  unfold aheadF
  split
  · exact expZ_byt _
  · split <;> (unfold Byt; omega)
theorem aheadRow_length (K H h : Nat) : (aheadRow K H h).length = K + H := lst_length _ _
theorem ahead_length (K H : Nat) : (ahead K H).length = H := by simp [ahead]
theorem ahead_getD {K H h : Nat} (hh : h < H) : (ahead K H).getD h [] = aheadRow K H h := by
  simp [ahead, List.getD_eq_getElem?_getD, hh]
theorem ahead_wide (K H : Nat) : Wide (K + H) (ahead K H) := fun r hr => by
  obtain ⟨h, _, rfl⟩ := List.mem_map.1 hr
  exact ⟨aheadRow_length K H h, lst_byt fun i _ => aheadF_byt K h i⟩
theorem ahead_at {K H h j : Nat} (hh : h < H) (hj : j < K + H) : ((ahead K H).getD h []).getD j 0 = aheadF K h j := by
  rw [ahead_getD hh]
  exact lst_getD _ _ _ hj
theorem ahead_rk (K H : Nat) : rkL (ahead K H) = H := by
  have hw := (ahead_wide K H).supp
  refine Nat.le_antisymm ?_ ?_
  · have := rkL_le_rows (ahead_wide K H)
    rwa [ahead_length] at this
  · have h1 := L.rk_mono (n := H) (A := (List.range H).map L.unit) (B := L.tr (K + H) ((ahead K H).map vec)) (fun x hx => by
      obtain ⟨i, hi, rfl⟩ := List.mem_map.1 hx
      exact L.unit_supp (List.mem_range.1 hi)) (by
      have := L.tr_supp (K + H) ((ahead K H).map vec)
      rwa [List.length_map, ahead_length] at this) (fun x hx => by
      obtain ⟨i, hi, rfl⟩ := List.mem_map.1 hx
      have hi := List.mem_range.1 hi
      refine L.Sp.mem (List.mem_map.2 ⟨K + i, List.mem_range.2 (by omega), ?_⟩)
      funext t
      show L.rowAt ((ahead K H).map vec) t (K + i) = if t = i then L.one else L.zero
      rw [rowAt_vec]
      by_cases ht : t < H
      · show fb (((ahead K H).getD t []).getD (K + i) 0) = _
        rw [ahead_at ht (by omega)]
        unfold aheadF
        rw [if_neg (by omega)]
        by_cases e : t = i
        · rw [if_pos (by omega), if_pos e, fb_one]
        · rw [if_neg (by omega), if_neg e, fb_zero]
      · have : (ahead K H).getD t [] = [] := by
          rw [List.getD_eq_getElem?_getD, List.getElem?_eq_none (by rw [ahead_length]; omega)]
          rfl
        rw [this, if_neg (by omega)]
        rfl)
    rw [L.units_rk, L.rk_tr hw] at h1
    exact h1
theorem expZ_ne (n : Int) : expZ n ≠ 0 := fun h => by
  have := expZ_neg n
  rw [h, mulZ_comm, mulZ_zero] at this
  omega
theorem expZ_inj {a b : Nat} (ha : a < 255) (hb : b < 255) (h : expZ a = expZ b) : a = b := by
  rw [expZ_nat a ha, expZ_nat b hb] at h
  have h1 := lgZ_ex a ha
  have h2 := lgZ_ex b hb
  rw [h] at h1
  omega
/-- Columns of the rows ahead, side by side. -/
def sideRow (K H h first k : Nat) : List Int := ((aheadRow K H h).drop first).take k
theorem side_rk {K H first k : Nat} (hk : k ≤ H) (hf : first + k ≤ K) (hK : K ≤ 16) : rkL ((List.range H).map fun h => sideRow K H h first k) = k := by
  have hv : ∀ h, h < H → vec (sideRow K H h first k) = L.vrow (fun j => fb (expZ ((first + j + 1 : Nat) : Int))) k h := fun h hh => by
    have hat : ∀ j, (sideRow K H h first k).getD j 0 = if j < k then expZ (((h + 1) * (first + j + 1) : Nat) : Int) else 0 := fun j => by
      unfold sideRow
      by_cases c : j < k
      · rw [if_pos c, List.getD_eq_getElem?_getD, List.getElem?_take_of_lt c, List.getElem?_drop, ← List.getD_eq_getElem?_getD]
        unfold aheadRow
        rw [lst_getD _ _ _ (by omega)]
        unfold aheadF
        rw [if_pos (by omega)]
      · rw [if_neg c]
        exact getD_out (by rw [List.length_take]; omega)
    funext j
    show fb ((sideRow K H h first k).getD j 0) = _
    rw [hat]
    clear hat hh
    induction h with
    | zero =>
      show _ = if j < k then fb (expZ ((first + j + 1 : Nat) : Int)) else L.zero
      split
      · rw [Nat.zero_add, Nat.one_mul]
      · exact fb_zero
    | succ h ih =>
      show _ = L.mul (fb (expZ ((first + j + 1 : Nat) : Int))) (L.vrow _ k h j)
      rw [← ih]
      split
      · rw [← fb_mul (expZ_byt _) (expZ_byt _), expZ_add, show ((first + j + 1 : Nat) : Int) + (((h + 1) * (first + j + 1) : Nat) : Int) = (((h + 1 + 1) * (first + j + 1) : Nat) : Int) from by
          rw [← Int.natCast_add]
          congr 1
          rw [Nat.add_mul (h + 1) 1, Nat.one_mul, Nat.add_comm]]
      · rw [fb_zero, L.mul_zero]
  have he : ((List.range H).map fun h => sideRow K H h first k).map vec = (List.range H).map (L.vrow (fun j => fb (expZ ((first + j + 1 : Nat) : Int))) k) := by
    rw [List.map_map]
    exact List.map_congr_left fun h hh => hv h (List.mem_range.1 hh)
  unfold rkL
  rw [he]
  refine L.vrow_rk _ k H hk (fun i hi c => ?_) fun i j hi hj hne c => ?_
  · exact expZ_ne _ (fb_inj (expZ_byt _) (by unfold Byt; omega) (by rw [c, fb_zero]))
  · have := expZ_inj (by omega) (by omega) (fb_inj (expZ_byt _) (expZ_byt _) c)
    omega
/-- What a row ahead comes to. -/
theorem dotL_congr {x y y' : List Int} : ∀ k, (∀ j, j < k → y.getD j 0 = y'.getD j 0) → dotL x y k = dotL x y' k
  | 0, _ => rfl
  | k + 1, h => by
    show addZ (dotL x y k) _ = addZ (dotL x y' k) _
    rw [dotL_congr k fun j hj => h j (by omega), h k (by omega)]
theorem dot_ahead {K H h : Nat} (hh : h < H) {y : List Int} (hb : ∀ z ∈ y, Byt z) : ∀ t, t ≤ H → dotL (aheadRow K H h) y (K + t) = addZ (dotL (aheadRow K H h) y K) (if h < t then y.getD (K + h) 0 else 0)
  | 0, _ => by
    rw [if_neg (by omega)]
    exact (addZ_zero _ (dotL_byt _ _ _)).symm
  | t + 1, ht => by
    have ih := dot_ahead (K := K) hh hb t (by omega)
    show addZ (dotL (aheadRow K H h) y (K + t)) (mulZ ((aheadRow K H h).getD (K + t) 0) (y.getD (K + t) 0)) = _
    have hr : (aheadRow K H h).getD (K + t) 0 = if t = h then 1 else 0 := by
      unfold aheadRow
      rw [lst_getD _ _ _ (by omega)]
      unfold aheadF
      rw [if_neg (by omega)]
      by_cases e : t = h
      · rw [if_pos (by omega), if_pos e]
      · rw [if_neg (by omega), if_neg e]
    rw [ih, hr]
    have hyb := getD_byt hb (K + h)
    by_cases e : t = h
    · subst e
      rw [if_pos rfl, if_neg (by omega), if_pos (by omega), addZ_zero _ (dotL_byt _ _ _), mulZ_comm, mulZ_one _ hyb]
    · rw [if_neg e, mulZ_comm, mulZ_zero]
      by_cases c : h < t
      · rw [if_pos c, if_pos (by omega), addZ_zero _ (addZ_byt (dotL_byt _ _ _) hyb)]
      · rw [if_neg c, if_neg (by omega), addZ_zero _ (addZ_byt (dotL_byt _ _ _) (by unfold Byt; omega))]
end Go.Proofs.YtbabecjphmmngaaGreat
namespace Go.Proofs.YtbabecjphmmngaaGreat
open Go.RowKit

/-- Parameters, as they are handed in. -/
abbrev par (K H S : Int) : Value := .agg #[.int .i64 K, .int .i64 H, .int .i64 S]
def MayP (K H S : Int) : Prop := 1 ≤ K ∧ K ≤ 16 ∧ 1 ≤ H ∧ H ≤ 4 ∧ 1 ≤ S ∧ S ≤ 24
instance (K H S : Int) : Decidable (MayP K H S) := by unfold MayP; exact inferInstance
def colsP (K H S : Int) : Int := if MayP K H S then K + H else 0
def aheadP (K H S : Int) : List (List Int) := if MayP K H S then ahead K.toNat H.toNat else []
set_option maxHeartbeats 400000 in
theorem refMay_any (K H S : Int) (w : World) :
    Calls Tryz.prog 25 #[par K H S] w fun e w' => e = .returned (.bool (decide (MayP K H S))) ∧ Gr w w' := by
  go_enter Tryz.func25, Tryz.ntmps25
  go_wp2
  all_goals
    go_ret
    refine ⟨?_, Gr.alloc (Gr.refl _) _ _⟩
    first
      | (rw [show decide (MayP K H S) = false from decide_eq_false (by unfold MayP; omega)]; rfl)
      | (rw [show decide (MayP K H S) = decide (S ≤ 24) from by rw [decide_eq_decide]; unfold MayP; omega]; rfl)
/-- Parameters lie in block g. -/
def Par (w : World) (g : Nat) (K H S : Int) : Prop := w.heap[g]? = some (.cells #[.int .i64 K, .int .i64 H, .int .i64 S] 23 (0, 0))
theorem Par.grown {w w' : World} {g : Nat} {K H S : Int} (h : Par w g K H S) (hg : Gr w w') : Par w' g K H S := keptRow hg h
theorem Par.cell0 {w : World} {g : Nat} {K H S : Int} (h : Par w g K H S) : w.cell? ⟨g, 0, none⟩ = some (.int .i64 K) := by rw [cell_of_row w g 0 _ _ _ h]; rfl
theorem Par.cell1 {w : World} {g : Nat} {K H S : Int} (h : Par w g K H S) : w.cell? ⟨g, 1, none⟩ = some (.int .i64 H) := by rw [cell_of_row w g 1 _ _ _ h]; rfl
theorem Par.cell2 {w : World} {g : Nat} {K H S : Int} (h : Par w g K H S) : w.cell? ⟨g, 2, none⟩ = some (.int .i64 S) := by rw [cell_of_row w g 2 _ _ _ h]; rfl
set_option maxHeartbeats 400000 in
theorem refCols_any (K H S : Int) (w : World) :
    Calls Tryz.prog 51 #[par K H S] w fun e w' => e = .returned (.int .i64 (colsP K H S)) ∧ Gr w w' := by
  unfold colsP
  by_cases hm : MayP K H S
  · have hd := decide_eq_true hm
    have HM := Lib.hid hm
    rw [if_pos hm]
    have hk : -9223372036854775808 ≤ K + H ∧ K + H ≤ 9223372036854775807 := by have := hm; unfold MayP at this; omega
    have hwr : IntKind.i64.wrap (K + H) = K + H := by have := hk; simp [IntKind.wrap, IntKind.bits, IntKind.signed]; omega
    clear hm
    go_enter Tryz.func51, Tryz.ntmps51
    go_wp2_with fail
    refine (refMay_any K H S _).mono ?_
    rw [hd]
    rintro e w1 ⟨rfl, hg⟩
    have P1 : Par w1 w.heap.size K H S := Par.grown (heap_alloc_new w _) hg
    have c0 := P1.cell0
    have c1 := P1.cell1
    have G1 := Lib.hid (Gr.trans (Gr.alloc (Gr.refl w) _ _) hg)
    clear hg P1
    go_wp2_with fail
    go_ret
    exact ⟨rfl, G1.out⟩
  · have hd := decide_eq_false hm
    rw [if_neg hm]
    clear hm
    go_enter Tryz.func51, Tryz.ntmps51
    go_wp2_with fail
    refine (refMay_any K H S _).mono ?_
    rw [hd]
    rintro e w1 ⟨rfl, hg⟩
    have G1 := Lib.hid (Gr.trans (Gr.alloc (Gr.refl w) _ _) hg)
    clear hg
    go_wp2_with fail
    go_ret
    exact ⟨rfl, G1.out⟩
set_option maxHeartbeats 400000 in
theorem params_any (a b c : Int) (w : World) :
    Calls Tryz.prog 5 #[.int .i64 a, .int .i64 b, .int .i64 c] w fun e w' => e = .returned (par (1 + a % 16) (1 + b % 4) (1 + c % 24)) ∧ Gr w w' := by
  obtain ⟨x, hx, hx2⟩ : ∃ x : Nat, a % 16 = x ∧ x < 16 := ⟨(a % 16).toNat, by omega, by omega⟩
  obtain ⟨y, hy, hy2⟩ : ∃ x : Nat, b % 4 = x ∧ x < 4 := ⟨(b % 4).toNat, by omega, by omega⟩
  obtain ⟨z, hz, hz2⟩ : ∃ x : Nat, c % 24 = x ∧ x < 24 := ⟨(c % 24).toNat, by omega, by omega⟩
  have HX := Lib.hid hx
  have HY := Lib.hid hy
  have HZ := Lib.hid hz
  rw [hx, hy, hz]
  clear hx hy hz
  go_enter Tryz.func5, Tryz.ntmps5
  go_wp2_with fail
  refine (within_any a 16 (by omega) (by omega) _).mono ?_
  rintro e w' ⟨rfl, rfl⟩
  rw [HX.out]
  go_wp2_with fail
  refine (within_any b 4 (by omega) (by omega) _).mono ?_
  rintro e w' ⟨rfl, rfl⟩
  rw [HY.out]
  go_wp2_with fail
  refine (within_any c 24 (by omega) (by omega) _).mono ?_
  rintro e w' ⟨rfl, rfl⟩
  rw [HZ.out]
  go_wp2_with fail
  exact bodyPost_ret_by (results_cell_row rfl _ _ w.heap.size 23 _ (0, 0) _ rfl (heap_alloc_new _ _) Tryz.underlying23 rfl (by kernel_rfl)) rfl ⟨rfl, Gr.alloc (Gr.refl _) _ _⟩
end Go.Proofs.YtbabecjphmmngaaGreat
namespace Go.Proofs.YtbabecjphmmngaaGreat
open Go.RowKit

def blkOf : Value → Option Nat
  | .slice (some a) _ _ => some a.block
  | _ => none
/-- Each row lies in a block of its own, from base on. -/
def Own (base : Nat) (w : World) (us : List Value) : Prop :=
  (∀ i, i < us.length → ∃ g m c, us.getD i undef = .slice (some ⟨g, 0, none⟩) m c ∧ base ≤ g ∧ g < w.heap.size) ∧
  ∀ i j, i < j → j < us.length → blkOf (us.getD i undef) ≠ blkOf (us.getD j undef)
theorem Own.nil (base : Nat) (w : World) : Own base w [] := ⟨fun i hi => by simp at hi, fun i j _ hj => by simp at hj⟩
theorem getD_append_left' {us : List Value} {u : Value} {i : Nat} (h : i < us.length) : (us ++ [u]).getD i undef = us.getD i undef := by
  rw [List.getD_eq_getElem?_getD, List.getElem?_append_left h, ← List.getD_eq_getElem?_getD]
theorem getD_append_last' (us : List Value) (u : Value) : (us ++ [u]).getD us.length undef = u := by
  rw [List.getD_eq_getElem?_getD, List.getElem?_append_right (Nat.le_refl _)]
  simp
theorem Own.append {base g m c : Nat} {w w1 w2 : World} {us : List Value} (h : Own base w us) (hg : w.heap.size ≤ g) (hg2 : g < w1.heap.size) (hb : base ≤ g) (_ : w.heap.size ≤ w1.heap.size) (h2 : w1.heap.size ≤ w2.heap.size) :
    Own base w2 (us ++ [.slice (some ⟨g, 0, none⟩) m c]) := by
  obtain ⟨ha, hd⟩ := h
  refine ⟨fun i hi => ?_, fun i j hij hj => ?_⟩
  · rw [List.length_append, List.length_singleton] at hi
    by_cases e : i < us.length
    · obtain ⟨g', m', c', q1, q2, q3⟩ := ha i e
      exact ⟨g', m', c', by rw [getD_append_left' e]; exact q1, q2, by omega⟩
    · obtain rfl : i = us.length := by omega
      exact ⟨g, m, c, getD_append_last' _ _, hb, by omega⟩
  · rw [List.length_append, List.length_singleton] at hj
    by_cases e : j < us.length
    · rw [getD_append_left' e, getD_append_left' (by omega)]
      exact hd i j hij e
    · obtain rfl : j = us.length := by omega
      rw [getD_append_last', getD_append_left' hij]
      obtain ⟨g', m', c', q1, q2, q3⟩ := ha i hij
      rw [q1]
      simp [blkOf]
      omega
def RwsO (base : Nat) (w : World) (v : Value) (L : List (List Int)) : Prop :=
  ∃ us, w.ownsRow base 25 1 v L.length us ∧ (∀ i, i < L.length → Bs w (us.getD i undef) (L.getD i []) ∧ Rb base w (us.getD i undef)) ∧ Own base w us
theorem RwsO.nil (base : Nat) (w : World) : RwsO base w (.slice none 0 0) [] := ⟨[], World.ownsRow_nil w base 25 1, fun i hi => absurd hi (by simp), Own.nil _ _⟩
theorem RwsO.rws {base : Nat} {w : World} {v : Value} {L : List (List Int)} (h : RwsO base w v L) : Rws base w v L := by
  obtain ⟨us, h1, h2, _⟩ := h
  exact ⟨us, h1, h2⟩
theorem Rws.append' {base : Nat} {w w' : World} {v v' u : Value} {L : List (List Int)} {l : List Int} {us : List Value} (ho : w.ownsRow base 25 1 v L.length us) (hr : ∀ i, i < L.length → Bs w (us.getD i undef) (L.getD i []) ∧ Rb base w (us.getD i undef))
    (hb : Bs w u l) (hrb : Rb base w u) (hown : w'.ownsRow base 25 1 v' (L.length + 1) (us ++ [u])) (hg : w.grownBy w' v.ownBlock) :
    w'.ownsRow base 25 1 v' (L ++ [l]).length (us ++ [u]) ∧ ∀ i, i < (L ++ [l]).length → Bs w' ((us ++ [u]).getD i undef) ((L ++ [l]).getD i []) ∧ Rb base w' ((us ++ [u]).getD i undef) := by
  have hlen : us.length = L.length := by have := ho.1; omega
  have hrow := ownsRow_not_bytes ho
  refine ⟨by rw [List.length_append]; exact hown, fun i hi => ?_⟩
  rw [List.length_append, List.length_singleton] at hi
  by_cases e : i < L.length
  · rw [List.getD_eq_getElem?_getD, List.getD_eq_getElem?_getD, List.getElem?_append_left (by omega), List.getElem?_append_left e, ← List.getD_eq_getElem?_getD, ← List.getD_eq_getElem?_getD]
    exact Rb.kept (hr i e).1 (hr i e).2 hg.block hrow
  · obtain rfl : i = L.length := by omega
    have e1 : (us ++ [u]).getD L.length undef = u := by rw [List.getD_eq_getElem?_getD, List.getElem?_append_right (by omega), hlen]; simp
    have e2 : (L ++ [l]).getD L.length [] = l := by rw [List.getD_eq_getElem?_getD, List.getElem?_append_right (by omega)]; simp
    rw [e1, e2]
    exact Rb.kept hb hrb hg.block hrow
/-- A store of one byte of the first row. -/
theorem RwsO.poke {base : Nat} {w : World} {v : Value} {L : List (List Int)} (h : RwsO base w v L) (h0 : 0 < L.length) (h1 : 0 < (L.getD 0 []).length) :
    ∃ gv cv g c, v = .slice (some ⟨gv, 0, none⟩) L.length cv ∧ w.cell? ⟨gv, 0, none⟩ = some (.slice (some ⟨g, 0, none⟩) (L.getD 0 []).length c) ∧ w.cell? ⟨g, 0, none⟩ = some (.int .u8 ((L.getD 0 []).getD 0 0)) ∧ w.frozen? ⟨g, 0, none⟩ = false ∧ base ≤ g ∧ L.length ≤ cv ∧ (L.getD 0 []).length ≤ c ∧
      ∀ z, Byt z → Bss (w.setCell ⟨g, 0, none⟩ (.int .u8 z)) v (L.set 0 ((L.getD 0 []).set 0 z)) := by
  obtain ⟨us, ho, hr, ho1, ho2⟩ := h
  obtain ⟨gv, cv, rfl, c1, c2, c3, c4, c5⟩ := ownsRow_cell ho h0
  obtain ⟨g, m, c, e0, e1, e2⟩ := ho1 0 (by omega)
  obtain ⟨r1, r2⟩ := hr 0 h0
  rw [e0] at r1 r2
  obtain ⟨b1, oa, c', he, b2, b3, b4, b5⟩ := r1
  obtain ⟨rfl, rfl, rfl⟩ : some (⟨g, 0, none⟩ : Addr) = oa ∧ m = (L.getD 0 []).length ∧ c = c' := by simpa using he
  obtain ⟨cur, hcur⟩ : ∃ cur, w.heap[g]? = some (.cells cur 5 (0, 0)) := by
    rcases r2 _ _ _ rfl h1 with h | h
    · exact absurd h (by simp; omega)
    · exact h
  have hgv : gv ≠ g := fun e => by
    have := (ownsRow_not_bytes ho gv rfl).2 cur
    rw [e] at this
    exact this hcur
  have hb0 := b5 _ rfl 0 h1
  refine ⟨gv, cv, g, c, rfl, by rw [c5 0 h0, e0], by have := hb0; rw [Addr.add_mid] at this; exact this, frozen_of_row w g 0 _ _ hcur, e1, c1, b2, fun z hz => ⟨some ⟨gv, 0, none⟩, cv, by rw [List.length_set], by rw [List.length_set]; exact c1, by unfold maxLen at c2; omega, (fun h => by cases h), fun a ha i hi => ?_⟩⟩
  cases ha
  rw [List.length_set] at hi
  rw [Addr.add_mid, Nat.zero_add]
  refine ⟨us.getD i undef, ?_, ?_⟩
  · have := c5 i hi
    rw [← this]
    exact World.cell?_setCell_other _ _ _ _ (fun e => hgv (by cases e; rfl))
  · by_cases e : i = 0
    · subst e
      rw [e0, List.getD_eq_getElem?_getD (l := L.set 0 _), List.getElem?_set_self h0]
      have hl : ((L.getD 0 []).set 0 z).length = (L.getD 0 []).length := List.length_set
      refine ⟨fun x hx => ?_, some ⟨g, 0, none⟩, c, by simp only [Option.getD_some]; rw [hl], by simp only [Option.getD_some]; rw [hl]; exact b2, b3, (fun h => by cases h), fun a ha j hj => ?_⟩
      · rcases List.mem_or_eq_of_mem_set hx with hx | rfl
        · exact b1 x hx
        · exact hz
      · cases ha
        simp only [Option.getD_some] at hj ⊢
        rw [hl] at hj
        by_cases ej : j = 0
        · subst ej
          rw [Addr.add_mid, cell_of_row _ g _ _ _ _ (heap_setCell_same _ _ _ _ _ _ hcur), List.getD_eq_getElem?_getD, List.getElem?_set_self h1]
          have : 0 < cur.size := by
            have hc := hb0
            rw [Addr.add_mid, cell_of_row _ g _ _ _ _ hcur] at hc
            have := (Array.getElem?_eq_some_iff.1 hc).1
            simpa using this
          simp [this]
        · have hcj := b5 _ rfl j hj
          rw [Addr.add_mid, Nat.zero_add] at hcj ⊢
          rw [List.getD_eq_getElem?_getD, List.getElem?_set_ne (fun h => ej h.symm), ← List.getD_eq_getElem?_getD, ← hcj]
          exact World.cell?_setCell_other _ _ _ _ (fun h => ej (by cases h; rfl))
    · rw [List.getD_eq_getElem?_getD (l := L.set 0 _), List.getElem?_set_ne (fun h => e h.symm), ← List.getD_eq_getElem?_getD]
      obtain ⟨g', m', c', q0, q1, q2⟩ := ho1 i (by omega)
      have hne := ho2 0 i (by omega) (by omega)
      rw [e0, q0] at hne
      have hne' : g' ≠ g := fun h => hne (by simp [blkOf, h])
      obtain ⟨s1, s2⟩ := hr i hi
      rw [q0] at s1 ⊢
      obtain ⟨t1, oa, c'', he', t2, t3, t4, t5⟩ := s1
      refine ⟨t1, oa, c'', he', t2, t3, t4, fun a ha j hj => ?_⟩
      have hae : a = ⟨g', 0, none⟩ := by
        have : some (⟨g', 0, none⟩ : Addr) = oa := (by simpa using he' : _ ∧ _).1
        rw [ha] at this
        cases this
        rfl
      rw [← t5 a ha j hj]
      subst hae
      exact World.cell?_setCell_other _ _ _ _ (fun h => hne' (by have := congrArg Addr.block h; simpa [Addr.add_mid] using this.symm))
end Go.Proofs.YtbabecjphmmngaaGreat
namespace Go.Proofs.YtbabecjphmmngaaGreat
open Go.RowKit

theorem ownsRow_not_par {w : World} {base : Nat} {v : Value} {n gp : Nat} {us : List Value} {K H S : Int} (h : w.ownsRow base 25 1 v n us) (hp : Par w gp K H S) : v.ownBlock ≠ some gp := by
  intro hg
  obtain ⟨_, ⟨rfl, _⟩ | ⟨g', c, cur, rfl, hb, hgg, _⟩⟩ := h
  · cases hg
  · simp [Value.ownBlock] at hg
    subst hg
    unfold Par at hp
    rw [hgg] at hp
    simp at hp
theorem ahead_end (K H h : Nat) : (lst (K + H) (part (aheadF K h) K)).set (K + h) 1 = aheadRow K H h := by
  rw [lst_set]
  apply lst_congr
  intro j hj
  unfold part aheadF
  by_cases e : j = K + h
  · rw [if_pos e, if_neg (by omega), if_pos e]
  · rw [if_neg e]
    by_cases c : j < K
    · rw [if_pos c]
    · rw [if_neg c, if_neg c, if_neg e]
set_option maxRecDepth 100000 in
set_option maxHeartbeats 1600000 in
theorem refAhead_in (K H : Nat) (S : Int) (w : World) (hm : MayP K H S) :
    Calls Tryz.prog 27 #[par K H S] w fun e w' => ∃ v, e = .returned v ∧ Rws w.heap.size w' v (ahead K H) ∧ Gr w w' := by
  have hd := decide_eq_true hm
  obtain ⟨i0, hi0, hz0, hz1, hz2⟩ := info_parts info22
  have I0 := Lib.hid hi0
  have I1 := Lib.hid hz0
  have I2 := Lib.hid hz1
  have I3 := Lib.hid hz2
  clear hi0 hz0 hz1 hz2
  obtain ⟨b1, b2, b3, b4, _, _⟩ := hm
  go_enter Tryz.func27, Tryz.ntmps27
  have hK := Lib.hid b2
  obtain ⟨N, hN⟩ : ∃ N, K + H = N := ⟨_, rfl⟩
  have hN' : (K : Int) + (H : Int) = (N : Int) := by omega
  have hN64 : N ≤ 20 := by omega
  have HN := Lib.hid hN
  have hmk := make22 N N (by omega) (by omega)
  have hR : ∃ cur, cur = rowB (List.replicate N 0) := ⟨_, rfl⟩
  obtain ⟨cur, hcur⟩ := hR
  rw [← hcur] at hmk
  have HC := Lib.hid hcur
  clear hcur hN
  have P0 : Hid (Par (w.alloc (.cells #[.int .i64 (K : Int), .int .i64 (H : Int), .int .i64 S] 23)) w.heap.size K H S) := Lib.hid (heap_alloc_new _ _)
  have HG0 : Hid (Gr w (w.alloc (.cells #[.int .i64 (K : Int), .int .i64 (H : Int), .int .i64 S] 23))) := Lib.hid (Gr.alloc (Gr.refl _) _ _)
  go_wp2_with fail
  generalize w.alloc (.cells #[.int .i64 (K : Int), .int .i64 (H : Int), .int .i64 S] 23) = W0 at *
  generalize hgp : w.heap.size = gp at *
  go_loopw [3, 4] (fun o i wr => ∃ n : Nat, n ≤ H ∧ i = .int .i64 n ∧ Rws gp wr o ((List.range n).map (aheadRow K H)) ∧ Par wr gp K H S ∧ Gr w wr) (fun _ i _ => H - (intOf i).toNat)
  case atStart => exact ⟨0, by omega, rfl, Rws.nil _ _, P0.out, HG0.out⟩
  case round =>
    clear P0 HG0
    obtain ⟨wo, hwo⟩ : ∃ x, x = wr := ⟨_, rfl⟩
    subst hwo
    obtain ⟨n, hn, rfl, hrs, hp, hg⟩ := hrel
    have P1 := Lib.hid hp
    have HG := Lib.hid hg
    have HRS := Lib.hid hrs
    obtain ⟨us, ho, hr⟩ := hrs
    have hlen : ((List.range n).map (aheadRow K H)).length = n := by simp
    rw [hlen] at ho hr
    obtain ⟨oo, co, rfl⟩ := ownsRow_form ho
    have HO := Lib.hid ho
    have HR := Lib.hid hr
    clear ho hg hr hlen
    have c0 := hp.cell0
    have c1 := hp.cell1
    have c2 := hp.cell2
    clear hp
    by_cases hlt : n < H
    · obtain ⟨q, hq, hqN⟩ : ∃ q : Nat, (K : Int) + (n : Int) = q ∧ q < N := ⟨K + n, by omega, by omega⟩
      go_wp2_with fail
      refine (refMay_any K H S _).mono ?_
      rw [hd]
      rintro e w1 ⟨rfl, hg1⟩
      have P2 := Lib.hid (P1.out.grown hg1)
      have c0 := P2.out.cell0
      have c1 := P2.out.cell1
      have HG1 := Lib.hid hg1
      have MK : Hid (Making w1 w1.heap.size N (aheadF K n) 0 (w1.alloc (.cells cur 5))) := Lib.hid ⟨Gr.alloc (Gr.refl _) _ _, Nat.le_refl _, by rw [HC.out, ← part_nil]; exact heap_alloc_new _ _⟩
      have P3 := Lib.hid (P2.out.grown (Gr.alloc (Gr.refl w1) cur 5))
      clear hg1 c2
      go_wp2_with fail
      clear c0 c1
      generalize w1.alloc (.cells cur 5) = W3 at *
      generalize hgr : w1.heap.size = gr at *
      go_loopw [6] (fun i W => ∃ j : Nat, j ≤ K ∧ i = .int .i64 j ∧ Making w1 gr N (aheadF K n) j W) (fun i _ => K - (intOf i).toNat)
      case atStart => exact ⟨0, by omega, rfl, MK.out⟩
      case round =>
        clear MK P3
        obtain ⟨wi, hwi⟩ : ∃ x, x = wr := ⟨_, rfl⟩
        subst hwi
        obtain ⟨j, hj, rfl, hm⟩ := hrel
        have HM := Lib.hid hm
        have P3 := P2.out.grown hm.1
        have c0 := P3.cell0
        have c1 := P3.cell1
        clear hm P3
        by_cases hlj : j < K
        · have q3 := Blk.cell HM.out.2.2 j (by rw [lst_length]; omega)
          have q4 := frozen_of_row wi gr j _ _ HM.out.2.2
          have hE : ((n : Int) + 1) * ((j : Int) + 1) = (((n + 1) * (j + 1) : Nat) : Int) := by simp
          have hF : expZ (((n + 1) * (j + 1) : Nat) : Int) = aheadF K n j := by unfold aheadF; rw [if_pos hlj]
          have hle : (n + 1) * (j + 1) ≤ 64 := Nat.le_trans (Nat.mul_le_mul (by omega : n + 1 ≤ 4) (by omega : j + 1 ≤ 16)) (by omega)
          have hjN : (j : Int) < N := by omega
          obtain ⟨e, he⟩ : ∃ e : Nat, (n + 1) * (j + 1) = e := ⟨_, rfl⟩
          rw [he] at hE hF hle
          clear he
          go_wp2_with fail
          refine (refExp_any (e : Int) _).mono ?_
          rintro e' w' ⟨rfl, rfl⟩
          rw [hF]
          go_wp2_with fail
          exact ⟨⟨j + 1, by omega, by go_num, Making.store HM.out⟩, by simp [intOf]; omega⟩
        · obtain rfl : j = K := by omega
          have q3 := Blk.cell HM.out.2.2 q (by rw [lst_length]; omega)
          have q4 := frozen_of_row wi gr q _ _ HM.out.2.2
          have hN2 := HN.out
          have hq2 : q = j + n := by omega
          have hrow : (lst N (part (aheadF j n) j)).set q 1 = aheadRow j H n := by
            rw [← hN2, hq2]
            exact ahead_end j H n
          have hblk : Blk (wi.setCell ⟨gr, q, none⟩ (.int .u8 1)) gr (aheadRow j H n) := by
            unfold Blk
            rw [heap_setCell_same _ _ _ _ _ _ HM.out.2.2, rowB_set, hrow]
          have hg4 : Gr w1 (wi.setCell ⟨gr, q, none⟩ (.int .u8 1)) := Gr.setCell HM.out.1 (by have := HM.out.2.1; omega) _
          have hnw : New w1 (wi.setCell ⟨gr, q, none⟩ (.int .u8 1)) (.slice (some ⟨gr, 0, none⟩) N N) (aheadRow j H n) := by
            refine ⟨hg4, lst_byt fun i _ => aheadF_byt j n i, .inr ⟨gr, N, _, by rw [aheadRow_length, hN2], HM.out.2.1, hblk, by rw [aheadRow_length]; omega, by omega, fun i hi => rowB_get _ i hi⟩⟩
          have HW := Lib.hid hnw
          have HG4 : Hid (Gr wo (wi.setCell ⟨gr, q, none⟩ (.int .u8 1))) := Lib.hid (Gr.trans HG1.out hg4)
          have HP4 : Hid (Par (wi.setCell ⟨gr, q, none⟩ (.int .u8 1)) gp j H S) := Lib.hid (P2.out.grown hg4)
          have HG0 : Hid (gp ≤ wo.heap.size) := Lib.hid (by rw [← hgp]; exact HG.out.size)
          clear hN2 hrow hblk hg4 hnw hq2
          go_wp2_with (first
            | (at_builtin; refine wpList_append_lies _ rfl _ _ _ rfl gp 25 i0 _ 1 24 Tryz.underlying44 I0.out I1.out I2.out I3.out rfl (by omega) (.slice oo n co) n us rfl ((HO.out.of_gr HG4.out).alloc _) ⟨wi.heap.size, 0, none⟩ 1 1 [.slice (some ⟨gr, 0, none⟩) N N] rfl rfl (World.news_of_block (cs := #[.slice (some ⟨gr, 0, none⟩) N N]) (t := 25) (fr := (0, 0)) (by have := heap_alloc_new (wi.setCell ⟨gr, q, none⟩ (.int .u8 1)) (.cells #[.slice (some ⟨gr, 0, none⟩) N N] 25); rwa [World.size_setCell] at this)) (by simp [Value.oneCell']) (by omega) (by unfold maxLen; omega) (by omega) (by have := HG0.out; have := HG4.out.size; simp at this; simp; omega) (wi.heap.size + 1) (by simp) ?_; intro gg cap w5 hown1 hgrow hat hlt2))
          have hga : Gr (wi.setCell ⟨gr, q, none⟩ (.int .u8 1)) ((wi.setCell ⟨gr, q, none⟩ (.int .u8 1)).alloc (.cells #[.slice (some ⟨gr, 0, none⟩) N N] 25)) := Gr.alloc (Gr.refl _) _ _
          have hg5 := Gr.trans HG4.out hga
          have hnb := Rb.gr (New.bs HW.out) (New.rb HW.out gp) hga
          have hrow := fun g hg => (ownsRow_not_bytes HO.out g hg).1
          have hpn := ownsRow_not_par ((HO.out.of_gr HG4.out).of_gr hga) (HP4.out.grown hga)
          have hap : Rws gp w5 (.slice (some ⟨gg, 0, none⟩) (n + 1) cap) ((List.range (n + 1)).map (aheadRow j H)) := by
            rw [List.range_succ, List.map_append, List.map_singleton]
            have hl : ((List.range n).map (aheadRow j H)).length = n := by simp
            exact Rws.append (by rw [hl]; exact (HO.out.of_gr HG4.out).of_gr hga) (fun i hi => Rb.gr (HR.out i (by rwa [hl] at hi)).1 (HR.out i (by rwa [hl] at hi)).2 hg5) hnb.1 hnb.2 (by rw [hl]; exact hown1) hgrow
          have hp5 : Par w5 gp j H S := by
            have h1 := HP4.out.grown hga
            unfold Par at *
            rw [hgrow.block gp (Array.getElem?_eq_some_iff.1 h1).1 (fun e => hpn e.symm)]
            exact h1
          exact ⟨⟨n + 1, by omega, by go_num, hap, hp5, Gr.append (Gr.trans HG.out hg5) hgrow (fun g hg => by rw [hgp]; exact hrow g hg)⟩, by simp [intOf]; omega⟩
    · obtain rfl : n = H := by omega
      go_wp2_with fail
      go_ret
      refine ⟨_, rfl, ?_, HG.out⟩
      rw [hgp]
      exact HRS.out
end Go.Proofs.YtbabecjphmmngaaGreat
namespace Go.Proofs.YtbabecjphmmngaaGreat
open Go.RowKit

theorem tab_length_le' (l : Int) : (T.tab l).length ≤ 64 := by
  by_cases h : 1 ≤ l ∧ l ≤ 64
  · obtain ⟨N, rfl⟩ : ∃ N : Nat, l = N := ⟨l.toNat, by omega⟩
    rw [T.tab_in (by omega) (by omega), T.tabZ_length]
    omega
  · rw [T.tab_out h]
    simp
theorem degA_le : ∀ (t : List Int) (x : Int) (k : Nat), 0 ≤ T.degA t x k ∧ T.degA t x k ≤ (k + t.length : Nat)
  | [], x, k => by simp [T.degA]
  | a :: t, x, k => by
    have ih := degA_le t x (k + 1)
    unfold T.degA
    split
    · simp; omega
    · simp at ih ⊢
      omega
theorem drawV_le (t : List Int) (s : Nat) : 0 ≤ drawV t s ∧ drawV t s ≤ t.length := by
  unfold drawV
  split
  · omega
  · unfold T.deg
    split
    · omega
    · have := degA_le t (belowV s (lastZ' t)) 0
      simpa using this
def MayI (id : Int) : Prop := 0 ≤ id ∧ id ≤ 65535
instance (id : Int) : Decidable (MayI id) := by unfold MayI; exact inferInstance
/-- The state that a symbol's Draw begins with. -/
def mixS (seed : Nat) (id : Nat) : Nat := seed ^^^ (id * 2654435761 % 4294967296)
theorem mixS_lt {seed : Nat} (h : seed < 4294967296) (id : Nat) : mixS seed id < 4294967296 := by
  unfold mixS
  exact Nat.xor_lt_two_pow (n := 32) h (Nat.mod_lt _ (by omega))
/-- The places of the row of a symbol, N columns. -/
def atN (N seed id : Nat) : List Int := C.someZ (drawS (T.tab N) (nextS (mixS seed id))) N (drawV (T.tab N) (nextS (mixS seed id)))
def atP (K H S : Int) (seed : Nat) (id : Int) : List Int := if MayP K H S ∧ MayI id then atN (K.toNat + H.toNat) seed id.toNat else []
set_option maxHeartbeats 400000 in
theorem refMayID_any (id : Int) (w : World) :
    Calls Tryz.prog 33 #[.int .i64 id] w fun e w' => e = .returned (.bool (decide (MayI id))) ∧ w = w' := by
  go_enter Tryz.func33, Tryz.ntmps33
  go_wp2
  all_goals
    go_ret
    refine ⟨?_, rfl⟩
    first
      | (rw [show decide (MayI id) = false from decide_eq_false (by unfold MayI; omega)]; rfl)
      | (rw [show decide (MayI id) = decide (id ≤ 65535) from by rw [decide_eq_decide]; unfold MayI; omega]; rfl)
set_option maxRecDepth 100000 in
set_option maxHeartbeats 1600000 in
theorem refAt_in (K H : Nat) (S : Int) (seed id : Nat) (w : World) (hm : MayP K H S) (hi : id ≤ 65535) (hs : seed < 4294967296) :
    Calls Tryz.prog 35 #[par K H S, .int .u32 (seed : Int), .int .i64 (id : Int)] w fun e w' => ∃ v, e = .returned v ∧ Zs w' v (atN (K + H) seed id) ∧ Gr w w' := by
  have hd := decide_eq_true hm
  have hdi : decide (MayI (id : Int)) = true := decide_eq_true (by unfold MayI; omega)
  have hm' := hm
  obtain ⟨b1, b2, b3, b4, _, _⟩ := hm'
  have P0 : Hid (Par (w.alloc (.cells #[.int .i64 (K : Int), .int .i64 (H : Int), .int .i64 S] 23)) w.heap.size K H S) := Lib.hid (heap_alloc_new _ _)
  have HG0 : Hid (Gr w (w.alloc (.cells #[.int .i64 (K : Int), .int .i64 (H : Int), .int .i64 S] 23))) := Lib.hid (Gr.alloc (Gr.refl _) _ _)
  obtain ⟨mx, hmx, hmx2⟩ : ∃ mx : Nat, mixS seed id = mx ∧ mx < 4294967296 := ⟨_, rfl, mixS_lt hs id⟩
  have hxo : bits BinOp.xor IntKind.u32 (seed : Int) ((id : Int) * 2654435761 % 4294967296) = (mx : Int) := by
    rw [show (id : Int) * 2654435761 % 4294967296 = ((id * 2654435761 % 4294967296 : Nat) : Int) from by omega, u32_xor_nat _ _ hs (Nat.mod_lt _ (by omega)), ← hmx]
    rfl
  have hwx : IntKind.u64.wrap (mx : Int) = mx := by simp [IntKind.wrap, IntKind.bits, IntKind.signed]; omega
  have HMX := Lib.hid hmx
  clear hmx
  obtain ⟨N, hN⟩ : ∃ N, K + H = N := ⟨_, rfl⟩
  have HN := Lib.hid hN
  have hN20 : N ≤ 20 := by omega
  have HCO : Hid (colsP (K : Int) (H : Int) (S : Int) = N) := Lib.hid (by unfold colsP; rw [if_pos (by assumption)]; omega)
  clear hN hm
  go_enter Tryz.func35, Tryz.ntmps35
  go_wp2_with fail
  generalize w.alloc (.cells #[.int .i64 (K : Int), .int .i64 (H : Int), .int .i64 S] 23) = W0 at *
  generalize hgp : w.heap.size = gp at *
  refine (refMay_any K H S _).mono ?_
  rw [hd]
  rintro e w1 ⟨rfl, hg1⟩
  have P1 := Lib.hid (P0.out.grown hg1)
  have HG1 := Lib.hid (Gr.trans HG0.out hg1)
  clear hg1 P0 HG0
  go_wp2_with fail
  refine (refMayID_any id _).mono ?_
  rw [hdi]
  rintro e w' ⟨rfl, rfl⟩
  go_wp2_with fail
  have R2 : Hid (RAt (w1.alloc (.cells #[.int .u64 (mx : Int)] 94)) w1.heap.size mx) := Lib.hid (heap_alloc_new _ _)
  have P2 := Lib.hid (P1.out.grown (Gr.alloc (Gr.refl w1) #[.int .u64 (mx : Int)] 94))
  have HG2 : Hid (Gr w (w1.alloc (.cells #[.int .u64 (mx : Int)] 94))) := Lib.hid (Gr.alloc HG1.out _ _)
  have HGB : Hid (w.heap.size ≤ w1.heap.size) := Lib.hid HG1.out.size
  have HPN : Hid (gp ≠ w1.heap.size) := Lib.hid (by have := (Array.getElem?_eq_some_iff.1 P1.out).1; omega)
  clear P1 HG1
  generalize w1.alloc (.cells #[.int .u64 (mx : Int)] 94) = W2 at *
  generalize w1.heap.size = gr at *
  refine (refNext_any gr mx _ R2.out).mono ?_
  rintro e w3 ⟨rfl, hr3, hk3⟩
  have R3 := Lib.hid hr3
  have HG3 : Hid (Gr w w3) := Lib.hid (hk3.gr HG2.out (fun k e => by subst e; exact HGB.out))
  have P3 : Hid (Par w3 gp K H S) := Lib.hid (hk3.block P2.out HPN.out)
  have c0 := P3.out.cell0
  have c1 := P3.out.cell1
  have c2 := P3.out.cell2
  clear hr3 hk3 R2 P2 HG2
  obtain ⟨s1, hs1⟩ : ∃ s, nextS mx = s := ⟨_, rfl⟩
  rw [hs1] at R3
  have HS1 := Lib.hid hs1
  clear hs1
  go_wp2_with fail
  refine (refCols_any K H S _).mono ?_
  rw [HCO.out]
  rintro e w4 ⟨rfl, hg4⟩
  have P4 := Lib.hid (P3.out.grown hg4)
  have R4 := Lib.hid (R3.out.kept (hg4.kp fun _ => False) (fun e => e))
  have HG4 := Lib.hid (Gr.trans HG3.out hg4)
  clear hg4 P3 R3 HG3 c0 c1 c2
  go_wp2_with fail
  refine (refTable_any N _).mono ?_
  rintro e w5 ⟨v5, rfl, hz5, hg5⟩
  have P5 := Lib.hid (P4.out.grown hg5)
  have R5 := Lib.hid (R4.out.kept (hg5.kp fun _ => False) (fun e => e))
  have HG5 := Lib.hid (Gr.trans HG4.out hg5)
  have Z5 := Lib.hid hz5
  clear hg5 hz5 P4 R4 HG4
  go_wp2_with fail
  refine (refDrawDegree_any v5 (T.tab N) gr s1 _ Z5.out (by have := tab_length_le' (N : Int); omega) R5.out).mono ?_
  rintro e w6 ⟨rfl, hr6, hk6⟩
  have R6 := Lib.hid hr6
  have HG6 : Hid (Gr w w6) := Lib.hid (hk6.gr HG5.out (fun k e => by subst e; exact HGB.out))
  have P6 : Hid (Par w6 gp K H S) := Lib.hid (hk6.block P5.out HPN.out)
  have c0 := P6.out.cell0
  have c1 := P6.out.cell1
  have c2 := P6.out.cell2
  clear hr6 hk6 P5 R5 HG5 Z5
  obtain ⟨kk, hkk⟩ : ∃ k, drawV (T.tab N) s1 = k := ⟨_, rfl⟩
  obtain ⟨s2, hs2⟩ : ∃ s, drawS (T.tab N) s1 = s := ⟨_, rfl⟩
  rw [hs2] at R6
  rw [hkk]
  have HKK := Lib.hid hkk
  have HS2 := Lib.hid hs2
  clear hkk hs2
  go_wp2_with fail
  refine (refCols_any K H S _).mono ?_
  rw [HCO.out]
  rintro e w7 ⟨rfl, hg7⟩
  have R7 := Lib.hid (R6.out.kept (hg7.kp fun _ => False) (fun e => e))
  have HG7 := Lib.hid (Gr.trans HG6.out hg7)
  clear hg7 P6 R6 HG6 c0 c1 c2
  go_wp2_with fail
  refine (refSome_any gr s2 N kk _ R7.out ⟨by omega, by omega⟩ (by rw [← HKK.out]; have h1 := drawV_le (T.tab N) s1; have h2 := tab_length_le' (N : Int); exact ⟨by omega, by omega⟩)).mono ?_
  rintro e w8 ⟨v8, rfl, hz8, hr8, hk8⟩
  have HG8 : Hid (Gr w w8) := Lib.hid (hk8.gr HG7.out (fun k e => by subst e; exact HGB.out))
  have Z8 : Hid (Zs w8 v8 (atN (K + H) seed id)) := Lib.hid (by
    unfold atN
    rw [HN.out, HMX.out, HS1.out, HS2.out, HKK.out]
    exact hz8)
  clear hz8 hr8 hk8
  go_wp2_with fail
  go_ret
  exact ⟨_, rfl, Z8.out, HG8.out⟩
set_option maxRecDepth 100000 in
set_option maxHeartbeats 800000 in
theorem refAt_ne (K H S : Int) (seed : Nat) (id : Int) (w : World) (hm : ¬ (MayP K H S ∧ MayI id)) :
    Calls Tryz.prog 35 #[par K H S, .int .u32 (seed : Int), .int .i64 id] w fun e w' => e = .returned (.slice none 0 0) ∧ Gr w w' := by
  have HG0 : Hid (Gr w (w.alloc (.cells #[.int .i64 K, .int .i64 H, .int .i64 S] 23))) := Lib.hid (Gr.alloc (Gr.refl _) _ _)
  by_cases hp : MayP K H S
  · have hd := decide_eq_true hp
    have hdi : decide (MayI id) = false := decide_eq_false fun e => hm ⟨hp, e⟩
    clear hm hp
    go_enter Tryz.func35, Tryz.ntmps35
    go_wp2_with fail
    refine (refMay_any K H S _).mono ?_
    rw [hd]
    rintro e w1 ⟨rfl, hg1⟩
    have HG1 := Lib.hid (Gr.trans HG0.out hg1)
    clear hg1
    go_wp2_with fail
    refine (refMayID_any id _).mono ?_
    rw [hdi]
    rintro e w' ⟨rfl, rfl⟩
    go_wp2_with fail
    go_ret
    exact ⟨rfl, HG1.out⟩
  · have hd := decide_eq_false hp
    clear hm hp
    go_enter Tryz.func35, Tryz.ntmps35
    go_wp2_with fail
    refine (refMay_any K H S _).mono ?_
    rw [hd]
    rintro e w1 ⟨rfl, hg1⟩
    have HG1 := Lib.hid (Gr.trans HG0.out hg1)
    clear hg1
    go_wp2_with fail
    go_ret
    exact ⟨rfl, HG1.out⟩
theorem refAt_any (K H S : Int) (seed : Nat) (id : Int) (w : World) (hs : seed < 4294967296) :
    Calls Tryz.prog 35 #[par K H S, .int .u32 (seed : Int), .int .i64 id] w fun e w' => ∃ v, e = .returned v ∧ Zs w' v (atP K H S seed id) ∧ Gr w w' := by
  unfold atP
  by_cases hm : MayP K H S ∧ MayI id
  · rw [if_pos hm]
    obtain ⟨h1, h2⟩ := hm
    obtain ⟨k, hk⟩ : ∃ k : Nat, K = k := ⟨K.toNat, by have := h1.1; omega⟩
    obtain ⟨h, hh⟩ : ∃ h : Nat, H = h := ⟨H.toNat, by have := h1.2.2.1; omega⟩
    obtain ⟨i, hi⟩ : ∃ i : Nat, id = i := ⟨id.toNat, by have := h2.1; omega⟩
    subst hk hh hi
    rw [Int.toNat_natCast, Int.toNat_natCast, Int.toNat_natCast]
    exact refAt_in k h S seed i w h1 (by have := h2.2; omega) hs
  · rw [if_neg hm]
    refine (refAt_ne K H S seed id w hm).mono ?_
    rintro e w' ⟨rfl, hg⟩
    exact ⟨_, rfl, Zs.nil _, hg⟩
end Go.Proofs.YtbabecjphmmngaaGreat
