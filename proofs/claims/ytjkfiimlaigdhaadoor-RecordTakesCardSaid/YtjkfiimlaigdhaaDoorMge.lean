/-
  Texts laid behind one another: Mk Mx Ms Ap Az SumBehindW Vc Ve Kp Zs.
-/
import Derived.Test.YtjkfiimlaigdhaaDoorMgd
import Derived.Test.YtjkfiimlaigdhaaDoorMgc
import Derived.Laws.AppendOwnNone
import Derived.Deep.AppendLies
import Derived.Deep.RegionHeld3
import Derived.Lib.AppendZerosOnto
import Derived.Test.YtjkfiimlaigdhaaDoorMgb
import Derived.Test.YtjkfiimlaigdhaaDoorMga
import Derived.Lib.Hide
import Derived.OpenShut
namespace Go.Proofs.YtjkfiimlaigdhaaDoor
open Go.RowKit

theorem Bss.byt {w : World} {v : Value} {A : List (List Int)} (h : Bss w v A) : ∀ r ∈ A, ∀ x ∈ r, Byt x := by
  intro r hr
  obtain ⟨i, hi, rfl⟩ := List.getElem_of_mem hr
  obtain ⟨a, c, _, _, _, h3⟩ := Bss.at h (by omega)
  obtain ⟨u, _, hu⟩ := h3 i hi
  rw [List.getD_eq_getElem?_getD, List.getElem?_eq_getElem hi] at hu
  exact hu.1
/-- How many columns. -/
def wd (A : List (List Int)) : Nat := (A.getD 0 []).length
theorem wd_nil : wd [] = 0 := rfl
theorem Wide.of_bss {w : World} {v : Value} {A : List (List Int)} (h : Bss w v A) (hm : mayL A = true) : Wide (wd A) A := Wide.of_may hm h.byt
theorem Wide.may {k : Nat} {A : List (List Int)} (h : Wide k A) (hk : k ≤ 64) : mayL A = true := mayL_true fun i hi => by
  have h0 := (h.at i hi).1
  have h1 := (h.at 0 (by omega)).1
  omega
theorem Wide.wd {k : Nat} {A : List (List Int)} (h : Wide k A) (h0 : 0 < A.length) : wd A = k := (h.at 0 h0).1
theorem Wide.nil (k : Nat) : Wide k [] := fun r hr => by simp at hr
/-- The rank, as the algebra has it. -/
noncomputable def rkL (A : List (List Int)) : Nat := L.rk (A.map vec)
/-- out is a times x. -/
def IsMul (m : Nat) (A X out : List (List Int)) : Prop := Wide m out ∧ out.map vec = L.mulM (A.map vec) (X.map vec)
theorem IsMul.unique {m : Nat} {A X o o' : List (List Int)} (h : IsMul m A X o) (h' : IsMul m A X o') : o = o' := map_vec_inj h.1 h'.1 (by rw [h.2, h'.2])
theorem IsMul.length {m : Nat} {A X o : List (List Int)} (h : IsMul m A X o) : o.length = A.length := by
  have := congrArg List.length h.2
  simpa [L.mulM] using this
/-- What Solve answers. -/
def SolSays (A B : List (List Int)) (e : Int) (S : List (List Int)) : Prop :=
  (A = [] ∧ e = 1 ∧ S = []) ∨ (A ≠ [] ∧ rkL A < wd A ∧ e = 9 ∧ S = []) ∨
  (A ≠ [] ∧ rkL A = wd A ∧ e = 0 ∧ S.length = wd A ∧ IsMul (wd B) A S B ∧ Wide (wd B) S) ∨
  (A ≠ [] ∧ rkL A = wd A ∧ e = 10 ∧ S = [] ∧ ∀ M : List L.V, M.length = wd A → (∀ x ∈ M, L.Supp (wd B) x) → L.mulM (A.map vec) M ≠ B.map vec)
theorem SolSays.unique {A B S S' : List (List Int)} {e e' : Int} (hA : Wide (wd A) A) (h : SolSays A B e S) (h' : SolSays A B e' S') : e = e' ∧ S = S' := by
  rcases h with ⟨h0, h1, h2⟩ | ⟨h0, h1, h2, h3⟩ | ⟨h0, h1, h2, h3, h4, h5⟩ | ⟨h0, h1, h2, h3, h4⟩ <;>
  rcases h' with ⟨g0, g1, g2⟩ | ⟨g0, g1, g2, g3⟩ | ⟨g0, g1, g2, g3, g4, g5⟩ | ⟨g0, g1, g2, g3, g4⟩ <;>
  first
    | exact absurd h0 g0
    | exact absurd g0 h0
    | (exfalso; omega)
    | (subst_vars; exact ⟨rfl, rfl⟩)
    | skip
  · refine ⟨by rw [h2, g2], map_vec_inj h5 g5 (L.mul_unique hA.supp h1 (by simp [h3]) (by simp [g3]) ?_)⟩
    rw [← h4.2, ← g4.2]
  · exact absurd h4.2.symm (g4 _ (by simp [h3]) (h5.supp))
  · exact absurd g4.2.symm (h4 _ (by simp [g3]) (g5.supp))

/-- The contracts of package mat. -/
structure MatOk : Prop where
theorem bss_two {w : World} {g : Nat} {u v : Value} {x y : List Int} {t : TypeId} {fr : Nat × Nat} (h : w.heap[g]? = some (.cells #[u, v] t fr)) (hu : Bs w u x) (hv : Bs w v y) : Bss w (.slice (some ⟨g, 0, none⟩) 2 2) [x, y] :=
  ⟨some ⟨g, 0, none⟩, 2, rfl, by simp, by omega, (fun h => by cases h), fun a ha i hi => by
    cases ha
    rw [Addr.add_mid, Nat.zero_add]
    have : i = 0 ∨ i = 1 := by simp at hi; omega
    rcases this with rfl | rfl
    · exact ⟨u, by rw [cell_of_row w g 0 _ _ _ h]; rfl, hu⟩
    · exact ⟨v, by rw [cell_of_row w g 1 _ _ _ h]; rfl, hv⟩⟩
theorem rk_wake : rkL [[1, 1], [1, 1]] = 1 := by
  have h1 : Wide 2 [[1, 1], [1, 1]] := fun r hr => by
    simp at hr
    subst hr
    exact ⟨rfl, fun x hx => by simp at hx; subst hx; unfold Byt; omega⟩
  have hr : L.Rref [(0, vec [1, 1])] := ⟨List.pairwise_singleton _ _, fun p x h => by
      simp at h
      obtain ⟨rfl, rfl⟩ := h
      rfl, fun p x h k hk => by
      simp at h
      omega, fun p x q y h h' hne => by
      simp at h h'
      omega⟩
  have hs : L.Same (L.rows [(0, vec [1, 1])]) (([[1, 1], [1, 1]] : List (List Int)).map vec) := L.Same.of_mem fun x => by simp [L.rows]
  exact L.rk_eq ⟨hr, hs⟩
end Go.Proofs.YtjkfiimlaigdhaaDoor
namespace Go.Proofs.YtjkfiimlaigdhaaDoor
open Go.RowKit

/-- Since w0, block g holds the rows Lm (n of k bytes each), which A has become behind col columns. -/
structure Mx (w0 W : World) (g n c k : Nat) (A Lm : List (List Int)) (ps : List Nat) (col : Nat) (us : List Value) : Prop where
  own : W.ownsRow w0.heap.size 25 1 (.slice (some ⟨g, 0, none⟩) n c) n us
  row : ∀ i, i < n → Bs W (us.getD i undef) (Lm.getD i []) ∧ Rb w0.heap.size W (us.getD i undef)
  len : Lm.length = n
  wide : Wide k Lm
  ech : L.Ech (A.map vec) (Lm.map vec) ps col
  gr : Gr w0 W
section
variable {w0 W : World} {g n c k : Nat} {A Lm : List (List Int)} {ps : List Nat} {col : Nat} {us : List Value}
theorem Mx.cell (h : Mx w0 W g n c k A Lm ps col us) (i : Nat) (hi : i < n) :
    ∃ oi ci, us.getD i undef = .slice oi k ci ∧ W.cell? ⟨g, i, none⟩ = some (.slice oi k ci) ∧ ∀ j, j < k → ∃ a, oi = some a ∧ W.cell? (a.add j) = some (.int .u8 ((Lm.getD i []).getD j 0)) := by
  obtain ⟨g', c', he, _, _, _, _, hc⟩ := ownsRow_cell h.own (by omega)
  cases he
  have hb := (h.row i hi).1
  have hw := (h.wide.at i (by rw [h.len]; exact hi)).1
  obtain ⟨_, oi, ci, e, h1, _, h3, h4⟩ := hb
  rw [hw] at e h1 h4
  refine ⟨oi, ci, e, by rw [hc i hi, e], fun j hj => ?_⟩
  cases oi with
  | none => exact absurd (h3 rfl) (by omega)
  | some a => exact ⟨a, rfl, h4 a rfl j hj⟩
theorem Mx.frozen (h : Mx w0 W g n c k A Lm ps col us) (i : Nat) : W.frozen? ⟨g, i, none⟩ = false := by
  obtain ⟨_, ⟨he, _⟩ | ⟨g', c', cur, he, _, hg, _⟩⟩ := h.own
  · cases he
  · cases he
    exact frozen_of_row W g i _ _ hg
theorem Mx.base (h : Mx w0 W g n c k A Lm ps col us) : w0.heap.size ≤ g := (ownsRow_not_bytes h.own g rfl).1
theorem Mx.us_len (h : Mx w0 W g n c k A Lm ps col us) : us.length = n := by have := h.own.1; omega
theorem Mx.grow {W' : World} (h : Mx w0 W g n c k A Lm ps col us) (hg : Gr W W') : Mx w0 W' g n c k A Lm ps col us :=
  ⟨h.own.of_gr hg, fun i hi => Rb.gr (h.row i hi).1 (h.row i hi).2 hg, h.len, h.wide, h.ech, Gr.trans h.gr hg⟩
theorem Mx.to {qs : List Nat} {col' : Nat} (h : Mx w0 W g n c k A Lm ps col us) (he : L.Ech (A.map vec) (Lm.map vec) qs col') : Mx w0 W g n c k A Lm qs col' us :=
  ⟨h.own, h.row, h.len, h.wide, he, h.gr⟩
/-- A store of a row. -/
theorem Mx.put {qs : List Nat} {col' : Nat} {u : Value} {l : List Int} (h : Mx w0 W g n c k A Lm ps col us) (i : Nat) (hi : i < n) (hb : Bs W u l) (hrb : Rb w0.heap.size W u) (hl : l.length = k)
    (he : L.Ech (A.map vec) ((Lm.set i l).map vec) qs col') : Mx w0 (W.setCell ⟨g, i, none⟩ u) g n c k A (Lm.set i l) qs col' (us.set i u) := by
  obtain ⟨h1, h2⟩ := Rws.set h.own h.len h.row i hi hb hrb
  exact ⟨h1, h2, by rw [List.length_set]; exact h.len, h.wide.set i hl hb.1, he, Gr.setCell h.gr h.base u⟩
/-- Two stores: two rows change places. -/
theorem Mx.swap (h : Mx w0 W g n c k A Lm ps col us) (a d : Nat) (ha : ps.length ≤ a) (ha2 : a < n) (hd : ps.length ≤ d) (hd2 : d < n) :
    Mx w0 ((W.setCell ⟨g, a, none⟩ (us.getD d undef)).setCell ⟨g, d, none⟩ (us.getD a undef)) g n c k A ((Lm.set a (Lm.getD d [])).set d (Lm.getD a [])) ps col ((us.set a (us.getD d undef)).set d (us.getD a undef)) := by
  have hm : (Lm.map vec).length = n := by rw [List.length_map, h.len]
  have he := h.ech.swap (a := a) (d := d) ha (by rw [hm]; exact ha2) hd (by rw [hm]; exact hd2)
  have e1 : ((Lm.set a (Lm.getD d [])).set d (Lm.getD a [])).map vec = ((Lm.map vec).set a (L.rowAt (Lm.map vec) d)).set d (L.rowAt (Lm.map vec) a) := by
    rw [List.map_set, List.map_set, rowAt_vec, rowAt_vec]
  rw [← e1] at he
  have hk : ∀ W' : World, (∀ j, j ≠ g → W'.heap[j]? = W.heap[j]?) → ∀ i, i < n → Bs W' (us.getD i undef) (Lm.getD i []) ∧ Rb w0.heap.size W' (us.getD i undef) := fun W' hW i hi =>
    Rb.kept (h.row i hi).1 (h.row i hi).2 (row := some g) (fun j _ hne => hW j (fun e => hne (by rw [e]))) (fun g' e => by cases e; exact ownsRow_not_bytes h.own g rfl)
  obtain ⟨h1, h2⟩ := Rws.set h.own h.len h.row a ha2 (h.row d hd2).1 (h.row d hd2).2
  have hka := hk (W.setCell ⟨g, a, none⟩ (us.getD d undef)) (fun j hj => heap_setCell_other _ _ _ _ hj) a ha2
  obtain ⟨h3, h4⟩ := Rws.set (L := Lm.set a (Lm.getD d [])) h1 (by rw [List.length_set]; exact h.len) h2 d hd2 hka.1 hka.2
  have wa := h.wide.at a (by rw [h.len]; exact ha2)
  have wd := h.wide.at d (by rw [h.len]; exact hd2)
  exact ⟨h3, h4, by rw [List.length_set, List.length_set]; exact h.len, (h.wide.set a wd.1 wd.2).set d wa.1 wa.2, he, Gr.setCell (Gr.setCell h.gr h.base _) h.base _⟩
/-- Behind the last column: the first rows. -/
theorem Mx.out (h : Mx w0 W g n c k A Lm ps k us) : Rws w0.heap.size W (.slice (some ⟨g, 0, none⟩) ps.length c) (Lm.take ps.length) ∧ Gr w0 W ∧ IsRed k A (Lm.take ps.length) := by
  have hdn : ps.length ≤ n := by have := h.ech.le; rwa [List.length_map, h.len] at this
  have hlen : (Lm.take ps.length).length = ps.length := by rw [List.length_take, h.len]; omega
  refine ⟨⟨us.take ps.length, ?_, fun i hi => ?_⟩, h.gr, h.wide.take _, ps, hlen.symm, ?_⟩
  · obtain ⟨h0, ⟨he, _⟩ | ⟨g', c', cur, he, hb, hg, h1, h2, h3, h4⟩⟩ := h.own
    · cases he
    · cases he
      refine ⟨by rw [List.length_take, hlen]; omega, .inr ⟨g, c, cur, by rw [hlen], hb, hg, by omega, h2, h3, ?_⟩⟩
      rw [← h4, hlen, List.take_take, Nat.mul_one, Nat.mul_one, Nat.min_eq_left hdn]
  · rw [hlen] at hi
    rw [List.getD_eq_getElem?_getD, List.getD_eq_getElem?_getD, List.getElem?_take_of_lt hi, List.getElem?_take_of_lt hi, ← List.getD_eq_getElem?_getD, ← List.getD_eq_getElem?_getD]
    exact h.row i (by omega)
  · have := (h.ech.done h.wide.supp).1
    rwa [← List.map_take] at this
/-- A store of a row, times what is not 0. -/
theorem Mx.scaled {u : Value} {z : Int} (h : Mx w0 W g n c k A Lm ps col us) (d : Nat) (hd : ps.length ≤ d) (hd2 : d < n) (hz : Byt z) (hz0 : z ≠ 0) (hb : Bs W u (scaleL z (Lm.getD d []))) (hrb : Rb w0.heap.size W u) :
    Mx w0 (W.setCell ⟨g, d, none⟩ u) g n c k A (Lm.set d (scaleL z (Lm.getD d []))) ps col (us.set d u) := by
  have wd := h.wide.at d (by rw [h.len]; exact hd2)
  refine h.put d hd2 hb hrb (by rw [scaleL_length]; exact wd.1) ?_
  rw [List.map_set, vec_scale hz wd.2, ← rowAt_vec]
  exact h.ech.scale hd (by rw [List.length_map, h.len]; exact hd2) (fb_ne hz hz0)
/-- A store of a row, plus another one times something. -/
theorem Mx.added {u : Value} {z : Int} (h : Mx w0 W g n c k A Lm ps col us) (i d : Nat) (hd : ps.length ≤ d) (hd2 : d < n) (hi : i < n) (hne : i ≠ d) (hz : Byt z) (hb : Bs W u (axL z (Lm.getD d []) (Lm.getD i []))) (hrb : Rb w0.heap.size W u) :
    Mx w0 (W.setCell ⟨g, i, none⟩ u) g n c k A (Lm.set i (axL z (Lm.getD d []) (Lm.getD i []))) ps col (us.set i u) := by
  have wd := h.wide.at d (by rw [h.len]; exact hd2)
  have wi := h.wide.at i (by rw [h.len]; exact hi)
  refine h.put i hi hb hrb (by rw [axL_length]; exact wd.1) ?_
  rw [List.map_set, vec_ax hz wd.2 wi.2 (by rw [wd.1, wi.1]), ← rowAt_vec, ← rowAt_vec]
  exact h.ech.add hd hne (by rw [List.length_map, h.len]; exact hi)
end
theorem inv_mulZ {z : Int} (hz : Byt z) (h0 : z ≠ 0) : mulZ (invZ z) z = 1 := by
  unfold Byt at hz
  unfold mulZ invZ
  rw [Int.toNat_natCast, M.mulN_comm, M.mulN_inv _ (by omega) (by omega)]
  rfl
theorem invZ_ne {z : Int} (hz : Byt z) (h0 : z ≠ 0) : invZ z ≠ 0 := by
  unfold Byt at hz
  unfold invZ
  have := M.invN_ne z.toNat (by omega)
  omega
theorem getD_set_self (L : List (List Int)) (i : Nat) (l : List Int) (h : i < L.length) : (L.set i l).getD i [] = l := by
  rw [List.getD_eq_getElem?_getD, List.getElem?_set_self h]
  rfl
theorem getD_set_ne (L : List (List Int)) (i j : Nat) (l : List Int) (h : i ≠ j) : (L.set i l).getD j [] = L.getD j [] := by
  rw [List.getD_eq_getElem?_getD, List.getElem?_set_ne h, ← List.getD_eq_getElem?_getD]
theorem frozen_grown {w w' : World} (hg : Gr w w') {a : Addr} {x : Value} (h : w.cell? a = some x) (hf : w.frozen? a = false) : w'.frozen? a = false := by
  rw [World.frozen?_of_block (hg.2.2.2.2 _ (World.block_lt_of_cell? w _ h))]
  exact hf
theorem New.form3 {w w' : World} {v : Value} {l : List Int} (h : New w w' v l) : ∃ o m c, v = .slice o m c := by
  obtain ⟨o, c, h⟩ := (New.bs h).form
  exact ⟨o, _, c, h⟩
theorem New.of_row {w w' : World} {v : Value} {l : List Int} (hg : Gr w w') (hb : ∀ x ∈ l, Byt x) (h : w'.ownsRow w.heap.size 5 1 v l.length (l.map (Value.int .u8))) : New w w' v l := by
  by_cases h0 : 0 < l.length
  · obtain ⟨gg, cap, rfl, _, _⟩ := h.form h0
    exact (New.of_owns hg hb h).2
  · obtain rfl : l = [] := List.eq_nil_of_length_eq_zero (by omega)
    refine ⟨hg, by simp, .inl ⟨rfl, ?_⟩⟩
    obtain ⟨_, ⟨rfl, _⟩ | ⟨g, c, cur, rfl, _, _, _, h2, _⟩⟩ := h
    · exact ⟨none, 0, rfl, fun _ => rfl, by omega⟩
    · exact ⟨_, c, rfl, (fun h => by cases h), by unfold maxLen at h2; omega⟩
end Go.Proofs.YtjkfiimlaigdhaaDoor
namespace Go.Proofs.YtjkfiimlaigdhaaDoor
open Go.RowKit

/-- Behind an append of one row to rows under way. -/
theorem Rws.more {base n : Nat} {w0 wo wr w4 : World} {v v' u : Value} {us : List Value} {L : List (List Int)} {l : List Int} (hL : L.length = n) (ho : wo.ownsRow base 25 1 v n us)
    (hr : ∀ i, i < n → Bs wo (us.getD i undef) (L.getD i []) ∧ Rb base wo (us.getD i undef)) (hb : Bs wr u l) (hrb : Rb base wr u) (hg : Gr wo wr) (hown : w4.ownsRow base 25 1 v' (n + 1) (us ++ [u]))
    (hgrow : (wr.alloc (.cells #[u] 25)).grownBy w4 v.ownBlock) (h0 : Gr w0 wo) (hw : w0.heap.size ≤ base) : Rws base w4 v' (L ++ [l]) ∧ Gr w0 w4 := by
  subst hL
  have hg1 : Gr wo (wr.alloc (.cells #[u] 25)) := Gr.alloc hg _ _
  have hg2 : Gr wr (wr.alloc (.cells #[u] 25)) := Gr.alloc (Gr.refl _) _ _
  have hnb := Rb.gr hb hrb hg2
  exact ⟨Rws.append ((ho.of_gr hg).alloc _) (fun i hi => Rb.gr (hr i hi).1 (hr i hi).2 hg1) hnb.1 hnb.2 hown hgrow,
    Gr.append (Gr.trans h0 hg1) hgrow fun k hk => Nat.le_trans hw (ownsRow_base ho k hk)⟩
theorem infoB : (Tryd.prog.info? 5).map (fun i => (i.zero, i.size, i.bytes)) = some (some (.int .u8 0), 1, 1) := by kernel_rfl
theorem Bs.byt' {w : World} {v : Value} {l : List Int} (h : Bs w v l) : ∀ x ∈ l, Byt x := h.1
theorem evenL_length (n : Nat) (l : List Int) : (evenL n l).length = evenN n l := chunk_length _ _ _
theorem evenN_le (n : Nat) (l : List Int) : evenN n l ≤ 14 := Nat.min_le_left _ _
theorem even_wide {n : Nat} {l : List Int} (hb : ∀ x ∈ l, Byt x) (h1 : 1 ≤ n) : Wide n (evenL n l) := by
  intro r hr
  unfold evenL chunk at hr
  obtain ⟨i, hi, rfl⟩ := List.mem_map.1 hr
  have h2 : i < l.length / n := Nat.lt_of_lt_of_le (List.mem_range.1 hi) (Nat.min_le_right _ _)
  have h3 : (i + 1) * n ≤ l.length := (Nat.le_div_iff_mul_le (by omega)).1 (by omega)
  have h4 : n * i + n ≤ l.length := by rw [Nat.mul_comm, ← Nat.succ_mul]; exact h3
  refine ⟨by rw [List.length_take, List.length_drop]; omega, fun x hx => hb x (List.mem_of_mem_drop (List.mem_of_mem_take hx))⟩
/-- The places j of all rows. -/
def colZ (A : List (List Int)) (j : Nat) : List Int := A.map fun r => r.getD j 0
def trZ (n : Nat) (A : List (List Int)) : List (List Int) := (List.range n).map (colZ A)
theorem colZ_length (A : List (List Int)) (j : Nat) : (colZ A j).length = A.length := by simp [colZ]
theorem trZ_length (n : Nat) (A : List (List Int)) : (trZ n A).length = n := by simp [trZ]
theorem colZ_getD (A : List (List Int)) (j i : Nat) : (colZ A j).getD i 0 = (A.getD i []).getD j 0 := by
  unfold colZ
  rw [List.getD_eq_getElem?_getD, List.getElem?_map]
  by_cases h : i < A.length
  · rw [List.getElem?_eq_getElem h, List.getD_eq_getElem?_getD (l := A), List.getElem?_eq_getElem h]
    rfl
  · rw [List.getElem?_eq_none (by omega), List.getD_eq_getElem?_getD (l := A), List.getElem?_eq_none (by omega)]
    rfl
theorem colZ_byt {k : Nat} {A : List (List Int)} (h : Wide k A) (j : Nat) : ∀ x ∈ colZ A j, Byt x := by
  intro x hx
  obtain ⟨r, hr, rfl⟩ := List.mem_map.1 hx
  exact getD_byt (h r hr).2 j
theorem trZ_succ (n : Nat) (A : List (List Int)) : trZ (n + 1) A = trZ n A ++ [colZ A n] := by simp [trZ, List.range_succ]
theorem colZ_succ (A : List (List Int)) (j i : Nat) (hi : i < A.length) : colZ (A.take (i + 1)) j = colZ (A.take i) j ++ [(A.getD i []).getD j 0] := by
  unfold colZ
  rw [List.take_add_one, List.getElem?_eq_getElem hi, List.getD_eq_getElem?_getD (l := A), List.getElem?_eq_getElem hi, List.map_append]
  rfl
theorem trZ_wide {k : Nat} {A : List (List Int)} (h : Wide k A) (n : Nat) : Wide A.length (trZ n A) := by
  intro r hr
  obtain ⟨j, _, rfl⟩ := List.mem_map.1 hr
  exact ⟨colZ_length A j, colZ_byt h j⟩
theorem trZ_vec (n : Nat) (A : List (List Int)) : (trZ n A).map vec = L.tr n (A.map vec) := by
  unfold trZ L.tr
  rw [List.map_map]
  apply List.map_congr_left
  intro j _
  funext i
  show fb ((colZ A j).getD i 0) = L.rowAt (A.map vec) i j
  rw [colZ_getD, at_vec]
theorem trZ_rk {k : Nat} {A : List (List Int)} (h : Wide k A) : rkL (trZ k A) = rkL A := by
  unfold rkL
  rw [trZ_vec]
  exact L.rk_tr h.supp
theorem Bss.take {w : World} {oa : Option Addr} {m c : Nat} {X : List (List Int)} (h : Bss w (.slice oa m c) X) (hm : X.length = m) (n : Nat) (hn : n ≤ m) : Bss w (.slice oa n c) (X.take n) := by
  obtain ⟨oa', c', he, h2, h3, h4, h5⟩ := h
  obtain ⟨rfl, _, rfl⟩ : oa = oa' ∧ m = X.length ∧ c = c' := by simpa using he
  have hl : (X.take n).length = n := by rw [List.length_take]; omega
  refine ⟨oa, c, by rw [hl], by rw [hl]; omega, h3, h4, fun a ha i hi => ?_⟩
  rw [hl] at hi
  obtain ⟨u, h6, h7⟩ := h5 a ha i (by omega)
  refine ⟨u, h6, ?_⟩
  rw [List.getD_eq_getElem?_getD, List.getElem?_take_of_lt hi, ← List.getD_eq_getElem?_getD]
  exact h7
theorem sol_low {A B S : List (List Int)} {e : Int} (h0 : A ≠ []) (hr : rkL A < wd A) (h : SolSays A B e S) : e = 9 ∧ S = [] := by
  rcases h with ⟨q, _⟩ | ⟨_, _, h1, h2⟩ | ⟨_, h1, _⟩ | ⟨_, h1, _⟩
  · exact absurd q h0
  · exact ⟨h1, h2⟩
  · omega
  · omega
theorem sol_back {m : Nat} {A X B S : List (List Int)} {e : Int} (hA : Wide (wd A) A) (h0 : A ≠ []) (hX : Wide m X) (hXl : X.length = wd A) (hB : IsMul m A X B) (hwb : wd B = m) (hr : rkL A = wd A) (h : SolSays A B e S) : e = 0 ∧ S = X := by
  rcases h with ⟨q, _⟩ | ⟨_, h1, _⟩ | ⟨_, _, h1, h2, h3, h4⟩ | ⟨_, _, _, _, h2⟩
  · exact absurd q h0
  · omega
  · refine ⟨h1, map_vec_inj h4 (by rw [hwb]; exact hX) (L.mul_unique hA.supp hr (by simp [h2]) (by simp [hXl]) ?_)⟩
    rw [← h3.2, ← hB.2]
  · exact absurd hB.2.symm (h2 _ (by simp [hXl]) (by rw [hwb]; exact hX.supp))
theorem sol_any {A C S : List (List Int)} {e : Int} (hA : Wide (wd A) A) (h0 : A ≠ []) (hC : Wide (wd C) C) (hCl : C.length = A.length) (hr : rkL A = wd A) (h : SolSays A C e S) :
    (e = 0 ∧ S.length = wd A ∧ IsMul (wd C) A S C ∧ Wide (wd C) S) ∨ (e = 10 ∧ A.length ≠ wd A) := by
  rcases h with ⟨q, _⟩ | ⟨_, h1, _⟩ | ⟨_, _, h1, h2, h3, h4⟩ | ⟨_, _, h1, _, h2⟩
  · exact absurd q h0
  · omega
  · exact .inl ⟨h1, h2, h3, h4⟩
  · refine .inr ⟨h1, fun e => ?_⟩
    obtain ⟨M, m1, m2, m3⟩ := L.square hA.supp (by simp [e]) hr (C := C.map vec) (by simp [hCl, e]) hC.supp
    exact h2 M m1 m2 m3
theorem rkL_nil : rkL [] = 0 := L.rk_eq (R := []) ⟨L.Rref.nil, L.Same.refl _⟩
theorem rkL_le_cols {k : Nat} {A : List (List Int)} (h : Wide k A) : rkL A ≤ k := L.rk_le_cols h.supp
theorem rkL_le_rows {k : Nat} {A : List (List Int)} (h : Wide k A) : rkL A ≤ A.length := by
  have := L.rk_le_len h.supp
  rwa [List.length_map] at this
theorem IsMul.rk {k m : Nat} {A X o : List (List Int)} (h : IsMul m A X o) (hA : Wide k A) (hX : Wide m X) : rkL o ≤ rkL A ∧ rkL o ≤ rkL X := by
  unfold rkL
  rw [h.2]
  exact ⟨L.rk_mul_left hA.supp hX.supp, L.rk_mul_right hX.supp⟩
end Go.Proofs.YtjkfiimlaigdhaaDoor
namespace Go.Proofs.YtjkfiimlaigdhaaDoor
open Go.RowKit

/-- The rows of a slice of rows, one by one. -/
def Vals (w : World) (oa : Option Addr) (us : List Value) (L : List (List Int)) : Prop :=
  us.length = L.length ∧ (∀ ad, oa = some ad → ∀ j u, us[j]? = some u → w.cell? (ad.add j) = some u) ∧ (∀ i, i < L.length → Bs w (us.getD i undef) (L.getD i [])) ∧ ∀ u ∈ us, u.oneCell' = true
theorem Vals.grown {w w' : World} {oa : Option Addr} {us : List Value} {L : List (List Int)} (h : Vals w oa us L) (hg : Gr w w') : Vals w' oa us L :=
  ⟨h.1, fun ad ha j u hu => cell_grown hg (h.2.1 ad ha j u hu), fun i hi => Bs.grown (h.2.2.1 i hi) hg, h.2.2.2⟩
theorem Bss.vals {w : World} {oa : Option Addr} {n c : Nat} {L : List (List Int)} (h : Bss w (.slice oa n c) L) : ∃ us, Vals w oa us L := by
  obtain ⟨oa', c', he, h2, h3, h4, h5⟩ := h
  obtain ⟨rfl, rfl, rfl⟩ : oa = oa' ∧ n = L.length ∧ c = c' := by simpa using he
  cases oa with
  | none =>
    have : L = [] := List.eq_nil_of_length_eq_zero (by have := h4 rfl; omega)
    subst this
    exact ⟨[], rfl, (fun ad ha => by cases ha), (fun i hi => by simp at hi), by simp⟩
  | some a =>
    have hex : ∀ i, ∃ u, i < L.length → w.cell? (a.add i) = some u ∧ Bs w u (L.getD i []) := fun i => by
      by_cases hi : i < L.length
      · obtain ⟨u, h⟩ := h5 a rfl i hi
        exact ⟨u, fun _ => h⟩
      · exact ⟨undef, fun h => absurd h hi⟩
    have hf := fun i => Classical.choose_spec (hex i)
    have hget : ∀ i, i < L.length → ((List.range L.length).map fun i => Classical.choose (hex i)).getD i undef = Classical.choose (hex i) := fun i hi => by
      rw [List.getD_eq_getElem?_getD, List.getElem?_map, List.getElem?_range hi]
      rfl
    refine ⟨(List.range L.length).map fun i => Classical.choose (hex i), by simp, fun ad ha j u hu => ?_, fun i hi => ?_, fun u hu => ?_⟩
    · cases ha
      rw [List.getElem?_map] at hu
      by_cases hj : j < L.length
      · rw [List.getElem?_range hj] at hu
        simp at hu
        rw [← hu]
        exact (hf j hj).1
      · rw [List.getElem?_eq_none (by simp; omega)] at hu
        cases hu
    · rw [hget i hi]
      exact (hf i hi).2
    · obtain ⟨i, hi, rfl⟩ := List.mem_map.1 hu
      obtain ⟨o, cc, he⟩ := ((hf i (List.mem_range.1 hi)).2).form
      rw [he]
      rfl
theorem Vals.append {w : World} {us us' : List Value} {L L' : List (List Int)} {oa ob : Option Addr} (h : Vals w oa us L) (h' : Vals w ob us' L') :
    (us ++ us').length = (L ++ L').length ∧ (∀ i, i < (L ++ L').length → Bs w ((us ++ us').getD i undef) ((L ++ L').getD i [])) := by
  refine ⟨by rw [List.length_append, List.length_append, h.1, h'.1], fun i hi => ?_⟩
  rw [List.getD_eq_getElem?_getD, List.getD_eq_getElem?_getD]
  by_cases e : i < L.length
  · rw [List.getElem?_append_left (by rw [h.1]; exact e), List.getElem?_append_left e, ← List.getD_eq_getElem?_getD, ← List.getD_eq_getElem?_getD]
    exact h.2.2.1 i e
  · rw [List.length_append] at hi
    rw [List.getElem?_append_right (by rw [h.1]; omega), List.getElem?_append_right (by omega), h.1, ← List.getD_eq_getElem?_getD, ← List.getD_eq_getElem?_getD]
    exact h'.2.2.1 _ (by omega)
/-- A slice of rows of one's own, whose rows read so. -/
theorem owns_bss {base n : Nat} {w : World} {v : Value} {us : List Value} {L : List (List Int)} (ho : w.ownsRow base 25 1 v n us) (hl : L.length = n) (hr : ∀ i, i < L.length → Bs w (us.getD i undef) (L.getD i [])) : Bss w v L := by
  subst hl
  by_cases h0 : 0 < L.length
  · obtain ⟨g, c, rfl, h1, h2, h3, h4, h5⟩ := ownsRow_cell ho h0
    refine ⟨some ⟨g, 0, none⟩, c, rfl, h1, by unfold maxLen at h2; omega, (fun h => by cases h), fun a ha i hi => ?_⟩
    cases ha
    rw [Addr.add_mid, Nat.zero_add]
    exact ⟨_, h5 i hi, hr i hi⟩
  · have : L = [] := List.eq_nil_of_length_eq_zero (by omega)
    subst this
    obtain ⟨_, ⟨rfl, _⟩ | ⟨g, c, cur, rfl, _, _, _, h2, _⟩⟩ := ho
    · exact Bss.nil w
    · exact ⟨_, c, rfl, by simp, by unfold maxLen at h2; omega, (fun h => by cases h), fun a _ i hi => by simp at hi⟩
theorem Vals.take {w : World} {oa : Option Addr} {us : List Value} {L : List (List Int)} (h : Vals w oa us L) (k : Nat) : Vals w oa (us.take k) (L.take k) := by
  refine ⟨by rw [List.length_take, List.length_take, h.1], fun ad ha j u hu => ?_, fun i hi => ?_, fun u hu => h.2.2.2 u (List.mem_of_mem_take hu)⟩
  · by_cases e : j < k
    · rw [List.getElem?_take_of_lt e] at hu
      exact h.2.1 ad ha j u hu
    · rw [List.getElem?_eq_none (by rw [List.length_take]; omega)] at hu
      cases hu
  · rw [List.length_take] at hi
    rw [List.getD_eq_getElem?_getD, List.getD_eq_getElem?_getD, List.getElem?_take_of_lt (by omega), List.getElem?_take_of_lt (by omega), ← List.getD_eq_getElem?_getD, ← List.getD_eq_getElem?_getD]
    exact h.2.2.1 i (by omega)
theorem Vals.drop {w : World} {b : Addr} {us : List Value} {L : List (List Int)} {k ca : Nat} (h : Vals w (some b) us L) (hm : L.length ≤ ca) (hk : k ≤ L.length) : Vals w (if ca = k then some b else some (b.add k)) (us.drop k) (L.drop k) := by
  refine ⟨by rw [List.length_drop, List.length_drop, h.1], fun ad ha j u hu => ?_, fun i hi => ?_, fun u hu => h.2.2.2 u (List.mem_of_mem_drop hu)⟩
  · rw [List.getElem?_drop] at hu
    have hlt := (List.getElem?_eq_some_iff.1 hu).1
    rw [h.1] at hlt
    rw [if_neg (by omega)] at ha
    cases ha
    rw [Addr.add_add']
    exact h.2.1 b rfl _ u hu
  · rw [List.length_drop] at hi
    rw [List.getD_eq_getElem?_getD, List.getD_eq_getElem?_getD, List.getElem?_drop, List.getElem?_drop, ← List.getD_eq_getElem?_getD, ← List.getD_eq_getElem?_getD]
    exact h.2.2.1 _ (by omega)
end Go.Proofs.YtjkfiimlaigdhaaDoor
namespace Go.Proofs.YtjkfiimlaigdhaaDoor
open Go.RowKit

theorem bytes_cells {w : World} {o : Option Addr} {l : List Int} {n : Nat} (hl : l.length = n) (h : ∀ a, o = some a → ∀ i, i < n → w.cell? (a.add i) = some (.int .u8 (l.getD i 0))) :
    ∀ ad, o = some ad → ∀ i u, (l.map (Value.int .u8))[i]? = some u → w.cell? (ad.add i) = some u := by
  intro ad ha i u hu
  have hi : i < l.length := by
    have := (List.getElem?_eq_some_iff.1 hu).1
    rwa [List.length_map] at this
  rw [h ad ha i (by omega)]
  rw [List.getElem?_map, List.getElem?_eq_getElem hi] at hu
  rw [List.getD_eq_getElem?_getD, List.getElem?_eq_getElem hi]
  simpa using hu
theorem leadL_nought : ∀ l : List Int, leadL l = -1 → ∀ j, l.getD j 0 = 0
  | [], _, j => by simp
  | a :: l, h, j => by
    have hge := leadL_ge l
    unfold leadL at h
    split at h
    · rename_i ha
      split at h
      · rename_i hl
        cases j with
        | zero => simpa using ha
        | succ j => simpa using leadL_nought l hl j
      · omega
    · omega
theorem vec_nought {l : List Int} (h : leadL l = -1) : vec l = L.vzero := funext fun j => by
  show fb (l.getD j 0) = L.zero
  rw [leadL_nought l h j, fb_zero]
theorem vec_ne {l : List Int} (hb : ∀ x ∈ l, Byt x) (h : 0 ≤ leadL l) : vec l ≠ L.vzero := fun e => by
  have : leadL l = -1 := leadL_none l fun j _ => by
    have h1 : fb (l.getD j 0) = L.zero := congrFun e j
    exact fb_inj (getD_byt hb j) (by unfold Byt; omega) (by rw [h1, fb_zero])
  omega
theorem Bs.parts {w : World} {oa : Option Addr} {m c : Nat} {l : List Int} (h : Bs w (.slice oa m c) l) : l.length = m ∧ m ≤ c ∧ c ≤ 9223372036854775807 ∧ (oa = none → m = 0 ∧ c = 0) ∧ ∀ ad, oa = some ad → ∀ i u, (l.map (Value.int .u8))[i]? = some u → w.cell? (ad.add i) = some u := by
  obtain ⟨_, oa', c', he, h2, h3, h4, h5⟩ := h
  obtain ⟨rfl, rfl, rfl⟩ : oa = oa' ∧ m = l.length ∧ c = c' := by simpa using he
  exact ⟨rfl, h2, h3, fun e => ⟨by have := h4 e; omega, h4 e⟩, bytes_cells rfl h5⟩
/-- append of bytes that came in onto bytes of one's own. -/
theorem wpList_append_bytes {w : World} {ops : Array Oper} {rest : List Oper} {o : Oper} {a : Act} {Q : Exit → Act → World → Prop} (hgd : o.guard = none) (s x : Operand)
    (ho : o.op = .call { callee := .builtin .append, args := #[s, x], argTypes := #[25, 25] }) (base : Nat) (v : Value) (n : Nat) (l : List Int) (hs : a.eval s = v) (hown : w.ownsRow base 5 1 v n (l.map (Value.int .u8)))
    (oa : Option Addr) (m c : Nat) (l' : List Int) (hx : a.eval x = .slice oa m c) (hL : Bs w (.slice oa m c) l') (hm : n + m ≤ 1000000) (hbase : base ≤ w.heap.size)
    (h : ∀ v' w', w'.ownsRow base 5 1 v' (n + m) ((l ++ l').map (Value.int .u8)) → w.grownBy w' v.ownBlock → wpList Tryd.prog ops Q rest (a.put o.dst v') w') : wpList Tryd.prog ops Q (o :: rest) a w := by
  obtain ⟨i5, hi0, hz0, hz1, hz2⟩ := info_parts infoB
  obtain ⟨p1, p2, p3, p4, p5⟩ := hL.parts
  refine wpList_append_in hgd s x 25 ho base 5 i5 _ 1 Tryd.underlying25 hi0 hz0 hz1 hz2 rfl v n _ hs hown oa m c (l'.map (Value.int .u8)) hx p4 (by rw [List.length_map]; exact p1) p5 (ints_oneCell _ _) (by unfold maxLen; omega) (by omega) hbase ?_
  intro v' w' h1 h2
  exact h v' w' (by rw [List.map_append]; exact h1) h2
theorem step_append_bytes {w : World} {ops : Array Oper} {o : Oper} {a : Act} {K : Act → World → Prop} {Q : Exit → Act → World → Prop} {E : Prop} (hgd : o.guard = none) (s x : Operand)
    (ho : o.op = .call { callee := .builtin .append, args := #[s, x], argTypes := #[25, 25] }) (base : Nat) (v : Value) (n : Nat) (l : List Int) (hs : a.eval s = v) (hown : w.ownsRow base 5 1 v n (l.map (Value.int .u8)))
    (oa : Option Addr) (m c : Nat) (l' : List Int) (hx : a.eval x = .slice oa m c) (hL : Bs w (.slice oa m c) l') (hm : n + m ≤ 1000000) (hbase : base ≤ w.heap.size)
    (h : ∀ v' w', w'.ownsRow base 5 1 v' (n + m) ((l ++ l').map (Value.int .u8)) → w.grownBy w' v.ownBlock → K (a.put o.dst v') w') :
    if Region.wanted o (yielded ops a.tmps) = true then Oper.wp Tryd.prog o a w K Q else E := by
  obtain ⟨i5, hi0, hz0, hz1, hz2⟩ := info_parts infoB
  obtain ⟨p1, p2, p3, p4, p5⟩ := hL.parts
  refine step_append_in hgd s x 25 ho base 5 i5 _ 1 Tryd.underlying25 hi0 hz0 hz1 hz2 rfl v n _ hs hown oa m c (l'.map (Value.int .u8)) hx p4 (by rw [List.length_map]; exact p1) p5 (ints_oneCell _ _) (by unfold maxLen; omega) (by omega) hbase ?_
  intro v' w' h1 h2
  exact h v' w' (by rw [List.map_append]; exact h1) h2
theorem Bs.rb {w : World} {u : Value} {l : List Int} (h : Bs w u l) (w' : World) : Rb w.heap.size w' u := by
  intro a n c e hn
  obtain ⟨_, oa, cc, h1, h2, h3, h4, h5⟩ := h
  rw [h1] at e
  obtain ⟨rfl, rfl, rfl⟩ : oa = some a ∧ l.length = n ∧ cc = c := by simpa using e
  exact .inl (World.block_lt_of_cell? w _ (h5 a rfl 0 hn))
/-- A copy of the list of rows: new memory for the list, the rows as they were. -/
theorem wpList_append_rows {w : World} {ops : Array Oper} {rest : List Oper} {o : Oper} {a : Act} {Q : Exit → Act → World → Prop} (hgd : o.guard = none) (s x : Operand)
    (ho : o.op = .call { callee := .builtin .append, args := #[s, x], argTypes := #[43, 43] }) (hs : a.eval s = .slice none 0 0)
    (oa : Option Addr) (m c : Nat) (L : List (List Int)) (hx : a.eval x = .slice oa m c) (hl : L.length = m) (hL : Bss w (.slice oa m c) L) (hm : m ≤ 1000)
    (h : ∀ v' w' us, w'.ownsRow w.heap.size 25 1 v' m us → Gr w w' → (∀ i, i < m → Bs w' (us.getD i undef) (L.getD i []) ∧ Rb w.heap.size w' (us.getD i undef)) → wpList Tryd.prog ops Q rest (a.put o.dst v') w') : wpList Tryd.prog ops Q (o :: rest) a w := by
  obtain ⟨i0, hi0, hz0, hz1, hz2⟩ := info_parts info22
  obtain ⟨us, hv⟩ := hL.vals
  have hno : oa = none → m = 0 ∧ c = 0 := fun e => by
    obtain ⟨oa', c', he, h1, h2, h3, h4⟩ := hL
    obtain ⟨rfl, h5, rfl⟩ : oa = oa' ∧ m = L.length ∧ c = c' := by simpa using he
    have := h3 e
    omega
  refine wpList_append_in hgd s x 43 ho w.heap.size 25 i0 _ 24 Tryd.underlying43 hi0 hz0 hz1 hz2 rfl (.slice none 0 0) 0 [] hs (World.ownsRow_nil w _ 25 1) oa m c us hx hno (by rw [hv.1, hl]) hv.2.1 hv.2.2.2 (by unfold maxLen; omega) (by omega) (Nat.le_refl _) ?_
  intro v' w' hown hgrow
  rw [Nat.zero_add, List.nil_append] at hown
  have hg : Gr w w' := Gr.append (Gr.refl w) hgrow (fun _ h => by cases h)
  exact h v' w' us hown hg fun i hi => ⟨Bs.grown (hv.2.2.1 i (by omega)) hg, (hv.2.2.1 i (by omega)).rb w'⟩
theorem New.under {w w1 w2 : World} {v : Value} {l : List Int} (hg : Gr w w1) (h : New w1 w2 v l) : New w w2 v l := by
  obtain ⟨h1, h2, h3⟩ := h
  refine ⟨Gr.trans hg h1, h2, ?_⟩
  rcases h3 with h3 | ⟨g, c, cur, e1, e2, e3⟩
  · exact .inl h3
  · exact .inr ⟨g, c, cur, e1, Nat.le_trans hg.size e2, e3⟩
theorem zeroB (m : Nat) : Builtin.zeroCells (Value.int .u8 0).cells m = (List.replicate m (Value.int .u8 0)).toArray := by
  apply Array.ext
  · simp [Builtin.zeroCells, Value.cells]
  intro i h1 h2
  simp [Builtin.zeroCells, Value.cells, Nat.mod_one]
/-- append(v, make([]byte, m)...), v bytes of one's own. -/
theorem run_append_zeros (w : World) (ty : TypeId) (base : Nat) (v : Value) (n : Nat) (l : List Int) (hown : w.ownsRow base 5 1 v n (l.map (Value.int .u8))) (m : Nat) (hm : n + m ≤ 1000000) (hbase : base ≤ w.heap.size) :
    ∃ v' w', (Builtin.append_ #[25, 3] ty #[v, .int .i64 m]).run Tryd.prog w = .ok v' w' ∧ w'.ownsRow base 5 1 v' (n + m) ((l ++ List.replicate m 0).map (Value.int .u8)) ∧ w.grownBy w' v.ownBlock := by
  obtain ⟨i, hi, hz, hs, hb⟩ := info_parts infoB
  have ht := Tryd.underlying25
  have htn := Tryd.underlying3
  have hlen : ((l ++ List.replicate m 0).map (Value.int .u8)).length = n + m := by
    have := hown.1
    rw [List.length_map] at this
    rw [List.length_map, List.length_append, List.length_replicate]
    omega
  have hmap : (l ++ List.replicate m 0).map (Value.int .u8) = l.map (Value.int .u8) ++ List.replicate m (.int .u8 0) := by rw [List.map_append, List.map_replicate]
  have hln : (l.map (Value.int .u8)).length = n := by have := hown.1; omega
  have grown : ∀ (old : Nat) (row : Option Nat),
      (w.drew.alloc (.cells ((l.map (Value.int .u8)).toArray ++ Builtin.zeroCells (Value.int .u8 0).cells m ++ Builtin.zeroCells (Value.int .u8 0).cells (grownCap w (n + m) old 5 - (n + m))) 5)).ownsRow base 5 1
        (.slice (some ⟨w.heap.size, 0, none⟩) (n + m) (grownCap w (n + m) old 5)) (n + m) ((l ++ List.replicate m 0).map (Value.int .u8)) ∧
      w.grownBy (w.drew.alloc (.cells ((l.map (Value.int .u8)).toArray ++ Builtin.zeroCells (Value.int .u8 0).cells m ++ Builtin.zeroCells (Value.int .u8 0).cells (grownCap w (n + m) old 5 - (n + m))) 5)) row := by
    intro old row
    have hge := grownCap_ge w (n + m) old 5
    have hcm : grownCap w (n + m) old 5 ≤ maxLen := grownCap_le_maxLen w (n + m) old 5 (by unfold maxLen; omega)
    rw [zeroB, zeroB]
    refine ⟨⟨by rw [hlen, Nat.mul_one], .inr ⟨w.heap.size, _, _, rfl, hbase, heap_alloc_new w.drew _, hge, hcm, ?_, ?_⟩⟩, ⟨rfl, rfl, rfl, by simp, fun k hk _ => heap_alloc_old w.drew _ hk⟩⟩
    · simp only [Array.size_append, List.size_toArray, List.length_replicate, hln]
      omega
    · rw [hmap]
      simp only [Array.toList_append]
      rw [List.take_left' (by rw [List.length_append, hln, List.length_replicate, Nat.mul_one])]
  by_cases hm0 : m = 0
  · subst hm0
    rw [List.replicate_zero, List.append_nil] at *
    have hw : IntKind.i64.wrap (0 : Int) = 0 := by rw [IntKind.wrap_i64]; omega
    obtain ⟨_, ⟨rfl, rfl⟩ | ⟨g, cap, cur, rfl, hbg, hg, hnc, hcm, hcs, htake⟩⟩ := id hown
    · exact ⟨.slice none 0 0, w, by simp [Builtin.append_, run_underlying ht, run_underlying htn, sizeOf, typeInfo, hi, asInt, asIntOf, hw], hown, ⟨rfl, rfl, rfl, Nat.le_refl _, fun _ _ _ => rfl⟩⟩
    · exact ⟨_, w, by simp [Builtin.append_, run_underlying ht, run_underlying htn, sizeOf, typeInfo, hi, asInt, asIntOf, hw, hnc, storeCells], hown, ⟨rfl, rfl, rfl, Nat.le_refl _, fun _ _ _ => rfl⟩⟩
  · obtain ⟨_, ⟨rfl, rfl⟩ | ⟨g, cap, cur, rfl, hbg, hg, hnc, hcm, hcs, htake⟩⟩ := id hown
    · have hl0 : l = [] := by
        rw [List.length_map] at hln
        exact List.eq_nil_of_length_eq_zero hln
      subst hl0
      have hr := Lib.run_append_nil_zeros (P := Tryd.prog) w 25 3 ty 5 i _ .i64 .i64 ht htn hi hz m (by omega) (by rw [hs]; omega) (by omega) (by rw [hb]; omega)
      have hgr := grown 0 (Value.ownBlock (.slice none 0 0))
      simp only [Nat.zero_add, List.map_nil, Array.empty_append] at hgr ⊢
      exact ⟨_, _, hr, hgr.1, hgr.2⟩
    · by_cases hroom : n + m ≤ cap
      · have hw : IntKind.i64.wrap (m : Int) = m := by rw [IntKind.wrap_i64]; omega
        have hst := run_storeCells_at Tryd.prog g n 5 (List.replicate m (Value.int .u8 0)) 0 cur w hg (by rw [List.length_replicate]; omega) (by intro u hu; rw [(List.mem_replicate.1 hu).2]; rfl)
        simp only [Nat.add_zero] at hst
        have hneg : ¬ ((m : Int) < 0) := by omega
        have h48i : ¬ (281474976710656 < (m : Int)) := by omega
        refine ⟨.slice (some ⟨g, 0, none⟩) (n + m) cap, w.setRow g (cur.toList.take n ++ List.replicate m (Value.int .u8 0) ++ cur.toList.drop (n + m)).toArray, ?_, ?_, ?_⟩
        · simp [Builtin.append_, run_underlying ht, run_underlying htn, sizeOf, typeInfo, zeroValue, hi, hz, hs, hb, asInt, asIntOf, hw, hneg, h48i, hm0, hroom, Addr.add_lit, zeroB, hst]
        · refine ⟨by rw [hlen, Nat.mul_one], .inr ⟨g, cap, _, rfl, hbg, setRow_heap w g cur _ 5 _ hg, hroom, hcm, ?_, ?_⟩⟩
          · simp only [List.size_toArray, List.length_append, List.length_take, List.length_drop, Array.length_toList, List.length_replicate]
            omega
          · rw [hmap]
            simp only [List.append_assoc]
            rw [Nat.mul_one] at htake
            rw [htake, ← List.append_assoc, List.take_left' (by rw [List.length_append, hln, List.length_replicate, Nat.mul_one])]
        · exact ⟨rfl, rfl, rfl, by simp, fun k _ hk => setRow_other w g k _ (fun e => hk (by simp [Value.ownBlock, e]))⟩
      · have holds : ∀ j u, (l.map (Value.int .u8))[j]? = some u → w.cell? ((⟨g, 0, none⟩ : Addr).add j) = some u := hown.cells (g := g) rfl
        have hf := run_firstCells_some (P := Tryd.prog) w.drew i.size n ⟨g, 0, none⟩ n cap (l.map (Value.int .u8)) (by rw [hs, hln, Nat.mul_one]) (by simpa using holds)
        have hr := Lib.run_append_grow_zeros (P := Tryd.prog) w 25 3 ty 5 i _ .i64 .i64 ht htn hi hz (some ⟨g, 0, none⟩) n cap _ hf m (by omega) (by rw [hs]; omega) (by omega) (by omega) (by rw [hb]; omega) (by rw [hb]; exact growslice_fits (by omega) (by omega))
        have hgr := grown cap (Value.ownBlock (.slice (some ⟨g, 0, none⟩) n cap))
        exact ⟨_, _, hr, hgr.1, hgr.2⟩
theorem want_append_bytes {w : World} {ops : Array Oper} {rest : List Oper} {o : Oper} {a : Act} {Q : Exit → Act → World → Prop} (hw : Region.wanted o (yielded ops a.tmps) = true) (s x : Operand)
    (ho : o.op = .call { callee := .builtin .append, args := #[s, x], argTypes := #[25, 25] }) (base : Nat) (v : Value) (n : Nat) (l : List Int) (hs : a.eval s = v) (hown : w.ownsRow base 5 1 v n (l.map (Value.int .u8)))
    (oa : Option Addr) (m c : Nat) (l' : List Int) (hx : a.eval x = .slice oa m c) (hL : Bs w (.slice oa m c) l') (hm : n + m ≤ 1000000) (hbase : base ≤ w.heap.size)
    (h : ∀ v' w', w'.ownsRow base 5 1 v' (n + m) ((l ++ l').map (Value.int .u8)) → w.grownBy w' v.ownBlock → wpList Tryd.prog ops Q rest (a.put o.dst v') w') : wpList Tryd.prog ops Q (o :: rest) a w := by
  obtain ⟨i5, hi0, hz0, hz1, hz2⟩ := info_parts infoB
  obtain ⟨p1, p2, p3, p4, p5⟩ := hL.parts
  refine wpList_step fun K hK => ?_
  rw [if_pos hw]
  refine wp_append_in s x 25 ho base 5 i5 _ 1 Tryd.underlying25 hi0 hz0 hz1 hz2 rfl v n _ hs hown oa m c (l'.map (Value.int .u8)) hx p4 (by rw [List.length_map]; exact p1) p5 (ints_oneCell _ _) (by unfold maxLen; omega) (by omega) hbase ?_
  intro v' w' h1 h2
  exact hK _ _ (h v' w' (by rw [List.map_append]; exact h1) h2)
theorem want_append_zeros {w : World} {ops : Array Oper} {rest : List Oper} {o : Oper} {a : Act} {Q : Exit → Act → World → Prop} (hw : Region.wanted o (yielded ops a.tmps) = true) (s x : Operand)
    (ho : o.op = .call { callee := .builtin .append, args := #[s, x], argTypes := #[25, 3] }) (base : Nat) (v : Value) (n : Nat) (l : List Int) (hs : a.eval s = v) (hown : w.ownsRow base 5 1 v n (l.map (Value.int .u8)))
    (m : Nat) (hx : a.eval x = .int .i64 m) (hm : n + m ≤ 1000000) (hbase : base ≤ w.heap.size)
    (h : ∀ v' w', w'.ownsRow base 5 1 v' (n + m) ((l ++ List.replicate m 0).map (Value.int .u8)) → w.grownBy w' v.ownBlock → wpList Tryd.prog ops Q rest (a.put o.dst v') w') : wpList Tryd.prog ops Q (o :: rest) a w := by
  refine wpList_step fun K hK => ?_
  rw [if_pos hw]
  obtain ⟨v', w', hr, h2, h3⟩ := run_append_zeros w o.type base v n l hown m hm hbase
  unfold Oper.wp execOp
  simp only [ho, resolve, invoke, builtin, Sem.run_bind, Sem.run_pure, Result.andThen_ok, List.map_toArray, List.map_cons, List.map_nil, hs, hx, hr]
  exact hK _ _ (h v' w' h2 h3)
end Go.Proofs.YtjkfiimlaigdhaaDoor
namespace Go.Proofs.YtjkfiimlaigdhaaDoor
open Go.RowKit

theorem low4_eq {s : Nat} (h : s < 4294967296) : [(s : Int) % 256, (s : Int) / 256 % 256, (s : Int) / 65536 % 256, (s : Int) / 16777216] = Crc.low4 s := by
  unfold Crc.low4
  simp only [List.cons.injEq, and_true]
  omega
theorem low_byt {s : Nat} (h : s < 4294967296) : ∀ x ∈ [(s : Int) % 256, (s : Int) / 256 % 256, (s : Int) / 65536 % 256, (s : Int) / 16777216], Byt x := by
  rw [low4_eq h]
  exact Crc.low4_byt s
end Go.Proofs.YtjkfiimlaigdhaaDoor
namespace Go.Proofs.YtjkfiimlaigdhaaDoor
open Go.RowKit

namespace Crc
theorem bit_test (x s : Nat) : x / 2 ^ s % 2 = (x.testBit s).toNat := by
  rw [Nat.toNat_testBit]
theorem bitL_set {l : List Int} {q r : Nat} (hq : q < l.length) (hr : r < 8) (k : Nat) :
    bitL (l.set q (((l.getD q 0).toNat ^^^ 2 ^ r : Nat) : Int)) k = bitL l k ^^^ (if k = 8 * q + r then 1 else 0) := by
  unfold bitL
  by_cases hk : k / 8 = q
  · rw [List.getD_eq_getElem?_getD, hk, List.getElem?_set_self hq, Option.getD_some, Int.toNat_natCast, bit_test, bit_test, Nat.testBit_xor, Nat.testBit_two_pow]
    by_cases hs : k = 8 * q + r
    · have : r = k % 8 := by omega
      rw [if_pos hs]
      subst this
      cases (l.getD q 0).toNat.testBit (k % 8) <;> simp
    · have : ¬ r = k % 8 := by omega
      rw [if_neg hs, Nat.xor_zero]
      simp [this]
  · rw [if_neg (by omega), Nat.xor_zero, List.getD_eq_getElem?_getD, List.getElem?_set_ne (fun c => hk c.symm), List.getD_eq_getElem?_getD]
theorem turn_byt {b : Int} {r : Nat} (h : Byt b) (hr : r < 8) : Byt ((b.toNat ^^^ 2 ^ r : Nat) : Int) := by
  unfold Byt at *
  have : (2 : Nat) ^ r < 2 ^ 8 := Nat.pow_lt_pow_right (by omega) hr
  have := Nat.xor_lt_two_pow (n := 8) (x := b.toNat) (y := 2 ^ r) (by omega) this
  omega
/-- One round: the bit is turned if the mask says so, and it is there. -/
def turn1 (bit mask : Nat) (L : List Int) (i : Nat) : List Int :=
  if mask / 2 ^ i % 2 = 1 ∧ (bit + i) / 8 < L.length then L.set ((bit + i) / 8) (((L.getD ((bit + i) / 8) 0).toNat ^^^ 2 ^ ((bit + i) % 8) : Nat) : Int) else L
def turnL (bit mask : Nat) (L : List Int) : Nat → List Int
  | 0 => L
  | i + 1 => turn1 bit mask (turnL bit mask L i) i
def turnN (bit mask n : Nat) : Nat → Nat
  | 0 => 0
  | i + 1 => turnN bit mask n i + if mask / 2 ^ i % 2 = 1 ∧ (bit + i) / 8 < n then 1 else 0
theorem turn1_length (bit mask : Nat) (L : List Int) (i : Nat) : (turn1 bit mask L i).length = L.length := by
  unfold turn1
  split
  · rw [List.length_set]
  · rfl
theorem turnL_length (bit mask : Nat) (L : List Int) (i : Nat) : (turnL bit mask L i).length = L.length := by
  induction i with
  | zero => rfl
  | succ i ih => show (turn1 bit mask (turnL bit mask L i) i).length = _; rw [turn1_length, ih]
theorem turn1_byt {bit mask : Nat} {L : List Int} (hb : ∀ x ∈ L, Byt x) (i : Nat) : ∀ x ∈ turn1 bit mask L i, Byt x := by
  unfold turn1
  split
  · intro x hx
    rcases List.mem_or_eq_of_mem_set hx with h | h
    · exact hb x h
    · rw [h]
      exact turn_byt (getD_byt hb _) (Nat.mod_lt _ (by omega))
  · exact hb
theorem turnL_byt {bit mask : Nat} {L : List Int} (hb : ∀ x ∈ L, Byt x) (i : Nat) : ∀ x ∈ turnL bit mask L i, Byt x := by
  induction i with
  | zero => exact hb
  | succ i ih => exact turn1_byt ih i
/-- The bits that are turned. -/
def err (bit mask t k : Nat) : Nat := if bit ≤ k ∧ k < bit + t then mask / 2 ^ (k - bit) % 2 else 0
theorem err_lt (bit mask t k : Nat) : err bit mask t k < 2 := by
  unfold err
  split
  · exact Nat.mod_lt _ (by omega)
  · omega
theorem turnL_bits {bit mask : Nat} {L : List Int} (t k : Nat) (hk : k < 8 * L.length) : bitL (turnL bit mask L t) k = bitL L k ^^^ err bit mask t k := by
  induction t with
  | zero =>
    have : err bit mask 0 k = 0 := if_neg (by omega)
    rw [this, Nat.xor_zero]
    rfl
  | succ t ih =>
    show bitL (turn1 bit mask (turnL bit mask L t) t) k = _
    have hl := turnL_length bit mask L t
    by_cases hc : mask / 2 ^ t % 2 = 1 ∧ (bit + t) / 8 < (turnL bit mask L t).length
    · unfold turn1
      rw [if_pos hc, bitL_set hc.2 (Nat.mod_lt _ (by omega)), ih, Nat.xor_assoc]
      congr 1
      by_cases he : k = bit + t
      · subst he
        have e1 : err bit mask t (bit + t) = 0 := if_neg (by omega)
        have e2 : err bit mask (t + 1) (bit + t) = 1 := by
          unfold err
          rw [if_pos (by omega), show bit + t - bit = t from by omega]
          exact hc.1
        rw [e1, e2, if_pos (by omega)]
        rfl
      · rw [if_neg (by omega), Nat.xor_zero]
        unfold err
        by_cases h1 : bit ≤ k ∧ k < bit + t
        · rw [if_pos h1, if_pos (by omega)]
        · rw [if_neg h1, if_neg (by omega)]
    · unfold turn1
      rw [if_neg hc, ih]
      congr 1
      unfold err
      by_cases he : k = bit + t
      · subst he
        rw [if_neg (by omega), if_pos (by omega), show bit + t - bit = t from by omega]
        have : ¬ mask / 2 ^ t % 2 = 1 := fun h => hc ⟨h, by omega⟩
        omega
      · by_cases h1 : bit ≤ k ∧ k < bit + t
        · rw [if_pos h1, if_pos (by omega)]
        · rw [if_neg h1, if_neg (by omega)]
theorem turnN_zero {bit mask n t : Nat} : turnN bit mask n t = 0 ↔ ∀ k, k < 8 * n → err bit mask t k = 0 := by
  induction t with
  | zero =>
    constructor
    · exact fun _ k _ => if_neg (by omega)
    · exact fun _ => rfl
  | succ t ih =>
    constructor
    · intro h k hk
      have h1 : turnN bit mask n t = 0 := by
        have : turnN bit mask n t + (if mask / 2 ^ t % 2 = 1 ∧ (bit + t) / 8 < n then 1 else 0) = 0 := h
        omega
      have h2 : ¬ (mask / 2 ^ t % 2 = 1 ∧ (bit + t) / 8 < n) := fun c => by
        have : turnN bit mask n t + (if mask / 2 ^ t % 2 = 1 ∧ (bit + t) / 8 < n then 1 else 0) = 0 := h
        rw [if_pos c] at this
        omega
      have h3 := ih.1 h1 k hk
      unfold err at h3 ⊢
      by_cases he : k = bit + t
      · subst he
        rw [if_pos (by omega), show bit + t - bit = t from by omega]
        have : ¬ mask / 2 ^ t % 2 = 1 := fun c => h2 ⟨c, by omega⟩
        omega
      · by_cases hr : bit ≤ k ∧ k < bit + t
        · rw [if_pos hr] at h3
          rw [if_pos (by omega)]
          exact h3
        · rw [if_neg (by omega)]
    · intro h
      have h1 : turnN bit mask n t = 0 := ih.2 fun k hk => by
        have h3 := h k hk
        unfold err at h3 ⊢
        by_cases hr : bit ≤ k ∧ k < bit + t
        · rw [if_pos (by omega)] at h3
          rw [if_pos hr]
          exact h3
        · rw [if_neg hr]
      have h2 : ¬ (mask / 2 ^ t % 2 = 1 ∧ (bit + t) / 8 < n) := fun c => by
        have h3 := h (bit + t) (by omega)
        unfold err at h3
        rw [if_pos (by omega), show bit + t - bit = t from by omega] at h3
        omega
      show turnN bit mask n t + _ = 0
      rw [h1, if_neg h2]
theorem turnN_le (bit mask n t : Nat) : turnN bit mask n t ≤ t := by
  induction t with
  | zero => exact Nat.le_refl _
  | succ t ih =>
    show turnN bit mask n t + _ ≤ t + 1
    split <;> omega
/-- Bytes that their sum stands behind, a burst turned: they are such still just if nothing was turned. -/
theorem burst_iff {x : List Int} {bit mask : Nat} (hb : ∀ b ∈ x, Byt b) (h : run 4294967295 x = it 32 4294967295) : run 4294967295 (turnL bit mask x 32) = it 32 4294967295 ↔ turnN bit mask x.length 32 = 0 := by
  have e := run_turned (y := turnL bit mask x 32) (e := err bit mask 32) 4294967295 hb (turnL_byt hb 32) (turnL_length _ _ _ _) (fun k hk => turnL_bits 32 k hk)
  rw [h] at e
  rw [e, turnN_zero]
  constructor
  · intro h1
    have h2 : ser 0 (err bit mask 32) (8 * x.length) = 0 := by
      have h3 : it 32 4294967295 ^^^ (it 32 4294967295 ^^^ ser 0 (err bit mask 32) (8 * x.length)) = it 32 4294967295 ^^^ it 32 4294967295 := by rw [h1]
      rw [xor_back, Nat.xor_self] at h3
      exact h3
    exact burst (fun i => err_lt _ _ _ _) bit _ (fun i hi => if_neg (by omega)) (fun i hi => if_neg (by omega)) h2
  · intro h1
    rw [ser_congr (g := fun _ => 0) h1, ser_noughts, it_zero, Nat.xor_zero]
end Crc
end Go.Proofs.YtjkfiimlaigdhaaDoor
namespace Go.Proofs.YtjkfiimlaigdhaaDoor
open Go.RowKit

namespace Cell
def pad (body : List Int) : List Int := body ++ List.replicate (55 - body.length) 0
def pre (k : Int) (body : List Int) : List Int := [87, 115, 1, k] ++ pad body
def cell (k : Int) (body : List Int) : List Int := pre k body ++ Crc.low4 (Crc.sum (pre k body)) ++ [165]
def MayC (k : Int) (body : List Int) : Prop := 1 ≤ k ∧ k ≤ 255 ∧ body.length ≤ 55
instance (k : Int) (body : List Int) : Decidable (MayC k body) := by unfold MayC; exact inferInstance
def put (k : Int) (body : List Int) : List Int := if MayC k body then cell k body else []
def bodyOf (b : List Int) : List Int := (b.drop 4).take 55
def Is (b : List Int) : Prop := b.length = 64 ∧ put (b.getD 3 0) (bodyOf b) = b
instance (b : List Int) : Decidable (Is b) := by unfold Is; exact inferInstance
def takeK (b : List Int) : Int := if Is b then b.getD 3 0 else 0
def takeX (b : List Int) : List Int := if Is b then bodyOf b else []
theorem pad_length {body : List Int} (h : body.length ≤ 55) : (pad body).length = 55 := by
  unfold pad
  rw [List.length_append, List.length_replicate]
  omega
theorem pad_pad {body : List Int} (h : body.length ≤ 55) : pad (pad body) = pad body := by
  unfold pad
  rw [List.length_append, List.length_replicate, show 55 - (body.length + (55 - body.length)) = 0 from by omega]
  simp
theorem pre_length {k : Int} {body : List Int} (h : body.length ≤ 55) : (pre k body).length = 59 := by
  unfold pre
  rw [List.length_append, pad_length h]
  rfl
theorem cell_length {k : Int} {body : List Int} (h : body.length ≤ 55) : (cell k body).length = 64 := by
  unfold cell
  rw [List.length_append, List.length_append, pre_length h]
  rfl
theorem pre_byt {k : Int} {body : List Int} (hk : 1 ≤ k ∧ k ≤ 255) (hb : ∀ x ∈ body, Byt x) : ∀ x ∈ pre k body, Byt x := fun x hx => by
  unfold pre pad at hx
  rcases List.mem_append.1 hx with h | h
  · simp only [List.mem_cons, List.not_mem_nil, or_false] at h
    unfold Byt
    omega
  · rcases List.mem_append.1 h with h | h
    · exact hb x h
    · obtain ⟨_, rfl⟩ := List.mem_replicate.1 h
      exact ⟨by decide, by decide⟩
theorem cell_byt {k : Int} {body : List Int} (hk : 1 ≤ k ∧ k ≤ 255) (hb : ∀ x ∈ body, Byt x) : ∀ x ∈ cell k body, Byt x := fun x hx => by
  unfold cell at hx
  rcases List.mem_append.1 hx with h | h
  · rcases List.mem_append.1 h with h | h
    · exact pre_byt hk hb x h
    · exact Crc.low4_byt _ x h
  · obtain rfl := List.mem_singleton.1 h
    exact ⟨by decide, by decide⟩
theorem put_byt {k : Int} {body : List Int} (hb : ∀ x ∈ body, Byt x) : ∀ x ∈ put k body, Byt x := by
  unfold put
  split
  · rename_i h
    exact cell_byt ⟨h.1, h.2.1⟩ hb
  · intro x hx
    cases hx
theorem put_in {k : Int} {body : List Int} (h : MayC k body) : put k body = cell k body := if_pos h
theorem put_length_le (k : Int) (body : List Int) : (put k body).length ≤ 64 := by
  unfold put
  split
  · rename_i h
    rw [cell_length h.2.2]
    exact Nat.le_refl _
  · simp
theorem cell_three (k : Int) (body : List Int) : (cell k body).getD 3 0 = k := rfl
theorem bodyOf_cell {k : Int} {body : List Int} (h : body.length ≤ 55) : bodyOf (cell k body) = pad body := by
  unfold bodyOf
  have e : (cell k body).drop 4 = pad body ++ (Crc.low4 (Crc.sum (pre k body)) ++ [165]) := by
    unfold cell
    rw [List.append_assoc]
    rfl
  rw [e]
  exact List.take_left' (pad_length h)
theorem is_cell {k : Int} {body : List Int} (h : MayC k body) : Is (cell k body) := by
  refine ⟨cell_length h.2.2, ?_⟩
  rw [cell_three, bodyOf_cell h.2.2, put_in ⟨h.1, h.2.1, by rw [pad_length h.2.2]; omega⟩]
  unfold cell pre
  rw [pad_pad h.2.2]
theorem is_form {b : List Int} (h : Is b) : MayC (b.getD 3 0) (bodyOf b) ∧ b = cell (b.getD 3 0) (bodyOf b) := by
  obtain ⟨h1, h2⟩ := h
  by_cases hm : MayC (b.getD 3 0) (bodyOf b)
  · exact ⟨hm, by rw [← put_in hm]; exact h2.symm⟩
  · have : put (b.getD 3 0) (bodyOf b) = [] := if_neg hm
    rw [this] at h2
    rw [← h2] at h1
    simp at h1
theorem bodyOf_byt {b : List Int} (hb : ∀ x ∈ b, Byt x) : ∀ x ∈ bodyOf b, Byt x := fun x hx => hb x (List.mem_of_mem_drop (List.mem_of_mem_take hx))
theorem is_run {b : List Int} (hb : ∀ x ∈ b, Byt x) (h : Is b) : Crc.run 4294967295 (b.take 63) = Crc.it 32 4294967295 ∧ b.getD 63 0 = 165 := by
  obtain ⟨hm, he⟩ := is_form h
  have hp := pre_byt (k := b.getD 3 0) ⟨hm.1, hm.2.1⟩ (bodyOf_byt hb)
  have hl : (pre (b.getD 3 0) (bodyOf b) ++ Crc.low4 (Crc.sum (pre (b.getD 3 0) (bodyOf b)))).length = 63 := by
    rw [List.length_append, pre_length hm.2.2]
    rfl
  constructor
  · have : b.take 63 = pre (b.getD 3 0) (bodyOf b) ++ Crc.low4 (Crc.sum (pre (b.getD 3 0) (bodyOf b))) := by
      conv => lhs; rw [he]
      exact List.take_left' hl
    rw [this]
    exact (Crc.behind_iff hp (Crc.sum_lt hp)).2 rfl
  · rw [he]
    unfold cell
    rw [List.getD_eq_getElem?_getD, List.getElem?_append_right (by omega), hl]
    rfl
theorem byte_bits {a b : Int} (ha : Byt a) (hb : Byt b) (h : ∀ i, i < 8 → a.toNat / 2 ^ i % 2 = b.toNat / 2 ^ i % 2) : a = b := by
  unfold Byt at ha hb
  have h1 := Crc.val_bits a.toNat 8
  have h2 := Crc.val_bits b.toNat 8
  have e : ∀ n, n ≤ 8 → Crc.val (fun i => a.toNat / 2 ^ i % 2) n = Crc.val (fun i => b.toNat / 2 ^ i % 2) n := by
    intro n
    induction n with
    | zero => exact fun _ => rfl
    | succ n ih =>
      intro hn
      show Crc.val _ n ^^^ _ = Crc.val _ n ^^^ _
      rw [ih (by omega)]
      show _ ^^^ (a.toNat / 2 ^ n % 2) * 2 ^ n = _ ^^^ (b.toNat / 2 ^ n % 2) * 2 ^ n
      rw [h n (by omega)]
  rw [e 8 (Nat.le_refl _), h2] at h1
  omega
theorem list_bits {x y : List Int} (hx : ∀ b ∈ x, Byt b) (hy : ∀ b ∈ y, Byt b) (hl : y.length = x.length) (h : ∀ k, k < 8 * x.length → Crc.bitL y k = Crc.bitL x k) : y = x := by
  refine (eq_of_getD hl fun j hj => byte_bits (Crc.getD_byt hx j) (Crc.getD_byt hy j) fun i hi => ?_).symm
  have := h (8 * j + i) (by omega)
  unfold Crc.bitL at this
  rw [show (8 * j + i) / 8 = j from by omega, show (8 * j + i) % 8 = i from by omega] at this
  exact this.symm
theorem bitL_take {l : List Int} {n k : Nat} (h : k < 8 * n) : Crc.bitL (l.take n) k = Crc.bitL l k := by
  unfold Crc.bitL
  rw [List.getD_eq_getElem?_getD, List.getElem?_take_of_lt (by omega), ← List.getD_eq_getElem?_getD]
/-- A cell of which bits within 32 in a row are turned is one still just if none was. -/
theorem burst_is {b y : List Int} {bit mask : Nat} (hb : ∀ x ∈ b, Byt x) (hy : ∀ x ∈ y, Byt x) (hl : y.length = b.length) (h : Is b) (he : ∀ k, k < 512 → Crc.bitL y k = Crc.bitL b k ^^^ Crc.err bit mask 32 k) :
    Is y ↔ ∀ k, k < 512 → Crc.err bit mask 32 k = 0 := by
  have hlb := h.1
  constructor
  · intro hi
    obtain ⟨r1, s1⟩ := is_run hb h
    obtain ⟨r2, s2⟩ := is_run hy hi
    have ht : (b.take 63).length = 63 := by rw [List.length_take]; omega
    have e := Crc.run_turned (x := b.take 63) (y := y.take 63) (e := Crc.err bit mask 32) 4294967295 (fun x hx => hb x (List.mem_of_mem_take hx)) (fun x hx => hy x (List.mem_of_mem_take hx)) (by rw [List.length_take, List.length_take, hl]) (fun k hk => by
      rw [ht] at hk
      rw [bitL_take hk, bitL_take hk]
      exact he k (by omega))
    rw [r1, r2, ht] at e
    have z : Crc.ser 0 (Crc.err bit mask 32) (8 * 63) = 0 := by
      have h3 : Crc.it 32 4294967295 ^^^ Crc.it 32 4294967295 = Crc.it 32 4294967295 ^^^ (Crc.it 32 4294967295 ^^^ Crc.ser 0 (Crc.err bit mask 32) (8 * 63)) := by rw [← e]
      rw [Crc.xor_back, Nat.xor_self] at h3
      exact h3.symm
    have hz := Crc.burst (fun i => Crc.err_lt bit mask 32 i) bit _ (fun i hi => if_neg (by omega)) (fun i hi => if_neg (by omega)) z
    intro k hk
    by_cases h63 : k < 504
    · exact hz k (by omega)
    · have e2 := he k hk
      have e3 : Crc.bitL y k = Crc.bitL b k := by
        unfold Crc.bitL
        rw [show k / 8 = 63 from by omega, s1, s2]
      rw [e3] at e2
      have h4 : Crc.bitL b k ^^^ Crc.bitL b k = Crc.bitL b k ^^^ (Crc.bitL b k ^^^ Crc.err bit mask 32 k) := by rw [← e2]
      rw [Crc.xor_back, Nat.xor_self] at h4
      exact h4.symm
  · intro hz
    have : y = b := list_bits hb hy hl fun k hk => by
      rw [he k (by omega), hz k (by omega), Nat.xor_zero]
    rw [this]
    exact h
theorem turned_is {b : List Int} {bit mask : Nat} (hb : ∀ x ∈ b, Byt x) (h : Is b) : Is (Crc.turnL bit mask b 32) ↔ Crc.turnN bit mask 64 32 = 0 := by
  rw [Crc.turnN_zero]
  exact burst_is hb (Crc.turnL_byt hb 32) (Crc.turnL_length _ _ _ _) h fun k hk => Crc.turnL_bits 32 k (by rw [h.1]; omega)
/-- One byte turned. -/
theorem one_is {b : List Int} {q c : Nat} (hb : ∀ x ∈ b, Byt x) (h : Is b) (hq : q < 64) (hc : c < 256) : Is (b.set q (((b.getD q 0).toNat ^^^ c : Nat) : Int)) ↔ c = 0 := by
  have hbq := Crc.getD_byt hb q
  have hy : ∀ x ∈ b.set q (((b.getD q 0).toNat ^^^ c : Nat) : Int), Byt x := fun x hx => by
    rcases List.mem_or_eq_of_mem_set hx with h | h
    · exact hb x h
    · rw [h]
      unfold Byt at *
      have := Nat.xor_lt_two_pow (n := 8) (x := (b.getD q 0).toNat) (y := c) (by omega) hc
      omega
  rw [burst_is (bit := 8 * q) (mask := c) hb hy (List.length_set ..) h fun k hk => ?_]
  · constructor
    · intro hz
      have h1 : ∀ i, i < 8 → (c : Int).toNat / 2 ^ i % 2 = (0 : Int).toNat / 2 ^ i % 2 := fun i hi => by
        have := hz (8 * q + i) (by omega)
        unfold Crc.err at this
        rw [if_pos (by omega), show 8 * q + i - 8 * q = i from by omega] at this
        rw [Int.toNat_natCast, this]
        simp
      have := byte_bits (a := (c : Int)) (b := 0) ⟨by omega, by omega⟩ ⟨by omega, by omega⟩ h1
      omega
    · rintro rfl k _
      unfold Crc.err
      split
      · simp
      · rfl
  · unfold Crc.bitL
    by_cases hkq : k / 8 = q
    · rw [hkq, List.getD_eq_getElem?_getD, List.getElem?_set_self (by rw [h.1]; exact hq), Option.getD_some, Int.toNat_natCast, Crc.bit_test, Crc.bit_test, Nat.testBit_xor]
      unfold Crc.err
      rw [if_pos (by omega), show k - 8 * q = k % 8 from by omega, Crc.bit_test]
      cases (b.getD q 0).toNat.testBit (k % 8) <;> cases c.testBit (k % 8) <;> rfl
    · rw [List.getD_eq_getElem?_getD, List.getElem?_set_ne (fun e => hkq e.symm), ← List.getD_eq_getElem?_getD]
      have : Crc.err (8 * q) c 32 k = 0 := by
        unfold Crc.err
        split
        · have h8 : 8 ≤ k - 8 * q := by omega
          have : c < 2 ^ (k - 8 * q) := Nat.lt_of_lt_of_le hc (Nat.pow_le_pow_right (n := 2) (by omega) h8)
          rw [Nat.div_eq_of_lt this]
        · rfl
      rw [this, Nat.xor_zero]
end Cell
end Go.Proofs.YtjkfiimlaigdhaaDoor
namespace Go.Proofs.YtjkfiimlaigdhaaDoor
open Go.RowKit

/-- From w to w' only blocks in F, and new ones, were written. -/
def Kp (F : Nat → Prop) (w w' : World) : Prop := w'.os = w.os ∧ w'.tape = w.tape ∧ w'.output = w.output ∧ w.heap.size ≤ w'.heap.size ∧ ∀ k, k < w.heap.size → ¬ F k → w'.heap[k]? = w.heap[k]?
theorem Kp.size {F : Nat → Prop} {w w' : World} (h : Kp F w w') : w.heap.size ≤ w'.heap.size := h.2.2.2.1
theorem Kp.refl (F : Nat → Prop) (w : World) : Kp F w w := ⟨rfl, rfl, rfl, Nat.le_refl _, fun _ _ _ => rfl⟩
theorem Gr.kp {w w' : World} (h : Gr w w') (F : Nat → Prop) : Kp F w w' := ⟨h.1, h.2.1, h.2.2.1, h.2.2.2.1, fun k hk _ => h.2.2.2.2 k hk⟩
theorem Kp.trans {F F' : Nat → Prop} {w w1 w2 : World} (h : Kp F w w1) (h' : Kp F' w1 w2) (hF : ∀ k, F' k → F k ∨ w.heap.size ≤ k) : Kp F w w2 :=
  ⟨by rw [h'.1, h.1], by rw [h'.2.1, h.2.1], by rw [h'.2.2.1, h.2.2.1], Nat.le_trans h.size h'.size, fun k hk hn => by
    rw [h'.2.2.2.2 k (Nat.lt_of_lt_of_le hk h.size) (fun e => by
      rcases hF k e with c | c
      · exact hn c
      · omega), h.2.2.2.2 k hk hn]⟩
theorem Kp.mono {F F' : Nat → Prop} {w w1 : World} (h : Kp F w w1) (hF : ∀ k, F k → F' k) : Kp F' w w1 := ⟨h.1, h.2.1, h.2.2.1, h.2.2.2.1, fun k hk hn => h.2.2.2.2 k hk fun e => hn (hF k e)⟩
/-- What is written is new since w0: then, since w0, what was there stands. -/
theorem Kp.gr {F : Nat → Prop} {w0 w w' : World} (h : Kp F w w') (h0 : Gr w0 w) (hF : ∀ k, F k → w0.heap.size ≤ k) : Gr w0 w' :=
  ⟨by rw [h.1, h0.1], by rw [h.2.1, h0.2.1], by rw [h.2.2.1, h0.2.2.1], Nat.le_trans h0.size h.size, fun k hk => by
    rw [h.2.2.2.2 k (Nat.lt_of_lt_of_le hk h0.size) (fun e => by have := hF k e; omega), h0.2.2.2.2 k hk]⟩
theorem Kp.block {F : Nat → Prop} {w w' : World} (h : Kp F w w') {g : Nat} {o : Obj} (hg : w.heap[g]? = some o) (hn : ¬ F g) : w'.heap[g]? = some o := by
  rw [h.2.2.2.2 g (Array.getElem?_eq_some_iff.1 hg).1 hn]
  exact hg
theorem Kp.cell {F : Nat → Prop} {w w' : World} (h : Kp F w w') {a : Addr} {x : Value} (hx : w.cell? a = some x) (hn : ¬ F a.block) : w'.cell? a = some x := by
  rw [World.cell?_of_block (h.2.2.2.2 a.block (World.block_lt_of_cell? w a hx) hn)]
  exact hx
theorem Kp.frozen {F : Nat → Prop} {w w' : World} (h : Kp F w w') {a : Addr} {x : Value} (hx : w.cell? a = some x) (hn : ¬ F a.block) : w'.frozen? a = w.frozen? a :=
  World.frozen?_of_block (h.2.2.2.2 a.block (World.block_lt_of_cell? w a hx) hn)
/-- A store into one block. -/
theorem Kp.set (w : World) (g i : Nat) (v : Value) : Kp (fun k => k = g) w (w.setCell ⟨g, i, none⟩ v) := by
  have h : Below 0 w (w.setCell ⟨g, i, none⟩ v) := Below.setCell (Below.refl _ _) (Nat.zero_le _) v
  exact ⟨h.os, h.tape, h.output, h.size, fun k _ hn => heap_setCell_other _ _ _ _ hn⟩
theorem Kp.drew {F : Nat → Prop} {w w' : World} (h : Kp F w w') : Kp F w w'.drew := h
theorem Kp.append {F : Nat → Prop} {w W W' : World} {row : Option Nat} (h : Kp F w W) (hg : W.grownBy W' row) (hr : ∀ k, row = some k → w.heap.size ≤ k) : Kp F w W' := by
  have h2 : Kp (fun k => row = some k) W W' := ⟨hg.os, hg.tape, hg.output, hg.size, fun k hk hn => hg.block k hk fun e => hn e.symm⟩
  exact h.trans h2 fun k e => .inr (hr k e)
theorem Kp.alloc {F : Nat → Prop} {w W : World} (h : Kp F w W) (c : Array Value) (t : TypeId) : Kp F w (W.alloc (.cells c t)) := h.trans ((Gr.alloc (Gr.refl W) c t).kp fun _ => False) fun _ e => e.elim
end Go.Proofs.YtjkfiimlaigdhaaDoor
namespace Go.Proofs.YtjkfiimlaigdhaaDoor
open Go.RowKit

def I64 (x : Int) : Prop := -9223372036854775808 ≤ x ∧ x < 9223372036854775808
/-- v is a slice of ints that reads as l in w. -/
def Zs (w : World) (v : Value) (l : List Int) : Prop :=
  (∀ x ∈ l, I64 x) ∧ ∃ oa c, v = .slice oa l.length c ∧ l.length ≤ c ∧ c ≤ 9223372036854775807 ∧ (oa = none → c = 0) ∧ ∀ a, oa = some a → ∀ i, i < l.length → w.cell? (a.add i) = some (.int .i64 (l.getD i 0))
theorem cell_gr {w w' : World} (hg : Gr w w') {a : Addr} {x : Value} (h : w.cell? a = some x) : w'.cell? a = some x := (hg.kp fun _ => False).cell h (fun e => e)
theorem Zs.rng {w : World} {v : Value} {l : List Int} (h : Zs w v l) (i : Nat) (hi : i < l.length) : I64 (l.getD i 0) := by
  rw [List.getD_eq_getElem?_getD, List.getElem?_eq_getElem hi]
  exact h.1 _ (List.getElem_mem hi)
theorem Zs.grown {w w' : World} {v : Value} {l : List Int} (h : Zs w v l) (hg : Gr w w') : Zs w' v l := by
  obtain ⟨h0, oa, c, h1, h2, h3, h4, h5⟩ := h
  exact ⟨h0, oa, c, h1, h2, h3, h4, fun a ha i hi => cell_gr hg (h5 a ha i hi)⟩
theorem i64_of_wf {a : Int} (h : (Lit.int .i64 a).wf = true) : I64 a := by
  have := bounds_i64 h
  unfold I64
  omega
theorem Zs.of_in {w : World} {a : Option Addr} {len cap : Nat} {zs : List Int}
    (h : (a = none ∧ len = 0 ∧ cap = 0 ∧ zs = []) ∨ ∃ x, a = some x ∧ len ≤ cap ∧ cap ≤ maxLen ∧ zs.length = cap ∧ (∀ i, i < zs.length → w.cell? (x.add i) = some (.int .i64 (zs.getD i 0))) ∧ ∀ n ∈ zs, (Lit.int .i64 n).wf = true) :
    Zs w (.slice a len cap) (zs.take len) ∧ (zs.take len).length = len := by
  rcases h with ⟨rfl, rfl, rfl, rfl⟩ | ⟨x, rfl, h1, h2, h3, h4, h5⟩
  · exact ⟨⟨by simp, none, 0, rfl, by simp, by omega, fun _ => rfl, fun a h => by cases h⟩, rfl⟩
  · have hl : (zs.take len).length = len := by rw [List.length_take]; omega
    refine ⟨⟨fun z hz => i64_of_wf (h5 z (List.mem_of_mem_take hz)), some x, cap, by rw [hl], by rw [hl]; exact h1, by have : maxLen = 9223372036854775807 := rfl; omega, (fun h => by cases h), fun a ha i hi => ?_⟩, hl⟩
    cases ha
    rw [hl] at hi
    rw [h4 i (by omega), List.getD_eq_getElem?_getD, List.getD_eq_getElem?_getD, List.getElem?_take_of_lt hi]
theorem Zs.form3 {w : World} {v : Value} {l : List Int} (h : Zs w v l) : ∃ o m c, v = .slice o m c := by
  obtain ⟨_, oa, c, h1, _⟩ := h
  exact ⟨oa, _, c, h1⟩
/-- v's memory is none of F. -/
def AwayZ (F : Nat → Prop) (v : Value) : Prop := ∀ a m c, v = .slice (some a) m c → 0 < m → ¬ F a.block
theorem add_blk (a : Addr) (n : Nat) : (a.add n).block = a.block := by
  unfold Addr.add
  split <;> rfl
theorem Zs.kp {F : Nat → Prop} {w w' : World} {v : Value} {l : List Int} (h : Zs w v l) (hk : Kp F w w') (ha : AwayZ F v) : Zs w' v l := by
  obtain ⟨h0, oa, c, rfl, h2, h3, h4, h5⟩ := h
  exact ⟨h0, oa, c, rfl, h2, h3, h4, fun a he i hi => hk.cell (h5 a he i hi) (by
    rw [add_blk]
    subst he
    exact ha a _ c rfl (by omega))⟩
/-- What was there ahead of F lies away from it. -/
theorem Zs.away {F : Nat → Prop} {w : World} {v : Value} {l : List Int} (h : Zs w v l) (hF : ∀ k, F k → w.heap.size ≤ k) : AwayZ F v := fun a m c hv hm e => by
  obtain ⟨_, oa, c', he, _, _, _, h5⟩ := h
  rw [he] at hv
  obtain ⟨rfl, rfl, rfl⟩ : oa = some a ∧ l.length = m ∧ c' = c := by simpa using hv
  have := World.block_lt_of_cell? w _ (h5 a rfl 0 hm)
  rw [add_blk] at this
  have := hF _ e
  omega
end Go.Proofs.YtjkfiimlaigdhaaDoor
