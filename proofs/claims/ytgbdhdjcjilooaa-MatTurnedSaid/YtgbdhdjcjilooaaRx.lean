/-
  Two lists of rows side by side, changed alike in place.
-/
import Derived.Test.YtgbdhdjcjilooaaMx
import Derived.Test.YtgbdhdjcjilooaaLsq
namespace Go.Proofs.Ytgbdhdjcjilooaa
open Go.RowKit

/-- Rows in a block of one's own. -/
structure Rx (base : Nat) (W : World) (g n c k : Nat) (Lm : List (List Int)) (us : List Value) : Prop where
  own : W.ownsRow base 22 1 (.slice (some ⟨g, 0, none⟩) n c) n us
  row : ∀ i, i < n → Bs W (us.getD i undef) (Lm.getD i []) ∧ Rb base W (us.getD i undef)
  len : Lm.length = n
  wide : Wide k Lm
section
variable {base : Nat} {w0 W : World} {g n c k : Nat} {A Lm : List (List Int)} {us : List Value} {ps : List Nat} {col : Nat}
theorem Rx.cell (h : Rx base W g n c k Lm us) (i : Nat) (hi : i < n) :
    ∃ oi ci, us.getD i undef = .slice oi k ci ∧ W.cell? ⟨g, i, none⟩ = some (.slice oi k ci) ∧ ∀ j, j < k → ∃ a, oi = some a ∧ W.cell? (a.add j) = some (.int .u8 ((Lm.getD i []).getD j 0)) := by
  obtain ⟨g', c', he, _, _, _, _, hc⟩ := ownsRow_cell h.own (by omega)
  cases he
  have hb := (h.row i hi).1
  have hw := (h.wide.at i (by rw [h.len]; exact hi)).1
  obtain ⟨_, oi, ci, e, h1, _, h3, h4⟩ := hb
  rw [hw] at e h1 h4
  refine ⟨oi, ci, e, by rw [hc i hi, e], fun j hj => ?_⟩
  cases oi with
  | none => exact absurd (h3 rfl) (by omega)
  | some a => exact ⟨a, rfl, h4 a rfl j hj⟩
theorem Rx.frozen (h : Rx base W g n c k Lm us) (i : Nat) : W.frozen? ⟨g, i, none⟩ = false := by
  obtain ⟨_, ⟨he, _⟩ | ⟨g', c', cur, he, _, hg, _⟩⟩ := h.own
  · cases he
  · cases he
    exact frozen_of_row W g i _ _ hg
theorem Rx.low (h : Rx base W g n c k Lm us) : base ≤ g := (ownsRow_not_bytes h.own g rfl).1
theorem Rx.grow {W' : World} (h : Rx base W g n c k Lm us) (hg : Gr W W') : Rx base W' g n c k Lm us :=
  ⟨h.own.of_gr hg, fun i hi => Rb.gr (h.row i hi).1 (h.row i hi).2 hg, h.len, h.wide⟩
theorem Rx.put {u : Value} {l : List Int} (h : Rx base W g n c k Lm us) (i : Nat) (hi : i < n) (hb : Bs W u l) (hrb : Rb base W u) (hl : l.length = k) : Rx base (W.setCell ⟨g, i, none⟩ u) g n c k (Lm.set i l) (us.set i u) := by
  obtain ⟨h1, h2⟩ := Rws.set h.own h.len h.row i hi hb hrb
  exact ⟨h1, h2, by rw [List.length_set]; exact h.len, h.wide.set i hl hb.1⟩
theorem ownsRow_far {v : Value} {e : TypeId} {size m g' i : Nat} {u : Value} {xs : List Value} (h : W.ownsRow base e size v m xs) (hne : v.ownBlock ≠ some g') : (W.setCell ⟨g', i, none⟩ u).ownsRow base e size v m xs := by
  obtain ⟨h0, h1 | ⟨g, c, cur, rfl, hb, hg, h2⟩⟩ := h
  · exact ⟨h0, .inl h1⟩
  · refine ⟨h0, .inr ⟨g, c, cur, rfl, hb, ?_, h2⟩⟩
    rw [heap_setCell_other _ _ _ _ (fun e => hne (by subst e; rfl))]
    exact hg
/-- A store into another block of rows. -/
theorem row_far {g' i : Nat} {u v : Value} {l : List Int} (hb : Bs W v l) (hr : Rb base W v) (hrow : ∀ q, some g' = some q → base ≤ q ∧ ∀ cur, W.heap[q]? ≠ some (.cells cur 5 (0, 0))) : Bs (W.setCell ⟨g', i, none⟩ u) v l ∧ Rb base (W.setCell ⟨g', i, none⟩ u) v :=
  Rb.kept hb hr (row := some g') (fun j _ hne => heap_setCell_other _ _ _ _ (fun e => hne (by rw [e]))) hrow
theorem Rx.far {g' i : Nat} {u : Value} (h : Rx base W g n c k Lm us) (hne : g ≠ g') (hrow : ∀ q, some g' = some q → base ≤ q ∧ ∀ cur, W.heap[q]? ≠ some (.cells cur 5 (0, 0))) : Rx base (W.setCell ⟨g', i, none⟩ u) g n c k Lm us :=
  ⟨ownsRow_far h.own (fun e => hne (by cases e; rfl)), fun j hj => row_far (h.row j hj).1 (h.row j hj).2 hrow, h.len, h.wide⟩
theorem Mx.rx (h : Mx w0 W g n c k A Lm ps col us) : Rx w0.heap.size W g n c k Lm us := ⟨h.own, h.row, h.len, h.wide⟩
theorem Rx.mx (h : Rx w0.heap.size W g n c k Lm us) (he : L.Ech (A.map vec) (Lm.map vec) ps col) (hg : Gr w0 W) : Mx w0 W g n c k A Lm ps col us := ⟨h.own, h.row, h.len, h.wide, he, hg⟩
theorem Rx.blk (h : Rx base W g n c k Lm us) : ∀ q, some g = some q → base ≤ q ∧ ∀ cur, W.heap[q]? ≠ some (.cells cur 5 (0, 0)) := fun q e => by
  cases e
  exact ownsRow_not_bytes h.own g rfl
theorem Rx.some_cell (h : Rx base W g n c k Lm us) (i j : Nat) (u : Value) (hj : j < n) : ∃ y, (W.setCell ⟨g, i, none⟩ u).cell? ⟨g, j, none⟩ = some y := by
  obtain ⟨_, ⟨he, _⟩ | ⟨g', c', cur, he, _, hg, hh1, hh2, hh3, _⟩⟩ := h.own
  · cases he
  · cases he
    have h2 := heap_setCell_same W g i cur _ u hg
    rw [cell_of_row _ g j _ _ _ h2]
    have : j < (cur.setIfInBounds i u).size := by simp; omega
    exact ⟨_, by rw [Array.getElem?_eq_getElem this]⟩
end

/-- Since w0: X and Y are what A and B have become, alike. -/
structure Pr (w0 W : World) (gx cx gy cy n k m : Nat) (A B X Y : List (List Int)) (col : Nat) (us vs : List Value) : Prop where
  x : Rx w0.heap.size W gx n cx k X us
  y : Rx w0.heap.size W gy n cy m Y vs
  ne : gx ≠ gy
  gr : Gr w0 W
  ech : L.Ech (A.map vec) (X.map vec) (List.range col) col
  sat : ∀ M, L.Sat (X.map vec) (Y.map vec) M ↔ L.Sat (A.map vec) (B.map vec) M
section
variable {w0 W : World} {gx cx gy cy n k m : Nat} {A B X Y : List (List Int)} {col : Nat} {us vs : List Value}
theorem Pr.grow {W' : World} (h : Pr w0 W gx cx gy cy n k m A B X Y col us vs) (hg : Gr W W') : Pr w0 W' gx cx gy cy n k m A B X Y col us vs :=
  ⟨h.x.grow hg, h.y.grow hg, h.ne, Gr.trans h.gr hg, h.ech, h.sat⟩
theorem map_swap (X : List (List Int)) (a d : Nat) : ((X.set a (X.getD d [])).set d (X.getD a [])).map vec = ((X.map vec).set a (L.rowAt (X.map vec) d)).set d (L.rowAt (X.map vec) a) := by
  rw [List.map_set, List.map_set, rowAt_vec, rowAt_vec]
/-- Four stores: in both, two rows change places. -/
theorem Pr.swap (h : Pr w0 W gx cx gy cy n k m A B X Y col us vs) (a d : Nat) (ha : col ≤ a) (ha2 : a < n) (hd : col ≤ d) (hd2 : d < n) :
    Pr w0 ((((W.setCell ⟨gx, a, none⟩ (us.getD d undef)).setCell ⟨gx, d, none⟩ (us.getD a undef)).setCell ⟨gy, a, none⟩ (vs.getD d undef)).setCell ⟨gy, d, none⟩ (vs.getD a undef)) gx cx gy cy n k m A B
      ((X.set a (X.getD d [])).set d (X.getD a [])) ((Y.set a (Y.getD d [])).set d (Y.getD a [])) col ((us.set a (us.getD d undef)).set d (us.getD a undef)) ((vs.set a (vs.getD d undef)).set d (vs.getD a undef)) := by
  have hr : (List.range col).length = col := by simp
  have m1 := Mx.swap (h.x.mx h.ech h.gr) a d (by rw [hr]; exact ha) ha2 (by rw [hr]; exact hd) hd2
  have far1 : Rx w0.heap.size (W.setCell ⟨gx, a, none⟩ (us.getD d undef)) gx n cx k (X.set a (X.getD d [])) (us.set a (us.getD d undef)) :=
    h.x.put a ha2 (h.x.row d hd2).1 (h.x.row d hd2).2 (h.x.wide.at d (by rw [h.x.len]; exact hd2)).1
  have y2 := (h.y.far (i := a) (u := us.getD d undef) h.ne.symm h.x.blk).far (i := d) (u := us.getD a undef) h.ne.symm far1.blk
  have y3 := y2.put a ha2 (y2.row d hd2).1 (y2.row d hd2).2 (y2.wide.at d (by rw [y2.len]; exact hd2)).1
  have va := row_far (i := a) (u := vs.getD d undef) (y2.row a ha2).1 (y2.row a ha2).2 y2.blk
  have y4 := y3.put d hd2 va.1 va.2 (y2.wide.at a (by rw [y2.len]; exact ha2)).1
  have x3 := m1.rx.far (i := a) (u := vs.getD d undef) h.ne y2.blk
  have x4 := x3.far (i := d) (u := vs.getD a undef) h.ne y3.blk
  refine ⟨x4, y4, h.ne, Gr.setCell (Gr.setCell m1.gr h.y.low _) h.y.low _, m1.ech, fun M => ?_⟩
  rw [map_swap, map_swap, L.Sat.swap (by simp [h.x.len, h.y.len]) (by simp [h.x.len, ha2]) (by simp [h.x.len, hd2])]
  exact h.sat M
/-- Two stores: a row of each, times something. -/
theorem Pr.scaled {u v : Value} {z : Int} (h : Pr w0 W gx cx gy cy n k m A B X Y col us vs) (d : Nat) (hd : col ≤ d) (hd2 : d < n) (hz : Byt z) (hz0 : z ≠ 0)
    (hb : Bs W u (scaleL z (X.getD d []))) (hrb : Rb w0.heap.size W u) (hb' : Bs W v (scaleL z (Y.getD d []))) (hrb' : Rb w0.heap.size W v) :
    Pr w0 ((W.setCell ⟨gx, d, none⟩ u).setCell ⟨gy, d, none⟩ v) gx cx gy cy n k m A B (X.set d (scaleL z (X.getD d []))) (Y.set d (scaleL z (Y.getD d []))) col (us.set d u) (vs.set d v) := by
  have hr : (List.range col).length = col := by simp
  have m1 := Mx.scaled (h.x.mx h.ech h.gr) d (by rw [hr]; exact hd) hd2 hz hz0 hb hrb
  have y2 := h.y.far (i := d) (u := u) h.ne.symm h.x.blk
  have v2 := row_far (i := d) (u := u) hb' hrb' h.x.blk
  have wd := h.y.wide.at d (by rw [h.y.len]; exact hd2)
  have wx := h.x.wide.at d (by rw [h.x.len]; exact hd2)
  have y3 := y2.put d hd2 v2.1 v2.2 (by rw [scaleL_length]; exact wd.1)
  refine ⟨m1.rx.far h.ne y2.blk, y3, h.ne, Gr.setCell m1.gr h.y.low _, m1.ech, fun M => ?_⟩
  rw [List.map_set, List.map_set, vec_scale hz wx.2, vec_scale hz wd.2, ← rowAt_vec, ← rowAt_vec, L.Sat.scale (by simp [h.x.len, h.y.len]) (by simp [h.x.len, hd2]) (fb_ne hz hz0)]
  exact h.sat M
/-- Two stores: a row of each, plus another one times something. -/
theorem Pr.added {u v : Value} {z : Int} (h : Pr w0 W gx cx gy cy n k m A B X Y col us vs) (i d : Nat) (hd : col ≤ d) (hd2 : d < n) (hi : i < n) (hne : i ≠ d) (hz : Byt z)
    (hb : Bs W u (axL z (X.getD d []) (X.getD i []))) (hrb : Rb w0.heap.size W u) (hb' : Bs W v (axL z (Y.getD d []) (Y.getD i []))) (hrb' : Rb w0.heap.size W v) :
    Pr w0 ((W.setCell ⟨gx, i, none⟩ u).setCell ⟨gy, i, none⟩ v) gx cx gy cy n k m A B (X.set i (axL z (X.getD d []) (X.getD i []))) (Y.set i (axL z (Y.getD d []) (Y.getD i []))) col (us.set i u) (vs.set i v) := by
  have hr : (List.range col).length = col := by simp
  have m1 := Mx.added (h.x.mx h.ech h.gr) i d (by rw [hr]; exact hd) hd2 hi hne hz hb hrb
  have y2 := h.y.far (i := i) (u := u) h.ne.symm h.x.blk
  have v2 := row_far (i := i) (u := u) hb' hrb' h.x.blk
  have wd := h.y.wide.at d (by rw [h.y.len]; exact hd2)
  have wi := h.y.wide.at i (by rw [h.y.len]; exact hi)
  have xd := h.x.wide.at d (by rw [h.x.len]; exact hd2)
  have xi := h.x.wide.at i (by rw [h.x.len]; exact hi)
  have y3 := y2.put i hi v2.1 v2.2 (by rw [axL_length]; exact wd.1)
  refine ⟨m1.rx.far h.ne y2.blk, y3, h.ne, Gr.setCell m1.gr h.y.low _, m1.ech, fun M => ?_⟩
  rw [List.map_set, List.map_set, vec_ax hz xd.2 xi.2 (by rw [xd.1, xi.1]), vec_ax hz wd.2 wi.2 (by rw [wd.1, wi.1]), ← rowAt_vec, ← rowAt_vec, ← rowAt_vec, ← rowAt_vec,
    L.Sat.add (by simp [h.x.len, h.y.len]) (by simp [h.x.len, hd2]) (by simp [h.x.len, hi]) hne]
  exact h.sat M
/-- The next column is found. -/
theorem Pr.next (h : Pr w0 W gx cx gy cy n k m A B X Y col us vs) (hc : col < n) (h1 : (X.getD col []).getD col 0 = 1) (h0 : ∀ s, s < n → s ≠ col → (X.getD s []).getD col 0 = 0) : Pr w0 W gx cx gy cy n k m A B X Y (col + 1) us vs := by
  have hr : (List.range col).length = col := by simp
  refine ⟨h.x, h.y, h.ne, h.gr, ?_, h.sat⟩
  rw [List.range_succ]
  refine h.ech.next (by rw [hr, List.length_map, h.x.len]; exact hc) (by rw [at_vec, hr, h1, fb_one]) fun s hs => ?_
  rw [hr] at hs
  rw [at_vec]
  by_cases e : s < n
  · rw [h0 s e hs, fb_zero]
  · have hnil : X.getD s [] = [] := by
      rw [List.getD_eq_getElem?_getD, List.getElem?_eq_none (by rw [h.x.len]; omega)]
      rfl
    rw [hnil]
    rfl
theorem Pr.start (hx : Rx w0.heap.size W gx n cx k A us) (hy : Rx w0.heap.size W gy n cy m B vs) (hne : gx ≠ gy) (hg : Gr w0 W) : Pr w0 W gx cx gy cy n k m A B A B 0 us vs :=
  ⟨hx, hy, hne, hg, L.Ech.start _, fun _ => Iff.rfl⟩
/-- As long as not all are found there is one that begins there. -/
theorem Pr.pivot {rkZ : Nat} (h : Pr w0 W gx cx gy cy n k m A B X Y col us vs) (hA : Wide k A) (hr : rkZ = k) (he : rkZ = L.rk (A.map vec)) (hc : col < k) : ∃ s, col ≤ s ∧ s < n ∧ (X.getD s []).getD col 0 ≠ 0 := by
  obtain ⟨s, h1, h2, h3⟩ := h.ech.pivot hA.supp (by rw [← he, hr]) hc
  refine ⟨s, h1, by rw [List.length_map, h.x.len] at h2; exact h2, fun e => h3 ?_⟩
  rw [at_vec, e, fb_zero]
end
theorem add_nought (a : Addr) : a.add 0 = a := by
  unfold Addr.add
  split <;> simp_all
/-- Through an append to another row. -/
theorem ownsRow_through {base : Nat} {w w' : World} {e : TypeId} {size : Nat} {v : Value} {n : Nat} {xs : List Value} {row : Option Nat} (h : w.ownsRow base e size v n xs) (hg : w.grownBy w' row) (hne : v.ownBlock = none ∨ v.ownBlock ≠ row) : w'.ownsRow base e size v n xs := by
  obtain ⟨h0, h1 | ⟨g, c, cur, rfl, hb, hgg, h2⟩⟩ := h
  · exact ⟨h0, .inl h1⟩
  · refine ⟨h0, .inr ⟨g, c, cur, rfl, hb, ?_, h2⟩⟩
    rw [hg.block g (Array.getElem?_eq_some_iff.1 hgg).1 (fun e => by
      rcases hne with hne | hne
      · cases hne
      · exact hne e)]
    exact hgg
theorem ownsRow_lt {base : Nat} {w : World} {e : TypeId} {size : Nat} {v : Value} {n : Nat} {xs : List Value} (h : w.ownsRow base e size v n xs) : ∀ g, v.ownBlock = some g → g < w.heap.size := by
  intro g hg
  obtain ⟨_, ⟨rfl, _⟩ | ⟨g', c, cur, rfl, _, hgg, _⟩⟩ := h
  · cases hg
  · cases hg
    exact (Array.getElem?_eq_some_iff.1 hgg).1
theorem Rws.through {base : Nat} {w w' : World} {v : Value} {L : List (List Int)} {row : Option Nat} (h : Rws base w v L) (hg : w.grownBy w' row) (hne : v.ownBlock = none ∨ v.ownBlock ≠ row)
    (hrow : ∀ g, row = some g → base ≤ g ∧ ∀ cur, w.heap[g]? ≠ some (.cells cur 5 (0, 0))) : Rws base w' v L := by
  obtain ⟨us, ho, hr⟩ := h
  exact ⟨us, ownsRow_through ho hg hne, fun i hi => Rb.kept (hr i hi).1 (hr i hi).2 hg.block hrow⟩
theorem Rws.gr {base : Nat} {w w' : World} {v : Value} {L : List (List Int)} (h : Rws base w v L) (hg : Gr w w') : Rws base w' v L := by
  obtain ⟨us, ho, hr⟩ := h
  exact ⟨us, ho.of_gr hg, fun i hi => Rb.gr (hr i hi).1 (hr i hi).2 hg⟩
theorem Tri.of {w W : World} {a b : Addr} {u v : Value} (p1 : w.cell? a = some u) (p2 : w.cell? b = some v) (g : Gr w W) : W.cell? a = some u ∧ W.cell? b = some v ∧ Hid (Gr w W) := ⟨cell_grown g p1, cell_grown g p2, Lib.hid g⟩
/-- Two slices of rows lie apart. -/
def Apart2 (x y : Value) : Prop := ∀ g, x.ownBlock = some g → y.ownBlock ≠ some g
theorem Apart2.ne {x y : Value} (h : Apart2 x y) : y.ownBlock = none ∨ y.ownBlock ≠ x.ownBlock := by
  cases hx : x.ownBlock with
  | none => cases hy : y.ownBlock with
    | none => exact .inl rfl
    | some g => exact .inr (by simp)
  | some g => exact .inr (h g hx)
end Go.Proofs.Ytgbdhdjcjilooaa
