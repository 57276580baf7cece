/-
  Texts laid behind one another: Mx Ms Pv Kp Pw Wa Ap Zs Dr Us.
-/
import Derived.Test.YtmbikmlknbinpaaMgd
import Derived.Test.YtmbikmlknbinpaaMgc
import Derived.Test.YtmbikmlknbinpaaMgb
import Derived.Test.YtmbikmlknbinpaaMga
import Derived.Laws.AppendOwnNone
import Derived.Deep.AppendLies
import Derived.Deep.RegionHeld3
import Derived.Lib.Hide
import Derived.OpenShut
import Derived.Deep.QuietTactic
import Derived.BigQuiet
namespace Go.Proofs.Ytmbikmlknbinpaa
open Go.RowKit

/-- Since w0, block g holds the rows Lm (n of k bytes each), which A has become behind col columns. -/
structure Mx (w0 W : World) (g n c k : Nat) (A Lm : List (List Int)) (ps : List Nat) (col : Nat) (us : List Value) : Prop where
  own : W.ownsRow w0.heap.size 24 1 (.slice (some ⟨g, 0, none⟩) n c) n us
  row : ∀ i, i < n → Bs W (us.getD i undef) (Lm.getD i []) ∧ Rb w0.heap.size W (us.getD i undef)
  len : Lm.length = n
  wide : Wide k Lm
  ech : L.Ech (A.map vec) (Lm.map vec) ps col
  gr : Gr w0 W
section
variable {w0 W : World} {g n c k : Nat} {A Lm : List (List Int)} {ps : List Nat} {col : Nat} {us : List Value}
theorem Mx.cell (h : Mx w0 W g n c k A Lm ps col us) (i : Nat) (hi : i < n) :
    ∃ oi ci, us.getD i undef = .slice oi k ci ∧ W.cell? ⟨g, i, none⟩ = some (.slice oi k ci) ∧ ∀ j, j < k → ∃ a, oi = some a ∧ W.cell? (a.add j) = some (.int .u8 ((Lm.getD i []).getD j 0)) := by
  obtain ⟨g', c', he, _, _, _, _, hc⟩ := ownsRow_cell h.own (by omega)
  cases he
  have hb := (h.row i hi).1
  have hw := (h.wide.at i (by rw [h.len]; exact hi)).1
  obtain ⟨_, oi, ci, e, h1, _, h3, h4⟩ := hb
  rw [hw] at e h1 h4
  refine ⟨oi, ci, e, by rw [hc i hi, e], fun j hj => ?_⟩
  cases oi with
  | none => exact absurd (h3 rfl) (by omega)
  | some a => exact ⟨a, rfl, h4 a rfl j hj⟩
theorem Mx.frozen (h : Mx w0 W g n c k A Lm ps col us) (i : Nat) : W.frozen? ⟨g, i, none⟩ = false := by
  obtain ⟨_, ⟨he, _⟩ | ⟨g', c', cur, he, _, hg, _⟩⟩ := h.own
  · cases he
  · cases he
    exact frozen_of_row W g i _ _ hg
theorem Mx.base (h : Mx w0 W g n c k A Lm ps col us) : w0.heap.size ≤ g := (ownsRow_not_bytes h.own g rfl).1
theorem Mx.us_len (h : Mx w0 W g n c k A Lm ps col us) : us.length = n := by have := h.own.1; omega
theorem Mx.grow {W' : World} (h : Mx w0 W g n c k A Lm ps col us) (hg : Gr W W') : Mx w0 W' g n c k A Lm ps col us :=
  ⟨h.own.of_gr hg, fun i hi => Rb.gr (h.row i hi).1 (h.row i hi).2 hg, h.len, h.wide, h.ech, Gr.trans h.gr hg⟩
theorem Mx.to {qs : List Nat} {col' : Nat} (h : Mx w0 W g n c k A Lm ps col us) (he : L.Ech (A.map vec) (Lm.map vec) qs col') : Mx w0 W g n c k A Lm qs col' us :=
  ⟨h.own, h.row, h.len, h.wide, he, h.gr⟩
/-- A store of a row. -/
theorem Mx.put {qs : List Nat} {col' : Nat} {u : Value} {l : List Int} (h : Mx w0 W g n c k A Lm ps col us) (i : Nat) (hi : i < n) (hb : Bs W u l) (hrb : Rb w0.heap.size W u) (hl : l.length = k)
    (he : L.Ech (A.map vec) ((Lm.set i l).map vec) qs col') : Mx w0 (W.setCell ⟨g, i, none⟩ u) g n c k A (Lm.set i l) qs col' (us.set i u) := by
  obtain ⟨h1, h2⟩ := Rws.set h.own h.len h.row i hi hb hrb
  exact ⟨h1, h2, by rw [List.length_set]; exact h.len, h.wide.set i hl hb.1, he, Gr.setCell h.gr h.base u⟩
/-- Two stores: two rows change places. -/
theorem Mx.swap (h : Mx w0 W g n c k A Lm ps col us) (a d : Nat) (ha : ps.length ≤ a) (ha2 : a < n) (hd : ps.length ≤ d) (hd2 : d < n) :
    Mx w0 ((W.setCell ⟨g, a, none⟩ (us.getD d undef)).setCell ⟨g, d, none⟩ (us.getD a undef)) g n c k A ((Lm.set a (Lm.getD d [])).set d (Lm.getD a [])) ps col ((us.set a (us.getD d undef)).set d (us.getD a undef)) := by
  have hm : (Lm.map vec).length = n := by rw [List.length_map, h.len]
  have he := h.ech.swap (a := a) (d := d) ha (by rw [hm]; exact ha2) hd (by rw [hm]; exact hd2)
  have e1 : ((Lm.set a (Lm.getD d [])).set d (Lm.getD a [])).map vec = ((Lm.map vec).set a (L.rowAt (Lm.map vec) d)).set d (L.rowAt (Lm.map vec) a) := by
    rw [List.map_set, List.map_set, rowAt_vec, rowAt_vec]
  rw [← e1] at he
  have hk : ∀ W' : World, (∀ j, j ≠ g → W'.heap[j]? = W.heap[j]?) → ∀ i, i < n → Bs W' (us.getD i undef) (Lm.getD i []) ∧ Rb w0.heap.size W' (us.getD i undef) := fun W' hW i hi =>
    Rb.kept (h.row i hi).1 (h.row i hi).2 (row := some g) (fun j _ hne => hW j (fun e => hne (by rw [e]))) (fun g' e => by cases e; exact ownsRow_not_bytes h.own g rfl)
  obtain ⟨h1, h2⟩ := Rws.set h.own h.len h.row a ha2 (h.row d hd2).1 (h.row d hd2).2
  have hka := hk (W.setCell ⟨g, a, none⟩ (us.getD d undef)) (fun j hj => heap_setCell_other _ _ _ _ hj) a ha2
  obtain ⟨h3, h4⟩ := Rws.set (L := Lm.set a (Lm.getD d [])) h1 (by rw [List.length_set]; exact h.len) h2 d hd2 hka.1 hka.2
  have wa := h.wide.at a (by rw [h.len]; exact ha2)
  have wd := h.wide.at d (by rw [h.len]; exact hd2)
  exact ⟨h3, h4, by rw [List.length_set, List.length_set]; exact h.len, (h.wide.set a wd.1 wd.2).set d wa.1 wa.2, he, Gr.setCell (Gr.setCell h.gr h.base _) h.base _⟩
/-- Behind the last column: the first rows. -/
theorem Mx.out (h : Mx w0 W g n c k A Lm ps k us) : Rws w0.heap.size W (.slice (some ⟨g, 0, none⟩) ps.length c) (Lm.take ps.length) ∧ Gr w0 W ∧ IsRed k A (Lm.take ps.length) := by
  have hdn : ps.length ≤ n := by have := h.ech.le; rwa [List.length_map, h.len] at this
  have hlen : (Lm.take ps.length).length = ps.length := by rw [List.length_take, h.len]; omega
  refine ⟨⟨us.take ps.length, ?_, fun i hi => ?_⟩, h.gr, h.wide.take _, ps, hlen.symm, ?_⟩
  · obtain ⟨h0, ⟨he, _⟩ | ⟨g', c', cur, he, hb, hg, h1, h2, h3, h4⟩⟩ := h.own
    · cases he
    · cases he
      refine ⟨by rw [List.length_take, hlen]; omega, .inr ⟨g, c, cur, by rw [hlen], hb, hg, by omega, h2, h3, ?_⟩⟩
      rw [← h4, hlen, List.take_take, Nat.mul_one, Nat.mul_one, Nat.min_eq_left hdn]
  · rw [hlen] at hi
    rw [List.getD_eq_getElem?_getD, List.getD_eq_getElem?_getD, List.getElem?_take_of_lt hi, List.getElem?_take_of_lt hi, ← List.getD_eq_getElem?_getD, ← List.getD_eq_getElem?_getD]
    exact h.row i (by omega)
  · have := (h.ech.done h.wide.supp).1
    rwa [← List.map_take] at this
/-- A store of a row, times what is not 0. -/
theorem Mx.scaled {u : Value} {z : Int} (h : Mx w0 W g n c k A Lm ps col us) (d : Nat) (hd : ps.length ≤ d) (hd2 : d < n) (hz : Byt z) (hz0 : z ≠ 0) (hb : Bs W u (scaleL z (Lm.getD d []))) (hrb : Rb w0.heap.size W u) :
    Mx w0 (W.setCell ⟨g, d, none⟩ u) g n c k A (Lm.set d (scaleL z (Lm.getD d []))) ps col (us.set d u) := by
  have wd := h.wide.at d (by rw [h.len]; exact hd2)
  refine h.put d hd2 hb hrb (by rw [scaleL_length]; exact wd.1) ?_
  rw [List.map_set, vec_scale hz wd.2, ← rowAt_vec]
  exact h.ech.scale hd (by rw [List.length_map, h.len]; exact hd2) (fb_ne hz hz0)
/-- A store of a row, plus another one times something. -/
theorem Mx.added {u : Value} {z : Int} (h : Mx w0 W g n c k A Lm ps col us) (i d : Nat) (hd : ps.length ≤ d) (hd2 : d < n) (hi : i < n) (hne : i ≠ d) (hz : Byt z) (hb : Bs W u (axL z (Lm.getD d []) (Lm.getD i []))) (hrb : Rb w0.heap.size W u) :
    Mx w0 (W.setCell ⟨g, i, none⟩ u) g n c k A (Lm.set i (axL z (Lm.getD d []) (Lm.getD i []))) ps col (us.set i u) := by
  have wd := h.wide.at d (by rw [h.len]; exact hd2)
  have wi := h.wide.at i (by rw [h.len]; exact hi)
  refine h.put i hi hb hrb (by rw [axL_length]; exact wd.1) ?_
  rw [List.map_set, vec_ax hz wd.2 wi.2 (by rw [wd.1, wi.1]), ← rowAt_vec, ← rowAt_vec]
  exact h.ech.add hd hne (by rw [List.length_map, h.len]; exact hi)
end
theorem inv_mulZ {z : Int} (hz : Byt z) (h0 : z ≠ 0) : mulZ (invZ z) z = 1 := by
  unfold Byt at hz
  unfold mulZ invZ
  rw [Int.toNat_natCast, M.mulN_comm, M.mulN_inv _ (by omega) (by omega)]
  rfl
theorem invZ_ne {z : Int} (hz : Byt z) (h0 : z ≠ 0) : invZ z ≠ 0 := by
  unfold Byt at hz
  unfold invZ
  have := M.invN_ne z.toNat (by omega)
  omega
theorem getD_set_self (L : List (List Int)) (i : Nat) (l : List Int) (h : i < L.length) : (L.set i l).getD i [] = l := by
  rw [List.getD_eq_getElem?_getD, List.getElem?_set_self h]
  rfl
theorem getD_set_ne (L : List (List Int)) (i j : Nat) (l : List Int) (h : i ≠ j) : (L.set i l).getD j [] = L.getD j [] := by
  rw [List.getD_eq_getElem?_getD, List.getElem?_set_ne h, ← List.getD_eq_getElem?_getD]
theorem frozen_grown {w w' : World} (hg : Gr w w') {a : Addr} {x : Value} (h : w.cell? a = some x) (hf : w.frozen? a = false) : w'.frozen? a = false := by
  rw [World.frozen?_of_block (hg.2.2.2.2 _ (World.block_lt_of_cell? w _ h))]
  exact hf
theorem New.form3 {w w' : World} {v : Value} {l : List Int} (h : New w w' v l) : ∃ o m c, v = .slice o m c := by
  obtain ⟨o, c, h⟩ := (New.bs h).form
  exact ⟨o, _, c, h⟩
theorem New.of_row {w w' : World} {v : Value} {l : List Int} (hg : Gr w w') (hb : ∀ x ∈ l, Byt x) (h : w'.ownsRow w.heap.size 5 1 v l.length (l.map (Value.int .u8))) : New w w' v l := by
  by_cases h0 : 0 < l.length
  · obtain ⟨gg, cap, rfl, _, _⟩ := h.form h0
    exact (New.of_owns hg hb h).2
  · obtain rfl : l = [] := List.eq_nil_of_length_eq_zero (by omega)
    refine ⟨hg, by simp, .inl ⟨rfl, ?_⟩⟩
    obtain ⟨_, ⟨rfl, _⟩ | ⟨g, c, cur, rfl, _, _, _, h2, _⟩⟩ := h
    · exact ⟨none, 0, rfl, fun _ => rfl, by omega⟩
    · exact ⟨_, c, rfl, (fun h => by cases h), by unfold maxLen at h2; omega⟩
end Go.Proofs.Ytmbikmlknbinpaa
namespace Go.Proofs.Ytmbikmlknbinpaa
open Go.RowKit

/-- Behind an append of one row to rows under way. -/
theorem Rws.more {base n : Nat} {w0 wo wr w4 : World} {v v' u : Value} {us : List Value} {L : List (List Int)} {l : List Int} (hL : L.length = n) (ho : wo.ownsRow base 24 1 v n us)
    (hr : ∀ i, i < n → Bs wo (us.getD i undef) (L.getD i []) ∧ Rb base wo (us.getD i undef)) (hb : Bs wr u l) (hrb : Rb base wr u) (hg : Gr wo wr) (hown : w4.ownsRow base 24 1 v' (n + 1) (us ++ [u]))
    (hgrow : (wr.alloc (.cells #[u] 24)).grownBy w4 v.ownBlock) (h0 : Gr w0 wo) (hw : w0.heap.size ≤ base) : Rws base w4 v' (L ++ [l]) ∧ Gr w0 w4 := by
  subst hL
  have hg1 : Gr wo (wr.alloc (.cells #[u] 24)) := Gr.alloc hg _ _
  have hg2 : Gr wr (wr.alloc (.cells #[u] 24)) := Gr.alloc (Gr.refl _) _ _
  have hnb := Rb.gr hb hrb hg2
  exact ⟨Rws.append ((ho.of_gr hg).alloc _) (fun i hi => Rb.gr (hr i hi).1 (hr i hi).2 hg1) hnb.1 hnb.2 hown hgrow,
    Gr.append (Gr.trans h0 hg1) hgrow fun k hk => Nat.le_trans hw (ownsRow_base ho k hk)⟩
theorem infoB : (Try.prog.info? 5).map (fun i => (i.zero, i.size, i.bytes)) = some (some (.int .u8 0), 1, 1) := by kernel_rfl
theorem Bs.byt' {w : World} {v : Value} {l : List Int} (h : Bs w v l) : ∀ x ∈ l, Byt x := h.1
theorem evenL_length (n : Nat) (l : List Int) : (evenL n l).length = evenN n l := chunk_length _ _ _
theorem evenN_le (n : Nat) (l : List Int) : evenN n l ≤ 14 := Nat.min_le_left _ _
theorem even_wide {n : Nat} {l : List Int} (hb : ∀ x ∈ l, Byt x) (h1 : 1 ≤ n) : Wide n (evenL n l) := by
  intro r hr
  unfold evenL chunk at hr
  obtain ⟨i, hi, rfl⟩ := List.mem_map.1 hr
  have h2 : i < l.length / n := Nat.lt_of_lt_of_le (List.mem_range.1 hi) (Nat.min_le_right _ _)
  have h3 : (i + 1) * n ≤ l.length := (Nat.le_div_iff_mul_le (by omega)).1 (by omega)
  have h4 : n * i + n ≤ l.length := by rw [Nat.mul_comm, ← Nat.succ_mul]; exact h3
  refine ⟨by rw [List.length_take, List.length_drop]; omega, fun x hx => hb x (List.mem_of_mem_drop (List.mem_of_mem_take hx))⟩
/-- The places j of all rows. -/
def colZ (A : List (List Int)) (j : Nat) : List Int := A.map fun r => r.getD j 0
def trZ (n : Nat) (A : List (List Int)) : List (List Int) := (List.range n).map (colZ A)
theorem colZ_length (A : List (List Int)) (j : Nat) : (colZ A j).length = A.length := by simp [colZ]
theorem trZ_length (n : Nat) (A : List (List Int)) : (trZ n A).length = n := by simp [trZ]
theorem colZ_getD (A : List (List Int)) (j i : Nat) : (colZ A j).getD i 0 = (A.getD i []).getD j 0 := by
  unfold colZ
  rw [List.getD_eq_getElem?_getD, List.getElem?_map]
  by_cases h : i < A.length
  · rw [List.getElem?_eq_getElem h, List.getD_eq_getElem?_getD (l := A), List.getElem?_eq_getElem h]
    rfl
  · rw [List.getElem?_eq_none (by omega), List.getD_eq_getElem?_getD (l := A), List.getElem?_eq_none (by omega)]
    rfl
theorem colZ_byt {k : Nat} {A : List (List Int)} (h : Wide k A) (j : Nat) : ∀ x ∈ colZ A j, Byt x := by
  intro x hx
  obtain ⟨r, hr, rfl⟩ := List.mem_map.1 hx
  exact getD_byt (h r hr).2 j
theorem trZ_succ (n : Nat) (A : List (List Int)) : trZ (n + 1) A = trZ n A ++ [colZ A n] := by simp [trZ, List.range_succ]
theorem colZ_succ (A : List (List Int)) (j i : Nat) (hi : i < A.length) : colZ (A.take (i + 1)) j = colZ (A.take i) j ++ [(A.getD i []).getD j 0] := by
  unfold colZ
  rw [List.take_add_one, List.getElem?_eq_getElem hi, List.getD_eq_getElem?_getD (l := A), List.getElem?_eq_getElem hi, List.map_append]
  rfl
theorem trZ_wide {k : Nat} {A : List (List Int)} (h : Wide k A) (n : Nat) : Wide A.length (trZ n A) := by
  intro r hr
  obtain ⟨j, _, rfl⟩ := List.mem_map.1 hr
  exact ⟨colZ_length A j, colZ_byt h j⟩
theorem trZ_vec (n : Nat) (A : List (List Int)) : (trZ n A).map vec = L.tr n (A.map vec) := by
  unfold trZ L.tr
  rw [List.map_map]
  apply List.map_congr_left
  intro j _
  funext i
  show fb ((colZ A j).getD i 0) = L.rowAt (A.map vec) i j
  rw [colZ_getD, at_vec]
theorem trZ_rk {k : Nat} {A : List (List Int)} (h : Wide k A) : rkL (trZ k A) = rkL A := by
  unfold rkL
  rw [trZ_vec]
  exact L.rk_tr h.supp
theorem Bss.take {w : World} {oa : Option Addr} {m c : Nat} {X : List (List Int)} (h : Bss w (.slice oa m c) X) (hm : X.length = m) (n : Nat) (hn : n ≤ m) : Bss w (.slice oa n c) (X.take n) := by
  obtain ⟨oa', c', he, h2, h3, h4, h5⟩ := h
  obtain ⟨rfl, _, rfl⟩ : oa = oa' ∧ m = X.length ∧ c = c' := by simpa using he
  have hl : (X.take n).length = n := by rw [List.length_take]; omega
  refine ⟨oa, c, by rw [hl], by rw [hl]; omega, h3, h4, fun a ha i hi => ?_⟩
  rw [hl] at hi
  obtain ⟨u, h6, h7⟩ := h5 a ha i (by omega)
  refine ⟨u, h6, ?_⟩
  rw [List.getD_eq_getElem?_getD, List.getElem?_take_of_lt hi, ← List.getD_eq_getElem?_getD]
  exact h7
theorem sol_low {A B S : List (List Int)} {e : Int} (h0 : A ≠ []) (hr : rkL A < wd A) (h : SolSays A B e S) : e = 9 ∧ S = [] := by
  rcases h with ⟨q, _⟩ | ⟨_, _, h1, h2⟩ | ⟨_, h1, _⟩ | ⟨_, h1, _⟩
  · exact absurd q h0
  · exact ⟨h1, h2⟩
  · omega
  · omega
theorem sol_back {m : Nat} {A X B S : List (List Int)} {e : Int} (hA : Wide (wd A) A) (h0 : A ≠ []) (hX : Wide m X) (hXl : X.length = wd A) (hB : IsMul m A X B) (hwb : wd B = m) (hr : rkL A = wd A) (h : SolSays A B e S) : e = 0 ∧ S = X := by
  rcases h with ⟨q, _⟩ | ⟨_, h1, _⟩ | ⟨_, _, h1, h2, h3, h4⟩ | ⟨_, _, _, _, h2⟩
  · exact absurd q h0
  · omega
  · refine ⟨h1, map_vec_inj h4 (by rw [hwb]; exact hX) (L.mul_unique hA.supp hr (by simp [h2]) (by simp [hXl]) ?_)⟩
    rw [← h3.2, ← hB.2]
  · exact absurd hB.2.symm (h2 _ (by simp [hXl]) (by rw [hwb]; exact hX.supp))
theorem sol_any {A C S : List (List Int)} {e : Int} (hA : Wide (wd A) A) (h0 : A ≠ []) (hC : Wide (wd C) C) (hCl : C.length = A.length) (hr : rkL A = wd A) (h : SolSays A C e S) :
    (e = 0 ∧ S.length = wd A ∧ IsMul (wd C) A S C ∧ Wide (wd C) S) ∨ (e = 10 ∧ A.length ≠ wd A) := by
  rcases h with ⟨q, _⟩ | ⟨_, h1, _⟩ | ⟨_, _, h1, h2, h3, h4⟩ | ⟨_, _, h1, _, h2⟩
  · exact absurd q h0
  · omega
  · exact .inl ⟨h1, h2, h3, h4⟩
  · refine .inr ⟨h1, fun e => ?_⟩
    obtain ⟨M, m1, m2, m3⟩ := L.square hA.supp (by simp [e]) hr (C := C.map vec) (by simp [hCl, e]) hC.supp
    exact h2 M m1 m2 m3
theorem rkL_nil : rkL [] = 0 := L.rk_eq (R := []) ⟨L.Rref.nil, L.Same.refl _⟩
theorem rkL_le_cols {k : Nat} {A : List (List Int)} (h : Wide k A) : rkL A ≤ k := L.rk_le_cols h.supp
theorem rkL_le_rows {k : Nat} {A : List (List Int)} (h : Wide k A) : rkL A ≤ A.length := by
  have := L.rk_le_len h.supp
  rwa [List.length_map] at this
theorem IsMul.rk {k m : Nat} {A X o : List (List Int)} (h : IsMul m A X o) (hA : Wide k A) (hX : Wide m X) : rkL o ≤ rkL A ∧ rkL o ≤ rkL X := by
  unfold rkL
  rw [h.2]
  exact ⟨L.rk_mul_left hA.supp hX.supp, L.rk_mul_right hX.supp⟩
end Go.Proofs.Ytmbikmlknbinpaa
namespace Go.Proofs.Ytmbikmlknbinpaa
open Go.RowKit

namespace L
/-! ### Unit rows -/
theorem units_red (k : Nat) : Red ((List.range k).map unit) ((List.range k).map fun i => (i, unit i)) := by
  have hm : ∀ {p : Nat} {x : V}, (p, x) ∈ (List.range k).map (fun i => (i, unit i)) → p < k ∧ x = unit p := fun h => by
    obtain ⟨i, hi, he⟩ := List.mem_map.1 h
    cases he
    exact ⟨List.mem_range.1 hi, rfl⟩
  refine ⟨⟨?_, fun p x h => ?_, fun p x h j hj => ?_, fun p x q y h h' hne => ?_⟩, ?_⟩
  · rw [List.pairwise_map]
    exact List.pairwise_lt_range
  · obtain ⟨_, rfl⟩ := hm h
    simp [unit]
  · obtain ⟨_, rfl⟩ := hm h
    unfold unit
    rw [if_neg (by omega)]
  · obtain ⟨_, rfl⟩ := hm h
    unfold unit
    rw [if_neg (fun e => hne e.symm)]
  · have : rows ((List.range k).map fun i => (i, unit i)) = (List.range k).map unit := by
      unfold rows
      rw [List.map_map]
      rfl
    rw [this]
    exact Same.refl _
theorem units_rk (k : Nat) : rk ((List.range k).map unit) = k := by
  rw [rk_eq (units_red k)]
  simp
/-- Rows that reach each unit row have all the rank. -/
theorem rk_of_units {k : Nat} {A : List V} (hA : ∀ x ∈ A, Supp k x) (h : ∀ i, i < k → Sp A (unit i)) : rk A = k := by
  refine Nat.le_antisymm (rk_le_cols hA) ?_
  have h1 := rk_mono (n := k) (A := (List.range k).map unit) (B := A) (fun x hx => by
    obtain ⟨i, hi, rfl⟩ := List.mem_map.1 hx
    exact unit_supp (List.mem_range.1 hi)) hA (fun x hx => by
    obtain ⟨i, hi, rfl⟩ := List.mem_map.1 hx
    exact h i (List.mem_range.1 hi))
  rwa [units_rk] at h1
/-! ### Powers of unlike things, side by side -/
/-- Of k things x the first powers, the second ones, and so on. -/
def vrow (x : Nat → Fb) (k : Nat) : Nat → V
  | 0 => fun j => if j < k then x j else zero
  | h + 1 => fun j => mul (x j) (vrow x k h j)
def xmul (x : Nat → Fb) (v : V) : V := fun j => mul (x j) (v j)
theorem xmul_step (x : Nat → Fb) (c : Fb) (u v : V) : xmul x (vadd (smul c u) v) = vadd (smul c (xmul x u)) (xmul x v) := by
  funext j
  show mul (x j) (add (mul c (u j)) (v j)) = add (mul c (mul (x j) (u j))) (mul (x j) (v j))
  rw [mul_add, ← mul_assoc, mul_comm (x j) c, mul_assoc]
theorem xmul_span (x : Nat → Fb) (k d : Nat) {v : V} (h : Sp ((List.range d).map (vrow x k)) v) : Sp ((List.range (d + 1)).map (vrow x k)) (xmul x v) := by
  induction h with
  | zero =>
    have : xmul x vzero = vzero := funext fun j => mul_zero _
    rw [this]
    exact Sp.zero
  | step c u v hu _ ih =>
    rw [xmul_step]
    refine Sp.step c _ _ ?_ ih
    obtain ⟨i, hi, rfl⟩ := List.mem_map.1 hu
    exact List.mem_map.2 ⟨i + 1, List.mem_range.2 (by have := List.mem_range.1 hi; omega), rfl⟩
/-- The first powers times all (x + a), a in rs. -/
def prodv (x : Nat → Fb) (k : Nat) : List Fb → V
  | [] => vrow x k 0
  | a :: rs => vadd (xmul x (prodv x k rs)) (smul a (prodv x k rs))
theorem prodv_at (x : Nat → Fb) (k : Nat) (a : Fb) (rs : List Fb) (j : Nat) : prodv x k (a :: rs) j = mul (add (x j) a) (prodv x k rs j) := by
  show add (mul (x j) (prodv x k rs j)) (mul a (prodv x k rs j)) = _
  rw [add_mul]
theorem prodv_span (x : Nat → Fb) (k : Nat) : ∀ rs : List Fb, Sp ((List.range (rs.length + 1)).map (vrow x k)) (prodv x k rs)
  | [] => Sp.mem (by simp [prodv])
  | a :: rs => by
    have ih := prodv_span x k rs
    refine Sp.add (xmul_span x k _ ih) (Sp.smul a (Sp.mono (fun v hv => ?_) ih))
    obtain ⟨i, hi, rfl⟩ := List.mem_map.1 hv
    exact List.mem_map.2 ⟨i, List.mem_range.2 (by have := List.mem_range.1 hi; simp; omega), rfl⟩
theorem prodv_zero (x : Nat → Fb) (k j : Nat) : ∀ rs : List Fb, (k ≤ j ∨ x j ∈ rs) → prodv x k rs j = zero
  | [], h => by
    rcases h with h | h
    · show (if j < k then x j else zero) = zero
      rw [if_neg (by omega)]
    · cases h
  | a :: rs, h => by
    rw [prodv_at]
    by_cases e : x j = a
    · rw [e, add_self, zero_mul]
    · rw [prodv_zero x k j rs (by
        rcases h with h | h
        · exact .inl h
        · rcases List.mem_cons.1 h with h | h
          · exact absurd h e
          · exact .inr h), mul_zero]
theorem prodv_ne (x : Nat → Fb) (k j : Nat) (hj : j < k) (h0 : x j ≠ zero) : ∀ rs : List Fb, x j ∉ rs → prodv x k rs j ≠ zero
  | [], _ => by
    show (if j < k then x j else zero) ≠ zero
    rwa [if_pos hj]
  | a :: rs, h => by
    rw [prodv_at]
    intro e
    refine prodv_ne x k j hj h0 rs (fun c => h (List.mem_cons_of_mem _ c)) (mul_eq_zero e fun c => ?_)
    exact h (by rw [eq_of_add c]; exact List.mem_cons_self)
theorem vrow_supp (x : Nat → Fb) (k : Nat) : ∀ h, Supp k (vrow x k h)
  | 0 => fun j hj => by
    show (if j < k then x j else zero) = zero
    rw [if_neg (by omega)]
  | h + 1 => fun j hj => by
    show mul (x j) (vrow x k h j) = zero
    rw [vrow_supp x k h j hj, mul_zero]
/-- Unlike things, none of them 0: as many powers of them as there are have all the rank. -/
theorem vrow_rk (x : Nat → Fb) (k n : Nat) (hk : k ≤ n) (h0 : ∀ i, i < k → x i ≠ zero) (hne : ∀ i j, i < k → j < k → i ≠ j → x i ≠ x j) : rk ((List.range n).map (vrow x k)) = k := by
  refine rk_of_units (fun v hv => ?_) fun i hi => ?_
  · obtain ⟨h, _, rfl⟩ := List.mem_map.1 hv
    exact vrow_supp x k h
  · obtain ⟨rs, hrs⟩ : ∃ rs, ((List.range i).map x ++ (List.range (k - i - 1)).map fun j => x (i + 1 + j)) = rs := ⟨_, rfl⟩
    have hl : rs.length = k - 1 := by rw [← hrs]; simp; omega
    have hn : x i ∉ rs := by
      rw [← hrs, List.mem_append]
      rintro (h | h)
      · obtain ⟨j, hj, e⟩ := List.mem_map.1 h
        have := List.mem_range.1 hj
        exact hne j i (by omega) hi (by omega) e
      · obtain ⟨j, hj, e⟩ := List.mem_map.1 h
        have := List.mem_range.1 hj
        exact hne (i + 1 + j) i (by omega) hi (by omega) e
    have hin : ∀ j, j < k → j ≠ i → x j ∈ rs := fun j hj e => by
      rw [← hrs, List.mem_append]
      by_cases c : j < i
      · exact .inl (List.mem_map.2 ⟨j, List.mem_range.2 c, rfl⟩)
      · exact .inr (List.mem_map.2 ⟨j - i - 1, List.mem_range.2 (by omega), by rw [show i + 1 + (j - i - 1) = j from by omega]⟩)
    have hc := prodv_ne x k i hi (h0 i hi) rs hn
    have hu : unit i = smul (inv (prodv x k rs i)) (prodv x k rs) := by
      funext j
      show (if j = i then one else zero) = mul (inv (prodv x k rs i)) (prodv x k rs j)
      by_cases e : j = i
      · subst e
        rw [if_pos rfl, inv_mul _ hc]
      · rw [if_neg e, prodv_zero x k j rs (by
          by_cases c : j < k
          · exact .inr (hin j c e)
          · exact .inl (by omega)), mul_zero]
    rw [hu]
    refine Sp.smul _ (Sp.mono (fun v hv => ?_) (prodv_span x k rs))
    obtain ⟨h, hh, rfl⟩ := List.mem_map.1 hv
    have := List.mem_range.1 hh
    exact List.mem_map.2 ⟨h, List.mem_range.2 (by omega), rfl⟩
end L
/-! ### The rows ahead -/
def aheadF (K h : Nat) : Nat → Int := fun j => if j < K then expZ (((h + 1) * (j + 1) : Nat) : Int) else if j = K + h then 1 else 0
def aheadRow (K H h : Nat) : List Int := lst (K + H) (aheadF K h)
def ahead (K H : Nat) : List (List Int) := (List.range H).map (aheadRow K H)
theorem aheadF_byt (K h j : Nat) : Byt (aheadF K h j) := by
  unfold aheadF
  split
  · exact expZ_byt _
  · split <;> (unfold Byt; omega)
theorem aheadRow_length (K H h : Nat) : (aheadRow K H h).length = K + H := lst_length _ _
theorem ahead_length (K H : Nat) : (ahead K H).length = H := by simp [ahead]
theorem ahead_getD {K H h : Nat} (hh : h < H) : (ahead K H).getD h [] = aheadRow K H h := by
  simp [ahead, List.getD_eq_getElem?_getD, hh]
theorem ahead_wide (K H : Nat) : Wide (K + H) (ahead K H) := fun r hr => by
  obtain ⟨h, _, rfl⟩ := List.mem_map.1 hr
  exact ⟨aheadRow_length K H h, lst_byt fun i _ => aheadF_byt K h i⟩
theorem ahead_at {K H h j : Nat} (hh : h < H) (hj : j < K + H) : ((ahead K H).getD h []).getD j 0 = aheadF K h j := by
  rw [ahead_getD hh]
  exact lst_getD _ _ _ hj
theorem ahead_rk (K H : Nat) : rkL (ahead K H) = H := by
  have hw := (ahead_wide K H).supp
  refine Nat.le_antisymm ?_ ?_
  · have := rkL_le_rows (ahead_wide K H)
    rwa [ahead_length] at this
  · have h1 := L.rk_mono (n := H) (A := (List.range H).map L.unit) (B := L.tr (K + H) ((ahead K H).map vec)) (fun x hx => by
      obtain ⟨i, hi, rfl⟩ := List.mem_map.1 hx
      exact L.unit_supp (List.mem_range.1 hi)) (by
      have := L.tr_supp (K + H) ((ahead K H).map vec)
      rwa [List.length_map, ahead_length] at this) (fun x hx => by
      obtain ⟨i, hi, rfl⟩ := List.mem_map.1 hx
      have hi := List.mem_range.1 hi
      refine L.Sp.mem (List.mem_map.2 ⟨K + i, List.mem_range.2 (by omega), ?_⟩)
      funext t
      show L.rowAt ((ahead K H).map vec) t (K + i) = if t = i then L.one else L.zero
      rw [rowAt_vec]
      by_cases ht : t < H
      · show fb (((ahead K H).getD t []).getD (K + i) 0) = _
        rw [ahead_at ht (by omega)]
        unfold aheadF
        rw [if_neg (by omega)]
        by_cases e : t = i
        · rw [if_pos (by omega), if_pos e, fb_one]
        · rw [if_neg (by omega), if_neg e, fb_zero]
      · have : (ahead K H).getD t [] = [] := by
          rw [List.getD_eq_getElem?_getD, List.getElem?_eq_none (by rw [ahead_length]; omega)]
          rfl
        rw [this, if_neg (by omega)]
        rfl)
    rw [L.units_rk, L.rk_tr hw] at h1
    exact h1
theorem expZ_ne (n : Int) : expZ n ≠ 0 := fun h => by
  have := expZ_neg n
  rw [h, mulZ_comm, mulZ_zero] at this
  omega
theorem expZ_inj {a b : Nat} (ha : a < 255) (hb : b < 255) (h : expZ a = expZ b) : a = b := by
  rw [expZ_nat a ha, expZ_nat b hb] at h
  have h1 := lgZ_ex a ha
  have h2 := lgZ_ex b hb
  rw [h] at h1
  omega
/-- Columns of the rows ahead, side by side. -/
def sideRow (K H h first k : Nat) : List Int := ((aheadRow K H h).drop first).take k
theorem side_rk {K H first k : Nat} (hk : k ≤ H) (hf : first + k ≤ K) (hK : K ≤ 16) : rkL ((List.range H).map fun h => sideRow K H h first k) = k := by
  have hv : ∀ h, h < H → vec (sideRow K H h first k) = L.vrow (fun j => fb (expZ ((first + j + 1 : Nat) : Int))) k h := fun h hh => by
    have hat : ∀ j, (sideRow K H h first k).getD j 0 = if j < k then expZ (((h + 1) * (first + j + 1) : Nat) : Int) else 0 := fun j => by
      unfold sideRow
      by_cases c : j < k
      · rw [if_pos c, List.getD_eq_getElem?_getD, List.getElem?_take_of_lt c, List.getElem?_drop, ← List.getD_eq_getElem?_getD]
        unfold aheadRow
        rw [lst_getD _ _ _ (by omega)]
        unfold aheadF
        rw [if_pos (by omega)]
      · rw [if_neg c]
        exact getD_out (by rw [List.length_take]; omega)
    funext j
    show fb ((sideRow K H h first k).getD j 0) = _
    rw [hat]
    clear hat hh
    induction h with
    | zero =>
      show _ = if j < k then fb (expZ ((first + j + 1 : Nat) : Int)) else L.zero
      split
      · rw [Nat.zero_add, Nat.one_mul]
      · exact fb_zero
    | succ h ih =>
      show _ = L.mul (fb (expZ ((first + j + 1 : Nat) : Int))) (L.vrow _ k h j)
      rw [← ih]
      split
      · rw [← fb_mul (expZ_byt _) (expZ_byt _), expZ_add, show ((first + j + 1 : Nat) : Int) + (((h + 1) * (first + j + 1) : Nat) : Int) = (((h + 1 + 1) * (first + j + 1) : Nat) : Int) from by
          rw [← Int.natCast_add]
          congr 1
          rw [Nat.add_mul (h + 1) 1, Nat.one_mul, Nat.add_comm]]
      · rw [fb_zero, L.mul_zero]
  have he : ((List.range H).map fun h => sideRow K H h first k).map vec = (List.range H).map (L.vrow (fun j => fb (expZ ((first + j + 1 : Nat) : Int))) k) := by
    rw [List.map_map]
    exact List.map_congr_left fun h hh => hv h (List.mem_range.1 hh)
  unfold rkL
  rw [he]
  refine L.vrow_rk _ k H hk (fun i hi c => ?_) fun i j hi hj hne c => ?_
  · exact expZ_ne _ (fb_inj (expZ_byt _) (by unfold Byt; omega) (by rw [c, fb_zero]))
  · have := expZ_inj (by omega) (by omega) (fb_inj (expZ_byt _) (expZ_byt _) c)
    omega
/-- What a row ahead comes to. -/
theorem dotL_congr {x y y' : List Int} : ∀ k, (∀ j, j < k → y.getD j 0 = y'.getD j 0) → dotL x y k = dotL x y' k
  | 0, _ => rfl
  | k + 1, h => by
    show addZ (dotL x y k) _ = addZ (dotL x y' k) _
    rw [dotL_congr k fun j hj => h j (by omega), h k (by omega)]
theorem dot_ahead {K H h : Nat} (hh : h < H) {y : List Int} (hb : ∀ z ∈ y, Byt z) : ∀ t, t ≤ H → dotL (aheadRow K H h) y (K + t) = addZ (dotL (aheadRow K H h) y K) (if h < t then y.getD (K + h) 0 else 0)
  | 0, _ => by
    rw [if_neg (by omega)]
    exact (addZ_zero _ (dotL_byt _ _ _)).symm
  | t + 1, ht => by
    have ih := dot_ahead (K := K) hh hb t (by omega)
    show addZ (dotL (aheadRow K H h) y (K + t)) (mulZ ((aheadRow K H h).getD (K + t) 0) (y.getD (K + t) 0)) = _
    have hr : (aheadRow K H h).getD (K + t) 0 = if t = h then 1 else 0 := by
      unfold aheadRow
      rw [lst_getD _ _ _ (by omega)]
      unfold aheadF
      rw [if_neg (by omega)]
      by_cases e : t = h
      · rw [if_pos (by omega), if_pos e]
      · rw [if_neg (by omega), if_neg e]
    rw [ih, hr]
    have hyb := getD_byt hb (K + h)
    by_cases e : t = h
    · subst e
      rw [if_pos rfl, if_neg (by omega), if_pos (by omega), addZ_zero _ (dotL_byt _ _ _), mulZ_comm, mulZ_one _ hyb]
    · rw [if_neg e, mulZ_comm, mulZ_zero]
      by_cases c : h < t
      · rw [if_pos c, if_pos (by omega), addZ_zero _ (addZ_byt (dotL_byt _ _ _) hyb)]
      · rw [if_neg c, if_neg (by omega), addZ_zero _ (addZ_byt (dotL_byt _ _ _) (by unfold Byt; omega))]
end Go.Proofs.Ytmbikmlknbinpaa
namespace Go.Proofs.Ytmbikmlknbinpaa
open Go.RowKit

/-- From w to w' only blocks in F, and new ones, were written. -/
def Kp (F : Nat → Prop) (w w' : World) : Prop := w'.os = w.os ∧ w'.tape = w.tape ∧ w'.output = w.output ∧ w.heap.size ≤ w'.heap.size ∧ ∀ k, k < w.heap.size → ¬ F k → w'.heap[k]? = w.heap[k]?
theorem Kp.size {F : Nat → Prop} {w w' : World} (h : Kp F w w') : w.heap.size ≤ w'.heap.size := h.2.2.2.1
theorem Kp.refl (F : Nat → Prop) (w : World) : Kp F w w := ⟨rfl, rfl, rfl, Nat.le_refl _, fun _ _ _ => rfl⟩
theorem Gr.kp {w w' : World} (h : Gr w w') (F : Nat → Prop) : Kp F w w' := ⟨h.1, h.2.1, h.2.2.1, h.2.2.2.1, fun k hk _ => h.2.2.2.2 k hk⟩
theorem Kp.trans {F F' : Nat → Prop} {w w1 w2 : World} (h : Kp F w w1) (h' : Kp F' w1 w2) (hF : ∀ k, F' k → F k ∨ w.heap.size ≤ k) : Kp F w w2 :=
  ⟨by rw [h'.1, h.1], by rw [h'.2.1, h.2.1], by rw [h'.2.2.1, h.2.2.1], Nat.le_trans h.size h'.size, fun k hk hn => by
    rw [h'.2.2.2.2 k (Nat.lt_of_lt_of_le hk h.size) (fun e => by
      rcases hF k e with c | c
      · exact hn c
      · omega), h.2.2.2.2 k hk hn]⟩
theorem Kp.mono {F F' : Nat → Prop} {w w1 : World} (h : Kp F w w1) (hF : ∀ k, F k → F' k) : Kp F' w w1 := ⟨h.1, h.2.1, h.2.2.1, h.2.2.2.1, fun k hk hn => h.2.2.2.2 k hk fun e => hn (hF k e)⟩
/-- What is written is new since w0: then, since w0, what was there stands. -/
theorem Kp.gr {F : Nat → Prop} {w0 w w' : World} (h : Kp F w w') (h0 : Gr w0 w) (hF : ∀ k, F k → w0.heap.size ≤ k) : Gr w0 w' :=
  ⟨by rw [h.1, h0.1], by rw [h.2.1, h0.2.1], by rw [h.2.2.1, h0.2.2.1], Nat.le_trans h0.size h.size, fun k hk => by
    rw [h.2.2.2.2 k (Nat.lt_of_lt_of_le hk h0.size) (fun e => by have := hF k e; omega), h0.2.2.2.2 k hk]⟩
theorem Kp.block {F : Nat → Prop} {w w' : World} (h : Kp F w w') {g : Nat} {o : Obj} (hg : w.heap[g]? = some o) (hn : ¬ F g) : w'.heap[g]? = some o := by
  rw [h.2.2.2.2 g (Array.getElem?_eq_some_iff.1 hg).1 hn]
  exact hg
theorem Kp.cell {F : Nat → Prop} {w w' : World} (h : Kp F w w') {a : Addr} {x : Value} (hx : w.cell? a = some x) (hn : ¬ F a.block) : w'.cell? a = some x := by
  rw [World.cell?_of_block (h.2.2.2.2 a.block (World.block_lt_of_cell? w a hx) hn)]
  exact hx
theorem Kp.frozen {F : Nat → Prop} {w w' : World} (h : Kp F w w') {a : Addr} {x : Value} (hx : w.cell? a = some x) (hn : ¬ F a.block) : w'.frozen? a = w.frozen? a :=
  World.frozen?_of_block (h.2.2.2.2 a.block (World.block_lt_of_cell? w a hx) hn)
/-- A store into one block. -/
theorem Kp.set (w : World) (g i : Nat) (v : Value) : Kp (fun k => k = g) w (w.setCell ⟨g, i, none⟩ v) := by
  have h : Below 0 w (w.setCell ⟨g, i, none⟩ v) := Below.setCell (Below.refl _ _) (Nat.zero_le _) v
  exact ⟨h.os, h.tape, h.output, h.size, fun k _ hn => heap_setCell_other _ _ _ _ hn⟩
theorem Kp.drew {F : Nat → Prop} {w w' : World} (h : Kp F w w') : Kp F w w'.drew := h
theorem Kp.append {F : Nat → Prop} {w W W' : World} {row : Option Nat} (h : Kp F w W) (hg : W.grownBy W' row) (hr : ∀ k, row = some k → w.heap.size ≤ k) : Kp F w W' := by
  have h2 : Kp (fun k => row = some k) W W' := ⟨hg.os, hg.tape, hg.output, hg.size, fun k hk hn => hg.block k hk fun e => hn e.symm⟩
  exact h.trans h2 fun k e => .inr (hr k e)
theorem Kp.alloc {F : Nat → Prop} {w W : World} (h : Kp F w W) (c : Array Value) (t : TypeId) : Kp F w (W.alloc (.cells c t)) := h.trans ((Gr.alloc (Gr.refl W) c t).kp fun _ => False) fun _ e => e.elim
end Go.Proofs.Ytmbikmlknbinpaa
namespace Go.Proofs.Ytmbikmlknbinpaa
open Go.RowKit

/-- Parameters, as they are handed in. -/
abbrev par (K H S : Int) : Value := .agg #[.int .i64 K, .int .i64 H, .int .i64 S]
def MayP (K H S : Int) : Prop := 1 ≤ K ∧ K ≤ 16 ∧ 1 ≤ H ∧ H ≤ 4 ∧ 1 ≤ S ∧ S ≤ 24
instance (K H S : Int) : Decidable (MayP K H S) := by unfold MayP; exact inferInstance
def colsP (K H S : Int) : Int := if MayP K H S then K + H else 0
def aheadP (K H S : Int) : List (List Int) := if MayP K H S then ahead K.toNat H.toNat else []
set_option maxHeartbeats 400000 in
theorem refMay_any (K H S : Int) (w : World) :
    Calls Try.prog 25 #[par K H S] w fun e w' => e = .returned (.bool (decide (MayP K H S))) ∧ Gr w w' := by
  go_enter Try.func25, Try.ntmps25
  go_wp2
  all_goals
    go_ret
    refine ⟨?_, Gr.alloc (Gr.refl _) _ _⟩
    first
      | (rw [show decide (MayP K H S) = false from decide_eq_false (by unfold MayP; omega)]; rfl)
      | (rw [show decide (MayP K H S) = decide (S ≤ 24) from by rw [decide_eq_decide]; unfold MayP; omega]; rfl)
/-- Parameters lie in block g. -/
def Par (w : World) (g : Nat) (K H S : Int) : Prop := w.heap[g]? = some (.cells #[.int .i64 K, .int .i64 H, .int .i64 S] 23 (0, 0))
theorem Par.grown {w w' : World} {g : Nat} {K H S : Int} (h : Par w g K H S) (hg : Gr w w') : Par w' g K H S := keptRow hg h
theorem Par.cell0 {w : World} {g : Nat} {K H S : Int} (h : Par w g K H S) : w.cell? ⟨g, 0, none⟩ = some (.int .i64 K) := by rw [cell_of_row w g 0 _ _ _ h]; rfl
theorem Par.cell1 {w : World} {g : Nat} {K H S : Int} (h : Par w g K H S) : w.cell? ⟨g, 1, none⟩ = some (.int .i64 H) := by rw [cell_of_row w g 1 _ _ _ h]; rfl
theorem Par.cell2 {w : World} {g : Nat} {K H S : Int} (h : Par w g K H S) : w.cell? ⟨g, 2, none⟩ = some (.int .i64 S) := by rw [cell_of_row w g 2 _ _ _ h]; rfl
set_option maxHeartbeats 400000 in
theorem params_any (a b c : Int) (w : World) :
    Calls Try.prog 8 #[.int .i64 a, .int .i64 b, .int .i64 c] w fun e w' => e = .returned (par (1 + a % 16) (1 + b % 4) (1 + c % 24)) ∧ Gr w w' := by
  obtain ⟨x, hx, hx2⟩ : ∃ x : Nat, a % 16 = x ∧ x < 16 := ⟨(a % 16).toNat, by omega, by omega⟩
  obtain ⟨y, hy, hy2⟩ : ∃ x : Nat, b % 4 = x ∧ x < 4 := ⟨(b % 4).toNat, by omega, by omega⟩
  obtain ⟨z, hz, hz2⟩ : ∃ x : Nat, c % 24 = x ∧ x < 24 := ⟨(c % 24).toNat, by omega, by omega⟩
  have HX := Lib.hid hx
  have HY := Lib.hid hy
  have HZ := Lib.hid hz
  rw [hx, hy, hz]
  clear hx hy hz
  go_enter Try.func8, Try.ntmps8
  go_wp2_with fail
  refine (within_any a 16 (by omega) (by omega) _).mono ?_
  rintro e w' ⟨rfl, rfl⟩
  rw [HX.out]
  go_wp2_with fail
  refine (within_any b 4 (by omega) (by omega) _).mono ?_
  rintro e w' ⟨rfl, rfl⟩
  rw [HY.out]
  go_wp2_with fail
  refine (within_any c 24 (by omega) (by omega) _).mono ?_
  rintro e w' ⟨rfl, rfl⟩
  rw [HZ.out]
  go_wp2_with fail
  exact bodyPost_ret_by (results_cell_row rfl _ _ w.heap.size 23 _ (0, 0) _ rfl (heap_alloc_new _ _) Try.underlying23 rfl (by kernel_rfl)) rfl ⟨rfl, Gr.alloc (Gr.refl _) _ _⟩
end Go.Proofs.Ytmbikmlknbinpaa
namespace Go.Proofs.Ytmbikmlknbinpaa
open Go.RowKit

namespace Ck
def cnt (W n : Nat) : Nat := n / W + (if 0 < n % W then 1 else 0)
def padW (W : Nat) (l : List Int) : List Int := l.take W ++ List.replicate (W - l.length) 0
def blk (W : Nat) (b : List Int) (i : Nat) : List Int := padW W (b.drop (i * W))
def blocks (W : Nat) (b : List Int) : List (List Int) := (List.range (cnt W b.length)).map (blk W b)
/-- Bytes of a block, as parameters have it. -/
def wdt (K S : Int) : Nat := K.toNat * S.toNat
def countP (K H S n : Int) : Int := if MayP K H S ∧ 0 ≤ n then (cnt (wdt K S) n.toNat : Nat) else 0
def blocksP (K H S : Int) (b : List Int) : List (List Int) := if MayP K H S then blocks (wdt K S) b else []
def JoinOk (K H S : Int) (L : List (List Int)) (n : Int) : Prop := MayP K H S ∧ 0 ≤ n ∧ L.length = cnt (wdt K S) n.toNat ∧ ∀ x ∈ L, x.length = wdt K S
instance (K H S : Int) (L : List (List Int)) (n : Int) : Decidable (JoinOk K H S L n) := by unfold JoinOk; exact inferInstance
def joinP (K H S : Int) (L : List (List Int)) (n : Int) : List Int := if JoinOk K H S L n then L.flatten.take n.toNat else []
theorem wdt_in {K H S : Int} (h : MayP K H S) : 1 ≤ wdt K S ∧ wdt K S ≤ 384 ∧ (wdt K S : Int) = K * S := by
  obtain ⟨h1, h2, _, _, h5, h6⟩ := h
  obtain ⟨k, rfl⟩ : ∃ k : Nat, K = k := ⟨K.toNat, by omega⟩
  obtain ⟨s, rfl⟩ : ∃ s : Nat, S = s := ⟨S.toNat, by omega⟩
  unfold wdt
  rw [Int.toNat_natCast, Int.toNat_natCast]
  have a1 : 1 * 1 ≤ k * s := Nat.mul_le_mul (by omega) (by omega)
  have a2 : k * s ≤ 16 * 24 := Nat.mul_le_mul (by omega) (by omega)
  refine ⟨a1, a2, ?_⟩
  exact Int.natCast_mul k s
theorem padW_length (W : Nat) (l : List Int) : (padW W l).length = W := by
  unfold padW
  rw [List.length_append, List.length_take, List.length_replicate]
  omega
theorem padW_byt {W : Nat} {l : List Int} (h : ∀ x ∈ l, Byt x) : ∀ x ∈ padW W l, Byt x := fun x hx => by
  unfold padW at hx
  rcases List.mem_append.1 hx with h1 | h1
  · exact h x (List.mem_of_mem_take h1)
  · obtain ⟨_, rfl⟩ := List.mem_replicate.1 h1
    exact ⟨by decide, by decide⟩
theorem blk_length (W : Nat) (b : List Int) (i : Nat) : (blk W b i).length = W := padW_length _ _
theorem blk_byt {W : Nat} {b : List Int} (h : ∀ x ∈ b, Byt x) (i : Nat) : ∀ x ∈ blk W b i, Byt x := padW_byt fun x hx => h x (List.mem_of_mem_drop hx)
theorem blocks_length (W : Nat) (b : List Int) : (blocks W b).length = cnt W b.length := by simp [blocks]
theorem blocks_wide {W : Nat} {b : List Int} : ∀ x ∈ blocks W b, x.length = W := fun x hx => by
  obtain ⟨i, _, rfl⟩ := List.mem_map.1 hx
  exact blk_length W b i
theorem cnt_pos {W n : Nat} (h : 1 ≤ W) : n ≤ cnt W n * W ∧ cnt W n * W < n + W := by
  unfold cnt
  have h1 := Nat.div_add_mod n W
  have h2 := Nat.mod_lt n (show 0 < W by omega)
  have e : (n / W) * W = W * (n / W) := Nat.mul_comm _ _
  split
  · rw [Nat.add_mul, Nat.one_mul, e]
    omega
  · rw [Nat.add_zero, e]
    omega
theorem cnt_le {W n : Nat} (h : 1 ≤ W) : cnt W n ≤ n := by
  have := cnt_pos (n := n) h
  rcases Nat.lt_or_ge n (cnt W n) with h1 | h1
  · have h2 : (n + 1) * W ≤ cnt W n * W := Nat.mul_le_mul_right _ h1
    have h3 : n * 1 ≤ n * W := Nat.mul_le_mul_left _ h
    rw [Nat.add_mul] at h2
    omega
  · exact h1
theorem cnt_unique {W n k : Nat} (h : 1 ≤ W) (h1 : n ≤ k * W) (h2 : k * W < n + W) : cnt W n = k := by
  obtain ⟨a1, a2⟩ := cnt_pos (n := n) h
  rcases Nat.lt_trichotomy (cnt W n) k with hl | hl | hl
  · have : (cnt W n + 1) * W ≤ k * W := Nat.mul_le_mul_right _ hl
    rw [Nat.add_mul] at this
    omega
  · exact hl
  · have : (k + 1) * W ≤ cnt W n * W := Nat.mul_le_mul_right _ hl
    rw [Nat.add_mul] at this
    omega
theorem cnt_full {W k : Nat} (h : 1 ≤ W) : cnt W (k * W) = k := cnt_unique h (Nat.le_refl _) (by omega)
theorem flat_part {W : Nat} {b : List Int} (h : 1 ≤ W) (k : Nat) : ((List.range k).map (blk W b)).flatten = b.take (k * W) ++ List.replicate (k * W - b.length) 0 := by
  induction k with
  | zero => simp
  | succ k ih =>
    rw [List.range_succ, List.map_append, List.flatten_append, ih, List.map_singleton, List.flatten_singleton, Nat.add_mul, Nat.one_mul]
    unfold blk padW
    rw [List.length_drop]
    by_cases hl : k * W ≤ b.length
    · rw [show k * W - b.length = 0 from by omega, List.replicate_zero, List.append_nil, ← List.append_assoc, ← List.take_add, show W - (b.length - k * W) = k * W + W - b.length from by omega]
    · rw [List.drop_of_length_le (by omega), List.take_of_length_le (by omega : b.length ≤ k * W), List.take_of_length_le (by omega : b.length ≤ k * W + W), List.take_nil, List.nil_append, List.append_assoc, List.replicate_append_replicate]
      congr 2
      omega
theorem flat_blocks {W : Nat} {b : List Int} (h : 1 ≤ W) : (blocks W b).flatten = b ++ List.replicate (cnt W b.length * W - b.length) 0 := by
  unfold blocks
  rw [flat_part h, List.take_of_length_le (cnt_pos h).1]
theorem flat_wide {W : Nat} {L : List (List Int)} (h : ∀ x ∈ L, x.length = W) : L.flatten.length = L.length * W := by
  induction L with
  | nil => simp
  | cons x L ih =>
    rw [List.flatten_cons, List.length_append, ih fun y hy => h y (by simp [hy]), h x (by simp), List.length_cons, Nat.add_mul]
    omega
theorem join_blocks {K H S : Int} {b : List Int} (hm : MayP K H S) : JoinOk K H S (blocksP K H S b) b.length ∧ joinP K H S (blocksP K H S b) b.length = b := by
  have e : blocksP K H S b = blocks (wdt K S) b := if_pos hm
  have hj : JoinOk K H S (blocksP K H S b) b.length := by
    rw [e]
    exact ⟨hm, by omega, by rw [blocks_length, Int.toNat_natCast], blocks_wide⟩
  refine ⟨hj, ?_⟩
  unfold joinP
  rw [if_pos hj, e, flat_blocks (wdt_in hm).1, Int.toNat_natCast]
  exact List.take_left' rfl
end Ck
end Go.Proofs.Ytmbikmlknbinpaa
namespace Go.Proofs.Ytmbikmlknbinpaa
open Go.RowKit

/-- The rows of a slice of rows, one by one. -/
def Vals (w : World) (oa : Option Addr) (us : List Value) (L : List (List Int)) : Prop :=
  us.length = L.length ∧ (∀ ad, oa = some ad → ∀ j u, us[j]? = some u → w.cell? (ad.add j) = some u) ∧ (∀ i, i < L.length → Bs w (us.getD i undef) (L.getD i [])) ∧ ∀ u ∈ us, u.oneCell' = true
theorem Vals.grown {w w' : World} {oa : Option Addr} {us : List Value} {L : List (List Int)} (h : Vals w oa us L) (hg : Gr w w') : Vals w' oa us L :=
  ⟨h.1, fun ad ha j u hu => cell_grown hg (h.2.1 ad ha j u hu), fun i hi => Bs.grown (h.2.2.1 i hi) hg, h.2.2.2⟩
theorem Bss.vals {w : World} {oa : Option Addr} {n c : Nat} {L : List (List Int)} (h : Bss w (.slice oa n c) L) : ∃ us, Vals w oa us L := by
  obtain ⟨oa', c', he, h2, h3, h4, h5⟩ := h
  obtain ⟨rfl, rfl, rfl⟩ : oa = oa' ∧ n = L.length ∧ c = c' := by simpa using he
  cases oa with
  | none =>
    have : L = [] := List.eq_nil_of_length_eq_zero (by have := h4 rfl; omega)
    subst this
    exact ⟨[], rfl, (fun ad ha => by cases ha), (fun i hi => by simp at hi), by simp⟩
  | some a =>
    have hex : ∀ i, ∃ u, i < L.length → w.cell? (a.add i) = some u ∧ Bs w u (L.getD i []) := fun i => by
      by_cases hi : i < L.length
      · obtain ⟨u, h⟩ := h5 a rfl i hi
        exact ⟨u, fun _ => h⟩
      · exact ⟨undef, fun h => absurd h hi⟩
    have hf := fun i => Classical.choose_spec (hex i)
    have hget : ∀ i, i < L.length → ((List.range L.length).map fun i => Classical.choose (hex i)).getD i undef = Classical.choose (hex i) := fun i hi => by
      rw [List.getD_eq_getElem?_getD, List.getElem?_map, List.getElem?_range hi]
      rfl
    refine ⟨(List.range L.length).map fun i => Classical.choose (hex i), by simp, fun ad ha j u hu => ?_, fun i hi => ?_, fun u hu => ?_⟩
    · cases ha
      rw [List.getElem?_map] at hu
      by_cases hj : j < L.length
      · rw [List.getElem?_range hj] at hu
        simp at hu
        rw [← hu]
        exact (hf j hj).1
      · rw [List.getElem?_eq_none (by simp; omega)] at hu
        cases hu
    · rw [hget i hi]
      exact (hf i hi).2
    · obtain ⟨i, hi, rfl⟩ := List.mem_map.1 hu
      obtain ⟨o, cc, he⟩ := ((hf i (List.mem_range.1 hi)).2).form
      rw [he]
      rfl
theorem Vals.append {w : World} {us us' : List Value} {L L' : List (List Int)} {oa ob : Option Addr} (h : Vals w oa us L) (h' : Vals w ob us' L') :
    (us ++ us').length = (L ++ L').length ∧ (∀ i, i < (L ++ L').length → Bs w ((us ++ us').getD i undef) ((L ++ L').getD i [])) := by
  refine ⟨by rw [List.length_append, List.length_append, h.1, h'.1], fun i hi => ?_⟩
  rw [List.getD_eq_getElem?_getD, List.getD_eq_getElem?_getD]
  by_cases e : i < L.length
  · rw [List.getElem?_append_left (by rw [h.1]; exact e), List.getElem?_append_left e, ← List.getD_eq_getElem?_getD, ← List.getD_eq_getElem?_getD]
    exact h.2.2.1 i e
  · rw [List.length_append] at hi
    rw [List.getElem?_append_right (by rw [h.1]; omega), List.getElem?_append_right (by omega), h.1, ← List.getD_eq_getElem?_getD, ← List.getD_eq_getElem?_getD]
    exact h'.2.2.1 _ (by omega)
/-- A slice of rows of one's own, whose rows read so. -/
theorem owns_bss {base n : Nat} {w : World} {v : Value} {us : List Value} {L : List (List Int)} (ho : w.ownsRow base 24 1 v n us) (hl : L.length = n) (hr : ∀ i, i < L.length → Bs w (us.getD i undef) (L.getD i [])) : Bss w v L := by
  subst hl
  by_cases h0 : 0 < L.length
  · obtain ⟨g, c, rfl, h1, h2, h3, h4, h5⟩ := ownsRow_cell ho h0
    refine ⟨some ⟨g, 0, none⟩, c, rfl, h1, by unfold maxLen at h2; omega, (fun h => by cases h), fun a ha i hi => ?_⟩
    cases ha
    rw [Addr.add_mid, Nat.zero_add]
    exact ⟨_, h5 i hi, hr i hi⟩
  · have : L = [] := List.eq_nil_of_length_eq_zero (by omega)
    subst this
    obtain ⟨_, ⟨rfl, _⟩ | ⟨g, c, cur, rfl, _, _, _, h2, _⟩⟩ := ho
    · exact Bss.nil w
    · exact ⟨_, c, rfl, by simp, by unfold maxLen at h2; omega, (fun h => by cases h), fun a _ i hi => by simp at hi⟩
theorem Vals.take {w : World} {oa : Option Addr} {us : List Value} {L : List (List Int)} (h : Vals w oa us L) (k : Nat) : Vals w oa (us.take k) (L.take k) := by
  refine ⟨by rw [List.length_take, List.length_take, h.1], fun ad ha j u hu => ?_, fun i hi => ?_, fun u hu => h.2.2.2 u (List.mem_of_mem_take hu)⟩
  · by_cases e : j < k
    · rw [List.getElem?_take_of_lt e] at hu
      exact h.2.1 ad ha j u hu
    · rw [List.getElem?_eq_none (by rw [List.length_take]; omega)] at hu
      cases hu
  · rw [List.length_take] at hi
    rw [List.getD_eq_getElem?_getD, List.getD_eq_getElem?_getD, List.getElem?_take_of_lt (by omega), List.getElem?_take_of_lt (by omega), ← List.getD_eq_getElem?_getD, ← List.getD_eq_getElem?_getD]
    exact h.2.2.1 i (by omega)
theorem Vals.drop {w : World} {b : Addr} {us : List Value} {L : List (List Int)} {k ca : Nat} (h : Vals w (some b) us L) (hm : L.length ≤ ca) (hk : k ≤ L.length) : Vals w (if ca = k then some b else some (b.add k)) (us.drop k) (L.drop k) := by
  refine ⟨by rw [List.length_drop, List.length_drop, h.1], fun ad ha j u hu => ?_, fun i hi => ?_, fun u hu => h.2.2.2 u (List.mem_of_mem_drop hu)⟩
  · rw [List.getElem?_drop] at hu
    have hlt := (List.getElem?_eq_some_iff.1 hu).1
    rw [h.1] at hlt
    rw [if_neg (by omega)] at ha
    cases ha
    rw [Addr.add_add']
    exact h.2.1 b rfl _ u hu
  · rw [List.length_drop] at hi
    rw [List.getD_eq_getElem?_getD, List.getD_eq_getElem?_getD, List.getElem?_drop, List.getElem?_drop, ← List.getD_eq_getElem?_getD, ← List.getD_eq_getElem?_getD]
    exact h.2.2.1 _ (by omega)
end Go.Proofs.Ytmbikmlknbinpaa
namespace Go.Proofs.Ytmbikmlknbinpaa
open Go.RowKit

def I64 (x : Int) : Prop := -9223372036854775808 ≤ x ∧ x < 9223372036854775808
/-- v is a slice of ints that reads as l in w. -/
def Zs (w : World) (v : Value) (l : List Int) : Prop :=
  (∀ x ∈ l, I64 x) ∧ ∃ oa c, v = .slice oa l.length c ∧ l.length ≤ c ∧ c ≤ 9223372036854775807 ∧ (oa = none → c = 0) ∧ ∀ a, oa = some a → ∀ i, i < l.length → w.cell? (a.add i) = some (.int .i64 (l.getD i 0))
theorem cell_gr {w w' : World} (hg : Gr w w') {a : Addr} {x : Value} (h : w.cell? a = some x) : w'.cell? a = some x := (hg.kp fun _ => False).cell h (fun e => e)
theorem Zs.rng {w : World} {v : Value} {l : List Int} (h : Zs w v l) (i : Nat) (hi : i < l.length) : I64 (l.getD i 0) := by
  rw [List.getD_eq_getElem?_getD, List.getElem?_eq_getElem hi]
  exact h.1 _ (List.getElem_mem hi)
theorem Zs.grown {w w' : World} {v : Value} {l : List Int} (h : Zs w v l) (hg : Gr w w') : Zs w' v l := by
  obtain ⟨h0, oa, c, h1, h2, h3, h4, h5⟩ := h
  exact ⟨h0, oa, c, h1, h2, h3, h4, fun a ha i hi => cell_gr hg (h5 a ha i hi)⟩
theorem i64_of_wf {a : Int} (h : (Lit.int .i64 a).wf = true) : I64 a := by
  have := bounds_i64 h
  unfold I64
  omega
theorem Zs.of_in {w : World} {a : Option Addr} {len cap : Nat} {zs : List Int}
    (h : (a = none ∧ len = 0 ∧ cap = 0 ∧ zs = []) ∨ ∃ x, a = some x ∧ len ≤ cap ∧ cap ≤ maxLen ∧ zs.length = cap ∧ (∀ i, i < zs.length → w.cell? (x.add i) = some (.int .i64 (zs.getD i 0))) ∧ ∀ n ∈ zs, (Lit.int .i64 n).wf = true) :
    Zs w (.slice a len cap) (zs.take len) ∧ (zs.take len).length = len := by
  rcases h with ⟨rfl, rfl, rfl, rfl⟩ | ⟨x, rfl, h1, h2, h3, h4, h5⟩
  · exact ⟨⟨by simp, none, 0, rfl, by simp, by omega, fun _ => rfl, fun a h => by cases h⟩, rfl⟩
  · have hl : (zs.take len).length = len := by rw [List.length_take]; omega
    refine ⟨⟨fun z hz => i64_of_wf (h5 z (List.mem_of_mem_take hz)), some x, cap, by rw [hl], by rw [hl]; exact h1, by have : maxLen = 9223372036854775807 := rfl; omega, (fun h => by cases h), fun a ha i hi => ?_⟩, hl⟩
    cases ha
    rw [hl] at hi
    rw [h4 i (by omega), List.getD_eq_getElem?_getD, List.getD_eq_getElem?_getD, List.getElem?_take_of_lt hi]
theorem Zs.form3 {w : World} {v : Value} {l : List Int} (h : Zs w v l) : ∃ o m c, v = .slice o m c := by
  obtain ⟨_, oa, c, h1, _⟩ := h
  exact ⟨oa, _, c, h1⟩
/-- v's memory is none of F. -/
def AwayZ (F : Nat → Prop) (v : Value) : Prop := ∀ a m c, v = .slice (some a) m c → 0 < m → ¬ F a.block
theorem add_blk (a : Addr) (n : Nat) : (a.add n).block = a.block := by
  unfold Addr.add
  split <;> rfl
theorem Zs.kp {F : Nat → Prop} {w w' : World} {v : Value} {l : List Int} (h : Zs w v l) (hk : Kp F w w') (ha : AwayZ F v) : Zs w' v l := by
  obtain ⟨h0, oa, c, rfl, h2, h3, h4, h5⟩ := h
  exact ⟨h0, oa, c, rfl, h2, h3, h4, fun a he i hi => hk.cell (h5 a he i hi) (by
    rw [add_blk]
    subst he
    exact ha a _ c rfl (by omega))⟩
/-- What was there ahead of F lies away from it. -/
theorem Zs.away {F : Nat → Prop} {w : World} {v : Value} {l : List Int} (h : Zs w v l) (hF : ∀ k, F k → w.heap.size ≤ k) : AwayZ F v := fun a m c hv hm e => by
  obtain ⟨_, oa, c', he, _, _, _, h5⟩ := h
  rw [he] at hv
  obtain ⟨rfl, rfl, rfl⟩ : oa = some a ∧ l.length = m ∧ c' = c := by simpa using hv
  have := World.block_lt_of_cell? w _ (h5 a rfl 0 hm)
  rw [add_blk] at this
  have := hF _ e
  omega
end Go.Proofs.Ytmbikmlknbinpaa
namespace Go.Proofs.Ytmbikmlknbinpaa
open Go.RowKit

/-- The state behind one draw; what is told of it. -/
def nextS (s : Nat) : Nat := (s * 6364136223846793005 + 1442695040888963407) % 18446744073709551616
def topS (s : Nat) : Nat := s / 4294967296
theorem nextS_lt (s : Nat) : nextS s < 18446744073709551616 := Nat.mod_lt _ (by omega)
theorem topS_lt {s : Nat} (h : s < 18446744073709551616) : topS s < 4294967296 := by unfold topS; omega

theorem next_wrap (s : Nat) : IntKind.u64.wrap (IntKind.u64.wrap ((s : Int) * 6364136223846793005) + 1442695040888963407) = ((nextS s : Nat) : Int) := by
  have hw : ∀ x : Int, IntKind.u64.wrap x = x % 18446744073709551616 := fun x => by simp [IntKind.wrap, IntKind.bits, IntKind.signed]
  rw [hw, hw]
  unfold nextS
  omega
theorem top_wrap (s : Nat) : ((nextS s : Nat) : Int) / 4294967296 % 4294967296 = ((topS (nextS s) : Nat) : Int) := by
  have := nextS_lt s
  unfold topS
  omega
/-- Below a bound, of a state. -/
def belowV (s : Nat) (n : Int) : Int := if n ≤ 0 then 0 else ((topS (nextS s) : Nat) : Int) % n
def belowS (s : Nat) (n : Int) : Nat := if n ≤ 0 then s else nextS s
theorem belowS_lt {s : Nat} (h : s < 18446744073709551616) (n : Int) : belowS s n < 18446744073709551616 := by
  unfold belowS
  split
  · exact h
  · exact nextS_lt s
theorem belowV_rng (s : Nat) (n : Int) : 0 ≤ belowV s n ∧ belowV s n < 4294967296 := by
  unfold belowV
  split
  · omega
  · have h1 := topS_lt (nextS_lt s)
    have h2 := Int.emod_nonneg ((topS (nextS s) : Nat) : Int) (by omega : n ≠ 0)
    have h3 : ((topS (nextS s) : Nat) : Int) % n ≤ ((topS (nextS s) : Nat) : Int) := by
      rw [Int.emod_def]
      have h4 := Int.ediv_nonneg (by omega : (0 : Int) ≤ ((topS (nextS s) : Nat) : Int)) (by omega : 0 ≤ n)
      have h5 := Int.mul_nonneg (by omega : 0 ≤ n) h4
      omega
    omega
/-- The contracts of package draw; At: how a Draw lies in memory (which blocks are its own), and its state. -/
structure DrawOk (At : World → Value → (Nat → Prop) → Nat → Prop) : Prop where
  ptr : ∀ {w : World} {d : Value} {F : Nat → Prop} {s : Nat}, At w d F s → ∃ a, d = .pointer (some a)
  lt : ∀ {w : World} {d : Value} {F : Nat → Prop} {s : Nat}, At w d F s → ∀ k, F k → k < w.heap.size
  keep : ∀ {w w' : World} {d : Value} {F G : Nat → Prop} {s : Nat}, At w d F s → Kp G w w' → (∀ k, F k → ¬ G k) → At w' d F s
/-- Since w0: a Draw of one's own. -/
def Dr (At : World → Value → (Nat → Prop) → Nat → Prop) (w0 w : World) (d : Value) (F : Nat → Prop) (s : Nat) : Prop := At w d F s ∧ (∀ k, F k → w0.heap.size ≤ k) ∧ Gr w0 w ∧ s < 18446744073709551616
section
variable {At : World → Value → (Nat → Prop) → Nat → Prop}
theorem Dr.step {w0 w w' : World} {d : Value} {F : Nat → Prop} {s s' : Nat} (h : Dr At w0 w d F s) (ha : At w' d F s') (hk : Kp F w w') (hs : s' < 18446744073709551616) : Dr At w0 w' d F s' :=
  ⟨ha, h.2.1, hk.gr h.2.2.1 h.2.1, hs⟩
theorem Dr.other (O : DrawOk At) {w0 w w' : World} {d : Value} {F G : Nat → Prop} {s : Nat} (h : Dr At w0 w d F s) (hk : Kp G w w') (hG : ∀ k, G k → w0.heap.size ≤ k) (hd : ∀ k, F k → ¬ G k) : Dr At w0 w' d F s :=
  ⟨O.keep h.1 hk hd, h.2.1, hk.gr h.2.2.1 hG, h.2.2.2⟩
theorem Dr.grown (O : DrawOk At) {w0 w w' : World} {d : Value} {F : Nat → Prop} {s : Nat} (h : Dr At w0 w d F s) (hg : Gr w w') : Dr At w0 w' d F s :=
  ⟨O.keep h.1 (hg.kp fun _ => False) (fun _ _ e => e), h.2.1, Gr.trans h.2.2.1 hg, h.2.2.2⟩
end
theorem first_wake : topS (nextS 0) = 335903614 := by decide
end Go.Proofs.Ytmbikmlknbinpaa
namespace Go.Proofs.Ytmbikmlknbinpaa
open Go.RowKit

def Us (w : World) (v : Value) (l : List Int) : Prop :=
  ∃ oa c, v = .slice oa l.length c ∧ l.length ≤ c ∧ c ≤ 9223372036854775807 ∧ (oa = none → c = 0) ∧ ∀ a, oa = some a → ∀ i, i < l.length → w.cell? (a.add i) = some (.int .u32 (l.getD i 0))
theorem Us.at {w : World} {v : Value} {l : List Int} (h : Us w v l) (hl : 0 < l.length) :
    ∃ a c, v = .slice (some a) l.length c ∧ l.length ≤ c ∧ c ≤ 9223372036854775807 ∧ ∀ i, i < l.length → w.cell? (a.add i) = some (.int .u32 (l.getD i 0)) := by
  obtain ⟨oa, c, h1, h2, h3, h4, h5⟩ := h
  cases oa with
  | none => exact absurd (h4 rfl) (by omega)
  | some a => exact ⟨a, c, h1, h2, h3, h5 a rfl⟩
theorem eq_of_getD' {x y : List Int} (hl : y.length = x.length) (h : ∀ j, j < x.length → x.getD j 0 = y.getD j 0) : x = y := by
  apply List.ext_getElem hl.symm
  intro j h1 h2
  have := h j h1
  rw [List.getD_eq_getElem?_getD, List.getD_eq_getElem?_getD, List.getElem?_eq_getElem h1, List.getElem?_eq_getElem h2] at this
  simpa using this

theorem infoU : (Try.prog.info? 56).map (fun i => (i.zero, i.size, i.bytes)) = some (some (.int .u32 0), 1, 4) := by kernel_rfl
theorem info_parts' {t : TypeId} {z : Option Value} {a b : Nat} (h : (Try.prog.info? t).map (fun i => (i.zero, i.size, i.bytes)) = some (z, a, b)) : ∃ i, Try.prog.info? t = some i ∧ i.zero = z ∧ i.size = a ∧ i.bytes = b := by
  obtain ⟨i, hi, he⟩ := Option.map_eq_some_iff.1 h
  simp only [Prod.mk.injEq] at he
  exact ⟨i, hi, he.1, he.2.1, he.2.2⟩
/-- Behind a call that writes only blocks ahead of base, a row of one's own from base on is as it was. -/
theorem ownsRow_kp {F : Nat → Prop} {w w' : World} {base : Nat} {e : TypeId} {size : Nat} {v : Value} {n : Nat} {xs : List Value} (h : w.ownsRow base e size v n xs) (hk : Kp F w w') (hF : ∀ k, F k → k < base) : w'.ownsRow base e size v n xs := by
  obtain ⟨h0, h1 | ⟨g, c, cur, rfl, hb, hg, h2⟩⟩ := h
  · exact ⟨h0, .inl h1⟩
  · exact ⟨h0, .inr ⟨g, c, cur, rfl, hb, hk.block hg (fun e => by have := hF g e; omega), h2⟩⟩
theorem ownsRow_base' {w : World} {base : Nat} {e : TypeId} {size : Nat} {v : Value} {n : Nat} {us : List Value} (h : w.ownsRow base e size v n us) : ∀ g, v.ownBlock = some g → base ≤ g := by
  intro g hg
  obtain ⟨_, ⟨rfl, _⟩ | ⟨g', c, cur, rfl, hb, _⟩⟩ := h
  · simp [Value.ownBlock] at hg
  · simp [Value.ownBlock] at hg
    omega
theorem ownsRow_form' {w : World} {base : Nat} {e : TypeId} {v : Value} {n : Nat} {us : List Value} (h : w.ownsRow base e 1 v n us) : ∃ oa c, v = .slice oa n c := by
  obtain ⟨_, ⟨rfl, rfl⟩ | ⟨g, c, cur, rfl, _⟩⟩ := h
  · exact ⟨_, _, rfl⟩
  · exact ⟨_, _, rfl⟩
theorem ownsRow_us {w : World} {base n : Nat} {v : Value} {l : List Int} (h : w.ownsRow base 56 1 v n (l.map (Value.int .u32))) (hl : l.length = n) : Us w v l := by
  subst hl
  obtain ⟨h0, ⟨rfl, h1⟩ | ⟨g, c, cur, rfl, hb, hg, h1, h2, h3, h4⟩⟩ := h
  · obtain rfl : l = [] := List.eq_nil_of_length_eq_zero (by omega)
    exact ⟨none, 0, rfl, by simp, by omega, fun _ => rfl, fun a h => by cases h⟩
  · refine ⟨some ⟨g, 0, none⟩, c, rfl, h1, by unfold maxLen at h2; omega, (fun h => by cases h), fun a ha i hi => ?_⟩
    cases ha
    have hadd : (⟨g, 0, none⟩ : Addr).add i = ⟨g, i, none⟩ := by unfold Addr.add; split <;> simp_all
    rw [hadd, cell_of_row w g i _ _ _ hg]
    rw [Nat.mul_one] at h4
    have : (cur.toList.take l.length)[i]? = (l.map (Value.int .u32))[i]? := by rw [h4]
    rw [List.getElem?_take_of_lt hi] at this
    simpa [hi] using this
/-- The state behind k draws; the numbers drawn. -/
def sq (s : Nat) : Nat → Nat
  | 0 => s
  | k + 1 => nextS (sq s k)
theorem sq_lt {s : Nat} (h : s < 18446744073709551616) : ∀ k, sq s k < 18446744073709551616
  | 0 => h
  | _ + 1 => nextS_lt _
def outs (s m : Nat) : List Int := (List.range m).map fun i => ((topS (sq s (i + 1)) : Nat) : Int)
theorem outs_length (s m : Nat) : (outs s m).length = m := by simp [outs]
theorem outs_succ (s m : Nat) : outs s (m + 1) = outs s m ++ [((topS (sq s (m + 1)) : Nat) : Int)] := by simp [outs, List.range_succ]
end Go.Proofs.Ytmbikmlknbinpaa
