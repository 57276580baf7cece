/-
  Texts laid behind one another: Mk Mx Ms Pv Pw Co La Lb Py Lc Ld Ya Na Nb Ja.
-/
import Derived.Test.YtbbglejdfbkjlaaGreatMbac
import Derived.Test.YtbbglejdfbkjlaaGreatMbab
import Derived.Test.YtbbglejdfbkjlaaGreatMbaa
import Derived.Deep.DeepCutAuto
namespace Go.Proofs.YtbbglejdfbkjlaaGreat
open Go.RowKit
theorem Bss.byt {w : World} {v : Value} {A : List (List Int)} (h : Bss w v A) : ∀ r ∈ A, ∀ x ∈ r, Byt x := by
 intro r hr
 obtain ⟨i, hi, rfl⟩ := List.getElem_of_mem hr
 obtain ⟨a, c, _, _, _, h3⟩ := Bss.at h (by omega)
 obtain ⟨u, _, hu⟩ := h3 i hi
 rw [List.getD_eq_getElem?_getD, List.getElem?_eq_getElem hi] at hu
 exact hu.1
def wd (A : List (List Int)) : Nat := (A.getD 0 []).length
theorem wd_nil : wd [] = 0 := rfl
theorem Wide.of_bss {w : World} {v : Value} {A : List (List Int)} (h : Bss w v A) (hm : mayL A = true) : Wide (wd A) A := Wide.of_may hm h.byt
theorem Wide.may {k : Nat} {A : List (List Int)} (h : Wide k A) (hk : k ≤ 64) : mayL A = true := mayL_true fun i hi => by
 have h0 := (h.at i hi).1
 have h1 := (h.at 0 (by omega)).1
 omega
theorem Wide.wd {k : Nat} {A : List (List Int)} (h : Wide k A) (h0 : 0 < A.length) : wd A = k := (h.at 0 h0).1
theorem Wide.nil (k : Nat) : Wide k [] := fun r hr => by simp at hr
noncomputable def rkL (A : List (List Int)) : Nat := L.rk (A.map vec)
def IsMul (m : Nat) (A X out : List (List Int)) : Prop := Wide m out ∧ out.map vec = L.mulM (A.map vec) (X.map vec)
theorem IsMul.length {m : Nat} {A X o : List (List Int)} (h : IsMul m A X o) : o.length = A.length := by
 have := congrArg List.length h.2
 simpa [L.mulM] using this
def SolSays (A B : List (List Int)) (e : Int) (S : List (List Int)) : Prop :=
 (A = [] ∧ e = 1 ∧ S = []) ∨ (A ≠ [] ∧ rkL A < wd A ∧ e = 9 ∧ S = []) ∨
 (A ≠ [] ∧ rkL A = wd A ∧ e = 0 ∧ S.length = wd A ∧ IsMul (wd B) A S B ∧ Wide (wd B) S) ∨
 (A ≠ [] ∧ rkL A = wd A ∧ e = 10 ∧ S = [] ∧ ∀ M : List L.V, M.length = wd A → (∀ x ∈ M, L.Supp (wd B) x) → L.mulM (A.map vec) M ≠ B.map vec)
theorem SolSays.unique {A B S S' : List (List Int)} {e e' : Int} (hA : Wide (wd A) A) (h : SolSays A B e S) (h' : SolSays A B e' S') : e = e' ∧ S = S' := by
 rcases h with ⟨h0, h1, h2⟩ | ⟨h0, h1, h2, h3⟩ | ⟨h0, h1, h2, h3, h4, h5⟩ | ⟨h0, h1, h2, h3, h4⟩ <;>
 rcases h' with ⟨g0, g1, g2⟩ | ⟨g0, g1, g2, g3⟩ | ⟨g0, g1, g2, g3, g4, g5⟩ | ⟨g0, g1, g2, g3, g4⟩ <;>
 first
  | exact absurd h0 g0
  | exact absurd g0 h0
  | (exfalso; omega)
  | (subst_vars; exact ⟨rfl, rfl⟩)
  | skip
 ·refine ⟨by rw [h2, g2], map_vec_inj h5 g5 (L.mul_unique hA.supp h1 (by simp [h3]) (by simp [g3]) ?_)⟩
  rw [← h4.2, ← g4.2]
 ·exact absurd h4.2.symm (g4 _ (by simp [h3]) (h5.supp))
 ·exact absurd g4.2.symm (h4 _ (by simp [g3]) (g5.supp))
theorem bss_two {w : World} {g : Nat} {u v : Value} {x y : List Int} {t : TypeId} {fr : Nat × Nat} (h : w.heap[g]? = some (.cells #[u, v] t fr)) (hu : Bs w u x) (hv : Bs w v y) : Bss w (.slice (some ⟨g, 0, none⟩) 2 2) [x, y] :=
 ⟨some ⟨g, 0, none⟩, 2, rfl, by simp, by omega, (fun h => by cases h), fun a ha i hi => by
   cases ha
   rw [Addr.add_mid, Nat.zero_add]
   have : i = 0 ∨ i = 1 := by simp at hi; omega
   rcases this with rfl | rfl
   · exact ⟨u, by rw [cell_of_row w g 0 _ _ _ h]; rfl, hu⟩
   · exact ⟨v, by rw [cell_of_row w g 1 _ _ _ h]; rfl, hv⟩⟩
end Go.Proofs.YtbbglejdfbkjlaaGreat
namespace Go.Proofs.YtbbglejdfbkjlaaGreat
open Go.RowKit
structure Mx (w0 W : World) (g n c k : Nat) (A Lm : List (List Int)) (ps : List Nat) (col : Nat) (us : List Value) : Prop where
 own : W.ownsRow w0.heap.size 25 1 (.slice (some ⟨g, 0, none⟩) n c) n us
 row : ∀ i, i < n → Bs W (us.getD i undef) (Lm.getD i []) ∧ Rb w0.heap.size W (us.getD i undef)
 len : Lm.length = n
 wide : Wide k Lm
 ech : L.Ech (A.map vec) (Lm.map vec) ps col
 gr : Gr w0 W
section
variable {w0 W : World} {g n c k : Nat} {A Lm : List (List Int)} {ps : List Nat} {col : Nat} {us : List Value}
theorem Mx.cell (h : Mx w0 W g n c k A Lm ps col us) (i : Nat) (hi : i < n) :
  ∃ oi ci, us.getD i undef = .slice oi k ci ∧ W.cell? ⟨g, i, none⟩ = some (.slice oi k ci) ∧ ∀ j, j < k → ∃ a, oi = some a ∧ W.cell? (a.add j) = some (.int .u8 ((Lm.getD i []).getD j 0)) := by
 obtain ⟨g', c', he, _, _, _, _, hc⟩ := ownsRow_cell h.own (by omega)
 cases he
 have hb := (h.row i hi).1
 have hw := (h.wide.at i (by rw [h.len]; exact hi)).1
 obtain ⟨_, oi, ci, e, h1, _, h3, h4⟩ := hb
 rw [hw] at e h1 h4
 refine ⟨oi, ci, e, by rw [hc i hi, e], fun j hj => ?_⟩
 cases oi with
 | none => exact absurd (h3 rfl) (by omega)
 | some a => exact ⟨a, rfl, h4 a rfl j hj⟩
theorem Mx.frozen (h : Mx w0 W g n c k A Lm ps col us) (i : Nat) : W.frozen? ⟨g, i, none⟩ = false := by
 obtain ⟨_, ⟨he, _⟩ | ⟨g', c', cur, he, _, hg, _⟩⟩ := h.own
 ·cases he
 ·cases he
  exact frozen_of_row W g i _ _ hg
theorem Mx.base (h : Mx w0 W g n c k A Lm ps col us) : w0.heap.size ≤ g := (ownsRow_not_bytes h.own g rfl).1
theorem Mx.grow {W' : World} (h : Mx w0 W g n c k A Lm ps col us) (hg : Gr W W') : Mx w0 W' g n c k A Lm ps col us :=
 ⟨h.own.of_gr hg, fun i hi => Rb.gr (h.row i hi).1 (h.row i hi).2 hg, h.len, h.wide, h.ech, Gr.trans h.gr hg⟩
theorem Mx.to {qs : List Nat} {col' : Nat} (h : Mx w0 W g n c k A Lm ps col us) (he : L.Ech (A.map vec) (Lm.map vec) qs col') : Mx w0 W g n c k A Lm qs col' us :=
 ⟨h.own, h.row, h.len, h.wide, he, h.gr⟩
theorem Mx.put {qs : List Nat} {col' : Nat} {u : Value} {l : List Int} (h : Mx w0 W g n c k A Lm ps col us) (i : Nat) (hi : i < n) (hb : Bs W u l) (hrb : Rb w0.heap.size W u) (hl : l.length = k)
  (he : L.Ech (A.map vec) ((Lm.set i l).map vec) qs col') : Mx w0 (W.setCell ⟨g, i, none⟩ u) g n c k A (Lm.set i l) qs col' (us.set i u) := by
 obtain ⟨h1, h2⟩ := Rws.set h.own h.len h.row i hi hb hrb
 exact ⟨h1, h2, by rw [List.length_set]; exact h.len, h.wide.set i hl hb.1, he, Gr.setCell h.gr h.base u⟩
theorem Mx.swap (h : Mx w0 W g n c k A Lm ps col us) (a d : Nat) (ha : ps.length ≤ a) (ha2 : a < n) (hd : ps.length ≤ d) (hd2 : d < n) :
  Mx w0 ((W.setCell ⟨g, a, none⟩ (us.getD d undef)).setCell ⟨g, d, none⟩ (us.getD a undef)) g n c k A ((Lm.set a (Lm.getD d [])).set d (Lm.getD a [])) ps col ((us.set a (us.getD d undef)).set d (us.getD a undef)) := by
 have hm : (Lm.map vec).length = n := by rw [List.length_map, h.len]
 have he := h.ech.swap (a := a) (d := d) ha (by rw [hm]; exact ha2) hd (by rw [hm]; exact hd2)
 have e1 : ((Lm.set a (Lm.getD d [])).set d (Lm.getD a [])).map vec = ((Lm.map vec).set a (L.rowAt (Lm.map vec) d)).set d (L.rowAt (Lm.map vec) a) := by
  rw [List.map_set, List.map_set, rowAt_vec, rowAt_vec]
 rw [← e1] at he
 have hk : ∀ W' : World, (∀ j, j ≠ g → W'.heap[j]? = W.heap[j]?) → ∀ i, i < n → Bs W' (us.getD i undef) (Lm.getD i []) ∧ Rb w0.heap.size W' (us.getD i undef) := fun W' hW i hi =>
  Rb.kept (h.row i hi).1 (h.row i hi).2 (row := some g) (fun j _ hne => hW j (fun e => hne (by rw [e]))) (fun g' e => by cases e; exact ownsRow_not_bytes h.own g rfl)
 obtain ⟨h1, h2⟩ := Rws.set h.own h.len h.row a ha2 (h.row d hd2).1 (h.row d hd2).2
 have hka := hk (W.setCell ⟨g, a, none⟩ (us.getD d undef)) (fun j hj => heap_setCell_other _ _ _ _ hj) a ha2
 obtain ⟨h3, h4⟩ := Rws.set (L := Lm.set a (Lm.getD d [])) h1 (by rw [List.length_set]; exact h.len) h2 d hd2 hka.1 hka.2
 have wa := h.wide.at a (by rw [h.len]; exact ha2)
 have wd := h.wide.at d (by rw [h.len]; exact hd2)
 exact ⟨h3, h4, by rw [List.length_set, List.length_set]; exact h.len, (h.wide.set a wd.1 wd.2).set d wa.1 wa.2, he, Gr.setCell (Gr.setCell h.gr h.base _) h.base _⟩
theorem Mx.out (h : Mx w0 W g n c k A Lm ps k us) : Rws w0.heap.size W (.slice (some ⟨g, 0, none⟩) ps.length c) (Lm.take ps.length) ∧ Gr w0 W ∧ IsRed k A (Lm.take ps.length) := by
 have hdn : ps.length ≤ n := by have := h.ech.le; rwa [List.length_map, h.len] at this
 have hlen : (Lm.take ps.length).length = ps.length := by rw [List.length_take, h.len]; omega
 refine ⟨⟨us.take ps.length, ?_, fun i hi => ?_⟩, h.gr, h.wide.take _, ps, hlen.symm, ?_⟩
 ·obtain ⟨h0, ⟨he, _⟩ | ⟨g', c', cur, he, hb, hg, h1, h2, h3, h4⟩⟩ := h.own
  ·cases he
  ·cases he
   refine ⟨by rw [List.length_take, hlen]; omega, .inr ⟨g, c, cur, by rw [hlen], hb, hg, by omega, h2, h3, ?_⟩⟩
   rw [← h4, hlen, List.take_take, Nat.mul_one, Nat.mul_one, Nat.min_eq_left hdn]
 ·rw [hlen] at hi
  rw [List.getD_eq_getElem?_getD, List.getD_eq_getElem?_getD, List.getElem?_take_of_lt hi, List.getElem?_take_of_lt hi, ← List.getD_eq_getElem?_getD, ← List.getD_eq_getElem?_getD]
  exact h.row i (by omega)
 ·have := (h.ech.done h.wide.supp).1
  rwa [← List.map_take] at this
theorem Mx.scaled {u : Value} {z : Int} (h : Mx w0 W g n c k A Lm ps col us) (d : Nat) (hd : ps.length ≤ d) (hd2 : d < n) (hz : Byt z) (hz0 : z ≠ 0) (hb : Bs W u (scaleL z (Lm.getD d []))) (hrb : Rb w0.heap.size W u) :
  Mx w0 (W.setCell ⟨g, d, none⟩ u) g n c k A (Lm.set d (scaleL z (Lm.getD d []))) ps col (us.set d u) := by
 have wd := h.wide.at d (by rw [h.len]; exact hd2)
 refine h.put d hd2 hb hrb (by rw [scaleL_length]; exact wd.1) ?_
 rw [List.map_set, vec_scale hz wd.2, ← rowAt_vec]
 exact h.ech.scale hd (by rw [List.length_map, h.len]; exact hd2) (fb_ne hz hz0)
theorem Mx.added {u : Value} {z : Int} (h : Mx w0 W g n c k A Lm ps col us) (i d : Nat) (hd : ps.length ≤ d) (hd2 : d < n) (hi : i < n) (hne : i ≠ d) (hz : Byt z) (hb : Bs W u (axL z (Lm.getD d []) (Lm.getD i []))) (hrb : Rb w0.heap.size W u) :
  Mx w0 (W.setCell ⟨g, i, none⟩ u) g n c k A (Lm.set i (axL z (Lm.getD d []) (Lm.getD i []))) ps col (us.set i u) := by
 have wd := h.wide.at d (by rw [h.len]; exact hd2)
 have wi := h.wide.at i (by rw [h.len]; exact hi)
 refine h.put i hi hb hrb (by rw [axL_length]; exact wd.1) ?_
 rw [List.map_set, vec_ax hz wd.2 wi.2 (by rw [wd.1, wi.1]), ← rowAt_vec, ← rowAt_vec]
 exact h.ech.add hd hne (by rw [List.length_map, h.len]; exact hi)
end
theorem inv_mulZ {z : Int} (hz : Byt z) (h0 : z ≠ 0) : mulZ (invZ z) z = 1 := by
 unfold Byt at hz
 unfold mulZ invZ
 rw [Int.toNat_natCast, M.mulN_comm, M.mulN_inv _ (by omega) (by omega)]
 rfl
theorem invZ_ne {z : Int} (hz : Byt z) (h0 : z ≠ 0) : invZ z ≠ 0 := by
 unfold Byt at hz
 unfold invZ
 have := M.invN_ne z.toNat (by omega)
 omega
theorem getD_set_self (L : List (List Int)) (i : Nat) (l : List Int) (h : i < L.length) : (L.set i l).getD i [] = l := by
 rw [List.getD_eq_getElem?_getD, List.getElem?_set_self h]
 rfl
theorem getD_set_ne (L : List (List Int)) (i j : Nat) (l : List Int) (h : i ≠ j) : (L.set i l).getD j [] = L.getD j [] := by
 rw [List.getD_eq_getElem?_getD, List.getElem?_set_ne h, ← List.getD_eq_getElem?_getD]
theorem frozen_grown {w w' : World} (hg : Gr w w') {a : Addr} {x : Value} (h : w.cell? a = some x) (hf : w.frozen? a = false) : w'.frozen? a = false := by
 rw [World.frozen?_of_block (hg.2.2.2.2 _ (World.block_lt_of_cell? w _ h))]
 exact hf
theorem New.form3 {w w' : World} {v : Value} {l : List Int} (h : New w w' v l) : ∃ o m c, v = .slice o m c := by
 obtain ⟨o, c, h⟩ := (New.bs h).form
 exact ⟨o, _, c, h⟩
theorem New.of_row {w w' : World} {v : Value} {l : List Int} (hg : Gr w w') (hb : ∀ x ∈ l, Byt x) (h : w'.ownsRow w.heap.size 5 1 v l.length (l.map (Value.int .u8))) : New w w' v l := by
 by_cases h0 : 0 < l.length
 ·obtain ⟨gg, cap, rfl, _, _⟩ := h.form h0
  exact (New.of_owns hg hb h).2
 ·obtain rfl : l = [] := List.eq_nil_of_length_eq_zero (by omega)
  refine ⟨hg, by simp, .inl ⟨rfl, ?_⟩⟩
  obtain ⟨_, ⟨rfl, _⟩ | ⟨g, c, cur, rfl, _, _, _, h2, _⟩⟩ := h
  ·exact ⟨none, 0, rfl, fun _ => rfl, by omega⟩
  ·exact ⟨_, c, rfl, (fun h => by cases h), by unfold maxLen at h2; omega⟩
end Go.Proofs.YtbbglejdfbkjlaaGreat
namespace Go.Proofs.YtbbglejdfbkjlaaGreat
open Go.RowKit
theorem infoB : (Tryz.prog.info? 5).map (fun i => (i.zero, i.size, i.bytes)) = some (some (.int .u8 0), 1, 1) := by kernel_rfl
theorem Bss.take {w : World} {oa : Option Addr} {m c : Nat} {X : List (List Int)} (h : Bss w (.slice oa m c) X) (hm : X.length = m) (n : Nat) (hn : n ≤ m) : Bss w (.slice oa n c) (X.take n) := by
 obtain ⟨oa', c', he, h2, h3, h4, h5⟩ := h
 obtain ⟨rfl, _, rfl⟩ : oa = oa' ∧ m = X.length ∧ c = c' := by simpa using he
 have hl : (X.take n).length = n := by rw [List.length_take]; omega
 refine ⟨oa, c, by rw [hl], by rw [hl]; omega, h3, h4, fun a ha i hi => ?_⟩
 rw [hl] at hi
 obtain ⟨u, h6, h7⟩ := h5 a ha i (by omega)
 refine ⟨u, h6, ?_⟩
 rw [List.getD_eq_getElem?_getD, List.getElem?_take_of_lt hi, ← List.getD_eq_getElem?_getD]
 exact h7
end Go.Proofs.YtbbglejdfbkjlaaGreat
namespace Go.Proofs.YtbbglejdfbkjlaaGreat
open Go.RowKit
namespace L
/-! ### Unit rows -/
/-! ### Powers of unlike things, side by side -/
end L
/-! ### The rows ahead -/
def aheadF (K h : Nat) : Nat → Int := fun j => if j < K then expZ (((h + 1) * (j + 1) : Nat) : Int) else if j = K + h then 1 else 0
def aheadRow (K H h : Nat) : List Int := lst (K + H) (aheadF K h)
def ahead (K H : Nat) : List (List Int) := (List.range H).map (aheadRow K H)
theorem aheadF_byt (K h j : Nat) : Byt (aheadF K h j) := by
 unfold aheadF
 split
 ·exact expZ_byt _
 ·split <;> (unfold Byt; omega)
theorem aheadRow_length (K H h : Nat) : (aheadRow K H h).length = K + H := lst_length _ _
theorem ahead_length (K H : Nat) : (ahead K H).length = H := by simp [ahead]
theorem ahead_wide (K H : Nat) : Wide (K + H) (ahead K H) := fun r hr => by
 obtain ⟨h, _, rfl⟩ := List.mem_map.1 hr
 exact ⟨aheadRow_length K H h, lst_byt fun i _ => aheadF_byt K h i⟩
end Go.Proofs.YtbbglejdfbkjlaaGreat
namespace Go.Proofs.YtbbglejdfbkjlaaGreat
open Go.RowKit
abbrev par (K H S : Int) : Value := .agg #[.int .i64 K, .int .i64 H, .int .i64 S]
def MayP (K H S : Int) : Prop := 1 ≤ K ∧ K ≤ 16 ∧ 1 ≤ H ∧ H ≤ 4 ∧ 1 ≤ S ∧ S ≤ 24
instance (K H S : Int) : Decidable (MayP K H S) := by unfold MayP; exact inferInstance
def colsP (K H S : Int) : Int := if MayP K H S then K + H else 0
def aheadP (K H S : Int) : List (List Int) := if MayP K H S then ahead K.toNat H.toNat else []
def Par (w : World) (g : Nat) (K H S : Int) : Prop := w.heap[g]? = some (.cells #[.int .i64 K, .int .i64 H, .int .i64 S] 23 (0, 0))
theorem Par.grown {w w' : World} {g : Nat} {K H S : Int} (h : Par w g K H S) (hg : Gr w w') : Par w' g K H S := keptRow hg h
theorem Par.cell0 {w : World} {g : Nat} {K H S : Int} (h : Par w g K H S) : w.cell? ⟨g, 0, none⟩ = some (.int .i64 K) := by rw [cell_of_row w g 0 _ _ _ h]; rfl
theorem Par.cell1 {w : World} {g : Nat} {K H S : Int} (h : Par w g K H S) : w.cell? ⟨g, 1, none⟩ = some (.int .i64 H) := by rw [cell_of_row w g 1 _ _ _ h]; rfl
theorem Par.cell2 {w : World} {g : Nat} {K H S : Int} (h : Par w g K H S) : w.cell? ⟨g, 2, none⟩ = some (.int .i64 S) := by rw [cell_of_row w g 2 _ _ _ h]; rfl
set_option maxHeartbeats 400000 in
theorem params_any (a b c : Int) (w : World) :
  Calls Tryz.prog 10 #[.int .i64 a, .int .i64 b, .int .i64 c] w fun e w' => e = .returned (par (1 + a % 16) (1 + b % 4) (1 + c % 24)) ∧ Gr w w' := by
 obtain ⟨x, hx, hx2⟩ : ∃ x : Nat, a % 16 = x ∧ x < 16 := ⟨(a % 16).toNat, by omega, by omega⟩
 obtain ⟨y, hy, hy2⟩ : ∃ x : Nat, b % 4 = x ∧ x < 4 := ⟨(b % 4).toNat, by omega, by omega⟩
 obtain ⟨z, hz, hz2⟩ : ∃ x : Nat, c % 24 = x ∧ x < 24 := ⟨(c % 24).toNat, by omega, by omega⟩
 have HX := Lib.hid hx
 have HY := Lib.hid hy
 have HZ := Lib.hid hz
 rw [hx, hy, hz]
 clear hx hy hz
 go_enter Tryz.func10, Tryz.ntmps10
 go_wp2_with fail
 refine (within_any a 16 (by omega) (by omega) _).mono ?_
 rintro e w' ⟨rfl, rfl⟩
 rw [HX.out]
 go_wp2_with fail
 refine (within_any b 4 (by omega) (by omega) _).mono ?_
 rintro e w' ⟨rfl, rfl⟩
 rw [HY.out]
 go_wp2_with fail
 refine (within_any c 24 (by omega) (by omega) _).mono ?_
 rintro e w' ⟨rfl, rfl⟩
 rw [HZ.out]
 go_wp2_with fail
 exact bodyPost_ret_by (results_cell_row rfl _ _ w.heap.size 23 _ (0, 0) _ rfl (heap_alloc_new _ _) Tryz.underlying23 rfl (by kernel_rfl)) rfl ⟨rfl, Gr.alloc (Gr.refl _) _ _⟩
end Go.Proofs.YtbbglejdfbkjlaaGreat
namespace Go.Proofs.YtbbglejdfbkjlaaGreat
open Go.RowKit
def blkOf : Value → Option Nat
 | .slice (some a) _ _ => some a.block
 | _ => none
end Go.Proofs.YtbbglejdfbkjlaaGreat
namespace Go.Proofs.YtbbglejdfbkjlaaGreat
open Go.RowKit
theorem tab_length_le' (l : Int) : (T.tab l).length ≤ 64 := by
 by_cases h : 1 ≤ l ∧ l ≤ 64
 ·obtain ⟨N, rfl⟩ : ∃ N : Nat, l = N := ⟨l.toNat, by omega⟩
  rw [T.tab_in (by omega) (by omega), T.tabZ_length]
  omega
 ·rw [T.tab_out h]
  simp
theorem degA_le : ∀ (t : List Int) (x : Int) (k : Nat), 0 ≤ T.degA t x k ∧ T.degA t x k ≤ (k + t.length : Nat)
 | [], x, k => by simp [T.degA]
 | a :: t, x, k => by
  have ih := degA_le t x (k + 1)
  unfold T.degA
  split
  ·simp; omega
  ·simp at ih ⊢
   omega
theorem drawV_le (t : List Int) (s : Nat) : 0 ≤ drawV t s ∧ drawV t s ≤ t.length := by
 unfold drawV
 split
 ·omega
 ·unfold T.deg
  split
  ·omega
  ·have := degA_le t (belowV s (lastZ' t)) 0
   simpa using this
def MayI (id : Int) : Prop := 0 ≤ id ∧ id ≤ 65535
instance (id : Int) : Decidable (MayI id) := by unfold MayI; exact inferInstance
def mixS (seed : Nat) (id : Nat) : Nat := seed ^^^ (id * 2654435761 % 4294967296)
theorem mixS_lt {seed : Nat} (h : seed < 4294967296) (id : Nat) : mixS seed id < 4294967296 := by
 unfold mixS
 exact Nat.xor_lt_two_pow (n := 32) h (Nat.mod_lt _ (by omega))
def atN (N seed id : Nat) : List Int := C.someZ (drawS (T.tab N) (nextS (mixS seed id))) N (drawV (T.tab N) (nextS (mixS seed id)))
def atP (K H S : Int) (seed : Nat) (id : Int) : List Int := if MayP K H S ∧ MayI id then atN (K.toNat + H.toNat) seed id.toNat else []
end Go.Proofs.YtbbglejdfbkjlaaGreat
namespace Go.Proofs.YtbbglejdfbkjlaaGreat
open Go.RowKit
theorem someZ_rng (s : Nat) (n k : Int) : ∀ x ∈ C.someZ s n k, 0 ≤ x ∧ x < n := fun x hx => by
 unfold C.someZ at hx
 by_cases h : C.May n k
 ·rw [if_pos h] at hx
  obtain ⟨h1, h2, h3, h4⟩ := h
  have := C.some_rng (n := n.toNat) (k := k.toNat) (by omega) hx
  omega
 ·rw [if_neg h] at hx
  cases hx
theorem someZ_len (s : Nat) (n k : Int) : (C.someZ s n k).length ≤ 64 := by
 unfold C.someZ
 by_cases h : C.May n k
 ·rw [if_pos h]
  obtain ⟨h1, h2, h3, h4⟩ := h
  rw [C.some_length (by omega)]
  omega
 ·rw [if_neg h]
  simp
theorem atN_rng (N seed id : Nat) : ∀ x ∈ atN N seed id, 0 ≤ x ∧ x < (N : Int) := someZ_rng _ _ _
def onesL (N : Nat) (L : List Int) : List Int := lst N fun j => if (j : Int) ∈ L then 1 else 0
def rowP (K H S : Int) (seed : Nat) (id : Int) : List Int := if MayP K H S ∧ MayI id then onesL (K.toNat + H.toNat) (atN (K.toNat + H.toNat) seed id.toNat) else []
theorem onesL_length (N : Nat) (L : List Int) : (onesL N L).length = N := lst_length _ _
theorem onesL_byt (N : Nat) (L : List Int) : ∀ z ∈ onesL N L, Byt z := lst_byt fun i _ => by
 show Byt (if (i : Int) ∈ L then 1 else 0)
 split <;> (unfold Byt; omega)
theorem onesL_nil (N : Nat) : onesL N [] = List.replicate N 0 := by
 rw [part_nil N (fun _ => 0)]
 apply lst_congr
 intro j _
 simp [part]
theorem onesL_next {N : Nat} {L : List Int} {q : Nat} (h : q < N) : (onesL N L).set q 1 = onesL N (L ++ [(q : Int)]) := by
 unfold onesL
 rw [lst_set]
 apply lst_congr
 intro j _
 by_cases e : j = q
 ·subst e
  simp
 ·rw [if_neg e]
  have e2 : ¬ ((j : Int) = (q : Int)) := by omega
  simp [e2]
end Go.Proofs.YtbbglejdfbkjlaaGreat
namespace Go.Proofs.YtbbglejdfbkjlaaGreat
open Go.RowKit
theorem Bss.form3 {w : World} {v : Value} {L : List (List Int)} (h : Bss w v L) : ∃ o m c, v = .slice o m c := by
 obtain ⟨o, c, h, _⟩ := h
 exact ⟨o, _, c, h⟩
theorem aheadP_in {K H : Nat} {S : Int} (h : MayP K H S) : aheadP K H S = ahead K H := by
 unfold aheadP
 rw [if_pos h, Int.toNat_natCast, Int.toNat_natCast]
end Go.Proofs.YtbbglejdfbkjlaaGreat
namespace Go.Proofs.YtbbglejdfbkjlaaGreat
open Go.RowKit
structure LtOk : Prop where
 cols : ∀ (K H S : Int) (seed : Nat) (id : Int) (w : World), seed < 4294967296 → I64 id →
  Calls Tryz.prog 85 #[par K H S, .int .u32 (seed : Int), .int .i64 id] w fun e w' => ∃ v, e = .returned v ∧ OwnZ w.heap.size w' v (atP K H S seed id) ∧ Gr w w'
 row : ∀ (K H S : Int) (seed : Nat) (id : Int) (w : World), seed < 4294967296 → I64 id →
  Calls Tryz.prog 45 #[par K H S, .int .u32 (seed : Int), .int .i64 id] w fun e w' => ∃ v, e = .returned v ∧ New w w' v (rowP K H S seed id)
end Go.Proofs.YtbbglejdfbkjlaaGreat
namespace Go.Proofs.YtbbglejdfbkjlaaGreat
open Go.RowKit
theorem tab_pos {N : Nat} (h1 : 1 ≤ N) (h2 : N ≤ 64) {j : Nat} (hj : j < N) : 1 ≤ (T.tabZ N).getD j 0 := by
 rw [T.tabZ_at hj]
 have := T.sum_lt h1 h2 (j + 1) 0 (by omega) (by omega)
 omega
theorem someZ_some {s n k : Nat} (h1 : n ≤ 64) (h2 : k ≤ n) : C.someZ s n k = C.some s n k := by
 unfold C.someZ
 rw [if_pos ⟨by omega, by omega, by omega, by omega⟩, Int.toNat_natCast, Int.toNat_natCast]
theorem belowV_lt (s : Nat) {n : Int} (h : 0 < n) : belowV s n < n := by
 unfold belowV
 rw [if_neg (by omega)]
 exact Int.emod_lt_of_pos _ h
theorem drawV_pos {N : Nat} (h1 : 1 ≤ N) (h2 : N ≤ 64) (s : Nat) : 1 ≤ drawV (T.tab N) s := by
 have hl := T.tabZ_length N
 have hne : T.tabZ N ≠ [] := fun e => by rw [e] at hl; simp at hl; omega
 have hp := tab_pos h1 h2 (j := N - 1) (by omega)
 rw [T.tab_in h1 h2]
 unfold drawV
 rw [if_neg hne]
 have hlast : lastZ' (T.tabZ N) = (T.tabZ N).getD (N - 1) 0 := by unfold lastZ'; rw [hl]
 obtain ⟨j, _, h⟩ := T.deg_some (t := T.tabZ N) (x := belowV s (lastZ' (T.tabZ N))) (belowV_rng _ _).1 (by omega) (by
   rw [hl, ← hlast]
   exact belowV_lt _ (by omega))
 rw [h]
 omega
theorem atN_some {N : Nat} (h1 : 1 ≤ N) (h2 : N ≤ 64) (seed id : Nat) : ∃ s k : Nat, 1 ≤ k ∧ k ≤ N ∧ atN N seed id = C.some s N k := by
 have ha := drawV_pos h1 h2 (nextS (mixS seed id))
 have hb := (drawV_le (T.tab N) (nextS (mixS seed id))).2
 rw [T.tab_in h1 h2, T.tabZ_length] at hb
 rw [T.tab_in h1 h2] at ha
 unfold atN
 rw [T.tab_in h1 h2]
 obtain ⟨k, hk⟩ : ∃ k : Nat, drawV (T.tabZ N) (nextS (mixS seed id)) = k := ⟨(drawV (T.tabZ N) (nextS (mixS seed id))).toNat, by omega⟩
 rw [hk] at ha hb ⊢
 exact ⟨_, k, by omega, by omega, someZ_some h2 (by omega)⟩
theorem atN_rising {N : Nat} (h1 : 1 ≤ N) (h2 : N ≤ 64) (seed id : Nat) : Rising (atN N seed id) := by
 obtain ⟨s, k, _, hb, h⟩ := atN_some h1 h2 seed id
 rw [h]
 exact rising_of (C.some_sorted hb)
end Go.Proofs.YtbbglejdfbkjlaaGreat
namespace Go.Proofs.YtbbglejdfbkjlaaGreat
open Go.RowKit
def matP (K H S : Int) (seed : Nat) (ids : List Int) : List (List Int) :=
 if MayP K H S then ahead K.toNat H.toNat ++ (ids.filter fun i => decide (MayI i)).map (rowP K H S seed) else []
def firstI (n : Nat) : List Int := (List.range n).map fun i : Nat => (i : Int)
theorem firstI_length (n : Nat) : (firstI n).length = n := by simp [firstI]
theorem firstI_succ (n : Nat) : firstI (n + 1) = firstI n ++ [(n : Int)] := by simp [firstI, List.range_succ]
theorem firstI_i64 {n : Nat} (h : n ≤ 1000) : ∀ x ∈ firstI n, I64 x := fun x hx => by
 simp only [firstI, List.mem_map, List.mem_range] at hx
 obtain ⟨a, h1, rfl⟩ := hx
 exact ⟨by omega, by omega⟩
def FullP (K H S : Int) (seed : Nat) (ids : List Int) : Prop := MayP K H S ∧ (rkL (matP K H S seed ids) : Int) = colsP K H S
noncomputable instance (K H S : Int) (seed : Nat) (ids : List Int) : Decidable (FullP K H S seed ids) := by unfold FullP; exact inferInstance
def RightP (K H S : Int) (seed : Nat) : Prop := FullP K H S seed (firstI K.toNat)
noncomputable instance (K H S : Int) (seed : Nat) : Decidable (RightP K H S seed) := by unfold RightP; exact inferInstance
theorem matP_in {K H : Nat} {S : Int} (hm : MayP K H S) (seed : Nat) (ids : List Int) : matP K H S seed ids = ahead K H ++ (ids.filter fun i => decide (MayI i)).map (rowP K H S seed) := by
 unfold matP
 rw [if_pos hm, Int.toNat_natCast, Int.toNat_natCast]
theorem rowP_in {K H : Nat} {S id : Int} (hm : MayP K H S) (hi : MayI id) (seed : Nat) : rowP K H S seed id = onesL (K + H) (atN (K + H) seed id.toNat) := by
 unfold rowP
 rw [if_pos ⟨hm, hi⟩, Int.toNat_natCast, Int.toNat_natCast]
theorem rowP_wide {K H : Nat} {S id : Int} (hm : MayP K H S) (hi : MayI id) (seed : Nat) : (rowP K H S seed id).length = K + H ∧ ∀ z ∈ rowP K H S seed id, Byt z := by
 rw [rowP_in hm hi]
 exact ⟨onesL_length _ _, onesL_byt _ _⟩
theorem matP_wide {K H : Nat} {S : Int} (hm : MayP K H S) (seed : Nat) (ids : List Int) : Wide (K + H) (matP K H S seed ids) := fun r hr => by
 rw [matP_in hm, List.mem_append] at hr
 rcases hr with hr | hr
 ·exact ahead_wide K H r hr
 ·obtain ⟨i, hi, rfl⟩ := List.mem_map.1 hr
  exact rowP_wide hm (of_decide_eq_true (List.mem_filter.1 hi).2) seed
theorem matP_may (K H S : Int) (seed : Nat) (ids : List Int) : mayL (matP K H S seed ids) = true := by
 by_cases hm : MayP K H S
 ·have h0 := hm
  unfold MayP at h0
  obtain ⟨k, rfl⟩ : ∃ k : Nat, K = k := ⟨K.toNat, by omega⟩
  obtain ⟨h, rfl⟩ : ∃ h : Nat, H = h := ⟨H.toNat, by omega⟩
  exact (matP_wide hm seed ids).may (by omega)
 ·unfold matP
  rw [if_neg hm]
  rfl
theorem matP_length (K H S : Int) (seed : Nat) (ids : List Int) : (matP K H S seed ids).length ≤ 4 + ids.length := by
 unfold matP
 split
 ·rename_i hm
  unfold MayP at hm
  have := List.length_filter_le (fun i => decide (MayI i)) ids
  rw [List.length_append, ahead_length, List.length_map]
  omega
 ·simp
theorem matP_snoc (K H S : Int) (seed : Nat) (ids : List Int) (id : Int) : matP K H S seed (ids ++ [id]) = matP K H S seed ids ++ (if MayP K H S ∧ MayI id then [rowP K H S seed id] else []) := by
 unfold matP
 by_cases hm : MayP K H S
 ·rw [if_pos hm, if_pos hm, List.filter_append, List.map_append, ← List.append_assoc]
  by_cases hi : MayI id
  ·rw [if_pos ⟨hm, hi⟩]
   simp [hi]
  ·rw [if_neg (fun e => hi e.2)]
   simp [hi]
 ·rw [if_neg hm, if_neg hm, if_neg (fun e => hm e.1)]
  rfl
theorem matP_ne {K H S : Int} (hm : ¬ MayP K H S) (seed : Nat) (ids : List Int) : matP K H S seed ids = [] := by
 unfold matP
 rw [if_neg hm]
theorem rkL_snoc {n : Nat} {A : List (List Int)} {x : List Int} (hA : Wide n A) (hx : x.length = n) : rkL A ≤ rkL (A ++ [x]) ∧ rkL (A ++ [x]) ≤ rkL A + 1 := by
 have hs : L.Same ((A ++ [x]).map vec) (vec x :: A.map vec) := L.Same.of_mem fun y => by
  simp only [List.map_append, List.mem_append, List.map_cons, List.map_nil, List.mem_cons, List.not_mem_nil, or_false]
  exact Or.comm
 have hv : L.Supp n (vec x) := vec_supp hx
 have h := L.rk_cons hA.supp hv
 unfold rkL
 rw [L.rk_same hs]
 by_cases c : L.Sp (A.map vec) (vec x)
 ·rw [h.1 c]; omega
 ·rw [h.2 c]; omega
theorem rk_matP_mem {K H S : Int} {seed : Nat} {l l' : List Int} (h : ∀ i, MayI i → (i ∈ l ↔ i ∈ l')) : rkL (matP K H S seed l) = rkL (matP K H S seed l') := by
 by_cases hm : MayP K H S
 ·unfold matP
  rw [if_pos hm, if_pos hm]
  refine L.rk_same (L.Same.of_mem fun x => ?_)
  simp only [List.map_append, List.mem_append, List.map_map, List.mem_map, List.mem_filter, decide_eq_true_eq]
  constructor
  ·rintro (h1 | ⟨i, ⟨h1, h2⟩, h3⟩)
   ·exact .inl h1
   ·exact .inr ⟨i, ⟨(h i h2).1 h1, h2⟩, h3⟩
  ·rintro (h1 | ⟨i, ⟨h1, h2⟩, h3⟩)
   ·exact .inl h1
   ·exact .inr ⟨i, ⟨(h i h2).2 h1, h2⟩, h3⟩
 ·rw [matP_ne hm, matP_ne hm]
theorem fullP_mem {K H S : Int} {seed : Nat} {l l' : List Int} (h : ∀ i, MayI i → (i ∈ l ↔ i ∈ l')) : FullP K H S seed l ↔ FullP K H S seed l' := by
 unfold FullP
 rw [rk_matP_mem h]
end Go.Proofs.YtbbglejdfbkjlaaGreat
namespace Go.Proofs.YtbbglejdfbkjlaaGreat
open Go.RowKit
def addL (S : Nat) (M : List (List Int)) (A : List Int) : List Int := A.foldl (fun s i => sumL (M.getD i.toNat []) s) (List.replicate S 0)
theorem addL_nil (S : Nat) (M : List (List Int)) : addL S M [] = List.replicate S 0 := rfl
theorem addL_snoc (S : Nat) (M : List (List Int)) (A : List Int) (i : Int) : addL S M (A ++ [i]) = sumL (M.getD i.toNat []) (addL S M A) := by
 unfold addL
 rw [List.foldl_append]
 rfl
theorem replicate_byt (S : Nat) : ∀ z ∈ List.replicate S (0 : Int), Byt z := fun z hz => by
 rw [List.eq_of_mem_replicate hz]
 unfold Byt
 omega
theorem sumL_byt {x y : List Int} (hx : ∀ z ∈ x, Byt z) (hy : ∀ z ∈ y, Byt z) : ∀ z ∈ sumL x y, Byt z := lst_byt fun i _ => addZ_byt (getD_byt hx i) (getD_byt hy i)
theorem vec_noughts (S : Nat) : vec (List.replicate S 0) = L.vzero := funext fun j => by
 show fb ((List.replicate S (0 : Int)).getD j 0) = L.zero
 rw [List.getD_eq_getElem?_getD, List.getElem?_replicate]
 split <;> rfl
theorem vec_ones_snoc {N q : Nat} {A : List Int} (hq : q < N) (hn : (q : Int) ∉ A) : vec (onesL N (A ++ [(q : Int)])) = L.vadd (vec (onesL N A)) (L.unit q) := funext fun j => by
 show fb ((onesL N (A ++ [(q : Int)])).getD j 0) = L.add (fb ((onesL N A).getD j 0)) (L.unit q j)
 by_cases hj : j < N
 ·unfold onesL
  rw [lst_getD _ _ _ hj, lst_getD _ _ _ hj]
  unfold L.unit
  by_cases e : j = q
  ·subst e
   rw [if_pos rfl, if_neg hn, if_pos (by simp), fb_zero, L.zero_add, fb_one]
  ·rw [if_neg e, L.add_zero]
   have : ((j : Int) ∈ A ++ [(q : Int)]) = ((j : Int) ∈ A) := by
    simp only [List.mem_append, List.mem_singleton, eq_iff_iff]
    constructor
    ·rintro (h | h)
     ·exact h
     ·omega
    ·exact .inl
   simp only [this]
 ·rw [getD_out (by rw [onesL_length]; omega), getD_out (by rw [onesL_length]; omega), fb_zero, L.zero_add]
  show L.zero = L.unit q j
  unfold L.unit
  rw [if_neg (by omega)]
theorem addL_is {N S : Nat} {M : List (List Int)} (hM : Wide S M) (hl : M.length = N) {A : List Int} (hA : ∀ x ∈ A, 0 ≤ x ∧ x < (N : Int)) (hn : A.Nodup) :
  (addL S M A).length = S ∧ (∀ z ∈ addL S M A, Byt z) ∧ vec (addL S M A) = L.lc (vec (onesL N A)) (M.map vec) := by
 suffices ∀ n, n ≤ A.length → (addL S M (A.take n)).length = S ∧ (∀ z ∈ addL S M (A.take n), Byt z) ∧ vec (addL S M (A.take n)) = L.lc (vec (onesL N (A.take n))) (M.map vec) by
  have := this A.length (Nat.le_refl _)
  rwa [List.take_length] at this
 intro n
 induction n with
 | zero =>
  intro _
  rw [List.take_zero, addL_nil, onesL_nil, vec_noughts, vec_noughts, L.lc_zero]
  exact ⟨by simp, replicate_byt S, rfl⟩
 | succ n ih =>
  intro hle
  obtain ⟨h1, h2, h3⟩ := ih (by omega)
  have hx := hA (A[n]'(by omega)) (List.getElem_mem _)
  obtain ⟨q, hq⟩ : ∃ q : Nat, A[n]'(by omega) = (q : Int) := ⟨(A[n]'(by omega)).toNat, by omega⟩
  have hqN : q < N := by omega
  have htk : A.take (n + 1) = A.take n ++ [(q : Int)] := by
   rw [List.take_add_one, List.getElem?_eq_getElem (by omega), hq]
   rfl
  have hni : (q : Int) ∉ A.take n := by
   intro hm
   rw [List.mem_take_iff_getElem] at hm
   obtain ⟨i, hi, he⟩ := hm
   have := (List.getElem_inj (xs := A) (h₀ := by omega) (h₁ := by omega) hn).1 (he.trans hq.symm)
   omega
  have hmq := hM.at q (by omega)
  rw [htk, addL_snoc, Int.toNat_natCast]
  refine ⟨by rw [sumL_length]; exact hmq.1, sumL_byt hmq.2 h2, ?_⟩
  rw [vec_sum hmq.2 h2 (by rw [hmq.1, h1]), vec_ones_snoc hqN hni, L.lc_add, L.lc_unit, rowAt_vec, ← h3, L.vadd_comm]
def srcL (S : Nat) (D : List Int) (i : Nat) : List Int := (D.drop (i * S)).take S
def rhsL (K H S : Nat) (D : List Int) : List (List Int) := List.replicate H (List.replicate S 0) ++ (List.range K).map (srcL S D)
theorem srcL_length {K S i : Nat} {D : List Int} (hD : D.length = K * S) (hi : i < K) : (srcL S D i).length = S := by
 unfold srcL
 have : (i + 1) * S ≤ K * S := Nat.mul_le_mul_right S (by omega)
 rw [Nat.add_mul, Nat.one_mul] at this
 rw [List.length_take, List.length_drop, hD]
 omega
theorem srcL_byt {S i : Nat} {D : List Int} (hb : ∀ z ∈ D, Byt z) : ∀ z ∈ srcL S D i, Byt z := fun z hz => hb z (List.mem_of_mem_drop (List.mem_of_mem_take hz))
theorem rhsL_wide {K H S : Nat} {D : List Int} (hD : D.length = K * S) (hb : ∀ z ∈ D, Byt z) : Wide S (rhsL K H S D) := fun r hr => by
 unfold rhsL at hr
 rw [List.mem_append] at hr
 rcases hr with hr | hr
 ·rw [List.eq_of_mem_replicate hr]
  exact ⟨by simp, replicate_byt S⟩
 ·obtain ⟨i, hi, rfl⟩ := List.mem_map.1 hr
  exact ⟨srcL_length hD (List.mem_range.1 hi), srcL_byt hb⟩
theorem rhsL_length (K H S : Nat) (D : List Int) : (rhsL K H S D).length = H + K := by simp [rhsL]
theorem fb_back (x : L.Fb) : fb (x.n : Int) = x ∧ Byt (x.n : Int) := by
 have := x.lt
 refine ⟨?_, by unfold Byt; omega⟩
 apply L.Fb.ext
 show ((x.n : Int)).toNat % 256 = x.n
 rw [Int.toNat_natCast]
 omega
theorem vec_back {n : Nat} {v : L.V} (h : L.Supp n v) : ∃ l : List Int, l.length = n ∧ (∀ z ∈ l, Byt z) ∧ vec l = v := by
 refine ⟨lst n fun j => ((v j).n : Int), lst_length _ _, lst_byt fun i _ => (fb_back (v i)).2, funext fun j => ?_⟩
 show fb ((lst n fun j => ((v j).n : Int)).getD j 0) = v j
 by_cases hj : j < n
 ·rw [lst_getD _ _ _ hj, (fb_back (v j)).1]
 ·rw [getD_out (by rw [lst_length]; omega), fb_zero, h j (by omega)]
theorem vecs_back {S : Nat} : ∀ X : List L.V, (∀ x ∈ X, L.Supp S x) → ∃ M : List (List Int), Wide S M ∧ M.map vec = X
 | [], _ => ⟨[], Wide.nil S, rfl⟩
 | x :: X, h => by
  obtain ⟨M, h1, h2⟩ := vecs_back X fun y hy => h y (by simp [hy])
  obtain ⟨l, h3, h4, h5⟩ := vec_back (h x (by simp))
  refine ⟨l :: M, fun r hr => ?_, by rw [List.map_cons, h5, h2]⟩
  rcases List.mem_cons.1 hr with rfl | hr
  ·exact ⟨h3, h4⟩
  ·exact h1 r hr
structure IsMid (K H S : Nat) (seed : Nat) (D : List Int) (M : List (List Int)) : Prop where
 len : M.length = K + H
 wide : Wide S M
 mul : IsMul S (matP K H S seed (firstI K)) M (rhsL K H S D)
theorem firstI_may {n : Nat} (h : n ≤ 1000) : ∀ x ∈ firstI n, MayI x := fun x hx => by
 simp only [firstI, List.mem_map, List.mem_range] at hx
 obtain ⟨a, h1, rfl⟩ := hx
 unfold MayI
 omega
theorem firstM_is {K H S : Nat} (hm : MayP K H S) (seed : Nat) : matP K H S seed (firstI K) = ahead K H ++ (firstI K).map (rowP K H S seed) := by
 rw [matP_in hm]
 congr 2
 refine List.filter_eq_self.2 fun x hx => decide_eq_true (firstI_may (by have := hm.2.1; omega) x hx)
theorem firstM_length {K H S : Nat} (hm : MayP K H S) (seed : Nat) : (matP K H S seed (firstI K)).length = H + K := by
 rw [firstM_is hm, List.length_append, ahead_length, List.length_map, firstI_length]
theorem right_rk {K H S : Nat} {seed : Nat} (hr : RightP K H S seed) : rkL (matP K H S seed (firstI K)) = K + H := by
 unfold RightP at hr
 rw [Int.toNat_natCast] at hr
 have h := hr.2
 have : colsP K H S = K + H := by unfold colsP; rw [if_pos hr.1]
 omega
theorem mid_exists {K H S seed : Nat} {D : List Int} (hr : RightP K H S seed) (hD : D.length = K * S) (hb : ∀ z ∈ D, Byt z) : ∃ M, IsMid K H S seed D M := by
 have hm := hr.1
 have hw := matP_wide hm seed (firstI K)
 obtain ⟨X, h1, h2, h3⟩ := L.square hw.supp (by rw [List.length_map, firstM_length hm, Nat.add_comm]) (right_rk hr) (C := (rhsL K H S D).map vec) (by rw [List.length_map, rhsL_length, Nat.add_comm]) (rhsL_wide hD hb).supp
 obtain ⟨M, m1, m2⟩ := vecs_back (S := S) X h2
 refine ⟨M, ⟨by rw [← h1, ← m2, List.length_map], m1, rhsL_wide hD hb, ?_⟩⟩
 rw [m2, h3]
end Go.Proofs.YtbbglejdfbkjlaaGreat
namespace Go.Proofs.YtbbglejdfbkjlaaGreat
open Go.RowKit
theorem atN_nodup {N : Nat} (h1 : 1 ≤ N) (h2 : N ≤ 64) (seed id : Nat) : (atN N seed id).Nodup := by
 obtain ⟨s, k, _, hb, h⟩ := atN_some h1 h2 seed id
 rw [h]
 refine List.Pairwise.imp (fun h => ?_) (C.some_sorted hb)
 omega
def symP (K H S seed : Nat) (M : List (List Int)) (id : Int) : List Int := if MayI id then addL S M (atN (K + H) seed id.toNat) else []
theorem sym_is {K H S seed : Nat} {M : List (List Int)} (hm : MayP K H S) (hM : Wide S M) (hl : M.length = K + H) {id : Int} (hi : MayI id) :
  (symP K H S seed M id).length = S ∧ (∀ z ∈ symP K H S seed M id, Byt z) ∧ vec (symP K H S seed M id) = L.lc (vec (rowP K H S seed id)) (M.map vec) := by
 have hN : 1 ≤ K + H ∧ K + H ≤ 64 := by unfold MayP at hm; omega
 unfold symP
 rw [if_pos hi, rowP_in hm hi]
 exact addL_is hM hl (atN_rng _ _ _) (atN_nodup hN.1 hN.2 _ _)
theorem rhsL_src {K H S i : Nat} {D : List Int} (hi : i < K) : (rhsL K H S D).getD (H + i) [] = srcL S D i := by
 unfold rhsL
 rw [List.getD_eq_getElem?_getD, List.getElem?_append_right (by simp), List.length_replicate, Nat.add_sub_cancel_left, List.getElem?_map, List.getElem?_range hi]
 rfl
theorem rhsL_head {K H S i : Nat} {D : List Int} (hi : i < H) : (rhsL K H S D).getD i [] = List.replicate S 0 := by
 unfold rhsL
 rw [List.getD_eq_getElem?_getD, List.getElem?_append_left (by simpa using hi), List.getElem?_replicate, if_pos hi]
 rfl
theorem mul_at {A X O : List (List Int)} {m : Nat} (h : IsMul m A X O) {i : Nat} (hi : i < A.length) : L.lc (vec (A.getD i [])) (X.map vec) = vec (O.getD i []) := by
 have h2 := congrArg (fun l => l[i]?) h.2
 simp only [L.mulM, List.getElem?_map] at h2
 have hO : i < O.length := by rw [h.length]; exact hi
 rw [List.getElem?_eq_getElem hi, List.getElem?_eq_getElem hO] at h2
 rw [List.getD_eq_getElem?_getD, List.getD_eq_getElem?_getD, List.getElem?_eq_getElem hi, List.getElem?_eq_getElem hO]
 simpa using h2.symm
theorem firstI_getD {K i : Nat} (hi : i < K) : (firstI K).getD i 0 = (i : Int) := by
 unfold firstI
 rw [List.getD_eq_getElem?_getD, List.getElem?_map, List.getElem?_range hi]
 rfl
theorem firstM_row {K H S i : Nat} (hm : MayP K H S) (seed : Nat) (hi : i < K) : (matP K H S seed (firstI K)).getD (H + i) [] = rowP K H S seed i := by
 rw [firstM_is hm, List.getD_eq_getElem?_getD, List.getElem?_append_right (by rw [ahead_length]; omega), ahead_length, Nat.add_sub_cancel_left, List.getElem?_map, List.getElem?_eq_getElem (by rw [firstI_length]; exact hi)]
 have := firstI_getD hi
 rw [List.getD_eq_getElem?_getD, List.getElem?_eq_getElem (by rw [firstI_length]; exact hi)] at this
 simp at this
 simp [this]
theorem may_of_lt {K i : Nat} (hK : K ≤ 1000) (hi : i < K) : MayI (i : Int) := by
 unfold MayI
 omega
theorem IsMid.first {K H S seed : Nat} {D : List Int} {M : List (List Int)} (hm : MayP K H S) (h : IsMid K H S seed D M) (hD : D.length = K * S) (hb : ∀ z ∈ D, Byt z) {i : Nat} (hi : i < K) : symP K H S seed M i = srcL S D i := by
 have hi2 : MayI (i : Int) := may_of_lt (by unfold MayP at hm; omega) hi
 obtain ⟨h1, h2, h3⟩ := sym_is (seed := seed) hm h.wide h.len hi2
 refine vec_inj (by rw [h1, srcL_length hD hi]) h2 (srcL_byt hb) ?_
 have := mul_at h.mul (i := H + i) (by rw [firstM_length hm]; omega)
 rw [firstM_row hm seed hi, rhsL_src hi] at this
 rw [h3, this]
end Go.Proofs.YtbbglejdfbkjlaaGreat
namespace Go.Proofs.YtbbglejdfbkjlaaGreat
open Go.RowKit
structure Symb where
 i : Int
 d : List Int
def noY : Symb := ⟨0, []⟩
def idsY (Y : List Symb) : List Int := Y.map (·.i)
def AllY (K H S : Int) (Y : List Symb) : Prop := MayP K H S ∧ ∀ q ∈ Y, MayI q.i ∧ (q.d.length : Int) = S
structure IsMidY (K H S seed : Nat) (Y : List Symb) (M : List (List Int)) : Prop where
 len : M.length = K + H
 wide : Wide S M
 ahead : ∀ r ∈ ahead K H, L.lc (vec r) (M.map vec) = L.vzero
 rows : ∀ q ∈ Y, L.lc (vec (rowP K H S seed q.i)) (M.map vec) = vec q.d
def outY (K H S seed : Nat) (M : List (List Int)) : List Int := (List.range K).flatMap fun i : Nat => symP K H S seed M (i : Int)
def DecSays (K H S : Int) (seed : Nat) (Y : List Symb) (e : Int) (out : List Int) : Prop :=
 (¬ AllY K H S Y ∧ e = 1 ∧ out = []) ∨
 (AllY K H S Y ∧ ¬ FullP K H S seed (idsY Y) ∧ e = 9 ∧ out = []) ∨
 (AllY K H S Y ∧ FullP K H S seed (idsY Y) ∧ e = 0 ∧ ∃ M, IsMidY K.toNat H.toNat S.toNat seed Y M ∧ out = outY K.toNat H.toNat S.toNat seed M) ∨
 (AllY K H S Y ∧ FullP K H S seed (idsY Y) ∧ e = 10 ∧ out = [] ∧ ¬ ∃ M, IsMidY K.toNat H.toNat S.toNat seed Y M)
theorem may_nats {K H S : Int} (hm : MayP K H S) : ∃ k h s : Nat, K = k ∧ H = h ∧ S = s := by
 unfold MayP at hm
 exact ⟨K.toNat, H.toNat, S.toNat, by omega, by omega, by omega⟩
theorem fullP_rk {K H S seed : Nat} {ids : List Int} (h : FullP K H S seed ids) : rkL (matP K H S seed ids) = K + H := by
 have : colsP K H S = K + H := by unfold colsP; rw [if_pos h.1]
 have := h.2
 omega
theorem fullP_of_rk {K H S seed : Nat} {ids : List Int} (hm : MayP K H S) (h : rkL (matP K H S seed ids) = K + H) : FullP K H S seed ids := by
 refine ⟨hm, ?_⟩
 have : colsP K H S = K + H := by unfold colsP; rw [if_pos hm]
 omega
theorem matP_mem {K H S seed : Nat} {ids : List Int} (hm : MayP K H S) {r : List Int} : r ∈ matP K H S seed ids ↔ r ∈ ahead K H ∨ ∃ i, i ∈ ids ∧ MayI i ∧ rowP K H S seed i = r := by
 rw [matP_in hm, List.mem_append, List.mem_map]
 constructor
 ·rintro (h | ⟨i, h1, h2⟩)
  ·exact .inl h
  ·exact .inr ⟨i, (List.mem_filter.1 h1).1, of_decide_eq_true (List.mem_filter.1 h1).2, h2⟩
 ·rintro (h | ⟨i, h1, h2, h3⟩)
  ·exact .inl h
  ·exact .inr ⟨i, List.mem_filter.2 ⟨h1, decide_eq_true h2⟩, h3⟩
theorem IsMidY.rows_eq {K H S seed : Nat} {Y : List Symb} {M M' : List (List Int)} (hm : MayP K H S) (h : IsMidY K H S seed Y M) (h' : IsMidY K H S seed Y M') : ∀ a ∈ (matP K H S seed (idsY Y)).map vec, L.lc a (M.map vec) = L.lc a (M'.map vec) := by
 intro a ha
 obtain ⟨r, hr, rfl⟩ := List.mem_map.1 ha
 rcases (matP_mem hm).1 hr with hr | ⟨i, hi, _, rfl⟩
 ·rw [h.ahead r hr, h'.ahead r hr]
 ·obtain ⟨q, hq, rfl⟩ := List.mem_map.1 hi
  rw [h.rows q hq, h'.rows q hq]
theorem IsMidY.unique {K H S seed : Nat} {Y : List Symb} {M M' : List (List Int)} (hf : FullP K H S seed (idsY Y)) (h : IsMidY K H S seed Y M) (h' : IsMidY K H S seed Y M') : M = M' := by
 have hw := matP_wide hf.1 seed (idsY Y)
 refine map_vec_inj h.wide h'.wide (L.mul_unique hw.supp (fullP_rk hf) (by rw [List.length_map, h.len]) (by rw [List.length_map, h'.len]) ?_)
 exact List.map_congr_left (h.rows_eq hf.1 h')
theorem DecSays.unique {K H S : Int} {seed : Nat} {Y : List Symb} {e e' : Int} {out out' : List Int} (h : DecSays K H S seed Y e out) (h' : DecSays K H S seed Y e' out') : e = e' ∧ out = out' := by
 rcases h with ⟨a1, a2, a3⟩ | ⟨a1, a0, a2, a3⟩ | ⟨a1, a0, a2, M, a3, a4⟩ | ⟨a1, a0, a2, a3, a4⟩ <;>
 rcases h' with ⟨b1, b2, b3⟩ | ⟨b1, b0, b2, b3⟩ | ⟨b1, b0, b2, M', b3, b4⟩ | ⟨b1, b0, b2, b3, b4⟩ <;>
 first
  | exact absurd a1 b1
  | exact absurd b1 a1
  | exact absurd a0 b0
  | exact absurd b0 a0
  | (subst_vars; exact ⟨rfl, rfl⟩)
  | skip
 ·obtain ⟨k, h, s, rfl, rfl, rfl⟩ := may_nats a1.1
  rw [Int.toNat_natCast, Int.toNat_natCast, Int.toNat_natCast] at *
  rw [a2, b2, a4, b4, IsMidY.unique a0 a3 b3]
  exact ⟨rfl, rfl⟩
 ·exact absurd ⟨M, a3⟩ b4
 ·exact absurd ⟨M', b3⟩ a4
theorem IsMidY.congr {K H S seed : Nat} {Y Y' : List Symb} {M : List (List Int)} (hy : ∀ q, q ∈ Y ↔ q ∈ Y') (h : IsMidY K H S seed Y M) : IsMidY K H S seed Y' M :=
 ⟨h.len, h.wide, h.ahead, fun q hq => h.rows q ((hy q).2 hq)⟩
theorem idsY_congr {Y Y' : List Symb} (hy : ∀ q, q ∈ Y ↔ q ∈ Y') (i : Int) : i ∈ idsY Y ↔ i ∈ idsY Y' := by
 unfold idsY
 simp only [List.mem_map, hy]
theorem DecSays.congr {K H S : Int} {seed : Nat} {Y Y' : List Symb} {e : Int} {out : List Int} (hy : ∀ q, q ∈ Y ↔ q ∈ Y') (h : DecSays K H S seed Y e out) : DecSays K H S seed Y' e out := by
 have hA : AllY K H S Y ↔ AllY K H S Y' := by unfold AllY; simp only [hy]
 have hF : FullP K H S seed (idsY Y) ↔ FullP K H S seed (idsY Y') := fullP_mem fun i _ => idsY_congr hy i
 rcases h with ⟨a1, a2, a3⟩ | ⟨a1, a0, a2, a3⟩ | ⟨a1, a0, a2, M, a3, a4⟩ | ⟨a1, a0, a2, a3, a4⟩
 ·exact .inl ⟨fun c => a1 (hA.2 c), a2, a3⟩
 ·exact .inr (.inl ⟨hA.1 a1, fun c => a0 (hF.2 c), a2, a3⟩)
 ·exact .inr (.inr (.inl ⟨hA.1 a1, hF.1 a0, a2, M, a3.congr hy, a4⟩))
 ·exact .inr (.inr (.inr ⟨hA.1 a1, hF.1 a0, a2, a3, fun ⟨M, hM⟩ => a4 ⟨M, hM.congr fun q => (hy q).symm⟩⟩))
theorem outY_length {K H S seed : Nat} {M : List (List Int)} (hm : MayP K H S) (hM : Wide S M) (hl : M.length = K + H) : (outY K H S seed M).length = K * S := by
 have hK : K ≤ 1000 := by unfold MayP at hm; omega
 unfold outY
 suffices ∀ k, k ≤ K → ((List.range k).flatMap fun i : Nat => symP K H S seed M (i : Int)).length = k * S from this K (Nat.le_refl _)
 intro k
 induction k with
 | zero => intro _; simp
 | succ k ih =>
  intro hk
  rw [List.range_succ, List.flatMap_append, List.length_append, ih (by omega)]
  have := (sym_is (seed := seed) hm hM hl (may_of_lt hK (i := k) (by omega))).1
  simp [this, Nat.add_mul]
def symY (K H S seed : Nat) (M : List (List Int)) (ids : List Int) : List Symb := ids.map fun i => ⟨i, symP K H S seed M i⟩
theorem symY_ids (K H S seed : Nat) (M : List (List Int)) (ids : List Int) : idsY (symY K H S seed M ids) = ids := by
 unfold idsY symY
 rw [List.map_map]
 exact List.map_id' ids
theorem symY_length (K H S seed : Nat) (M : List (List Int)) (ids : List Int) : (symY K H S seed M ids).length = ids.length := by simp [symY]
theorem symY_all {K H S seed : Nat} {M : List (List Int)} (hm : MayP K H S) (hM : Wide S M) (hl : M.length = K + H) {ids : List Int} (hi : ∀ i ∈ ids, MayI i) : AllY K H S (symY K H S seed M ids) := by
 refine ⟨hm, fun q hq => ?_⟩
 obtain ⟨i, h, rfl⟩ := List.mem_map.1 hq
 exact ⟨hi i h, by rw [(sym_is (seed := seed) hm hM hl (hi i h)).1]⟩
theorem IsMid.aheadRow {K H S seed : Nat} {D : List Int} {M : List (List Int)} (hm : MayP K H S) (h : IsMid K H S seed D M) : ∀ r ∈ Go.Proofs.YtbbglejdfbkjlaaGreat.ahead K H, L.lc (vec r) (M.map vec) = L.vzero := by
 intro r hr
 obtain ⟨i, hi, rfl⟩ := List.getElem_of_mem hr
 rw [ahead_length] at hi
 have h1 := mul_at h.mul (i := i) (by rw [firstM_length hm]; omega)
 rw [rhsL_head hi, vec_noughts] at h1
 have e : (matP K H S seed (firstI K)).getD i [] = (Go.Proofs.YtbbglejdfbkjlaaGreat.ahead K H)[i]'(by rw [ahead_length]; exact hi) := by
  rw [firstM_is hm, List.getD_eq_getElem?_getD, List.getElem?_append_left (by rw [ahead_length]; exact hi), List.getElem?_eq_getElem (by rw [ahead_length]; exact hi)]
  rfl
 rw [e] at h1
 exact h1
theorem IsMid.midY {K H S seed : Nat} {D : List Int} {M : List (List Int)} (hm : MayP K H S) (h : IsMid K H S seed D M) {ids : List Int} (hi : ∀ i ∈ ids, MayI i) : IsMidY K H S seed (symY K H S seed M ids) M := by
 refine ⟨h.len, h.wide, h.aheadRow hm, fun q hq => ?_⟩
 obtain ⟨i, hii, rfl⟩ := List.mem_map.1 hq
 exact (sym_is (seed := seed) hm h.wide h.len (hi i hii)).2.2.symm
theorem srcs_all (S : Nat) (D : List Int) : ∀ k, (List.range k).flatMap (srcL S D) = D.take (k * S)
 | 0 => by simp
 | k + 1 => by
  rw [List.range_succ, List.flatMap_append, srcs_all S D k, Nat.add_mul, Nat.one_mul, List.take_add]
  simp [srcL]
theorem IsMid.outY {K H S seed : Nat} {D : List Int} {M : List (List Int)} (hm : MayP K H S) (h : IsMid K H S seed D M) (hD : D.length = K * S) (hb : ∀ z ∈ D, Byt z) : outY K H S seed M = D := by
 unfold Go.Proofs.YtbbglejdfbkjlaaGreat.outY
 have e : ((List.range K).flatMap fun i : Nat => symP K H S seed M (i : Int)) = (List.range K).flatMap (srcL S D) := by
  rw [List.flatMap_def, List.flatMap_def]
  congr 1
  exact List.map_congr_left fun i hi => h.first hm hD hb (List.mem_range.1 hi)
 rw [e, srcs_all, List.take_of_length_le (by omega)]
theorem dec_back {K H S seed : Nat} {D : List Int} {M : List (List Int)} (hm : MayP K H S) (h : IsMid K H S seed D M) (hD : D.length = K * S) (hb : ∀ z ∈ D, Byt z) {ids : List Int} (hi : ∀ i ∈ ids, MayI i) {e : Int} {out : List Int}
  (hs : DecSays K H S seed (symY K H S seed M ids) e out) : (FullP K H S seed ids → e = 0 ∧ out = D) ∧ (¬ FullP K H S seed ids → e = 9 ∧ out = []) := by
 have hA := symY_all (seed := seed) hm h.wide h.len hi
 have hy := h.midY hm hi
 have hs0 := hs
 unfold DecSays at hs
 rw [symY_ids, Int.toNat_natCast, Int.toNat_natCast, Int.toNat_natCast] at hs
 rcases hs with ⟨a1, _⟩ | ⟨_, a0, a2, a3⟩ | ⟨_, a0, a2, M', a3, a4⟩ | ⟨_, _, _, _, a4⟩
 ·exact absurd hA a1
 ·exact ⟨fun c => absurd c a0, fun _ => ⟨a2, a3⟩⟩
 ·refine ⟨fun _ => ⟨a2, ?_⟩, fun c => absurd a0 c⟩
  have : M' = M := IsMidY.unique (by rw [symY_ids]; exact a0) a3 hy
  rw [a4, this, h.outY hm hD hb]
 ·exact absurd ⟨_, hy⟩ a4
theorem fullP_mono {K H S seed : Nat} {l l' : List Int} (h : ∀ i, MayI i → i ∈ l → i ∈ l') (hf : FullP K H S seed l) : FullP K H S seed l' := by
 have hm := hf.1
 refine fullP_of_rk hm ?_
 have h1 := fullP_rk hf
 have hw := matP_wide hm seed l
 have hw' := matP_wide hm seed l'
 have h2 : rkL (matP K H S seed l) ≤ rkL (matP K H S seed l') := L.rk_mono hw.supp hw'.supp fun x hx => by
  obtain ⟨r, hr, rfl⟩ := List.mem_map.1 hx
  refine L.Sp.mem (List.mem_map.2 ⟨r, ?_, rfl⟩)
  rcases (matP_mem hm).1 hr with hr | ⟨i, h1, h2, h3⟩
  ·exact (matP_mem hm).2 (.inl hr)
  ·exact (matP_mem hm).2 (.inr ⟨i, h i h2 h1, h2, h3⟩)
 have h3 : rkL (matP K H S seed l') ≤ K + H := L.rk_le_cols hw'.supp
 omega
theorem few_not {K H S seed : Nat} (hm : MayP K H S) {l : List Int} (hl : l.length < K) : ¬ FullP K H S seed l := by
 intro hf
 have h1 := fullP_rk hf
 have h2 : rkL (matP K H S seed l) ≤ ((matP K H S seed l).map vec).length := L.rk_le_len (matP_wide hm seed l).supp
 have h3 : (matP K H S seed l).length ≤ H + l.length := by
  rw [matP_in hm, List.length_append, ahead_length, List.length_map]
  have := List.length_filter_le (fun i => decide (MayI i)) l
  omega
 rw [List.length_map] at h2
 omega
theorem symY_at {K H S seed : Nat} {M : List (List Int)} {ids : List Int} {i : Nat} (h : i < ids.length) : (symY K H S seed M ids).getD i noY = ⟨ids.getD i 0, symP K H S seed M (ids.getD i 0)⟩ := by
 unfold symY
 rw [List.getD_eq_getElem?_getD, List.getElem?_map, List.getElem?_eq_getElem h, List.getD_eq_getElem?_getD, List.getElem?_eq_getElem h]
 rfl
theorem take_snocZ {l : List Int} {i : Nat} (h : i < l.length) : l.take (i + 1) = l.take i ++ [l.getD i 0] := by
 rw [List.take_add_one, List.getElem?_eq_getElem h, List.getD_eq_getElem?_getD, List.getElem?_eq_getElem h]
 rfl
theorem may_i64 {x : Int} (h : MayI x) : I64 x := by
 unfold MayI at h
 exact ⟨by omega, by omega⟩
theorem getD_memZ {l : List Int} {i : Nat} (h : i < l.length) : l.getD i 0 ∈ l := by
 rw [List.getD_eq_getElem?_getD, List.getElem?_eq_getElem h]
 exact List.getElem_mem h
end Go.Proofs.YtbbglejdfbkjlaaGreat
