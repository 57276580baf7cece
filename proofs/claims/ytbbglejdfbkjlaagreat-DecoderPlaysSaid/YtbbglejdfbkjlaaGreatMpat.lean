/-
  Texts laid behind one another: Ud Dm.
-/
import Derived.Test.YtbbglejdfbkjlaaGreatMpas
import Derived.Test.YtbbglejdfbkjlaaGreatMpar
import Derived.Test.YtbbglejdfbkjlaaGreatMpan
import Derived.Lib.SliceRun
namespace Go.Proofs.YtbbglejdfbkjlaaGreat
open Go.RowKit
theorem wp_scope_round {P : Program} {a : Act} {w : World} {Q : Exit → Act → World → Prop} {c R : Code} (l : Nat) (J : Act → World → Prop) (μ : Act → World → Nat) (hf : findLabel c l = some (.seq .skip R))
  (pass : ∀ a w, J a w → R.wp P (Exit.jump l (fun a' w' => J a' w' ∧ μ a' w' < μ a w) Q) a w)
  (first : (∀ a w, J a w → R.wp P (Exit.jump l J Q) a w) → c.wp P (Exit.jump l J Q) a w) : (Code.scope c).wp P Q a w := by
 refine wp_scope_jumps l J μ hf (first fun a w h => wp_mono (pass a w h) fun e a' w' hq => ?_) fun a w h => wp_seq (wp_skip (pass a w h))
 cases e
 case goto l' => exact ⟨hq.1, hq.2.1⟩
 all_goals exact hq
theorem openL_close {dn : List Bool} {c : List Int} {k : Nat} (h : openL dn c = []) : openL (dn.set k true) c = [] := by
 rw [List.eq_nil_iff_forall_not_mem]
 intro x hx
 obtain ⟨h1, h2⟩ := openL_mem.1 hx
 have h3 : dn.getD x.toNat false = false := by
  by_cases e : k = x.toNat
  ·by_cases hl : k < dn.length
   ·rw [← e, getD_set_selfT hl] at h2; cases h2
   ·rw [List.getD_eq_getElem?_getD, List.getElem?_eq_none (by omega)]; rfl
  ·rw [getD_set_neT e] at h2; exact h2
 have : x ∈ openL dn c := openL_mem.2 ⟨h1, h3⟩
 rw [h] at this
 cases this
theorem openL_last {dn : List Bool} {c : List Int} {x : Int} (hl : x.toNat < dn.length) (h : openL dn c = [x]) : openL (dn.set x.toNat true) c = [] := by
 rw [List.eq_nil_iff_forall_not_mem]
 intro y hy
 obtain ⟨h1, h2⟩ := openL_mem.1 hy
 by_cases e : x.toNat = y.toNat
 ·rw [← e, getD_set_selfT hl] at h2; cases h2
 ·rw [getD_set_neT e] at h2
  have : y ∈ openL dn c := openL_mem.2 ⟨h1, h2⟩
  rw [h] at this
  obtain rfl := List.mem_singleton.1 this
  exact e rfl
namespace PN
structure Used (R : List (List Int)) (s : St) : Prop where
 none : ∀ i, s.us.getD i false = true → openL s.dn (R.getD i []) = []
 us : s.us = marks R.length s.steps
 rng : ∀ p ∈ s.steps, 0 ≤ p.1 ∧ p.1 < (R.length : Int)
theorem run_used {n : Nat} {R : List (List Int)} (hR : ∀ c ∈ R, MayRow n c) : ∀ t, t ≤ n → Used R (run n R t)
 | 0, _ => ⟨(fun i h => by
     have : (List.replicate R.length false).getD i false = true := h
     rw [rep_false] at this
     cases this), rfl, fun p hp => by cases hp⟩
 | t + 1, ht => by
  have h := run_used hR t (by omega)
  have hv := run_inv hR t (by omega)
  show Used R (next n R (run n R t))
  unfold next
  cases hf : firstTo (run n R t).dn (run n R t).us R R.length with
  | some i =>
   obtain ⟨h1, h2, _⟩ := (firstTo_spec _ _ R R.length).1 i hf
   obtain ⟨_, h3, h4, h5, h6⟩ := one_col hR h1 h2
   refine ⟨fun j hj => ?_, ?_, fun p hp => ?_⟩
   ·show openL ((run n R t).dn.set (colOf (run n R t).dn R i).toNat true) (R.getD j []) = []
    by_cases e : i = j
    ·rw [← e]
     exact openL_last (by rw [hv.dn]; omega) h3
    ·refine openL_close (h.none j ?_)
     have : ((run n R t).us.set i true).getD j false = true := hj
     rwa [getD_set_neT e] at this
   ·show (run n R t).us.set i true = marks R.length ((run n R t).steps ++ [((i : Int), colOf (run n R t).dn R i)])
    rw [marks_snoc, Int.toNat_natCast, ← h.us]
   ·have hp : p ∈ (run n R t).steps ++ [((i : Int), colOf (run n R t).dn R i)] := hp
    rcases List.mem_append.1 hp with hp | hp
    ·exact h.rng p hp
    ·obtain rfl := List.mem_singleton.1 hp
     exact ⟨by simp, by simp; omega⟩
  | none =>
   cases hb : bestTo (run n R t).dn (cntTo (run n R t).dn (run n R t).us R R.length) n with
   | some b => exact ⟨fun j hj => openL_close (h.none j hj), h.us, h.rng⟩
   | none => exact h
theorem unkN_none {dn : List Bool} {n : Nat} (h : ∀ c, c < n → dn.getD c false = true) : unkN dn n = 0 := by
 unfold unkN
 rw [List.filter_eq_nil_iff.2 fun i hi => by rw [h i (List.mem_range.1 hi)]; simp]
 rfl
end PN
structure InAt (w0 W : World) (N : Nat) (gk gc go : Nat) (f : Nat → Nat) (dn : List Bool) (sv dv : Value) (st : List (Int × Int)) (de : List Int) : Prop where
 k : Blt W gk (dn.map fun b => !b)
 c : Blz W gc (PN.cntL N f)
 o : W.heap[go]? = some (.cells #[sv, dv, .slice none 0 0] 149 (0, 0))
 s : StepsO w0.heap.size W sv st
 d : W.ownsRow w0.heap.size 3 1 dv de.length (de.map (Value.int .i64))
 sep : dv.ownBlock ≠ some gc
 klow : w0.heap.size ≤ gk
 clow : w0.heap.size ≤ gc
 olow : w0.heap.size ≤ go
 gr : Gr w0 W
theorem notT_set (dn : List Bool) (x : Nat) : (dn.map fun b => !b).set x false = (dn.set x true).map fun b => !b := by
 rw [List.map_set]
 rfl
section
variable {w0 W W' : World} {N gk gc go : Nat} {f : Nat → Nat} {dn : List Bool} {sv dv : Value} {st : List (Int × Int)} {de : List Int}
theorem InAt.grown (h : InAt w0 W N gk gc go f dn sv dv st de) (hg : Gr W W') : InAt w0 W' N gk gc go f dn sv dv st de :=
 ⟨h.k.grown hg, h.c.grown hg, keptRow hg h.o, h.s.of_gr hg, h.d.of_gr hg, h.sep, h.klow, h.clow, h.olow, h.gr.trans hg⟩
theorem InAt.neK (h : InAt w0 W N gk gc go f dn sv dv st de) : gk ≠ go ∧ gk ≠ gc ∧ gc ≠ go := by
 have h1 := h.k
 have h2 := h.c
 unfold Blt at h1
 unfold Blz at h2
 refine ⟨fun e => ?_, fun e => ?_, fun e => ?_⟩
 ·rw [e, h.o] at h1
  simp at h1
 ·rw [e, h2] at h1
  simp at h1
 ·rw [e, h.o] at h2
  simp at h2
theorem InAt.putK (h : InAt w0 W N gk gc go f dn sv dv st de) (x : Nat) : InAt w0 (W.setCell ⟨gk, x, none⟩ (.bool false)) N gk gc go f (dn.set x true) sv dv st de := by
 have hk := h.k
 have hc := h.c
 unfold Blt at hk
 unfold Blz at hc
 have hn := h.neK
 refine ⟨by rw [← notT_set]; exact h.k.set x false, ?_, ?_, own_set h.s hk (by decide), own_set h.d hk (by decide), h.sep, h.klow, h.clow, h.olow, Gr.setCell h.gr h.klow _⟩
 ·unfold Blz
  rw [heap_setCell_other _ _ _ _ (fun e => hn.2.1 (by have e : gc = gk := e; exact e.symm))]
  exact hc
 ·rw [heap_setCell_other _ _ _ _ (fun e => hn.1 (by have e : go = gk := e; exact e.symm))]
  exact h.o
theorem InAt.cellO (h : InAt w0 W N gk gc go f dn sv dv st de) : W.cell? ⟨go, 0, none⟩ = some sv ∧ W.cell? ⟨go, 1, none⟩ = some dv ∧ W.cell? ⟨go, 2, none⟩ = some (.slice none 0 0) := by
 have hc := fun k => cell_of_row W go k _ _ _ h.o
 exact ⟨by rw [hc]; rfl, by rw [hc]; rfl, by rw [hc]; rfl⟩
theorem InAt.afterS (h : InAt w0 W N gk gc go f dn sv dv st de) (hg : W.grownBy W' sv.ownBlock) : W'.cell? ⟨go, 0, none⟩ = some sv ∧ W'.frozen? ⟨go, 0, none⟩ = false := by
 have ho := keep_block h.o hg (own_type h.s h.o (by decide))
 exact ⟨by rw [cell_of_row _ _ _ _ _ _ ho]; rfl, frozen_of_row _ _ _ _ _ ho⟩
theorem InAt.afterD (h : InAt w0 W N gk gc go f dn sv dv st de) (hg : W.grownBy W' dv.ownBlock) : W'.cell? ⟨go, 1, none⟩ = some dv ∧ W'.frozen? ⟨go, 1, none⟩ = false := by
 have ho := keep_block h.o hg (own_type h.d h.o (by decide))
 exact ⟨by rw [cell_of_row _ _ _ _ _ _ ho]; rfl, frozen_of_row _ _ _ _ _ ho⟩
theorem InAt.step (h : InAt w0 W N gk gc go f dn sv dv st de) {sv' : Value} {p : Int × Int} (hs : StepsO w0.heap.size W' sv' (st ++ [p])) (hg : W.grownBy W' sv.ownBlock) : InAt w0 (W'.setCell ⟨go, 0, none⟩ sv') N gk gc go f dn sv' dv (st ++ [p]) de := by
 have hk := h.k
 have hc := h.c
 unfold Blt at hk
 unfold Blz at hc
 have hn := h.neK
 have hko := keep_block hk hg (own_type h.s hk (by decide))
 have hco := keep_block hc hg (own_type h.s hc (by decide))
 have hoo := keep_block h.o hg (own_type h.s h.o (by decide))
 have hg2 : Gr w0 W' := Gr.append h.gr hg fun g hv => ownsRow_base h.s g hv
 refine ⟨?_, ?_, heap_setCell_same _ _ _ _ _ _ hoo, own_set hs hoo (by decide), own_set (own_other h.d h.s (by decide) hg) hoo (by decide), h.sep, h.klow, h.clow, h.olow, Gr.setCell hg2 h.olow _⟩
 ·unfold Blt
  rw [heap_setCell_other _ _ _ _ hn.1]
  exact hko
 ·unfold Blz
  rw [heap_setCell_other _ _ _ _ hn.2.2]
  exact hco
theorem InAt.off (h : InAt w0 W N gk gc go f dn sv dv st de) {dv' : Value} {x : Int} {g' : Nat} (hs : W'.ownsRow w0.heap.size 3 1 dv' (de ++ [x]).length ((de ++ [x]).map (Value.int .i64))) (hg : W.grownBy W' dv.ownBlock) (hv : dv'.ownBlock = some g') (hl : dv.ownBlock = some g' ∨ g' = W.heap.size) : InAt w0 (W'.setCell ⟨go, 1, none⟩ dv') N gk gc go f dn sv dv' st (de ++ [x]) := by
 have hk := h.k
 have hc := h.c
 unfold Blt at hk
 unfold Blz at hc
 have hn := h.neK
 have hko := keep_block hk hg (own_type h.d hk (by decide))
 have hco := keep_block hc hg h.sep
 have hoo := keep_block h.o hg (own_type h.d h.o (by decide))
 have hg2 : Gr w0 W' := Gr.append h.gr hg fun g hv => ownsRow_base h.d g hv
 refine ⟨?_, ?_, heap_setCell_same _ _ _ _ _ _ hoo, own_set (own_other h.s h.d (by decide) hg) hoo (by decide), own_set hs hoo (by decide), fun e => ?_, h.klow, h.clow, h.olow, Gr.setCell hg2 h.olow _⟩
 ·unfold Blt
  rw [heap_setCell_other _ _ _ _ hn.1]
  exact hko
 ·unfold Blz
  rw [heap_setCell_other _ _ _ _ hn.2.2]
  exact hco
 ·rw [hv] at e
  cases e
  rcases hl with hl | hl
  ·exact h.sep hl
  ·have := (Array.getElem?_eq_some_iff.1 hc).1
   omega
end
theorem own_lt9 {W : World} {base : Nat} {v : Value} {L : List (Int × Int)} (h : StepsO base W v L) {g : Nat} (hg : v.ownBlock = some g) : g < W.heap.size := by
 obtain ⟨_, ⟨rfl, _⟩ | ⟨g', c, cur, rfl, hb, hgg, _⟩⟩ := h
 ·cases hg
 ·simp [Value.ownBlock] at hg
  subst hg
  exact (Array.getElem?_eq_some_iff.1 hgg).1
theorem cell_set9 {W : World} {g g' : Nat} {x y v : Value} (h : W.heap[g]? = some (.cells #[x, y] 157 (0, 0))) (hn : g ≠ g') : (W.setCell ⟨g', 0, none⟩ v).cell? ⟨g, 1, none⟩ = some y := by
 have h2 : (W.setCell ⟨g', 0, none⟩ v).heap[g]? = some (.cells #[x, y] 157 (0, 0)) := by
  rw [heap_setCell_other _ _ _ _ hn]
  exact h
 rw [cell_of_row _ _ _ _ _ _ h2]
 rfl
open Classical in
noncomputable def openW (W : World) (gk N : Nat) : Nat := ((List.range N).filter fun i => decide (W.cell? ⟨gk, i, none⟩ = some (.bool true))).length
theorem openW_eq {W : World} {gk N : Nat} {dn : List Bool} (h : Blt W gk (dn.map fun b => !b)) (hl : dn.length = N) : openW W gk N = PN.unkN dn N := by
 unfold openW PN.unkN
 congr 1
 refine List.filter_congr fun i hi => ?_
 have hi := List.mem_range.1 hi
 rw [h.cell i (by rw [List.length_map, hl]; exact hi), getD_not (by rw [hl]; exact hi)]
 cases dn.getD i false <;> simp
noncomputable def openA (N : Nat) (a : Act) (w : World) : Nat := match a.tmps.getD 7 undef with
 | .slice (some ad) _ _ => openW w ad.block N
 | _ => 0
def PJ (w0 : World) (N g4 go : Nat) (R : List (List Int)) (vl : Value) (a : Act) (w : World) : Prop :=
 ∃ (t gk gc : Nat) (sv dv : Value) (u2 u3 u9 u10 u11 u12 u13 u14 u15 u16 u17 u18 u19 u20 u21 u22 u23 u24 u25 u26 u27 u28 u29 u30 u31 u32 u33 u34 u35 u36 u37 u38 u39 u40 u41 u42 u43 u44 u45 u46 u47 u48 u49 u50 u51 u52 u53 u54 u55 u56 u57 u58 u59 u60 : Value),
  t ≤ N ∧ InAt w0 w N gk gc go (PN.cntTo [] [] R R.length) (PN.run N R t).dn sv dv (PN.run N R t).steps (PN.run N R t).dead ∧
  a = { tmps := #[.int .i64 (N : Int), vl, u2, u3, .pointer (some ⟨g4, 0, none⟩), .bool false, .pointer (some ⟨go, 0, none⟩), .slice (some ⟨gk, 0, none⟩) N N, .slice (some ⟨gc, 0, none⟩) N N, u9, u10, u11, u12, u13, u14, u15, u16, u17, u18, u19, u20, u21, u22, u23, u24, u25, u26, u27, u28, u29, u30, u31, u32, u33, u34, u35, u36, u37, u38, u39, u40, u41, u42, u43, u44, u45, u46, u47, u48, u49, u50, u51, u52, u53, u54, u55, u56, u57, u58, u59, u60], defers := [] }
def PlanNew (n : Int) (R : List (List Int)) (w : World) (e : Ending) (w' : World) : Prop := ∃ sv dv lv st de le ok, e = .returned (.tuple #[.agg #[sv, dv, lv], .bool ok]) ∧ StepsO w.heap.size w' sv st ∧ w'.ownsRow w.heap.size 3 1 dv de.length (de.map (Value.int .i64)) ∧ w'.ownsRow w.heap.size 3 1 lv le.length (le.map (Value.int .i64)) ∧ (∀ g, dv.ownBlock = some g → lv.ownBlock ≠ some g) ∧ Gr w w' ∧ PN.Says n R st de le ok
theorem PlanNew.no {n : Int} {R : List (List Int)} {w w' : World} (h : ¬ PN.May n R) (hg : Gr w w') : PlanNew n R w (.returned (.tuple #[.agg #[.slice none 0 0, .slice none 0 0, .slice none 0 0], .bool false])) w' :=
 ⟨_, _, _, [], [], [], _, rfl, StepsO.nil _ _, World.ownsRow_nil _ _ _ _, World.ownsRow_nil _ _ _ _, (fun g h => by simp [Value.ownBlock] at h), hg, .inl ⟨h, rfl, rfl, rfl, rfl⟩⟩
theorem own_low {w : World} {base n g : Nat} {e : TypeId} {size : Nat} {v : Value} {us : List Value} (h : w.ownsRow base e size v n us) (hg : v.ownBlock = some g) : g < w.heap.size := by
 obtain ⟨_, ⟨rfl, _⟩ | ⟨g', c, cur, rfl, _, h1, _⟩⟩ := h
 ·simp [Value.ownBlock] at hg
 ·obtain rfl : g' = g := by simpa [Value.ownBlock] using hg
  exact (Array.getElem?_eq_some_iff.1 h1).1
theorem own_less {w : World} {base base' n : Nat} {e : TypeId} {size : Nat} {v : Value} {us : List Value} (h : w.ownsRow base e size v n us) (hb : base' ≤ base) : w.ownsRow base' e size v n us := by
 obtain ⟨h0, h1 | ⟨g', c, cur, h1, h2, h3⟩⟩ := h
 ·exact ⟨h0, .inl h1⟩
 ·exact ⟨h0, .inr ⟨g', c, cur, h1, Nat.le_trans hb h2, h3⟩⟩
open Classical in
set_option maxRecDepth 100000 in
set_option maxHeartbeats 6400000 in
theorem plan_new (n : Int) (v : Value) (R : List (List Int)) (w : World) (hn : I64 n) (h : Zss w v R) (hl : R.length ≤ 1000) (hc : ∀ c ∈ R, c.length ≤ 1000) :
  Calls Tryz.prog 101 #[.int .i64 n, v] w (PlanNew n R w) := by
 have HZ := Lib.hid h
 have HL := Lib.hid hl
 have HC := Lib.hid hc
 obtain ⟨o, c, rfl⟩ := h.form
 clear h hl hc
 by_cases hm : PN.May n R
 ·have hd := decide_eq_true hm
  obtain ⟨N, rfl⟩ : ∃ N : Nat, n = N := ⟨n.toNat, by have := hm.1; omega⟩
  have hN : N ≤ 64 := by have := hm.2.1; omega
  have HM := Lib.hid hm
  clear hm
  have hb : (w.alloc (.cells #[.slice none 0 0, .slice none 0 0, .slice none 0 0] 149)).heap[w.heap.size]? = some (.cells #[.slice none 0 0, .slice none 0 0, .slice none 0 0] 149 (0, 0)) := heap_alloc_new _ _
  have G0 : Hid (Gr w (w.alloc (.cells #[.slice none 0 0, .slice none 0 0, .slice none 0 0] 149))) := Lib.hid (Gr.alloc (Gr.refl _) _ _)
  obtain ⟨W, hW⟩ : ∃ W, w.alloc (.cells #[.slice none 0 0, .slice none 0 0, .slice none 0 0] 149) = W := ⟨_, rfl⟩
  rw [hW] at hb G0
  obtain ⟨g4, hg4⟩ : ∃ g, w.heap.size = g := ⟨_, rfl⟩
  rw [hg4] at hb
  have HG4 := Lib.hid hg4
  have HB := Lib.hid hb
  have HW := Lib.hid hW
  clear hW hb hg4
  obtain ⟨m, hmm⟩ : ∃ m, R.length = m := ⟨_, rfl⟩
  have HMM := Lib.hid hmm
  rw [hmm] at HZ ⊢
  clear hmm
  go_enter Tryz.func101, Tryz.ntmps101
  go_wp2_with fail
  rw [HW.out, HG4.out]
  have HSZ : Hid (W.heap.size = g4 + 1) := Lib.hid (by rw [← HW.out, ← HG4.out]; simp)
  clear HW
  refine wp_scope_round 0 (PJ W N g4 (g4 + 1) R (.slice o m c)) (openA N) rfl ?_ ?_
  rotate_left
  ·intro hp
   have HP := Lib.hid hp
   clear hp
   go_wp2_with fail
   refine (inMay_any N _ R _ (HZ.out.grown G0.out) HL.out HC.out).mono ?_
   rw [hd]
   rintro e w1 ⟨rfl, rfl⟩
   clear hd
   obtain ⟨w2, hw2⟩ : ∃ x, x = w1.alloc (.cells #[.slice none 0 0, .slice none 0 0, .slice none 0 0] 149) := ⟨_, rfl⟩
   have G2 : Hid (Gr w1 w2) := Lib.hid (by rw [hw2]; exact Gr.alloc (Gr.refl _) _ _)
   have O2 : Hid (w2.heap[g4 + 1]? = some (.cells #[.slice none 0 0, .slice none 0 0, .slice none 0 0] 149 (0, 0))) := Lib.hid (by rw [hw2, ← HSZ.out]; exact heap_alloc_new _ _)
   have Z2 : Hid (w2.heap.size = g4 + 1 + 1) := Lib.hid (by rw [hw2, ← HSZ.out]; simp)
   have W2 := Lib.hid hw2
   clear hw2
   go_upto_region 4 with fail
   rw [← W2.out, HSZ.out]
   clear W2
   have c3 : (w2.alloc (.cells #[.bool true] 4)).cell? ⟨w2.heap.size, 0, none⟩ = some (.bool true) := by rw [cell_of_row _ _ 0 _ _ _ (heap_alloc_new _ _)]; rfl
   have G3 : Hid (Gr w2 (w2.alloc (.cells #[.bool true] 4))) := Lib.hid (Gr.alloc (Gr.refl _) _ _)
   have C3 := Lib.hid c3
   clear c3
   go_wp2_with fail
   refine (repeat_any N _ _ hN C3.out).mono ?_
   rintro e w4 ⟨gk, rfl, hk4, hlow, hg4⟩
   have K4 := Lib.hid hk4
   have G4 := Lib.hid (Gr.trans G2.out (Gr.trans G3.out hg4))
   have L4 : Hid (w1.heap.size ≤ gk) := Lib.hid (by have := G2.out.size; have := G3.out.size; omega)
   have O4 := Lib.hid (keptRow (Gr.trans G3.out hg4) O2.out)
   clear hk4 hlow hg4 C3 G3 O2 Z2 G2
   go_wp2_with fail
   refine (counts_any N _ R _ (HZ.out.grown (Gr.trans G0.out G4.out)) HL.out HC.out HM.out.2.2 hN).mono ?_
   rintro e w5 ⟨gc, rfl, hc5, hlow, hg5⟩
   have IN : Hid (InAt w1 w5 N gk gc (g4 + 1) (PN.cntTo [] [] R R.length) (PN.run N R 0).dn (.slice none 0 0) (.slice none 0 0) (PN.run N R 0).steps (PN.run N R 0).dead) := Lib.hid (by
     refine ⟨?_, hc5, keptRow hg5 O4.out, World.ownsRow_nil _ _ _ _, World.ownsRow_nil _ _ _ _, (fun e => by cases e), L4.out, Nat.le_trans G4.out.size hlow, by rw [HSZ.out]; exact Nat.le_refl _, Gr.trans G4.out hg5⟩
     show Blt w5 gk ((List.replicate N false).map fun b => !b)
     rw [List.map_replicate]
     exact K4.out.grown hg5)
   clear hc5 hlow hg5 K4 O4
   go_wp2_with fail
   go_step3
   rename_i hk
   refine hk _ _ (HP.out _ _ ?_)
   exact ⟨0, gk, gc, _, _, _, _, _, _, _, _, _, _, _, _, _, _, _, _, _, _, _, _, _, _, _, _, _, _, _, _, _, _, _, _, _, _, _, _, _, _, _, _, _, _, _, _, _, _, _, _, _, _, _, _, _, _, _, _, Nat.zero_le _, IN.out, rfl⟩
  ·rintro a' w' ⟨t, gk, gc, sv, dv, u2, u3, u9, u10, u11, u12, u13, u14, u15, u16, u17, u18, u19, u20, u21, u22, u23, u24, u25, u26, u27, u28, u29, u30, u31, u32, u33, u34, u35, u36, u37, u38, u39, u40, u41, u42, u43, u44, u45, u46, u47, u48, u49, u50, u51, u52, u53, u54, u55, u56, u57, u58, u59, u60, ht, hin, rfl⟩
   have hiv := PN.run_inv HM.out.2.2 t ht
   have hus := PN.run_used HM.out.2.2 t ht
   have HNX : Hid (PN.run N R (t + 1) = PN.next N R (PN.run N R t)) := Lib.hid rfl
   have HNT : Hid (t = N → PN.run N R t = PN.run N R N) := Lib.hid fun e => by rw [e]
   have hmu : openA N { tmps := #[.int .i64 (N : Int), .slice o m c, u2, u3, .pointer (some ⟨g4, 0, none⟩), .bool false, .pointer (some ⟨g4 + 1, 0, none⟩), .slice (some ⟨gk, 0, none⟩) N N, .slice (some ⟨gc, 0, none⟩) N N, u9, u10, u11, u12, u13, u14, u15, u16, u17, u18, u19, u20, u21, u22, u23, u24, u25, u26, u27, u28, u29, u30, u31, u32, u33, u34, u35, u36, u37, u38, u39, u40, u41, u42, u43, u44, u45, u46, u47, u48, u49, u50, u51, u52, u53, u54, u55, u56, u57, u58, u59, u60], defers := [] } w' = PN.unkN (PN.run N R t).dn N := openW_eq hin.k hiv.dn
   rw [hmu]
   clear hmu hd
   obtain ⟨s, hs⟩ : ∃ s, PN.run N R t = s := ⟨_, rfl⟩
   rw [hs] at hin hiv hus HNX HNT ⊢
   clear hs
   obtain ⟨dn, us, st, de⟩ := s
   have IN := Lib.hid hin
   have HIV := Lib.hid hiv
   have HUS := Lib.hid hus
   have HDL : Hid (dn.length = N) := Lib.hid hiv.dn
   obtain ⟨os, cs, rfl⟩ := hin.s.form
   obtain ⟨od, cd, rfl⟩ := ownsRow_form'' hin.d
   have hcnt : st.length + de.length = t := hiv.cnt
   obtain ⟨ls, hls⟩ : ∃ l, st.length = l := ⟨_, rfl⟩
   obtain ⟨ld, hld⟩ : ∃ l, de.length = l := ⟨_, rfl⟩
   have HLS := Lib.hid hls
   have HLD := Lib.hid hld
   rw [hls, hld] at hcnt IN
   have hlsb : ls ≤ 64 := by omega
   have hldb : ld ≤ 64 := by omega
   clear hin hiv hus hls hld
   have HCT := Lib.hid hcnt
   clear hcnt
   have hbl : Bl w' (.slice (some ⟨gk, 0, none⟩) N N) (dn.map fun b => !b) := by
    have h := IN.out.k.bl (by rw [List.length_map, HDL.out]; omega)
    rwa [List.length_map, HDL.out] at h
   have HBL := Lib.hid hbl
   clear hbl
   go_upto_region 6 with fail
   go_wp2_with fail
   refine (single_any N _ _ R dn _ (HZ.out.grown (Gr.trans G0.out IN.out.gr)) HBL.out HL.out HC.out HM.out.2.2 HDL.out hN).mono ?_
   rintro e w2 ⟨hg2, ⟨j, x, rfl, hf, hx, hj⟩ | ⟨rfl, hf⟩⟩
   ·rw [← PN.firstTo_nil HUS.out.none] at hf
    obtain ⟨hj1, hj2, _⟩ := (PN.firstTo_spec dn us R R.length).1 j hf
    obtain ⟨_, _, hx0, hx1, hx2⟩ := PN.one_col HM.out.2.2 hj1 hj2
    rw [hx] at hx1 hx2
    rw [Int.toNat_natCast] at hx2
    have hxN : x < N := by omega
    have hnx : PN.run N R (t + 1) = ⟨dn.set x true, us.set j true, st ++ [((j : Int), (x : Int))], de⟩ := by
     rw [HNX.out, PN.next_some (i := j) hf]
     show PN.St.mk (dn.set (PN.colOf dn R j).toNat true) (us.set j true) (st ++ [((j : Int), PN.colOf dn R j)]) de = _
     rw [hx, Int.toNat_natCast]
    have hlt := PN.unkN_set HDL.out hxN hx2
    have htN : t + 1 ≤ N := by have h1 : PN.unkN dn N + t = N := HIV.out.unk; omega
    have HNX2 := Lib.hid hnx
    have HLT : Hid (PN.unkN (dn.set x true) N < PN.unkN dn N) := Lib.hid (by omega)
    clear hnx hx0 hx1 hx2 hj2 hj1 hx hf hlt HNX HNT
    have I2 := Lib.hid (IN.out.grown hg2)
    clear hg2 IN HBL
    obtain ⟨w3, hw3⟩ : ∃ W, W = w2.alloc (.cells #[.int .i64 (j : Int), .int .i64 (x : Int)] 157) := ⟨_, rfl⟩
    obtain ⟨g9, hg9⟩ : ∃ g, w2.heap.size = g := ⟨_, rfl⟩
    have I3 : Hid (InAt W w3 N gk gc (g4 + 1) (PN.cntTo [] [] R R.length) dn (.slice os ls cs) (.slice od ld cd) st de) := Lib.hid (by rw [hw3]; exact I2.out.grown (Gr.alloc (Gr.refl _) _ _))
    have B9 : Hid (w3.heap[g9]? = some (.cells #[.int .i64 (j : Int), .int .i64 (x : Int)] 157 (0, 0))) := Lib.hid (by rw [hw3, ← hg9]; exact heap_alloc_new _ _)
    have N9 : Hid ((Value.slice os ls cs).ownBlock ≠ some g9) := Lib.hid (fun e => by have := own_lt9 I2.out.s e; omega)
    have N4 : Hid (g9 ≠ g4 + 1) := Lib.hid (by rw [← hg9]; have := (Array.getElem?_eq_some_iff.1 I2.out.o).1; omega)
    have s0 : w3.cell? ⟨g9, 0, none⟩ = some (.int .i64 (j : Int)) := by rw [cell_of_row _ _ _ _ _ _ B9.out]; rfl
    have s1 : w3.cell? ⟨g9, 1, none⟩ = some (.int .i64 (x : Int)) := by rw [cell_of_row _ _ _ _ _ _ B9.out]; rfl
    have p5 := I3.out.cellO.1
    have HW3 := Lib.hid hw3
    have HG9 := Lib.hid hg9
    clear hw3 hg9
    go_upto_region 8 with fail
    rw [← HW3.out, HG9.out]
    clear HW3
    have P3 := Lib.hid (I3.out.grown (Gr.alloc (Gr.refl w3) #[.int .i64 (j : Int), .int .i64 (x : Int)] 157))
    have b9 := Lib.hid (keptRow (Gr.alloc (Gr.refl w3) #[.int .i64 (j : Int), .int .i64 (x : Int)] 157) B9.out)
    go_wp2_with (at_builtin; refine wpList_append_step rfl _ _ rfl W.heap.size (.slice os ls cs) st rfl P3.out.s w3.heap.size ((j : Int), (x : Int)) rfl (by rw [cell_of_row _ _ 0 _ _ _ (heap_alloc_new _ _)]; rfl) (by rw [cell_of_row _ _ 1 _ _ _ (heap_alloc_new _ _)]; rfl) (by rw [HLS.out]; omega) P3.out.gr.size ?_; intro v5 w5 h1 h2; obtain ⟨o5, c5, e5⟩ := StepsO.form h1; rw [List.length_append, HLS.out] at e5; have e5 : v5 = .slice o5 (ls + 1) c5 := e5; subst e5; have p7 := (P3.out.afterS h2).1; have p8 := (P3.out.afterS h2).2; have HP3 := Lib.hid (P3.out.step h1 h2); have q9 := cell_set9 (keep_block b9.out h2 N9.out) N4.out (v := .slice o5 (ls + 1) c5); have c9 := HP3.out.k.cell x (by rw [List.length_map, HDL.out]; exact hxN); have f9 := HP3.out.k.frozen x; have HP4 := Lib.hid (HP3.out.putK x); clear h1 h2)
    go_step3
    refine ⟨rfl, ⟨t + 1, gk, gc, _, _, _, _, _, _, _, _, _, _, _, _, _, _, _, _, _, _, _, _, _, _, _, _, _, _, _, _, _, _, _, _, _, _, _, _, _, _, _, _, _, _, _, _, _, _, _, _, _, _, _, _, _, _, _, _, htN, by rw [HNX2.out]; exact HP4.out, rfl⟩, ?_⟩
    exact Nat.lt_of_le_of_lt (Nat.le_of_eq (openW_eq HP4.out.k (by rw [List.length_set]; exact HDL.out))) HLT.out
   ·have hf2 : PN.firstTo dn us R R.length = none := by rw [PN.firstTo_nil HUS.out.none]; exact hf
    have HF := Lib.hid hf2
    have I2 := Lib.hid (IN.out.grown hg2)
    have B2 := Lib.hid (HBL.out.grown hg2)
    clear hf hf2 hg2 IN HBL
    obtain ⟨w3, hw3⟩ : ∃ W, W = w2.alloc (.cells #[.int .i64 0, .int .i64 0] 157) := ⟨_, rfl⟩
    have G3 : Hid (Gr w2 w3) := Lib.hid (by rw [hw3]; exact Gr.alloc (Gr.refl _) _ _)
    have I3 := Lib.hid (I2.out.grown G3.out)
    have B3 := Lib.hid (B2.out.grown G3.out)
    have HW3 := Lib.hid hw3
    clear hw3
    go_upto_region 10 with fail
    rw [← HW3.out]
    clear HW3 G3 I2 B2
    have hfb : ∀ c, PN.cntTo [] [] R R.length c ≤ 2000 := fun c => by
     have := PN.cntTo_le [] [] R c R.length
     have := HL.out
     omega
    have hzc : Zs w3 (.slice (some ⟨gc, 0, none⟩) N N) (PN.cntL N (PN.cntTo [] [] R R.length)) := by
     have h := Blz.zs_pre (r := []) (w := w3) (g := gc) (l := PN.cntL N (PN.cntTo [] [] R R.length)) (by rw [List.append_nil]; exact I3.out.c) (fun x hx => by
       unfold PN.cntL at hx
       obtain ⟨i, _, rfl⟩ := List.mem_map.1 hx
       have := hfb i
       exact ⟨by omega, by omega⟩) (by rw [List.append_nil, PN.cntL_length]; omega)
     rw [List.append_nil, PN.cntL_length] at h
     exact h
    have HZC := Lib.hid hzc
    have HFB := Lib.hid hfb
    clear hzc hfb
    go_wp2_with fail
    refine (busiest_any N _ _ _ dn w3 HZC.out B3.out HDL.out hN HFB.out).mono ?_
    rintro e w4 ⟨rfl, q, hw4⟩
    have hbc : PN.bestTo dn (PN.cntTo [] [] R R.length) N = PN.bestTo dn (PN.cntTo dn us R R.length) N := PN.bestTo_congr (fun c hc => (PN.cntTo_nil HUS.out.none hc _).symm) N
    rw [hbc]
    have hgw : Gr w3 w4 := by rw [hw4]; exact gr_drN w3 q
    have I4 := Lib.hid (I3.out.grown hgw)
    clear hw4 hgw hbc I3 B3 HZC HFB
    cases hb : PN.bestTo dn (PN.cntTo dn us R R.length) N with
    | some b =>
     obtain ⟨hbN, hbd, _⟩ := (PN.bestTo_spec dn _ N).1 b hb
     have hnx : PN.run N R (t + 1) = ⟨dn.set b true, us, st, de ++ [(b : Int)]⟩ := by
      rw [HNX.out]
      exact PN.next_none HF.out hb
     have hlt := PN.unkN_set HDL.out hbN hbd
     have htN : t + 1 ≤ N := by have h1 : PN.unkN dn N + t = N := HIV.out.unk; omega
     have HNX2 := Lib.hid hnx
     have HLT : Hid (PN.unkN (dn.set b true) N < PN.unkN dn N) := Lib.hid (by omega)
     rw [show PN.rowZ (some b) = (b : Int) from rfl]
     have p5 := I4.out.cellO.2.1
     clear hnx hlt hbd hb HNX HNT HF
     go_upto_region 12 with fail
     have P3 := Lib.hid (I4.out.grown (Gr.alloc (Gr.refl w4) #[.int .i64 (b : Int)] 3))
     have D3 : Hid ((w4.alloc (.cells #[.int .i64 (b : Int)] 3)).ownsRow W.heap.size 3 1 (.slice od ld cd) ld (de.map (Value.int .i64))) := Lib.hid (by
       have h := P3.out.d
       rw [HLD.out] at h
       exact h)
     go_wp2_with (at_builtin; refine wpList_append_int rfl _ _ rfl W.heap.size (.slice od ld cd) ld de rfl D3.out w4.heap.size (b : Int) rfl (by rw [cell_of_row _ _ 0 _ _ _ (heap_alloc_new _ _)]; rfl) (by omega) P3.out.gr.size ?_; intro g5 c5 w5 h1 h2 h3; have p7 := (P3.out.afterD h2).1; have p8 := (P3.out.afterD h2).2; have HP3 := Lib.hid (P3.out.off (by rw [List.length_append, HLD.out]; exact h1) h2 rfl h3); have c9 := HP3.out.k.cell b (by rw [List.length_map, HDL.out]; exact hbN); have f9 := HP3.out.k.frozen b; have HP4 := Lib.hid (HP3.out.putK b); clear h1 h2 h3)
     go_step3
     refine ⟨rfl, ⟨t + 1, gk, gc, _, _, _, _, _, _, _, _, _, _, _, _, _, _, _, _, _, _, _, _, _, _, _, _, _, _, _, _, _, _, _, _, _, _, _, _, _, _, _, _, _, _, _, _, _, _, _, _, _, _, _, _, _, _, _, _, htN, by rw [HNX2.out]; exact HP4.out, rfl⟩, ?_⟩
     exact Nat.lt_of_le_of_lt (Nat.le_of_eq (openW_eq HP4.out.k (by rw [List.length_set]; exact HDL.out))) HLT.out
    | none =>
     have hz := PN.unkN_none ((PN.bestTo_spec dn _ N).2 hb)
     have htN : t = N := by have h1 : PN.unkN dn N + t = N := HIV.out.unk; omega
     have HRN := Lib.hid (HNT.out htN)
     rw [show PN.rowZ none = -1 from rfl]
     have p5 := I4.out.cellO.1
     clear hz htN hb HNX HNT HF
     go_upto_region 14 with fail
     go_wp2_with fail
     refine (left_any m _ st _ (StepsO.stp I4.out.s) (by rw [← HMM.out]; exact HL.out) (by rw [HLS.out]; omega) (by rw [← HMM.out]; exact HUS.out.rng)).mono ?_
     rintro e w5 ⟨lv, rfl, how, hg5⟩
     have hle : PN.marks m st = us := by rw [← HMM.out]; exact HUS.out.us.symm
     rw [hle] at how
     obtain ⟨ol, cl, rfl⟩ := ownsRow_form'' how
     obtain ⟨ll, hll⟩ : ∃ l, (PN.leftTo us m).length = l := ⟨_, rfl⟩
     have H4S : Hid (W.heap.size ≤ w4.heap.size ∧ ∀ g, (Value.slice od ld cd).ownBlock = some g → g < w4.heap.size) := Lib.hid ⟨I4.out.gr.size, fun g hg => own_low I4.out.d hg⟩
     have I5 := Lib.hid (I4.out.grown hg5)
     rw [hll] at how ⊢
     have HLL := Lib.hid hll
     have OW := Lib.hid how
     clear how hll hle hg5 p5
     have O5 := Lib.hid I5.out.o
     have a2 := I5.out.cellO.2.2
     have f2 : w5.frozen? ⟨g4 + 1, 2, none⟩ = false := frozen_of_row _ _ _ _ _ O5.out
     go_upto_region 15 with fail
     obtain ⟨w6, hw6⟩ : ∃ W, W = w5.setCell ⟨g4 + 1, 2, none⟩ (.slice ol ll cl) := ⟨_, rfl⟩
     rw [← hw6]
     have O6 : Hid (w6.heap[g4 + 1]? = some (.cells #[.slice os ls cs, .slice od ld cd, .slice ol ll cl] 149 (0, 0))) := Lib.hid (by rw [hw6]; exact heap_setCell_same _ _ _ _ _ _ O5.out)
     have S6 : Hid (StepsO W.heap.size w6 (.slice os ls cs) st) := Lib.hid (by rw [hw6]; exact own_set I5.out.s O5.out (by decide))
     have D6 : Hid (w6.ownsRow W.heap.size 3 1 (.slice od ld cd) de.length (de.map (Value.int .i64))) := Lib.hid (by rw [hw6]; exact own_set I5.out.d O5.out (by decide))
     have L6 : Hid (w6.ownsRow w4.heap.size 3 1 (.slice ol ll cl) ll ((PN.leftTo us m).map (Value.int .i64))) := Lib.hid (by rw [hw6]; exact own_set OW.out O5.out (by decide))
     have G6 : Hid (Gr W w6) := Lib.hid (by rw [hw6]; exact Gr.setCell I5.out.gr (by rw [HSZ.out]; exact Nat.le_refl _) _)
     have B6 : Hid (w6.heap[g4]? = some (.cells #[.slice none 0 0, .slice none 0 0, .slice none 0 0] 149 (0, 0))) := Lib.hid (keptRow G6.out HB.out)
     clear hw6 O5 OW I5 I4 a2 f2
     have e0 : w6.cell? ⟨g4 + 1, 0, none⟩ = some (.slice os ls cs) := by rw [cell_of_row _ _ _ _ _ _ O6.out]; rfl
     have e1 : w6.cell? ⟨g4 + 1, 1, none⟩ = some (.slice od ld cd) := by rw [cell_of_row _ _ _ _ _ _ O6.out]; rfl
     have e2 : w6.cell? ⟨g4 + 1, 2, none⟩ = some (.slice ol ll cl) := by rw [cell_of_row _ _ _ _ _ _ O6.out]; rfl
     have b1 : Hid ((w6.setCell ⟨g4, 0, none⟩ (.slice os ls cs)).heap[g4]? = some (.cells #[.slice os ls cs, .slice none 0 0, .slice none 0 0] 149 (0, 0))) := Lib.hid (heap_setCell_same _ _ _ _ _ _ B6.out)
     have b2 : Hid (((w6.setCell ⟨g4, 0, none⟩ (.slice os ls cs)).setCell ⟨g4, 1, none⟩ (.slice od ld cd)).heap[g4]? = some (.cells #[.slice os ls cs, .slice od ld cd, .slice none 0 0] 149 (0, 0))) := Lib.hid (heap_setCell_same _ _ _ _ _ _ b1.out)
     have b3 : Hid ((((w6.setCell ⟨g4, 0, none⟩ (.slice os ls cs)).setCell ⟨g4, 1, none⟩ (.slice od ld cd)).setCell ⟨g4, 2, none⟩ (.slice ol ll cl)).heap[g4]? = some (.cells #[.slice os ls cs, .slice od ld cd, .slice ol ll cl] 149 (0, 0))) := Lib.hid (heap_setCell_same _ _ _ _ _ _ b2.out)
     have a0 : w6.cell? ⟨g4, 0, none⟩ = some (.slice none 0 0) := by rw [cell_of_row _ _ _ _ _ _ B6.out]; rfl
     have f0 : w6.frozen? ⟨g4, 0, none⟩ = false := frozen_of_row _ _ _ _ _ B6.out
     have a1 : (w6.setCell ⟨g4, 0, none⟩ (.slice os ls cs)).cell? ⟨g4, 1, none⟩ = some (.slice none 0 0) := by rw [cell_of_row _ _ _ _ _ _ b1.out]; rfl
     have f1 : (w6.setCell ⟨g4, 0, none⟩ (.slice os ls cs)).frozen? ⟨g4, 1, none⟩ = false := frozen_of_row _ _ _ _ _ b1.out
     have a2 : ((w6.setCell ⟨g4, 0, none⟩ (.slice os ls cs)).setCell ⟨g4, 1, none⟩ (.slice od ld cd)).cell? ⟨g4, 2, none⟩ = some (.slice none 0 0) := by rw [cell_of_row _ _ _ _ _ _ b2.out]; rfl
     have f2 : ((w6.setCell ⟨g4, 0, none⟩ (.slice os ls cs)).setCell ⟨g4, 1, none⟩ (.slice od ld cd)).frozen? ⟨g4, 2, none⟩ = false := frozen_of_row _ _ _ _ _ b2.out
     have hsay : PN.Says N R st de (PN.leftTo us m) true := .inr ⟨HM.out, rfl, by rw [Int.toNat_natCast]; show st = (PN.run N R N).steps; rw [← HRN.out], by rw [Int.toNat_natCast]; show de = (PN.run N R N).dead; rw [← HRN.out], by rw [Int.toNat_natCast]; show _ = PN.leftTo (PN.run N R N).us R.length; rw [← HRN.out, HMM.out]⟩
     have HSY := Lib.hid hsay
     have h4 : w.heap.size ≤ g4 := by rw [HG4.out]; exact Nat.le_refl _
     have HGF := Lib.hid (Gr.setCell (Gr.setCell (Gr.setCell (Gr.trans G0.out G6.out) (a := ⟨g4, 0, none⟩) h4 (.slice os ls cs)) (a := ⟨g4, 1, none⟩) h4 (.slice od ld cd)) (a := ⟨g4, 2, none⟩) h4 (.slice ol ll cl))
     have hsf := own_set (x := .slice ol ll cl) (o := 2) (own_set (x := .slice od ld cd) (o := 1) (own_set (x := .slice os ls cs) (o := 0) S6.out B6.out (by decide)) b1.out (by decide)) b2.out (by decide)
     have hdf := own_set (x := .slice ol ll cl) (o := 2) (own_set (x := .slice od ld cd) (o := 1) (own_set (x := .slice os ls cs) (o := 0) D6.out B6.out (by decide)) b1.out (by decide)) b2.out (by decide)
     have hlf := own_set (x := .slice ol ll cl) (o := 2) (own_set (x := .slice od ld cd) (o := 1) (own_set (x := .slice os ls cs) (o := 0) L6.out B6.out (by decide)) b1.out (by decide)) b2.out (by decide)
     have hWw : w.heap.size ≤ W.heap.size := G0.out.size
     have hW4 : w.heap.size ≤ w4.heap.size := Nat.le_trans hWw H4S.out.1
     have HSF : Hid (StepsO w.heap.size _ (.slice os ls cs) st) := Lib.hid (own_less hsf hWw)
     have HDF : Hid (World.ownsRow _ w.heap.size 3 1 (.slice od ld cd) de.length (de.map (Value.int .i64))) := Lib.hid (own_less hdf hWw)
     have HLF : Hid (World.ownsRow _ w.heap.size 3 1 (.slice ol ll cl) (PN.leftTo us m).length ((PN.leftTo us m).map (Value.int .i64))) := Lib.hid (by rw [HLL.out]; exact own_less hlf hW4)
     have HSEP : Hid (∀ g, (Value.slice od ld cd).ownBlock = some g → (Value.slice ol ll cl).ownBlock ≠ some g) := Lib.hid fun g h1 h2 => by
      have h3 := ownsRow_base hlf g h2
      have h4 := H4S.out.2 g h1
      omega
     clear hsay hsf hdf hlf h4 S6 D6 L6 G6 B6 b1 b2
     go_wp2_with fail
     simp only [Exit.jump]
     refine bodyPost_ret (v := .tuple #[.agg #[.slice os ls cs, .slice od ld cd, .slice ol ll cl], .bool true]) (by rw [results_cell_tmp rfl]; exact plan_res (plan_load b3.out)) rfl ?_
     exact ⟨_, _, _, st, de, PN.leftTo us m, true, rfl, HSF.out, HDF.out, HLF.out, HSEP.out, HGF.out, HSY.out⟩
 ·have hd := decide_eq_false hm
  have HM := Lib.hid hm
  clear hm
  have hb : (w.alloc (.cells #[.slice none 0 0, .slice none 0 0, .slice none 0 0] 149)).heap[w.heap.size]? = some (.cells #[.slice none 0 0, .slice none 0 0, .slice none 0 0] 149 (0, 0)) := heap_alloc_new _ _
  have G0 : Hid (Gr w (w.alloc (.cells #[.slice none 0 0, .slice none 0 0, .slice none 0 0] 149))) := Lib.hid (Gr.alloc (Gr.refl _) _ _)
  obtain ⟨W, hW⟩ : ∃ W, w.alloc (.cells #[.slice none 0 0, .slice none 0 0, .slice none 0 0] 149) = W := ⟨_, rfl⟩
  rw [hW] at hb G0
  have HB := Lib.hid hb
  have HW := Lib.hid hW
  clear hW hb
  go_enter Tryz.func101, Tryz.ntmps101
  go_wp2_with fail
  refine wp_scope_jumps 0 (fun _ _ => False) (fun _ _ => 0) rfl ?_ (fun _ _ h => h.elim)
  rw [HW.out]
  go_wp2_with fail
  refine (inMay_any n _ R _ (HZ.out.grown G0.out) HL.out HC.out).mono ?_
  rw [hd]
  rintro e w1 ⟨rfl, rfl⟩
  have hb := HB.out
  obtain ⟨g4, hg4⟩ : ∃ g, w.heap.size = g := ⟨_, rfl⟩
  rw [hg4] at hb
  have HG4 := Lib.hid hg4
  clear hg4
  have c0 : w1.cell? ⟨g4, 0, none⟩ = some (.slice none 0 0) := by rw [cell_of_row _ _ _ _ _ _ hb]; rfl
  have c1 : w1.cell? ⟨g4, 1, none⟩ = some (.slice none 0 0) := by rw [cell_of_row _ _ _ _ _ _ hb]; rfl
  have c2 : w1.cell? ⟨g4, 2, none⟩ = some (.slice none 0 0) := by rw [cell_of_row _ _ _ _ _ _ hb]; rfl
  have f0 : w1.frozen? ⟨g4, 0, none⟩ = false := frozen_of_row _ _ _ _ _ hb
  have f1 : w1.frozen? ⟨g4, 1, none⟩ = false := frozen_of_row _ _ _ _ _ hb
  have f2 : w1.frozen? ⟨g4, 2, none⟩ = false := frozen_of_row _ _ _ _ _ hb
  have b1 : Hid ((((w1.setCell ⟨g4, 0, none⟩ (.slice none 0 0)).setCell ⟨g4, 1, none⟩ (.slice none 0 0)).setCell ⟨g4, 2, none⟩ (.slice none 0 0)).heap[g4]? = some (.cells #[.slice none 0 0, .slice none 0 0, .slice none 0 0] 149 (0, 0))) := Lib.hid (heap_setCell_same _ _ _ _ _ _ (heap_setCell_same _ _ _ _ _ _ (heap_setCell_same _ _ _ _ _ _ hb)))
  rw [HG4.out]
  clear hb
  go_wp2_with fail
  simp only [Exit.jump]
  refine bodyPost_ret (v := .tuple #[.agg #[.slice none 0 0, .slice none 0 0, .slice none 0 0], .bool false]) (by rw [results_cell_tmp rfl]; exact plan_res (plan_load b1.out)) rfl ?_
  exact PlanNew.no HM.out (Gr.setCell (Gr.setCell (Gr.setCell G0.out (by rw [HG4.out]; exact Nat.le_refl _) _) (by rw [HG4.out]; exact Nat.le_refl _) _) (by rw [HG4.out]; exact Nat.le_refl _) _)
end Go.Proofs.YtbbglejdfbkjlaaGreat
namespace Go.Proofs.YtbbglejdfbkjlaaGreat
open Go.RowKit
def firstK (kn : List Bool) (t : List Int) (i : Int) : Prop := (i = -1 ∧ ∀ j, j < t.length → kn.getD (t.getD j 0).toNat false = false) ∨ ∃ k : Nat, i = (k : Int) ∧ k < t.length ∧ kn.getD (t.getD k 0).toNat false = true ∧ ∀ j, j < k → kn.getD (t.getD j 0).toNat false = false
set_option maxRecDepth 100000 in
set_option maxHeartbeats 1600000 in
theorem didx_any (v vk : Value) (t : List Int) (kn : List Bool) (B : Nat) (w : World) (h : Zs w v t) (hl : t.length ≤ 1000) (hB : w.cell? ⟨B, 0, none⟩ = some vk) (hk : Bl w vk kn) (hr : ∀ c ∈ t, 0 ≤ c ∧ c < (kn.length : Int)) :
  Calls Tryz.prog 133 #[v, .func (.func 104) #[] #[.pointer (some ⟨B, 0, none⟩)]] w fun e w' => ∃ i, e = .returned (.int .i64 i) ∧ w' = w ∧ firstK kn t i := by
 obtain ⟨o, c, rfl⟩ := h.form
 obtain ⟨ok, ck, rfl⟩ := hk.form3
 obtain ⟨n, hn⟩ : ∃ n, t.length = n := ⟨_, rfl⟩
 obtain ⟨m, hm⟩ : ∃ m, kn.length = m := ⟨_, rfl⟩
 rw [hm] at hk hB hr
 rw [hn] at h hl ⊢
 have HZ := Lib.hid h
 have HN := Lib.hid hn
 have HK := Lib.hid hk
 have HR := Lib.hid hr
 clear h hn hk hr hm
 go_enter Tryz.func133, Tryz.ntmps133
 go_wp2
 go_loopw [8] (fun i wr => wr = w ∧ ∃ k : Nat, k ≤ n ∧ i = .int .i64 k ∧ ∀ j, j < k → kn.getD (t.getD j 0).toNat false = false) (fun i _ => n - (intOf i).toNat)
 case atStart => exact ⟨rfl, 0, by omega, rfl, by omega⟩
 case round =>
  obtain ⟨rfl, k, hk, rfl, hs⟩ := hrel
  have HS := Lib.hid hs
  clear hs
  by_cases hlt : k < n
  ·obtain ⟨a, rfl⟩ := HZ.out.addr (by omega)
   have q := HZ.out.cellAt hlt
   obtain ⟨h1, h2⟩ := HR.out _ (DC.mem_getD (l := t) (i := k) (by rw [HN.out]; exact hlt) 0)
   obtain ⟨x, hx⟩ : ∃ x : Nat, t.getD k 0 = (x : Int) := ⟨_, (Int.toNat_of_nonneg h1).symm⟩
   rw [hx] at q h2
   have hxm : x < m := by omega
   have HX := Lib.hid hx
   obtain ⟨ak, rfl⟩ := HK.out.addr (by omega)
   have q2 := HK.out.cellAt hxm
   obtain ⟨b, hb⟩ : ∃ b, kn.getD x false = b := ⟨_, rfl⟩
   rw [hb] at q2
   have HB := Lib.hid hb
   clear h1 hx hb
   cases b with
   | true =>
    go_wp2_with (first | go_in)
    go_ret
    exact ⟨_, rfl, rfl, .inr ⟨k, rfl, by rw [HN.out]; exact hlt, by rw [HX.out, Int.toNat_natCast]; exact HB.out, HS.out⟩⟩
   | false =>
    go_wp2_with (first | go_in)
    refine ⟨⟨trivial, k + 1, by omega, by go_num, fun j hj => ?_⟩, by simp [intOf]; omega⟩
    by_cases e : j = k
    ·rw [e, HX.out, Int.toNat_natCast]
     exact HB.out
    ·exact HS.out j (by omega)
  ·obtain rfl : k = n := by omega
   go_wp2
   go_ret
   exact ⟨_, rfl, rfl, .inl ⟨rfl, by rw [HN.out]; exact HS.out⟩⟩
theorem getD_set_selfI {L : List Int} {i : Nat} (h : i < L.length) {x : Int} : (L.set i x).getD i 0 = x := by
 rw [List.getD_eq_getElem?_getD, List.getElem?_set_self h]
 rfl
theorem getD_set_neI {L : List Int} {i j : Nat} (h : i ≠ j) {x : Int} : (L.set i x).getD j 0 = L.getD j 0 := by
 rw [List.getD_eq_getElem?_getD, List.getElem?_set_ne h, ← List.getD_eq_getElem?_getD]
theorem take_set_snoc {L : List Int} {i : Nat} (h : i < L.length) (x : Int) : (L.set i x).take (i + 1) = L.take i ++ [x] := by
 rw [take_snoc (L.set i x) i 0 (by rw [List.length_set]; exact h), getD_set_selfI h, List.take_set, List.set_eq_of_length_le (by rw [List.length_take]; omega)]
theorem openL_noneD {kn : List Bool} {t : List Int} (h : ∀ j, j < t.length → kn.getD (t.getD j 0).toNat false = false) : openL kn t = t := by
 unfold openL
 rw [List.filter_eq_self]
 intro x hx
 obtain ⟨j, hj, rfl⟩ := DC.getD_of_mem hx 0
 rw [h j hj]
 rfl
theorem zeroInt : ∀ w, (zeroValue 3).run Tryz.prog w = .ok (.int .i64 0) w := Tryz.zeroValue3
set_option maxRecDepth 100000 in
set_option maxHeartbeats 3200000 in
theorem ddel_any (base : Nat) (v vk : Value) (t : List Int) (kn : List Bool) (B : Nat) (w : World) (ho : w.ownsRow base 3 1 v t.length (t.map (Value.int .i64))) (hl : t.length ≤ 1000) (hB : w.cell? ⟨B, 0, none⟩ = some vk) (hk : Bl w vk kn) (hr : ∀ c ∈ t, 0 ≤ c ∧ c < (kn.length : Int))
  (hBn : v.ownBlock ≠ some B) (hkn : ∀ a m c, vk = .slice (some a) m c → v.ownBlock ≠ some a.block) :
  Calls Tryz.prog 103 #[v, .func (.func 104) #[] #[.pointer (some ⟨B, 0, none⟩)]] w fun e w' => ∃ u, e = .returned u ∧ Zs w' u (openL kn t) ∧ Kp (fun k => v.ownBlock = some k) w w' := by
 have h64 : ∀ x ∈ t, I64 x := fun x hx => by
  obtain ⟨_, c', _, h2, h3, _⟩ := hk
  have := hr x hx
  exact ⟨by omega, by omega⟩
 have hz := owns_zs ho rfl h64
 have HO := Lib.hid ho
 have HZ := Lib.hid hz
 have HK := Lib.hid hk
 have HR := Lib.hid hr
 obtain ⟨o, c, rfl⟩ := hz.form
 obtain ⟨ok, ck, rfl⟩ := hk.form3
 obtain ⟨n, hn⟩ : ∃ n, t.length = n := ⟨_, rfl⟩
 obtain ⟨m, hm⟩ : ∃ m, kn.length = m := ⟨_, rfl⟩
 rw [hm] at HK hB HR hkn
 rw [hn] at HO HZ hl hBn hkn ⊢
 have HN := Lib.hid hn
 have HMM := Lib.hid hm
 have H64 := Lib.hid h64
 have HKN := Lib.hid hkn
 have HBN := Lib.hid hBn
 clear ho hz hk hr hn hm h64 hkn hBn
 go_enter Tryz.func103, Tryz.ntmps103
 go_wp2_with fail
 refine (didx_any _ _ t kn B _ HZ.out (by rw [HN.out]; exact hl) hB HK.out (by rw [HMM.out]; exact HR.out)).mono ?_
 rintro e w1 ⟨i0, rfl, rfl, hf⟩
 rcases hf with ⟨rfl, hf⟩ | ⟨k0, rfl, hk0, hf1, hf2⟩
 ·have HF := Lib.hid hf
  clear hf
  go_wp2_with fail
  go_ret
  refine ⟨_, rfl, ?_, Kp.refl _ _⟩
  rw [openL_noneD HF.out]
  exact HZ.out
 ·rw [HN.out] at hk0
  obtain ⟨g, c', he, _, hi⟩ := Iz.of_own HO.out HN.out (by omega)
  obtain ⟨rfl, rfl⟩ : o = some ⟨g, 0, none⟩ ∧ c = c' := by simpa using he
  have hgB : ¬ B = g := fun e => HBN.out (by rw [e]; rfl)
  have HI0 : Hid (Iz w1 g c n t) := Lib.hid hi
  have hfirst : openL kn (t.take (k0 + 1)) = t.take k0 := by
   rw [take_snoc t k0 0 (by rw [HN.out]; exact hk0), openL_snoc, if_pos hf1, List.append_nil]
   refine openL_noneD fun j hj => ?_
   rw [List.length_take] at hj
   have e : (t.take k0).getD j 0 = t.getD j 0 := by rw [List.getD_eq_getElem?_getD, List.getElem?_take_of_lt (by omega), ← List.getD_eq_getElem?_getD]
   rw [e]
   exact hf2 j (by omega)
  have HF := Lib.hid hfirst
  clear he hi hf1 hf2 hfirst
  go_wp2_with fail
  go_loopw [5, 6] (fun iv jv W => ∃ (i j : Nat) (L : List Int), i + 1 ≤ j ∧ j ≤ n ∧ iv = .int .i64 i ∧ jv = .int .i64 j ∧ Iz W g c n L ∧ (∀ x ∈ L, I64 x) ∧ L.take i = openL kn (t.take j) ∧ (∀ x, j ≤ x → x < n → L.getD x 0 = t.getD x 0) ∧ Kp (fun k => k = g) w1 W) (fun _ jv _ => n - (intOf jv).toNat)
  case atStart => exact ⟨k0, k0 + 1, t, by omega, by omega, rfl, by go_num, HI0.out, H64.out, HF.out.symm, fun x _ _ => rfl, Kp.refl _ _⟩
  case round =>
   clear HI0 HF
   obtain ⟨wo, hwo⟩ : ∃ x, x = wr := ⟨_, rfl⟩
   subst hwo
   obtain ⟨i, j, L, hij, hjn, rfl, rfl, hi, h64, hp, hs, hkp⟩ := hrel
   have HI := Lib.hid hi
   have H6 := Lib.hid h64
   have HP := Lib.hid hp
   have HS := Lib.hid hs
   have HKP := Lib.hid hkp
   clear hi h64 hp hs hkp
   have hin : i < n := by omega
   by_cases hlt : j < n
   ·obtain ⟨h1, h2⟩ := HR.out _ (DC.mem_getD (l := t) (i := j) (by rw [HN.out]; exact hlt) 0)
    obtain ⟨x, hx⟩ : ∃ x : Nat, t.getD j 0 = (x : Int) := ⟨_, (Int.toNat_of_nonneg h1).symm⟩
    rw [hx] at h2
    have hxm : x < m := by omega
    have q := HI.out.cell j hlt
    rw [HS.out j (Nat.le_refl _) hlt, hx] at q
    obtain ⟨ak, rfl⟩ := HK.out.addr (by omega)
    have q2 := HK.out.cellAt hxm
    obtain ⟨b, hb⟩ : ∃ b, kn.getD x false = b := ⟨_, rfl⟩
    rw [hb] at q2
    have q3 := HKP.out.cell q2 (by rw [add_blk]; exact fun e => HKN.out ak m ck rfl (by rw [e]; rfl))
    have q4 := HKP.out.cell hB hgB
    have hst : openL kn (t.take (j + 1)) = openL kn (t.take j) ++ if b = true then [] else [(x : Int)] := by
     rw [take_snoc t j 0 (by rw [HN.out]; exact hlt), openL_snoc, hx, Int.toNat_natCast, hb]
    have HST := Lib.hid hst
    have HX64 : Hid (I64 (x : Int)) := Lib.hid (by rw [← hx]; exact H64.out _ (DC.mem_getD (l := t) (i := j) (by rw [HN.out]; exact hlt) 0))
    clear h1 hx hb q2 hst
    cases b with
    | true =>
     go_wp2_with (first | go_in)
     refine ⟨⟨i, j + 1, L, by omega, by omega, rfl, by go_num, HI.out, H6.out, ?_, fun y h3 h4 => HS.out y (by omega) h4, HKP.out⟩, by simp [intOf]; omega⟩
     rw [HST.out, if_pos rfl, List.append_nil]
     exact HP.out
    | false =>
     have e1 := HI.out.cell i hin
     have e2 := HI.out.frozen i
     go_wp2_with (first | go_in)
     refine ⟨⟨i + 1, j + 1, L.set i (x : Int), by omega, by omega, by go_num, by go_num, HI.out.set i hin _, fun y hy => ?_, ?_, fun y h3 h4 => ?_, HKP.out.trans (Kp.set _ g i _) fun k e => .inl e⟩, by simp [intOf]; omega⟩
     ·rcases List.mem_or_eq_of_mem_set hy with hy | rfl
      ·exact H6.out y hy
      ·exact HX64.out
     ·rw [take_set_snoc (by rw [HI.out.1]; exact hin), HST.out, HP.out, if_neg (by simp)]
     ·rw [getD_set_neI (by omega)]
      exact HS.out y (by omega) h4
   ·obtain rfl : j = n := by omega
    have hcap := HI.out.2.1
    have hne : c ≠ i := by omega
    have hcl : ∀ ty, (Builtin.clear_ #[26] ty #[.slice (some ⟨g, i, none⟩) (j - i) (c - i)]).run Tryz.prog wo = .ok (.tuple #[]) (wo.setCells g i (List.replicate (j - i) (.int .i64 0))) :=
     fun ty => Lib.run_clear_slice wo _ _ ty _ Tryz.underlying26 zeroInt rfl rfl g i _ _ (by omega) (fun t ht => by rw [HI.out.cell (i + t) (by omega)]; rfl) (fun t ht => HI.out.frozen (i + t))
    have hpl : (L.take i).length = i := by rw [List.length_take, HI.out.1]; omega
    have htk : openL kn t = L.take i := by
     rw [HP.out, List.take_of_length_le (by rw [HN.out]; exact Nat.le_refl _)]
    have HTK := Lib.hid htk
    have HZF : Hid (Zs (wo.setCells g i (List.replicate (j - i) (.int .i64 0))) (.slice (some ⟨g, 0, none⟩) i c) (L.take i)) := Lib.hid (by
      have h1 := Iz.sets (List.replicate (j - i) (0 : Int)) wo L i HI.out (by rw [List.length_replicate]; omega)
      rw [List.map_replicate] at h1
      have h2 := h1.zs i (by omega) (fun y hy => ?_)
      · have h3 : (setsL L i (List.replicate (j - i) 0)).take i = L.take i := by
          apply List.ext_getElem (by rw [List.length_take, List.length_take, h1.1, HI.out.1])
          intro y y1 y2
          rw [List.length_take] at y1
          have h4 := setsL_get (List.replicate (j - i) 0) L i y (by rw [List.length_replicate, HI.out.1]; omega)
          rw [if_neg (by omega), List.getD_eq_getElem?_getD, List.getD_eq_getElem?_getD, List.getElem?_eq_getElem (by omega), List.getElem?_eq_getElem (by rw [HI.out.1]; omega)] at h4
          rw [List.getElem_take, List.getElem_take]
          exact h4
        rw [h3] at h2
        exact h2
      · obtain ⟨z, hz, rfl⟩ := DC.getD_of_mem hy 0
        rw [setsL_get _ _ _ _ (by rw [List.length_replicate, HI.out.1]; omega)]
        split
        · rw [List.getD_eq_getElem?_getD, List.getElem?_replicate]
          split <;> exact ⟨by simp, by simp⟩
        · rw [h1.1] at hz
          exact H6.out _ (DC.mem_getD (by rw [HI.out.1]; exact hz) 0))
    have KF : Hid (Kp (fun k => k = g) w1 (wo.setCells g i (List.replicate (j - i) (.int .i64 0)))) := Lib.hid (HKP.out.trans (Kp.sets _ _ _) fun k e => .inl e)
    clear hpl htk
    go_wp2_with fail
    go_ret
    refine ⟨_, rfl, ?_, KF.out.mono fun k e => by rw [e]; rfl⟩
    rw [HTK.out]
    exact HZF.out
end Go.Proofs.YtbbglejdfbkjlaaGreat
