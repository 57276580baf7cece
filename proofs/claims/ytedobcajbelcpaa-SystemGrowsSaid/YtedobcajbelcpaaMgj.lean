/-
  Texts laid behind one another: Mf Bc Mg Pd Do Ly.
-/
import Derived.Test.YtedobcajbelcpaaMgi
import Derived.Lib.SliceRun
import Derived.Test.YtedobcajbelcpaaMgg
import Derived.Test.YtedobcajbelcpaaMgh
import Derived.Test.YtedobcajbelcpaaMga
import Derived.Shelf.Sort.Plain
import Derived.Shelf.Slices.In.SortNone
namespace Go.Proofs.Ytedobcajbelcpaa
open Go.RowKit

set_option maxRecDepth 100000 in
set_option maxHeartbeats 800000 in
theorem reduce_nil (f : Value) (oa : Option Addr) (c : Nat) (w : World) (hf : IsF w f) (h : Bss w (.slice oa 0 c) []) :
    Calls Try.prog 26 #[f, .slice oa 0 c] w fun e w' => ∃ v R, e = .returned v ∧ Bss w' v R ∧ Gr w w' ∧ IsRed (wd []) [] R := by
  have HS := Lib.hid h
  have HF := Lib.hid hf
  clear h hf
  go_enter Try.func26, Try.ntmps26
  go_wp2_with fail
  refine (may_any _ [] w HS.out (by simp)).mono ?_
  rintro e w1 ⟨rfl, hg1⟩
  rw [show mayL [] = true from rfl]
  have G1 := Lib.hid hg1
  clear hg1
  go_wp2_with (first
    | (at_builtin; refine wpList_append_rows rfl _ _ rfl rfl oa 0 c [] rfl rfl (Bss.grown HS.out G1.out) (by omega) ?_; intro v2 w2 us hown hg2 hrow; obtain ⟨o2, c2, rfl⟩ := ownsRow_form hown; have HO := Lib.hid hown; have G2 := Lib.hid hg2; clear hown hg2 hrow)
    | (go_at_call 39; refine (mtabled_any f _ (IsF.grown HF.out (Gr.trans G1.out G2.out))).mono ?_; rintro e w3 ⟨b, rfl, hfb, hg3⟩; clear hfb; have G3 := Lib.hid hg3; clear hg3)
    | (go_at_call 40; refine (columns_any _ [] _ (Bss.grown HS.out (Gr.trans G1.out (Gr.trans G2.out G3.out)))).mono ?_; rw [wd_nil]; rintro e w4 ⟨rfl, hg4⟩; have G4 := Lib.hid hg4; clear hg4))
  refine (eliminate_none _ _ _).mono ?_
  rintro e w5 ⟨rfl, hg5⟩
  have GG := Lib.hid (Gr.trans G1.out (Gr.trans G2.out (Gr.trans G3.out (Gr.trans G4.out hg5))))
  have H5 := Lib.hid (Bss.grown (owns_bss (L := []) HO.out rfl (fun i hi => by simp at hi)) (Gr.trans G3.out (Gr.trans G4.out hg5)))
  have hc2 : c2 ≤ maxLen := by
    obtain ⟨_, ⟨he, _⟩ | ⟨g, c', cur, he, _, _, _, h2, _⟩⟩ := HO.out
    · cases he; omega
    · cases he; exact h2
  unfold maxLen at hc2
  clear G1 G2 G3 G4 hg5 HO HS
  go_wp2_with (first
    | (at_builtin; refine wpList_append_rows rfl _ _ rfl rfl o2 0 c2 [] rfl rfl H5.out (by omega) ?_; intro v6 w6 us6 hown hg6 hrow; obtain ⟨o6, c6, rfl⟩ := ownsRow_form hown; have HO6 := Lib.hid hown; have G6 := Lib.hid hg6; clear hown hg6 hrow))
  go_ret
  exact ⟨_, [], rfl, owns_bss HO6.out rfl (fun i hi => by simp at hi), Gr.trans GG.out G6.out, (by intro r hr; cases hr), [], rfl, L.Rref.nil, L.Same.refl _⟩
theorem field_block {w w' : World} {b g base n c : Nat} {us : List Value} {l : List Int} (h : FieldAt w b) (ho : w.ownsRow base 41 1 (.slice (some ⟨g, 0, none⟩) n c) n us) (h0 : 0 < n) (hb : Bs w' (us.getD 0 undef) l) : b ≠ g := by
  intro e
  subst e
  obtain ⟨g', c', he, _, _, _, _, hc⟩ := ownsRow_cell ho h0
  cases he
  have h1 := hc 0 h0
  rw [FieldAt.ex h 0 (by omega)] at h1
  obtain ⟨o, c2, hf⟩ := hb.form
  rw [hf] at h1
  cases h1
set_option maxRecDepth 100000 in
set_option maxHeartbeats 1600000 in
theorem reduce_pos (f va : Value) (A : List (List Int)) (w : World) (hf : IsF w f) (h : Bss w va A) (hl : A.length ≤ 1000) (hmay : mayL A = true) (h0 : 0 < A.length) :
    Calls Try.prog 26 #[f, va] w fun e w' => ∃ v R, e = .returned v ∧ Bss w' v R ∧ Gr w w' ∧ IsRed (wd A) A R := by
  have HW := Lib.hid (Wide.of_may hmay h.byt)
  have hk64 : wd A ≤ 64 := (mayL_at hmay 0 h0).2
  have HS := Lib.hid h
  have HF := Lib.hid hf
  have HM := Lib.hid hmay
  obtain ⟨oa, c0, rfl, h1, h2, _, _⟩ := h
  obtain ⟨n, hn⟩ : ∃ n, A.length = n := ⟨_, rfl⟩
  rw [hn] at HS h1 hl h0 ⊢
  obtain ⟨k, hk⟩ : ∃ k, wd A = k := ⟨_, rfl⟩
  have HN := Lib.hid hn
  have HK := Lib.hid hk
  rw [show (A.getD 0 []).length = wd A from rfl] at HW
  rw [hk] at hk64 HW ⊢
  clear hf hmay hn hk
  go_enter Try.func26, Try.ntmps26
  go_wp2_with fail
  refine (may_any _ A w HS.out (by rw [HN.out]; omega)).mono ?_
  rintro e w1 ⟨rfl, hg1⟩
  rw [HM.out]
  have G1 := Lib.hid hg1
  clear hg1
  go_wp2_with (first
    | (at_builtin; refine wpList_append_rows rfl _ _ rfl rfl oa n c0 A rfl HN.out (Bss.grown HS.out G1.out) hl ?_; intro v2 w2 us hown hg2 hrow; have HO := Lib.hid hown; obtain ⟨g, c, rfl, hc1, hc2, _, _, _⟩ := ownsRow_cell hown h0; have G2 := Lib.hid hg2; have HR := Lib.hid hrow; clear hown hg2 hrow)
    | (go_at_call 39; refine (mtabled_any f _ (IsF.grown HF.out (Gr.trans G1.out G2.out))).mono ?_; rintro e w3 ⟨b, rfl, hfb, hg3⟩; have HFB := Lib.hid hfb; clear hfb; have G3 := Lib.hid hg3; clear hg3)
    | (go_at_call 40; refine (columns_any _ A _ (Bss.grown HS.out (Gr.trans G1.out (Gr.trans G2.out G3.out)))).mono ?_; rw [HK.out]; rintro e w4 ⟨rfl, hg4⟩; have G4 := Lib.hid hg4; clear hg4))
  unfold maxLen at hc2
  have hx : Mx w1 w2 g n c k A A [] 0 us := ⟨HO.out, HR.out, HN.out, HW.out, L.Ech.start _, G2.out⟩
  have hx4 := hx.grow (Gr.trans G3.out G4.out)
  have hfg : b ≠ g := field_block HFB.out (HO.out.of_gr G3.out) h0 (HR.out 0 h0).1
  refine (eliminate_any _ hx4 b (FieldAt.grown HFB.out G4.out) hfg k (Nat.le_refl _) hl (by omega) hc1 hc2).mono ?_
  rintro e w5 ⟨ps, Lm, us5, rfl, hx5⟩
  obtain ⟨hrw, hgr, hred⟩ := hx5.out
  have hdn : ps.length ≤ n := by have := hx5.ech.le; rw [List.length_map, hx5.len] at this; exact this
  have hlt : (Lm.take ps.length).length = ps.length := by rw [List.length_take, hx5.len]; omega
  have HB5 := Lib.hid hrw.bss
  have GG := Lib.hid (Gr.trans G1.out hgr)
  have HRED := Lib.hid hred
  have HLT := Lib.hid hlt
  clear hx hx4 hfg hx5 hrw hgr hred hlt G2 G3 G4 HO HR HFB
  generalize Lm.take ps.length = R at *
  generalize ps.length = d at *
  go_wp2_with (first
    | (at_builtin; refine wpList_append_rows rfl _ _ rfl rfl (some ⟨g, 0, none⟩) d c R rfl HLT.out HB5.out (by omega) ?_; intro v6 w6 us6 hown hg6 hrow; obtain ⟨o6, c6, rfl⟩ := ownsRow_form hown; have HO6 := Lib.hid hown; have G6 := Lib.hid hg6; have HR6 := Lib.hid hrow; clear hown hg6 hrow))
  go_ret
  exact ⟨_, R, rfl, owns_bss HO6.out HLT.out (fun i hi => (HR6.out i (by rw [HLT.out] at hi; exact hi)).1), Gr.trans GG.out G6.out, HRED.out⟩
theorem ok_reduce : ∀ (f va : Value) (A : List (List Int)) (w : World), IsF w f → Bss w va A → A.length ≤ 1000 → mayL A = true →
    Calls Try.prog 26 #[f, va] w fun e w' => ∃ v R, e = .returned v ∧ Bss w' v R ∧ Gr w w' ∧ IsRed (wd A) A R :=
  fun f va A w hf ha hl hm => by
    by_cases h0 : 0 < A.length
    · exact reduce_pos f va A w hf ha hl hm h0
    · obtain rfl : A = [] := List.eq_nil_of_length_eq_zero (by omega)
      have hs := ha
      obtain ⟨oa, c, rfl, _, _, _, _⟩ := ha
      exact reduce_nil f oa c w hf hs
set_option maxHeartbeats 400000 in
theorem ok_rank : ∀ (f va : Value) (A : List (List Int)) (w : World), IsF w f → Bss w va A → A.length ≤ 1000 → mayL A = true →
    Calls Try.prog 19 #[f, va] w fun e w' => e = .returned (.int .i64 (rkL A)) ∧ Gr w w' := by
  intro f va A w hf ha hl hm
  have HS := Lib.hid ha
  have HF := Lib.hid hf
  have HM := Lib.hid hm
  clear ha hf hm
  go_enter Try.func19, Try.ntmps19
  go_wp2_with fail
  refine (ok_reduce f va A w HF.out HS.out hl HM.out).mono ?_
  rintro e w1 ⟨v, R, rfl, hv, hg, hred⟩
  have hrk : rkL A = R.length := hred.rank
  obtain ⟨o, c, rfl, h1, h2, _, _⟩ := hv
  have HG := Lib.hid hg
  have HRK := Lib.hid hrk
  clear hred hrk hg
  generalize R.length = s at *
  go_wp2_with fail
  go_ret
  exact ⟨by rw [HRK.out]; rfl, HG.out⟩
end Go.Proofs.Ytedobcajbelcpaa
namespace Go.Proofs.Ytedobcajbelcpaa
open Go.RowKit

/-- A block's cells that are nil rows. -/
def nils (n : Nat) : Array Value := (List.replicate n (Value.slice none 0 0)).toArray
theorem nils_made (n : Nat) : madeCells #[.slice none 0 0] n = nils n := by
  apply Array.ext'
  rw [toList_madeCells_one]
  simp [nils]
theorem make24 (l c : Nat) (h : l ≤ c) (hc : c ≤ 1000000) (w : World) :
    (Instr.makeSlice 36 (.int .i64 (l : Int)) (.int .i64 (c : Int))).run Try.prog w = .ok (.slice (some ⟨w.heap.size, 0, none⟩) l c) (w.alloc (.cells (nils c) 41)) := by
  obtain ⟨i, hi, hzz⟩ := Option.map_eq_some_iff.1 info22
  simp only [Prod.mk.injEq] at hzz
  obtain ⟨hz, hs, hb⟩ := hzz
  have hr := run_make (P := Try.prog) w 36 41 i _ Try.underlying36 hi hz .i64 .i64 l c (by omega) (by omega) (by rw [hb]; omega) (by omega)
  rw [Int.toNat_natCast, Int.toNat_natCast, hs, Nat.mul_one] at hr
  rw [hr, ← nils_made]
  rfl
end Go.Proofs.Ytedobcajbelcpaa
namespace Go.Proofs.Ytedobcajbelcpaa
open Go.RowKit

/-- Since w0, block g holds n rows, of which the first j are as P says. -/
structure Fill (w0 W : World) (g n : Nat) (P : Nat → List Int → Prop) (j : Nat) (us : List Value) (L : List (List Int)) : Prop where
  own : W.ownsRow w0.heap.size 41 1 (.slice (some ⟨g, 0, none⟩) n n) n us
  row : ∀ i, i < n → Bs W (us.getD i undef) (L.getD i []) ∧ Rb w0.heap.size W (us.getD i undef)
  len : L.length = n
  is : ∀ i, i < j → P i (L.getD i [])
  gr : Gr w0 W
section
variable {w0 W : World} {g n : Nat} {P : Nat → List Int → Prop} {j : Nat} {us : List Value} {L : List (List Int)}
theorem Fill.start (w : World) (n : Nat) (hn : n ≤ 1000000) (P : Nat → List Int → Prop) : Fill w (w.alloc (.cells (nils n) 41)) w.heap.size n P 0 (List.replicate n (.slice none 0 0)) (List.replicate n []) := by
  refine ⟨⟨by simp, .inr ⟨w.heap.size, n, nils n, rfl, Nat.le_refl _, heap_alloc_new _ _, Nat.le_refl _, by unfold maxLen; omega, by simp [nils], by simp [nils]⟩⟩, fun i hi => ?_, by simp, by omega, Gr.alloc (Gr.refl _) _ _⟩
  have e1 : (List.replicate n (Value.slice none 0 0)).getD i undef = .slice none 0 0 := by rw [List.getD_eq_getElem?_getD, List.getElem?_replicate, if_pos hi]; rfl
  have e2 : (List.replicate n ([] : List Int)).getD i [] = [] := by rw [List.getD_eq_getElem?_getD, List.getElem?_replicate, if_pos hi]; rfl
  rw [e1, e2]
  exact ⟨Bs.nil _, fun a n c e _ => by cases e⟩
theorem Fill.cell (h : Fill w0 W g n P j us L) (i : Nat) (hi : i < n) : W.cell? ⟨g, i, none⟩ = some (us.getD i undef) := by
  obtain ⟨g', c', he, _, _, _, _, hc⟩ := ownsRow_cell h.own (by omega)
  cases he
  exact hc i hi
theorem Fill.frozen (h : Fill w0 W g n P j us L) (i : Nat) : W.frozen? ⟨g, i, none⟩ = false := by
  obtain ⟨_, ⟨he, _⟩ | ⟨g', c', cur, he, _, hg, _⟩⟩ := h.own
  · cases he
  · cases he
    exact frozen_of_row W g i _ _ hg
theorem Fill.base (h : Fill w0 W g n P j us L) : w0.heap.size ≤ g := (ownsRow_not_bytes h.own g rfl).1
theorem Fill.grow {W' : World} (h : Fill w0 W g n P j us L) (hg : Gr W W') : Fill w0 W' g n P j us L :=
  ⟨h.own.of_gr hg, fun i hi => Rb.gr (h.row i hi).1 (h.row i hi).2 hg, h.len, h.is, Gr.trans h.gr hg⟩
theorem Fill.put {u : Value} {l : List Int} (h : Fill w0 W g n P j us L) (hj : j < n) (hb : Bs W u l) (hrb : Rb w0.heap.size W u) (hp : P j l) :
    Fill w0 (W.setCell ⟨g, j, none⟩ u) g n P (j + 1) (us.set j u) (L.set j l) := by
  obtain ⟨h1, h2⟩ := Rws.set h.own h.len h.row j hj hb hrb
  refine ⟨h1, h2, by rw [List.length_set]; exact h.len, fun i hi => ?_, Gr.setCell h.gr h.base u⟩
  by_cases e : i = j
  · subst e
    rw [getD_set_self _ _ _ (by rw [h.len]; exact hj)]
    exact hp
  · rw [getD_set_ne _ _ _ _ (fun c => e c.symm)]
    exact h.is i (by omega)
theorem Fill.bss (h : Fill w0 W g n P j us L) : Bss W (.slice (some ⟨g, 0, none⟩) n n) L := owns_bss h.own h.len fun i hi => (h.row i (by rw [← h.len]; exact hi)).1
end
theorem L.lc_snoc : ∀ (X : List L.V) (c y : L.V), L.lc c (X ++ [y]) = L.vadd (L.lc c X) (L.smul (c X.length) y)
  | [], c, y => by
    show L.vadd (L.smul (c 0) y) L.vzero = L.vadd L.vzero (L.smul (c 0) y)
    rw [L.vadd_zero, L.vzero_add]
  | x :: X, c, y => by
    show L.vadd (L.smul (c 0) x) (L.lc (fun i => c (i + 1)) (X ++ [y])) = L.vadd (L.vadd (L.smul (c 0) x) (L.lc (fun i => c (i + 1)) X)) (L.smul (c (X.length + 1)) y)
    rw [L.lc_snoc X, L.vadd_assoc]
theorem axL_byt {c : Int} {x y : List Int} (hy : ∀ z ∈ y, Byt z) : ∀ z ∈ axL c x y, Byt z := by
  rw [← lst_eq_ax]
  exact axF_byt fun i => getD_byt hy i
/-- l is the sum of the first rows of X, each times the element of r with its index. -/
def IsW (m : Nat) (r : List Int) (X : List (List Int)) (l : List Int) : Prop := l.length = m ∧ (∀ x ∈ l, Byt x) ∧ vec l = L.lc (vec r) (X.map vec)
theorem IsW.start (m : Nat) (r : List Int) : IsW m r [] (List.replicate m 0) := by
  refine ⟨by simp, fun x hx => ?_, ?_⟩
  · rw [(List.mem_replicate.1 hx).2]
    unfold Byt
    omega
  · funext i
    show fb ((List.replicate m 0).getD i 0) = L.zero
    rw [replicate_getD, fb_zero]
theorem IsW.next {m j : Nat} {r l : List Int} {X : List (List Int)} (h : IsW m r (X.take j) l) (hr : ∀ x ∈ r, Byt x) (hX : Wide m X) (hj : j < X.length) : IsW m r (X.take (j + 1)) (axL (r.getD j 0) (X.getD j []) l) := by
  obtain ⟨h1, h2, h3⟩ := h
  have hx := hX.at j hj
  have hlen : ((X.take j).map vec).length = j := by rw [List.length_map, List.length_take]; omega
  refine ⟨by rw [axL_length]; exact hx.1, axL_byt h2, ?_⟩
  rw [vec_ax (getD_byt hr j) hx.2 h2 (by rw [hx.1, h1]), h3, List.take_add_one, List.getElem?_eq_getElem hj]
  show _ = L.lc (vec r) ((X.take j ++ [X[j]]).map vec)
  rw [List.map_append, List.map_singleton, L.lc_snoc, hlen, List.getD_eq_getElem?_getD (l := X), List.getElem?_eq_getElem hj]
  rfl
theorem isMul_of {m : Nat} {A X o : List (List Int)} (hl : o.length = A.length) (h : ∀ i, i < A.length → IsW m (A.getD i []) X (o.getD i [])) : IsMul m A X o := by
  refine ⟨fun r hr => ?_, ?_⟩
  · obtain ⟨i, hi, rfl⟩ := List.getElem_of_mem hr
    have := h i (by omega)
    rw [List.getD_eq_getElem?_getD (l := o), List.getElem?_eq_getElem hi] at this
    exact ⟨this.1, this.2.1⟩
  · apply List.ext_getElem
    · simp [L.mulM, hl]
    intro i h1 h2
    rw [List.length_map] at h1
    have := (h i (by omega)).2.2
    rw [List.getD_eq_getElem?_getD (l := o), List.getElem?_eq_getElem h1, List.getD_eq_getElem?_getD (l := A), List.getElem?_eq_getElem (by omega)] at this
    simpa [L.mulM] using this
end Go.Proofs.Ytedobcajbelcpaa
namespace Go.Proofs.Ytedobcajbelcpaa
open Go.RowKit

/-- Row h while it is being written: the first j of the source symbols are there. -/
def midF (K h j : Nat) : Nat → Int := fun i => if i < K ∧ j ≤ i then 0 else aheadF K h i
theorem midF_zero (K H h : Nat) : lst (K + H) (midF K h 0) = unitL (K + H) (K + h) := by
  apply lst_congr
  intro i _
  unfold midF aheadF
  by_cases c : i < K
  · rw [if_pos ⟨c, by omega⟩, if_neg (by omega)]
  · rw [if_neg (by omega), if_neg c]
theorem midF_all (K H h : Nat) : lst (K + H) (midF K h K) = aheadRow K H h := by
  apply lst_congr
  intro i _
  unfold midF
  rw [if_neg (by omega)]
theorem midF_set {K h j : Nat} (N : Nat) (hj : j < K) : (lst N (midF K h j)).set j (aheadF K h j) = lst N (midF K h (j + 1)) := by
  rw [lst_set]
  apply lst_congr
  intro i _
  unfold midF
  by_cases e : i = j
  · subst e
    rw [if_pos rfl, if_neg (by omega)]
  · rw [if_neg e]
    by_cases c : i < K ∧ j ≤ i
    · rw [if_pos c, if_pos (by omega)]
    · rw [if_neg c, if_neg (by omega)]
theorem midF_byt (K h j i : Nat) : Byt (midF K h j i) := by
  unfold midF
  split
  · unfold Byt
    omega
  · exact aheadF_byt K h i
/-- The row in block g, of which the first j elements are written. -/
structure Mid (w W : World) (g N c : Nat) (K h j : Nat) : Prop where
  gr : Gr w W
  le : w.heap.size ≤ g
  cap : N ≤ c ∧ c ≤ 9223372036854775807
  blk : ∃ cur, W.heap[g]? = some (.cells cur 5 (0, 0)) ∧ ∀ i, i < N → cur[i]? = some (.int .u8 (midF K h j i))
theorem Mid.frozen {w W : World} {g N c K h j : Nat} (m : Mid w W g N c K h j) (i : Nat) : W.frozen? ⟨g, i, none⟩ = false := by
  obtain ⟨cur, h1, _⟩ := m.blk
  exact frozen_of_row W g i _ _ h1
theorem Mid.cell {w W : World} {g N c K h j : Nat} (m : Mid w W g N c K h j) (i : Nat) (hi : i < N) : W.cell? ⟨g, i, none⟩ = some (.int .u8 (midF K h j i)) := by
  obtain ⟨cur, h1, h2⟩ := m.blk
  rw [cell_of_row W g i _ _ _ h1, h2 i hi]
theorem Mid.more {w W W' : World} {g N c K h j : Nat} (m : Mid w W g N c K h j) (hg : Gr W W') : Mid w W' g N c K h j := by
  obtain ⟨cur, h1, h2⟩ := m.blk
  exact ⟨Gr.trans m.gr hg, m.le, m.cap, cur, keptRow hg h1, h2⟩
theorem Mid.put {w W : World} {g N c K h j : Nat} (m : Mid w W g N c K h j) (hj : j < K) (hN : K ≤ N) : Mid w (W.setCell ⟨g, j, none⟩ (.int .u8 (aheadF K h j))) g N c K h (j + 1) := by
  obtain ⟨cur, h1, h2⟩ := m.blk
  refine ⟨Gr.setCell m.gr m.le _, m.le, m.cap, _, heap_setCell_same _ _ _ _ _ _ h1, fun i hi => ?_⟩
  rw [Array.getElem?_setIfInBounds]
  have hs : j < cur.size := (Array.getElem?_eq_some_iff.1 (h2 j (by omega))).1
  unfold midF
  by_cases e : j = i
  · subst e
    rw [if_pos rfl, if_pos hs, if_neg (by omega)]
  · rw [if_neg e, h2 i hi]
    unfold midF
    by_cases c : i < K ∧ j ≤ i
    · rw [if_pos c, if_pos (by omega)]
    · rw [if_neg c, if_neg (by omega)]
theorem Mid.start {w W : World} {K H h : Nat} {v : Value} (hn : New w W v (unitL (K + H) (K + h))) (h0 : 0 < K + H) : ∃ g c, v = .slice (some ⟨g, 0, none⟩) ((K + H : Nat) : Nat) c ∧ Mid w W g (K + H) c K h 0 := by
  have hl : (unitL (K + H) (K + h)).length = K + H := lst_length _ _
  obtain ⟨hg, _, ⟨h1, _⟩ | ⟨g, c, cur, rfl, q1, q2, q3, q4, q5⟩⟩ := hn
  · rw [h1] at hl
    simp at hl
    omega
  · rw [hl] at q3 q5
    refine ⟨g, c, by rw [hl], hg, q1, ⟨q3, q4⟩, cur, q2, fun i hi => ?_⟩
    rw [q5 i hi, ← midF_zero, lst_getD _ _ _ hi]
theorem Mid.done {w W : World} {g N c K H h : Nat} (m : Mid w W g N c K h K) (hN : K + H = N) : New w W (.slice (some ⟨g, 0, none⟩) N c) (aheadRow K H h) := by
  subst hN
  obtain ⟨cur, h1, h2⟩ := m.blk
  refine ⟨m.gr, lst_byt fun i _ => aheadF_byt K h i, .inr ⟨g, c, cur, by rw [aheadRow_length], m.le, h1, by rw [aheadRow_length]; exact m.cap.1, m.cap.2, fun i hi => ?_⟩⟩
  rw [aheadRow_length] at hi
  rw [h2 i hi, ← midF_all, lst_getD _ _ _ hi]
set_option maxRecDepth 100000 in
set_option maxHeartbeats 800000 in
theorem precode_any (f : Value) (K H h : Nat) (S : Int) (w : World) (hf : IsF w f) (hm : MayP K H S) (hh : h < H) :
    Calls Try.prog 23 #[f, par K H S, .int .i64 (h : Int)] w fun e w' => ∃ v, e = .returned v ∧ New w w' v (aheadRow K H h) := by
  have HF := Lib.hid hf
  have hc : colsP K H S = ((K + H : Nat) : Int) := by unfold colsP; rw [if_pos hm]; omega
  have HC := Lib.hid hc
  obtain ⟨b1, b2, b3, b4, _, _⟩ := hm
  clear hf hc
  obtain ⟨N, hN⟩ : ∃ N, K + H = N := ⟨_, rfl⟩
  have hN64 : N ≤ 20 := by omega
  have HN := Lib.hid hN
  obtain ⟨q, hq⟩ : ∃ q : Nat, K + h = q := ⟨_, rfl⟩
  have hq' : (K : Int) + (h : Int) = (q : Int) := by omega
  have hwq : IntKind.i64.wrap (q : Int) = (q : Int) := by simp [IntKind.wrap, IntKind.bits, IntKind.signed]; omega
  have HQ := Lib.hid hq
  have P0 : Hid (Par (w.alloc (.cells #[.int .i64 (K : Int), .int .i64 (H : Int), .int .i64 S] 25)) w.heap.size K H S) := Lib.hid (heap_alloc_new _ _)
  have HG0 : Hid (Gr w (w.alloc (.cells #[.int .i64 (K : Int), .int .i64 (H : Int), .int .i64 S] 25))) := Lib.hid (Gr.alloc (Gr.refl _) _ _)
  go_enter Try.func23, Try.ntmps23
  go_wp2_with fail
  generalize w.alloc (.cells #[.int .i64 (K : Int), .int .i64 (H : Int), .int .i64 S] 25) = W0 at *
  generalize w.heap.size = gp at *
  have c0 := P0.out.cell0
  have c1 := P0.out.cell1
  have c2 := P0.out.cell2
  go_region_held3 (fun W => W.cell? ⟨gp, 0, none⟩ = some (.int .i64 (K : Int)) ∧ W.cell? ⟨gp, 1, none⟩ = some (.int .i64 (H : Int)) ∧ W.cell? ⟨gp, 2, none⟩ = some (.int .i64 S)) (first | exact ⟨k20, k21, k22⟩ | exact ⟨k10, k11, k12⟩ | go_keep)
    (first
      | (go_at_call 31; refine (ok_unit N q _ (by omega) (by omega) (by omega)).mono ?_; rintro e v2 ⟨y2, rfl, hn2⟩; have k20 := cell_grown hn2.1 (by exact k10); have k21 := cell_grown hn2.1 (by exact k11); have k22 := cell_grown hn2.1 (by exact k12); have N2 := Lib.hid hn2; clear hn2)
      | (go_at_call 13; refine (cols_pre K H S _).mono ?_; rw [HC.out, HN.out]; rintro e v1 ⟨rfl, hg1⟩; have k10 := cell_grown hg1 (by exact c0); have k11 := cell_grown hg1 (by exact c1); have k12 := cell_grown hg1 (by exact c2); have V1 : Hid (Gr W0 v1) := Lib.hid (by exact hg1); clear hg1))
  have P1 := Lib.hid (P0.out.grown V1.out)
  have G1 := Lib.hid (Gr.trans HG0.out V1.out)
  have hn : New v1 v2 y2 (unitL N q) := N2.out
  rw [← HN.out, ← HQ.out] at hn
  obtain ⟨g, c, rfl, hmid⟩ := Mid.start hn (by omega)
  rw [HN.out] at hmid ⊢
  have MK := Lib.hid hmid
  have P2 := Lib.hid (P1.out.grown hmid.gr)
  have c0 := P2.out.cell0
  clear hn hmid
  go_wp2_with fail
  go_loopw [18] (fun i W => ∃ j : Nat, j ≤ K ∧ i = .int .i64 j ∧ Mid v1 W g N c K h j) (fun i _ => K - (intOf i).toNat)
  case atStart => exact ⟨0, by omega, rfl, MK.out⟩
  case round =>
    clear MK P2
    obtain ⟨j, hj, rfl, hmm⟩ := hrel
    have HM := Lib.hid hmm
    have P3 := P1.out.grown hmm.gr
    have c0 := P3.cell0
    clear hmm P3
    by_cases hlj : j < K
    · have q3 := HM.out.cell j (by omega)
      have q4 := HM.out.frozen j
      have hE : ((h : Int) + 1) * ((j : Int) + 1) = (((h + 1) * (j + 1) : Nat) : Int) := by simp
      have hF : expZ (((h + 1) * (j + 1) : Nat) : Int) = aheadF K h j := by unfold aheadF; rw [if_pos hlj]
      have hle : (h + 1) * (j + 1) ≤ 64 := Nat.le_trans (Nat.mul_le_mul (by omega : h + 1 ≤ 4) (by omega : j + 1 ≤ 16)) (by omega)
      have hjN : (j : Int) < N := by omega
      obtain ⟨e, he⟩ : ∃ e : Nat, (h + 1) * (j + 1) = e := ⟨_, rfl⟩
      rw [he] at hE hF hle
      clear he
      go_wp2_with (first | (go_at_call 32; refine (exp_any f (e : Int) _ (IsF.grown HF.out (Gr.trans G1.out HM.out.gr))).mono ?_; rw [hF]; rintro e' w5 ⟨rfl, hg5⟩; have q3 := cell_grown hg5 q3; have q4 := (HM.out.more hg5).frozen j; have H5 := Lib.hid hg5; clear hg5))
      exact ⟨⟨j + 1, by omega, by go_num, (HM.out.more H5.out).put hlj (by omega)⟩, by simp [intOf]; omega⟩
    · obtain rfl : j = K := by omega
      go_wp2_with fail
      go_ret
      exact ⟨_, rfl, New.under G1.out (HM.out.done HN.out)⟩
theorem own_base8 {w : World} {base base' : Nat} {e : TypeId} {size : Nat} {v : Value} {n : Nat} {us : List Value} (h : w.ownsRow base' e size v n us) (hb : base ≤ base') : w.ownsRow base e size v n us := by
  obtain ⟨h0, h | ⟨g, c, cur, hv, h1, h2⟩⟩ := h
  · exact ⟨h0, .inl h⟩
  · exact ⟨h0, .inr ⟨g, c, cur, hv, Nat.le_trans hb h1, h2⟩⟩
/-- Since w0, block g holds H rows, of which the first j are rows ahead, in memory of their own. -/
structure FillN (w0 W : World) (g n K j : Nat) (us : List Value) (L : List (List Int)) : Prop where
  own : W.ownsRow w0.heap.size 41 1 (.slice (some ⟨g, 0, none⟩) n n) n us
  row : ∀ i, i < n → Bs W (us.getD i undef) (L.getD i []) ∧ Rn w0.heap.size W (us.getD i undef)
  len : L.length = n
  is : ∀ i, i < j → L.getD i [] = aheadRow K n i
  gr : Gr w0 W
theorem Rn.stay8 {base : Nat} {w w' : World} {u : Value} {row : Option Nat} (hr : Rn base w u)
    (hk : ∀ k, k < w.heap.size → some k ≠ row → w'.heap[k]? = w.heap[k]?) (hrow : ∀ g, row = some g → base ≤ g ∧ ∀ cur, w.heap[g]? ≠ some (.cells cur 5 (0, 0))) : Rn base w' u := fun a n c hu hn => by
  obtain ⟨h1, cur, h2⟩ := hr a n c hu hn
  refine ⟨h1, cur, ?_⟩
  rw [hk _ (Array.getElem?_eq_some_iff.1 h2).1 (fun e => (hrow a.block e.symm).2 cur h2)]
  exact h2
theorem Rn.rb8 {base : Nat} {w : World} {u : Value} (h : Rn base w u) : Rb base w u := fun a n c e hn => .inr (h a n c e hn).2
theorem Rn.gr8 {base : Nat} {w w' : World} {u : Value} (hr : Rn base w u) (hg : Gr w w') : Rn base w' u :=
  Rn.stay8 (row := none) hr (fun k hk _ => hg.2.2.2.2 k hk) (fun g h => by cases h)
theorem New.rn8 {w w' : World} {v : Value} {l : List Int} {base : Nat} (h : New w w' v l) (hb : base ≤ w.heap.size) : Rn base w' v := by
  intro a n c hv hn
  obtain ⟨_, _, ⟨rfl, oa, c', rfl, _⟩ | ⟨g, c', cur, rfl, q, h2, _⟩⟩ := h
  · cases hv
    omega
  · cases hv
    exact ⟨Nat.le_trans hb q, cur, h2⟩
section
variable {w0 W : World} {g n K j : Nat} {us : List Value} {L : List (List Int)}
theorem FillN.start (w : World) (n K : Nat) (hn : n ≤ 1000000) : FillN w (w.alloc (.cells (nils n) 41)) w.heap.size n K 0 (List.replicate n (.slice none 0 0)) (List.replicate n []) := by
  obtain ⟨h1, h2, h3, h4, h5⟩ := Fill.start w n hn (fun _ _ => True)
  refine ⟨h1, fun i hi => ⟨(h2 i hi).1, ?_⟩, h3, by omega, h5⟩
  have e1 : (List.replicate n (Value.slice none 0 0)).getD i undef = .slice none 0 0 := by rw [List.getD_eq_getElem?_getD, List.getElem?_replicate, if_pos hi]; rfl
  rw [e1]
  intro a n c e _
  cases e
theorem FillN.fill (h : FillN w0 W g n K j us L) : Fill w0 W g n (fun _ _ => True) j us L := ⟨h.own, fun i hi => ⟨(h.row i hi).1, (h.row i hi).2.rb8⟩, h.len, fun _ _ => trivial, h.gr⟩
theorem FillN.grow {W' : World} (h : FillN w0 W g n K j us L) (hg : Gr W W') : FillN w0 W' g n K j us L :=
  ⟨h.own.of_gr hg, fun i hi => ⟨Bs.grown (h.row i hi).1 hg, (h.row i hi).2.gr8 hg⟩, h.len, h.is, Gr.trans h.gr hg⟩
theorem FillN.put {u : Value} {l : List Int} (h : FillN w0 W g n K j us L) (hj : j < n) (hb : Bs W u l) (hrb : Rn w0.heap.size W u) (hp : l = aheadRow K n j) :
    FillN w0 (W.setCell ⟨g, j, none⟩ u) g n K (j + 1) (us.set j u) (L.set j l) := by
  obtain ⟨h1, h2⟩ := Rws.set h.own h.len (fun i hi => ⟨(h.row i hi).1, (h.row i hi).2.rb8⟩) j hj hb hrb.rb8
  have hrow := ownsRow_not_bytes h.own
  have hk : ∀ k, k < W.heap.size → some k ≠ (Value.slice (some ⟨g, 0, none⟩) n n).ownBlock → (W.setCell ⟨g, j, none⟩ u).heap[k]? = W.heap[k]? := by
    intro k _ hne
    have hne' : k ≠ g := fun e => hne (by rw [e]; rfl)
    exact heap_setCell_other _ _ _ _ hne'
  have hus : us.length = n := by have := h.own.1; omega
  refine ⟨h1, fun i hi => ⟨(h2 i hi).1, ?_⟩, by rw [List.length_set]; exact h.len, fun i hi => ?_, Gr.setCell h.gr h.fill.base u⟩
  · by_cases e : i = j
    · subst e
      rw [List.getD_eq_getElem?_getD, List.getElem?_set_self (by omega)]
      exact hrb.stay8 hk hrow
    · rw [List.getD_eq_getElem?_getD, List.getElem?_set_ne (fun c => e c.symm), ← List.getD_eq_getElem?_getD]
      exact (h.row i hi).2.stay8 hk hrow
  · by_cases e : i = j
    · subst e
      rw [getD_set_self _ _ _ (by rw [h.len]; exact hj)]
      exact hp
    · rw [getD_set_ne _ _ _ _ (fun c => e c.symm)]
      exact h.is i (by omega)
theorem FillN.done (h : FillN w0 W g n K n us L) (base : Nat) (hb : base ≤ w0.heap.size) : RwsN base W (.slice (some ⟨g, 0, none⟩) n n) (ahead K n) := by
  have e : L = ahead K n := by
    apply List.ext_getElem
    · rw [h.len]
      simp [ahead]
    intro i h1 h2
    have h3 := h.is i (by rw [← h.len]; exact h1)
    rw [List.getD_eq_getElem?_getD, List.getElem?_eq_getElem h1] at h3
    simpa [ahead] using h3
  have hl : (ahead K n).length = n := by simp [ahead]
  refine ⟨us, by rw [hl]; exact own_base8 h.own hb, fun i hi => ?_⟩
  rw [hl] at hi
  rw [← e]
  refine ⟨(h.row i hi).1, fun a m c ha hm => ?_⟩
  obtain ⟨q1, q2⟩ := (h.row i hi).2 a m c ha hm
  exact ⟨Nat.le_trans hb q1, q2⟩
end
set_option maxRecDepth 100000 in
set_option maxHeartbeats 800000 in
theorem rows_in (K H : Nat) (S : Int) (w : World) (hm : MayP K H S) :
    Calls Try.prog 16 #[par K H S] w fun e w' => ∃ v, e = .returned v ∧ RwsN w.heap.size w' v (ahead K H) ∧ Gr w w' := by
  have hd := decide_eq_true hm
  have HM := Lib.hid hm
  obtain ⟨b1, b2, b3, b4, _, _⟩ := hm
  have hmk := make24 H H (by omega) (by omega)
  have hR : ∃ cur, cur = nils H := ⟨_, rfl⟩
  obtain ⟨cur, hcur⟩ := hR
  rw [← hcur] at hmk
  have HC := Lib.hid hcur
  clear hcur
  have P0 : Hid (Par (w.alloc (.cells #[.int .i64 (K : Int), .int .i64 (H : Int), .int .i64 S] 25)) w.heap.size K H S) := Lib.hid (heap_alloc_new _ _)
  have HG0 : Hid (Gr w (w.alloc (.cells #[.int .i64 (K : Int), .int .i64 (H : Int), .int .i64 S] 25))) := Lib.hid (Gr.alloc (Gr.refl _) _ _)
  go_enter Try.func16, Try.ntmps16
  go_wp2_with fail
  generalize w.alloc (.cells #[.int .i64 (K : Int), .int .i64 (H : Int), .int .i64 S] 25) = W0 at *
  generalize hgp : w.heap.size = gp at *
  refine (may_pre K H S _).mono ?_
  rw [hd]
  rintro e w1 ⟨rfl, hg1⟩
  have P1 := Lib.hid (P0.out.grown hg1)
  have G1 := Lib.hid (Gr.trans HG0.out hg1)
  clear hg1 P0 HG0
  go_wp2_with fail
  refine (new_any _).mono ?_
  rintro e w2 ⟨b, rfl, hfb, hg2⟩
  have P2 := Lib.hid (P1.out.grown hg2)
  have G2 := Lib.hid (Gr.trans G1.out hg2)
  have HF : Hid (IsF w2 (.pointer (some ⟨b, 0, none⟩))) := Lib.hid (Or.inr ⟨b, rfl, hfb⟩)
  have c1 := P2.out.cell1
  clear hg2 hfb P1 G1
  go_wp2_with fail
  have FL : Hid (FillN w2 (w2.alloc (.cells cur 41)) w2.heap.size H K 0 (List.replicate H (.slice none 0 0)) (List.replicate H [])) := Lib.hid (by rw [HC.out]; exact FillN.start w2 H K (by omega))
  clear HC hmk c1
  generalize w2.alloc (.cells cur 41) = W3 at *
  generalize hgr : w2.heap.size = gr at *
  go_loopw [15] (fun i W => ∃ (j : Nat) (us : List Value) (L : List (List Int)), j ≤ H ∧ i = .int .i64 j ∧ FillN w2 W gr H K j us L) (fun i _ => H - (intOf i).toNat)
  case atStart => exact ⟨0, _, _, by omega, rfl, FL.out⟩
  case round =>
    clear FL
    obtain ⟨j, us, L, hj, rfl, hfl⟩ := hrel
    have HL := Lib.hid hfl
    clear hfl
    have P3 := P2.out.grown HL.out.gr
    have c0 := P3.cell0
    have c1 := P3.cell1
    have c2 := P3.cell2
    by_cases hlt : j < H
    · have q3 := HL.out.fill.cell j hlt
      have q4 := HL.out.fill.frozen j
      go_wp2_with fail
      refine (precode_any _ K H j S _ (IsF.grown HF.out HL.out.gr) HM.out hlt).mono ?_
      rintro e w5 ⟨v5, rfl, hn5⟩
      have q3 := cell_grown hn5.1 q3
      have q4 := (HL.out.fill.grow hn5.1).frozen j
      have N5 := Lib.hid hn5
      obtain ⟨o5, m5, c5, rfl⟩ := New.form3 hn5
      clear hn5
      go_wp2_with fail
      exact ⟨⟨j + 1, _, _, by omega, by go_num, (HL.out.grow N5.out.1).put hlt (New.bs N5.out) (New.rn8 N5.out HL.out.gr.size) rfl⟩, by simp [intOf]; omega⟩
    · obtain rfl : j = H := by omega
      go_wp2_with fail
      go_ret
      exact ⟨_, rfl, by rw [hgp]; exact HL.out.done gp (by rw [← hgp]; exact G2.out.size), Gr.trans G2.out HL.out.gr⟩
set_option maxHeartbeats 400000 in
theorem rows_ne (K H S : Int) (w : World) (hm : ¬ MayP K H S) :
    Calls Try.prog 16 #[par K H S] w fun e w' => e = .returned (.slice none 0 0) ∧ Gr w w' := by
  have hd := decide_eq_false hm
  clear hm
  have HG0 : Hid (Gr w (w.alloc (.cells #[.int .i64 K, .int .i64 H, .int .i64 S] 25))) := Lib.hid (Gr.alloc (Gr.refl _) _ _)
  go_enter Try.func16, Try.ntmps16
  go_wp2_with fail
  refine (may_pre K H S _).mono ?_
  rw [hd]
  rintro e w1 ⟨rfl, hg1⟩
  have G1 := Lib.hid (Gr.trans HG0.out hg1)
  clear hg1
  go_wp2_with fail
  go_ret
  exact ⟨rfl, G1.out⟩
theorem rows_pre (K H S : Int) (w : World) :
    Calls Try.prog 16 #[par K H S] w fun e w' => ∃ v, e = .returned v ∧ RwsN w.heap.size w' v (aheadP K H S) ∧ Gr w w' := by
  unfold aheadP
  by_cases hm : MayP K H S
  · rw [if_pos hm]
    obtain ⟨k, hk⟩ : ∃ k : Nat, K = k := ⟨K.toNat, by have := hm.1; omega⟩
    obtain ⟨h, hh⟩ : ∃ h : Nat, H = h := ⟨H.toNat, by have := hm.2.2.1; omega⟩
    subst hk hh
    rw [Int.toNat_natCast, Int.toNat_natCast]
    exact rows_in k h S w hm
  · rw [if_neg hm]
    refine (rows_ne K H S w hm).mono ?_
    rintro e w' ⟨rfl, hg⟩
    exact ⟨_, rfl, ⟨[], World.ownsRow_nil w' _ 41 1, fun i hi => absurd hi (by simp)⟩, hg⟩
theorem pre_ok : PreOk := ⟨may_pre, cols_pre, rows_pre⟩
end Go.Proofs.Ytedobcajbelcpaa
namespace Go.Proofs.Ytedobcajbelcpaa
open Go.RowKit

/-- A Draw lies in block g. -/
def DBlk (w : World) (g s : Nat) : Prop := w.heap[g]? = some (.cells #[.int .u64 (s : Int)] 84 (0, 0))
theorem DBlk.cell {w : World} {g s : Nat} (h : DBlk w g s) : w.cell? ⟨g, 0, none⟩ = some (.int .u64 (s : Int)) := by
  rw [cell_of_row w g 0 _ _ _ h]
  rfl
theorem DBlk.frozen {w : World} {g s : Nat} (h : DBlk w g s) : w.frozen? ⟨g, 0, none⟩ = false := frozen_of_row w g 0 _ _ h
theorem DBlk.set {w : World} {g s : Nat} (h : DBlk w g s) (t : Nat) : DBlk (w.setCell ⟨g, 0, none⟩ (.int .u64 (t : Int))) g t := by
  unfold DBlk at *
  rw [heap_setCell_same _ _ _ _ _ _ h]
  rfl
theorem DBlk.lt {w : World} {g s : Nat} (h : DBlk w g s) : g < w.heap.size := (Array.getElem?_eq_some_iff.1 h).1
/-- How a Draw lies in memory, and its state. -/
def DAt (w : World) (d : Value) (F : Nat → Prop) (s : Nat) : Prop := ∃ g, d = .pointer (some ⟨g, 0, none⟩) ∧ DBlk w g s ∧ F = fun k => k = g

set_option maxHeartbeats 400000 in
theorem next_dev (g s : Nat) (w : World) (h : DBlk w g s) :
    Calls Try.prog 44 #[.pointer (some ⟨g, 0, none⟩)] w fun e w' => e = .returned (.int .u32 (topS (nextS s) : Nat)) ∧ DBlk w' g (nextS s) ∧ Kp (fun k => k = g) w w' := by
  have q1 := h.cell
  have q2 := h.frozen
  have H := Lib.hid h
  clear h
  go_enter Try.func44, Try.ntmps44
  go_wp2
  go_ret
  rw [next_wrap]
  refine ⟨?_, H.out.set _, Kp.set _ _ _ _⟩
  rw [← top_wrap s]
  rfl
set_option maxHeartbeats 400000 in
theorem below_dev (g s : Nat) (n : Int) (w : World) (h : DBlk w g s) (hn : n < 9223372036854775808) :
    Calls Try.prog 46 #[.pointer (some ⟨g, 0, none⟩), .int .i64 n] w fun e w' => e = .returned (.int .i64 (belowV s n)) ∧ DBlk w' g (belowS s n) ∧ Kp (fun k => k = g) w w' := by
  have H := Lib.hid h
  clear h
  by_cases h0 : n ≤ 0
  · have e1 : belowV s n = 0 := if_pos h0
    have e2 : belowS s n = s := if_pos h0
    rw [e1, e2]
    clear e1 e2
    go_enter Try.func46, Try.ntmps46
    go_wp2
    go_ret
    exact ⟨rfl, H.out, Kp.refl _ _⟩
  · have e1 : belowV s n = ((topS (nextS s) : Nat) : Int) % n := if_neg h0
    have e2 : belowS s n = nextS s := if_neg h0
    have E1 := Lib.hid e1
    have E2 := Lib.hid e2
    have ht := topS_lt (nextS_lt s)
    have hp : 0 < n := by omega
    clear e1 e2 h0
    go_enter Try.func46, Try.ntmps46
    go_wp2_with fail
    refine (next_dev g s _ H.out).mono ?_
    rintro e w1 ⟨rfl, hr, hk⟩
    have HR := Lib.hid hr
    have HK := Lib.hid hk
    clear hr hk
    generalize topS (nextS s) = tt at *
    have hr1 := Int.emod_nonneg (tt : Int) (by omega : n ≠ 0)
    have hr2 := Int.emod_lt_of_pos (tt : Int) hp
    generalize hrr : (tt : Int) % n = rr at *
    have HRR := Lib.hid hrr
    clear hrr
    go_wp2_with fail
    go_ret
    have hw : wrap64 rr = rr := by unfold wrap64; omega
    refine ⟨by rw [E1.out, HRR.out, hw]; rfl, by rw [E2.out]; exact HR.out, HK.out⟩
set_option maxHeartbeats 400000 in
theorem new_dev (s : Nat) (w : World) (hs : s < 4294967296) :
    Calls Try.prog 43 #[.int .u32 s] w fun e w' => ∃ g, e = .returned (.pointer (some ⟨g, 0, none⟩)) ∧ DBlk w' g s ∧ Gr w w' ∧ w.heap.size ≤ g := by
  go_enter Try.func43, Try.ntmps43
  go_wp2
  go_ret
  exact ⟨_, rfl, heap_alloc_new _ _, Gr.alloc (Gr.refl _) _ _, Nat.le_refl _⟩
theorem nextNil_dev (w : World) : Calls Try.prog 44 #[.pointer none] w fun e w' => e = .returned (.int .u32 0) ∧ Gr w w' := by
  go_enter Try.func44, Try.ntmps44
  go_wp2
  go_ret
  exact ⟨rfl, Gr.refl _⟩
set_option maxHeartbeats 400000 in
theorem belowNil_dev (n : Int) (w : World) (hn : n < 9223372036854775808) (_ : -9223372036854775808 ≤ n) : Calls Try.prog 46 #[.pointer none, .int .i64 n] w fun e w' => e = .returned (.int .i64 0) ∧ Gr w w' := by
  by_cases h0 : n ≤ 0
  · go_enter Try.func46, Try.ntmps46
    go_wp2
    go_ret
    exact ⟨rfl, Gr.refl _⟩
  · have hp : 0 < n := by omega
    clear h0
    go_enter Try.func46, Try.ntmps46
    go_wp2_with fail
    refine (nextNil_dev _).mono ?_
    rintro e w1 ⟨rfl, hg⟩
    have HG := Lib.hid hg
    clear hg
    go_wp2_with fail
    go_ret
    exact ⟨rfl, HG.out⟩
/-- Package draw as it was written keeps its contracts. -/
theorem draw_ok : DrawOk DAt where
  ptr := fun ⟨_, h, _⟩ => ⟨_, h⟩
  lt := by
    rintro w d F s ⟨g, rfl, hb, rfl⟩ k rfl
    exact hb.lt
  keep := by
    rintro w w' d F G s ⟨g, rfl, hb, rfl⟩ hk hd
    exact ⟨g, rfl, hk.block hb (hd g rfl), rfl⟩
  new := fun s w hs => (new_dev s w hs).mono (by
    rintro e w' ⟨g, rfl, hb, hg, hl⟩
    exact ⟨_, _, rfl, ⟨g, rfl, hb, rfl⟩, hg, fun k hk => hk ▸ hl⟩)
  next := by
    rintro d F s w _ ⟨g, rfl, hb, rfl⟩
    refine (next_dev g s w hb).mono ?_
    rintro e w' ⟨rfl, hb', hk⟩
    exact ⟨rfl, ⟨g, rfl, hb', rfl⟩, hk⟩
  below := by
    rintro d F s n w _ hn _ ⟨g, rfl, hb, rfl⟩
    refine (below_dev g s n w hb hn).mono ?_
    rintro e w' ⟨rfl, hb', hk⟩
    exact ⟨rfl, ⟨g, rfl, hb', rfl⟩, hk⟩
  nextNil := nextNil_dev
  belowNil := belowNil_dev
end Go.Proofs.Ytedobcajbelcpaa
namespace Go.Proofs.Ytedobcajbelcpaa
open Go.Shelf
def lays189_ren : Go.Shelf.Ren := ⟨fun | 189 => 52 | 125 => 59 | 257 => 60 | 128 => 64 | 129 => 65 | 294 => 66 | 295 => 67 | 296 => 68 | 297 => 69 | 298 => 70 | 299 => 71 | 216 => 72 | 300 => 73 | 301 => 74 | 328 => 76 | 329 => 77 | 330 => 78 | 331 => 79 | 332 => 80 | 215 => 81 | 343 => 82 | n => n, fun | 28 => 23 | 3 => 3 | 46 => 22 | 0 => 0 | 51 => 29 | 53 => 82 | 4 => 4 | 183 => 96 | 182 => 95 | 131 => 100 | 5 => 5 | 9 => 9 | 218 => 102 | 222 => 106 | 228 => 108 | 229 => 109 | n => n, fun | n => n⟩
theorem lays189 : Go.Proofs.Lays.n189 Try.prog lays189_ren := {
  mixed := by kernel_rfl
  f125 := Try.func59.trans (congrArg some (by kernel_rfl))
  f128 := Try.func64.trans (congrArg some (by kernel_rfl))
  f129 := Try.func65.trans (congrArg some (by kernel_rfl))
  f189 := Try.func52.trans (congrArg some (by kernel_rfl))
  f215 := Try.func81.trans (congrArg some (by kernel_rfl))
  f216 := Try.func72.trans (congrArg some (by kernel_rfl))
  f257 := Try.func60.trans (congrArg some (by kernel_rfl))
  f294 := Try.func66.trans (congrArg some (by kernel_rfl))
  f295 := Try.func67.trans (congrArg some (by kernel_rfl))
  f296 := Try.func68.trans (congrArg some (by kernel_rfl))
  f297 := Try.func69.trans (congrArg some (by kernel_rfl))
  f298 := Try.func70.trans (congrArg some (by kernel_rfl))
  f299 := Try.func71.trans (congrArg some (by kernel_rfl))
  f300 := Try.func73.trans (congrArg some (by kernel_rfl))
  f301 := Try.func74.trans (congrArg some (by kernel_rfl))
  f328 := Try.func76.trans (congrArg some (by kernel_rfl))
  f329 := Try.func77.trans (congrArg some (by kernel_rfl))
  f330 := Try.func78.trans (congrArg some (by kernel_rfl))
  f331 := Try.func79.trans (congrArg some (by kernel_rfl))
  f332 := Try.func80.trans (congrArg some (by kernel_rfl))
  f343 := Try.func82.trans (congrArg some (by kernel_rfl))
  t0 := Try.underlying0
  a0 := Try.isAgg0
  z0 := Try.sizeOf0
  v0 := Try.zeroValue0
  t3 := Try.underlying3
  a3 := Try.isAgg3
  z3 := Try.sizeOf3
  v3 := Try.zeroValue3
  t4 := Try.underlying4
  a4 := Try.isAgg4
  z4 := Try.sizeOf4
  v4 := Try.zeroValue4
  t5 := Try.underlying5
  a5 := Try.isAgg5
  z5 := Try.sizeOf5
  v5 := Try.zeroValue5
  t9 := Try.underlying9
  a9 := Try.isAgg9
  z9 := Try.sizeOf9
  v9 := Try.zeroValue9
  t28 := Try.underlying23
  a28 := Try.isAgg23
  z28 := Try.sizeOf23
  v28 := Try.zeroValue23
  t46 := Try.underlying22
  a46 := Try.isAgg22
  z46 := Try.sizeOf22
  v46 := Try.zeroValue22
  t51 := Try.underlying29
  a51 := Try.isAgg29
  z51 := Try.sizeOf29
  v51 := Try.zeroValue29
  t53 := Try.underlying82
  a53 := Try.isAgg82
  z53 := Try.sizeOf82
  v53 := Try.zeroValue82
  t131 := Try.underlying100
  a131 := Try.isAgg100
  z131 := Try.sizeOf100
  v131 := Try.zeroValue100
  t182 := Try.underlying95
  a182 := Try.isAgg95
  z182 := Try.sizeOf95
  v182 := Try.zeroValue95
  t183 := Try.underlying96
  a183 := Try.isAgg96
  z183 := Try.sizeOf96
  v183 := Try.zeroValue96
  t218 := Try.underlying102
  a218 := Try.isAgg102
  z218 := Try.sizeOf102
  v218 := Try.zeroValue102
  t222 := Try.underlying106
  a222 := Try.isAgg106
  z222 := Try.sizeOf106
  v222 := Try.zeroValue106
  t228 := Try.underlying108
  a228 := Try.isAgg108
  z228 := Try.sizeOf108
  v228 := Try.zeroValue108
  t229 := Try.underlying109
  a229 := Try.isAgg109
  z229 := Try.sizeOf109
  v229 := Try.zeroValue109 }
open Go.Sort Go.RowKit in
theorem slices_Sort_int (blk off cap : Nat) (zs : List Int) (w : World) (hH : Holds (Value.int .i64) w blk off zs.toArray) (hblk : blk < w.heap.size) (hsz : zs.length < 4611686018427387904) :
    Calls Try.prog 52 #[.slice (some ⟨blk, off, none⟩) zs.length cap] w fun e w' =>
      e = .returned (.tuple #[]) ∧ ∃ n os, w' = grow (putRow (Value.int .i64) (Sort.ahead w n) blk off (zs.mergeSort fun x y => decide (x ≤ y)).toArray) os := Any.slices_Sort_int lays189 blk off cap zs w hH hblk hsz
open Go.RowKit Go.Sort in
/-- .. and plain. (LAID: no walk: one application.) -/
theorem slices_Sort_int_none (p : Option Addr) (cap : Nat) (w : World) :
    Calls Try.prog 52 #[.slice p 0 cap] w fun e w' => e = .returned (.tuple #[]) ∧ w' = w := Any.slices_Sort_int_none lays189 p cap w
end Go.Proofs.Ytedobcajbelcpaa
