/-
  Package mat as it was written: Mul.
-/
import Derived.Test.YtgbdhdjcjilooaaMf
namespace Go.Proofs.Ytgbdhdjcjilooaa
open Go.RowKit

/-- A block's cells that are nil rows. -/
def nils (n : Nat) : Array Value := (List.replicate n (Value.slice none 0 0)).toArray
theorem nils_made (n : Nat) : madeCells #[.slice none 0 0] n = nils n := by
  apply Array.ext'
  rw [toList_madeCells_one]
  simp [nils]
theorem make24 (l c : Nat) (h : l ≤ c) (hc : c ≤ 1000000) (w : World) :
    (Instr.makeSlice 24 (.int .i64 (l : Int)) (.int .i64 (c : Int))).run Try.prog w = .ok (.slice (some ⟨w.heap.size, 0, none⟩) l c) (w.alloc (.cells (nils c) 22)) := by
  obtain ⟨i, hi, hzz⟩ := Option.map_eq_some_iff.1 info22
  simp only [Prod.mk.injEq] at hzz
  obtain ⟨hz, hs, hb⟩ := hzz
  have hr := run_make (P := Try.prog) w 24 22 i _ Try.underlying24 hi hz .i64 .i64 l c (by omega) (by omega) (by rw [hb]; omega) (by omega)
  rw [Int.toNat_natCast, Int.toNat_natCast, hs, Nat.mul_one] at hr
  rw [hr, ← nils_made]
  rfl
/-- Since w0, block g holds n rows, of which the first j are as P says. -/
structure Fill (w0 W : World) (g n : Nat) (P : Nat → List Int → Prop) (j : Nat) (us : List Value) (L : List (List Int)) : Prop where
  own : W.ownsRow w0.heap.size 22 1 (.slice (some ⟨g, 0, none⟩) n n) n us
  row : ∀ i, i < n → Bs W (us.getD i undef) (L.getD i []) ∧ Rb w0.heap.size W (us.getD i undef)
  len : L.length = n
  is : ∀ i, i < j → P i (L.getD i [])
  gr : Gr w0 W
section
variable {w0 W : World} {g n : Nat} {P : Nat → List Int → Prop} {j : Nat} {us : List Value} {L : List (List Int)}
theorem Fill.start (w : World) (n : Nat) (hn : n ≤ 1000000) (P : Nat → List Int → Prop) : Fill w (w.alloc (.cells (nils n) 22)) w.heap.size n P 0 (List.replicate n (.slice none 0 0)) (List.replicate n []) := by
  refine ⟨⟨by simp, .inr ⟨w.heap.size, n, nils n, rfl, Nat.le_refl _, heap_alloc_new _ _, Nat.le_refl _, by unfold maxLen; omega, by simp [nils], by simp [nils]⟩⟩, fun i hi => ?_, by simp, by omega, Gr.alloc (Gr.refl _) _ _⟩
  have e1 : (List.replicate n (Value.slice none 0 0)).getD i undef = .slice none 0 0 := by rw [List.getD_eq_getElem?_getD, List.getElem?_replicate, if_pos hi]; rfl
  have e2 : (List.replicate n ([] : List Int)).getD i [] = [] := by rw [List.getD_eq_getElem?_getD, List.getElem?_replicate, if_pos hi]; rfl
  rw [e1, e2]
  exact ⟨Bs.nil _, fun a n c e _ => by cases e⟩
theorem Fill.cell (h : Fill w0 W g n P j us L) (i : Nat) (hi : i < n) : W.cell? ⟨g, i, none⟩ = some (us.getD i undef) := by
  obtain ⟨g', c', he, _, _, _, _, hc⟩ := ownsRow_cell h.own (by omega)
  cases he
  exact hc i hi
theorem Fill.frozen (h : Fill w0 W g n P j us L) (i : Nat) : W.frozen? ⟨g, i, none⟩ = false := by
  obtain ⟨_, ⟨he, _⟩ | ⟨g', c', cur, he, _, hg, _⟩⟩ := h.own
  · cases he
  · cases he
    exact frozen_of_row W g i _ _ hg
theorem Fill.base (h : Fill w0 W g n P j us L) : w0.heap.size ≤ g := (ownsRow_not_bytes h.own g rfl).1
theorem Fill.grow {W' : World} (h : Fill w0 W g n P j us L) (hg : Gr W W') : Fill w0 W' g n P j us L :=
  ⟨h.own.of_gr hg, fun i hi => Rb.gr (h.row i hi).1 (h.row i hi).2 hg, h.len, h.is, Gr.trans h.gr hg⟩
theorem Fill.put {u : Value} {l : List Int} (h : Fill w0 W g n P j us L) (hj : j < n) (hb : Bs W u l) (hrb : Rb w0.heap.size W u) (hp : P j l) :
    Fill w0 (W.setCell ⟨g, j, none⟩ u) g n P (j + 1) (us.set j u) (L.set j l) := by
  obtain ⟨h1, h2⟩ := Rws.set h.own h.len h.row j hj hb hrb
  refine ⟨h1, h2, by rw [List.length_set]; exact h.len, fun i hi => ?_, Gr.setCell h.gr h.base u⟩
  by_cases e : i = j
  · subst e
    rw [getD_set_self _ _ _ (by rw [h.len]; exact hj)]
    exact hp
  · rw [getD_set_ne _ _ _ _ (fun c => e c.symm)]
    exact h.is i (by omega)
theorem Fill.bss (h : Fill w0 W g n P j us L) : Bss W (.slice (some ⟨g, 0, none⟩) n n) L := owns_bss h.own h.len fun i hi => (h.row i (by rw [← h.len]; exact hi)).1
end
theorem L.lc_snoc : ∀ (X : List L.V) (c y : L.V), L.lc c (X ++ [y]) = L.vadd (L.lc c X) (L.smul (c X.length) y)
  | [], c, y => by
    show L.vadd (L.smul (c 0) y) L.vzero = L.vadd L.vzero (L.smul (c 0) y)
    rw [L.vadd_zero, L.vzero_add]
  | x :: X, c, y => by
    show L.vadd (L.smul (c 0) x) (L.lc (fun i => c (i + 1)) (X ++ [y])) = L.vadd (L.vadd (L.smul (c 0) x) (L.lc (fun i => c (i + 1)) X)) (L.smul (c (X.length + 1)) y)
    rw [L.lc_snoc X, L.vadd_assoc]
theorem axL_byt {c : Int} {x y : List Int} (hy : ∀ z ∈ y, Byt z) : ∀ z ∈ axL c x y, Byt z := by
  rw [← lst_eq_ax]
  exact axF_byt fun i => getD_byt hy i
theorem New.under {w w1 w2 : World} {v : Value} {l : List Int} (hg : Gr w w1) (h : New w1 w2 v l) : New w w2 v l := by
  obtain ⟨h1, h2, h3⟩ := h
  refine ⟨Gr.trans hg h1, h2, ?_⟩
  rcases h3 with h3 | ⟨g, c, cur, e1, e2, e3⟩
  · exact .inl h3
  · exact .inr ⟨g, c, cur, e1, Nat.le_trans hg.size e2, e3⟩
/-- l is the sum of the first rows of X, each times the element of r with its index. -/
def IsW (m : Nat) (r : List Int) (X : List (List Int)) (l : List Int) : Prop := l.length = m ∧ (∀ x ∈ l, Byt x) ∧ vec l = L.lc (vec r) (X.map vec)
theorem IsW.start (m : Nat) (r : List Int) : IsW m r [] (List.replicate m 0) := by
  refine ⟨by simp, fun x hx => ?_, ?_⟩
  · rw [(List.mem_replicate.1 hx).2]
    unfold Byt
    omega
  · funext i
    show fb ((List.replicate m 0).getD i 0) = L.zero
    rw [replicate_getD, fb_zero]
theorem IsW.next {m j : Nat} {r l : List Int} {X : List (List Int)} (h : IsW m r (X.take j) l) (hr : ∀ x ∈ r, Byt x) (hX : Wide m X) (hj : j < X.length) : IsW m r (X.take (j + 1)) (axL (r.getD j 0) (X.getD j []) l) := by
  obtain ⟨h1, h2, h3⟩ := h
  have hx := hX.at j hj
  have hlen : ((X.take j).map vec).length = j := by rw [List.length_map, List.length_take]; omega
  refine ⟨by rw [axL_length]; exact hx.1, axL_byt h2, ?_⟩
  rw [vec_ax (getD_byt hr j) hx.2 h2 (by rw [hx.1, h1]), h3, List.take_add_one, List.getElem?_eq_getElem hj]
  show _ = L.lc (vec r) ((X.take j ++ [X[j]]).map vec)
  rw [List.map_append, List.map_singleton, L.lc_snoc, hlen, List.getD_eq_getElem?_getD (l := X), List.getElem?_eq_getElem hj]
  rfl
set_option maxRecDepth 100000 in
set_option maxHeartbeats 800000 in
theorem weighted_any (f vr vx : Value) (r : List Int) (X : List (List Int)) (w : World) (hf : IsF w f) (hr : Bs w vr r) (hx : Bss w vx X) (hl : X.length ≤ 1000) (hrl : r.length = X.length) (hX : Wide (wd X) X) (hm : wd X ≤ 64) :
    Calls Try.prog 36 #[f, vr, vx] w fun e w' => ∃ v l, e = .returned v ∧ New w w' v l ∧ IsW (wd X) r X l := by
  have HS := Lib.hid hx
  have HF := Lib.hid hf
  have HRB := Lib.hid hr.1
  have HXW := Lib.hid hX
  obtain ⟨_, oar, cr, rfl, r1, r2, r3, r4⟩ := hr
  obtain ⟨oa, c0, rfl, h1, h2, h3, h4⟩ := hx
  obtain ⟨n, hn⟩ : ∃ n, X.length = n := ⟨_, rfl⟩
  obtain ⟨m, hmm⟩ : ∃ m, wd X = m := ⟨_, rfl⟩
  rw [hrl] at r1 r4 ⊢
  rw [hn] at HS h1 h4 hl r1 r4 hrl ⊢
  rw [hmm] at HXW hm ⊢
  have HA := Lib.hid h4
  have HR := Lib.hid r4
  have HN := Lib.hid hn
  have HMM := Lib.hid hmm
  have hoa : n = 0 ∨ ∃ a, oa = some a := by
    cases oa with
    | none => exact .inl (by have := h3 rfl; omega)
    | some a => exact .inr ⟨a, rfl⟩
  have hor : n = 0 ∨ ∃ a, oar = some a := by
    cases oar with
    | none => exact .inl (by have := r3 rfl; omega)
    | some a => exact .inr ⟨a, rfl⟩
  have hmk := make22 m m (by omega) (by omega)
  have hR : ∃ cur, cur = rowB (List.replicate m 0) := ⟨_, rfl⟩
  obtain ⟨cur, hcur⟩ := hR
  rw [← hcur] at hmk
  have HC := Lib.hid hcur
  have HRL := Lib.hid hrl
  clear hf hX hn hmm h3 h4 r3 r4 hcur hrl
  go_enter Try.func36, Try.ntmps36
  go_wp2_with (first | (go_at_call 24; refine (columns_any _ X _ HS.out).mono ?_; rw [HMM.out]; rintro e w1 ⟨rfl, hg1⟩; have G1 := Lib.hid hg1; clear hg1))
  clear hmk
  have HB : Hid (New w (w1.alloc (.cells cur 5)) (.slice (some ⟨w1.heap.size, 0, none⟩) m m) (List.replicate m 0)) := Lib.hid (New.of_blk (Gr.alloc G1.out _ _) (IsW.start m r).2.1 G1.out.size (by rw [HC.out]; exact heap_alloc_new _ _) (by simp) (by omega))
  clear HC
  generalize hW : w1.alloc (.cells cur 5) = W at *
  generalize hG : w1.heap.size = g at *
  go_loopw [7, 15] (fun sv i wr => ∃ (j : Nat) (l : List Int), j ≤ n ∧ i = .int .i64 j ∧ New w wr sv l ∧ IsW m r (X.take j) l) (fun _ i _ => n - (intOf i).toNat)
  case atStart => exact ⟨0, _, by omega, rfl, HB.out, by rw [List.take_zero]; exact IsW.start m r⟩
  case round =>
    clear HB
    obtain ⟨j, l, hj, rfl, hnw, hw⟩ := hrel
    obtain ⟨o2, m2, c2, rfl⟩ := New.form3 hnw
    by_cases hlt : j < n
    · obtain ⟨a, rfl⟩ : ∃ a, oa = some a := by
        rcases hoa with c1 | c1
        · omega
        · exact c1
      obtain ⟨ar, rfl⟩ : ∃ a, oar = some a := by
        rcases hor with c1 | c1
        · omega
        · exact c1
      obtain ⟨u, q0, hu⟩ := HA.out a rfl j hlt
      have q1 := cell_grown hnw.1 q0
      have q2 := cell_grown hnw.1 (HR.out ar rfl j hlt)
      have hzb := getD_byt HRB.out j
      have HU := Lib.hid (Bs.grown hu hnw.1)
      obtain ⟨ou, cu, rfl⟩ := hu.form
      have hxw := HXW.out.at j (by rw [HN.out]; exact hlt)
      have HW := Lib.hid hw
      have HNW := Lib.hid hnw
      have HXL := Lib.hid hxw.1
      obtain ⟨z, hz⟩ : ∃ z, r.getD j 0 = z := ⟨_, rfl⟩
      rw [hz] at q2 hzb
      have HZ := Lib.hid hz
      rw [hxw.1] at HU q1
      clear hz q0 hu hxw hw hnw
      go_wp2_with (first | (go_at_call 45; refine (ok_axpy f _ _ z (X.getD j []) l _ (IsF.grown HF.out HNW.out.1) hzb HU.out HNW.out.bs (by rw [HXL.out]; omega) (by rw [HXL.out]; exact HW.out.1)).mono ?_; rintro e w2 ⟨v2, rfl, hnw2⟩; have HN2 := Lib.hid hnw2; clear hnw2))
      refine ⟨⟨j + 1, _, by omega, by go_num, New.under HNW.out.1 HN2.out, ?_⟩, by simp [intOf]; omega⟩
      rw [← HZ.out]
      exact HW.out.next HRB.out HXW.out (by rw [HN.out]; exact hlt)
    · obtain rfl : j = n := by omega
      rw [List.take_of_length_le (by rw [HN.out]; omega)] at hw
      have HW := Lib.hid hw
      have HNW := Lib.hid hnw
      clear hw hnw
      go_wp2
      go_ret
      exact ⟨_, l, rfl, HNW.out, HW.out⟩
theorem isMul_of {m : Nat} {A X o : List (List Int)} (hl : o.length = A.length) (h : ∀ i, i < A.length → IsW m (A.getD i []) X (o.getD i [])) : IsMul m A X o := by
  refine ⟨fun r hr => ?_, ?_⟩
  · obtain ⟨i, hi, rfl⟩ := List.getElem_of_mem hr
    have := h i (by omega)
    rw [List.getD_eq_getElem?_getD (l := o), List.getElem?_eq_getElem hi] at this
    exact ⟨this.1, this.2.1⟩
  · apply List.ext_getElem
    · simp [L.mulM, hl]
    intro i h1 h2
    rw [List.length_map] at h1
    have := (h i (by omega)).2.2
    rw [List.getD_eq_getElem?_getD (l := o), List.getElem?_eq_getElem h1, List.getD_eq_getElem?_getD (l := A), List.getElem?_eq_getElem (by omega)] at this
    simpa [L.mulM] using this
set_option maxRecDepth 100000 in
set_option maxHeartbeats 1600000 in
theorem mul_pos (f va vx : Value) (A X : List (List Int)) (w : World) (hf : IsF w f) (ha : Bss w va A) (hx : Bss w vx X) (hl : A.length ≤ 1000) (hlx : X.length ≤ 1000) (hma : mayL A = true) (hmx : mayL X = true) (h0 : 0 < A.length) (he : wd A = X.length) :
    Calls Try.prog 19 #[f, va, vx] w fun e w' => ∃ v out, e = .returned (.tuple #[v, .bool true]) ∧ Bss w' v out ∧ Gr w w' ∧ IsMul (wd X) A X out := by
  have WA := Lib.hid (Wide.of_bss ha hma)
  have WX := Lib.hid (Wide.of_bss hx hmx)
  have HM := Lib.hid hma
  have HMX := Lib.hid hmx
  have HS := Lib.hid ha
  have HSX := Lib.hid hx
  have HF := Lib.hid hf
  have hm64 : wd X ≤ 64 := by
    by_cases hx0 : 0 < X.length
    · exact (mayL_at hmx 0 hx0).2
    · have : X = [] := List.eq_nil_of_length_eq_zero (by omega)
      subst this
      exact Nat.zero_le _
  have HM64 := Lib.hid hm64
  obtain ⟨a, c0, rfl, h1, h2, h3⟩ := Bss.at ha h0
  obtain ⟨ox, cx, rfl, x1, x2, x3, x4⟩ := hx
  have HA := Lib.hid h3
  obtain ⟨n, hn⟩ : ∃ n, A.length = n := ⟨_, rfl⟩
  obtain ⟨p, hp⟩ : ∃ p, X.length = p := ⟨_, rfl⟩
  rw [hn] at HS h1 hl h0 HA ⊢
  rw [hp] at HSX x1 hlx he ⊢
  have HN := Lib.hid hn
  have HP := Lib.hid hp
  have HE := Lib.hid he
  have hmk := make24 n n (by omega) (by omega)
  have hR : ∃ cur, cur = nils n := ⟨_, rfl⟩
  obtain ⟨cur, hcur⟩ := hR
  rw [← hcur] at hmk
  have HC := Lib.hid hcur
  clear hf ha hma hmx hm64 h3 x3 x4 hn hp he hcur
  go_enter Try.func19, Try.ntmps19
  go_wp2_with fail
  refine (may_any _ A w HS.out (by rw [HN.out]; omega)).mono ?_
  rintro e w1 ⟨rfl, hg1⟩
  rw [HM.out]
  have G1 := Lib.hid hg1
  clear hg1
  go_wp2_with fail
  refine (may_any _ X w1 (Bss.grown HSX.out G1.out) (by rw [HP.out]; omega)).mono ?_
  rintro e w2 ⟨rfl, hg2⟩
  rw [HMX.out]
  have G2 := Lib.hid (Gr.trans G1.out hg2)
  clear hg2
  go_wp2_with fail
  refine (columns_any _ A w2 (Bss.grown HS.out G2.out)).mono ?_
  rw [HE.out]
  rintro e w3 ⟨rfl, hg3⟩
  have G3 := Lib.hid (Gr.trans G2.out hg3)
  clear hg3
  go_wp2_with fail
  refine (mtabled_any f _ (IsF.grown HF.out G3.out)).mono ?_
  rintro e w4 ⟨b, rfl, hfb, hg4⟩
  have HFB := Lib.hid hfb
  have G4 := Lib.hid (Gr.trans G3.out hg4)
  clear hfb hg4
  go_wp2_with fail
  have HB : Hid (Fill w4 (w4.alloc (.cells cur 22)) w4.heap.size n (fun i l => IsW (wd X) (A.getD i []) X l) 0 (List.replicate n (.slice none 0 0)) (List.replicate n [])) := Lib.hid (by rw [HC.out]; exact Fill.start w4 n (by omega) _)
  clear HC hmk
  generalize hW : w4.alloc (.cells cur 22) = W at *
  generalize hG : w4.heap.size = g at *
  go_loopw [38] (fun i wr => ∃ (j : Nat) (us : List Value) (L : List (List Int)), j ≤ n ∧ i = .int .i64 j ∧ Fill w4 wr g n (fun i l => IsW (wd X) (A.getD i []) X l) j us L) (fun i _ => n - (intOf i).toNat)
  case atStart => exact ⟨0, _, _, by omega, rfl, HB.out⟩
  case round =>
    clear HB
    obtain ⟨j, us, Lx, hj, rfl, hfl⟩ := hrel
    have FL := Lib.hid hfl
    clear hfl
    by_cases hlt : j < n
    · obtain ⟨u, q0, hu⟩ := HA.out j hlt
      have q1 := cell_grown (Gr.trans G4.out FL.out.gr) q0
      have HU := Lib.hid (Bs.grown hu (Gr.trans G4.out FL.out.gr))
      obtain ⟨ou, cu, rfl⟩ := hu.form
      have qc := FL.out.cell j hlt
      have qf := FL.out.frozen j
      have HAL := Lib.hid (WA.out.at j (by rw [HN.out]; exact hlt)).1
      rw [HAL.out, HE.out] at q1 HU
      clear q0 hu
      go_wp2_with (first | (go_at_call 36; refine (weighted_any _ _ _ (A.getD j []) X _ (Or.inr ⟨b, rfl, FieldAt.grown HFB.out FL.out.gr⟩) HU.out (Bss.grown HSX.out (Gr.trans G4.out FL.out.gr)) (by rw [HP.out]; exact hlx) (by rw [HAL.out, HE.out, HP.out]) WX.out HM64.out).mono ?_; rintro e w5 ⟨v5, l5, rfl, hnw, hw5⟩; obtain ⟨o5, m5, c5, rfl⟩ := New.form3 hnw; have hc5 := cell_grown hnw.1 qc; have hf5 := frozen_grown hnw.1 qc qf; have HN5 := Lib.hid hnw; have HW5 := Lib.hid hw5; clear hnw hw5))
      exact ⟨⟨j + 1, _, _, by omega, by go_num, (FL.out.grow HN5.out.1).put hlt (New.bs HN5.out) (New.rb HN5.out _) HW5.out⟩, by simp [intOf]; omega⟩
    · obtain rfl : j = n := by omega
      go_wp2
      go_ret2
      exact ⟨_, Lx, rfl, FL.out.bss, Gr.trans G4.out FL.out.gr, isMul_of (by rw [FL.out.len, HN.out]) (fun i hi => FL.out.is i (by rw [← HN.out]; exact hi))⟩
set_option maxRecDepth 100000 in
set_option maxHeartbeats 1600000 in
theorem mul_none (f vx : Value) (oa : Option Addr) (ca : Nat) (X : List (List Int)) (w : World) (hf : IsF w f) (ha : Bss w (.slice oa 0 ca) []) (hx : Bss w vx X) (hlx : X.length ≤ 1000) (hmx : mayL X = true) :
    Calls Try.prog 19 #[f, .slice oa 0 ca, vx] w fun e w' => ∃ v out, e = .returned (.tuple #[v, .bool true]) ∧ Bss w' v out ∧ Gr w w' ∧ IsMul (wd X) [] X out := by
  have HMX := Lib.hid hmx
  have HS := Lib.hid ha
  have HSX := Lib.hid hx
  have HF := Lib.hid hf
  have hmk : ∀ w, (Instr.makeSlice 24 (.int .i64 0) (.int .i64 0)).run Try.prog w = .ok (.slice (some ⟨w.heap.size, 0, none⟩) 0 0) (w.alloc (.cells (nils 0) 22)) := fun w => make24 0 0 (by omega) (by omega) w
  have hR : ∃ cur, cur = nils 0 := ⟨_, rfl⟩
  obtain ⟨cur, hcur⟩ := hR
  rw [← hcur] at hmk
  have HC := Lib.hid hcur
  clear hf ha hx hmx hcur
  go_enter Try.func19, Try.ntmps19
  go_wp2_with fail
  refine (may_any _ [] w HS.out (by simp)).mono ?_
  rintro e w1 ⟨rfl, hg1⟩
  rw [show mayL [] = true from rfl]
  have G1 := Lib.hid hg1
  clear hg1
  go_wp2_with fail
  refine (may_any _ X w1 (Bss.grown HSX.out G1.out) (by omega)).mono ?_
  rintro e w2 ⟨rfl, hg2⟩
  rw [HMX.out]
  have G2 := Lib.hid (Gr.trans G1.out hg2)
  clear hg2
  go_wp2_with fail
  refine (mtabled_any f _ (IsF.grown HF.out G2.out)).mono ?_
  rintro e w4 ⟨b, rfl, hfb, hg4⟩
  have G4 := Lib.hid (Gr.trans G2.out hg4)
  clear hfb hg4
  go_wp2_with fail
  have HB : Hid (Fill w4 (w4.alloc (.cells cur 22)) w4.heap.size 0 (fun _ _ => True) 0 (List.replicate 0 (.slice none 0 0)) (List.replicate 0 [])) := Lib.hid (by rw [HC.out]; exact Fill.start w4 0 (by omega) _)
  clear HC hmk
  generalize hW : w4.alloc (.cells cur 22) = W at *
  generalize hG : w4.heap.size = g at *
  go_loopw [38] (fun i wr => i = .int .i64 0 ∧ wr = W) (fun _ _ => 0)
  case atStart => exact ⟨rfl, rfl⟩
  case round =>
    obtain ⟨rfl, rfl⟩ := hrel
    go_wp2
    go_ret2
    exact ⟨_, [], rfl, HB.out.bss, Gr.trans G4.out HB.out.gr, isMul_of rfl (fun i hi => by simp at hi)⟩
set_option maxRecDepth 100000 in
set_option maxHeartbeats 1600000 in
theorem ok_mulNe : ∀ (f va vx : Value) (A X : List (List Int)) (w : World), IsF w f → Bss w va A → Bss w vx X → A.length ≤ 1000 → X.length ≤ 1000 → mayL A = true → mayL X = true → A ≠ [] → wd A ≠ X.length →
    Calls Try.prog 19 #[f, va, vx] w fun e w' => ∃ v, e = .returned (.tuple #[v, .bool false]) ∧ Bss w' v [] ∧ Gr w w' := by
  intro f va vx A X w _ ha hx hl hlx hma hmx hne he
  have h0 : 0 < A.length := List.length_pos_iff.2 hne
  have HM := Lib.hid hma
  have HMX := Lib.hid hmx
  have HS := Lib.hid ha
  have HSX := Lib.hid hx
  obtain ⟨a, c0, rfl, h1, h2, h3⟩ := Bss.at ha h0
  obtain ⟨ox, cx, rfl, x1, x2, x3, x4⟩ := hx
  obtain ⟨n, hn⟩ : ∃ n, A.length = n := ⟨_, rfl⟩
  obtain ⟨p, hp⟩ : ∃ p, X.length = p := ⟨_, rfl⟩
  obtain ⟨k, hk⟩ : ∃ k, wd A = k := ⟨_, rfl⟩
  rw [hn] at HS h1 hl h0 ⊢
  rw [hp] at HSX x1 hlx he ⊢
  rw [hk] at he
  have HN := Lib.hid hn
  have HP := Lib.hid hp
  have HK := Lib.hid hk
  have hb : ((k : Int) != (p : Int)) = true := by simp; omega
  clear ha hma hmx hne h3 x3 x4 hn hp hk he
  go_enter Try.func19, Try.ntmps19
  go_wp2_with fail
  refine (may_any _ A w HS.out (by rw [HN.out]; omega)).mono ?_
  rintro e w1 ⟨rfl, hg1⟩
  rw [HM.out]
  have G1 := Lib.hid hg1
  clear hg1
  go_wp2_with fail
  refine (may_any _ X w1 (Bss.grown HSX.out G1.out) (by rw [HP.out]; omega)).mono ?_
  rintro e w2 ⟨rfl, hg2⟩
  rw [HMX.out]
  have G2 := Lib.hid (Gr.trans G1.out hg2)
  clear hg2
  go_wp2_with fail
  refine (columns_any _ A w2 (Bss.grown HS.out G2.out)).mono ?_
  rw [HK.out]
  rintro e w3 ⟨rfl, hg3⟩
  have G3 := Lib.hid (Gr.trans G2.out hg3)
  clear hg3
  go_wp2
  go_ret2
  exact ⟨_, rfl, Bss.nil _, G3.out⟩
theorem ok_mul : ∀ (f va vx : Value) (A X : List (List Int)) (w : World), IsF w f → Bss w va A → Bss w vx X → A.length ≤ 1000 → X.length ≤ 1000 → mayL A = true → mayL X = true → (A = [] ∨ wd A = X.length) →
    Calls Try.prog 19 #[f, va, vx] w fun e w' => ∃ v out, e = .returned (.tuple #[v, .bool true]) ∧ Bss w' v out ∧ Gr w w' ∧ IsMul (wd X) A X out :=
  fun f va vx A X w hf ha hx hl hlx hma hmx he => by
    by_cases h0 : 0 < A.length
    · refine mul_pos f va vx A X w hf ha hx hl hlx hma hmx h0 ?_
      rcases he with rfl | he
      · simp at h0
      · exact he
    · obtain rfl : A = [] := List.eq_nil_of_length_eq_zero (by omega)
      have hs := ha
      obtain ⟨oa, c, rfl, _, _, _, _⟩ := ha
      exact mul_none f vx oa c X w hf hs hx hlx hmx
end Go.Proofs.Ytgbdhdjcjilooaa
