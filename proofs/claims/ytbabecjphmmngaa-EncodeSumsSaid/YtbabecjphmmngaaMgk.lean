/-
  Texts laid behind one another: Mg Pd Do Ly Cj.
-/
import Derived.Test.YtbabecjphmmngaaMgj
import Derived.Test.YtbabecjphmmngaaMgg
import Derived.Test.YtbabecjphmmngaaMgi
import Derived.Test.YtbabecjphmmngaaMga
import Derived.Shelf.Sort.Plain
import Derived.Shelf.Slices.In.SortNone
import Derived.Test.YtbabecjphmmngaaMgc
import Derived.Lib.SortBridge
namespace Go.Proofs.Ytbabecjphmmngaa
open Go.RowKit

/-- Since w0, block g holds n rows, of which the first j are as P says. -/
structure Fill (w0 W : World) (g n : Nat) (P : Nat → List Int → Prop) (j : Nat) (us : List Value) (L : List (List Int)) : Prop where
  own : W.ownsRow w0.heap.size 23 1 (.slice (some ⟨g, 0, none⟩) n n) n us
  row : ∀ i, i < n → Bs W (us.getD i undef) (L.getD i []) ∧ Rb w0.heap.size W (us.getD i undef)
  len : L.length = n
  is : ∀ i, i < j → P i (L.getD i [])
  gr : Gr w0 W
section
variable {w0 W : World} {g n : Nat} {P : Nat → List Int → Prop} {j : Nat} {us : List Value} {L : List (List Int)}
theorem Fill.start (w : World) (n : Nat) (hn : n ≤ 1000000) (P : Nat → List Int → Prop) : Fill w (w.alloc (.cells (nils n) 23)) w.heap.size n P 0 (List.replicate n (.slice none 0 0)) (List.replicate n []) := by
  refine ⟨⟨by simp, .inr ⟨w.heap.size, n, nils n, rfl, Nat.le_refl _, heap_alloc_new _ _, Nat.le_refl _, by unfold maxLen; omega, by simp [nils], by simp [nils]⟩⟩, fun i hi => ?_, by simp, by omega, Gr.alloc (Gr.refl _) _ _⟩
  have e1 : (List.replicate n (Value.slice none 0 0)).getD i undef = .slice none 0 0 := by rw [List.getD_eq_getElem?_getD, List.getElem?_replicate, if_pos hi]; rfl
  have e2 : (List.replicate n ([] : List Int)).getD i [] = [] := by rw [List.getD_eq_getElem?_getD, List.getElem?_replicate, if_pos hi]; rfl
  rw [e1, e2]
  exact ⟨Bs.nil _, fun a n c e _ => by cases e⟩
theorem Fill.cell (h : Fill w0 W g n P j us L) (i : Nat) (hi : i < n) : W.cell? ⟨g, i, none⟩ = some (us.getD i undef) := by
  obtain ⟨g', c', he, _, _, _, _, hc⟩ := ownsRow_cell h.own (by omega)
  cases he
  exact hc i hi
theorem Fill.frozen (h : Fill w0 W g n P j us L) (i : Nat) : W.frozen? ⟨g, i, none⟩ = false := by
  obtain ⟨_, ⟨he, _⟩ | ⟨g', c', cur, he, _, hg, _⟩⟩ := h.own
  · cases he
  · cases he
    exact frozen_of_row W g i _ _ hg
theorem Fill.base (h : Fill w0 W g n P j us L) : w0.heap.size ≤ g := (ownsRow_not_bytes h.own g rfl).1
theorem Fill.grow {W' : World} (h : Fill w0 W g n P j us L) (hg : Gr W W') : Fill w0 W' g n P j us L :=
  ⟨h.own.of_gr hg, fun i hi => Rb.gr (h.row i hi).1 (h.row i hi).2 hg, h.len, h.is, Gr.trans h.gr hg⟩
theorem Fill.put {u : Value} {l : List Int} (h : Fill w0 W g n P j us L) (hj : j < n) (hb : Bs W u l) (hrb : Rb w0.heap.size W u) (hp : P j l) :
    Fill w0 (W.setCell ⟨g, j, none⟩ u) g n P (j + 1) (us.set j u) (L.set j l) := by
  obtain ⟨h1, h2⟩ := Rws.set h.own h.len h.row j hj hb hrb
  refine ⟨h1, h2, by rw [List.length_set]; exact h.len, fun i hi => ?_, Gr.setCell h.gr h.base u⟩
  by_cases e : i = j
  · subst e
    rw [getD_set_self _ _ _ (by rw [h.len]; exact hj)]
    exact hp
  · rw [getD_set_ne _ _ _ _ (fun c => e c.symm)]
    exact h.is i (by omega)
theorem Fill.bss (h : Fill w0 W g n P j us L) : Bss W (.slice (some ⟨g, 0, none⟩) n n) L := owns_bss h.own h.len fun i hi => (h.row i (by rw [← h.len]; exact hi)).1
end
theorem L.lc_snoc : ∀ (X : List L.V) (c y : L.V), L.lc c (X ++ [y]) = L.vadd (L.lc c X) (L.smul (c X.length) y)
  | [], c, y => by
    show L.vadd (L.smul (c 0) y) L.vzero = L.vadd L.vzero (L.smul (c 0) y)
    rw [L.vadd_zero, L.vzero_add]
  | x :: X, c, y => by
    show L.vadd (L.smul (c 0) x) (L.lc (fun i => c (i + 1)) (X ++ [y])) = L.vadd (L.vadd (L.smul (c 0) x) (L.lc (fun i => c (i + 1)) X)) (L.smul (c (X.length + 1)) y)
    rw [L.lc_snoc X, L.vadd_assoc]
theorem axL_byt {c : Int} {x y : List Int} (hy : ∀ z ∈ y, Byt z) : ∀ z ∈ axL c x y, Byt z := by
  rw [← lst_eq_ax]
  exact axF_byt fun i => getD_byt hy i
/-- l is the sum of the first rows of X, each times the element of r with its index. -/
def IsW (m : Nat) (r : List Int) (X : List (List Int)) (l : List Int) : Prop := l.length = m ∧ (∀ x ∈ l, Byt x) ∧ vec l = L.lc (vec r) (X.map vec)
theorem IsW.start (m : Nat) (r : List Int) : IsW m r [] (List.replicate m 0) := by
  refine ⟨by simp, fun x hx => ?_, ?_⟩
  · rw [(List.mem_replicate.1 hx).2]
    unfold Byt
    omega
  · funext i
    show fb ((List.replicate m 0).getD i 0) = L.zero
    rw [replicate_getD, fb_zero]
theorem IsW.next {m j : Nat} {r l : List Int} {X : List (List Int)} (h : IsW m r (X.take j) l) (hr : ∀ x ∈ r, Byt x) (hX : Wide m X) (hj : j < X.length) : IsW m r (X.take (j + 1)) (axL (r.getD j 0) (X.getD j []) l) := by
  obtain ⟨h1, h2, h3⟩ := h
  have hx := hX.at j hj
  have hlen : ((X.take j).map vec).length = j := by rw [List.length_map, List.length_take]; omega
  refine ⟨by rw [axL_length]; exact hx.1, axL_byt h2, ?_⟩
  rw [vec_ax (getD_byt hr j) hx.2 h2 (by rw [hx.1, h1]), h3, List.take_add_one, List.getElem?_eq_getElem hj]
  show _ = L.lc (vec r) ((X.take j ++ [X[j]]).map vec)
  rw [List.map_append, List.map_singleton, L.lc_snoc, hlen, List.getD_eq_getElem?_getD (l := X), List.getElem?_eq_getElem hj]
  rfl
set_option maxRecDepth 100000 in
set_option maxHeartbeats 800000 in
theorem weighted_any (f vr vx : Value) (r : List Int) (X : List (List Int)) (w : World) (hf : IsF w f) (hr : Bs w vr r) (hx : Bss w vx X) (hl : X.length ≤ 1000) (hrl : r.length = X.length) (hX : Wide (wd X) X) (hm : wd X ≤ 64) :
    Calls Try.prog 35 #[f, vr, vx] w fun e w' => ∃ v l, e = .returned v ∧ New w w' v l ∧ IsW (wd X) r X l := by
  have HS := Lib.hid hx
  have HF := Lib.hid hf
  have HRB := Lib.hid hr.1
  have HXW := Lib.hid hX
  obtain ⟨_, oar, cr, rfl, r1, r2, r3, r4⟩ := hr
  obtain ⟨oa, c0, rfl, h1, h2, h3, h4⟩ := hx
  obtain ⟨n, hn⟩ : ∃ n, X.length = n := ⟨_, rfl⟩
  obtain ⟨m, hmm⟩ : ∃ m, wd X = m := ⟨_, rfl⟩
  rw [hrl] at r1 r4 ⊢
  rw [hn] at HS h1 h4 hl r1 r4 hrl ⊢
  rw [hmm] at HXW hm ⊢
  have HA := Lib.hid h4
  have HR := Lib.hid r4
  have HN := Lib.hid hn
  have HMM := Lib.hid hmm
  have hoa : n = 0 ∨ ∃ a, oa = some a := by
    cases oa with
    | none => exact .inl (by have := h3 rfl; omega)
    | some a => exact .inr ⟨a, rfl⟩
  have hor : n = 0 ∨ ∃ a, oar = some a := by
    cases oar with
    | none => exact .inl (by have := r3 rfl; omega)
    | some a => exact .inr ⟨a, rfl⟩
  have hmk := make22 m m (by omega) (by omega)
  have hR : ∃ cur, cur = rowB (List.replicate m 0) := ⟨_, rfl⟩
  obtain ⟨cur, hcur⟩ := hR
  rw [← hcur] at hmk
  have HC := Lib.hid hcur
  have HRL := Lib.hid hrl
  clear hf hX hn hmm h3 h4 r3 r4 hcur hrl
  go_enter Try.func35, Try.ntmps35
  go_wp2_with (first | (go_at_call 33; refine (columns_any _ X _ HS.out).mono ?_; rw [HMM.out]; rintro e w1 ⟨rfl, hg1⟩; have G1 := Lib.hid hg1; clear hg1))
  clear hmk
  have HB : Hid (New w (w1.alloc (.cells cur 5)) (.slice (some ⟨w1.heap.size, 0, none⟩) m m) (List.replicate m 0)) := Lib.hid (New.of_blk (Gr.alloc G1.out _ _) (IsW.start m r).2.1 G1.out.size (by rw [HC.out]; exact heap_alloc_new _ _) (by simp) (by omega))
  clear HC
  generalize hW : w1.alloc (.cells cur 5) = W at *
  generalize hG : w1.heap.size = g at *
  go_loopw [7, 15] (fun sv i wr => ∃ (j : Nat) (l : List Int), j ≤ n ∧ i = .int .i64 j ∧ New w wr sv l ∧ IsW m r (X.take j) l) (fun _ i _ => n - (intOf i).toNat)
  case atStart => exact ⟨0, _, by omega, rfl, HB.out, by rw [List.take_zero]; exact IsW.start m r⟩
  case round =>
    clear HB
    obtain ⟨j, l, hj, rfl, hnw, hw⟩ := hrel
    obtain ⟨o2, m2, c2, rfl⟩ := New.form3 hnw
    by_cases hlt : j < n
    · obtain ⟨a, rfl⟩ : ∃ a, oa = some a := by
        rcases hoa with c1 | c1
        · omega
        · exact c1
      obtain ⟨ar, rfl⟩ : ∃ a, oar = some a := by
        rcases hor with c1 | c1
        · omega
        · exact c1
      obtain ⟨u, q0, hu⟩ := HA.out a rfl j hlt
      have q1 := cell_grown hnw.1 q0
      have q2 := cell_grown hnw.1 (HR.out ar rfl j hlt)
      have hzb := getD_byt HRB.out j
      have HU := Lib.hid (Bs.grown hu hnw.1)
      obtain ⟨ou, cu, rfl⟩ := hu.form
      have hxw := HXW.out.at j (by rw [HN.out]; exact hlt)
      have HW := Lib.hid hw
      have HNW := Lib.hid hnw
      have HXL := Lib.hid hxw.1
      obtain ⟨z, hz⟩ : ∃ z, r.getD j 0 = z := ⟨_, rfl⟩
      rw [hz] at q2 hzb
      have HZ := Lib.hid hz
      rw [hxw.1] at HU q1
      clear hz q0 hu hxw hw hnw
      go_wp2_with (first | (go_at_call 50; refine (ok_axpy f _ _ z (X.getD j []) l _ (IsF.grown HF.out HNW.out.1) hzb HU.out HNW.out.bs (by rw [HXL.out]; omega) (by rw [HXL.out]; exact HW.out.1)).mono ?_; rintro e w2 ⟨v2, rfl, hnw2⟩; have HN2 := Lib.hid hnw2; clear hnw2))
      refine ⟨⟨j + 1, _, by omega, by go_num, New.under HNW.out.1 HN2.out, ?_⟩, by simp [intOf]; omega⟩
      rw [← HZ.out]
      exact HW.out.next HRB.out HXW.out (by rw [HN.out]; exact hlt)
    · obtain rfl : j = n := by omega
      rw [List.take_of_length_le (by rw [HN.out]; omega)] at hw
      have HW := Lib.hid hw
      have HNW := Lib.hid hnw
      clear hw hnw
      go_wp2
      go_ret
      exact ⟨_, l, rfl, HNW.out, HW.out⟩
theorem isMul_of {m : Nat} {A X o : List (List Int)} (hl : o.length = A.length) (h : ∀ i, i < A.length → IsW m (A.getD i []) X (o.getD i [])) : IsMul m A X o := by
  refine ⟨fun r hr => ?_, ?_⟩
  · obtain ⟨i, hi, rfl⟩ := List.getElem_of_mem hr
    have := h i (by omega)
    rw [List.getD_eq_getElem?_getD (l := o), List.getElem?_eq_getElem hi] at this
    exact ⟨this.1, this.2.1⟩
  · apply List.ext_getElem
    · simp [L.mulM, hl]
    intro i h1 h2
    rw [List.length_map] at h1
    have := (h i (by omega)).2.2
    rw [List.getD_eq_getElem?_getD (l := o), List.getElem?_eq_getElem h1, List.getD_eq_getElem?_getD (l := A), List.getElem?_eq_getElem (by omega)] at this
    simpa [L.mulM] using this
set_option maxRecDepth 100000 in
set_option maxHeartbeats 1600000 in
theorem mul_pos (f va vx : Value) (A X : List (List Int)) (w : World) (hf : IsF w f) (ha : Bss w va A) (hx : Bss w vx X) (hl : A.length ≤ 1000) (hlx : X.length ≤ 1000) (hma : mayL A = true) (hmx : mayL X = true) (h0 : 0 < A.length) (he : wd A = X.length) :
    Calls Try.prog 16 #[f, va, vx] w fun e w' => ∃ v out, e = .returned (.tuple #[v, .bool true]) ∧ Bss w' v out ∧ Gr w w' ∧ IsMul (wd X) A X out ∧ ∃ (g : Nat) (us : List Value), v = .slice (some ⟨g, 0, none⟩) A.length A.length ∧ ∀ i, i < A.length → w'.cell? ⟨g, i, none⟩ = some (us.getD i undef) ∧ Nr w.heap.size w' (us.getD i undef) (out.getD i []) := by
  have WA := Lib.hid (Wide.of_bss ha hma)
  have WX := Lib.hid (Wide.of_bss hx hmx)
  have HM := Lib.hid hma
  have HMX := Lib.hid hmx
  have HS := Lib.hid ha
  have HSX := Lib.hid hx
  have HF := Lib.hid hf
  have hm64 : wd X ≤ 64 := by
    by_cases hx0 : 0 < X.length
    · exact (mayL_at hmx 0 hx0).2
    · have : X = [] := List.eq_nil_of_length_eq_zero (by omega)
      subst this
      exact Nat.zero_le _
  have HM64 := Lib.hid hm64
  obtain ⟨a, c0, rfl, h1, h2, h3⟩ := Bss.at ha h0
  obtain ⟨ox, cx, rfl, x1, x2, x3, x4⟩ := hx
  have HA := Lib.hid h3
  obtain ⟨n, hn⟩ : ∃ n, A.length = n := ⟨_, rfl⟩
  obtain ⟨p, hp⟩ : ∃ p, X.length = p := ⟨_, rfl⟩
  rw [hn] at HS h1 hl h0 HA ⊢
  rw [hp] at HSX x1 hlx he ⊢
  have HN := Lib.hid hn
  have HP := Lib.hid hp
  have HE := Lib.hid he
  have hmk := make24 n n (by omega) (by omega)
  have hR : ∃ cur, cur = nils n := ⟨_, rfl⟩
  obtain ⟨cur, hcur⟩ := hR
  rw [← hcur] at hmk
  have HC := Lib.hid hcur
  clear hf ha hma hmx hm64 h3 x3 x4 hn hp he hcur
  go_enter Try.func16, Try.ntmps16
  go_wp2_with fail
  refine (may_any _ A w HS.out (by rw [HN.out]; omega)).mono ?_
  rintro e w1 ⟨rfl, hg1⟩
  rw [HM.out]
  have G1 := Lib.hid hg1
  clear hg1
  go_wp2_with fail
  refine (may_any _ X w1 (Bss.grown HSX.out G1.out) (by rw [HP.out]; omega)).mono ?_
  rintro e w2 ⟨rfl, hg2⟩
  rw [HMX.out]
  have G2 := Lib.hid (Gr.trans G1.out hg2)
  clear hg2
  go_wp2_with fail
  refine (columns_any _ A w2 (Bss.grown HS.out G2.out)).mono ?_
  rw [HE.out]
  rintro e w3 ⟨rfl, hg3⟩
  have G3 := Lib.hid (Gr.trans G2.out hg3)
  clear hg3
  go_wp2_with fail
  refine (mtabled_any f _ (IsF.grown HF.out G3.out)).mono ?_
  rintro e w4 ⟨b, rfl, hfb, hg4⟩
  have HFB := Lib.hid hfb
  have G4 := Lib.hid (Gr.trans G3.out hg4)
  clear hfb hg4
  go_wp2_with fail
  have HB : Hid (Fill w4 (w4.alloc (.cells cur 23)) w4.heap.size n (fun i l => IsW (wd X) (A.getD i []) X l) 0 (List.replicate n (.slice none 0 0)) (List.replicate n [])) := Lib.hid (by rw [HC.out]; exact Fill.start w4 n (by omega) _)
  clear HC hmk
  generalize hW : w4.alloc (.cells cur 23) = W at *
  generalize hG : w4.heap.size = g at *
  go_loopw [38] (fun i wr => ∃ (j : Nat) (us : List Value) (L : List (List Int)), j ≤ n ∧ i = .int .i64 j ∧ Fill w4 wr g n (fun i l => IsW (wd X) (A.getD i []) X l) j us L ∧ ∀ t, t < j → Nr w.heap.size wr (us.getD t undef) (L.getD t [])) (fun i _ => n - (intOf i).toNat)
  case atStart => exact ⟨0, _, _, by omega, rfl, HB.out, fun t ht => by omega⟩
  case round =>
    clear HB
    obtain ⟨j, us, Lx, hj, rfl, hfl, hnr⟩ := hrel
    have FL := Lib.hid hfl
    have NR := Lib.hid hnr
    clear hfl hnr
    by_cases hlt : j < n
    · obtain ⟨u, q0, hu⟩ := HA.out j hlt
      have q1 := cell_grown (Gr.trans G4.out FL.out.gr) q0
      have HU := Lib.hid (Bs.grown hu (Gr.trans G4.out FL.out.gr))
      obtain ⟨ou, cu, rfl⟩ := hu.form
      have qc := FL.out.cell j hlt
      have qf := FL.out.frozen j
      have HAL := Lib.hid (WA.out.at j (by rw [HN.out]; exact hlt)).1
      rw [HAL.out, HE.out] at q1 HU
      clear q0 hu
      go_wp2_with (first | (go_at_call 35; refine (weighted_any _ _ _ (A.getD j []) X _ (Or.inr ⟨b, rfl, FieldAt.grown HFB.out FL.out.gr⟩) HU.out (Bss.grown HSX.out (Gr.trans G4.out FL.out.gr)) (by rw [HP.out]; exact hlx) (by rw [HAL.out, HE.out, HP.out]) WX.out HM64.out).mono ?_; rintro e w5 ⟨v5, l5, rfl, hnw, hw5⟩; obtain ⟨o5, m5, c5, rfl⟩ := New.form3 hnw; have hc5 := cell_grown hnw.1 qc; have hf5 := frozen_grown hnw.1 qc qf; have HN5 := Lib.hid hnw; have HW5 := Lib.hid hw5; clear hnw hw5))
      have hgs : w.heap.size ≤ wr.heap.size := (Gr.trans G4.out FL.out.gr).size
      have hus : us.length = n := by have := FL.out.own.1; omega
      refine ⟨⟨j + 1, _, _, by omega, by go_num, (FL.out.grow HN5.out.1).put hlt (New.bs HN5.out) (New.rb HN5.out _) HW5.out, fun t ht => ?_⟩, by simp [intOf]; omega⟩
      by_cases e : t = j
      · subst e
        rw [List.getD_eq_getElem?_getD, List.getElem?_set_self (by omega), getD_set_self _ _ _ (by rw [FL.out.len]; exact hlt)]
        exact (HN5.out.nr.low hgs).setM (FL.out.own.of_gr HN5.out.1) _ _
      · rw [List.getD_eq_getElem?_getD, List.getElem?_set_ne (fun c => e c.symm), ← List.getD_eq_getElem?_getD, getD_set_ne _ _ _ _ (fun c => e c.symm)]
        exact ((NR.out t (by omega)).grM HN5.out.1).setM (FL.out.own.of_gr HN5.out.1) _ _
    · obtain rfl : j = n := by omega
      go_wp2
      go_ret2
      exact ⟨_, Lx, rfl, FL.out.bss, Gr.trans G4.out FL.out.gr, isMul_of (by rw [FL.out.len, HN.out]) (fun i hi => FL.out.is i (by rw [← HN.out]; exact hi)), g, us, rfl, fun i hi => ⟨FL.out.cell i hi, NR.out i hi⟩⟩
set_option maxRecDepth 100000 in
set_option maxHeartbeats 1600000 in
theorem mul_none (f vx : Value) (oa : Option Addr) (ca : Nat) (X : List (List Int)) (w : World) (hf : IsF w f) (ha : Bss w (.slice oa 0 ca) []) (hx : Bss w vx X) (hlx : X.length ≤ 1000) (hmx : mayL X = true) :
    Calls Try.prog 16 #[f, .slice oa 0 ca, vx] w fun e w' => ∃ v out, e = .returned (.tuple #[v, .bool true]) ∧ Bss w' v out ∧ Gr w w' ∧ IsMul (wd X) [] X out := by
  have HMX := Lib.hid hmx
  have HS := Lib.hid ha
  have HSX := Lib.hid hx
  have HF := Lib.hid hf
  have hmk : ∀ w, (Instr.makeSlice 36 (.int .i64 0) (.int .i64 0)).run Try.prog w = .ok (.slice (some ⟨w.heap.size, 0, none⟩) 0 0) (w.alloc (.cells (nils 0) 23)) := fun w => make24 0 0 (by omega) (by omega) w
  have hR : ∃ cur, cur = nils 0 := ⟨_, rfl⟩
  obtain ⟨cur, hcur⟩ := hR
  rw [← hcur] at hmk
  have HC := Lib.hid hcur
  clear hf ha hx hmx hcur
  go_enter Try.func16, Try.ntmps16
  go_wp2_with fail
  refine (may_any _ [] w HS.out (by simp)).mono ?_
  rintro e w1 ⟨rfl, hg1⟩
  rw [show mayL [] = true from rfl]
  have G1 := Lib.hid hg1
  clear hg1
  go_wp2_with fail
  refine (may_any _ X w1 (Bss.grown HSX.out G1.out) (by omega)).mono ?_
  rintro e w2 ⟨rfl, hg2⟩
  rw [HMX.out]
  have G2 := Lib.hid (Gr.trans G1.out hg2)
  clear hg2
  go_wp2_with fail
  refine (mtabled_any f _ (IsF.grown HF.out G2.out)).mono ?_
  rintro e w4 ⟨b, rfl, hfb, hg4⟩
  have G4 := Lib.hid (Gr.trans G2.out hg4)
  clear hfb hg4
  go_wp2_with fail
  have HB : Hid (Fill w4 (w4.alloc (.cells cur 23)) w4.heap.size 0 (fun _ _ => True) 0 (List.replicate 0 (.slice none 0 0)) (List.replicate 0 [])) := Lib.hid (by rw [HC.out]; exact Fill.start w4 0 (by omega) _)
  clear HC hmk
  generalize hW : w4.alloc (.cells cur 23) = W at *
  generalize hG : w4.heap.size = g at *
  go_loopw [38] (fun i wr => i = .int .i64 0 ∧ wr = W) (fun _ _ => 0)
  case atStart => exact ⟨rfl, rfl⟩
  case round =>
    obtain ⟨rfl, rfl⟩ := hrel
    go_wp2
    go_ret2
    exact ⟨_, [], rfl, HB.out.bss, Gr.trans G4.out HB.out.gr, isMul_of rfl (fun i hi => by simp at hi)⟩
set_option maxRecDepth 100000 in
set_option maxHeartbeats 1600000 in
theorem ok_mulNe : ∀ (f va vx : Value) (A X : List (List Int)) (w : World), IsF w f → Bss w va A → Bss w vx X → A.length ≤ 1000 → X.length ≤ 1000 → mayL A = true → mayL X = true → A ≠ [] → wd A ≠ X.length →
    Calls Try.prog 16 #[f, va, vx] w fun e w' => ∃ v, e = .returned (.tuple #[v, .bool false]) ∧ Bss w' v [] ∧ Gr w w' := by
  intro f va vx A X w _ ha hx hl hlx hma hmx hne he
  have h0 : 0 < A.length := List.length_pos_iff.2 hne
  have HM := Lib.hid hma
  have HMX := Lib.hid hmx
  have HS := Lib.hid ha
  have HSX := Lib.hid hx
  obtain ⟨a, c0, rfl, h1, h2, h3⟩ := Bss.at ha h0
  obtain ⟨ox, cx, rfl, x1, x2, x3, x4⟩ := hx
  obtain ⟨n, hn⟩ : ∃ n, A.length = n := ⟨_, rfl⟩
  obtain ⟨p, hp⟩ : ∃ p, X.length = p := ⟨_, rfl⟩
  obtain ⟨k, hk⟩ : ∃ k, wd A = k := ⟨_, rfl⟩
  rw [hn] at HS h1 hl h0 ⊢
  rw [hp] at HSX x1 hlx he ⊢
  rw [hk] at he
  have HN := Lib.hid hn
  have HP := Lib.hid hp
  have HK := Lib.hid hk
  have hb : ((k : Int) != (p : Int)) = true := by simp; omega
  clear ha hma hmx hne h3 x3 x4 hn hp hk he
  go_enter Try.func16, Try.ntmps16
  go_wp2_with fail
  refine (may_any _ A w HS.out (by rw [HN.out]; omega)).mono ?_
  rintro e w1 ⟨rfl, hg1⟩
  rw [HM.out]
  have G1 := Lib.hid hg1
  clear hg1
  go_wp2_with fail
  refine (may_any _ X w1 (Bss.grown HSX.out G1.out) (by rw [HP.out]; omega)).mono ?_
  rintro e w2 ⟨rfl, hg2⟩
  rw [HMX.out]
  have G2 := Lib.hid (Gr.trans G1.out hg2)
  clear hg2
  go_wp2_with fail
  refine (columns_any _ A w2 (Bss.grown HS.out G2.out)).mono ?_
  rw [HK.out]
  rintro e w3 ⟨rfl, hg3⟩
  have G3 := Lib.hid (Gr.trans G2.out hg3)
  clear hg3
  go_wp2
  go_ret2
  exact ⟨_, rfl, Bss.nil _, G3.out⟩
theorem ok_mul : ∀ (f va vx : Value) (A X : List (List Int)) (w : World), IsF w f → Bss w va A → Bss w vx X → A.length ≤ 1000 → X.length ≤ 1000 → mayL A = true → mayL X = true → (A = [] ∨ wd A = X.length) →
    Calls Try.prog 16 #[f, va, vx] w fun e w' => ∃ v out, e = .returned (.tuple #[v, .bool true]) ∧ Bss w' v out ∧ Gr w w' ∧ IsMul (wd X) A X out :=
  fun f va vx A X w hf ha hx hl hlx hma hmx he => by
    by_cases h0 : 0 < A.length
    · refine (mul_pos f va vx A X w hf ha hx hl hlx hma hmx h0 ?_).mono fun _ _ ⟨v, o, h1, h2, h3, h4, _⟩ => ⟨v, o, h1, h2, h3, h4⟩
      rcases he with rfl | he
      · simp at h0
      · exact he
    · obtain rfl : A = [] := List.eq_nil_of_length_eq_zero (by omega)
      have hs := ha
      obtain ⟨oa, c, rfl, _, _, _, _⟩ := ha
      exact mul_none f vx oa c X w hf hs hx hlx hmx
end Go.Proofs.Ytbabecjphmmngaa
namespace Go.Proofs.Ytbabecjphmmngaa
open Go.RowKit

/-- Row h while it is being written: the first j of the source symbols are there. -/
def midF (K h j : Nat) : Nat → Int := fun i => if i < K ∧ j ≤ i then 0 else aheadF K h i
theorem midF_zero (K H h : Nat) : lst (K + H) (midF K h 0) = unitL (K + H) (K + h) := by
  apply lst_congr
  intro i _
  unfold midF aheadF
  by_cases c : i < K
  · rw [if_pos ⟨c, by omega⟩, if_neg (by omega)]
  · rw [if_neg (by omega), if_neg c]
theorem midF_all (K H h : Nat) : lst (K + H) (midF K h K) = aheadRow K H h := by
  apply lst_congr
  intro i _
  unfold midF
  rw [if_neg (by omega)]
theorem midF_set {K h j : Nat} (N : Nat) (hj : j < K) : (lst N (midF K h j)).set j (aheadF K h j) = lst N (midF K h (j + 1)) := by
  rw [lst_set]
  apply lst_congr
  intro i _
  unfold midF
  by_cases e : i = j
  · subst e
    rw [if_pos rfl, if_neg (by omega)]
  · rw [if_neg e]
    by_cases c : i < K ∧ j ≤ i
    · rw [if_pos c, if_pos (by omega)]
    · rw [if_neg c, if_neg (by omega)]
theorem midF_byt (K h j i : Nat) : Byt (midF K h j i) := by
  unfold midF
  split
  · unfold Byt
    omega
  · exact aheadF_byt K h i
/-- The row in block g, of which the first j elements are written. -/
structure Mid (w W : World) (g N c : Nat) (K h j : Nat) : Prop where
  gr : Gr w W
  le : w.heap.size ≤ g
  cap : N ≤ c ∧ c ≤ 9223372036854775807
  blk : ∃ cur, W.heap[g]? = some (.cells cur 5 (0, 0)) ∧ ∀ i, i < N → cur[i]? = some (.int .u8 (midF K h j i))
theorem Mid.frozen {w W : World} {g N c K h j : Nat} (m : Mid w W g N c K h j) (i : Nat) : W.frozen? ⟨g, i, none⟩ = false := by
  obtain ⟨cur, h1, _⟩ := m.blk
  exact frozen_of_row W g i _ _ h1
theorem Mid.cell {w W : World} {g N c K h j : Nat} (m : Mid w W g N c K h j) (i : Nat) (hi : i < N) : W.cell? ⟨g, i, none⟩ = some (.int .u8 (midF K h j i)) := by
  obtain ⟨cur, h1, h2⟩ := m.blk
  rw [cell_of_row W g i _ _ _ h1, h2 i hi]
theorem Mid.more {w W W' : World} {g N c K h j : Nat} (m : Mid w W g N c K h j) (hg : Gr W W') : Mid w W' g N c K h j := by
  obtain ⟨cur, h1, h2⟩ := m.blk
  exact ⟨Gr.trans m.gr hg, m.le, m.cap, cur, keptRow hg h1, h2⟩
theorem Mid.put {w W : World} {g N c K h j : Nat} (m : Mid w W g N c K h j) (hj : j < K) (hN : K ≤ N) : Mid w (W.setCell ⟨g, j, none⟩ (.int .u8 (aheadF K h j))) g N c K h (j + 1) := by
  obtain ⟨cur, h1, h2⟩ := m.blk
  refine ⟨Gr.setCell m.gr m.le _, m.le, m.cap, _, heap_setCell_same _ _ _ _ _ _ h1, fun i hi => ?_⟩
  rw [Array.getElem?_setIfInBounds]
  have hs : j < cur.size := (Array.getElem?_eq_some_iff.1 (h2 j (by omega))).1
  unfold midF
  by_cases e : j = i
  · subst e
    rw [if_pos rfl, if_pos hs, if_neg (by omega)]
  · rw [if_neg e, h2 i hi]
    unfold midF
    by_cases c : i < K ∧ j ≤ i
    · rw [if_pos c, if_pos (by omega)]
    · rw [if_neg c, if_neg (by omega)]
theorem Mid.start {w W : World} {K H h : Nat} {v : Value} (hn : New w W v (unitL (K + H) (K + h))) (h0 : 0 < K + H) : ∃ g c, v = .slice (some ⟨g, 0, none⟩) ((K + H : Nat) : Nat) c ∧ Mid w W g (K + H) c K h 0 := by
  have hl : (unitL (K + H) (K + h)).length = K + H := lst_length _ _
  obtain ⟨hg, _, ⟨h1, _⟩ | ⟨g, c, cur, rfl, q1, q2, q3, q4, q5⟩⟩ := hn
  · rw [h1] at hl
    simp at hl
    omega
  · rw [hl] at q3 q5
    refine ⟨g, c, by rw [hl], hg, q1, ⟨q3, q4⟩, cur, q2, fun i hi => ?_⟩
    rw [q5 i hi, ← midF_zero, lst_getD _ _ _ hi]
theorem Mid.done {w W : World} {g N c K H h : Nat} (m : Mid w W g N c K h K) (hN : K + H = N) : New w W (.slice (some ⟨g, 0, none⟩) N c) (aheadRow K H h) := by
  subst hN
  obtain ⟨cur, h1, h2⟩ := m.blk
  refine ⟨m.gr, lst_byt fun i _ => aheadF_byt K h i, .inr ⟨g, c, cur, by rw [aheadRow_length], m.le, h1, by rw [aheadRow_length]; exact m.cap.1, m.cap.2, fun i hi => ?_⟩⟩
  rw [aheadRow_length] at hi
  rw [h2 i hi, ← midF_all, lst_getD _ _ _ hi]
set_option maxRecDepth 100000 in
set_option maxHeartbeats 800000 in
theorem precode_any (f : Value) (K H h : Nat) (S : Int) (w : World) (hf : IsF w f) (hm : MayP K H S) (hh : h < H) :
    Calls Try.prog 36 #[f, par K H S, .int .i64 (h : Int)] w fun e w' => ∃ v, e = .returned v ∧ New w w' v (aheadRow K H h) := by
  have HF := Lib.hid hf
  have hc : colsP K H S = ((K + H : Nat) : Int) := by unfold colsP; rw [if_pos hm]; omega
  have HC := Lib.hid hc
  obtain ⟨b1, b2, b3, b4, _, _⟩ := hm
  clear hf hc
  obtain ⟨N, hN⟩ : ∃ N, K + H = N := ⟨_, rfl⟩
  have hN64 : N ≤ 20 := by omega
  have HN := Lib.hid hN
  obtain ⟨q, hq⟩ : ∃ q : Nat, K + h = q := ⟨_, rfl⟩
  have hq' : (K : Int) + (h : Int) = (q : Int) := by omega
  have hwq : IntKind.i64.wrap (q : Int) = (q : Int) := by simp [IntKind.wrap, IntKind.bits, IntKind.signed]; omega
  have HQ := Lib.hid hq
  have P0 : Hid (Par (w.alloc (.cells #[.int .i64 (K : Int), .int .i64 (H : Int), .int .i64 S] 25)) w.heap.size K H S) := Lib.hid (heap_alloc_new _ _)
  have HG0 : Hid (Gr w (w.alloc (.cells #[.int .i64 (K : Int), .int .i64 (H : Int), .int .i64 S] 25))) := Lib.hid (Gr.alloc (Gr.refl _) _ _)
  go_enter Try.func36, Try.ntmps36
  go_wp2_with fail
  generalize w.alloc (.cells #[.int .i64 (K : Int), .int .i64 (H : Int), .int .i64 S] 25) = W0 at *
  generalize w.heap.size = gp at *
  have c0 := P0.out.cell0
  have c1 := P0.out.cell1
  have c2 := P0.out.cell2
  go_region_held3 (fun W => W.cell? ⟨gp, 0, none⟩ = some (.int .i64 (K : Int)) ∧ W.cell? ⟨gp, 1, none⟩ = some (.int .i64 (H : Int)) ∧ W.cell? ⟨gp, 2, none⟩ = some (.int .i64 S)) (first | exact ⟨k20, k21, k22⟩ | exact ⟨k10, k11, k12⟩ | go_keep)
    (first
      | (go_at_call 51; refine (ok_unit N q _ (by omega) (by omega) (by omega)).mono ?_; rintro e v2 ⟨y2, rfl, hn2⟩; have k20 := cell_grown hn2.1 (by exact k10); have k21 := cell_grown hn2.1 (by exact k11); have k22 := cell_grown hn2.1 (by exact k12); have N2 := Lib.hid hn2; clear hn2)
      | (go_at_call 38; refine (cols_pre K H S _).mono ?_; rw [HC.out, HN.out]; rintro e v1 ⟨rfl, hg1⟩; have k10 := cell_grown hg1 (by exact c0); have k11 := cell_grown hg1 (by exact c1); have k12 := cell_grown hg1 (by exact c2); have V1 : Hid (Gr W0 v1) := Lib.hid (by exact hg1); clear hg1))
  have P1 := Lib.hid (P0.out.grown V1.out)
  have G1 := Lib.hid (Gr.trans HG0.out V1.out)
  have hn : New v1 v2 y2 (unitL N q) := N2.out
  rw [← HN.out, ← HQ.out] at hn
  obtain ⟨g, c, rfl, hmid⟩ := Mid.start hn (by omega)
  rw [HN.out] at hmid ⊢
  have MK := Lib.hid hmid
  have P2 := Lib.hid (P1.out.grown hmid.gr)
  have c0 := P2.out.cell0
  clear hn hmid
  go_wp2_with fail
  go_loopw [18] (fun i W => ∃ j : Nat, j ≤ K ∧ i = .int .i64 j ∧ Mid v1 W g N c K h j) (fun i _ => K - (intOf i).toNat)
  case atStart => exact ⟨0, by omega, rfl, MK.out⟩
  case round =>
    clear MK P2
    obtain ⟨j, hj, rfl, hmm⟩ := hrel
    have HM := Lib.hid hmm
    have P3 := P1.out.grown hmm.gr
    have c0 := P3.cell0
    clear hmm P3
    by_cases hlj : j < K
    · have q3 := HM.out.cell j (by omega)
      have q4 := HM.out.frozen j
      have hE : ((h : Int) + 1) * ((j : Int) + 1) = (((h + 1) * (j + 1) : Nat) : Int) := by simp
      have hF : expZ (((h + 1) * (j + 1) : Nat) : Int) = aheadF K h j := by unfold aheadF; rw [if_pos hlj]
      have hle : (h + 1) * (j + 1) ≤ 64 := Nat.le_trans (Nat.mul_le_mul (by omega : h + 1 ≤ 4) (by omega : j + 1 ≤ 16)) (by omega)
      have hjN : (j : Int) < N := by omega
      obtain ⟨e, he⟩ : ∃ e : Nat, (h + 1) * (j + 1) = e := ⟨_, rfl⟩
      rw [he] at hE hF hle
      clear he
      go_wp2_with (first | (go_at_call 52; refine (exp_any f (e : Int) _ (IsF.grown HF.out (Gr.trans G1.out HM.out.gr))).mono ?_; rw [hF]; rintro e' w5 ⟨rfl, hg5⟩; have q3 := cell_grown hg5 q3; have q4 := (HM.out.more hg5).frozen j; have H5 := Lib.hid hg5; clear hg5))
      exact ⟨⟨j + 1, by omega, by go_num, (HM.out.more H5.out).put hlj (by omega)⟩, by simp [intOf]; omega⟩
    · obtain rfl : j = K := by omega
      go_wp2_with fail
      go_ret
      exact ⟨_, rfl, New.under G1.out (HM.out.done HN.out)⟩
theorem own_base8 {w : World} {base base' : Nat} {e : TypeId} {size : Nat} {v : Value} {n : Nat} {us : List Value} (h : w.ownsRow base' e size v n us) (hb : base ≤ base') : w.ownsRow base e size v n us := by
  obtain ⟨h0, h | ⟨g, c, cur, hv, h1, h2⟩⟩ := h
  · exact ⟨h0, .inl h⟩
  · exact ⟨h0, .inr ⟨g, c, cur, hv, Nat.le_trans hb h1, h2⟩⟩
/-- Since w0, block g holds H rows, of which the first j are rows ahead, in memory of their own. -/
structure FillN (w0 W : World) (g n K j : Nat) (us : List Value) (L : List (List Int)) : Prop where
  own : W.ownsRow w0.heap.size 23 1 (.slice (some ⟨g, 0, none⟩) n n) n us
  row : ∀ i, i < n → Bs W (us.getD i undef) (L.getD i []) ∧ Rn w0.heap.size W (us.getD i undef)
  len : L.length = n
  is : ∀ i, i < j → L.getD i [] = aheadRow K n i
  gr : Gr w0 W
theorem Rn.stay8 {base : Nat} {w w' : World} {u : Value} {row : Option Nat} (hr : Rn base w u)
    (hk : ∀ k, k < w.heap.size → some k ≠ row → w'.heap[k]? = w.heap[k]?) (hrow : ∀ g, row = some g → base ≤ g ∧ ∀ cur, w.heap[g]? ≠ some (.cells cur 5 (0, 0))) : Rn base w' u := fun a n c hu hn => by
  obtain ⟨h1, cur, h2⟩ := hr a n c hu hn
  refine ⟨h1, cur, ?_⟩
  rw [hk _ (Array.getElem?_eq_some_iff.1 h2).1 (fun e => (hrow a.block e.symm).2 cur h2)]
  exact h2
theorem Rn.rb8 {base : Nat} {w : World} {u : Value} (h : Rn base w u) : Rb base w u := fun a n c e hn => .inr (h a n c e hn).2
theorem Rn.gr8 {base : Nat} {w w' : World} {u : Value} (hr : Rn base w u) (hg : Gr w w') : Rn base w' u :=
  Rn.stay8 (row := none) hr (fun k hk _ => hg.2.2.2.2 k hk) (fun g h => by cases h)
theorem New.rn8 {w w' : World} {v : Value} {l : List Int} {base : Nat} (h : New w w' v l) (hb : base ≤ w.heap.size) : Rn base w' v := by
  intro a n c hv hn
  obtain ⟨_, _, ⟨rfl, oa, c', rfl, _⟩ | ⟨g, c', cur, rfl, q, h2, _⟩⟩ := h
  · cases hv
    omega
  · cases hv
    exact ⟨Nat.le_trans hb q, cur, h2⟩
section
variable {w0 W : World} {g n K j : Nat} {us : List Value} {L : List (List Int)}
theorem FillN.start (w : World) (n K : Nat) (hn : n ≤ 1000000) : FillN w (w.alloc (.cells (nils n) 23)) w.heap.size n K 0 (List.replicate n (.slice none 0 0)) (List.replicate n []) := by
  obtain ⟨h1, h2, h3, h4, h5⟩ := Fill.start w n hn (fun _ _ => True)
  refine ⟨h1, fun i hi => ⟨(h2 i hi).1, ?_⟩, h3, by omega, h5⟩
  have e1 : (List.replicate n (Value.slice none 0 0)).getD i undef = .slice none 0 0 := by rw [List.getD_eq_getElem?_getD, List.getElem?_replicate, if_pos hi]; rfl
  rw [e1]
  intro a n c e _
  cases e
theorem FillN.fill (h : FillN w0 W g n K j us L) : Fill w0 W g n (fun _ _ => True) j us L := ⟨h.own, fun i hi => ⟨(h.row i hi).1, (h.row i hi).2.rb8⟩, h.len, fun _ _ => trivial, h.gr⟩
theorem FillN.grow {W' : World} (h : FillN w0 W g n K j us L) (hg : Gr W W') : FillN w0 W' g n K j us L :=
  ⟨h.own.of_gr hg, fun i hi => ⟨Bs.grown (h.row i hi).1 hg, (h.row i hi).2.gr8 hg⟩, h.len, h.is, Gr.trans h.gr hg⟩
theorem FillN.put {u : Value} {l : List Int} (h : FillN w0 W g n K j us L) (hj : j < n) (hb : Bs W u l) (hrb : Rn w0.heap.size W u) (hp : l = aheadRow K n j) :
    FillN w0 (W.setCell ⟨g, j, none⟩ u) g n K (j + 1) (us.set j u) (L.set j l) := by
  obtain ⟨h1, h2⟩ := Rws.set h.own h.len (fun i hi => ⟨(h.row i hi).1, (h.row i hi).2.rb8⟩) j hj hb hrb.rb8
  have hrow := ownsRow_not_bytes h.own
  have hk : ∀ k, k < W.heap.size → some k ≠ (Value.slice (some ⟨g, 0, none⟩) n n).ownBlock → (W.setCell ⟨g, j, none⟩ u).heap[k]? = W.heap[k]? := by
    intro k _ hne
    have hne' : k ≠ g := fun e => hne (by rw [e]; rfl)
    exact heap_setCell_other _ _ _ _ hne'
  have hus : us.length = n := by have := h.own.1; omega
  refine ⟨h1, fun i hi => ⟨(h2 i hi).1, ?_⟩, by rw [List.length_set]; exact h.len, fun i hi => ?_, Gr.setCell h.gr h.fill.base u⟩
  · by_cases e : i = j
    · subst e
      rw [List.getD_eq_getElem?_getD, List.getElem?_set_self (by omega)]
      exact hrb.stay8 hk hrow
    · rw [List.getD_eq_getElem?_getD, List.getElem?_set_ne (fun c => e c.symm), ← List.getD_eq_getElem?_getD]
      exact (h.row i hi).2.stay8 hk hrow
  · by_cases e : i = j
    · subst e
      rw [getD_set_self _ _ _ (by rw [h.len]; exact hj)]
      exact hp
    · rw [getD_set_ne _ _ _ _ (fun c => e c.symm)]
      exact h.is i (by omega)
theorem FillN.done (h : FillN w0 W g n K n us L) (base : Nat) (hb : base ≤ w0.heap.size) : RwsN base W (.slice (some ⟨g, 0, none⟩) n n) (ahead K n) := by
  have e : L = ahead K n := by
    apply List.ext_getElem
    · rw [h.len]
      simp [ahead]
    intro i h1 h2
    have h3 := h.is i (by rw [← h.len]; exact h1)
    rw [List.getD_eq_getElem?_getD, List.getElem?_eq_getElem h1] at h3
    simpa [ahead] using h3
  have hl : (ahead K n).length = n := by simp [ahead]
  refine ⟨us, by rw [hl]; exact own_base8 h.own hb, fun i hi => ?_⟩
  rw [hl] at hi
  rw [← e]
  refine ⟨(h.row i hi).1, fun a m c ha hm => ?_⟩
  obtain ⟨q1, q2⟩ := (h.row i hi).2 a m c ha hm
  exact ⟨Nat.le_trans hb q1, q2⟩
end
set_option maxRecDepth 100000 in
set_option maxHeartbeats 800000 in
theorem rows_in (K H : Nat) (S : Int) (w : World) (hm : MayP K H S) :
    Calls Try.prog 17 #[par K H S] w fun e w' => ∃ v, e = .returned v ∧ RwsN w.heap.size w' v (ahead K H) ∧ Gr w w' := by
  have hd := decide_eq_true hm
  have HM := Lib.hid hm
  obtain ⟨b1, b2, b3, b4, _, _⟩ := hm
  have hmk := make24 H H (by omega) (by omega)
  have hR : ∃ cur, cur = nils H := ⟨_, rfl⟩
  obtain ⟨cur, hcur⟩ := hR
  rw [← hcur] at hmk
  have HC := Lib.hid hcur
  clear hcur
  have P0 : Hid (Par (w.alloc (.cells #[.int .i64 (K : Int), .int .i64 (H : Int), .int .i64 S] 25)) w.heap.size K H S) := Lib.hid (heap_alloc_new _ _)
  have HG0 : Hid (Gr w (w.alloc (.cells #[.int .i64 (K : Int), .int .i64 (H : Int), .int .i64 S] 25))) := Lib.hid (Gr.alloc (Gr.refl _) _ _)
  go_enter Try.func17, Try.ntmps17
  go_wp2_with fail
  generalize w.alloc (.cells #[.int .i64 (K : Int), .int .i64 (H : Int), .int .i64 S] 25) = W0 at *
  generalize hgp : w.heap.size = gp at *
  refine (may_pre K H S _).mono ?_
  rw [hd]
  rintro e w1 ⟨rfl, hg1⟩
  have P1 := Lib.hid (P0.out.grown hg1)
  have G1 := Lib.hid (Gr.trans HG0.out hg1)
  clear hg1 P0 HG0
  go_wp2_with fail
  refine (new_any _).mono ?_
  rintro e w2 ⟨b, rfl, hfb, hg2⟩
  have P2 := Lib.hid (P1.out.grown hg2)
  have G2 := Lib.hid (Gr.trans G1.out hg2)
  have HF : Hid (IsF w2 (.pointer (some ⟨b, 0, none⟩))) := Lib.hid (Or.inr ⟨b, rfl, hfb⟩)
  have c1 := P2.out.cell1
  clear hg2 hfb P1 G1
  go_wp2_with fail
  have FL : Hid (FillN w2 (w2.alloc (.cells cur 23)) w2.heap.size H K 0 (List.replicate H (.slice none 0 0)) (List.replicate H [])) := Lib.hid (by rw [HC.out]; exact FillN.start w2 H K (by omega))
  clear HC hmk c1
  generalize w2.alloc (.cells cur 23) = W3 at *
  generalize hgr : w2.heap.size = gr at *
  go_loopw [15] (fun i W => ∃ (j : Nat) (us : List Value) (L : List (List Int)), j ≤ H ∧ i = .int .i64 j ∧ FillN w2 W gr H K j us L) (fun i _ => H - (intOf i).toNat)
  case atStart => exact ⟨0, _, _, by omega, rfl, FL.out⟩
  case round =>
    clear FL
    obtain ⟨j, us, L, hj, rfl, hfl⟩ := hrel
    have HL := Lib.hid hfl
    clear hfl
    have P3 := P2.out.grown HL.out.gr
    have c0 := P3.cell0
    have c1 := P3.cell1
    have c2 := P3.cell2
    by_cases hlt : j < H
    · have q3 := HL.out.fill.cell j hlt
      have q4 := HL.out.fill.frozen j
      go_wp2_with fail
      refine (precode_any _ K H j S _ (IsF.grown HF.out HL.out.gr) HM.out hlt).mono ?_
      rintro e w5 ⟨v5, rfl, hn5⟩
      have q3 := cell_grown hn5.1 q3
      have q4 := (HL.out.fill.grow hn5.1).frozen j
      have N5 := Lib.hid hn5
      obtain ⟨o5, m5, c5, rfl⟩ := New.form3 hn5
      clear hn5
      go_wp2_with fail
      exact ⟨⟨j + 1, _, _, by omega, by go_num, (HL.out.grow N5.out.1).put hlt (New.bs N5.out) (New.rn8 N5.out HL.out.gr.size) rfl⟩, by simp [intOf]; omega⟩
    · obtain rfl : j = H := by omega
      go_wp2_with fail
      go_ret
      exact ⟨_, rfl, by rw [hgp]; exact HL.out.done gp (by rw [← hgp]; exact G2.out.size), Gr.trans G2.out HL.out.gr⟩
set_option maxHeartbeats 400000 in
theorem rows_ne (K H S : Int) (w : World) (hm : ¬ MayP K H S) :
    Calls Try.prog 17 #[par K H S] w fun e w' => e = .returned (.slice none 0 0) ∧ Gr w w' := by
  have hd := decide_eq_false hm
  clear hm
  have HG0 : Hid (Gr w (w.alloc (.cells #[.int .i64 K, .int .i64 H, .int .i64 S] 25))) := Lib.hid (Gr.alloc (Gr.refl _) _ _)
  go_enter Try.func17, Try.ntmps17
  go_wp2_with fail
  refine (may_pre K H S _).mono ?_
  rw [hd]
  rintro e w1 ⟨rfl, hg1⟩
  have G1 := Lib.hid (Gr.trans HG0.out hg1)
  clear hg1
  go_wp2_with fail
  go_ret
  exact ⟨rfl, G1.out⟩
theorem rows_pre (K H S : Int) (w : World) :
    Calls Try.prog 17 #[par K H S] w fun e w' => ∃ v, e = .returned v ∧ RwsN w.heap.size w' v (aheadP K H S) ∧ Gr w w' := by
  unfold aheadP
  by_cases hm : MayP K H S
  · rw [if_pos hm]
    obtain ⟨k, hk⟩ : ∃ k : Nat, K = k := ⟨K.toNat, by have := hm.1; omega⟩
    obtain ⟨h, hh⟩ : ∃ h : Nat, H = h := ⟨H.toNat, by have := hm.2.2.1; omega⟩
    subst hk hh
    rw [Int.toNat_natCast, Int.toNat_natCast]
    exact rows_in k h S w hm
  · rw [if_neg hm]
    refine (rows_ne K H S w hm).mono ?_
    rintro e w' ⟨rfl, hg⟩
    exact ⟨_, rfl, ⟨[], World.ownsRow_nil w' _ 23 1, fun i hi => absurd hi (by simp)⟩, hg⟩
theorem pre_ok : PreOk := ⟨may_pre, cols_pre, rows_pre⟩
end Go.Proofs.Ytbabecjphmmngaa
namespace Go.Proofs.Ytbabecjphmmngaa
open Go.RowKit

/-- A Draw lies in block g. -/
def DBlk (w : World) (g s : Nat) : Prop := w.heap[g]? = some (.cells #[.int .u64 (s : Int)] 111 (0, 0))
theorem DBlk.cell {w : World} {g s : Nat} (h : DBlk w g s) : w.cell? ⟨g, 0, none⟩ = some (.int .u64 (s : Int)) := by
  rw [cell_of_row w g 0 _ _ _ h]
  rfl
theorem DBlk.frozen {w : World} {g s : Nat} (h : DBlk w g s) : w.frozen? ⟨g, 0, none⟩ = false := frozen_of_row w g 0 _ _ h
theorem DBlk.set {w : World} {g s : Nat} (h : DBlk w g s) (t : Nat) : DBlk (w.setCell ⟨g, 0, none⟩ (.int .u64 (t : Int))) g t := by
  unfold DBlk at *
  rw [heap_setCell_same _ _ _ _ _ _ h]
  rfl
theorem DBlk.lt {w : World} {g s : Nat} (h : DBlk w g s) : g < w.heap.size := (Array.getElem?_eq_some_iff.1 h).1
/-- How a Draw lies in memory, and its state. -/
def DAt (w : World) (d : Value) (F : Nat → Prop) (s : Nat) : Prop := ∃ g, d = .pointer (some ⟨g, 0, none⟩) ∧ DBlk w g s ∧ F = fun k => k = g

set_option maxHeartbeats 400000 in
theorem next_dev (g s : Nat) (w : World) (h : DBlk w g s) :
    Calls Try.prog 68 #[.pointer (some ⟨g, 0, none⟩)] w fun e w' => e = .returned (.int .u32 (topS (nextS s) : Nat)) ∧ DBlk w' g (nextS s) ∧ Kp (fun k => k = g) w w' := by
  have q1 := h.cell
  have q2 := h.frozen
  have H := Lib.hid h
  clear h
  go_enter Try.func68, Try.ntmps68
  go_wp2
  go_ret
  rw [next_wrap]
  refine ⟨?_, H.out.set _, Kp.set _ _ _ _⟩
  rw [← top_wrap s]
  rfl
set_option maxHeartbeats 400000 in
theorem below_dev (g s : Nat) (n : Int) (w : World) (h : DBlk w g s) (hn : n < 9223372036854775808) :
    Calls Try.prog 70 #[.pointer (some ⟨g, 0, none⟩), .int .i64 n] w fun e w' => e = .returned (.int .i64 (belowV s n)) ∧ DBlk w' g (belowS s n) ∧ Kp (fun k => k = g) w w' := by
  have H := Lib.hid h
  clear h
  by_cases h0 : n ≤ 0
  · have e1 : belowV s n = 0 := if_pos h0
    have e2 : belowS s n = s := if_pos h0
    rw [e1, e2]
    clear e1 e2
    go_enter Try.func70, Try.ntmps70
    go_wp2
    go_ret
    exact ⟨rfl, H.out, Kp.refl _ _⟩
  · have e1 : belowV s n = ((topS (nextS s) : Nat) : Int) % n := if_neg h0
    have e2 : belowS s n = nextS s := if_neg h0
    have E1 := Lib.hid e1
    have E2 := Lib.hid e2
    have ht := topS_lt (nextS_lt s)
    have hp : 0 < n := by omega
    clear e1 e2 h0
    go_enter Try.func70, Try.ntmps70
    go_wp2_with fail
    refine (next_dev g s _ H.out).mono ?_
    rintro e w1 ⟨rfl, hr, hk⟩
    have HR := Lib.hid hr
    have HK := Lib.hid hk
    clear hr hk
    generalize topS (nextS s) = tt at *
    have hr1 := Int.emod_nonneg (tt : Int) (by omega : n ≠ 0)
    have hr2 := Int.emod_lt_of_pos (tt : Int) hp
    generalize hrr : (tt : Int) % n = rr at *
    have HRR := Lib.hid hrr
    clear hrr
    go_wp2_with fail
    go_ret
    have hw : wrap64 rr = rr := by unfold wrap64; omega
    refine ⟨by rw [E1.out, HRR.out, hw]; rfl, by rw [E2.out]; exact HR.out, HK.out⟩
set_option maxHeartbeats 400000 in
theorem new_dev (s : Nat) (w : World) (hs : s < 4294967296) :
    Calls Try.prog 67 #[.int .u32 s] w fun e w' => ∃ g, e = .returned (.pointer (some ⟨g, 0, none⟩)) ∧ DBlk w' g s ∧ Gr w w' ∧ w.heap.size ≤ g := by
  go_enter Try.func67, Try.ntmps67
  go_wp2
  go_ret
  exact ⟨_, rfl, heap_alloc_new _ _, Gr.alloc (Gr.refl _) _ _, Nat.le_refl _⟩
theorem nextNil_dev (w : World) : Calls Try.prog 68 #[.pointer none] w fun e w' => e = .returned (.int .u32 0) ∧ Gr w w' := by
  go_enter Try.func68, Try.ntmps68
  go_wp2
  go_ret
  exact ⟨rfl, Gr.refl _⟩
set_option maxHeartbeats 400000 in
theorem belowNil_dev (n : Int) (w : World) (hn : n < 9223372036854775808) (_ : -9223372036854775808 ≤ n) : Calls Try.prog 70 #[.pointer none, .int .i64 n] w fun e w' => e = .returned (.int .i64 0) ∧ Gr w w' := by
  by_cases h0 : n ≤ 0
  · go_enter Try.func70, Try.ntmps70
    go_wp2
    go_ret
    exact ⟨rfl, Gr.refl _⟩
  · have hp : 0 < n := by omega
    clear h0
    go_enter Try.func70, Try.ntmps70
    go_wp2_with fail
    refine (nextNil_dev _).mono ?_
    rintro e w1 ⟨rfl, hg⟩
    have HG := Lib.hid hg
    clear hg
    go_wp2_with fail
    go_ret
    exact ⟨rfl, HG.out⟩
/-- Package draw as it was written keeps its contracts. -/
theorem draw_ok : DrawOk DAt where
  ptr := fun ⟨_, h, _⟩ => ⟨_, h⟩
  lt := by
    rintro w d F s ⟨g, rfl, hb, rfl⟩ k rfl
    exact hb.lt
  keep := by
    rintro w w' d F G s ⟨g, rfl, hb, rfl⟩ hk hd
    exact ⟨g, rfl, hk.block hb (hd g rfl), rfl⟩
  new := fun s w hs => (new_dev s w hs).mono (by
    rintro e w' ⟨g, rfl, hb, hg, hl⟩
    exact ⟨_, _, rfl, ⟨g, rfl, hb, rfl⟩, hg, fun k hk => hk ▸ hl⟩)
  next := by
    rintro d F s w _ ⟨g, rfl, hb, rfl⟩
    refine (next_dev g s w hb).mono ?_
    rintro e w' ⟨rfl, hb', hk⟩
    exact ⟨rfl, ⟨g, rfl, hb', rfl⟩, hk⟩
  below := by
    rintro d F s n w _ hn _ ⟨g, rfl, hb, rfl⟩
    refine (below_dev g s n w hb hn).mono ?_
    rintro e w' ⟨rfl, hb', hk⟩
    exact ⟨rfl, ⟨g, rfl, hb', rfl⟩, hk⟩
  nextNil := nextNil_dev
  belowNil := belowNil_dev
end Go.Proofs.Ytbabecjphmmngaa
namespace Go.Proofs.Ytbabecjphmmngaa
open Go.Shelf
def lays189_ren : Go.Shelf.Ren := ⟨fun | 189 => 76 | 125 => 80 | 257 => 81 | 128 => 82 | 129 => 83 | 294 => 84 | 295 => 85 | 296 => 86 | 297 => 87 | 298 => 88 | 299 => 89 | 216 => 90 | 300 => 91 | 301 => 92 | 328 => 93 | 329 => 94 | 330 => 95 | 331 => 96 | 332 => 97 | 215 => 98 | 343 => 99 | n => n, fun | 28 => 55 | 3 => 3 | 46 => 22 | 0 => 0 | 51 => 27 | 53 => 109 | 4 => 4 | 183 => 120 | 182 => 119 | 131 => 124 | 5 => 5 | 9 => 9 | 218 => 126 | 222 => 130 | 228 => 132 | 229 => 133 | n => n, fun | n => n⟩
theorem lays189 : Go.Proofs.Lays.n189 Try.prog lays189_ren := {
  mixed := by kernel_rfl
  f125 := Try.func80.trans (congrArg some (by kernel_rfl))
  f128 := Try.func82.trans (congrArg some (by kernel_rfl))
  f129 := Try.func83.trans (congrArg some (by kernel_rfl))
  f189 := Try.func76.trans (congrArg some (by kernel_rfl))
  f215 := Try.func98.trans (congrArg some (by kernel_rfl))
  f216 := Try.func90.trans (congrArg some (by kernel_rfl))
  f257 := Try.func81.trans (congrArg some (by kernel_rfl))
  f294 := Try.func84.trans (congrArg some (by kernel_rfl))
  f295 := Try.func85.trans (congrArg some (by kernel_rfl))
  f296 := Try.func86.trans (congrArg some (by kernel_rfl))
  f297 := Try.func87.trans (congrArg some (by kernel_rfl))
  f298 := Try.func88.trans (congrArg some (by kernel_rfl))
  f299 := Try.func89.trans (congrArg some (by kernel_rfl))
  f300 := Try.func91.trans (congrArg some (by kernel_rfl))
  f301 := Try.func92.trans (congrArg some (by kernel_rfl))
  f328 := Try.func93.trans (congrArg some (by kernel_rfl))
  f329 := Try.func94.trans (congrArg some (by kernel_rfl))
  f330 := Try.func95.trans (congrArg some (by kernel_rfl))
  f331 := Try.func96.trans (congrArg some (by kernel_rfl))
  f332 := Try.func97.trans (congrArg some (by kernel_rfl))
  f343 := Try.func99.trans (congrArg some (by kernel_rfl))
  t0 := Try.underlying0
  a0 := Try.isAgg0
  z0 := Try.sizeOf0
  v0 := Try.zeroValue0
  t3 := Try.underlying3
  a3 := Try.isAgg3
  z3 := Try.sizeOf3
  v3 := Try.zeroValue3
  t4 := Try.underlying4
  a4 := Try.isAgg4
  z4 := Try.sizeOf4
  v4 := Try.zeroValue4
  t5 := Try.underlying5
  a5 := Try.isAgg5
  z5 := Try.sizeOf5
  v5 := Try.zeroValue5
  t9 := Try.underlying9
  a9 := Try.isAgg9
  z9 := Try.sizeOf9
  v9 := Try.zeroValue9
  t28 := Try.underlying55
  a28 := Try.isAgg55
  z28 := Try.sizeOf55
  v28 := Try.zeroValue55
  t46 := Try.underlying22
  a46 := Try.isAgg22
  z46 := Try.sizeOf22
  v46 := Try.zeroValue22
  t51 := Try.underlying27
  a51 := Try.isAgg27
  z51 := Try.sizeOf27
  v51 := Try.zeroValue27
  t53 := Try.underlying109
  a53 := Try.isAgg109
  z53 := Try.sizeOf109
  v53 := Try.zeroValue109
  t131 := Try.underlying124
  a131 := Try.isAgg124
  z131 := Try.sizeOf124
  v131 := Try.zeroValue124
  t182 := Try.underlying119
  a182 := Try.isAgg119
  z182 := Try.sizeOf119
  v182 := Try.zeroValue119
  t183 := Try.underlying120
  a183 := Try.isAgg120
  z183 := Try.sizeOf120
  v183 := Try.zeroValue120
  t218 := Try.underlying126
  a218 := Try.isAgg126
  z218 := Try.sizeOf126
  v218 := Try.zeroValue126
  t222 := Try.underlying130
  a222 := Try.isAgg130
  z222 := Try.sizeOf130
  v222 := Try.zeroValue130
  t228 := Try.underlying132
  a228 := Try.isAgg132
  z228 := Try.sizeOf132
  v228 := Try.zeroValue132
  t229 := Try.underlying133
  a229 := Try.isAgg133
  z229 := Try.sizeOf133
  v229 := Try.zeroValue133 }
open Go.Sort Go.RowKit in
theorem slices_Sort_int (blk off cap : Nat) (zs : List Int) (w : World) (hH : Holds (Value.int .i64) w blk off zs.toArray) (hblk : blk < w.heap.size) (hsz : zs.length < 4611686018427387904) :
    Calls Try.prog 76 #[.slice (some ⟨blk, off, none⟩) zs.length cap] w fun e w' =>
      e = .returned (.tuple #[]) ∧ ∃ n os, w' = grow (putRow (Value.int .i64) (Sort.ahead w n) blk off (zs.mergeSort fun x y => decide (x ≤ y)).toArray) os := Any.slices_Sort_int lays189 blk off cap zs w hH hblk hsz
open Go.RowKit Go.Sort in
/-- .. and plain. (LAID: no walk: one application.) -/
theorem slices_Sort_int_none (p : Option Addr) (cap : Nat) (w : World) :
    Calls Try.prog 76 #[.slice p 0 cap] w fun e w' => e = .returned (.tuple #[]) ∧ w' = w := Any.slices_Sort_int_none lays189 p cap w
end Go.Proofs.Ytbabecjphmmngaa
namespace Go.Proofs.Ytbabecjphmmngaa
open Go.RowKit

def partU (N i : Nat) : List Int := upTo i ++ List.replicate (N - i) 0
theorem upTo_length (n : Nat) : (upTo n).length = n := by simp [upTo]
theorem partU_zero (N : Nat) : partU N 0 = List.replicate N 0 := by simp [partU, upTo]
theorem partU_all (N : Nat) : partU N N = upTo N := by simp [partU]
theorem partU_set {N i : Nat} (h : i < N) : (partU N i).set i (i : Int) = partU N (i + 1) := by
  unfold partU
  rw [List.set_append, if_neg (by rw [upTo_length]; omega), upTo_length, Nat.sub_self]
  obtain ⟨m, hm⟩ : ∃ m, N - i = m + 1 := ⟨N - i - 1, by omega⟩
  rw [hm, List.replicate_succ, List.set_cons_zero, upTo_succ, show N - (i + 1) = m from by omega, List.append_assoc]
  rfl
theorem BlzC.set {w : World} {g : Nat} {L : List Int} (h : Blz w g L) (i : Nat) (x : Int) : Blz (w.setCell ⟨g, i, none⟩ (.int .i64 x)) g (L.set i x) := by
  unfold Blz at *
  rw [heap_setCell_same _ _ _ _ _ _ h, rowZ_set]
theorem BlzC.frozen {w : World} {g : Nat} {L : List Int} (h : Blz w g L) (i : Nat) : w.frozen? ⟨g, i, none⟩ = false := frozen_of_row w g i _ _ h
theorem BlzC.iz {w : World} {g n : Nat} {L : List Int} (h : Blz w g L) (hl : L.length = n) (hn : n ≤ 9223372036854775807) : Iz w g n n L :=
  ⟨hl, Nat.le_refl _, hn, rowZ L, h, by simp [rowZ, hl], fun i hi => by rw [rowZ_get L i (by omega)]⟩
set_option maxRecDepth 100000 in
set_option maxHeartbeats 800000 in
theorem upTo_dev (N : Nat) (w : World) (hN : N ≤ 64) :
    Calls Try.prog 75 #[.int .i64 (N : Int)] w fun e w' => e = .returned (.slice (some ⟨w.heap.size, 0, none⟩) N N) ∧ Iz w' w.heap.size N N (upTo N) ∧ Gr w w' := by
  have hmk := makeZ N N (by omega) (by omega)
  go_enter Try.func75, Try.ntmps75
  go_wp2_with fail
  obtain ⟨g, hg⟩ : ∃ g, w.heap.size = g := ⟨_, rfl⟩
  have B0 : Hid (Blz (w.alloc (.cells (rowZ (List.replicate N 0)) 3)) g (partU N 0)) := Lib.hid (by
    rw [partU_zero, ← hg]
    exact heap_alloc_new _ _)
  have G2 : Hid (Gr w (w.alloc (.cells (rowZ (List.replicate N 0)) 3))) := Lib.hid (Gr.alloc (Gr.refl _) _ _)
  have HGL : Hid (w.heap.size ≤ g) := Lib.hid (by omega)
  rw [hg]
  generalize w.alloc (.cells (rowZ (List.replicate N 0)) 3) = w2 at *
  have HE := Lib.hid hg
  clear hmk hg
  go_loopw [9] (fun iv W => ∃ i : Nat, i ≤ N ∧ iv = .int .i64 i ∧ Blz W g (partU N i) ∧ Gr w W) (fun iv _ => N - (intOf iv).toNat)
  case atStart => exact ⟨0, by omega, rfl, B0.out, G2.out⟩
  case round =>
    obtain ⟨i, hi, rfl, hb, hgr⟩ := hrel
    have HB := Lib.hid hb
    have HG := Lib.hid hgr
    clear hb hgr B0 G2
    by_cases hlt : i < N
    · have hl : i < (partU N i).length := by simp [partU, upTo_length]; omega
      have q1 := HB.out.cell i hl
      have q2 := BlzC.frozen HB.out i
      have HST := Lib.hid (partU_set hlt)
      clear hl
      go_wp2
      refine ⟨⟨i + 1, by omega, by go_num, ?_, Gr.setCell HG.out HGL.out _⟩, by simp [intOf]; omega⟩
      rw [← HST.out]
      exact BlzC.set HB.out i _
    · obtain rfl : i = N := by omega
      go_wp2
      go_ret
      rw [HE.out]
      exact ⟨rfl, BlzC.iz (by rw [← partU_all]; exact HB.out) (upTo_length i) (by omega), HG.out⟩
/-- The elements from o on, one after another. -/
def setsL : List Int → Nat → List Int → List Int
  | L, _, [] => L
  | L, o, v :: vs => setsL (L.set o v) (o + 1) vs
theorem setsL_get : ∀ (vs L : List Int) (o i : Nat), o + vs.length ≤ L.length → (setsL L o vs).getD i 0 = if o ≤ i ∧ i < o + vs.length then vs.getD (i - o) 0 else L.getD i 0
  | [], L, o, i, _ => by
    rw [if_neg (by rw [List.length_nil]; omega)]
    rfl
  | v :: vs, L, o, i, h => by
    rw [List.length_cons] at h
    show (setsL (L.set o v) (o + 1) vs).getD i 0 = _
    rw [setsL_get vs (L.set o v) (o + 1) i (by rw [List.length_set]; omega), List.length_cons]
    by_cases e : i = o
    · subst e
      rw [if_neg (by omega), if_pos (by omega), Nat.sub_self, List.getD_eq_getElem?_getD, List.getElem?_set_self (by omega)]
      rfl
    · by_cases e2 : o + 1 ≤ i ∧ i < o + 1 + vs.length
      · rw [if_pos e2, if_pos (by omega), show i - o = (i - (o + 1)) + 1 from by omega]
        rfl
      · rw [if_neg e2, if_neg (by omega), List.getD_eq_getElem?_getD, List.getElem?_set_ne (fun c => e c.symm), List.getD_eq_getElem?_getD]
theorem Iz.sets {g c n : Nat} : ∀ (vs : List Int) (W : World) (L : List Int) (o : Nat), Iz W g c n L → o + vs.length ≤ n → Iz (W.setCells g o (vs.map (Value.int .i64))) g c n (setsL L o vs)
  | [], _, _, _, h, _ => h
  | v :: vs, W, L, o, h, hl => by
    rw [List.length_cons] at hl
    exact Iz.sets vs _ _ (o + 1) (h.set o (by omega) v) (by omega)
theorem Kp.sets {g : Nat} : ∀ (vs : List Value) (o : Nat) (W : World), Kp (fun b => b = g) W (W.setCells g o vs)
  | [], _, _ => Kp.refl _ _
  | v :: vs, o, W => (Kp.set W g o v).trans (Kp.sets vs (o + 1) _) fun _ e => .inl e
theorem gr_grow (W : World) (os : Array Obj) : Gr W (Go.Sort.grow W os) :=
  ⟨rfl, rfl, rfl, by simp [Go.Sort.grow], fun _ hk => Go.Sort.heap_grow_old W os hk⟩
theorem isort_merge (l : List Int) (h : l.Nodup) : (l.mergeSort fun x y => decide (x ≤ y)) = C.isort l := by
  have hp := List.mergeSort_perm l (fun x y : Int => decide (x ≤ y))
  have hs : (l.mergeSort fun x y => decide (x ≤ y)).Pairwise (fun a b => decide (a ≤ b) = true) :=
    List.pairwise_mergeSort (fun a b c h1 h2 => by simp at *; omega) (fun a b => by simp; omega) l
  have hn : (l.mergeSort fun x y => decide (x ≤ y)).Nodup := hp.nodup_iff.2 h
  refine C.rise_ext _ _ ?_ (C.isort_sorted l h) fun x => by rw [C.mem_isort, hp.mem_iff]
  rw [List.nodup_iff_pairwise_ne] at hn
  exact (hs.and hn).imp fun {a b} ⟨h1, h2⟩ => by simp at h1; omega
/-- The first k of a row of one's own, sorted by the library. -/
theorem sort_dev (g c n k : Nat) (L : List Int) (W : World) (h : Iz W g c n L) (hk : k ≤ n) (hn : n ≤ 1000) (hd : (L.take k).Nodup) :
    Calls Try.prog 76 #[.slice (some ⟨g, 0, none⟩) k k] W fun e W' => e = .returned (.tuple #[]) ∧ Iz W' g c n (setsL L 0 (C.isort (L.take k))) ∧ Kp (fun b => b = g) W W' := by
  have hl : (L.take k).length = k := by rw [List.length_take, h.1]; omega
  have hH : Go.Sort.Holds (Value.int .i64) W g 0 (L.take k).toArray :=
    Go.Lib.holds_of_ints (by rw [h.1]; exact hk) (fun j hj => by rw [Nat.zero_add, h.cell j (by rw [← h.1]; exact hj)]) (fun j hj => by rw [Nat.zero_add]; exact h.frozen j)
  have hb : g < W.heap.size := by
    obtain ⟨_, _, _, cur, hg, _⟩ := h
    exact (Array.getElem?_eq_some_iff.1 hg).1
  have hc := slices_Sort_int g 0 k (L.take k) W hH hb (by omega)
  rw [hl, isort_merge _ hd] at hc
  refine hc.mono ?_
  rintro e W' ⟨rfl, m, os, rfl⟩
  have hil : (C.isort (L.take k)).length = k := by rw [C.isort_length, hl]
  have hw := Go.Lib.sorted_world (Value.int .i64) W g 0 m (L.take k).toArray (C.isort (L.take k)) os hH (by simp [hil]; rw [h.1]; omega)
  rw [hw]
  have hi : Iz (W.drewN m) g c n L := h.kp (F := fun _ => False) (Kp.refl _ W) (fun e => e)
  have hs := Iz.sets (C.isort (L.take k)) _ _ 0 hi (by omega)
  have hk2 : Kp (fun b => b = g) W ((W.drewN m).setCells g 0 ((C.isort (L.take k)).map (Value.int .i64))) := Kp.sets _ 0 (W.drewN m)
  exact ⟨rfl, hs.kp ((gr_grow _ _).kp fun _ => False) (fun e => e), hk2.trans ((gr_grow _ _).kp fun _ => False) (fun _ e => e.elim)⟩
theorem take_sets (L s : List Int) (h : s.length ≤ L.length) : (setsL L 0 s).length = L.length → (setsL L 0 s).take s.length = s := fun hl => by
  apply List.ext_getElem?
  intro i
  by_cases hi : i < s.length
  · rw [List.getElem?_take_of_lt hi]
    have hg := setsL_get s L 0 i (by omega)
    rw [if_pos (by omega), Nat.sub_zero, List.getD_eq_getElem?_getD, List.getD_eq_getElem?_getD] at hg
    rw [List.getElem?_eq_getElem (by omega), List.getElem?_eq_getElem hi] at hg ⊢
    simpa using hg
  · rw [List.getElem?_eq_none (by rw [List.length_take]; omega), List.getElem?_eq_none (by omega)]
theorem Iz.own {W : World} {g c n base : Nat} {L l : List Int} (h : Iz W g c n L) (k : Nat) (hk : k ≤ n) (hb : ∀ x ∈ l, I64 x) (hl : L.take k = l) (hg : base ≤ g) : OwnZ base W (.slice (some ⟨g, 0, none⟩) k k) l := by
  have hn : n ≤ 9223372036854775807 := by have := h.2.1; have := h.2.2.1; omega
  have hlk : l.length = k := by rw [← hl, List.length_take, h.1]; omega
  obtain ⟨h1, h2, h3, cur, h4, h5, h6⟩ := h
  refine ⟨hb, .inr ⟨g, k, c, by rw [hlk], hg, by omega, by omega, rfl, by omega, h3, cur, h4, h5, fun i hi => ?_⟩⟩
  rw [h6 i (by omega), ← hl, List.getD_eq_getElem?_getD, List.getD_eq_getElem?_getD, List.getElem?_take_of_lt (by omega)]
/-- What one drawing below a bound does to what is kept of a Draw: j numbers are drawn by then. -/
structure Bw (S : World → Nat → Prop) (d : Value) (F : Nat → Prop) (bv : Nat → Int) (N K : Nat) : Prop where
  keep : ∀ W W' j (G : Nat → Prop), S W j → Kp G W W' → (∀ k, F k → ¬ G k) → S W' j
  below : ∀ W j, j < K → S W j → Calls Try.prog 70 #[d, .int .i64 ((N : Int) - j)] W fun e W' => e = .returned (.int .i64 (bv j)) ∧ S W' (j + 1) ∧ Kp F W W'
set_option maxRecDepth 100000 in
set_option maxHeartbeats 1600000 in
theorem some_core (S : World → Nat → Prop) (d : Value) (F : Nat → Prop) (bv : Nat → Int) (q : Nat → Nat) (M : Nat → List Int) (N K : Nat) (w : World) (hN : N ≤ 64) (hK : K ≤ N)
    (B : Bw S d F bv N K) (hq : ∀ j, j < K → (j : Int) + bv j = q j ∧ q j < N ∧ -9223372036854775808 ≤ bv j ∧ bv j < 9223372036854775808) (hM0 : M 0 = upTo N) (hM : ∀ j, j < K → M (j + 1) = C.swap (M j) j (q j)) (hS : S w 0) (hF : ∀ k, F k → k < w.heap.size) (hi : C.Inj N (M K)) :
    Calls Try.prog 56 #[d, .int .i64 (N : Int), .int .i64 (K : Int)] w fun e w' => ∃ v, e = .returned v ∧ OwnZ w.heap.size w' v (C.isort ((M K).take K)) ∧ S w' K ∧ Kp F w w' := by
  have d1 : decide ((N : Int) < 0) = false := decide_eq_false (by omega)
  have d2 : decide ((64 : Int) < N) = false := decide_eq_false (by omega)
  have d3 : decide ((K : Int) < 0) = false := decide_eq_false (by omega)
  have d4 : decide (N < K) = false := decide_eq_false (by omega)
  have d5 : decide ((N : Int) < K) = false := decide_eq_false (by omega)
  have BB := Lib.hid B
  have HQ := Lib.hid hq
  have HM := Lib.hid hM
  have HS := Lib.hid hS
  have HF := Lib.hid hF
  have HI := Lib.hid hi
  clear B hq hM hS hF hi
  go_enter Try.func56, Try.ntmps56
  go_wp2_with fail
  refine (upTo_dev N _ hN).mono ?_
  rintro e w1 ⟨rfl, hz, hg⟩
  obtain ⟨g, hgg⟩ : ∃ g, w.heap.size = g := ⟨_, rfl⟩
  rw [hgg] at hz ⊢
  have HB : Hid (w.heap.size ≤ g) := Lib.hid (by omega)
  have HE := Lib.hid hgg
  have Z0 : Hid (Iz w1 g N N (M 0)) := Lib.hid (by rw [hM0]; exact hz)
  have K0 : Hid (Kp F w w1) := Lib.hid (hg.kp F)
  have S0 : Hid (S w1 0) := Lib.hid (BB.out.keep _ _ _ (fun _ => False) HS.out (hg.kp _) (fun _ _ e => e))
  clear hz hg hgg hM0 HS d1 d2 d3 d4 d5
  go_wp2_with fail
  go_loopw [29] (fun iv W => ∃ j : Nat, j ≤ K ∧ iv = .int .i64 j ∧ Iz W g N N (M j) ∧ S W j ∧ Kp F w W) (fun iv _ => K - (intOf iv).toNat)
  case atStart => exact ⟨0, by omega, rfl, Z0.out, S0.out, K0.out⟩
  case round =>
    clear Z0 S0 K0
    obtain ⟨wi, hwi⟩ : ∃ x, x = wr := ⟨_, rfl⟩
    subst hwi
    obtain ⟨j, hj, rfl, hz, hr, hk⟩ := hrel
    have ZZ := Lib.hid hz
    have RR := Lib.hid hr
    have KK := Lib.hid hk
    clear hz hr hk
    by_cases hlt : j < K
    · obtain ⟨q1, pl2, hb1, hb2⟩ := HQ.out j hlt
      have FG : Hid (∀ k, F k → ¬ k = g) := Lib.hid fun k h e => by have := HF.out k h; have := HE.out; omega
      go_upto_region 8 with fail
      refine (BB.out.below _ j hlt RR.out).mono ?_
      rintro e w1 ⟨rfl, hr1, hk1⟩
      have Z1 := Lib.hid (ZZ.out.kp hk1 (fun e => FG.out g e rfl))
      have K1 := Lib.hid (KK.out.trans hk1 fun k e => .inl e)
      have SH := Lib.hid (HM.out j hlt)
      have R1 := Lib.hid hr1
      clear hr1 hk1 RR KK ZZ
      generalize q j = qq at *
      generalize bv j = bb at *
      have ji : j < N := by omega
      have ZS1 := Lib.hid (Z1.out.swap j qq ji pl2)
      rw [← SH.out] at ZS1
      have c1 := Z1.out.cell j ji
      have c2 := Z1.out.cell qq pl2
      have fr1 := Z1.out.frozen j
      have fr2 := Z1.out.frozen qq
      generalize hx : (M j).getD j 0 = x at *
      generalize hy : (M j).getD qq 0 = y at *
      obtain ⟨y2, hy2⟩ := Z1.out.any j qq y ji pl2
      have G1 : Hid (S ((w1.setCell ⟨g, j, none⟩ (.int .i64 y)).setCell ⟨g, qq, none⟩ (.int .i64 x)) (j + 1) ∧ Kp F w ((w1.setCell ⟨g, j, none⟩ (.int .i64 y)).setCell ⟨g, qq, none⟩ (.int .i64 x))) :=
        Lib.hid ⟨BB.out.keep _ _ _ _ (BB.out.keep _ _ _ _ R1.out (Kp.set _ _ _ _) FG.out) (Kp.set _ _ _ _) FG.out, (K1.out.setNew HB.out _ _).setNew HB.out _ _⟩
      clear R1 K1 hx hy Z1
      go_wp2
      go_region
      go_wp2
      exact ⟨⟨j + 1, by omega, by go_num, ZS1.out.kp ((Kp.refl (fun _ => False) _).drew) (fun e => e), BB.out.keep _ _ _ _ G1.out.1 ((Kp.refl (fun _ => False) _).drew) (fun _ _ e => e), G1.out.2.drew⟩, by simp [intOf]; omega⟩
    · obtain rfl : j = K := by omega
      have hnd : ((M j).take j).Nodup := HI.out.nodup.sublist (List.take_sublist _ _)
      have HND := Lib.hid hnd
      have FG : Hid (∀ k, F k → ¬ k = g) := Lib.hid fun k h e => by have := HF.out k h; have := HE.out; omega
      clear hnd
      go_wp2_with fail
      refine (sort_dev g N N j (M j) _ ZZ.out hK (by omega) HND.out).mono ?_
      rintro e w2 ⟨rfl, hz2, hk2⟩
      have Z2 := Lib.hid hz2
      have K2 := Lib.hid hk2
      clear hz2 hk2
      go_wp2_with fail
      go_ret
      have hlt : ((M j).take j).length = j := by rw [List.length_take, HI.out.len]; omega
      have hil : (C.isort ((M j).take j)).length = j := by rw [C.isort_length, hlt]
      have htk := take_sets (M j) (C.isort ((M j).take j)) (by rw [hil, HI.out.len]; exact hK) (by rw [Z2.out.1, HI.out.len])
      rw [hil] at htk
      refine ⟨_, rfl, Z2.out.own j hK (fun x hx => ?_) htk (by have := HE.out; omega), BB.out.keep _ _ _ _ RR.out K2.out FG.out, KK.out.trans K2.out fun k e => .inr (by have := HE.out; omega)⟩
      have hx2 := List.mem_of_mem_take ((C.mem_isort x _).1 hx)
      obtain ⟨i, hi, rfl⟩ := List.getElem_of_mem hx2
      have := HI.out.rng i (by rw [← HI.out.len]; exact hi)
      rw [List.getD_eq_getElem?_getD, List.getElem?_eq_getElem hi] at this
      simp only [Option.getD_some] at this
      unfold I64
      omega
theorem inj_upTo (N : Nat) : C.Inj N (upTo N) := C.shuf_inj 0 N 0 (Nat.zero_le _)
theorem isort_upTo {N K : Nat} (h : K ≤ N) : C.isort ((upTo N).take K) = upTo K := by
  have ht : (upTo N).take K = upTo K := by
    unfold upTo
    rw [← List.map_take, List.take_range, Nat.min_eq_left h]
  rw [ht]
  refine C.rise_ext _ _ (C.isort_sorted _ (inj_upTo K).nodup) ?_ fun x => C.mem_isort x _
  unfold upTo
  rw [List.pairwise_map]
  exact List.pairwise_lt_range.imp fun h => by omega
theorem swap_self (l : List Int) (i : Nat) (hi : i < l.length) : C.swap l i i = l := by
  apply List.ext_getElem?
  intro k
  unfold C.swap
  by_cases e : k = i
  · subst e
    rw [List.getElem?_set_self (by simpa using hi), List.getD_eq_getElem?_getD, List.getElem?_eq_getElem hi]
    rfl
  · rw [List.getElem?_set_ne (fun c => e c.symm), List.getElem?_set_ne (fun c => e c.symm)]
theorem some_none (d : Value) (n k : Int) (w : World) (hn : I64 n) (hk : I64 k) (hm : ¬ C.May n k) :
    Calls Try.prog 56 #[d, .int .i64 n, .int .i64 k] w fun e w' => e = .returned (.slice none 0 0) ∧ w' = w := by
  unfold I64 at hn hk
  unfold C.May at hm
  by_cases c1 : n < 0
  · go_enter Try.func56, Try.ntmps56
    go_wp2
    go_ret
    exact ⟨rfl, rfl⟩
  · by_cases c2 : 64 < n
    · go_enter Try.func56, Try.ntmps56
      go_wp2
      go_ret
      exact ⟨rfl, rfl⟩
    · by_cases c3 : k < 0
      · go_enter Try.func56, Try.ntmps56
        go_wp2
        go_ret
        exact ⟨rfl, rfl⟩
      · have c4 : n < k := by omega
        go_enter Try.func56, Try.ntmps56
        go_wp2
        go_ret
        exact ⟨rfl, rfl⟩
/-- Package choose as it was written, what is told being memory of its own. -/
theorem choose_own (s : Nat) (d : Value) (F : Nat → Prop) (n k : Int) (w : World) (hn : I64 n) (hk : I64 k) (hs : s < 18446744073709551616) (hd : DAt w d F s) :
    Calls Try.prog 56 #[d, .int .i64 n, .int .i64 k] w fun e w' => ∃ v, e = .returned v ∧ OwnZ w.heap.size w' v (C.someZ s n k) ∧ DAt w' d F (C.someS s n k) ∧ Kp F w w' := by
  by_cases hm : C.May n k
  · have e1 : C.someZ s n k = C.some s n.toNat k.toNat := if_pos hm
    have e2 : C.someS s n k = C.st s k.toNat := if_pos hm
    rw [e1, e2]
    obtain ⟨m1, m2, m3, m4⟩ := hm
    obtain ⟨N, rfl⟩ : ∃ N : Nat, n = N := ⟨n.toNat, by omega⟩
    obtain ⟨K, rfl⟩ : ∃ K : Nat, k = K := ⟨k.toNat, by omega⟩
    rw [Int.toNat_natCast, Int.toNat_natCast]
    refine some_core (fun W j => DAt W d F (C.st s j)) d F (fun j => belowV (C.st s j) ((N : Int) - j)) (C.pick s N) (C.shuf s N) N K w (by omega) (by omega) ⟨fun W W' j G h hkp hG => draw_ok.keep h hkp hG, fun W j hj h => ?_⟩ (fun j hj => ?_) rfl (fun j hj => rfl) hd (draw_ok.lt hd) (C.shuf_inj s N K (by omega))
    · have hb := draw_ok.below d F (C.st s j) ((N : Int) - j) W (C.st_lt hs j) (by omega) (by omega) h
      rw [(C.pick_below (s := s) (show j < N by omega)).2] at hb
      exact hb
    · have hr := belowV_rng (C.st s j) ((N : Int) - j)
      exact ⟨(C.pick_below (by omega)).1, (C.pick_lt (by omega)).2, by omega, by omega⟩
  · have e1 : C.someZ s n k = [] := if_neg hm
    have e2 : C.someS s n k = s := if_neg hm
    rw [e1, e2]
    refine (some_none d n k w hn hk hm).mono ?_
    rintro e w' ⟨rfl, rfl⟩
    exact ⟨_, rfl, ⟨(fun x hx => by cases hx), .inl ⟨rfl, rfl⟩⟩, hd, Kp.refl _ _⟩
theorem choose_ok : ChooseOk DAt where
  some := fun d n k F s w hn hk hs hd => (choose_own s d F n k w hn hk hs hd).mono (by
    rintro e w' ⟨v, rfl, ho, ha, hk⟩
    exact ⟨v, rfl, ho.zs, ho.away (draw_ok.lt hd), ha, hk⟩)
  someNil := by
    intro n k w hn hk hm
    obtain ⟨m1, m2, m3, m4⟩ := hm
    obtain ⟨N, rfl⟩ : ∃ N : Nat, n = N := ⟨n.toNat, by omega⟩
    obtain ⟨K, rfl⟩ : ∃ K : Nat, k = K := ⟨k.toNat, by omega⟩
    rw [Int.toNat_natCast]
    refine (some_core (fun _ _ => True) (.pointer none) (fun _ => False) (fun _ => 0) (fun j => j) (fun _ => upTo N) N K w (by omega) (by omega) ⟨fun _ _ _ _ _ _ _ => trivial, fun W j hj _ => ?_⟩ (fun j hj => ⟨by omega, by omega, by omega, by omega⟩) rfl (fun j hj => (swap_self (upTo N) j (by rw [upTo_length]; omega)).symm) trivial (fun k h => h.elim) (inj_upTo N)).mono ?_
    · refine (belowNil_dev ((N : Int) - j) W (by omega) (by omega)).mono ?_
      rintro e w' ⟨rfl, hg⟩
      exact ⟨rfl, trivial, hg.kp _⟩
    · rintro e w' ⟨v, rfl, ho, _, hk⟩
      rw [isort_upTo (by omega)] at ho
      exact ⟨v, rfl, ho.zs, ho.away (fun _ h => h), hk.gr (Gr.refl w) fun _ h => h.elim⟩
end Go.Proofs.Ytbabecjphmmngaa
