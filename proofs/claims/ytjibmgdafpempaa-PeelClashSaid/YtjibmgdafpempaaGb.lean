/-
  Package peel as it was written: what an equation states of its columns that are not known.
-/
import Derived.Test.YtjibmgdafpempaaGa
import Derived.Test.YtjibmgdafpempaaMgj
import Derived.Test.YtjibmgdafpempaaMgl
import Derived.Laws.ResultCell
import Derived.BigRegion
import Derived.Deep.RegionLaw
import Derived.Deep.DeepCutAuto
import Derived.Deep.RegionHeld3
namespace Go.Proofs.Ytjibmgdafpempaa
open Go.RowKit

theorem heap_gr {w w' : World} (hg : Gr w w') {k : Nat} {x : Obj} (h : w.heap[k]? = some x) : w'.heap[k]? = some x := by
  rw [hg.2.2.2.2 k (Array.getElem?_eq_some_iff.1 h).1]
  exact h
/-- A row of ones under way in block g7; the result's own block g6 is still as it was made. -/
structure Rd (w0 W : World) (g6 g7 : Nat) (uc ud : Value) (cs ds : List Int) : Prop where
  blk : W.heap[g7]? = some (.cells #[uc, ud] 27 (0, 0))
  res : W.heap[g6]? = some (.cells #[.slice none 0 0, .slice none 0 0] 27 (0, 0))
  low6 : w0.heap.size ≤ g6
  low7 : w0.heap.size ≤ g7
  ne : g6 ≠ g7
  own : W.ownsRow w0.heap.size 3 1 uc cs.length (cs.map (Value.int .i64))
  bs : Bs W ud ds
  rb : Rb 0 W ud
  gr : Gr w0 W
section
variable {w0 W : World} {g6 g7 : Nat} {uc ud : Value} {cs ds : List Int}
theorem Rd.c0 (h : Rd w0 W g6 g7 uc ud cs ds) : W.cell? ⟨g7, 0, none⟩ = some uc := by rw [cell_of_row _ _ 0 _ _ _ h.blk]; rfl
theorem Rd.c1 (h : Rd w0 W g6 g7 uc ud cs ds) : W.cell? ⟨g7, 1, none⟩ = some ud := by rw [cell_of_row _ _ 1 _ _ _ h.blk]; rfl
theorem Rd.r0 (h : Rd w0 W g6 g7 uc ud cs ds) : W.cell? ⟨g6, 0, none⟩ = some (.slice none 0 0) := by rw [cell_of_row _ _ 0 _ _ _ h.res]; rfl
theorem Rd.r1 (h : Rd w0 W g6 g7 uc ud cs ds) : W.cell? ⟨g6, 1, none⟩ = some (.slice none 0 0) := by rw [cell_of_row _ _ 1 _ _ _ h.res]; rfl
theorem Rd.fz (h : Rd w0 W g6 g7 uc ud cs ds) (i : Nat) : W.frozen? ⟨g7, i, none⟩ = false := frozen_of_row _ _ _ _ _ h.blk
theorem Rd.fz6 (h : Rd w0 W g6 g7 uc ud cs ds) (i : Nat) : W.frozen? ⟨g6, i, none⟩ = false := frozen_of_row _ _ _ _ _ h.res
theorem Rd.grow {W' : World} (h : Rd w0 W g6 g7 uc ud cs ds) (hg : Gr W W') : Rd w0 W' g6 g7 uc ud cs ds :=
  ⟨heap_gr hg h.blk, heap_gr hg h.res, h.low6, h.low7, h.ne, h.own.of_gr hg, (Rb.gr h.bs h.rb hg).1, (Rb.gr h.bs h.rb hg).2, Gr.trans h.gr hg⟩
theorem Rd.far (h : Rd w0 W g6 g7 uc ud cs ds) : ∀ q, some g7 = some q → 0 ≤ q ∧ ∀ cur, W.heap[q]? ≠ some (.cells cur 5 (0, 0)) := fun q e => by
  cases e
  refine ⟨Nat.zero_le _, fun cur hc => ?_⟩
  rw [h.blk] at hc
  simp at hc
theorem Rd.ownNe (h : Rd w0 W g6 g7 uc ud cs ds) {g : Nat} {cur : Array Value} (hg : W.heap[g]? = some (.cells cur 27 (0, 0))) : uc.ownBlock ≠ some g := fun e => by
  obtain ⟨_, ⟨rfl, _⟩ | ⟨g', c, cur', rfl, _, hgg, _⟩⟩ := h.own
  · cases e
  · simp [Value.ownBlock] at e
    subst e
    rw [hgg] at hg
    simp at hg
/-- The data is put anew. -/
theorem Rd.putD {u : Value} {l : List Int} (h : Rd w0 W g6 g7 uc ud cs ds) (hb : Bs W u l) (hr : Rb 0 W u) : Rd w0 (W.setCell ⟨g7, 1, none⟩ u) g6 g7 uc u cs l := by
  have h1 := row_far (i := 1) (u := u) hb hr h.far
  refine ⟨?_, ?_, h.low6, h.low7, h.ne, ownsRow_far h.own (h.ownNe h.blk), h1.1, h1.2, Gr.setCell h.gr h.low7 _⟩
  · rw [heap_setCell_same _ _ _ _ _ _ h.blk]
    rfl
  · rw [heap_setCell_other _ _ _ _ h.ne]
    exact h.res
theorem Rd.still {W' : World} (h : Rd w0 W g6 g7 uc ud cs ds) (hg : W.grownBy W' uc.ownBlock) : W'.heap[g7]? = some (.cells #[uc, ud] 27 (0, 0)) := by
  rw [hg.block g7 (Array.getElem?_eq_some_iff.1 h.blk).1 (fun e => h.ownNe h.blk e.symm)]
  exact h.blk
theorem Rd.after {W' : World} (h : Rd w0 W g6 g7 uc ud cs ds) (hg : W.grownBy W' uc.ownBlock) : W'.cell? ⟨g7, 0, none⟩ = some uc ∧ W'.frozen? ⟨g7, 0, none⟩ = false :=
  ⟨by rw [cell_of_row _ _ 0 _ _ _ (h.still hg)]; rfl, frozen_of_row _ _ _ _ _ (h.still hg)⟩
/-- One column more. -/
theorem Rd.putC {W' : World} {u : Value} {x : Int} (h : Rd w0 W g6 g7 uc ud cs ds) (ho : W'.ownsRow w0.heap.size 3 1 u (cs.length + 1) ((cs ++ [x]).map (Value.int .i64))) (hg : W.grownBy W' uc.ownBlock) : Rd w0 (W'.setCell ⟨g7, 0, none⟩ u) g6 g7 u ud (cs ++ [x]) ds := by
  have hne : ∀ (t : TypeId), t ≠ 3 → ∀ q, uc.ownBlock = some q → 0 ≤ q ∧ ∀ cur, W.heap[q]? ≠ some (.cells cur t (0, 0)) := fun t ht q e => by
    refine ⟨Nat.zero_le _, fun cur hc => ?_⟩
    obtain ⟨_, ⟨rfl, _⟩ | ⟨g', c, cur', rfl, _, hgg, _⟩⟩ := h.own
    · cases e
    · simp [Value.ownBlock] at e
      subst e
      rw [hgg] at hc
      simp at hc
      exact ht hc.2.symm
  have hb : W'.heap[g7]? = some (.cells #[uc, ud] 27 (0, 0)) := by
    rw [hg.block g7 (Array.getElem?_eq_some_iff.1 h.blk).1 (fun e => (hne _ (by decide) g7 e.symm).2 _ h.blk)]
    exact h.blk
  have hr : W'.heap[g6]? = some (.cells #[.slice none 0 0, .slice none 0 0] 27 (0, 0)) := by
    rw [hg.block g6 (Array.getElem?_eq_some_iff.1 h.res).1 (fun e => (hne _ (by decide) g6 e.symm).2 _ h.res)]
    exact h.res
  have hgr : Gr w0 W' := gr_by_own h.gr hg h.own (Nat.le_refl _)
  have h2 := Rb.kept h.bs h.rb hg.block (hne _ (by decide))
  have hfar : ∀ q, some g7 = some q → 0 ≤ q ∧ ∀ cur, W'.heap[q]? ≠ some (.cells cur 5 (0, 0)) := fun q e => by
    cases e
    refine ⟨Nat.zero_le _, fun cur hc => ?_⟩
    rw [hb] at hc
    simp at hc
  have h3 := row_far (i := 0) (u := u) h2.1 h2.2 hfar
  refine ⟨?_, ?_, h.low6, h.low7, h.ne, ?_, h3.1, h3.2, Gr.setCell hgr h.low7 _⟩
  · rw [heap_setCell_same _ _ _ _ _ _ hb]
    rfl
  · rw [heap_setCell_other _ _ _ _ h.ne]
    exact hr
  · rw [List.length_append]
    refine ownsRow_far ho fun e => ?_
    obtain ⟨_, ⟨rfl, _⟩ | ⟨g', c, cur', rfl, _, hgg, _⟩⟩ := ho
    · cases e
    · simp [Value.ownBlock] at e
      subst e
      rw [hgg] at hb
      simp at hb
theorem Rd.done (h : Rd w0 W g6 g7 uc ud cs ds) (hr : ∀ x ∈ cs, I64 x) : ((W.setCell ⟨g6, 0, none⟩ uc).setCell ⟨g6, 1, none⟩ ud).heap[g6]? = some (.cells #[uc, ud] 27 (0, 0)) ∧ EqVal 0 ((W.setCell ⟨g6, 0, none⟩ uc).setCell ⟨g6, 1, none⟩ ud) uc ud ⟨cs, ds⟩ ∧ Gr w0 ((W.setCell ⟨g6, 0, none⟩ uc).setCell ⟨g6, 1, none⟩ ud) := by
  have e1 : (W.setCell ⟨g6, 0, none⟩ uc).heap[g6]? = some (.cells #[uc, .slice none 0 0] 27 (0, 0)) := by
    rw [heap_setCell_same _ _ _ _ _ _ h.res]
    rfl
  have e2 : ((W.setCell ⟨g6, 0, none⟩ uc).setCell ⟨g6, 1, none⟩ ud).heap[g6]? = some (.cells #[uc, ud] 27 (0, 0)) := by
    rw [heap_setCell_same _ _ _ _ _ _ e1]
    rfl
  have hfar : ∀ {W : World} {cur' : Array Value}, W.heap[g6]? = some (.cells cur' 27 (0, 0)) → ∀ q, some g6 = some q → 0 ≤ q ∧ ∀ cur, W.heap[q]? ≠ some (.cells cur 5 (0, 0)) := fun hw q e => by
    cases e
    refine ⟨Nat.zero_le _, fun cur hc => ?_⟩
    rw [hw] at hc
    simp at hc
  have b1 := row_far (i := 0) (u := uc) h.bs h.rb (hfar h.res)
  have b2 := row_far (i := 1) (u := ud) b1.1 b1.2 (hfar e1)
  have o2 := ownsRow_far (g' := g6) (i := 1) (u := ud) (ownsRow_far (g' := g6) (i := 0) (u := uc) h.own (h.ownNe h.res)) (h.ownNe h.res)
  exact ⟨e2, ⟨owns_zs o2 rfl hr, fun a n c e h0 => .inr (owns_inInts o2 a n c e h0), b2.1, b2.2⟩, Gr.setCell (Gr.setCell h.gr h.low6 _) h.low6 _⟩
end
set_option maxRecDepth 100000 in
set_option maxHeartbeats 1600000 in
theorem reduced_any (vc vd vk vv : Value) (c d : List Int) (kn : List Bool) (vs : List (List Int)) (S : Nat) (w : World) (hz : Zs w vc c) (hd : Bs w vd d) (hk : Bl w vk kn) (hv : Bss w vv vs) (hr : ∀ x ∈ c, 0 ≤ x ∧ x < (kn.length : Int)) (hl : c.length ≤ 1000) (hkl : kn.length ≤ 1000) (hS : d.length = S) (hSl : S ≤ 100000) (hV : Valed S kn vs) :
    Calls Try.prog 31 #[.agg #[vc, vd], vk, vv] w fun e w' => ∃ uc ud, e = .returned (.agg #[uc, ud]) ∧ EqVal 0 w' uc ud ⟨openL kn c, restL kn vs c d⟩ ∧ Gr w w' := by
  obtain ⟨m, hm⟩ : ∃ m, c.length = m := ⟨_, rfl⟩
  obtain ⟨n, hn⟩ : ∃ n, kn.length = n := ⟨_, rfl⟩
  have HZ := Lib.hid hz
  have HK := Lib.hid hk
  have HV := Lib.hid hv
  have HD := Lib.hid hd
  have HVL := Lib.hid hV
  have hvn : vs.length = n := by rw [hV.1, hn]
  obtain ⟨oa, ca, rfl⟩ := hz.form
  obtain ⟨od, cd, rfl⟩ := hd.form
  obtain ⟨ok, ck, rfl⟩ := hk.form3
  obtain ⟨ov, nv, cv, rfl⟩ := hv.form3
  obtain rfl : nv = vs.length := hv.len3
  rw [hvn] at HV ⊢
  rw [hm] at HZ hl ⊢
  rw [hn] at HK hkl hr ⊢
  rw [hS] at HD ⊢
  have HM := Lib.hid hm
  have HR := Lib.hid hr
  have HS := Lib.hid hS
  have HVN := Lib.hid hvn
  clear hz hk hm hn hr hd hv hV hS hvn
  go_enter Try.func31, Try.ntmps31
  have hg0 : Gr w ((w.alloc (.cells #[.slice oa m ca, .slice od S cd] 27)).alloc (.cells #[.slice none 0 0, .slice none 0 0] 27)) := Gr.alloc (Gr.alloc (Gr.refl _) _ _) _ _
  have HG0 := Lib.hid hg0
  have c0 : ((w.alloc (.cells #[.slice oa m ca, .slice od S cd] 27)).alloc (.cells #[.slice none 0 0, .slice none 0 0] 27)).cell? ⟨w.heap.size, 0, none⟩ = some (.slice oa m ca) := by rw [cell_of_row _ _ 0 _ _ _ (heap_alloc2_old _ _ _)]; rfl
  have c1 : ((w.alloc (.cells #[.slice oa m ca, .slice od S cd] 27)).alloc (.cells #[.slice none 0 0, .slice none 0 0] 27)).cell? ⟨w.heap.size, 1, none⟩ = some (.slice od S cd) := by rw [cell_of_row _ _ 1 _ _ _ (heap_alloc2_old _ _ _)]; rfl
  have c6 : Hid (((w.alloc (.cells #[.slice oa m ca, .slice od S cd] 27)).alloc (.cells #[.slice none 0 0, .slice none 0 0] 27)).heap[w.heap.size + 1]? = some (.cells #[.slice none 0 0, .slice none 0 0] 27 (0, 0))) := Lib.hid (heap_alloc2_new _ _ _)
  have HD0 := Lib.hid (HD.out.grown hg0)
  have hs0 : ((w.alloc (.cells #[.slice oa m ca, .slice od S cd] 27)).alloc (.cells #[.slice none 0 0, .slice none 0 0] 27)).heap.size = w.heap.size + 2 := by simp
  have HS0 := Lib.hid hs0
  clear hg0 hs0
  go_upto_region 1 with fail
  generalize (w.alloc (.cells #[.slice oa m ca, .slice od S cd] 27)).alloc (.cells #[.slice none 0 0, .slice none 0 0] 27) = W0 at *
  generalize hgq : w.heap.size = gq at *
  have HGQ := Lib.hid hgq
  clear hgq
  go_upto_region 2 with (first
    | (go_at_call 34; refine (clone_new _ d _ HD0.out (by rw [HS.out]; omega)).mono ?_; rintro e w1 ⟨v1, rfl, hn1⟩; obtain ⟨o1, m1, d1, rfl⟩ := New.form3 hn1; have c0 := cell_gr hn1.1 c0; have c1 := cell_gr hn1.1 c1; have N1 := Lib.hid hn1; clear hn1))
  have RD1 : Hid (Rd w (w1.alloc (.cells #[.slice none 0 0, .slice o1 m1 d1] 27)) (gq + 1) w1.heap.size (.slice none 0 0) (.slice o1 m1 d1) (openL kn (c.take 0)) (restL kn vs (c.take 0) d)) := Lib.hid (by
    have hsz := N1.out.1.size
    rw [HS0.out] at hsz
    have hga : Gr w1 (w1.alloc (.cells #[.slice none 0 0, .slice o1 m1 d1] 27)) := Gr.alloc (Gr.refl _) _ _
    have hb := Rb.gr (New.bs N1.out) (New.rb N1.out 0) hga
    exact ⟨heap_alloc_new _ _, heap_gr (Gr.trans N1.out.1 hga) c6.out, by rw [HGQ.out]; omega, by rw [HGQ.out]; omega, by omega, World.ownsRow_nil _ _ _ _, hb.1, hb.2, Gr.trans HG0.out (Gr.trans N1.out.1 hga)⟩)
  have c0 := cell_gr (Gr.alloc (Gr.refl w1) (#[.slice none 0 0, .slice o1 m1 d1]) 27) c0
  clear c1 c6 HD0 HS0
  generalize w1.alloc (.cells #[.slice none 0 0, .slice o1 m1 d1] 27) = W1 at *
  generalize w1.heap.size = g7 at *
  go_wp2_with fail
  go_loopw [17] (fun iv W => ∃ i : Nat, i ≤ m ∧ iv = .int .i64 i ∧ ∃ uc ud, Rd w W (gq + 1) g7 uc ud (openL kn (c.take i)) (restL kn vs (c.take i) d)) (fun iv _ => m - (intOf iv).toNat)
  case atStart => exact ⟨0, by omega, rfl, _, _, RD1.out⟩
  case round =>
    clear RD1 N1 c0
    obtain ⟨wo, hwo⟩ : ∃ x, x = wr := ⟨_, rfl⟩
    subst hwo
    obtain ⟨i, hi, rfl, uc, ud, hrd⟩ := hrel
    have RD := Lib.hid hrd
    have k0 := hrd.c0
    have k1 := hrd.c1
    have f0 := hrd.fz 0
    have f1 := hrd.fz 1
    obtain ⟨ou, cu, hfc⟩ := ownsRow_form'' hrd.own
    obtain ⟨ow, nw, cw, hfd⟩ := hrd.bs.form4
    subst hfc
    subst hfd
    clear hrd
    by_cases hlt : i < m
    · obtain ⟨a, rfl⟩ := HZ.out.addr (by omega)
      have q := (HZ.out.grown RD.out.gr).cellAt hlt
      have hxm := HR.out (c.getD i 0) (by rw [List.getD_eq_getElem?_getD, List.getElem?_eq_getElem (by rw [HM.out]; exact hlt)]; exact List.getElem_mem _)
      have hxr := HZ.out.rng i (by rw [HM.out]; exact hlt)
      have hle := openL_le kn (c.take i)
      rw [List.length_take] at hle
      have hso : openL kn (c.take (i + 1)) = openL kn (c.take i) ++ (if kn.getD (c.getD i 0).toNat false = true then [] else [c.getD i 0]) := by
        rw [take_snoc c i 0 (by rw [HM.out]; exact hlt), openL_snoc]
      have hst : restL kn vs (c.take (i + 1)) d = if kn.getD (c.getD i 0).toNat false = true then sumL (vs.getD (c.getD i 0).toNat []) (restL kn vs (c.take i) d) else restL kn vs (c.take i) d := by
        rw [take_snoc c i 0 (by rw [HM.out]; exact hlt), restL_snoc]
      obtain ⟨x, hx⟩ : ∃ x : Nat, c.getD i 0 = (x : Int) := ⟨(c.getD i 0).toNat, by omega⟩
      rw [hx] at q hxm hst hso hxr
      rw [Int.toNat_natCast] at hst hso
      obtain ⟨ak, rfl⟩ := HK.out.addr (by omega)
      have q2 := (HK.out.grown RD.out.gr).cellAt (i := x) (by omega)
      have hxn : (x : Int) < (n : Int) := hxm.2
      have hrl := restL_ok HVL.out (c.take i) d HS.out HD.out.1
      have hvx := HVL.out.2 x
      have HST := Lib.hid hst
      have HSO := Lib.hid hso
      have HRL := Lib.hid hrl
      have HVX := Lib.hid hvx
      have HXR := Lib.hid hxr
      generalize restL kn vs (c.take i) d = lo at *
      generalize openL kn (c.take i) = lc at *
      obtain ⟨lc', hlc⟩ : ∃ k, lc.length = k := ⟨_, rfl⟩
      rw [hlc] at RD hle k0
      have HLC := Lib.hid hlc
      clear hst hx hxm hrl hvx hso hxr hlc
      cases hb : kn.getD x false with
      | false =>
        rw [hb] at q2
        rw [hb, if_neg (by simp)] at HST
        rw [hb, if_neg (by simp)] at HSO
        clear hb
        have R1 := Lib.hid (RD.out.grow (Gr.alloc (Gr.refl wo) (#[.int .i64 (x : Int)]) 3))
        go_wp2_with (at_builtin; refine wpList_append_int rfl _ _ rfl gq (.slice ou lc' cu) lc' lc rfl (by have := R1.out.own; rw [HGQ.out, HLC.out] at this; exact this) wo.heap.size (x : Int) rfl (by rw [cell_of_row _ _ 0 _ _ _ (heap_alloc_new wo _)]; rfl) (by omega) (by have := RD.out.gr.size; rw [HGQ.out] at this; simp; omega) ?_; intro g5 cap5 w5 h1 h2 h3; have O5 := Lib.hid h1; have G5 := Lib.hid h2; have AF := R1.out.after h2; have a0 := AF.1; have a1 := AF.2; clear h1 h2 h3 AF)
        have P5 := R1.out.putC (x := (x : Int)) (by rw [HGQ.out, HLC.out]; exact O5.out) G5.out
        exact ⟨⟨i + 1, by omega, by go_num, _, _, by rw [HSO.out, HST.out]; exact P5⟩, by simp [intOf]; omega⟩
      | true =>
        rw [hb] at q2
        rw [hb, if_pos rfl] at HST
        rw [hb, if_pos rfl, List.append_nil] at HSO
        have hvx := HVX.out hb
        clear hb
        obtain ⟨b, rfl⟩ := HV.out.addr (by omega)
        obtain ⟨u, q3, hu⟩ := (HV.out.grown RD.out.gr).rowAt (i := x) (by omega)
        obtain ⟨oy, my, cy, rfl⟩ := hu.form4
        have HU := Lib.hid hu
        have HVY := Lib.hid hvx
        clear hu hvx HVX
        go_upto_region 6 with fail
        go_region_law (first
          | ((try go_simp); go_at_call 35; refine (ok_sum _ _ lo (vs.getD x []) _ (RD.out.bs.grown (Gr.drew (Gr.refl _))) (HU.out.grown (Gr.drew (Gr.refl _))) (by rw [HRL.out.1]; omega) (by rw [HVY.out.1, HRL.out.1])).mono ?_; rintro e w2 ⟨v2, rfl, hn2⟩; obtain ⟨o2, m2, d2, rfl⟩ := New.form3 hn2; have t1 := cell_grown hn2.1 k1; have t2 := frozen_grown hn2.1 k1 f1; have N2 := Lib.hid hn2; clear hn2))
        all_goals
          go_wp2_with fail
          have hsm : sumL lo (vs.getD x []) = sumL (vs.getD x []) lo := by
            unfold sumL
            rw [HVY.out.1, HRL.out.1]
            exact lst_congr _ _ _ fun i _ => addZ_comm _ _
          have P5 := (RD.out.grow (Gr.trans (Gr.drew (Gr.refl _)) N2.out.1)).putD (New.bs N2.out) (New.rb N2.out 0)
          exact ⟨⟨i + 1, by omega, by go_num, _, _, by rw [HSO.out, HST.out, ← hsm]; exact P5⟩, by simp [intOf]; omega⟩
    · obtain rfl : m = i := by omega
      have hall : c.take m = c := List.take_of_length_le (by rw [HM.out]; exact Nat.le_refl _)
      rw [hall] at RD
      have k6 := RD.out.r0
      have k7 := RD.out.r1
      have h6 := RD.out.fz6 0
      have h7 := RD.out.fz6 1
      have hne := RD.out.ne
      have hdone := RD.out.done fun x hx => HZ.out.1 x (List.mem_filter.1 hx).1
      have HDN := Lib.hid hdone
      clear hdone
      go_wp2_with fail
      refine bodyPost_ret (results_cell_row rfl _ _ (gq + 1) 27 _ (0, 0) _ rfl HDN.out.1 Try.underlying27 rfl (by kernel_rfl)) rfl ?_
      have h2 := HDN.out.2
      exact ⟨_, _, rfl, h2⟩
end Go.Proofs.Ytjibmgdafpempaa
