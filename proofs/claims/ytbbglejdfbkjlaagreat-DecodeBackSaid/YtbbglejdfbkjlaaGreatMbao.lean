/-
  Texts laid behind one another: Ub Uc.
-/
import Derived.Test.YtbbglejdfbkjlaaGreatMban
import Derived.Laws.CopyOwn
namespace Go.Proofs.YtbbglejdfbkjlaaGreat
open Go.RowKit
theorem openL_none (c : List Int) : openL [] c = c := by
 unfold openL
 simp
theorem PN.cntTo_nil {dn us : List Bool} {R : List (List Int)} (h : ∀ i, us.getD i false = true → openL dn (R.getD i []) = []) {x : Nat} (hx : dn.getD x false = false) : ∀ k, PN.cntTo dn us R k x = PN.cntTo [] [] R k x
 | 0 => rfl
 | k + 1 => by
  show PN.cntTo dn us R k x + _ = PN.cntTo [] [] R k x + _
  rw [PN.cntTo_nil h hx k, openL_none]
  congr 1
  have e : (us.getD k false = false ∧ (x : Int) ∈ openL dn (R.getD k [])) ↔ (([] : List Bool).getD k false = false ∧ (x : Int) ∈ R.getD k []) := by
   constructor
   ·rintro ⟨_, h2⟩
    exact ⟨by simp, (openL_mem.1 h2).1⟩
   ·rintro ⟨_, h2⟩
    have hm : (x : Int) ∈ openL dn (R.getD k []) := openL_mem.2 ⟨h2, by rw [Int.toNat_natCast]; exact hx⟩
    refine ⟨?_, hm⟩
    cases hu : us.getD k false with
    | true => rw [h k hu] at hm; cases hm
    | false => rfl
  simp only [e]
theorem PN.bestTo_congr {dn : List Bool} {f f' : Nat → Nat} (h : ∀ c, dn.getD c false = false → f c = f' c) : ∀ n, PN.bestTo dn f n = PN.bestTo dn f' n
 | 0 => rfl
 | n + 1 => by
  have ih := PN.bestTo_congr h n
  show (if dn.getD n false = true then PN.bestTo dn f n else match PN.bestTo dn f n with | none => some n | some b => if f b < f n then some n else some b) = (if dn.getD n false = true then PN.bestTo dn f' n else match PN.bestTo dn f' n with | none => some n | some b => if f' b < f' n then some n else some b)
  rw [← ih]
  by_cases hd : dn.getD n false = true
  ·rw [if_pos hd, if_pos hd]
  ·rw [if_neg hd, if_neg hd]
   cases hb : PN.bestTo dn f n with
   | none => rfl
   | some b =>
    have h1 := ((PN.bestTo_spec dn f n).1 b hb).2.1
    show (if f b < f n then some n else some b) = (if f' b < f' n then some n else some b)
    rw [h b h1, h n (by simpa using hd)]
set_option maxRecDepth 100000 in
set_option maxHeartbeats 3200000 in
theorem counts_any (N : Nat) (v : Value) (R : List (List Int)) (w : World) (h : Zss w v R) (hl : R.length ≤ 1000) (hc : ∀ c ∈ R, c.length ≤ 1000) (hR : ∀ c ∈ R, MayRow N c) (hN : N ≤ 64) :
  Calls Tryz.prog 129 #[.int .i64 N, v] w fun e w' => ∃ g, e = .returned (.slice (some ⟨g, 0, none⟩) N N) ∧ Blz w' g (PN.cntL N (PN.cntTo [] [] R R.length)) ∧ w.heap.size ≤ g ∧ Gr w w' := by
 obtain ⟨o, c, rfl⟩ := h.form
 obtain ⟨m, hm⟩ : ∃ m, R.length = m := ⟨_, rfl⟩
 rw [hm] at h hl ⊢
 have HZ := Lib.hid h
 have HM := Lib.hid hm
 have HC := Lib.hid hc
 have HR := Lib.hid hR
 clear h hm hc hR
 have hmk := makeZ N N (by omega) (by omega)
 have C0 : Hid (Blz (w.alloc (.cells (rowZ (List.replicate N 0)) 3)) w.heap.size (PN.cntL N (PN.cntTo [] [] R 0))) := Lib.hid (by
   have : PN.cntL N (PN.cntTo [] [] R 0) = List.replicate N 0 := by
     apply List.ext_getElem (by simp [PN.cntL])
     intro j h1 h2
     simp [PN.cntL, PN.cntTo]
   rw [this]
   exact heap_alloc_new _ _)
 have GA : Hid (Gr w (w.alloc (.cells (rowZ (List.replicate N 0)) 3))) := Lib.hid (Gr.alloc (Gr.refl _) _ _)
 go_enter Tryz.func129, Tryz.ntmps129
 go_wp2_with fail
 clear hmk
 generalize hW2 : w.alloc (.cells (rowZ (List.replicate N 0)) 3) = w2 at *
 obtain ⟨gc, hgc⟩ : ∃ g, w.heap.size = g := ⟨_, rfl⟩
 rw [hgc] at C0 ⊢
 have HGC := Lib.hid hgc
 clear hW2 hgc
 go_loopw [14] (fun kv W => ∃ k : Nat, k ≤ m ∧ kv = .int .i64 k ∧ Blz W gc (PN.cntL N (PN.cntTo [] [] R k)) ∧ Gr w W) (fun kv _ => m - (intOf kv).toNat)
 case atStart => exact ⟨0, by omega, rfl, C0.out, GA.out⟩
 case round =>
  clear C0 GA
  obtain ⟨wp, hwp⟩ : ∃ x, x = wr := ⟨_, rfl⟩
  subst hwp
  obtain ⟨k, hk, rfl, hbz, hgk⟩ := hrel
  have BZ := Lib.hid hbz
  have GK := Lib.hid hgk
  clear hbz hgk
  by_cases hki : k < m
  ·obtain ⟨a, rfl⟩ := Zss.addr HZ.out (by omega)
   obtain ⟨u, q1, hu⟩ := Zss.rowAt HZ.out hki
   have q1 := cell_gr GK.out q1
   obtain ⟨ou, cu, rfl⟩ := hu.form
   have hcm := getD_memL (L := R) (i := k) (by rw [HM.out]; exact hki)
   have hmr := HR.out _ hcm
   have hcl := HC.out _ hcm
   have HCT : Hid (PN.cntTo [] [] R (k + 1) = PN.cntP (PN.cntTo [] [] R k) (R.getD k []) (R.getD k []).length) := Lib.hid (by
     have := PN.cntTo_more (dn := []) (us := []) (R := R) (k := k) (by simp)
     rwa [openL_none] at this)
   obtain ⟨r, hr⟩ : ∃ r, R.getD k [] = r := ⟨_, rfl⟩
   rw [hr] at hu q1 hmr hcl HCT
   have hnd : r.Nodup := (rising_pw hmr.2).imp fun {x y} h => by omega
   have HMR := Lib.hid hmr
   have HND := Lib.hid hnd
   obtain ⟨no, hno⟩ : ∃ n, r.length = n := ⟨_, rfl⟩
   rw [hno] at hu q1 hcl HCT
   have HNO := Lib.hid hno
   have HU := Lib.hid hu
   clear hu hmr hnd hno hcm hr
   go_wp2_with fail
   go_loopw [20] (fun pv W => ∃ p : Nat, p ≤ no ∧ pv = .int .i64 p ∧ Blz W gc (PN.cntL N (PN.cntP (PN.cntTo [] [] R k) r p)) ∧ Gr w W) (fun pv _ => no - (intOf pv).toNat)
   case atStart => exact ⟨0, by omega, rfl, by rw [PN.cntP_zero]; exact BZ.out, GK.out⟩
   case round =>
    obtain ⟨wk, hwk⟩ : ∃ x, x = wr := ⟨_, rfl⟩
    subst hwk
    obtain ⟨p, hp, rfl, hbp, hgp⟩ := hrel
    have BP := Lib.hid hbp
    have GP := Lib.hid hgp
    have ZP := Lib.hid (HU.out.grown hgp)
    clear hbp hgp
    by_cases hpt : p < no
    ·obtain ⟨a3, rfl⟩ := Zs.addr ZP.out (by omega)
     have q5 := Zs.cellAt ZP.out hpt
     have hxm := getD_memZ (l := r) (i := p) (by rw [HNO.out]; exact hpt)
     have hxr := HMR.out.1 _ hxm
     obtain ⟨X, hX⟩ : ∃ X : Nat, r.getD p 0 = (X : Int) := ⟨_, (Int.toNat_of_nonneg hxr.1).symm⟩
     have hst := PN.cntP_step (f := PN.cntTo [] [] R k) (by rw [HNO.out]; exact hpt) HND.out hX
     rw [hX] at q5 hxr
     have hXN : X < N := by omega
     have q6 := BP.out.cell X (by rw [PN.cntL_length]; exact hXN)
     rw [PN.cntL_get hXN] at q6
     have q7 := BP.out.frzP X
     have hset := PN.cntL_set (f := PN.cntP (PN.cntTo [] [] R k) r p) hXN (PN.cntP (PN.cntTo [] [] R k) r p X + 1)
     rw [hst] at hset
     have hb := BP.out.putP X ((PN.cntP (PN.cntTo [] [] R k) r p X + 1 : Nat) : Int)
     rw [hset] at hb
     have hle : PN.cntP (PN.cntTo [] [] R k) r p X ≤ 2000 := by
      have := PN.cntTo_le [] [] R X k
      unfold PN.cntP
      split <;> omega
     obtain ⟨y, hy⟩ : ∃ y, PN.cntP (PN.cntTo [] [] R k) r p X = y := ⟨_, rfl⟩
     rw [hy] at q6 hb hle
     have hle2 : (y : Int) ≤ 2000 := by omega
     clear hle
     rw [show ((y + 1 : Nat) : Int) = (y : Int) + 1 from by omega] at hb
     have HB := Lib.hid hb
     clear hb hst hset hxm hxr hX hy
     go_wp2_with fail
     exact ⟨⟨p + 1, by omega, by go_num, HB.out, Gr.setCell GP.out (by rw [← HGC.out]; exact Nat.le_refl _) _⟩, by simp [intOf]; omega⟩
    ·obtain rfl : p = no := by omega
     go_wp2_with fail
     exact ⟨⟨k + 1, by omega, by go_num, by rw [HCT.out]; exact BP.out, GP.out⟩, by simp [intOf]; omega⟩
  ·obtain rfl : k = m := by omega
   go_wp2_with fail
   go_ret
   exact ⟨gc, rfl, BZ.out, by rw [HGC.out]; exact Nat.le_refl _, GK.out⟩
set_option maxRecDepth 100000 in
set_option maxHeartbeats 3200000 in
theorem busiest_any (N : Nat) (vo vk : Value) (f : Nat → Nat) (dn : List Bool) (w : World) (ho : Zs w vo (PN.cntL N f)) (hk : Bl w vk (dn.map fun b => !b)) (hd : dn.length = N) (hN : N ≤ 64) (hf : ∀ c, f c ≤ 2000) :
  Calls Tryz.prog 131 #[vo, vk] w fun e w' => e = .returned (.int .i64 (PN.rowZ (PN.bestTo dn f N))) ∧ ∃ q, w' = w.drewN q := by
 obtain ⟨oo, co, rfl⟩ := ho.form
 obtain ⟨ok, ck, rfl⟩ := hk.form3
 rw [List.length_map, hd] at hk ⊢
 rw [PN.cntL_length] at ho ⊢
 have HO := Lib.hid ho
 have HK := Lib.hid hk
 have HD := Lib.hid hd
 have HFL : Hid (∀ c, (f c : Int) ≤ 2000) := Lib.hid fun c => by have := hf c; omega
 clear ho hk hd hf
 go_enter Tryz.func131, Tryz.ntmps131
 go_wp2_with fail
 go_loopw [5, 10] (fun bv cv W => ∃ c : Nat, c ≤ N ∧ cv = .int .i64 c ∧ bv = .int .i64 (PN.rowZ (PN.bestTo dn f c)) ∧ ∃ q, W = w.drewN q) (fun _ cv _ => N - (intOf cv).toNat)
 case atStart => exact ⟨0, by omega, rfl, rfl, 0, rfl⟩
 case round =>
  obtain ⟨wb, hwb⟩ : ∃ x, x = wr := ⟨_, rfl⟩
  subst hwb
  obtain ⟨x, hx, rfl, rfl, hwd⟩ := hrel
  have hgd : Gr w wb := by
   obtain ⟨d, rfl⟩ := hwd
   exact gr_drN w d
  have HWD := Lib.hid hwd
  clear hwd
  obtain ⟨bz, hbz⟩ : ∃ z, PN.rowZ (PN.bestTo dn f x) = z := ⟨_, rfl⟩
  rw [hbz]
  have HBZ := Lib.hid hbz
  clear hbz
  by_cases hxn : x < N
  ·obtain ⟨ak, rfl⟩ := HK.out.addr (by omega)
   obtain ⟨ao, rfl⟩ := Zs.addr HO.out (by omega)
   have q1 := (HK.out.grown hgd).cellAt (i := x) hxn
   rw [getD_not (by rw [HD.out]; exact hxn)] at q1
   have q2 := Zs.cellAt (HO.out.grown hgd) (i := x) hxn
   rw [PN.cntL_get hxn] at q2
   by_cases hdx : dn.getD x false = true
   ·rw [hdx, Bool.not_true] at q1
    have hb : PN.bestTo dn f (x + 1) = PN.bestTo dn f x := by
     show (if dn.getD x false = true then _ else _) = _
     rw [if_pos hdx]
    have HB := Lib.hid hb
    clear hb hdx hgd
    go_wp2_with fail
    go_quiet (fail)
    go_wp2_with fail
    exact ⟨⟨x + 1, by omega, by go_num, by rw [HB.out, HBZ.out], drN_moreQ HWD.out _⟩, by simp [intOf]; omega⟩
   ·have hdf : dn.getD x false = false := by simpa using hdx
    rw [hdf, Bool.not_false] at q1
    by_cases hbn : bz < 0
    ·have hnone := (PN.rowZ_neg _).1 (by rw [HBZ.out]; exact hbn)
     have hb : PN.bestTo dn f (x + 1) = some x := by
      show (if dn.getD x false = true then _ else _) = _
      rw [if_neg hdx, hnone]
     have HB := Lib.hid hb
     clear hb hdx hdf hgd hnone
     go_wp2_with fail
     go_quiet (fail)
     go_wp2_with fail
     exact ⟨⟨x + 1, by omega, by go_num, by rw [HB.out]; rfl, drN_moreQ HWD.out _⟩, by simp [intOf]; omega⟩
    ·obtain ⟨b0, hb0⟩ : ∃ b0, PN.bestTo dn f x = some b0 := by
      cases h : PN.bestTo dn f x with
      | some j => exact ⟨j, rfl⟩
      | none => exact absurd ((PN.rowZ_neg _).2 h) (by rw [HBZ.out]; exact hbn)
     have hbx := ((PN.bestTo_spec dn f x).1 b0 hb0).1
     have hbz2 : bz = (b0 : Int) := by rw [← HBZ.out, hb0]; rfl
     subst hbz2
     have hbn2 : b0 < N := by omega
     have q3 := Zs.cellAt (HO.out.grown hgd) (i := b0) hbn2
     rw [PN.cntL_get hbn2] at q3
     have hs : PN.bestTo dn f (x + 1) = if f b0 < f x then some x else some b0 := by
      show (if dn.getD x false = true then _ else _) = _
      rw [if_neg hdx, hb0]
     have y1 := HFL.out x
     have y2 := HFL.out b0
     by_cases hlt : f b0 < f x
     ·rw [if_pos hlt] at hs
      have HB := Lib.hid hs
      have hlz : (f b0 : Int) < (f x : Int) := by omega
      clear hs hdx hdf hgd hb0 hbx hlt
      generalize (f b0 : Int) = z1 at *
      generalize (f x : Int) = z2 at *
      go_wp2_with fail
      go_quiet (fail)
      go_wp2_with fail
      exact ⟨⟨x + 1, by omega, by go_num, by rw [HB.out]; rfl, drN_moreQ HWD.out _⟩, by simp [intOf]; omega⟩
     ·rw [if_neg hlt] at hs
      have HB := Lib.hid hs
      have hlz : ¬ (f b0 : Int) < (f x : Int) := by omega
      clear hs hdx hdf hgd hb0 hbx hlt
      generalize (f b0 : Int) = z1 at *
      generalize (f x : Int) = z2 at *
      go_wp2_with fail
      go_quiet (fail)
      go_wp2_with fail
      exact ⟨⟨x + 1, by omega, by go_num, by rw [HB.out]; rfl, drN_moreQ HWD.out _⟩, by simp [intOf]; omega⟩
  ·obtain rfl : x = N := by omega
   go_wp2_with fail
   go_ret
   exact ⟨by rw [HBZ.out]; rfl, HWD.out⟩
def PN.marks (M : Nat) (st : List (Int × Int)) : List Bool := st.foldl (fun u p => u.set p.1.toNat true) (List.replicate M false)
theorem PN.marks_snoc (M : Nat) (st : List (Int × Int)) (p : Int × Int) : PN.marks M (st ++ [p]) = (PN.marks M st).set p.1.toNat true := by
 unfold PN.marks
 rw [List.foldl_append]
 rfl
theorem PN.marks_length (M : Nat) (st : List (Int × Int)) : (PN.marks M st).length = M := by
 unfold PN.marks
 have : ∀ (l : List Bool), (st.foldl (fun u p => u.set p.1.toNat true) l).length = l.length := by
  induction st with
  | nil => intro l; rfl
  | cons p st ih => intro l; show (st.foldl _ (l.set p.1.toNat true)).length = _; rw [ih]; simp
 rw [this]
 simp
set_option maxRecDepth 100000 in
set_option maxHeartbeats 3200000 in
theorem left_any (M : Nat) (v : Value) (st : List (Int × Int)) (w : World) (h : Stp w v st) (hM : M ≤ 1000) (hl : st.length ≤ 1000) (hst : ∀ p ∈ st, 0 ≤ p.1 ∧ p.1 < (M : Int)) :
  Calls Tryz.prog 132 #[.int .i64 M, v] w fun e w' => ∃ v', e = .returned v' ∧ w'.ownsRow w.heap.size 3 1 v' (PN.leftTo (PN.marks M st) M).length ((PN.leftTo (PN.marks M st) M).map (Value.int .i64)) ∧ Gr w w' := by
 obtain ⟨o, c, rfl⟩ := h.form
 obtain ⟨m, hm⟩ : ∃ m, st.length = m := ⟨_, rfl⟩
 rw [hm] at h hl ⊢
 have HS := Lib.hid h
 have HM := Lib.hid hm
 have HST := Lib.hid hst
 clear h hm hst
 have hmk := makeT M (by omega)
 have K0 : Hid (Blt (w.alloc (.cells (rowT (List.replicate M false)) 4)) w.heap.size (PN.marks M (st.take 0))) := Lib.hid (heap_alloc_new _ _)
 have GA : Hid (Gr w (w.alloc (.cells (rowT (List.replicate M false)) 4))) := Lib.hid (Gr.alloc (Gr.refl _) _ _)
 go_enter Tryz.func132, Tryz.ntmps132
 go_wp2_with fail
 clear hmk
 generalize hW2 : w.alloc (.cells (rowT (List.replicate M false)) 4) = w2 at *
 obtain ⟨gk, hgk⟩ : ∃ g, w.heap.size = g := ⟨_, rfl⟩
 rw [hgk] at K0 ⊢
 have HGK := Lib.hid hgk
 clear hW2 hgk
 go_loopw [15] (fun kv W => ∃ k : Nat, k ≤ m ∧ kv = .int .i64 k ∧ Blt W gk (PN.marks M (st.take k)) ∧ Gr w W) (fun kv _ => m - (intOf kv).toNat)
 case atStart => exact ⟨0, by omega, rfl, K0.out, GA.out⟩
 case round =>
  clear K0 GA
  obtain ⟨wp, hwp⟩ : ∃ x, x = wr := ⟨_, rfl⟩
  subst hwp
  obtain ⟨k, hk, rfl, hbt, hgr⟩ := hrel
  have BT := Lib.hid hbt
  have GK := Lib.hid hgr
  clear hbt hgr
  by_cases hki : k < m
  ·obtain ⟨b, q, rfl⟩ := HS.out.lay (by omega)
   obtain ⟨p1, p2⟩ := (HS.out.grown GK.out).at hki
   have hpm : st.getD k (0, 0) ∈ st := by rw [List.getD_eq_getElem?_getD, List.getElem?_eq_getElem (by rw [HM.out]; exact hki)]; exact List.getElem_mem _
   have hpr := HST.out _ hpm
   have hsn : PN.marks M (st.take (k + 1)) = (PN.marks M (st.take k)).set (st.getD k (0, 0)).1.toNat true := by
    rw [take_snoc st k (0, 0) (by rw [HM.out]; exact hki), PN.marks_snoc]
   obtain ⟨X, hX⟩ : ∃ X : Nat, (st.getD k (0, 0)).1 = (X : Int) := ⟨_, (Int.toNat_of_nonneg hpr.1).symm⟩
   rw [hX] at hsn hpr p1
   rw [Int.toNat_natCast] at hsn
   obtain ⟨y, hy⟩ : ∃ y, (st.getD k (0, 0)).2 = y := ⟨_, rfl⟩
   rw [hy] at p2
   have hXM : X < M := by omega
   have hsz : gk < wp.heap.size := (Array.getElem?_eq_some_iff.1 (show wp.heap[gk]? = _ from BT.out)).1
   have HSN := Lib.hid hsn
   have G1 : Hid (Gr wp (wp.alloc (.cells #[.int .i64 (X : Int), .int .i64 y] 157))) := Lib.hid (Gr.alloc (Gr.refl _) _ _)
   have B1 := Lib.hid (BT.out.grown G1.out)
   have c0 : (wp.alloc (.cells #[.int .i64 (X : Int), .int .i64 y] 157)).cell? ⟨wp.heap.size, 0, none⟩ = some (.int .i64 (X : Int)) := by rw [cell_of_row _ _ 0 _ _ _ (heap_alloc_new _ _)]; rfl
   have c1 := B1.out.cell X (by rw [PN.marks_length]; exact hXM)
   have c2 := B1.out.frozen X
   have HB := Lib.hid ((BT.out.set X true).grown (Gr.alloc (Gr.refl _) #[.int .i64 (X : Int), .int .i64 y] 157))
   clear hpm hpr hsn hX hy
   go_wp2_with fail
   exact ⟨⟨k + 1, by omega, by go_num, by rw [HSN.out]; exact HB.out, Gr.alloc (Gr.setCell GK.out (by rw [HGK.out]; exact Nat.le_refl _) _) _ _⟩, by simp [intOf]; omega⟩
  ·obtain rfl : k = m := by omega
   have hall : st.take k = st := List.take_of_length_le (by rw [HM.out]; exact Nat.le_refl _)
   rw [hall] at BT
   obtain ⟨us, hus⟩ : ∃ u, PN.marks M st = u := ⟨_, rfl⟩
   have HUL : Hid (us.length = M) := Lib.hid (by rw [← hus]; exact PN.marks_length _ _)
   have HUS := Lib.hid hus
   rw [hus] at BT
   clear hus hall
   go_wp2_with fail
   go_loopw [8, 26] (fun lv kv W => ∃ k : Nat, k ≤ M ∧ kv = .int .i64 k ∧ W.ownsRow w.heap.size 3 1 lv (PN.leftTo us k).length ((PN.leftTo us k).map (Value.int .i64)) ∧ Blt W gk us ∧ Gr w W) (fun _ kv _ => M - (intOf kv).toNat)
   case atStart => exact ⟨0, by omega, rfl, World.ownsRow_nil _ _ _ _, BT.out, GK.out⟩
   case round =>
    clear BT GK
    obtain ⟨wk, hwk⟩ : ∃ x, x = wr := ⟨_, rfl⟩
    subst hwk
    obtain ⟨j, hj, rfl, how, hbt, hgr⟩ := hrel
    obtain ⟨ol, cl, e3⟩ := ownsRow_form'' how
    obtain ⟨ll, hll⟩ : ∃ l, (PN.leftTo us j).length = l := ⟨_, rfl⟩
    rw [hll] at e3 how
    subst e3
    have OW := Lib.hid how
    have BT := Lib.hid hbt
    have GK := Lib.hid hgr
    have HLL := Lib.hid hll
    have hlb : ll ≤ 1000 := by
     rw [← hll]
     exact Nat.le_trans (PN.leftTo_le us j) (by omega)
    clear how hbt hgr hll
    by_cases hjm : j < M
    ·have q1 := BT.out.cell j (by rw [HUL.out]; exact hjm)
     by_cases huk : us.getD j false = true
     ·rw [huk] at q1
      have hl : PN.leftTo us (j + 1) = PN.leftTo us j := by
       show PN.leftTo us j ++ _ = _
       rw [if_pos huk, List.append_nil]
      have HL := Lib.hid hl
      clear hl huk
      go_wp2_with fail
      exact ⟨⟨j + 1, by omega, by go_num, by rw [HL.out, HLL.out]; exact OW.out, BT.out, GK.out⟩, by simp [intOf]; omega⟩
     ·have huf : us.getD j false = false := by simpa using huk
      rw [huf] at q1
      have hl : PN.leftTo us (j + 1) = PN.leftTo us j ++ [(j : Int)] := by
       show PN.leftTo us j ++ _ = _
       rw [if_neg huk]
      have HL := Lib.hid hl
      have GA : Hid (Gr wk (wk.alloc (.cells #[.int .i64 (j : Int)] 3))) := Lib.hid (Gr.alloc (Gr.refl _) _ _)
      have D3 := Lib.hid (OW.out.of_gr GA.out)
      have B3 := Lib.hid (BT.out.grown GA.out)
      have G3 := Lib.hid (Gr.trans GK.out GA.out)
      clear hl huk huf
      go_wp2_with (at_builtin; refine wpList_append_int rfl _ _ rfl w.heap.size (.slice ol ll cl) ll (PN.leftTo us j) rfl D3.out wk.heap.size (j : Int) rfl (by rw [cell_of_row _ _ 0 _ _ _ (heap_alloc_new _ _)]; rfl) (by omega) G3.out.size ?_; intro g5 c5 w5 h1 h2 h3; have O5 := Lib.hid h1; have B5 := Lib.hid (keep_block B3.out h2 (own_type D3.out B3.out (by decide))); have G5 := Lib.hid (gr_by_own G3.out h2 D3.out (Nat.le_refl _)); clear h1 h2 h3)
      exact ⟨⟨j + 1, by omega, by go_num, by rw [HL.out, List.length_append, HLL.out]; exact O5.out, B5.out, G5.out⟩, by simp [intOf]; omega⟩
    ·obtain rfl : j = M := by omega
     go_wp2_with fail
     go_ret
     exact ⟨_, rfl, by rw [HUS.out, HLL.out]; exact OW.out, GK.out⟩
end Go.Proofs.YtbbglejdfbkjlaaGreat
namespace Go.Proofs.YtbbglejdfbkjlaaGreat
open Go.RowKit
def mulHi (N : Int) : Int := IntKind.u64.wrap
              (IntKind.u64.wrap
                  (IntKind.u64.wrap
                      (IntKind.u64.wrap
                          (bits BinOp.and IntKind.u64 1 4294967295 * bits BinOp.and IntKind.u64 N 4294967295) /
                        4294967296) /
                    4294967296) +
                IntKind.u64.wrap
                    (bits BinOp.and IntKind.u64
                        (IntKind.u64.wrap
                          (IntKind.u64.wrap
                              (bits BinOp.and IntKind.u64 1 4294967295 * bits BinOp.and IntKind.u64 N 4294967295) /
                            4294967296))
                        4294967295 +
                      IntKind.u64.wrap (bits BinOp.and IntKind.u64 1 4294967295 * (N / 4294967296))) /
                  4294967296)
theorem mulHi_all : ∀ n : Fin 65, mulHi (n.val : Int) = 0 := by decide +kernel
set_option maxRecDepth 100000 in
set_option maxHeartbeats 1600000 in
theorem mul64_one (N : Nat) (w : World) (hN : N ≤ 64) :
  Calls Tryz.prog 156 #[.int .u64 1, .int .u64 (N : Int)] w fun e w' => e = .returned (.tuple #[.int .u64 0, .int .u64 (N : Int)]) ∧ w' = w := by
 go_enter Tryz.func156, Tryz.ntmps156
 go_wp2_with fail
 go_ret2
 refine ⟨?_, rfl⟩
 have h : ∀ n : Nat, n ≤ 64 → mulHi (n : Int) = 0 := by
  intro n hn
  have := mulHi_all ⟨n, by omega⟩
  exact this
 have h1 := h N hN
 unfold mulHi at h1
 rw [h1]
 rfl
set_option maxRecDepth 100000 in
set_option maxHeartbeats 1600000 in
theorem mul_one (N : Nat) (w : World) (hN : N ≤ 64) :
  Calls Tryz.prog 150 #[.int .u64 1, .int .u64 (N : Int)] w fun e w' => e = .returned (.tuple #[.int .u64 0, .int .u64 (N : Int)]) ∧ w' = w := by
 go_enter Tryz.func150, Tryz.ntmps150
 go_wp2_with fail
 refine (mul64_one N _ hN).mono ?_
 rintro e w' ⟨rfl, rfl⟩
 go_wp2_with fail
 go_ret2
 exact ⟨rfl, rfl⟩
theorem infoBo : (Tryz.prog.info? 4).map (·.size) = some 1 := by kernel_rfl
def trueL (n N : Nat) : List Bool := List.replicate n true ++ List.replicate (N - n) false
theorem trueL_length {n N : Nat} (h : n ≤ N) : (trueL n N).length = N := by
 simp [trueL]
 omega
theorem trueL_zero (N : Nat) : trueL 0 N = List.replicate N false := by simp [trueL]
theorem trueL_all (N : Nat) : trueL N N = List.replicate N true := by simp [trueL]
theorem trueL_get {n N j : Nat} (h : j < n) : (trueL n N).getD j false = true := by
 simp [trueL, List.getD_eq_getElem?_getD, List.getElem?_append_left, h]
theorem trueL_splice {n N k : Nat} (h : n + k ≤ N) : splice ((trueL n N).map Value.bool) n (List.replicate k (Value.bool true)) = (trueL (n + k) N).map Value.bool := by
 have e1 : (trueL n N).map Value.bool = List.replicate n (Value.bool true) ++ (List.replicate k (Value.bool false) ++ List.replicate (N - (n + k)) (Value.bool false)) := by
  unfold trueL
  rw [List.map_append, List.map_replicate, List.map_replicate, List.replicate_append_replicate, show k + (N - (n + k)) = N - n from by omega]
 unfold splice
 rw [e1, List.take_left' (by simp), ← List.append_assoc, ← List.append_assoc, List.drop_left' (by simp), List.replicate_append_replicate]
 unfold trueL
 rw [List.map_append, List.map_replicate, List.map_replicate]
open Go.RowKit in
set_option maxHeartbeats 1600000 in
theorem wpList_copy_true {w w0 : World} {ops : Array Oper} {rest : List Oper} {o : Oper} {a : Act} {Q : Exit → Act → World → Prop} (hgd : o.guard = none) (d s : Operand)
  (ho : o.op = .call { callee := .builtin .copy, args := #[d, s], argTypes := #[144, 144] }) (g n N k : Nat) (hg : Blt w g (trueL n N)) (dp : Option Addr) (dLen dCap : Nat) (hd : a.eval d = .slice dp dLen dCap) (hdp : 0 < k → dp = some ⟨g, n, none⟩) (hdl : dLen = N - n) (hn : n ≤ N)
  (ad : Addr) (sLen sCap : Nat) (hs : a.eval s = .slice (some ad) sLen sCap) (hsrc : ∀ j, j < sLen → w.cell? (ad.add j) = some (.bool true)) (hk : k = Nat.min sLen dLen) (h0 : Gr w0 w) (hge : w0.heap.size ≤ g)
  (h : ∀ w', Blt w' g (trueL (n + k) N) → Gr w0 w' → wpList Tryz.prog ops Q rest (a.put o.dst (.int .i64 (k : Int))) w') : wpList Tryz.prog ops Q (o :: rest) a w := by
 have hmin : k ≤ sLen := by rw [hk]; exact Nat.min_le_left sLen dLen
 have hmin2 : k ≤ dLen := by rw [hk]; exact Nat.min_le_right sLen dLen
 refine wpList_copy_splice hgd d s 144 144 ho 4 Tryz.underlying144 infoBo dp (some ad) dLen dCap sLen sCap hd hs g n ((trueL n N).map Value.bool) 4 hg (List.replicate k (.bool true)) (by rw [List.length_replicate, hk]) ?_ ?_ ?_ w0.heap.size w0 h0.below hge ?_
 ·intro hp
  rw [List.length_replicate] at hp
  refine ⟨hdp hp, ad, rfl, fun j v hv => ?_⟩
  have hj := (List.getElem?_eq_some_iff.1 hv).1
  rw [List.length_replicate] at hj
  rw [hsrc j (by omega)]
  rw [List.getElem?_replicate, if_pos hj] at hv
  exact hv
 ·rw [List.length_replicate, List.length_map, trueL_length hn]
  omega
 ·intro v hv
  rw [(List.mem_replicate.1 hv).2]
  rfl
 ·intro w' hw' hb
  have e : n + k ≤ N := by omega
  have hw' := hw'.out
  rw [trueL_splice e] at hw'
  have := h w' hw' (Gr.of hb)
  rw [List.length_replicate]
  exact this
open Go.RowKit in
set_option maxHeartbeats 1600000 in
theorem step_copy_true {w w0 : World} {ops : Array Oper} {o : Oper} {a : Act} {K : Act → World → Prop} {Q : Exit → Act → World → Prop} {E : Prop} (hgd : o.guard = none) (d s : Operand)
  (ho : o.op = .call { callee := .builtin .copy, args := #[d, s], argTypes := #[144, 144] }) (g n N k : Nat) (hg : Blt w g (trueL n N)) (dp : Option Addr) (dLen dCap : Nat) (hd : a.eval d = .slice dp dLen dCap) (hdp : 0 < k → dp = some ⟨g, n, none⟩) (hdl : dLen = N - n) (hn : n ≤ N)
  (ad : Addr) (sLen sCap : Nat) (hs : a.eval s = .slice (some ad) sLen sCap) (hsrc : ∀ j, j < sLen → w.cell? (ad.add j) = some (.bool true)) (hk : k = Nat.min sLen dLen) (h0 : Gr w0 w) (hge : w0.heap.size ≤ g)
  (h : ∀ w', Blt w' g (trueL (n + k) N) → Gr w0 w' → K (a.put o.dst (.int .i64 (k : Int))) w') : if Region.wanted o (yielded ops a.tmps) = true then Oper.wp Tryz.prog o a w K Q else E := by
 have hmin : k ≤ sLen := by rw [hk]; exact Nat.min_le_left sLen dLen
 have hmin2 : k ≤ dLen := by rw [hk]; exact Nat.min_le_right sLen dLen
 refine step_copy_splice hgd d s 144 144 ho 4 Tryz.underlying144 infoBo dp (some ad) dLen dCap sLen sCap hd hs g n ((trueL n N).map Value.bool) 4 hg (List.replicate k (.bool true)) (by rw [List.length_replicate, hk]) ?_ ?_ ?_ w0.heap.size w0 h0.below hge ?_
 ·intro hp
  rw [List.length_replicate] at hp
  refine ⟨hdp hp, ad, rfl, fun j v hv => ?_⟩
  have hj := (List.getElem?_eq_some_iff.1 hv).1
  rw [List.length_replicate] at hj
  rw [hsrc j (by omega)]
  rw [List.getElem?_replicate, if_pos hj] at hv
  exact hv
 ·rw [List.length_replicate, List.length_map, trueL_length hn]
  omega
 ·intro v hv
  rw [(List.mem_replicate.1 hv).2]
  rfl
 ·intro w' hw' hb
  have e : n + k ≤ N := by omega
  have hw' := hw'.out
  rw [trueL_splice e] at hw'
  have := h w' hw' (Gr.of hb)
  rw [List.length_replicate]
  exact this
set_option maxRecDepth 100000 in
set_option maxHeartbeats 1600000 in
theorem repeat_any (N : Nat) (g : Nat) (w : World) (hN : N ≤ 64) (hg : w.cell? ⟨g, 0, none⟩ = some (.bool true)) :
  Calls Tryz.prog 128 #[.slice (some ⟨g, 0, none⟩) 1 1, .int .i64 (N : Int)] w fun e w' => ∃ g', e = .returned (.slice (some ⟨g', 0, none⟩) N N) ∧ Blt w' g' (List.replicate N true) ∧ w.heap.size ≤ g' ∧ Gr w w' := by
 have hmk := makeT N (by omega)
 have hnn : ¬ (N : Int) < 0 := by omega
 have hw1 : IntKind.u64.wrap (N : Int) = (N : Int) := by
  have : ∀ n : Fin 65, IntKind.u64.wrap (n.val : Int) = (n.val : Int) := by decide +kernel
  exact this ⟨N, by omega⟩
 go_enter Tryz.func128, Tryz.ntmps128
 go_wp2_with fail
 refine (mul_one N _ hN).mono ?_
 rintro e w' ⟨rfl, rfl⟩
 have hsz : w'.heap.size = w'.heap.size := rfl
 obtain ⟨g', hg'⟩ : ∃ x, w'.heap.size = x := ⟨_, rfl⟩
 have G1 : Hid (Gr w' (w'.alloc (.cells (rowT (List.replicate N false)) 4))) := Lib.hid (Gr.alloc (Gr.refl _) _ _)
 have B1 : Hid (Blt (w'.alloc (.cells (rowT (List.replicate N false)) 4)) g' (trueL 0 N)) := Lib.hid (by rw [trueL_zero, ← hg']; exact heap_alloc_new _ _)
 have HG := Lib.hid (cell_gr G1.out hg)
 have HGE := Lib.hid hg'
 go_upto_region 7 with fail
 clear hmk hsz hg hg'
 generalize w'.alloc (.cells (rowT (List.replicate N false)) 4) = w1 at *
 obtain ⟨k, hk⟩ : ∃ k, k = Nat.min 1 N := ⟨_, rfl⟩
 have hkN : k ≤ N := by rw [hk]; exact Nat.min_le_right _ _
 have hk0 : 0 < N → 0 < k := by intro h; rw [hk]; exact Nat.lt_min.2 ⟨by omega, h⟩
 have HK0 := Lib.hid hk0
 clear hk0
 have HK := Lib.hid hk
 clear hk
 have t1 : ∀ j, j < 1 → w1.cell? ((⟨g, 0, none⟩ : Addr).add j) = some (.bool true) := fun j hj => by
  obtain rfl : j = 0 := by omega
  exact HG.out
 have T1 := Lib.hid t1
 have HGL : Hid (w'.heap.size ≤ g') := Lib.hid (by rw [HGE.out]; exact Nat.le_refl _)
 clear t1
 go_wp2_with (refine wpList_copy_true (w0 := w') rfl _ _ rfl g' 0 N k B1.out (some ⟨g', 0, none⟩) N N rfl (fun _ => rfl) (by omega) (by omega) ⟨g, 0, none⟩ 1 1 rfl T1.out HK.out G1.out HGL.out ?_; intro w2 h1 h2; have B2 := Lib.hid h1; have G2 := Lib.hid h2; clear h1 h2)
 go_loopw [8] (fun nv W => ∃ n : Nat, n ≤ N ∧ (0 < N → 0 < n) ∧ nv = .int .i64 n ∧ Blt W g' (trueL n N) ∧ Gr w' W) (fun nv _ => N - (intOf nv).toNat)
 case atStart => exact ⟨k, hkN, HK0.out, rfl, by have := B2.out; rwa [Nat.zero_add] at this, G2.out⟩
 case round =>
  clear B2 G2
  obtain ⟨wo, hwo⟩ : ∃ x, x = wr := ⟨_, rfl⟩
  subst hwo
  obtain ⟨n, hn, hn0, rfl, hb, hgr⟩ := hrel
  have B3 := Lib.hid hb
  have G3 := Lib.hid hgr
  clear hb hgr
  by_cases hlt : n < N
  ·have hn1 := hn0 (by omega)
   clear hn0
   obtain ⟨y, hy⟩ : ∃ y, N - n = y := ⟨_, rfl⟩
   obtain ⟨k9, hk9⟩ : ∃ k, k = Nat.min n y := ⟨_, rfl⟩
   have hky : 0 < k9 := by rw [hk9]; exact Nat.lt_min.2 ⟨hn1, by omega⟩
   have hkn : k9 ≤ n := by rw [hk9]; exact Nat.min_le_left _ _
   have hkm : k9 ≤ y := by rw [hk9]; exact Nat.min_le_right _ _
   have hnk : IntKind.i64.wrap ((n : Int) + (k9 : Int)) = (n : Int) + (k9 : Int) := IntWalk.i64_in _ (by omega)
   have hne : ¬ N = n := by omega
   have hif : (if N = n then some (⟨g', 0, none⟩ : Addr) else some ⟨g', n, none⟩) = some ⟨g', n, none⟩ := by rw [if_neg hne]
   have TT : Hid (∀ W, Gr wo W → ∀ j, j < n → W.cell? ((⟨g', 0, none⟩ : Addr).add j) = some (.bool true)) := Lib.hid fun W hW j hj => by
    rw [Addr.add_mid, Nat.zero_add, (B3.out.grown hW).cell j (by rw [trueL_length hn]; omega), trueL_get hj]
   have HK9 := Lib.hid hk9
   have HYN : Hid (y = N - n) := Lib.hid hy.symm
   clear hk9
   go_upto_region 9 with fail
   have B9 : Hid (Blt wo.drew g' (trueL n N)) := Lib.hid B3.out
   have T9 := Lib.hid (TT.out wo.drew (Gr.drew (Gr.refl _)))
   have G9 : Hid (Gr w' wo.drew) := Lib.hid (Gr.drew G3.out)
   have HD0 : Hid (0 < k9 → (some ⟨g', n, none⟩ : Option Addr) = some ⟨g', n, none⟩) := Lib.hid fun _ => rfl
   go_region_law (refine step_copy_true (w0 := w') rfl (.tmp 41) (.tmp 44) rfl g' n N k9 B9.out (some ⟨g', n, none⟩) y y (by simp [Act.eval, Act.put]) HD0.out HYN.out hn ⟨g', 0, none⟩ n N (by simp [Act.eval, Act.put]) T9.out HK9.out G9.out HGL.out ?_; intro w2 h1 h2; have B4 := Lib.hid h1; have G4 := Lib.hid h2; clear h1 h2)
   go_wp2_with fail
   exact ⟨⟨n + k9, by omega, fun _ => by omega, by first | rfl | rw [Int.natCast_add], B4.out, G4.out⟩, by simp [intOf]; omega⟩
  ·obtain rfl : n = N := by omega
   clear hn0
   go_wp2_with fail
   go_ret
   exact ⟨g', rfl, by have := B3.out; rwa [trueL_all] at this, by rw [HGE.out]; exact Nat.le_refl _, G3.out⟩
end Go.Proofs.YtbbglejdfbkjlaaGreat
