/-
  Texts laid behind one another: Jd Ju Jw.
-/
import Derived.Test.YtbbglejdfbkjlaaGreatMtai
import Derived.Test.YtbbglejdfbkjlaaGreatMtSv
import Derived.Test.YtbbglejdfbkjlaaGreatMtah
namespace Go.Proofs.YtbbglejdfbkjlaaGreat
open Go.RowKit
theorem own_typeY {w : World} {base : Nat} {e t : TypeId} {size n g : Nat} {v : Value} {xs : List Value} {cur : Array Value} (h : w.ownsRow base e size v n xs) (hg : w.heap[g]? = some (.cells cur t (0, 0))) (hne : e ≠ t) : v.ownBlock ≠ some g := by
 intro hv
 obtain ⟨_, ⟨rfl, _⟩ | ⟨g', c, cur', rfl, hb, hgg, _⟩⟩ := h
 ·cases hv
 ·simp [Value.ownBlock] at hv
  subst hv
  rw [hg] at hgg
  simp at hgg
  exact hne hgg.2.symm
theorem own_otherY {W W' : World} {base base' : Nat} {e e' : TypeId} {size size' n n' : Nat} {v v' : Value} {xs xs' : List Value} (h : W.ownsRow base e size v n xs) (h' : W.ownsRow base' e' size' v' n' xs') (hne : e ≠ e') (hg : W.grownBy W' v'.ownBlock) : W'.ownsRow base e size v n xs := by
 refine own_through h hg fun g hv hv' => ?_
 obtain ⟨_, ⟨rfl, _⟩ | ⟨g1, c, cur, rfl, _, hgg, _⟩⟩ := h
 ·cases hv
 ·simp [Value.ownBlock] at hv
  subst hv
  exact own_typeY h' hgg (fun e => hne e.symm) hv'
theorem own_notY {w : World} {base n : Nat} {v : Value} {us : List Value} (h : w.ownsRow base 3 1 v n us) : ∀ g, v.ownBlock = some g → base ≤ g ∧ ∀ cur, w.heap[g]? ≠ some (.cells cur 5 (0, 0)) := by
 intro g hg
 refine ⟨ownsRow_base h g hg, fun cur hc => own_typeY h hc (by decide) hg⟩
theorem Rws.afterZ {base base' n : Nat} {w w' : World} {v v' : Value} {B : List (List Int)} {us : List Value} (h : Rws base w v B) (ho : w.ownsRow base' 3 1 v' n us) (hb : base ≤ base') (hg : w.grownBy w' v'.ownBlock) : Rws base w' v B := by
 have h0 := h
 obtain ⟨us2, ho2, _⟩ := h
 refine h0.through hg ?_ fun g e => ⟨Nat.le_trans hb (own_notY ho g e).1, (own_notY ho g e).2⟩
 cases hv : v.ownBlock with
 | none => exact .inl rfl
 | some g =>
  refine .inr fun e => ?_
  obtain ⟨_, ⟨rfl, _⟩ | ⟨g1, c, cur, rfl, _, hgg, _⟩⟩ := ho2
  ·cases hv
  ·simp [Value.ownBlock] at hv
   subst hv
   exact own_typeY ho hgg (by decide) e.symm
theorem Par.afterOwn {w w' : World} {g base n : Nat} {e : TypeId} {size : Nat} {K H S : Int} {v : Value} {xs : List Value} (h : Par w g K H S) (ho : w.ownsRow base e size v n xs) (hne : e ≠ 23) (hg : w.grownBy w' v.ownBlock) : Par w' g K H S := by
 unfold Par at *
 rw [hg.block g (Array.getElem?_eq_some_iff.1 h).1 (fun c => own_typeY ho h hne c.symm)]
 exact h
theorem zs_one {W : World} {x : Int} (hx : I64 x) : Zs (W.alloc (.cells #[.int .i64 x] 3)) (.slice (some ⟨W.heap.size, 0, none⟩) 1 1) [x] :=
 ⟨fun y hy => by obtain rfl : y = x := by simpa using hy
                 exact hx, some ⟨W.heap.size, 0, none⟩, 1, rfl, by simp, by omega, (fun e => by cases e), fun a ha i hi => by
   cases ha
   obtain rfl : i = 0 := by simpa using hi
   rw [Addr.add_mid, cell_of_row _ _ _ _ _ _ (heap_alloc_new W _)]
   rfl⟩
theorem step_append_rowY {w : World} {ops : Array Oper} {o : Oper} {a : Act} {K : Act → World → Prop} {Q : Exit → Act → World → Prop} {E : Prop} (hgd : o.guard = none) (s x : Operand)
  (ho : o.op = .call { callee := .builtin .append, args := #[s, x], argTypes := #[65, 65] }) (base : Nat) (v : Value) (B : List (List Int)) (hs : a.eval s = v) (hR : Rws base w v B)
  (g : Nat) (u : Value) (l : List Int) (hx : a.eval x = .slice (some ⟨g, 0, none⟩) 1 1) (hc : w.cell? ⟨g, 0, none⟩ = some u) (hb : Bs w u l) (hrb : Rb base w u) (hm : B.length ≤ 100000) (hbase : base ≤ w.heap.size)
  (h : ∀ v' w' us, Rws base w' v' (B ++ [l]) → w.ownsRow base 25 1 v B.length us → w.grownBy w' v.ownBlock → K (a.put o.dst v') w') :
  if Region.wanted o (yielded ops a.tmps) = true then Oper.wp Tryz.prog o a w K Q else E := by
 obtain ⟨i0, hi0, hz0, hz1, hz2⟩ := info_parts info22
 obtain ⟨us, hown, hr⟩ := hR
 obtain ⟨ou, cu, hf⟩ := hb.form
 refine step_append_lies w hgd s x 65 ho base 25 i0 _ 1 24 Tryz.underlying65 hi0 hz0 hz1 hz2 rfl (by omega) v B.length us hs hown ⟨g, 0, none⟩ 1 1 [u] hx rfl (fun j y hj => by
   cases j with
   | zero =>
     obtain rfl : u = y := by simpa using hj
     exact hc
   | succ j => simp at hj) (by intro y hy; obtain rfl : y = u := by simpa using hy
                               rw [hf]; rfl) (by omega) (by unfold maxLen; omega) (by omega) hbase _ rfl ?_
 intro gg cap w' h1 h2 _ _
 exact h _ w' us (Rws.append hown hr hb hrb h1 h2) hown h2
set_option maxRecDepth 100000 in
set_option maxHeartbeats 800000 in
theorem refDecode_ne (K H S : Int) (seed : Nat) (v : Value) (w : World) (hm : ¬ MayP K H S) (hv : ∃ o m c, v = .slice o m c) :
  Calls Tryz.prog 18 #[par K H S, .int .u32 (seed : Int), v] w fun e w' => e = .returned (.tuple #[.slice none 0 0, .int .i64 1]) ∧ Gr w w' := by
 have hd := decide_eq_false hm
 obtain ⟨o, m, c, rfl⟩ := hv
 clear hm
 go_enter Tryz.func18, Tryz.ntmps18
 go_wp2_with fail
 refine (refMay_any K H S _).mono ?_
 rw [hd]
 rintro e w1 ⟨rfl, hg1⟩
 have HG1 := Lib.hid (Gr.trans (Gr.alloc (Gr.refl w) _ _) hg1)
 clear hg1 hd
 go_wp2_with fail
 go_ret2
 exact ⟨rfl, HG1.out⟩
set_option maxRecDepth 100000 in
set_option maxHeartbeats 6400000 in
theorem refDecode_in (K H S : Nat) (seed : Nat) (v : Value) (Y : List Symb) (w : World) (hm : MayP K H S) (hs : seed < 4294967296) (hy : Syms w v Y) (hl : Y.length ≤ 800) (hdl : ∀ q ∈ Y, q.d.length ≤ 1000) :
  Calls Tryz.prog 18 #[par K H S, .int .u32 (seed : Int), v] w fun e w' => ∃ u x out, e = .returned (.tuple #[u, .int .i64 x]) ∧ Bs w' u out ∧ Gr w w' ∧ DecSays K H S seed Y x out := by
 have hd := decide_eq_true hm
 have HM := Lib.hid hm
 have hb : 1 ≤ K ∧ K ≤ 16 ∧ 1 ≤ H ∧ H ≤ 4 ∧ 1 ≤ S ∧ S ≤ 24 := by unfold MayP at hm; omega
 obtain ⟨hb1, hb2, hb3, hb4, hb5, hb6⟩ := hb
 obtain ⟨n, hn⟩ : ∃ n, Y.length = n := ⟨_, rfl⟩
 obtain ⟨oy, cy, rfl⟩ := hy.form
 rw [hn] at hy hl ⊢
 have HY := Lib.hid hy
 have HN := Lib.hid hn
 have HDL := Lib.hid hdl
 have hmk := make22 S S (by omega) (by omega)
 have P0 : Hid (Par (w.alloc (.cells #[.int .i64 (K : Int), .int .i64 (H : Int), .int .i64 (S : Int)] 23)) w.heap.size K H S) := Lib.hid (heap_alloc_new _ _)
 have HG0 : Hid (Gr w (w.alloc (.cells #[.int .i64 (K : Int), .int .i64 (H : Int), .int .i64 (S : Int)] 23))) := Lib.hid (Gr.alloc (Gr.refl _) _ _)
 clear hm hy hn hdl
 go_enter Tryz.func18, Tryz.ntmps18
 go_wp2_with fail
 generalize w.alloc (.cells #[.int .i64 (K : Int), .int .i64 (H : Int), .int .i64 (S : Int)] 23) = W0 at *
 generalize hgp : w.heap.size = gp at *
 refine (refMay_any K H S _).mono ?_
 rw [hd]
 rintro e w1 ⟨rfl, hg1⟩
 have HP := Lib.hid (P0.out.grown hg1)
 have HG := Lib.hid (Gr.trans HG0.out hg1)
 have HBW : Hid (gp ≤ w1.heap.size) := Lib.hid (by rw [← hgp]; exact HG.out.size)
 have HBS : Hid (w.heap.size ≤ gp) := Lib.hid (by omega)
 clear hg1 P0 HG0 hd
 go_wp2_with fail
 go_loopw [9, 10] (fun bv iv W => ∃ i : Nat, i ≤ H ∧ iv = .int .i64 i ∧ Rws gp W bv (List.replicate i (List.replicate S 0)) ∧ Par W gp K H S ∧ Gr w W ∧ gp ≤ W.heap.size) (fun _ iv _ => H - (intOf iv).toNat)
 case atStart => exact ⟨0, by omega, rfl, Rws.nil _ _, HP.out, HG.out, HBW.out⟩
 case round =>
  clear HP HG HBW
  obtain ⟨wo, hwo⟩ : ∃ x, x = wr := ⟨_, rfl⟩
  subst hwo
  obtain ⟨i, hi, rfl, hrb, hp, hg, hbw⟩ := hrel
  obtain ⟨ob, mb, cb, rfl⟩ := hrb.form4
  have c0 := hp.cell0
  have c1 := hp.cell1
  have c2 := hp.cell2
  have HRB := Lib.hid hrb
  have HP := Lib.hid hp
  have HG := Lib.hid hg
  have HBW := Lib.hid hbw
  clear hrb hp hg hbw
  by_cases hlt : i < H
  ·have g1 : Gr wo (wo.alloc (.cells (rowB (List.replicate S 0)) 5)) := Gr.alloc (Gr.refl _) _ _
   have NZ : Hid (New wo (wo.alloc (.cells (rowB (List.replicate S 0)) 5)) (.slice (some ⟨wo.heap.size, 0, none⟩) S S) (List.replicate S 0)) := Lib.hid (new_block g1 (Nat.le_refl _) (heap_alloc_new _ _) (by simp) (replicate_byt S) (by omega))
   have G1 := Lib.hid g1
   have CE : Hid (((wo.alloc (.cells (rowB (List.replicate S 0)) 5)).alloc (.cells #[.slice (some ⟨wo.heap.size, 0, none⟩) S S] 25)).cell? ⟨wo.heap.size + 1, 0, none⟩ = some (.slice (some ⟨wo.heap.size, 0, none⟩) S S)) := Lib.hid (by rw [cell_of_row _ _ 0 _ _ _ (heap_alloc2_new _ _ _)]; rfl)
   clear g1
   go_wp2_with (at_builtin; refine wpList_append_rowA rfl _ _ rfl gp (.slice ob mb cb) (List.replicate i (List.replicate S 0)) rfl (HRB.out.grown (Gr.alloc G1.out _ _)) (wo.heap.size + 1) (.slice (some ⟨wo.heap.size, 0, none⟩) S S) (List.replicate S 0) rfl CE.out (Bs.grown (New.bs NZ.out) (Gr.alloc (Gr.refl _) _ _)) (Rb.gr (New.bs NZ.out) (New.rb NZ.out gp) (Gr.alloc (Gr.refl _) _ _)).2 (by simp; omega) (by have := HBW.out; simp; omega) ?_; intro v5 w5 hr5 hg5 hk5 ha5; have R5 := Lib.hid hr5; have G5 := Lib.hid hg5; have K5 := Lib.hid hk5; clear hr5 hg5 hk5 ha5)
   have hgA : Gr wo ((wo.alloc (.cells (rowB (List.replicate S 0)) 5)).alloc (.cells #[.slice (some ⟨wo.heap.size, 0, none⟩) S S] 25)) := Gr.alloc G1.out _ _
   exact ⟨⟨i + 1, by omega, by go_num, by rw [List.replicate_succ']; exact R5.out, K5.out.2 _ _ _ _ (HP.out.grown hgA) (by decide), G5.out w (Gr.trans HG.out hgA) HBS.out, Nat.le_trans HBW.out (Nat.le_trans hgA.size K5.out.1)⟩, by simp [intOf]; omega⟩
  ·obtain rfl : H = i := by omega
   clear hmk
   go_wp2_with fail
   clear c0 c1 c2
   go_loopw [8, 9, 34] (fun dv bv iv W => ∃ j : Nat, j ≤ n ∧ iv = .int .i64 j ∧ W.ownsRow gp 3 1 dv j ((idsY (Y.take j)).map (Value.int .i64)) ∧ Rws gp W bv (rhsY H S (Y.take j)) ∧ AllY K H S (Y.take j) ∧ Par W gp K H S ∧ Gr w W ∧ gp ≤ W.heap.size) (fun _ _ iv _ => n - (intOf iv).toNat)
   case atStart => exact ⟨0, by omega, rfl, World.ownsRow_nil _ _ _ _, by simpa [rhsY] using HRB.out, ⟨HM.out, by simp⟩, HP.out, HG.out, HBW.out⟩
   case round =>
    clear HRB HP HG HBW
    obtain ⟨wo, hwo⟩ : ∃ x, x = wr := ⟨_, rfl⟩
    subst hwo
    obtain ⟨j, hj, rfl, hz, hrb, hall, hp, hg, hbw⟩ := hrel
    obtain ⟨ob, mb, cb, rfl⟩ := hrb.form4
    obtain ⟨oi, ci, rfl⟩ := ownsRow_form hz
    have HZ := Lib.hid hz
    have HRB := Lib.hid hrb
    have HAL := Lib.hid hall
    have HP := Lib.hid hp
    have HG := Lib.hid hg
    have HBW := Lib.hid hbw
    clear hz hrb hall hp hg hbw
    by_cases hlt : j < n
    ·obtain ⟨b0, q0, rfl, _⟩ := HY.out.lay (by omega)
     have hat := HY.out.at hlt
     have hmem : Y.getD j noY ∈ Y := getD_memY (by rw [HN.out]; exact hlt)
     have htk : Y.take (j + 1) = Y.take j ++ [Y.getD j noY] := takeY_snoc (by rw [HN.out]; exact hlt)
     obtain ⟨q, hq⟩ : ∃ q, Y.getD j noY = q := ⟨_, rfl⟩
     rw [hq] at hat hmem htk
     obtain ⟨oz, nz, cz, q1, q2, hi64, hbz⟩ := hat
     have q1 := cell_grown HG.out q1
     have q2 := cell_grown HG.out q2
     have hnz : nz = q.d.length := by
      obtain ⟨o', c', he⟩ := hbz.form
      cases he
      rfl
     have HTK := Lib.hid htk
     have HMQ := Lib.hid hmem
     have HNZ := Lib.hid hnz
     clear hq hmem htk hnz
     have gA : Gr wo (wo.alloc (.cells #[.int .i64 q.i, .slice oz nz cz] 30)) := Gr.alloc (Gr.refl _) _ _
     have k0 : (wo.alloc (.cells #[.int .i64 q.i, .slice oz nz cz] 30)).cell? ⟨wo.heap.size, 0, none⟩ = some (.int .i64 q.i) := by rw [cell_of_row _ _ 0 _ _ _ (heap_alloc_new _ _)]; rfl
     have k1 : (wo.alloc (.cells #[.int .i64 q.i, .slice oz nz cz] 30)).cell? ⟨wo.heap.size, 1, none⟩ = some (.slice oz nz cz) := by rw [cell_of_row _ _ 1 _ _ _ (heap_alloc_new _ _)]; rfl
     have ZA := Lib.hid (HZ.out.of_gr gA)
     have RA := Lib.hid (HRB.out.grown gA)
     have PA := Lib.hid (HP.out.grown gA)
     have GA := Lib.hid (Gr.trans HG.out gA)
     have BA : Hid (gp ≤ (wo.alloc (.cells #[.int .i64 q.i, .slice oz nz cz] 30)).heap.size) := Lib.hid (Nat.le_trans HBW.out gA.size)
     have DW := Lib.hid hbz
     have HOB : Hid (∀ g, (Value.slice ob mb cb).ownBlock = some g → g < wo.heap.size) := Lib.hid fun g e => by
      obtain ⟨us, ho, _⟩ := HRB.out
      exact own_in ho e
     have HOI : Hid (∀ g, (Value.slice oi j ci).ownBlock = some g → g < wo.heap.size) := Lib.hid fun g e => own_in HZ.out e
     have hbd := HDL.out q HMQ.out
     rw [← HNZ.out] at hbd
     clear gA hbz HZ HRB HP HG HBW
     go_upto_region 12 with fail
     generalize wo.alloc (.cells #[.int .i64 q.i, .slice oz nz cz] 30) = wA at *
     generalize wo.heap.size = gz at *
     have c2 := PA.out.cell2
     by_cases hmi : MayI q.i
     ·have hdm := decide_eq_true hmi
      by_cases hnS : nz = S
      ·subst hnS
       have hbn : ((nz : Int) != (nz : Int)) = false := by simp
       go_wp2_with fail
       refine (refMayID_any q.i _).mono ?_
       rw [hdm]
       rintro e w' ⟨rfl, rfl⟩
       go_wp2_with fail
       have HLY : Hid ((rhsY H nz (Y.take j)).length ≤ 1000) := Lib.hid (by rw [rhsY_length, List.length_take]; omega)
       go_region_held3 (fun W => W.cell? ⟨gz, 0, none⟩ = some (.int .i64 q.i) ∧ W.cell? ⟨gz, 1, none⟩ = some (.slice oz nz cz)) (first | exact ⟨k70, k71⟩ | exact ⟨k60, k61⟩ | exact ⟨k50, k51⟩ | go_keep)
        (first
          | (have hx6 := N6; refine step_append_rowY rfl _ _ (by rfl) gp (.slice ob mb cb) (rhsY H nz (Y.take j)) (by rfl) (R5.out.grown (Gr.alloc N6.out.1 _ _)) w6.heap.size (.slice o6 nz c6) q.d (by rfl) (by rw [cell_of_row _ _ 0 _ _ _ (heap_alloc_new w6 _)]; rfl) (Bs.grown (New.bs N6.out) (Gr.alloc (Gr.refl _) _ _)) (Rb.gr (New.bs N6.out) (New.rb N6.out gp) (Gr.alloc (Gr.refl _) _ _)).2 (by have := HLY.out; omega) (by have := N6.out.1.size; have := B5.out; simp; omega) ?_; intro v7 w7 us7 hr7 ho7 hg7; have R7 := Lib.hid hr7; have Z7 := Lib.hid (own_otherY (Z5.out.of_gr (Gr.alloc N6.out.1 _ _)) ho7 (by decide) hg7); have P7 := Lib.hid ((P5.out.grown (Gr.alloc N6.out.1 _ _)).afterOwn ho7 (by decide) hg7); have G7 := Lib.hid (gr_by_own (Gr.trans G5.out (Gr.alloc N6.out.1 _ _)) hg7 ho7 HBS.out); have B7 : Hid (gp ≤ w7.heap.size) := Lib.hid (Nat.le_trans B5.out (Nat.le_trans (Gr.alloc N6.out.1 (#[.slice o6 nz c6]) 25).size hg7.size)); have k70 := hg7.cell (cell_grown (Gr.alloc N6.out.1 _ _) k50) (fun e => by have := HOB.out gz e.symm; omega); have k71 := hg7.cell (cell_grown (Gr.alloc N6.out.1 _ _) k51) (fun e => by have := HOB.out gz e.symm; omega); clear hr7 ho7 hg7)
          | (have hx5 := Z5; refine step_append_bytes rfl _ _ rfl w5.heap.size (.slice none 0 0) 0 [] (by rfl) (World.ownsRow_nil _ _ _ _) oz nz cz q.d (by rfl) (Bs.grown DW.out G5.out) (by omega) (Nat.le_refl _) ?_; intro v6 w6 ho6 hg6; rw [Nat.zero_add, List.nil_append] at ho6; obtain ⟨o6, c6, rfl⟩ := ownsRow_form ho6; have N6 : Hid (New w5 w6 (.slice o6 nz c6) q.d) := Lib.hid (New.of_row (Gr.append (Gr.refl w5) hg6 (fun _ h => by cases h)) DW.out.1 (by rw [← HNZ.out]; exact ho6)); have k60 := cell_grown N6.out.1 k50; have k61 := cell_grown N6.out.1 k51; clear ho6 hg6)
          | (refine step_append_zs rfl _ _ (by rfl) gp (.slice oi j ci) j (idsY (Y.take j)) (by rfl) (ZA.out.of_gr (Gr.alloc (Gr.drew (Gr.refl _)) _ _)) (some ⟨wA.heap.size, 0, none⟩) 1 1 [q.i] (by rfl) (zs_one (W := wA.drew) hi64) (by omega) (by have := BA.out; simp; omega) ?_; intro v5 w5 hz5 hg5; have gE : Gr wA (wA.drew.alloc (.cells #[.int .i64 q.i] 3)) := Gr.alloc (Gr.drew (Gr.refl _)) _ _; have Z5 := Lib.hid hz5; have R5 := Lib.hid ((RA.out.grown gE).afterZ (ZA.out.of_gr gE) (Nat.le_refl _) hg5); have P5 := Lib.hid ((PA.out.grown gE).afterOwn (ZA.out.of_gr gE) (by decide) hg5); have G5 := Lib.hid (gr_by_own (Gr.trans GA.out gE) hg5 (ZA.out.of_gr gE) HBS.out); have B5 : Hid (gp ≤ w5.heap.size) := Lib.hid (Nat.le_trans BA.out (Nat.le_trans gE.size hg5.size)); have k50 := hg5.cell (cell_grown gE k0) (fun e => by have := HOI.out gz e.symm; omega); have k51 := hg5.cell (cell_grown gE k1) (fun e => by have := HOI.out gz e.symm; omega); obtain ⟨oi5, ci5, rfl⟩ := ownsRow_form hz5; clear hz5 hg5 gE))
       obtain ⟨ob7, mb7, cb7, rfl⟩ := R7.out.form4
       go_wp2_with fail
       exact ⟨⟨j + 1, by omega, by go_num, by rw [HTK.out, idsY_snoc]; exact Z7.out, by rw [HTK.out, rhsY_snoc]; exact R7.out, by rw [HTK.out]; exact HAL.out.snoc hmi (by have := HNZ.out; omega), P7.out, G7.out, B7.out⟩, by simp [intOf]; omega⟩
      ·have hbn : ((nz : Int) != (S : Int)) = true := by simp; omega
       have hno : ¬ AllY K H S Y := fun c => hnS (by have := (c.2 q HMQ.out).2; have := HNZ.out; omega)
       go_wp2_with fail
       refine (refMayID_any q.i _).mono ?_
       rw [hdm]
       rintro e w' ⟨rfl, rfl⟩
       go_wp2_with fail
       go_ret2
       exact ⟨_, _, [], rfl, Bs.nil _, GA.out, dec_arg hno⟩
     ·have hdm := decide_eq_false hmi
      have hno : ¬ AllY K H S Y := fun c => hmi (c.2 q HMQ.out).1
      go_wp2_with fail
      refine (refMayID_any q.i _).mono ?_
      rw [hdm]
      rintro e w' ⟨rfl, rfl⟩
      go_wp2_with fail
      go_ret2
      exact ⟨_, _, [], rfl, Bs.nil _, GA.out, dec_arg hno⟩
    ·obtain rfl : j = n := by omega
     have htk : Y.take j = Y := List.take_of_length_le (by rw [HN.out]; exact Nat.le_refl _)
     rw [htk] at HZ HRB HAL
     have c0 := HP.out.cell0
     have c1 := HP.out.cell1
     have c2 := HP.out.cell2
     clear htk
     have hzs : Zs wo (.slice oi j ci) (idsY Y) := owns_zs HZ.out (by rw [idsY_length, HN.out]) fun x hx => may_i64 (idsY_may HAL.out x hx)
     have hby : ∀ q ∈ Y, ∀ z ∈ q.d, Byt z := HY.out.byt
     have HBY := Lib.hid hby
     clear hby
     go_wp2_with fail
     refine (refMatrix_any K H S seed _ (idsY Y) _ hs hzs (by rw [idsY_length, HN.out]; omega)).mono ?_
     rintro e w3 ⟨v3, rfl, hb3, hg3⟩
     have HB3 := Lib.hid hb3
     have HR3 := Lib.hid (HRB.out.grown hg3)
     have HP3 := Lib.hid (HP.out.grown hg3)
     have HG3 := Lib.hid (Gr.trans HG.out hg3)
     clear hb3 hg3 hzs HZ HRB HP HG c0 c1 c2
     go_wp2_with fail
     have hML := matY_length (seed := seed) HAL.out
     have hwA : wd (matP K H S seed (idsY Y)) = K + H := (matP_wide HM.out seed (idsY Y)).wd (by omega)
     refine (refSolve_any _ _ (matP K H S seed (idsY Y)) (rhsY H S Y) _ HB3.out HR3.out.bss (by rw [hML, HN.out]; omega) (by rw [hML, rhsY_length]) (matP_may _ _ _ _ _) ((rhsY_wide (S := S) fun q hq => ⟨by have := (HAL.out.2 q hq).2; omega, HBY.out q hq⟩).may (by omega)) (fun _ => by omega)).mono ?_
     rintro e w8 ⟨v8, n8, M, rfl, hb8, hg8, hsol⟩
     have HP8 := Lib.hid (HP3.out.grown hg8)
     have HG8 := Lib.hid (Gr.trans HG3.out hg8)
     have HB8 := Lib.hid hb8
     obtain ⟨o8, m8, c8, rfl⟩ := hb8.form3
     have hm8 : m8 = M.length := hb8.len3
     have HM8 := Lib.hid hm8
     clear hb8 hg8 hML hwA HP3 HG3 HR3 HB3 hm8
     rcases sol_dec HAL.out HBY.out hsol with ⟨rfl, hmid, hful⟩ | ⟨hne, hds⟩
     ·have HMI := Lib.hid hmid
      have HFU := Lib.hid hful
      have c0 := HP8.out.cell0
      clear hsol hmid hful
      go_wp2_with fail
      have HMM : Hid (M.length = K + H) := Lib.hid HMI.out.len
      go_loopw [15, 16] (fun ov iv W => ∃ i l, i ≤ K ∧ iv = .int .i64 ((i : Nat) : Int) ∧ W.ownsRow w8.heap.size 5 1 ov l (((List.range i).flatMap fun i : Nat => symP K H S seed M (i : Int)).map (Value.int .u8)) ∧ l = i * S ∧ Par W gp K H S ∧ Gr w8 W) (fun _ iv _ => K - (intOf iv).toNat)
      case atStart => exact ⟨0, 0, by omega, rfl, World.ownsRow_nil _ _ _ _, by simp, HP8.out, Gr.refl _⟩
      case round =>
       obtain ⟨wi, hwi⟩ : ∃ x, x = wr := ⟨_, rfl⟩
       subst hwi
       obtain ⟨i, l, hi, rfl, hown, hle, hp, hg⟩ := hrel
       have HPI := Lib.hid hp
       have HGI := Lib.hid hg
       have HOW := Lib.hid hown
       obtain ⟨oo, co, rfl⟩ := ownsRow_form hown
       have hlb : l ≤ 400 := by rw [hle]; exact Nat.le_trans (Nat.mul_le_mul (show i ≤ 16 by omega) hb6) (by omega)
       have HLE := Lib.hid hle
       have c0 := hp.cell0
       have c1 := hp.cell1
       have c2 := hp.cell2
       clear hp hg hown hle
       by_cases hlt : i < K
       ·have hii : MayI (i : Int) := may_of_lt (by omega) (show i < K from hlt)
        obtain ⟨A, hA⟩ : ∃ A, atN (K + H) seed (i : Int).toNat = A := ⟨_, rfl⟩
        have HAT : Hid (atP K H S seed (i : Int) = A) := Lib.hid (by
          rw [← hA]
          unfold atP
          rw [if_pos ⟨HM.out, hii⟩, Int.toNat_natCast, Int.toNat_natCast])
        have HSY : Hid (symP K H S seed M (i : Int) = addL S M A) := Lib.hid (by
          rw [← hA]
          unfold symP
          rw [if_pos hii])
        have HAR : Hid ((∀ x ∈ A, 0 ≤ x ∧ x < (M.length : Int)) ∧ A.length ≤ 64) := Lib.hid (by
          rw [← hA, HMM.out]
          exact ⟨atN_rng _ _ _, by have := (atN_len (show 1 ≤ K + H by omega) (show K + H ≤ 64 by omega) seed (i : Int).toNat).2; omega⟩)
        have HAL2 : Hid ((addL S M A).length = S) := Lib.hid (addL_length HMI.out.wide A HAR.out.1)
        clear hA hii
        go_wp2_with fail
        go_region_held3 (fun W => W.cell? ⟨gp, 0, none⟩ = some (.int .i64 (K : Int)) ∧ W.cell? ⟨gp, 1, none⟩ = some (.int .i64 (H : Int)) ∧ W.cell? ⟨gp, 2, none⟩ = some (.int .i64 (S : Int))) (first | exact ⟨k30, k31, k32⟩ | exact ⟨k20, k21, k22⟩ | exact ⟨k10, k11, k12⟩ | go_keep)
         (first
           | (have hx2 := N2; refine step_append_bytes rfl _ _ rfl w8.heap.size (.slice oo l co) l ((List.range i).flatMap fun i : Nat => symP K H S seed M (i : Int)) (by rfl) (HOW.out.of_gr N2.out.1) o2 S d2 (addL S M A) (by rfl) (New.bs N2.out) (by omega) (by have := HGI.out.size; have := N2.out.1.size; omega) ?_; intro v3 w3 ho3 hg3; have O3 := Lib.hid ho3; have G3 := Lib.hid (gr_by_own (Gr.trans HGI.out N2.out.1) hg3 (HOW.out.of_gr N2.out.1) (Nat.le_refl _)); have P3 := Lib.hid ((HPI.out.grown N2.out.1).afterOwn (HOW.out.of_gr N2.out.1) (by decide) hg3); have k30 := P3.out.cell0; have k31 := P3.out.cell1; have k32 := P3.out.cell2; clear ho3 hg3)
           | (go_at_call 43; refine (refAdd_any K H S _ _ M A _ (HB8.out.grown (Gr.trans HGI.out V1.out)) HMI.out.wide HAR.out.1 HZ1.out (by omega) (by have := HAR.out.2; omega) (by rw [HMM.out]; omega)).mono ?_; rintro e v2 ⟨y2, rfl, hn2⟩; obtain ⟨o2, m2, d2, rfl⟩ := New.form3 hn2; have hm2 : m2 = S := by (obtain ⟨o', c', he⟩ := (New.bs hn2).form; cases he; exact HAL2.out)
              rw [hm2] at hn2 ⊢; clear hm2; have N2 := Lib.hid (New.under V1.out hn2); have k20 := cell_grown hn2.1 (by exact k10); have k21 := cell_grown hn2.1 (by exact k11); have k22 := cell_grown hn2.1 (by exact k12); clear hn2)
           | (go_at_call 44; refine (refAt_any K H S seed i _ hs).mono ?_; rw [HAT.out]; rintro e v1 ⟨y1, rfl, hz1, hg1⟩; obtain ⟨o1, m1, d1, rfl⟩ := hz1.form3; have HZ1 := Lib.hid hz1; have k10 := cell_grown hg1 (by exact c0); have k11 := cell_grown hg1 (by exact c1); have k12 := cell_grown hg1 (by exact c2); have V1 : Hid (Gr wi v1) := Lib.hid (by exact hg1); clear hz1 hg1))
        obtain ⟨oo3, co3, rfl⟩ := ownsRow_form O3.out
        have hst : (List.range (i + 1)).flatMap (fun i : Nat => symP K H S seed M (i : Int)) = (List.range i).flatMap (fun i : Nat => symP K H S seed M (i : Int)) ++ addL S M A := by
         rw [List.range_succ, List.flatMap_append, List.flatMap_singleton, HSY.out]
        have HST := Lib.hid hst
        clear hst c0 c1 c2 k10 k11 k12 k20 k21 k22 k30 k31 k32
        go_wp2_with fail
        exact ⟨⟨i + 1, l + S, by omega, by go_num, by rw [HST.out]; exact O3.out, by rw [HLE.out, Nat.add_mul, Nat.one_mul], P3.out, G3.out⟩, by simp [intOf]; omega⟩
       ·obtain rfl : i = K := by omega
        have hbo : Bs wi (.slice oo l co) (outY i H S seed M) := by
         refine New.bs (New.of_row HGI.out (fun z hz => ?_) ?_)
         ·obtain ⟨x, _, hx⟩ := List.mem_flatMap.1 hz
          exact sym_byt HM.out HMI.out.wide HMI.out.len _ z hx
         ·rw [outY_length HM.out HMI.out.wide HMI.out.len, ← HLE.out]
          exact HOW.out
        go_wp2_with fail
        go_ret2
        refine ⟨_, 0, outY i H S seed M, rfl, hbo, Gr.trans HG8.out HGI.out, .inr (.inr (.inl ⟨HAL.out, HFU.out, rfl, M, ?_⟩))⟩
        rw [Int.toNat_natCast, Int.toNat_natCast, Int.toNat_natCast]
        exact ⟨HMI.out, rfl⟩
     ·have hnb : (n8 != 0) = true := by simp; exact hne
      clear hsol
      go_wp2_with fail
      go_ret2
      exact ⟨_, n8, [], rfl, Bs.nil _, HG8.out, hds⟩
theorem refDecode_any (K H S : Int) (seed : Nat) (v : Value) (Y : List Symb) (w : World) (hs : seed < 4294967296) (hy : Syms w v Y) (hl : Y.length ≤ 800) (hdl : ∀ q ∈ Y, q.d.length ≤ 1000) :
  Calls Tryz.prog 18 #[par K H S, .int .u32 (seed : Int), v] w fun e w' => ∃ u x out, e = .returned (.tuple #[u, .int .i64 x]) ∧ Bs w' u out ∧ Gr w w' ∧ DecSays K H S seed Y x out := by
 by_cases hm : MayP K H S
 ·obtain ⟨k, h, s, rfl, rfl, rfl⟩ := may_nats hm
  exact refDecode_in k h s seed v Y w hm hs hy hl hdl
 ·obtain ⟨o, c, hf⟩ := hy.form
  refine (refDecode_ne K H S seed v w hm ⟨o, _, c, hf⟩).mono ?_
  rintro e w' ⟨rfl, hg⟩
  exact ⟨_, 1, [], rfl, Bs.nil _, hg, dec_arg fun c => hm c.1⟩
end Go.Proofs.YtbbglejdfbkjlaaGreat
namespace Go.Proofs.YtbbglejdfbkjlaaGreat
open Go.RowKit
theorem own_bytesY {base n : Nat} {w : World} {v : Value} {l : List Int} (ho : w.ownsRow base 5 1 v n (l.map (Value.int .u8))) (hl : l.length = n) (h0 : 0 < n) : ∃ g c cur, v = .slice (some ⟨g, 0, none⟩) n c ∧ base ≤ g ∧ w.heap[g]? = some (.cells cur 5 (0, 0)) ∧ n ≤ c ∧ c ≤ 9223372036854775807 ∧ ∀ i, i < n → cur[i]? = some (.int .u8 (l.getD i 0)) := by
 obtain ⟨_, ⟨rfl, rfl⟩ | ⟨g, c, cur, rfl, hb, hg, h1, h2, h3, h4⟩⟩ := ho
 ·omega
 ·unfold maxLen at h2
  refine ⟨g, c, cur, rfl, hb, hg, h1, h2, fun i hi => ?_⟩
  have e : (cur.toList.take (n * 1))[i]? = some (.int .u8 (l.getD i 0)) := by
   rw [h4, List.getElem?_map, List.getElem?_eq_getElem (by omega), List.getD_eq_getElem?_getD, List.getElem?_eq_getElem (by omega)]
   rfl
  rw [List.getElem?_take_of_lt (by omega)] at e
  simpa using e
structure Bump (w8 W : World) (g n : Nat) (d : List Int) : Prop where
 kp : Kp (fun b => b = g) w8 W
 len : d.length = n
 byt : ∀ z ∈ d, Byt z
 blk : ∃ cur, W.heap[g]? = some (.cells cur 5 (0, 0)) ∧ ∀ i, i < n → cur[i]? = some (.int .u8 (d.getD i 0))
theorem Bump.cell {w8 W : World} {g n i : Nat} {d : List Int} (h : Bump w8 W g n d) (hi : i < n) : W.cell? ⟨g, i, none⟩ = some (.int .u8 (d.getD i 0)) := by
 obtain ⟨cur, h1, h2⟩ := h.blk
 rw [cell_of_row _ _ _ _ _ _ h1, h2 i hi]
theorem Bump.frozen {w8 W : World} {g n : Nat} {d : List Int} (h : Bump w8 W g n d) (i : Nat) : W.frozen? ⟨g, i, none⟩ = false := by
 obtain ⟨cur, h1, h2⟩ := h.blk
 exact frozen_of_row W g i _ _ h1
theorem Bump.put {w8 W : World} {g n i : Nat} {d : List Int} {z : Int} (h : Bump w8 W g n d) (hi : i < n) (hz : Byt z) : Bump w8 (W.setCell ⟨g, i, none⟩ (.int .u8 z)) g n (d.set i z) := by
 obtain ⟨cur, h1, h2⟩ := h.blk
 refine ⟨h.kp.trans (Kp.set W g i _) fun k e => .inl e, by rw [List.length_set]; exact h.len, fun y hy => ?_, _, heap_setCell_same _ _ _ _ _ _ h1, fun j hj => ?_⟩
 ·rcases List.mem_or_eq_of_mem_set hy with hy | rfl
  ·exact h.byt y hy
  ·exact hz
 ·by_cases e : j = i
  ·subst e
   have := (Array.getElem?_eq_some_iff.1 (h2 j hj)).1
   rw [Array.getElem?_setIfInBounds_self_of_lt this, List.getD_eq_getElem?_getD, List.getElem?_set_self (by rw [h.len]; exact hj)]
   rfl
  ·rw [Array.getElem?_setIfInBounds_ne (fun c => e c.symm), h2 j hj, List.getD_eq_getElem?_getD, List.getD_eq_getElem?_getD, List.getElem?_set_ne (fun c => e c.symm)]
theorem Bump.bs {w8 W : World} {g n c : Nat} {d : List Int} (h : Bump w8 W g n d) (hn : n ≤ c) (hc : c ≤ 9223372036854775807) : Bs W (.slice (some ⟨g, 0, none⟩) n c) d :=
 ⟨h.byt, some ⟨g, 0, none⟩, c, by rw [h.len], by rw [h.len]; exact hn, hc, (fun e => by cases e), fun a ha i hi => by
   cases ha
   rw [h.len] at hi
   rw [Addr.add_mid, Nat.zero_add, h.cell hi]⟩
theorem infoLY : (Tryz.prog.info? 27).map (fun i => (i.zero, i.size, i.bytes)) = some (some (.slice none 0 0), 1, 24) := by kernel_rfl
theorem past_ne {w : World} {gl b o : Nat} {x : Value} {t : TypeId} {fr : Nat × Nat} {oa : Option Addr} {m c : Nat} (hg : w.heap[gl]? = some (.cells #[.slice oa m c] t fr)) (hx : w.cell? ⟨b, o, none⟩ = some x) (hn : ∀ oa m c, x ≠ .slice oa m c) : b ≠ gl := fun e => by
 subst e
 rw [cell_of_row _ _ _ _ _ _ hg] at hx
 match o, hx with
 | 0, hx => exact hn oa m c (by simpa using hx.symm)
 | o + 1, hx => simp at hx
theorem past_cell {w w' : World} {gl : Nat} {a : Addr} {x : Value} (hg : w.grownBy w' (some gl)) (hx : w.cell? a = some x) (hn : a.block ≠ gl) : w'.cell? a = some x := by
 rw [World.cell?_of_block (w := w) (w' := w') (a := a) (hg.block _ (World.block_lt_of_cell? _ _ hx) (fun e => hn (Option.some.inj e)))]
 exact hx
theorem Bs.past {w w' : World} {gl : Nat} {v : Value} {l : List Int} {t : TypeId} {fr : Nat × Nat} {oa : Option Addr} {m c : Nat} (h : Bs w v l) (hg : w.heap[gl]? = some (.cells #[.slice oa m c] t fr)) (hb : w.grownBy w' (some gl)) : Bs w' v l := by
 obtain ⟨h1, o, cc, rfl, h2, h3, h4, h5⟩ := h
 refine ⟨h1, o, cc, rfl, h2, h3, h4, fun a ha i hi => past_cell hb (h5 a ha i hi) ?_⟩
 have hx := h5 a ha i hi
 obtain ⟨⟨bb, oo, sp⟩, he⟩ : ∃ y, a.add i = y := ⟨_, rfl⟩
 rw [he] at hx ⊢
 cases sp with
 | none => exact past_ne hg hx (fun _ _ _ e => by cases e)
 | some s =>
  unfold World.cell? at hx
  split at hx <;> simp at hx
theorem Syms.past {w w' : World} {gl : Nat} {v : Value} {Y : List Symb} {t : TypeId} {fr : Nat × Nat} {oa : Option Addr} {m c : Nat} (h : Syms w v Y) (hg : w.heap[gl]? = some (.cells #[.slice oa m c] t fr)) (hb : w.grownBy w' (some gl)) : Syms w' v Y := by
 obtain ⟨o, cc, h1, h2, h3, h4, h5⟩ := h
 refine ⟨o, cc, h1, h2, h3, h4, fun h0 => ?_⟩
 obtain ⟨b, q, e, h6⟩ := h5 h0
 refine ⟨b, q, e, fun i hi => ?_⟩
 obtain ⟨od, nd, cd, q1, q2, q3, q4⟩ := h6 i hi
 have hne := past_ne hg q1 (fun _ _ _ e => by cases e)
 exact ⟨od, nd, cd, past_cell hb q1 hne, past_cell hb q2 hne, q3, q4.past hg hb⟩
theorem Par.past {w w' : World} {g gl : Nat} {K H S : Int} {c : Array Value} {t : TypeId} {fr : Nat × Nat} (h : Par w g K H S) (hg : w.heap[gl]? = some (.cells c t fr)) (ht : t ≠ 23) (hb : w.grownBy w' (some gl)) : Par w' g K H S := by
 unfold Par at *
 rw [hb.block g (Array.getElem?_eq_some_iff.1 h).1 (fun e => ?_)]
 ·exact h
 ·obtain rfl : g = gl := Option.some.inj e
  rw [hg] at h
  simp at h
  exact ht h.2.1
theorem wpList_append_lots {w : World} {ops : Array Oper} {rest : List Oper} {o : Oper} {a : Act} {Q : Exit → Act → World → Prop} (hgd : o.guard = none) (s x : Operand)
  (ho : o.op = .call { callee := .builtin .append, args := #[s, x], argTypes := #[34, 34] }) (gl : Nat) (u0 u1 u2 u3 : Value) (hs : a.eval s = .slice (some ⟨gl, 0, none⟩) 1 1) (hR : w.heap[gl]? = some (.cells #[u0] 27 (0, 0)))
  (g : Nat) (hx : a.eval x = .slice (some ⟨g, 0, none⟩) 3 3) (hg : w.heap[g]? = some (.cells #[u1, u2, u3] 27 (0, 0))) (h1 : u1.oneCell' = true ∧ u2.oneCell' = true ∧ u3.oneCell' = true)
  (h : ∀ g' cp w', 4 ≤ cp → w'.cell? ⟨g', 0, none⟩ = some u0 → w'.cell? ⟨g', 1, none⟩ = some u1 → w'.cell? ⟨g', 2, none⟩ = some u2 → w'.cell? ⟨g', 3, none⟩ = some u3 → w.grownBy w' (some gl) → wpList Tryz.prog ops Q rest (a.put o.dst (.slice (some ⟨g', 0, none⟩) 4 cp)) w') : wpList Tryz.prog ops Q (o :: rest) a w := by
 obtain ⟨i0, hi0, hz0, hz1, hz2⟩ := info_parts infoLY
 have hown : w.ownsRow gl 27 1 (.slice (some ⟨gl, 0, none⟩) 1 1) 1 [u0] := ⟨rfl, .inr ⟨gl, 1, #[u0], rfl, Nat.le_refl _, hR, Nat.le_refl _, by unfold maxLen; omega, rfl, rfl⟩⟩
 have hcell : ∀ j, w.cell? ⟨g, j, none⟩ = (#[u1, u2, u3] : Array Value)[j]? := fun j => cell_of_row _ _ _ _ _ _ hg
 refine wpList_append_lies w hgd s x 34 ho gl 27 i0 _ 1 24 Tryz.underlying34 hi0 hz0 hz1 hz2 rfl (by omega) _ 1 [u0] hs hown ⟨g, 0, none⟩ 3 3 [u1, u2, u3] hx rfl (fun j y hj => by
   rw [Addr.add_mid, Nat.zero_add, hcell]
   simpa using hj) (by
     intro y hy
     simp at hy
     rcases hy with rfl | rfl | rfl
     · exact h1.1
     · exact h1.2.1
     · exact h1.2.2) (by omega) (by unfold maxLen; omega) (by omega) (Nat.le_of_lt (Array.getElem?_eq_some_iff.1 hR).1) _ rfl ?_
 intro gg cap w' h2 h3 _ _
 obtain ⟨_, ⟨he, _⟩ | ⟨g', c', cur, he, _, p2, p3, p4, p5, p6⟩⟩ := h2
 ·cases he
 cases he
 have hc : ∀ j u, ([u0, u1, u2, u3] : List Value)[j]? = some u → w'.cell? ⟨gg, j, none⟩ = some u := fun j u hj => by
  rw [cell_of_row _ _ _ _ _ _ p2]
  have e : (cur.toList.take ((1 + 3) * 1))[j]? = ([u0] ++ [u1, u2, u3])[j]? := by rw [p6]
  have hj4 : j < 4 := (List.getElem?_eq_some_iff.1 hj).1
  rw [List.getElem?_take_of_lt (by omega)] at e
  rw [← Array.getElem?_toList, e]
  exact hj
 exact h gg cap w' p3 (hc 0 _ rfl) (hc 1 _ rfl) (hc 2 _ rfl) (hc 3 _ rfl) h3
theorem infoPY : (Tryz.prog.info? 23).map (fun i => (i.zero.map (·.cells.size), i.size, i.bytes)) = some (some 3, 3, 24) := by kernel_rfl
theorem wpList_append_par {w : World} {ops : Array Oper} {rest : List Oper} {o : Oper} {a : Act} {Q : Exit → Act → World → Prop} (hgd : o.guard = none) (s x : Operand)
  (ho : o.op = .call { callee := .builtin .append, args := #[s, x], argTypes := #[42, 42] }) (gl : Nat) (K H S p1 p2 p3 : Int) (hs : a.eval s = .slice (some ⟨gl, 0, none⟩) 1 1) (hR : Par w gl K H S)
  (g : Nat) (hx : a.eval x = .slice (some ⟨g, 0, none⟩) 1 1) (hg : Par w g p1 p2 p3)
  (h : ∀ g' cp w', 2 ≤ cp → w'.cell? ⟨g', 0, none⟩ = some (.int .i64 K) → w'.cell? ⟨g', 1, none⟩ = some (.int .i64 H) → w'.cell? ⟨g', 2, none⟩ = some (.int .i64 S) → w'.cell? ⟨g', 3, none⟩ = some (.int .i64 p1) → w'.cell? ⟨g', 4, none⟩ = some (.int .i64 p2) → w'.cell? ⟨g', 5, none⟩ = some (.int .i64 p3) → w.grownBy w' (some gl) → wpList Tryz.prog ops Q rest (a.put o.dst (.slice (some ⟨g', 0, none⟩) 2 cp)) w') : wpList Tryz.prog ops Q (o :: rest) a w := by
 obtain ⟨i, hi, hzz⟩ := Option.map_eq_some_iff.1 infoPY
 simp only [Prod.mk.injEq] at hzz
 obtain ⟨hz0, hz1, hz2⟩ := hzz
 obtain ⟨z, hz, hzs⟩ := Option.map_eq_some_iff.1 hz0
 have hown : w.ownsRow gl 23 3 (.slice (some ⟨gl, 0, none⟩) 1 1) 1 [.int .i64 K, .int .i64 H, .int .i64 S] := ⟨rfl, .inr ⟨gl, 1, _, rfl, Nat.le_refl _, hR, Nat.le_refl _, by unfold maxLen; omega, rfl, rfl⟩⟩
 refine wpList_append_lies w hgd s x 42 ho gl 23 i z 3 24 Tryz.underlying42 hi hz hz1 hz2 hzs (by omega) _ 1 [.int .i64 K, .int .i64 H, .int .i64 S] hs hown ⟨g, 0, none⟩ 1 1 [.int .i64 p1, .int .i64 p2, .int .i64 p3] hx rfl (fun j y hj => by
   rw [Addr.add_mid, Nat.zero_add, cell_of_row _ _ _ _ _ _ hg]
   simpa using hj) (by
     intro y hy
     simp at hy
     rcases hy with rfl | rfl | rfl <;> rfl) (by omega) (by unfold maxLen; omega) (by omega) (Nat.le_of_lt (Array.getElem?_eq_some_iff.1 hR).1) _ rfl ?_
 intro gg cap w' h2 h3 _ _
 obtain ⟨_, ⟨he, _⟩ | ⟨g', c', cur, he, _, p2', p3', p4, p5, p6⟩⟩ := h2
 ·cases he
 cases he
 have hc : ∀ j u, ([.int .i64 K, .int .i64 H, .int .i64 S, .int .i64 p1, .int .i64 p2, .int .i64 p3] : List Value)[j]? = some u → w'.cell? ⟨gg, j, none⟩ = some u := fun j u hj => by
  rw [cell_of_row _ _ _ _ _ _ p2']
  have e : (cur.toList.take ((1 + 1) * 3))[j]? = ([.int .i64 K, .int .i64 H, .int .i64 S] ++ [.int .i64 p1, .int .i64 p2, .int .i64 p3])[j]? := by rw [p6]
  have hj6 : j < 6 := (List.getElem?_eq_some_iff.1 hj).1
  rw [List.getElem?_take_of_lt (by omega)] at e
  rw [← Array.getElem?_toList, e]
  exact hj
 exact h gg cap w' p3' (hc 0 _ rfl) (hc 1 _ rfl) (hc 2 _ rfl) (hc 3 _ rfl) (hc 4 _ rfl) (hc 5 _ rfl) h3
end Go.Proofs.YtbbglejdfbkjlaaGreat
namespace Go.Proofs.YtbbglejdfbkjlaaGreat
open Go.RowKit
def startsAt (n : Nat) : Code → Bool
 | .region k _ _ => k == n
 | .seq a _ => startsAt n a
 | _ => false
def atRegion (n : Nat) : Code → Option Code
 | .seq a b => if startsAt n a then some (.seq a b) else match atRegion n a with
  | some c => some c
  | none => atRegion n b
 | .block _ c => atRegion n c
 | .loop c => atRegion n c
 | .cond _ a b => match atRegion n a with
  | some c => some c
  | none => atRegion n b
 | _ => none
noncomputable def tellsInner : Code := ((Tryz.f3.body.bind (atRegion 34)).getD .skip)
set_option maxRecDepth 1000000 in
set_option maxHeartbeats 12800000 in
theorem tells_inner {At' : World → Value → (Nat → Prop) → Nat → Nat → Nat → Nat → List Symb → Prop} (C : DecOk At') (s gr mx cx : Nat) (x y z : Int) (ox : Option Addr) (Lx : List Symb) (wA : World) (Q0 : Exit → Act → World → Prop) (v0 v1 v2 v3 v4 v5 v6 v7 v8 v9 v10 v11 v12 v13 v14 v15 v16 v17 v18 v19 v20 v22 v23 v24 v25 v26 v27 v28 v29 v31 v32 v34 v35 v36 v37 v38 v39 v40 v41 v42 v43 v44 v45 v46 v47 v48 v49 v50 v51 v52 v53 v54 v55 v56 v57 v58 v59 v60 v61 v62 v63 v64 v65 v66 v67 v68 v69 v70 v71 v72 v73 v74 v75 v76 v77 v78 v79 v80 v81 v82 v83 v84 v85 v86 v87 v88 v89 v90 v91 v92 v93 v94 v95 v96 v97 v98 v99 v100 v101 v102 v103 v104 v105 v106 v107 v108 v109 v110 v111 v112 v113 v114 v115 v116 v117 v118 v119 v120 v121 v122 v123 v124 v125 v126 v127 v128 v129 v130 v131 v132 v133 v134 v135 v136 v137 v138 v139 v140 v141 v142 v143 v144 v145 v146 v147 v148 v149 v150 v151 v152 v153 v154 v155 v156 v157 v158 v159 v160 v161 v162 v163 v164 v165 v166 v167 v168 v169 v170 v171 v172 v173 v174 v175 v176 v177 v178 v179 v180 v181 v182 v183 v184 v185 v186 v187 v188 v189 v190 v191 v192 v193 v194 v195 v196 v197 v198 v199 v200 v201 v202 v203 v204 v205 v206 v207 v208 v209 v210 v211 v212 v213 v214 v215 v216 v217 v218 v219 v220 v221 v222 v223 v224 v225 v226 v227 v228 v229 v230 v231 v232 v233 v234 v235 v236 v237 : Value)
  (hs : s < 4294967296) (hsx : SmallY Lx) (hxm : Lx.length = mx) (hx : Syms wA (.slice ox mx cx) Lx) (hpr : Par wA gr x y z)
  (hexit : ∀ (n18 n34 n36 n37 n38 n39 n40 n41 n165 n166 n167 n168 n169 n170 n171 n172 n173 n174 n175 n176 n177 n178 n179 n180 n181 n182 n183 n184 n185 n186 n187 n188 n189 n190 n191 n192 n193 n194 n195 n196 n197 n198 n199 n200 n201 n202 n203 n204 n205 n206 n207 n208 n209 n210 n211 n212 n213 n214 n215 n216 n217 n218 n219 n220 n221 n222 n223 n224 n225 n226 n227 n228 n229 n230 n231 n232 n233 n234 : Value) (wx : World), Gr wA wx → Q0 .normal ⟨#[v0, v1, v2, v3, v4, v5, v6, v7, v8, v9, v10, v11, v12, v13, v14, v15, v16, v17, n18, v19, v20, .int .u32 (s : Int), v22, v23, v24, v25, v26, v27, v28, v29, .slice ox mx cx, v31, v32, .pointer (some ⟨gr, 0, none⟩), n34, v35, n36, n37, n38, n39, n40, n41, v42, v43, v44, v45, v46, v47, v48, v49, v50, v51, v52, v53, v54, v55, v56, v57, v58, v59, v60, v61, v62, v63, v64, v65, v66, v67, v68, v69, v70, v71, v72, v73, v74, v75, v76, v77, v78, v79, v80, v81, v82, v83, v84, v85, v86, v87, v88, v89, v90, v91, v92, v93, v94, v95, v96, v97, v98, v99, v100, v101, v102, v103, v104, v105, v106, v107, v108, v109, v110, v111, v112, v113, v114, v115, v116, v117, v118, v119, v120, v121, v122, v123, v124, v125, v126, v127, v128, v129, v130, v131, v132, v133, v134, v135, v136, v137, v138, v139, v140, v141, v142, v143, v144, v145, v146, v147, v148, v149, v150, v151, v152, v153, v154, v155, v156, v157, v158, v159, v160, v161, v162, v163, v164, n165, n166, n167, n168, n169, n170, n171, n172, n173, n174, n175, n176, n177, n178, n179, n180, n181, n182, n183, n184, n185, n186, n187, n188, n189, n190, n191, n192, n193, n194, n195, n196, n197, n198, n199, n200, n201, n202, n203, n204, n205, n206, n207, n208, n209, n210, n211, n212, n213, n214, n215, n216, n217, n218, n219, n220, n221, n222, n223, n224, n225, n226, n227, n228, n229, n230, n231, n232, n233, n234, v235, v236, v237], []⟩ wx) :
  Code.wp Tryz.prog tellsInner Q0 ⟨#[v0, v1, v2, v3, v4, v5, v6, v7, v8, v9, v10, v11, v12, v13, v14, v15, v16, v17, v18, v19, v20, .int .u32 (s : Int), v22, v23, v24, v25, v26, v27, v28, v29, .slice ox mx cx, v31, v32, .pointer (some ⟨gr, 0, none⟩), v34, v35, v36, v37, v38, v39, v40, v41, v42, v43, v44, v45, v46, v47, v48, v49, v50, v51, v52, v53, v54, v55, v56, v57, v58, v59, v60, v61, v62, v63, v64, v65, v66, v67, v68, v69, v70, v71, v72, v73, v74, v75, v76, v77, v78, v79, v80, v81, v82, v83, v84, v85, v86, v87, v88, v89, v90, v91, v92, v93, v94, v95, v96, v97, v98, v99, v100, v101, v102, v103, v104, v105, v106, v107, v108, v109, v110, v111, v112, v113, v114, v115, v116, v117, v118, v119, v120, v121, v122, v123, v124, v125, v126, v127, v128, v129, v130, v131, v132, v133, v134, v135, v136, v137, v138, v139, v140, v141, v142, v143, v144, v145, v146, v147, v148, v149, v150, v151, v152, v153, v154, v155, v156, v157, v158, v159, v160, v161, v162, v163, v164, v165, v166, v167, v168, v169, v170, v171, v172, v173, v174, v175, v176, v177, v178, v179, v180, v181, v182, v183, v184, v185, v186, v187, v188, v189, v190, v191, v192, v193, v194, v195, v196, v197, v198, v199, v200, v201, v202, v203, v204, v205, v206, v207, v208, v209, v210, v211, v212, v213, v214, v215, v216, v217, v218, v219, v220, v221, v222, v223, v224, v225, v226, v227, v228, v229, v230, v231, v232, v233, v234, v235, v236, v237], []⟩ wA := by
 have HC := Lib.hid C
 have HS := Lib.hid hs
 have HSX := Lib.hid hsx
 have HXM := Lib.hid hxm
 have EXA := Lib.hid hx
 have PR := Lib.hid hpr
 have HEX := Lib.hid hexit
 clear C hs hsx hxm hx hpr hexit
 conv => arg 2; whnf
 have hmx : mx ≤ 100 := by have h1 := HSX.out.1; have h2 := HXM.out; omega
 go_wp2_with fail
 go_loopw [34, 167] (fun iv jv wx => ∃ j : Nat, j ≤ mx ∧ jv = .int .i64 j ∧ SymsK wA.heap.size wx iv (Lx.take j) ∧ Gr wA wx) (fun _ jv _ => mx - (intOf jv).toNat)
 case atStart => exact ⟨0, by omega, rfl, SymsK.nil _ _, Gr.refl _⟩
 case round =>
  obtain ⟨wz, hwz⟩ : ∃ x, x = wr := ⟨_, rfl⟩
  subst hwz
  obtain ⟨j, hj, rfl, hin, hgj⟩ := hrel
  obtain ⟨oi, ci, ei⟩ := hin.o.form
  rw [List.length_take, HXM.out, Nat.min_eq_left hj] at ei
  subst ei
  have IN := Lib.hid hin
  have GJ := Lib.hid hgj
  clear hin hgj
  by_cases hjt : j < mx
  ·obtain ⟨bx, qx, rfl, _⟩ := EXA.out.lay (by omega)
   obtain ⟨od, nd, cd, q1, q2, hi64, zd⟩ := (EXA.out.grown GJ.out).at hjt
   have hqm := getD_memY (L := Lx) (i := j) (by rw [HXM.out]; exact hjt)
   have hbd := HSX.out.2 _ hqm
   have htk := takeY_snoc (Y := Lx) (i := j) (by rw [HXM.out]; exact hjt)
   generalize Lx.getD j noY = u at *
   have hnd : u.d.length = nd := by
    obtain ⟨o', c', he⟩ := zd.form
    cases he
    rfl
   rw [hnd] at hbd
   have HTK := Lib.hid htk
   have HND := Lib.hid hnd
   have gA : Gr wz (wz.alloc (.cells #[.int .i64 u.i, .slice od nd cd] 30)) := Gr.alloc (Gr.refl _) _ _
   have k0 : (wz.alloc (.cells #[.int .i64 u.i, .slice od nd cd] 30)).cell? ⟨wz.heap.size, 0, none⟩ = some (.int .i64 u.i) := by rw [cell_of_row _ _ 0 _ _ _ (heap_alloc_new _ _)]; rfl
   have k1 : (wz.alloc (.cells #[.int .i64 u.i, .slice od nd cd] 30)).cell? ⟨wz.heap.size, 1, none⟩ = some (.slice od nd cd) := by rw [cell_of_row _ _ 1 _ _ _ (heap_alloc_new _ _)]; rfl
   have INA := Lib.hid (IN.out.grown gA)
   have HOL := Lib.hid IN.out.o.own_lt
   have GJA := Lib.hid (Gr.trans GJ.out gA)
   have ZD := Lib.hid (zd.grown gA)
   have HI64 := Lib.hid hi64
   clear gA zd hqm htk hnd IN GJ hi64
   go_upto_region 38 with fail
   generalize wz.alloc (.cells #[.int .i64 u.i, .slice od nd cd] 30) = wB at *
   generalize wz.heap.size = gz at *
   have HSP : Hid (∀ W', Gr wB W' → Calls Tryz.prog 16 #[.slice od nd cd, .int .u8 71] W' fun e w' => ∃ g, e = .returned (.slice (some ⟨g, 0, none⟩) nd (nd + 2)) ∧ W'.heap.size ≤ g ∧ Blk w' g (u.d ++ [71, 71]) ∧ Gr W' w') := Lib.hid (fun W' hW => by
     have h := spare_any _ u.d 71 W' (ZD.out.grown hW) (by rw [HND.out]; omega)
     rw [HND.out] at h
     exact h)
   have HG0 := Lib.hid (Gr.drew (Gr.refl wB))
   go_region_held3 (fun W' => W'.cell? ⟨gz, 0, none⟩ = some (.int .i64 u.i) ∧ W'.cell? ⟨gz, 1, none⟩ = some (.slice od nd cd))
    (first | exact ⟨k80, k81⟩ | exact ⟨cell_gr GR7.out k0, cell_gr GR7.out k1⟩ | exact ⟨cell_gr (Gr.alloc GR7.out _ _) k0, cell_gr (Gr.alloc GR7.out _ _) k1⟩ | go_keep)
    (first
      | (have hx7 := GR7; refine step_append_syK rfl _ _ (by rfl) wA.heap.size (.slice oi j ci) (Lx.take j) (by rfl) (INA.out.grown (Gr.alloc GR7.out _ _)) w7.heap.size (.int .i64 u.i) (.slice (some ⟨g7, 0, none⟩) nd (nd + 2)) u (by rfl) (by rw [cell_of_row _ _ 0 _ _ _ (heap_alloc_new w7 _)]; rfl) (by rw [cell_of_row _ _ 1 _ _ _ (heap_alloc_new w7 _)]; rfl) ⟨rfl, HI64.out, ZD.out.1, by rw [HND.out]; omega, g7, by rw [HND.out], BB.out.grown (Gr.alloc (Gr.refl _) _ _)⟩ (by rw [List.length_take]; have := HSX.out.1; omega) (by have := GJA.out.size; have := GR7.out.size; simp; omega) ?_; intro v8 w8' h8 hg8 hgr8; have L8 := Lib.hid h8; have k80 := hgr8.cell (cell_gr (Gr.alloc GR7.out _ _) k0) (fun e => by have := HOL.out gz e.symm; omega); have k81 := hgr8.cell (cell_gr (Gr.alloc GR7.out _ _) k1) (fun e => by have := HOL.out gz e.symm; omega); have GC8 := Lib.hid (hg8 wA (Gr.trans GJA.out (Gr.alloc GR7.out _ _)) (Nat.le_refl _)); clear h8 hg8 hgr8; obtain ⟨o8, c8, e8⟩ := L8.out.o.form; rw [List.length_append, List.length_take, HXM.out, Nat.min_eq_left hj] at e8; subst e8)
      | (go_at_call 16; refine (HSP.out _ HG0.out).mono ?_; rintro e w7 ⟨g7, rfl, hg7, hb7, hgr7⟩; have BB := Lib.hid hb7; have GR7 := Lib.hid (Gr.trans HG0.out hgr7); clear hg7 hb7 hgr7))
   all_goals
    go_wp2_with fail
    exact ⟨⟨j + 1, by omega, by go_num, by rw [HTK.out]; exact L8.out, GC8.out⟩, by simp [intOf]; omega⟩
  ·obtain rfl : j = mx := by omega
   have htk : Lx.take j = Lx := List.take_of_length_le (by rw [HXM.out]; exact Nat.le_refl _)
   rw [htk] at IN
   have EI := Lib.hid IN.out.o.syms
   have EXJ := Lib.hid (EXA.out.grown GJ.out)
   have c0 := (PR.out.grown GJ.out).cell0
   have c1 := (PR.out.grown GJ.out).cell1
   have c2 := (PR.out.grown GJ.out).cell2
   have HPR := Lib.hid (PR.out.grown GJ.out)
   clear htk
   go_wp2_with fail
   refine (HC.out.block x y z s _ Lx _ HS.out EI.out HSX.out.big.1 HSX.out.big.2).mono ?_
   rintro e wy ⟨ub, xb, ob, rfl, hb, hg, hds⟩
   have IN2 := Lib.hid (IN.out.grown hg)
   have EX2 := Lib.hid (EXJ.out.grown hg)
   have B2 := Lib.hid hb
   have GY := Lib.hid (Gr.trans GJ.out hg)
   have HPR2 := Lib.hid (HPR.out.grown hg)
   have HDS := Lib.hid hds
   obtain ⟨o2, m2, d2, rfl⟩ := Bs.form4 hb
   clear hb hg hds IN EI EXJ HPR c0 c1 c2
   have c0 := HPR2.out.cell0
   have c1 := HPR2.out.cell1
   have c2 := HPR2.out.cell2
   go_wp2_with fail
   refine (refDecode_any x y z s _ Lx _ HS.out EX2.out HSX.out.big.1 HSX.out.big.2).mono ?_
   rintro e wx ⟨ub2, xb2, ob2, rfl, hb2, hg2', hds2⟩
   obtain ⟨rfl, rfl⟩ := DecSays.unique HDS.out hds2
   have IN3 := Lib.hid (IN2.out.grown hg2')
   have EX3 := Lib.hid (EX2.out.grown hg2')
   have B3 := Lib.hid (Bs.grown B2.out hg2')
   have B4 := Lib.hid hb2
   have GX := Lib.hid (Gr.trans GY.out hg2')
   obtain ⟨o4, m4, d4, rfl⟩ := Bs.form4 hb2
   clear hb2 hg2' hds2 IN2 EX2 B2 GY HPR2 HDS c0 c1 c2
   go_wp2_with fail
   refine (same_any _ _ _ _ _ B3.out B4.out).mono ?_
   rw [beq_self_eq_true]
   rintro e wu ⟨rfl, hgu⟩
   have IN4 := Lib.hid (IN3.out.grown hgu)
   have EX4 := Lib.hid (EX3.out.grown hgu)
   have GU := Lib.hid (Gr.trans GX.out hgu)
   clear hgu IN3 EX3 B3 B4 GX
   go_wp2_with fail
   go_loopw [206] (fun kv wx => ∃ k : Nat, k ≤ j ∧ kv = .int .i64 k ∧ Gr wu wx) (fun kv _ => j - (intOf kv).toNat)
   case atStart => exact ⟨0, by omega, rfl, Gr.refl _⟩
   case round =>
    obtain ⟨wk, hwk⟩ : ∃ x, x = wr := ⟨_, rfl⟩
    subst hwk
    obtain ⟨k, hk, rfl, hgk⟩ := hrel
    have GK := Lib.hid hgk
    clear hgk
    by_cases hkl : k < j
    ·rcases IN4.out.o.lies with ⟨_, h, _⟩ | ⟨gi, rfl, hci⟩
     ·omega
     obtain ⟨gd, r1, r2, r3, r4, r5⟩ := (IN4.out.grown GK.out).at hkl
     obtain ⟨bx, qx, rfl, _⟩ := EX4.out.lay (by omega)
     obtain ⟨od, nd, cd, q1, q2, hi64, zd⟩ := (EX4.out.grown GK.out).at hkl
     generalize Lx.getD k noY = u at *
     have hnd : u.d.length = nd := by
      obtain ⟨o', c', he⟩ := zd.form
      cases he
      rfl
     rw [hnd] at r2 r5
     have HKP : Hid (∀ W', Gr wk W' → Calls Tryz.prog 20 #[.slice (some ⟨gd, 0, none⟩) nd (nd + 2), .slice od nd cd, .int .u8 71] W' fun e w' => e = .returned (.bool true) ∧ Gr W' w') := Lib.hid (fun W' hW => by
       have h := kept_true gd u.d (.slice od nd cd) 71 W' (Blk.grown r3 hW) r4 (zd.grown hW) (by rw [hnd]; omega)
       rwa [hnd] at h)
     have hne : (u.i != u.i) = false := by simp
     have HG0 := Lib.hid (Gr.drew (Gr.refl wk))
     clear r3 r4 r5 zd hnd
     go_wp2_with fail
     go_region_held3 (fun W' => W'.cell? ⟨gi, k * 2, none⟩ = some (.int .i64 u.i) ∧ W'.cell? ⟨gi, k * 2 + 1, none⟩ = some (.slice (some ⟨gd, 0, none⟩) nd (nd + 2)) ∧ W'.cell? ⟨bx, qx + k * 2, none⟩ = some (.int .i64 u.i) ∧ W'.cell? ⟨bx, qx + k * 2 + 1, none⟩ = some (.slice od nd cd))
      (first | exact ⟨k10, k11, k12, k13⟩ | go_keep)
      (first
        | (go_at_call 20; refine (HKP.out _ HG0.out).mono ?_; rintro e w7 ⟨rfl, hgr7⟩; have G7 := Lib.hid (Gr.trans HG0.out hgr7); have k10 := cell_gr G7.out r1; have k11 := cell_gr G7.out r2; have k12 := cell_gr G7.out q1; have k13 := cell_gr G7.out q2; clear hgr7))
     all_goals
      go_wp2_with fail
      exact ⟨⟨k + 1, by omega, by go_num, Gr.trans GK.out G7.out⟩, by simp [intOf]; omega⟩
    ·obtain rfl : k = j := by omega
     go_wp2_with fail
     exact HEX.out _ _ _ _ _ _ _ _ _ _ _ _ _ _ _ _ _ _ _ _ _ _ _ _ _ _ _ _ _ _ _ _ _ _ _ _ _ _ _ _ _ _ _ _ _ _ _ _ _ _ _ _ _ _ _ _ _ _ _ _ _ _ _ _ _ _ _ _ _ _ _ _ _ _ _ _ _ _ _ (Gr.trans GU.out GK.out)
end Go.Proofs.YtbbglejdfbkjlaaGreat
