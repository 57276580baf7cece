/-
  Texts laid behind one another: Jd Jw Jq Jy.
-/
import Derived.Test.YtbbglejdfbkjlaaGreatMpai
import Derived.Test.YtbbglejdfbkjlaaGreatMpSv
import Derived.Test.YtbbglejdfbkjlaaGreatMpah
namespace Go.Proofs.YtbbglejdfbkjlaaGreat
open Go.RowKit
theorem own_typeY {w : World} {base : Nat} {e t : TypeId} {size n g : Nat} {v : Value} {xs : List Value} {cur : Array Value} (h : w.ownsRow base e size v n xs) (hg : w.heap[g]? = some (.cells cur t (0, 0))) (hne : e ≠ t) : v.ownBlock ≠ some g := by
 intro hv
 obtain ⟨_, ⟨rfl, _⟩ | ⟨g', c, cur', rfl, hb, hgg, _⟩⟩ := h
 ·cases hv
 ·simp [Value.ownBlock] at hv
  subst hv
  rw [hg] at hgg
  simp at hgg
  exact hne hgg.2.symm
theorem own_otherY {W W' : World} {base base' : Nat} {e e' : TypeId} {size size' n n' : Nat} {v v' : Value} {xs xs' : List Value} (h : W.ownsRow base e size v n xs) (h' : W.ownsRow base' e' size' v' n' xs') (hne : e ≠ e') (hg : W.grownBy W' v'.ownBlock) : W'.ownsRow base e size v n xs := by
 refine own_through h hg fun g hv hv' => ?_
 obtain ⟨_, ⟨rfl, _⟩ | ⟨g1, c, cur, rfl, _, hgg, _⟩⟩ := h
 ·cases hv
 ·simp [Value.ownBlock] at hv
  subst hv
  exact own_typeY h' hgg (fun e => hne e.symm) hv'
theorem own_notY {w : World} {base n : Nat} {v : Value} {us : List Value} (h : w.ownsRow base 3 1 v n us) : ∀ g, v.ownBlock = some g → base ≤ g ∧ ∀ cur, w.heap[g]? ≠ some (.cells cur 5 (0, 0)) := by
 intro g hg
 refine ⟨ownsRow_base h g hg, fun cur hc => own_typeY h hc (by decide) hg⟩
theorem Rws.afterZ {base base' n : Nat} {w w' : World} {v v' : Value} {B : List (List Int)} {us : List Value} (h : Rws base w v B) (ho : w.ownsRow base' 3 1 v' n us) (hb : base ≤ base') (hg : w.grownBy w' v'.ownBlock) : Rws base w' v B := by
 have h0 := h
 obtain ⟨us2, ho2, _⟩ := h
 refine h0.through hg ?_ fun g e => ⟨Nat.le_trans hb (own_notY ho g e).1, (own_notY ho g e).2⟩
 cases hv : v.ownBlock with
 | none => exact .inl rfl
 | some g =>
  refine .inr fun e => ?_
  obtain ⟨_, ⟨rfl, _⟩ | ⟨g1, c, cur, rfl, _, hgg, _⟩⟩ := ho2
  ·cases hv
  ·simp [Value.ownBlock] at hv
   subst hv
   exact own_typeY ho hgg (by decide) e.symm
theorem Par.afterOwn {w w' : World} {g base n : Nat} {e : TypeId} {size : Nat} {K H S : Int} {v : Value} {xs : List Value} (h : Par w g K H S) (ho : w.ownsRow base e size v n xs) (hne : e ≠ 23) (hg : w.grownBy w' v.ownBlock) : Par w' g K H S := by
 unfold Par at *
 rw [hg.block g (Array.getElem?_eq_some_iff.1 h).1 (fun c => own_typeY ho h hne c.symm)]
 exact h
theorem zs_one {W : World} {x : Int} (hx : I64 x) : Zs (W.alloc (.cells #[.int .i64 x] 3)) (.slice (some ⟨W.heap.size, 0, none⟩) 1 1) [x] :=
 ⟨fun y hy => by obtain rfl : y = x := by simpa using hy
                 exact hx, some ⟨W.heap.size, 0, none⟩, 1, rfl, by simp, by omega, (fun e => by cases e), fun a ha i hi => by
   cases ha
   obtain rfl : i = 0 := by simpa using hi
   rw [Addr.add_mid, cell_of_row _ _ _ _ _ _ (heap_alloc_new W _)]
   rfl⟩
theorem step_append_rowY {w : World} {ops : Array Oper} {o : Oper} {a : Act} {K : Act → World → Prop} {Q : Exit → Act → World → Prop} {E : Prop} (hgd : o.guard = none) (s x : Operand)
  (ho : o.op = .call { callee := .builtin .append, args := #[s, x], argTypes := #[65, 65] }) (base : Nat) (v : Value) (B : List (List Int)) (hs : a.eval s = v) (hR : Rws base w v B)
  (g : Nat) (u : Value) (l : List Int) (hx : a.eval x = .slice (some ⟨g, 0, none⟩) 1 1) (hc : w.cell? ⟨g, 0, none⟩ = some u) (hb : Bs w u l) (hrb : Rb base w u) (hm : B.length ≤ 100000) (hbase : base ≤ w.heap.size)
  (h : ∀ v' w' us, Rws base w' v' (B ++ [l]) → w.ownsRow base 25 1 v B.length us → w.grownBy w' v.ownBlock → K (a.put o.dst v') w') :
  if Region.wanted o (yielded ops a.tmps) = true then Oper.wp Tryz.prog o a w K Q else E := by
 obtain ⟨i0, hi0, hz0, hz1, hz2⟩ := info_parts info22
 obtain ⟨us, hown, hr⟩ := hR
 obtain ⟨ou, cu, hf⟩ := hb.form
 refine step_append_lies w hgd s x 65 ho base 25 i0 _ 1 24 Tryz.underlying65 hi0 hz0 hz1 hz2 rfl (by omega) v B.length us hs hown ⟨g, 0, none⟩ 1 1 [u] hx rfl (fun j y hj => by
   cases j with
   | zero =>
     obtain rfl : u = y := by simpa using hj
     exact hc
   | succ j => simp at hj) (by intro y hy; obtain rfl : y = u := by simpa using hy
                               rw [hf]; rfl) (by omega) (by unfold maxLen; omega) (by omega) hbase _ rfl ?_
 intro gg cap w' h1 h2 _ _
 exact h _ w' us (Rws.append hown hr hb hrb h1 h2) hown h2
set_option maxRecDepth 100000 in
set_option maxHeartbeats 800000 in
theorem refDecode_ne (K H S : Int) (seed : Nat) (v : Value) (w : World) (hm : ¬ MayP K H S) (hv : ∃ o m c, v = .slice o m c) :
  Calls Tryz.prog 18 #[par K H S, .int .u32 (seed : Int), v] w fun e w' => e = .returned (.tuple #[.slice none 0 0, .int .i64 1]) ∧ Gr w w' := by
 have hd := decide_eq_false hm
 obtain ⟨o, m, c, rfl⟩ := hv
 clear hm
 go_enter Tryz.func18, Tryz.ntmps18
 go_wp2_with fail
 refine (refMay_any K H S _).mono ?_
 rw [hd]
 rintro e w1 ⟨rfl, hg1⟩
 have HG1 := Lib.hid (Gr.trans (Gr.alloc (Gr.refl w) _ _) hg1)
 clear hg1 hd
 go_wp2_with fail
 go_ret2
 exact ⟨rfl, HG1.out⟩
set_option maxRecDepth 100000 in
set_option maxHeartbeats 6400000 in
theorem refDecode_in (K H S : Nat) (seed : Nat) (v : Value) (Y : List Symb) (w : World) (hm : MayP K H S) (hs : seed < 4294967296) (hy : Syms w v Y) (hl : Y.length ≤ 800) (hdl : ∀ q ∈ Y, q.d.length ≤ 1000) :
  Calls Tryz.prog 18 #[par K H S, .int .u32 (seed : Int), v] w fun e w' => ∃ u x out, e = .returned (.tuple #[u, .int .i64 x]) ∧ Bs w' u out ∧ Gr w w' ∧ DecSays K H S seed Y x out := by
 have hd := decide_eq_true hm
 have HM := Lib.hid hm
 have hb : 1 ≤ K ∧ K ≤ 16 ∧ 1 ≤ H ∧ H ≤ 4 ∧ 1 ≤ S ∧ S ≤ 24 := by unfold MayP at hm; omega
 obtain ⟨hb1, hb2, hb3, hb4, hb5, hb6⟩ := hb
 obtain ⟨n, hn⟩ : ∃ n, Y.length = n := ⟨_, rfl⟩
 obtain ⟨oy, cy, rfl⟩ := hy.form
 rw [hn] at hy hl ⊢
 have HY := Lib.hid hy
 have HN := Lib.hid hn
 have HDL := Lib.hid hdl
 have hmk := make22 S S (by omega) (by omega)
 have P0 : Hid (Par (w.alloc (.cells #[.int .i64 (K : Int), .int .i64 (H : Int), .int .i64 (S : Int)] 23)) w.heap.size K H S) := Lib.hid (heap_alloc_new _ _)
 have HG0 : Hid (Gr w (w.alloc (.cells #[.int .i64 (K : Int), .int .i64 (H : Int), .int .i64 (S : Int)] 23))) := Lib.hid (Gr.alloc (Gr.refl _) _ _)
 clear hm hy hn hdl
 go_enter Tryz.func18, Tryz.ntmps18
 go_wp2_with fail
 generalize w.alloc (.cells #[.int .i64 (K : Int), .int .i64 (H : Int), .int .i64 (S : Int)] 23) = W0 at *
 generalize hgp : w.heap.size = gp at *
 refine (refMay_any K H S _).mono ?_
 rw [hd]
 rintro e w1 ⟨rfl, hg1⟩
 have HP := Lib.hid (P0.out.grown hg1)
 have HG := Lib.hid (Gr.trans HG0.out hg1)
 have HBW : Hid (gp ≤ w1.heap.size) := Lib.hid (by rw [← hgp]; exact HG.out.size)
 have HBS : Hid (w.heap.size ≤ gp) := Lib.hid (by omega)
 clear hg1 P0 HG0 hd
 go_wp2_with fail
 go_loopw [9, 10] (fun bv iv W => ∃ i : Nat, i ≤ H ∧ iv = .int .i64 i ∧ Rws gp W bv (List.replicate i (List.replicate S 0)) ∧ Par W gp K H S ∧ Gr w W ∧ gp ≤ W.heap.size) (fun _ iv _ => H - (intOf iv).toNat)
 case atStart => exact ⟨0, by omega, rfl, Rws.nil _ _, HP.out, HG.out, HBW.out⟩
 case round =>
  clear HP HG HBW
  obtain ⟨wo, hwo⟩ : ∃ x, x = wr := ⟨_, rfl⟩
  subst hwo
  obtain ⟨i, hi, rfl, hrb, hp, hg, hbw⟩ := hrel
  obtain ⟨ob, mb, cb, rfl⟩ := hrb.form4
  have c0 := hp.cell0
  have c1 := hp.cell1
  have c2 := hp.cell2
  have HRB := Lib.hid hrb
  have HP := Lib.hid hp
  have HG := Lib.hid hg
  have HBW := Lib.hid hbw
  clear hrb hp hg hbw
  by_cases hlt : i < H
  ·have g1 : Gr wo (wo.alloc (.cells (rowB (List.replicate S 0)) 5)) := Gr.alloc (Gr.refl _) _ _
   have NZ : Hid (New wo (wo.alloc (.cells (rowB (List.replicate S 0)) 5)) (.slice (some ⟨wo.heap.size, 0, none⟩) S S) (List.replicate S 0)) := Lib.hid (new_block g1 (Nat.le_refl _) (heap_alloc_new _ _) (by simp) (replicate_byt S) (by omega))
   have G1 := Lib.hid g1
   have CE : Hid (((wo.alloc (.cells (rowB (List.replicate S 0)) 5)).alloc (.cells #[.slice (some ⟨wo.heap.size, 0, none⟩) S S] 25)).cell? ⟨wo.heap.size + 1, 0, none⟩ = some (.slice (some ⟨wo.heap.size, 0, none⟩) S S)) := Lib.hid (by rw [cell_of_row _ _ 0 _ _ _ (heap_alloc2_new _ _ _)]; rfl)
   clear g1
   go_wp2_with (at_builtin; refine wpList_append_rowA rfl _ _ rfl gp (.slice ob mb cb) (List.replicate i (List.replicate S 0)) rfl (HRB.out.grown (Gr.alloc G1.out _ _)) (wo.heap.size + 1) (.slice (some ⟨wo.heap.size, 0, none⟩) S S) (List.replicate S 0) rfl CE.out (Bs.grown (New.bs NZ.out) (Gr.alloc (Gr.refl _) _ _)) (Rb.gr (New.bs NZ.out) (New.rb NZ.out gp) (Gr.alloc (Gr.refl _) _ _)).2 (by simp; omega) (by have := HBW.out; simp; omega) ?_; intro v5 w5 hr5 hg5 hk5 ha5; have R5 := Lib.hid hr5; have G5 := Lib.hid hg5; have K5 := Lib.hid hk5; clear hr5 hg5 hk5 ha5)
   have hgA : Gr wo ((wo.alloc (.cells (rowB (List.replicate S 0)) 5)).alloc (.cells #[.slice (some ⟨wo.heap.size, 0, none⟩) S S] 25)) := Gr.alloc G1.out _ _
   exact ⟨⟨i + 1, by omega, by go_num, by rw [List.replicate_succ']; exact R5.out, K5.out.2 _ _ _ _ (HP.out.grown hgA) (by decide), G5.out w (Gr.trans HG.out hgA) HBS.out, Nat.le_trans HBW.out (Nat.le_trans hgA.size K5.out.1)⟩, by simp [intOf]; omega⟩
  ·obtain rfl : H = i := by omega
   clear hmk
   go_wp2_with fail
   clear c0 c1 c2
   go_loopw [8, 9, 34] (fun dv bv iv W => ∃ j : Nat, j ≤ n ∧ iv = .int .i64 j ∧ W.ownsRow gp 3 1 dv j ((idsY (Y.take j)).map (Value.int .i64)) ∧ Rws gp W bv (rhsY H S (Y.take j)) ∧ AllY K H S (Y.take j) ∧ Par W gp K H S ∧ Gr w W ∧ gp ≤ W.heap.size) (fun _ _ iv _ => n - (intOf iv).toNat)
   case atStart => exact ⟨0, by omega, rfl, World.ownsRow_nil _ _ _ _, by simpa [rhsY] using HRB.out, ⟨HM.out, by simp⟩, HP.out, HG.out, HBW.out⟩
   case round =>
    clear HRB HP HG HBW
    obtain ⟨wo, hwo⟩ : ∃ x, x = wr := ⟨_, rfl⟩
    subst hwo
    obtain ⟨j, hj, rfl, hz, hrb, hall, hp, hg, hbw⟩ := hrel
    obtain ⟨ob, mb, cb, rfl⟩ := hrb.form4
    obtain ⟨oi, ci, rfl⟩ := ownsRow_form hz
    have HZ := Lib.hid hz
    have HRB := Lib.hid hrb
    have HAL := Lib.hid hall
    have HP := Lib.hid hp
    have HG := Lib.hid hg
    have HBW := Lib.hid hbw
    clear hz hrb hall hp hg hbw
    by_cases hlt : j < n
    ·obtain ⟨b0, q0, rfl, _⟩ := HY.out.lay (by omega)
     have hat := HY.out.at hlt
     have hmem : Y.getD j noY ∈ Y := getD_memY (by rw [HN.out]; exact hlt)
     have htk : Y.take (j + 1) = Y.take j ++ [Y.getD j noY] := takeY_snoc (by rw [HN.out]; exact hlt)
     obtain ⟨q, hq⟩ : ∃ q, Y.getD j noY = q := ⟨_, rfl⟩
     rw [hq] at hat hmem htk
     obtain ⟨oz, nz, cz, q1, q2, hi64, hbz⟩ := hat
     have q1 := cell_grown HG.out q1
     have q2 := cell_grown HG.out q2
     have hnz : nz = q.d.length := by
      obtain ⟨o', c', he⟩ := hbz.form
      cases he
      rfl
     have HTK := Lib.hid htk
     have HMQ := Lib.hid hmem
     have HNZ := Lib.hid hnz
     clear hq hmem htk hnz
     have gA : Gr wo (wo.alloc (.cells #[.int .i64 q.i, .slice oz nz cz] 30)) := Gr.alloc (Gr.refl _) _ _
     have k0 : (wo.alloc (.cells #[.int .i64 q.i, .slice oz nz cz] 30)).cell? ⟨wo.heap.size, 0, none⟩ = some (.int .i64 q.i) := by rw [cell_of_row _ _ 0 _ _ _ (heap_alloc_new _ _)]; rfl
     have k1 : (wo.alloc (.cells #[.int .i64 q.i, .slice oz nz cz] 30)).cell? ⟨wo.heap.size, 1, none⟩ = some (.slice oz nz cz) := by rw [cell_of_row _ _ 1 _ _ _ (heap_alloc_new _ _)]; rfl
     have ZA := Lib.hid (HZ.out.of_gr gA)
     have RA := Lib.hid (HRB.out.grown gA)
     have PA := Lib.hid (HP.out.grown gA)
     have GA := Lib.hid (Gr.trans HG.out gA)
     have BA : Hid (gp ≤ (wo.alloc (.cells #[.int .i64 q.i, .slice oz nz cz] 30)).heap.size) := Lib.hid (Nat.le_trans HBW.out gA.size)
     have DW := Lib.hid hbz
     have HOB : Hid (∀ g, (Value.slice ob mb cb).ownBlock = some g → g < wo.heap.size) := Lib.hid fun g e => by
      obtain ⟨us, ho, _⟩ := HRB.out
      exact own_in ho e
     have HOI : Hid (∀ g, (Value.slice oi j ci).ownBlock = some g → g < wo.heap.size) := Lib.hid fun g e => own_in HZ.out e
     have hbd := HDL.out q HMQ.out
     rw [← HNZ.out] at hbd
     clear gA hbz HZ HRB HP HG HBW
     go_upto_region 12 with fail
     generalize wo.alloc (.cells #[.int .i64 q.i, .slice oz nz cz] 30) = wA at *
     generalize wo.heap.size = gz at *
     have c2 := PA.out.cell2
     by_cases hmi : MayI q.i
     ·have hdm := decide_eq_true hmi
      by_cases hnS : nz = S
      ·subst hnS
       have hbn : ((nz : Int) != (nz : Int)) = false := by simp
       go_wp2_with fail
       refine (refMayID_any q.i _).mono ?_
       rw [hdm]
       rintro e w' ⟨rfl, rfl⟩
       go_wp2_with fail
       have HLY : Hid ((rhsY H nz (Y.take j)).length ≤ 1000) := Lib.hid (by rw [rhsY_length, List.length_take]; omega)
       go_region_held3 (fun W => W.cell? ⟨gz, 0, none⟩ = some (.int .i64 q.i) ∧ W.cell? ⟨gz, 1, none⟩ = some (.slice oz nz cz)) (first | exact ⟨k70, k71⟩ | exact ⟨k60, k61⟩ | exact ⟨k50, k51⟩ | go_keep)
        (first
          | (have hx6 := N6; refine step_append_rowY rfl _ _ (by rfl) gp (.slice ob mb cb) (rhsY H nz (Y.take j)) (by rfl) (R5.out.grown (Gr.alloc N6.out.1 _ _)) w6.heap.size (.slice o6 nz c6) q.d (by rfl) (by rw [cell_of_row _ _ 0 _ _ _ (heap_alloc_new w6 _)]; rfl) (Bs.grown (New.bs N6.out) (Gr.alloc (Gr.refl _) _ _)) (Rb.gr (New.bs N6.out) (New.rb N6.out gp) (Gr.alloc (Gr.refl _) _ _)).2 (by have := HLY.out; omega) (by have := N6.out.1.size; have := B5.out; simp; omega) ?_; intro v7 w7 us7 hr7 ho7 hg7; have R7 := Lib.hid hr7; have Z7 := Lib.hid (own_otherY (Z5.out.of_gr (Gr.alloc N6.out.1 _ _)) ho7 (by decide) hg7); have P7 := Lib.hid ((P5.out.grown (Gr.alloc N6.out.1 _ _)).afterOwn ho7 (by decide) hg7); have G7 := Lib.hid (gr_by_own (Gr.trans G5.out (Gr.alloc N6.out.1 _ _)) hg7 ho7 HBS.out); have B7 : Hid (gp ≤ w7.heap.size) := Lib.hid (Nat.le_trans B5.out (Nat.le_trans (Gr.alloc N6.out.1 (#[.slice o6 nz c6]) 25).size hg7.size)); have k70 := hg7.cell (cell_grown (Gr.alloc N6.out.1 _ _) k50) (fun e => by have := HOB.out gz e.symm; omega); have k71 := hg7.cell (cell_grown (Gr.alloc N6.out.1 _ _) k51) (fun e => by have := HOB.out gz e.symm; omega); clear hr7 ho7 hg7)
          | (have hx5 := Z5; refine step_append_bytes rfl _ _ rfl w5.heap.size (.slice none 0 0) 0 [] (by rfl) (World.ownsRow_nil _ _ _ _) oz nz cz q.d (by rfl) (Bs.grown DW.out G5.out) (by omega) (Nat.le_refl _) ?_; intro v6 w6 ho6 hg6; rw [Nat.zero_add, List.nil_append] at ho6; obtain ⟨o6, c6, rfl⟩ := ownsRow_form ho6; have N6 : Hid (New w5 w6 (.slice o6 nz c6) q.d) := Lib.hid (New.of_row (Gr.append (Gr.refl w5) hg6 (fun _ h => by cases h)) DW.out.1 (by rw [← HNZ.out]; exact ho6)); have k60 := cell_grown N6.out.1 k50; have k61 := cell_grown N6.out.1 k51; clear ho6 hg6)
          | (refine step_append_zs rfl _ _ (by rfl) gp (.slice oi j ci) j (idsY (Y.take j)) (by rfl) (ZA.out.of_gr (Gr.alloc (Gr.drew (Gr.refl _)) _ _)) (some ⟨wA.heap.size, 0, none⟩) 1 1 [q.i] (by rfl) (zs_one (W := wA.drew) hi64) (by omega) (by have := BA.out; simp; omega) ?_; intro v5 w5 hz5 hg5; have gE : Gr wA (wA.drew.alloc (.cells #[.int .i64 q.i] 3)) := Gr.alloc (Gr.drew (Gr.refl _)) _ _; have Z5 := Lib.hid hz5; have R5 := Lib.hid ((RA.out.grown gE).afterZ (ZA.out.of_gr gE) (Nat.le_refl _) hg5); have P5 := Lib.hid ((PA.out.grown gE).afterOwn (ZA.out.of_gr gE) (by decide) hg5); have G5 := Lib.hid (gr_by_own (Gr.trans GA.out gE) hg5 (ZA.out.of_gr gE) HBS.out); have B5 : Hid (gp ≤ w5.heap.size) := Lib.hid (Nat.le_trans BA.out (Nat.le_trans gE.size hg5.size)); have k50 := hg5.cell (cell_grown gE k0) (fun e => by have := HOI.out gz e.symm; omega); have k51 := hg5.cell (cell_grown gE k1) (fun e => by have := HOI.out gz e.symm; omega); obtain ⟨oi5, ci5, rfl⟩ := ownsRow_form hz5; clear hz5 hg5 gE))
       obtain ⟨ob7, mb7, cb7, rfl⟩ := R7.out.form4
       go_wp2_with fail
       exact ⟨⟨j + 1, by omega, by go_num, by rw [HTK.out, idsY_snoc]; exact Z7.out, by rw [HTK.out, rhsY_snoc]; exact R7.out, by rw [HTK.out]; exact HAL.out.snoc hmi (by have := HNZ.out; omega), P7.out, G7.out, B7.out⟩, by simp [intOf]; omega⟩
      ·have hbn : ((nz : Int) != (S : Int)) = true := by simp; omega
       have hno : ¬ AllY K H S Y := fun c => hnS (by have := (c.2 q HMQ.out).2; have := HNZ.out; omega)
       go_wp2_with fail
       refine (refMayID_any q.i _).mono ?_
       rw [hdm]
       rintro e w' ⟨rfl, rfl⟩
       go_wp2_with fail
       go_ret2
       exact ⟨_, _, [], rfl, Bs.nil _, GA.out, dec_arg hno⟩
     ·have hdm := decide_eq_false hmi
      have hno : ¬ AllY K H S Y := fun c => hmi (c.2 q HMQ.out).1
      go_wp2_with fail
      refine (refMayID_any q.i _).mono ?_
      rw [hdm]
      rintro e w' ⟨rfl, rfl⟩
      go_wp2_with fail
      go_ret2
      exact ⟨_, _, [], rfl, Bs.nil _, GA.out, dec_arg hno⟩
    ·obtain rfl : j = n := by omega
     have htk : Y.take j = Y := List.take_of_length_le (by rw [HN.out]; exact Nat.le_refl _)
     rw [htk] at HZ HRB HAL
     have c0 := HP.out.cell0
     have c1 := HP.out.cell1
     have c2 := HP.out.cell2
     clear htk
     have hzs : Zs wo (.slice oi j ci) (idsY Y) := owns_zs HZ.out (by rw [idsY_length, HN.out]) fun x hx => may_i64 (idsY_may HAL.out x hx)
     have hby : ∀ q ∈ Y, ∀ z ∈ q.d, Byt z := HY.out.byt
     have HBY := Lib.hid hby
     clear hby
     go_wp2_with fail
     refine (refMatrix_any K H S seed _ (idsY Y) _ hs hzs (by rw [idsY_length, HN.out]; omega)).mono ?_
     rintro e w3 ⟨v3, rfl, hb3, hg3⟩
     have HB3 := Lib.hid hb3
     have HR3 := Lib.hid (HRB.out.grown hg3)
     have HP3 := Lib.hid (HP.out.grown hg3)
     have HG3 := Lib.hid (Gr.trans HG.out hg3)
     clear hb3 hg3 hzs HZ HRB HP HG c0 c1 c2
     go_wp2_with fail
     have hML := matY_length (seed := seed) HAL.out
     have hwA : wd (matP K H S seed (idsY Y)) = K + H := (matP_wide HM.out seed (idsY Y)).wd (by omega)
     refine (refSolve_any _ _ (matP K H S seed (idsY Y)) (rhsY H S Y) _ HB3.out HR3.out.bss (by rw [hML, HN.out]; omega) (by rw [hML, rhsY_length]) (matP_may _ _ _ _ _) ((rhsY_wide (S := S) fun q hq => ⟨by have := (HAL.out.2 q hq).2; omega, HBY.out q hq⟩).may (by omega)) (fun _ => by omega)).mono ?_
     rintro e w8 ⟨v8, n8, M, rfl, hb8, hg8, hsol⟩
     have HP8 := Lib.hid (HP3.out.grown hg8)
     have HG8 := Lib.hid (Gr.trans HG3.out hg8)
     have HB8 := Lib.hid hb8
     obtain ⟨o8, m8, c8, rfl⟩ := hb8.form3
     have hm8 : m8 = M.length := hb8.len3
     have HM8 := Lib.hid hm8
     clear hb8 hg8 hML hwA HP3 HG3 HR3 HB3 hm8
     rcases sol_dec HAL.out HBY.out hsol with ⟨rfl, hmid, hful⟩ | ⟨hne, hds⟩
     ·have HMI := Lib.hid hmid
      have HFU := Lib.hid hful
      have c0 := HP8.out.cell0
      clear hsol hmid hful
      go_wp2_with fail
      have HMM : Hid (M.length = K + H) := Lib.hid HMI.out.len
      go_loopw [15, 16] (fun ov iv W => ∃ i l, i ≤ K ∧ iv = .int .i64 ((i : Nat) : Int) ∧ W.ownsRow w8.heap.size 5 1 ov l (((List.range i).flatMap fun i : Nat => symP K H S seed M (i : Int)).map (Value.int .u8)) ∧ l = i * S ∧ Par W gp K H S ∧ Gr w8 W) (fun _ iv _ => K - (intOf iv).toNat)
      case atStart => exact ⟨0, 0, by omega, rfl, World.ownsRow_nil _ _ _ _, by simp, HP8.out, Gr.refl _⟩
      case round =>
       obtain ⟨wi, hwi⟩ : ∃ x, x = wr := ⟨_, rfl⟩
       subst hwi
       obtain ⟨i, l, hi, rfl, hown, hle, hp, hg⟩ := hrel
       have HPI := Lib.hid hp
       have HGI := Lib.hid hg
       have HOW := Lib.hid hown
       obtain ⟨oo, co, rfl⟩ := ownsRow_form hown
       have hlb : l ≤ 400 := by rw [hle]; exact Nat.le_trans (Nat.mul_le_mul (show i ≤ 16 by omega) hb6) (by omega)
       have HLE := Lib.hid hle
       have c0 := hp.cell0
       have c1 := hp.cell1
       have c2 := hp.cell2
       clear hp hg hown hle
       by_cases hlt : i < K
       ·have hii : MayI (i : Int) := may_of_lt (by omega) (show i < K from hlt)
        obtain ⟨A, hA⟩ : ∃ A, atN (K + H) seed (i : Int).toNat = A := ⟨_, rfl⟩
        have HAT : Hid (atP K H S seed (i : Int) = A) := Lib.hid (by
          rw [← hA]
          unfold atP
          rw [if_pos ⟨HM.out, hii⟩, Int.toNat_natCast, Int.toNat_natCast])
        have HSY : Hid (symP K H S seed M (i : Int) = addL S M A) := Lib.hid (by
          rw [← hA]
          unfold symP
          rw [if_pos hii])
        have HAR : Hid ((∀ x ∈ A, 0 ≤ x ∧ x < (M.length : Int)) ∧ A.length ≤ 64) := Lib.hid (by
          rw [← hA, HMM.out]
          exact ⟨atN_rng _ _ _, by have := (atN_len (show 1 ≤ K + H by omega) (show K + H ≤ 64 by omega) seed (i : Int).toNat).2; omega⟩)
        have HAL2 : Hid ((addL S M A).length = S) := Lib.hid (addL_length HMI.out.wide A HAR.out.1)
        clear hA hii
        go_wp2_with fail
        go_region_held3 (fun W => W.cell? ⟨gp, 0, none⟩ = some (.int .i64 (K : Int)) ∧ W.cell? ⟨gp, 1, none⟩ = some (.int .i64 (H : Int)) ∧ W.cell? ⟨gp, 2, none⟩ = some (.int .i64 (S : Int))) (first | exact ⟨k30, k31, k32⟩ | exact ⟨k20, k21, k22⟩ | exact ⟨k10, k11, k12⟩ | go_keep)
         (first
           | (have hx2 := N2; refine step_append_bytes rfl _ _ rfl w8.heap.size (.slice oo l co) l ((List.range i).flatMap fun i : Nat => symP K H S seed M (i : Int)) (by rfl) (HOW.out.of_gr N2.out.1) o2 S d2 (addL S M A) (by rfl) (New.bs N2.out) (by omega) (by have := HGI.out.size; have := N2.out.1.size; omega) ?_; intro v3 w3 ho3 hg3; have O3 := Lib.hid ho3; have G3 := Lib.hid (gr_by_own (Gr.trans HGI.out N2.out.1) hg3 (HOW.out.of_gr N2.out.1) (Nat.le_refl _)); have P3 := Lib.hid ((HPI.out.grown N2.out.1).afterOwn (HOW.out.of_gr N2.out.1) (by decide) hg3); have k30 := P3.out.cell0; have k31 := P3.out.cell1; have k32 := P3.out.cell2; clear ho3 hg3)
           | (go_at_call 43; refine (refAdd_any K H S _ _ M A _ (HB8.out.grown (Gr.trans HGI.out V1.out)) HMI.out.wide HAR.out.1 HZ1.out (by omega) (by have := HAR.out.2; omega) (by rw [HMM.out]; omega)).mono ?_; rintro e v2 ⟨y2, rfl, hn2⟩; obtain ⟨o2, m2, d2, rfl⟩ := New.form3 hn2; have hm2 : m2 = S := by (obtain ⟨o', c', he⟩ := (New.bs hn2).form; cases he; exact HAL2.out)
              rw [hm2] at hn2 ⊢; clear hm2; have N2 := Lib.hid (New.under V1.out hn2); have k20 := cell_grown hn2.1 (by exact k10); have k21 := cell_grown hn2.1 (by exact k11); have k22 := cell_grown hn2.1 (by exact k12); clear hn2)
           | (go_at_call 44; refine (refAt_any K H S seed i _ hs).mono ?_; rw [HAT.out]; rintro e v1 ⟨y1, rfl, hz1, hg1⟩; obtain ⟨o1, m1, d1, rfl⟩ := hz1.form3; have HZ1 := Lib.hid hz1; have k10 := cell_grown hg1 (by exact c0); have k11 := cell_grown hg1 (by exact c1); have k12 := cell_grown hg1 (by exact c2); have V1 : Hid (Gr wi v1) := Lib.hid (by exact hg1); clear hz1 hg1))
        obtain ⟨oo3, co3, rfl⟩ := ownsRow_form O3.out
        have hst : (List.range (i + 1)).flatMap (fun i : Nat => symP K H S seed M (i : Int)) = (List.range i).flatMap (fun i : Nat => symP K H S seed M (i : Int)) ++ addL S M A := by
         rw [List.range_succ, List.flatMap_append, List.flatMap_singleton, HSY.out]
        have HST := Lib.hid hst
        clear hst c0 c1 c2 k10 k11 k12 k20 k21 k22 k30 k31 k32
        go_wp2_with fail
        exact ⟨⟨i + 1, l + S, by omega, by go_num, by rw [HST.out]; exact O3.out, by rw [HLE.out, Nat.add_mul, Nat.one_mul], P3.out, G3.out⟩, by simp [intOf]; omega⟩
       ·obtain rfl : i = K := by omega
        have hbo : Bs wi (.slice oo l co) (outY i H S seed M) := by
         refine New.bs (New.of_row HGI.out (fun z hz => ?_) ?_)
         ·obtain ⟨x, _, hx⟩ := List.mem_flatMap.1 hz
          exact sym_byt HM.out HMI.out.wide HMI.out.len _ z hx
         ·rw [outY_length HM.out HMI.out.wide HMI.out.len, ← HLE.out]
          exact HOW.out
        go_wp2_with fail
        go_ret2
        refine ⟨_, 0, outY i H S seed M, rfl, hbo, Gr.trans HG8.out HGI.out, .inr (.inr (.inl ⟨HAL.out, HFU.out, rfl, M, ?_⟩))⟩
        rw [Int.toNat_natCast, Int.toNat_natCast, Int.toNat_natCast]
        exact ⟨HMI.out, rfl⟩
     ·have hnb : (n8 != 0) = true := by simp; exact hne
      clear hsol
      go_wp2_with fail
      go_ret2
      exact ⟨_, n8, [], rfl, Bs.nil _, HG8.out, hds⟩
theorem refDecode_any (K H S : Int) (seed : Nat) (v : Value) (Y : List Symb) (w : World) (hs : seed < 4294967296) (hy : Syms w v Y) (hl : Y.length ≤ 800) (hdl : ∀ q ∈ Y, q.d.length ≤ 1000) :
  Calls Tryz.prog 18 #[par K H S, .int .u32 (seed : Int), v] w fun e w' => ∃ u x out, e = .returned (.tuple #[u, .int .i64 x]) ∧ Bs w' u out ∧ Gr w w' ∧ DecSays K H S seed Y x out := by
 by_cases hm : MayP K H S
 ·obtain ⟨k, h, s, rfl, rfl, rfl⟩ := may_nats hm
  exact refDecode_in k h s seed v Y w hm hs hy hl hdl
 ·obtain ⟨o, c, hf⟩ := hy.form
  refine (refDecode_ne K H S seed v w hm ⟨o, _, c, hf⟩).mono ?_
  rintro e w' ⟨rfl, hg⟩
  exact ⟨_, 1, [], rfl, Bs.nil _, hg, dec_arg fun c => hm c.1⟩
end Go.Proofs.YtbbglejdfbkjlaaGreat
namespace Go.Proofs.YtbbglejdfbkjlaaGreat
open Go.RowKit
def startsAt (n : Nat) : Code → Bool
 | .region k _ _ => k == n
 | .seq a _ => startsAt n a
 | _ => false
def atRegion (n : Nat) : Code → Option Code
 | .seq a b => if startsAt n a then some (.seq a b) else match atRegion n a with
  | some c => some c
  | none => atRegion n b
 | .block _ c => atRegion n c
 | .loop c => atRegion n c
 | .cond _ a b => match atRegion n a with
  | some c => some c
  | none => atRegion n b
 | _ => none
end Go.Proofs.YtbbglejdfbkjlaaGreat
namespace Go.Proofs.YtbbglejdfbkjlaaGreat
open Go.RowKit
theorem own_kpY {F : Nat → Prop} {w w' : World} {base : Nat} {e : TypeId} {size n : Nat} {v : Value} {us : List Value} (h : w.ownsRow base e size v n us) (hk : Kp F w w') (hn : ∀ g, v.ownBlock = some g → ¬ F g) : w'.ownsRow base e size v n us := by
 obtain ⟨h0, h1 | ⟨g, c, cur, rfl, hb, hg, h2⟩⟩ := h
 ·exact ⟨h0, .inl h1⟩
 ·exact ⟨h0, .inr ⟨g, c, cur, rfl, hb, hk.block hg (hn g rfl), h2⟩⟩
theorem SyVal.kp {P F : Nat → Prop} {base : Nat} {w w' : World} {uc ud : Value} {q : Symb} (h : SyVal P base w uc ud q) (hk : Kp F w w') (hd : ∀ b, P b → ¬ F b) : SyVal P base w' uc ud q := by
 obtain ⟨h1, h2, ⟨h30, oa, c, rfl, h31, h32, h33, h34⟩, h4, h5⟩ := h
 refine ⟨h1, h2, ⟨h30, oa, c, rfl, h31, h32, h33, fun a ha i hi => hk.cell (h34 a ha i hi) ?_⟩, fun a n c' e hn => ?_, h5⟩
 ·rw [add_blk]
  subst ha
  exact hd _ (h5 a _ _ rfl (by omega))
 ·rcases h4 a n c' e hn with h | ⟨cur, h⟩
  ·exact .inl h
  ·exact .inr ⟨cur, hk.block h (hd _ (h5 a n c' e hn))⟩
theorem SymsO.kp {P F : Nat → Prop} {base : Nat} {w w' : World} {v : Value} {Y : List Symb} (h : SymsO P base w v Y) (hk : Kp F w w') (hn : ∀ g, v.ownBlock = some g → ¬ F g) (hd : ∀ b, P b → ¬ F b) : SymsO P base w' v Y := by
 obtain ⟨us, ho, hr⟩ := h
 exact ⟨us, own_kpY ho hk hn, fun i hi => (hr i hi).kp hk hd⟩
theorem SymsO.at {P : Nat → Prop} {base g n c i : Nat} {w : World} {Y : List Symb} (h : SymsO P base w (.slice (some ⟨g, 0, none⟩) n c) Y) (hi : i < n) : ∃ ud, w.cell? ⟨g, i * 2, none⟩ = some (.int .i64 (Y.getD i noY).i) ∧ w.cell? ⟨g, i * 2 + 1, none⟩ = some ud ∧ SyVal P base w (.int .i64 (Y.getD i noY).i) ud (Y.getD i noY) := by
 obtain ⟨us, ⟨hlen, ⟨he, _⟩ | ⟨g', c', cur, he, h1, h2, h3, h4, h5, h6⟩⟩, hr⟩ := h
 ·cases he
 cases he
 have hcell : ∀ j, j < Y.length * 2 → w.cell? ⟨g, j, none⟩ = some (us.getD j undef) := fun j hj => by
  rw [cell_of_row _ _ _ _ _ _ h2]
  have e : (cur.toList.take (Y.length * 2))[j]? = us[j]? := by rw [h6]
  rw [List.getElem?_take_of_lt hj] at e
  have hus : j < us.length := by omega
  rw [List.getD_eq_getElem?_getD, List.getElem?_eq_getElem hus]
  rw [List.getElem?_eq_getElem hus] at e
  simpa using e
 have hq := hr i hi
 exact ⟨_, by rw [hcell _ (by omega), hq.1], hcell _ (by omega), by rw [← hq.1]; exact hq⟩
theorem Par.kp {F : Nat → Prop} {w w' : World} {g : Nat} {K H S : Int} (h : Par w g K H S) (hk : Kp F w w') (hn : ¬ F g) : Par w' g K H S := hk.block h hn
theorem SyVal.below {P P' : Nat → Prop} {base : Nat} {w : World} {uc ud : Value} {q : Symb} (h : SyVal P base w uc ud q) (hP : ∀ k, P k → k < w.heap.size → P' k) : SyVal P' base w uc ud q :=
 ⟨h.1, h.2.1, h.2.2.1, h.2.2.2.1, fun a n c e hn => hP _ (h.2.2.2.2 a n c e hn) (Bs.block_lt h.2.2.1 e hn)⟩
theorem SymsV.below {P P' : Nat → Prop} {base m : Nat} {w : World} {oa : Option Addr} {L : List Symb} (h : SymsV P base w oa m L) (hP : ∀ k, P k → k < w.heap.size → P' k) : SymsV P' base w oa m L := by
 obtain ⟨h1, h2, us, h3, h4, h5⟩ := h
 exact ⟨h1, h2, us, h3, h4, fun i hi => (h5 i hi).below hP⟩
theorem SyVal.of {P : Nat → Prop} {w : World} {v : Value} {x : Int} {xd : List Int} (hx : I64 x) (h : Bs w v xd) (hP : ∀ k, k < w.heap.size → P k) : SyVal P w.heap.size w (.int .i64 x) v ⟨x, xd⟩ :=
 ⟨rfl, hx, h, Rb.of_lt h, fun _ _ _ e hn => hP _ (Bs.block_lt h e hn)⟩
theorem DecOk.grown {At : World → Value → (Nat → Prop) → Nat → Nat → Nat → Nat → List Symb → Prop} (C : DecOk At) {w w' : World} {y : Value} {F : Nat → Prop} {K H S s : Nat} {M : List Symb} (h : At w y F K H S s M) (hg : Gr w w') : At w' y F K H S s M :=
 C.keep h (hg.kp fun _ => False) fun _ _ e => e
theorem SymsV.take {P : Nat → Prop} {base m : Nat} {w : World} {oa : Option Addr} {L : List Symb} (h : SymsV P base w oa m L) {k : Nat} (hk : k ≤ m) : SymsV P base w oa k (L.take k) := by
 obtain ⟨h1, h2, us, h3, h4, h5⟩ := h
 refine ⟨by rw [List.length_take]; omega, fun e => by have := h2 e; omega, us.take (k * 2), by rw [List.length_take]; omega, fun ad ha j u hj => ?_, fun i hi => ?_⟩
 ·by_cases hjk : j < k * 2
  ·rw [List.getElem?_take_of_lt hjk] at hj
   exact h4 ad ha j u hj
  ·rw [List.getElem?_eq_none (by rw [List.length_take]; omega)] at hj
   cases hj
 ·have e : ∀ j, j < k * 2 → (us.take (k * 2)).getD j undef = us.getD j undef := fun j hj => by
   rw [List.getD_eq_getElem?_getD, List.getD_eq_getElem?_getD, List.getElem?_take_of_lt hj]
  have e2 : (L.take k).getD i noY = L.getD i noY := by
   rw [List.getD_eq_getElem?_getD, List.getD_eq_getElem?_getD, List.getElem?_take_of_lt hi]
  rw [e _ (by omega), e _ (by omega), e2]
  exact h5 i (by omega)
end Go.Proofs.YtbbglejdfbkjlaaGreat
namespace Go.Proofs.YtbbglejdfbkjlaaGreat
open Go.RowKit
theorem litY0 {W : World} {a b : Value} {t : TypeId} {g : Nat} (h : g = W.heap.size) : (W.alloc (.cells #[a, b] t)).cell? ⟨g, 0, none⟩ = some a := by
 subst h
 rw [cell_of_row _ _ 0 _ _ _ (heap_alloc_new W _)]; rfl
theorem litY1 {W : World} {a b : Value} {t : TypeId} {g : Nat} (h : g = W.heap.size) : (W.alloc (.cells #[a, b] t)).cell? ⟨g, 1, none⟩ = some b := by
 subst h
 rw [cell_of_row _ _ 1 _ _ _ (heap_alloc_new W _)]; rfl
theorem litZ {W : World} {a : Value} {t : TypeId} {g : Nat} (h : g = W.heap.size) : (W.alloc (.cells #[a] t)).cell? ⟨g, 0, none⟩ = some a := by
 subst h
 rw [cell_of_row _ _ 0 _ _ _ (heap_alloc_new W _)]; rfl
theorem lit_on {W : World} {x : Value} {a : Addr} (c : Array Value) (t : TypeId) (h : W.cell? a = some x) : (W.alloc (.cells c t)).cell? a = some x := cell_grown (Gr.alloc (Gr.refl _) _ _) h
theorem step_append_syL {P : Nat → Prop} {w : World} {ops : Array Oper} {o : Oper} {a : Act} {K : Act → World → Prop} {Q : Exit → Act → World → Prop} {E : Prop} (hgd : o.guard = none) (s x : Operand)
  (ho : o.op = .call { callee := .builtin .append, args := #[s, x], argTypes := #[27, 27] }) (base : Nat) (v : Value) (L : List Symb) (hs : a.eval s = v) (hR : SymsO P base w v L)
  (g : Nat) (uc ud : Value) (q : Symb) (hx : a.eval x = .slice (some ⟨g, 0, none⟩) 1 1) (hc : w.cell? ⟨g, 0, none⟩ = some uc) (hd : w.cell? ⟨g, 1, none⟩ = some ud) (hq : SyVal P base w uc ud q) (hm : L.length ≤ 100000) (hbase : base ≤ w.heap.size)
  (h : ∀ g' cap w', SymsO P base w' (.slice (some ⟨g', 0, none⟩) (L.length + 1) cap) (L ++ [q]) → w.grownBy w' v.ownBlock → (v.ownBlock = some g' ∨ g' = w.heap.size) → K (a.put o.dst (.slice (some ⟨g', 0, none⟩) (L.length + 1) cap)) w') :
  if Region.wanted o (yielded ops a.tmps) = true then Oper.wp Tryz.prog o a w K Q else E := by
 obtain ⟨i, hi, hzz⟩ := Option.map_eq_some_iff.1 infoY
 simp only [Prod.mk.injEq] at hzz
 obtain ⟨hz0, hz1, hz2⟩ := hzz
 obtain ⟨z, hz, hzs⟩ := Option.map_eq_some_iff.1 hz0
 obtain ⟨us, hown, hr⟩ := hR
 have e1 := hq.1
 obtain ⟨od, cd, e2⟩ := hq.2.2.1.form
 refine step_append_lies w hgd s x 27 ho base 30 i z 2 32 Tryz.underlying27 hi hz hz1 hz2 hzs (by omega) v L.length us hs hown ⟨g, 0, none⟩ 1 1 [uc, ud] hx rfl (fun j u hj => by
   match j, hj with
   | 0, hj =>
     obtain rfl : uc = u := by simpa using hj
     exact hc
   | 1, hj =>
     obtain rfl : ud = u := by simpa using hj
     exact hd
   | j + 2, hj => simp at hj) (fun u hu => by
     simp at hu
     rcases hu with rfl | rfl
     · rw [e1]; rfl
     · rw [e2]; rfl) (by omega) (by unfold maxLen; omega) (by omega) hbase _ rfl ?_
 intro gg cap w' h1 h2 h3 _
 have hlen : us.length = L.length * 2 := hown.1
 refine h gg cap w' ⟨us ++ [uc, ud], by rw [List.length_append]; exact h1, fun k hk => ?_⟩ h2 h3
 rw [List.length_append, List.length_singleton] at hk
 by_cases e : k < L.length
 ·rw [List.getD_eq_getElem?_getD, List.getD_eq_getElem?_getD, List.getD_eq_getElem?_getD, List.getElem?_append_left (by omega), List.getElem?_append_left (by omega), List.getElem?_append_left e, ← List.getD_eq_getElem?_getD, ← List.getD_eq_getElem?_getD, ← List.getD_eq_getElem?_getD]
  exact (hr k e).kept hown h2
 ·obtain rfl : k = L.length := by omega
  have d1 : (us ++ [uc, ud]).getD (L.length * 2) undef = uc := by rw [List.getD_eq_getElem?_getD, List.getElem?_append_right (by omega), hlen, Nat.sub_self]; rfl
  have d2 : (us ++ [uc, ud]).getD (L.length * 2 + 1) undef = ud := by rw [List.getD_eq_getElem?_getD, List.getElem?_append_right (by omega), hlen, Nat.add_sub_cancel_left]; rfl
  have d3 : (L ++ [q]).getD L.length noY = q := by rw [List.getD_eq_getElem?_getD, List.getElem?_append_right (by omega)]; simp
  rw [d1, d2, d3]
  exact hq.kept hown h2
theorem step_append_zL {w : World} {ops : Array Oper} {o : Oper} {a : Act} {K : Act → World → Prop} {Q : Exit → Act → World → Prop} {E : Prop} (hgd : o.guard = none) (s x : Operand)
  (ho : o.op = .call { callee := .builtin .append, args := #[s, x], argTypes := #[26, 26] }) (base : Nat) (v : Value) (n : Nat) (l : List Int) (hs : a.eval s = v) (hown : w.ownsRow base 3 1 v n (l.map (Value.int .i64)))
  (g : Nat) (z : Int) (hx : a.eval x = .slice (some ⟨g, 0, none⟩) 1 1) (hc : w.cell? ⟨g, 0, none⟩ = some (.int .i64 z)) (hm : n ≤ 100000) (hbase : base ≤ w.heap.size)
  (h : ∀ g' cap w', w'.ownsRow base 3 1 (.slice (some ⟨g', 0, none⟩) (n + 1) cap) (n + 1) ((l ++ [z]).map (Value.int .i64)) → w.grownBy w' v.ownBlock → (v.ownBlock = some g' ∨ g' = w.heap.size) → K (a.put o.dst (.slice (some ⟨g', 0, none⟩) (n + 1) cap)) w') :
  if Region.wanted o (yielded ops a.tmps) = true then Oper.wp Tryz.prog o a w K Q else E := by
 obtain ⟨i5, hi0, hz0, hz1, hz2⟩ := info_parts infoZ
 refine step_append_lies w hgd s x 26 ho base 3 i5 _ 1 8 Tryz.underlying26 hi0 hz0 hz1 hz2 rfl (by omega) v n _ hs hown ⟨g, 0, none⟩ 1 1 [.int .i64 z] hx rfl (fun j y hj => by
   cases j with
   | zero =>
     obtain rfl : Value.int .i64 z = y := by simpa using hj
     exact hc
   | succ j => simp at hj) (by intro y hy; obtain rfl : y = .int .i64 z := by simpa using hy
                               rfl) (by omega) (by unfold maxLen; omega) (by omega) hbase _ rfl ?_
 intro gg cap w' h1 h2 h3 _
 exact h gg cap w' (by rw [List.map_append]; exact h1) h2 h3
def okY (S : Nat) (Y : List Symb) : List Symb := Y.filter fun q => decide (MayI q.i ∧ q.d.length = S)
theorem okY_snoc_in {S : Nat} {Y : List Symb} {i : Nat} (hi : i < Y.length) (h : MayI (Y.getD i noY).i ∧ (Y.getD i noY).d.length = S) : okY S (Y.take (i + 1)) = okY S (Y.take i) ++ [Y.getD i noY] := by
 unfold okY
 rw [takeY_snoc hi, List.filter_append, List.filter_cons_of_pos (by simpa using h), List.filter_nil]
theorem okY_snoc_out {S : Nat} {Y : List Symb} {i : Nat} (hi : i < Y.length) (h : ¬ (MayI (Y.getD i noY).i ∧ (Y.getD i noY).d.length = S)) : okY S (Y.take (i + 1)) = okY S (Y.take i) := by
 unfold okY
 rw [takeY_snoc hi, List.filter_append, List.filter_cons_of_neg (by simpa using h), List.filter_nil, List.append_nil]
theorem okY_length (S : Nat) (Y : List Symb) : (okY S Y).length ≤ Y.length := List.length_filter_le _ _
theorem okY_all {K H S : Nat} (hm : MayP K H S) (Y : List Symb) : AllY K H S (okY S Y) := ⟨hm, fun q hq => by
  have h := (List.mem_filter.1 hq).2
  have h2 := of_decide_eq_true h
  exact ⟨h2.1, by rw [h2.2]⟩⟩
structure Plays (At : World → Value → (Nat → Prop) → Nat → Nat → Nat → Nat → List Symb → Prop) (W : World) (F0 : Nat → Prop) (K H S s : Nat) (d av hv : Value) (Y Z V : List Symb) (F : Nat → Prop) (X : World) : Prop where
 kp : Kp F0 W X
 fp : ∀ k, F k → F0 k ∨ W.heap.size ≤ k
 at_ : At X d F K H S s Y
 all : SymsO (fun q => ¬ F0 q ∧ q < W.heap.size) W.heap.size X av Z
 ids : X.ownsRow W.heap.size 3 1 hv V.length ((idsY V).map (Value.int .i64))
 allF : ∀ g, av.ownBlock = some g → ¬ F g
 idsF : ∀ g, hv.ownBlock = some g → ¬ F g
section
variable {At : World → Value → (Nat → Prop) → Nat → Nat → Nat → Nat → List Symb → Prop} {W X X' : World} {F0 F F' : Nat → Prop} {K H S s : Nat} {d av hv : Value} {Y Y' Z V : List Symb}
theorem Plays.gr (C : DecOk At) (h : Plays At W F0 K H S s d av hv Y Z V F X) (hg : Gr X X') : Plays At W F0 K H S s d av hv Y Z V F X' :=
 ⟨h.kp.trans (hg.kp fun _ => False) fun _ e => e.elim, h.fp, C.grown h.at_ hg, h.all.grown hg, h.ids.of_gr hg, h.allF, h.idsF⟩
theorem Plays.call (h : Plays At W F0 K H S s d av hv Y Z V F X) (hk : Kp F X X') (ha : At X' d F' K H S s Y') (hF : ∀ k, F' k → F k ∨ X.heap.size ≤ k) : Plays At W F0 K H S s d av hv Y' Z V F' X' := by
 refine ⟨h.kp.trans hk h.fp, fun k hk' => (hF k hk').elim (h.fp k) fun c => .inr (Nat.le_trans h.kp.size c), ha, h.all.kp hk h.allF (fun b hb c => (h.fp b c).elim hb.1 fun c2 => by have := hb.2; omega), own_kpY h.ids hk h.idsF, fun g hg c => ?_, fun g hg c => ?_⟩
 ·rcases hF g c with c | c
  ·exact h.allF g hg c
  ·have := h.all.own_lt g hg
   omega
 ·rcases hF g c with c | c
  ·exact h.idsF g hg c
  ·have := own_in h.ids hg
   omega
theorem Plays.all' (C : DecOk At) (h : Plays At W F0 K H S s d av hv Y Z V F X) {g : Nat} {n cap : Nat} {Z' : List Symb} (ha : SymsO (fun q => ¬ F0 q ∧ q < W.heap.size) W.heap.size X' (.slice (some ⟨g, 0, none⟩) n cap) Z') (hg : X.grownBy X' av.ownBlock) (hl : av.ownBlock = some g ∨ g = X.heap.size) :
  Plays At W F0 K H S s d (.slice (some ⟨g, 0, none⟩) n cap) hv Y Z' V F X' := by
 obtain ⟨us, ho, _⟩ := h.all
 have hb : ∀ k, av.ownBlock = some k → W.heap.size ≤ k := sy_base ho
 have hk : Kp (fun k => av.ownBlock = some k) X X' := ⟨hg.os, hg.tape, hg.output, hg.size, fun k hk hn => hg.block k hk fun e => hn e.symm⟩
 refine ⟨h.kp.append hg hb, h.fp, C.keep h.at_ hk fun k hf hv => h.allF k hv hf, ha, own_otherY h.ids ho (by decide) hg, fun k e c => ?_, h.idsF⟩
 have e2 : g = k := by simpa [Value.ownBlock] using e
 subst e2
 rcases hl with hl | hl
 ·exact h.allF g hl c
 ·have := C.lt h.at_ g c
  omega
theorem Plays.ids' (C : DecOk At) (h : Plays At W F0 K H S s d av hv Y Z V F X) {g : Nat} {n cap : Nat} {V' : List Symb} (ha : X'.ownsRow W.heap.size 3 1 (.slice (some ⟨g, 0, none⟩) n cap) V'.length ((idsY V').map (Value.int .i64))) (hg : X.grownBy X' hv.ownBlock) (hl : hv.ownBlock = some g ∨ g = X.heap.size) :
  Plays At W F0 K H S s d av (.slice (some ⟨g, 0, none⟩) n cap) Y Z V' F X' := by
 have hb : ∀ k, hv.ownBlock = some k → W.heap.size ≤ k := ownsRow_base h.ids
 have hk : Kp (fun k => hv.ownBlock = some k) X X' := ⟨hg.os, hg.tape, hg.output, hg.size, fun k hk hn => hg.block k hk fun e => hn e.symm⟩
 have hap : ∀ k, av.ownBlock = some k → hv.ownBlock ≠ some k := fun k e => by
  obtain ⟨us, ⟨_, ⟨rfl, _⟩ | ⟨g1, c, cur, rfl, _, hgg, _⟩⟩, _⟩ := h.all
  ·cases e
  ·simp [Value.ownBlock] at e
   subst e
   exact own_typeY h.ids hgg (by decide)
 refine ⟨h.kp.append hg hb, h.fp, C.keep h.at_ hk fun k hf hv => h.idsF k hv hf, h.all.beside hg (fun k e => hap k e) (fun k e => ⟨hb k e, fun cur hc => own_typeY h.ids hc (by decide) e⟩), ha, h.allF, fun k e c => ?_⟩
 have e2 : g = k := by simpa [Value.ownBlock] using e
 subst e2
 rcases hl with hl | hl
 ·exact h.idsF g hl c
 ·have := C.lt h.at_ g c
  omega
end
end Go.Proofs.YtbbglejdfbkjlaaGreat
