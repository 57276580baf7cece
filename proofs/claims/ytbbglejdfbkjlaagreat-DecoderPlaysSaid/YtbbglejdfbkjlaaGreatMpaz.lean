/-
  Texts laid behind one another: Dz.
-/
import Derived.Test.YtbbglejdfbkjlaaGreatMpay
import Derived.Test.YtbbglejdfbkjlaaGreatMpak
namespace Go.Proofs.YtbbglejdfbkjlaaGreat
open Go.RowKit
theorem new_sy {F F5 : Nat → Prop} {w5 wx w6 : World} {g : Nat} {id : Int} {v : Value} {x : List Int} (hx : wx.heap.size = w5.heap.size) (h64 : I64 id) (hn : New wx w6 v x) (hF : ∀ k, F5 k → k < w5.heap.size) (hg : g < w5.heap.size) : SyVal (fun k => (F k ∨ w5.heap.size ≤ k) ∧ ¬ F5 k ∧ k ≠ g) 0 w6 (.int .i64 id) v ⟨id, x⟩ := by
 refine ⟨rfl, h64, New.bs hn, New.rb hn 0, fun a m c e hmm => ?_⟩
 obtain ⟨_, _, ⟨_, oa', c', e2, _⟩ | ⟨g', c', cur, e2, q, _⟩⟩ := hn
 ·rw [e2] at e
  cases e
  omega
 ·rw [e2] at e
  cases e
  have hq : w5.heap.size ≤ g' := by omega
  exact ⟨.inr hq, fun h => by have := hF g' h; omega, by show g' ≠ g; omega⟩
theorem flat_two (a b : List Int) : [a, b].flatten = a ++ b := by simp
theorem rowsY_snoc (K H S : Int) (seed : Nat) (Y : List Symb) (q : Symb) : rowsY K H S seed (Y ++ [q]) = rowsY K H S seed Y ++ [rowY K H S seed q] := by simp [rowsY]
set_option maxRecDepth 100000 in
set_option maxHeartbeats 6400000 in
theorem dadd_any (d : Value) (F : Nat → Prop) (K H S seed : Nat) (Y : List Symb) (id : Int) (v : Value) (x : List Int) (w : World) (hm : MayP K H S) (hs : seed < 4294967296) (h : DecAt w d F K H S seed Y) (_ : AllY K H S Y) (hl : Y.length ≤ 700) (hi : MayI id) (hb : Bs w v x) (haw : ∀ a m c, v = .slice (some a) m c → 0 < m → ¬ F a.block) (hx : x.length = S) :
  Calls Tryz.prog 25 #[d, .int .i64 id, v] w fun e w' => ∃ F', e = .returned (.bool true) ∧ DecAt w' d F' K H S seed (Y ++ [⟨id, x⟩]) ∧ Kp F w w' ∧ ∀ k, F' k → F k ∨ w.heap.size ≤ k := by
 obtain ⟨g, vt, vl, F1, Y', rfl, h⟩ := h
 have hbn : 1 ≤ K ∧ K ≤ 16 ∧ 1 ≤ H ∧ H ≤ 4 ∧ 1 ≤ S ∧ S ≤ 24 := by unfold MayP at hm; omega
 obtain ⟨hb1, hb2, hb3, hb4, hb5, hb6⟩ := hbn
 have hi64 : I64 id := by unfold MayI at hi; exact ⟨by omega, by omega⟩
 have hsm : decide (SymMay S id x) = true := decide_eq_true ⟨hi, by rw [hx]⟩
 obtain ⟨b3, h3, us3, Ls3, rfl, hsb, hbg, hn64, rfl⟩ := h.told
 have HAT := Lib.hid h
 have HSB := Lib.hid hsb
 have HBG := Lib.hid hbg
 have HN64 := Lib.hid hn64
 have HMD := Lib.hid (decide_eq_true hm)
 have HM := Lib.hid hm
 have HSD := Lib.hid hs
 have HX := Lib.hid hb
 have HXL := Lib.hid hx
 have HI := Lib.hid hi
 have HI64 := Lib.hid hi64
 have HSM := Lib.hid hsm
 have HRL : Hid ((rowP K H S seed id).length = K + H) := Lib.hid (by rw [rowP_in hm hi, onesL_length])
 have HLE : Hid (Y'.length ≤ 700) := Lib.hid (by have := h.le; omega)
 obtain ⟨c0, c1, c2, c3, c4, c5⟩ := h.cells
 have HAW := Lib.hid haw
 obtain ⟨ov, cv, rfl⟩ := hb.form
 obtain ⟨ol, cl, rfl⟩ := h.list.form
 rw [hx] at HX HAW ⊢
 obtain ⟨ny, hny⟩ : ∃ n, Y'.length = n := ⟨_, rfl⟩
 rw [hny] at c5 HAT HLE
 have HNY := Lib.hid hny
 clear hm hs h hl hi hb hx hi64 hsm hsb hbg hn64 haw hny
 go_enter Tryz.func25, Tryz.ntmps25
 go_wp2_with fail
 refine (may_pre K H S _).mono ?_
 rw [HMD.out]
 rintro e w1 ⟨rfl, hg1⟩
 have d0 := cell_gr hg1 c0
 have d1 := cell_gr hg1 c1
 have d2 := cell_gr hg1 c2
 have d3 := cell_gr hg1 c3
 have d4 := cell_gr hg1 c4
 have G1 := Lib.hid hg1
 have X1 := Lib.hid (HX.out.grown hg1)
 clear hg1 c0 c1 c2 c3 c4 c5
 go_wp2_with fail
 refine (dsymbol_any K H S id _ x _ X1.out (by rw [HXL.out]; omega) HI64.out).mono ?_
 rw [HSM.out]
 rintro e w2 ⟨rfl, hg2⟩
 have c0 := cell_gr hg2 d0
 have c1 := cell_gr hg2 d1
 have c2 := cell_gr hg2 d2
 have c3 := cell_gr hg2 d3
 have c4 := cell_gr hg2 d4
 have G2 := Lib.hid (Gr.trans G1.out hg2)
 have X2 := Lib.hid (X1.out.grown hg2)
 have B2 := Lib.hid (HSB.out.grown (Gr.trans G1.out hg2))
 have NG : Hid (¬ Fo b3 h3 us3 g) := Lib.hid HAT.out.inF.2
 clear hg2 d0 d1 d2 d3 d4
 go_wp2_with fail
 go_region_held3 (fun W => W.cell? ⟨g, 0, none⟩ = some (.int .i64 (K : Int)) ∧ W.cell? ⟨g, 1, none⟩ = some (.int .i64 (H : Int)) ∧ W.cell? ⟨g, 2, none⟩ = some (.int .i64 (S : Int)) ∧ W.cell? ⟨g, 3, none⟩ = some (.int .u32 (seed : Int)) ∧ W.cell? ⟨g, 4, none⟩ = some (.pointer (some ⟨b3, 0, none⟩))) (first | exact ⟨z0, z1, z2, z3, z4⟩ | exact ⟨y0, y1, y2, y3, y4⟩ | exact ⟨t0, t1, t2, t3, t4⟩ | go_keep)
  (first
    | (go_at_call 50; have hx := C4; refine (add_span (.pointer none) _ b3 h3 (K + H + S) us3 Ls3 (rowsY K H S seed Y) (rowY K H S seed ⟨id, x⟩) _ (B2.out.grown (by exact G4.out)) HBG.out HN64.out (by exact C4.out) HYL.out).mono ?_; rintro e w5 ⟨t, F5, rfl, hs5, ht5, hk5, hf5⟩; have z0 := hk5.cell (by exact y0) NG.out; have z1 := hk5.cell (by exact y1) NG.out; have z2 := hk5.cell (by exact y2) NG.out; have z3 := hk5.cell (by exact y3) NG.out; have z4 := hk5.cell (by exact y4) NG.out; have T5 := Lib.hid ht5; have S5 := Lib.hid hs5; have K5 : Hid (Kp (Fo b3 h3 us3) w2 w5) := Lib.hid ((G4.out.kp (Fo b3 h3 us3)).trans hk5 fun k e => .inl e); have F5H : Hid (∀ k, F5 k → Fo b3 h3 us3 k ∨ w2.heap.size ≤ k) := Lib.hid (fun k hk => (hf5 k hk).imp (fun e => e) fun e => Nat.le_trans G4.out.size e); clear ht5 hs5 hk5 hf5)
    | (go_at_call 51; have hx := N3; refine (dconcat_any _ [rowP K H S seed id, x] _ (bss_two (heap_alloc_new _ _) ((New.bs N3.out).grown (Gr.alloc (Gr.refl _) _ _)) (X2.out.grown (Gr.trans N3.out.1 (Gr.alloc (Gr.refl _) _ _)))) (by simp) HCL.out).mono ?_; rintro e w4 ⟨v4, rfl, hn4⟩; obtain ⟨o4, m4, c4x, rfl⟩ := New.form3 hn4; have ga : Gr w3 w4 := Gr.trans (Gr.alloc (Gr.refl _) _ _) hn4.1; have y0 := cell_gr ga (by exact t0); have y1 := cell_gr ga (by exact t1); have y2 := cell_gr ga (by exact t2); have y3 := cell_gr ga (by exact t3); have y4 := cell_gr ga (by exact t4); have G4 : Hid (Gr w2 w4) := Lib.hid (Gr.trans N3.out.1 ga); have C4 : Hid (Bs w4 (.slice o4 m4 c4x) (rowY K H S seed ⟨id, x⟩)) := Lib.hid (by have hq := New.bs hn4; rw [flat_two] at hq; exact hq); clear ga hn4)
    | (go_at_call 45; refine (row_lt K H S seed id _ HSD.out).mono ?_; rintro e w3 ⟨v3, rfl, hn3⟩; obtain ⟨o3, m3, c3x, rfl⟩ := New.form3 hn3; have G3 : Hid (Gr w2 w3) := Lib.hid (by exact hn3.1); have t0 := cell_gr G3.out c0; have t1 := cell_gr G3.out c1; have t2 := cell_gr G3.out c2; have t3 := cell_gr G3.out c3; have t4 := cell_gr G3.out c4; have N3 : Hid (New w2 w3 (.slice o3 m3 c3x) (rowP K H S seed id)) := Lib.hid (by exact hn3); have HCL : Hid ([rowP K H S seed id, x].flatten.length ≤ 100000) := Lib.hid (by simp; rw [HRL.out, HXL.out]; omega); have HYL : Hid ((rowY K H S seed ⟨id, x⟩).length = K + H + S) := Lib.hid (by unfold rowY; rw [List.length_append, HRL.out, HXL.out]); clear hn3))
 all_goals
  have h2 := HAT.out.grown G2.out
  have H2 := Lib.hid h2
  have hwz : w.heap.size ≤ w2.heap.size := G2.out.size
  have T5' : Hid (SAt w5 (.pointer none) (.pointer (some ⟨b3, 0, none⟩)) F5 (K + H + S) (rowsY K H S seed (Y ++ [⟨id, x⟩]))) := Lib.hid (by rw [rowsY_snoc]; exact T5.out)
  have HNEW : Hid (∀ k, F5 k → F k ∨ w.heap.size ≤ k) := Lib.hid fun k hk => (F5H.out k hk).imp (HAT.out.sub k) fun e => Nat.le_trans hwz e
  have HK : Hid (Kp F w w5) := Lib.hid ((G2.out.kp F).trans (K5.out.mono HAT.out.sub) fun k e => .inl e)
  cases t with
  | false =>
   have hsp : L.Sp ((rowsY K H S seed Y).map vec) (vec (rowY K H S seed ⟨id, x⟩)) := Classical.byContradiction fun hn => by have := S5.out.2 hn; cases this
   have DD := Lib.hid (h2.same K5.out T5'.out F5H.out hsp)
   clear h2 hsp c0 c1 c2 c3 c4 t0 t1 t2 t3 t4 y0 y1 y2 y3 y4 z0 z1 z2 z3 z4
   go_wp2_with fail
   go_ret
   exact ⟨_, rfl, ⟨g, _, _, _, Y', rfl, DD.out⟩, HK.out, fun k hk => hk.elim .inl (HNEW.out k)⟩
  | true =>
   have b5 := K5.out.block h2.blk NG.out
   have c5 : w5.cell? ⟨g, 5, none⟩ = some (.slice ol ny cl) := by rw [cell_of_row _ _ _ _ _ _ b5]; rfl
   have f5 : w5.frozen? ⟨g, 5, none⟩ = false := frozen_of_row _ _ _ _ _ b5
   have L5 : Hid (SymsO (fun k => F k ∧ ¬ Fo b3 h3 us3 k ∧ k ≠ g) 0 w5 (.slice ol ny cl) Y') := Lib.hid (h2.list.kp K5.out (fun b hb => (h2.own b hb).2.1) fun b hb => hb.2.1)
   have X5 : Hid (Bs w5 (.slice ov S cv) x) := Lib.hid (Bs.kp X2.out K5.out fun a m c e hm' hc' => HAW.out a m c e hm' (HAT.out.sub _ hc'))
   have HXL6 : Hid (x.length ≤ 1000000) := Lib.hid (by rw [HXL.out]; omega)
   have HNO : Hid (∀ k, F k → ¬ Fo b3 h3 us3 k → ¬ F5 k) := Lib.hid fun k k1 k2 k3 => by
    rcases F5H.out k k3 with k4 | k4
    ·exact k2 k4
    ·have := HAT.out.low k k1
     omega
   have B5B := Lib.hid b5
   have HOWN : Hid (∀ b, (Value.slice ol ny cl).ownBlock = some b → b ≠ g) := Lib.hid fun b hb => (h2.own b hb).2.2
   have hG5 : g < w5.heap.size := (Array.getElem?_eq_some_iff.1 b5).1
   have HG5 := Lib.hid hG5
   have HF5 : Hid (∀ k, F5 k → k < w5.heap.size) := Lib.hid T5.out.lt
   clear h2 b5 c0 c1 c2 c3 c4 t0 t1 t2 t3 t4 y0 y1 y2 y3 y4 z0 z1 z2 z3 z4 hG5
   have HNL : Hid (Y'.length ≤ 100000) := Lib.hid (by rw [HNY.out]; have := HLE.out; omega)
   have LW : Hid (SymsO (fun k => (F k ∨ w5.heap.size ≤ k) ∧ ¬ F5 k ∧ k ≠ g) 0 w5 (.slice ol ny cl) Y') := Lib.hid (L5.out.below fun k hk _ => ⟨.inl hk.1, HNO.out k hk.1 hk.2.1, hk.2.2⟩)
   go_wp2_with fail
   go_region_law (first
     | (have gx : Gr w5 (w6.alloc (.cells #[.int .i64 id, .slice o6 m6 c6] 30)) := Gr.trans (gr_drew N6.out.1) (Gr.alloc (Gr.refl _) _ _); have la := LW.out.grown gx; have sx := (new_sy (F := F) rfl HI64.out N6.out HF5.out HG5.out).gr (Gr.alloc (Gr.refl w6) #[.int .i64 id, .slice o6 m6 c6] 30); have k0 : (w6.alloc (.cells #[.int .i64 id, .slice o6 m6 c6] 30)).cell? ⟨w6.heap.size, 0, none⟩ = some (.int .i64 id) := (cell_of_row _ _ 0 _ _ _ (heap_alloc_new w6 _)).trans rfl; have k1 : (w6.alloc (.cells #[.int .i64 id, .slice o6 m6 c6] 30)).cell? ⟨w6.heap.size, 1, none⟩ = some (.slice o6 m6 c6) := (cell_of_row _ _ 1 _ _ _ (heap_alloc_new w6 _)).trans rfl; refine step_append_syL (P := fun k => (F k ∨ w5.heap.size ≤ k) ∧ ¬ F5 k ∧ k ≠ g) rfl (.tmp 49) (.tmp 54) rfl 0 (.slice ol ny cl) Y' (by simp [Act.eval]) la w6.heap.size (.int .i64 id) (.slice o6 m6 c6) ⟨id, x⟩ (by simp [Act.eval]) k0 k1 sx HNL.out (Nat.zero_le _) ?_; intro g7 cap7 w7 hs7 hg7 hgl7; have bA := keptRow gx B5B.out; have b7 := (hg7.block g (Array.getElem?_eq_some_iff.1 bA).1 (fun e => HOWN.out g e.symm rfl)).trans bA; have l7 : w7.cell? ⟨g, 5, none⟩ = some (.slice ol ny cl) := (cell_of_row _ _ 5 _ _ _ b7).trans rfl; have f7 : w7.frozen? ⟨g, 5, none⟩ = false := frozen_of_row _ _ _ _ _ b7; have M7 := Lib.hid (H2.out.more (gL := g7) K5.out T5'.out F5H.out gx hg7 hs7 rfl hgl7); clear bA b7 hs7 hg7 hgl7)
     | ((try go_simp); go_at_call 52; refine (clone_new _ x _ (X5.out.grown (Gr.drew (Gr.refl _))) HXL6.out).mono ?_; rintro e w6 ⟨v6, rfl, hn6⟩; obtain ⟨o6, m6, c6, rfl⟩ := New.form3 hn6; have N6 := Lib.hid hn6; have l5 : w6.cell? ⟨g, 5, none⟩ = some (.slice ol ny cl) := cell_gr hn6.1 (by exact c5); have l6 : (w6.alloc (.cells #[.int .i64 id, .slice o6 m6 c6] 30)).cell? ⟨g, 5, none⟩ = some (.slice ol ny cl) := cell_gr (Gr.alloc (Gr.refl w6) _ _) l5; clear hn6))
   all_goals
    go_wp2_with fail
    go_ret
    refine ⟨_, rfl, ⟨g, _, _, _, _, rfl, M7.out.1⟩, (G2.out.kp F).trans M7.out.2 fun k e => .inl e, fun k hk => ?_⟩
    rcases hk.1 with h1 | h1 | h1
    ·exact .inl h1
    ·exact HNEW.out k h1
    ·exact .inr (Nat.le_trans HK.out.size h1)
set_option maxRecDepth 100000 in
set_option maxHeartbeats 3200000 in
theorem daddNe_any (d : Value) (F : Nat → Prop) (K H S seed : Nat) (Y : List Symb) (id : Int) (v : Value) (x : List Int) (w : World) (hm : MayP K H S) (h : DecAt w d F K H S seed Y) (h64 : I64 id) (hb : Bs w v x) (hx : x.length ≤ 1000) (hno : ¬ (MayI id ∧ x.length = S)) :
  Calls Tryz.prog 25 #[d, .int .i64 id, v] w fun e w' => e = .returned (.bool false) ∧ Gr w w' := by
 obtain ⟨g, vt, vl, F1, Y', rfl, h⟩ := h
 have hsm : decide (SymMay S id x) = false := decide_eq_false fun c => hno ⟨c.1, by have := c.2; omega⟩
 have HMD := Lib.hid (decide_eq_true hm)
 have HX := Lib.hid hb
 have HSM := Lib.hid hsm
 have H64 := Lib.hid h64
 obtain ⟨c0, c1, c2, c3, c4, c5⟩ := h.cells
 obtain ⟨ov, cv, rfl⟩ := hb.form
 have HXL := Lib.hid hx
 obtain ⟨nx, hnx⟩ : ∃ n, x.length = n := ⟨_, rfl⟩
 rw [hnx] at HX ⊢
 clear hm h hb hsm h64 hx hno hnx c3 c4 c5
 go_enter Tryz.func25, Tryz.ntmps25
 go_wp2_with fail
 refine (may_pre K H S _).mono ?_
 rw [HMD.out]
 rintro e w1 ⟨rfl, hg1⟩
 have d0 := cell_gr hg1 c0
 have d1 := cell_gr hg1 c1
 have d2 := cell_gr hg1 c2
 have G1 := Lib.hid hg1
 clear hg1 c0 c1 c2
 go_wp2_with fail
 refine (dsymbol_any K H S id _ x _ (HX.out.grown G1.out) HXL.out H64.out).mono ?_
 rw [HSM.out]
 rintro e w2 ⟨rfl, hg2⟩
 have G2 := Lib.hid (Gr.trans G1.out hg2)
 clear hg2 d0 d1 d2
 go_wp2_with fail
 go_ret
 exact ⟨rfl, G2.out⟩
theorem daddNil_any (id : Int) (v : Value) (x : List Int) (w : World) (hb : Bs w v x) : Calls Tryz.prog 25 #[.pointer none, .int .i64 id, v] w fun e w' => e = .returned (.bool false) ∧ Gr w w' := by
 obtain ⟨ov, cv, rfl⟩ := hb.form
 clear hb
 go_enter Tryz.func25, Tryz.ntmps25
 go_wp2_with fail
 go_ret
 exact ⟨rfl, Gr.refl _⟩
theorem dneedNil_any (w : World) : Calls Tryz.prog 26 #[.pointer none] w fun e w' => e = .returned (.int .i64 0) ∧ Gr w w' := by
 go_enter Tryz.func26, Tryz.ntmps26
 go_wp2_with fail
 go_ret
 exact ⟨rfl, Gr.refl _⟩
theorem dblockNil_any (w : World) : Calls Tryz.prog 29 #[.pointer none] w fun e w' => ∃ u, e = .returned (.tuple #[u, .int .i64 1]) ∧ Bs w' u [] ∧ Gr w w' := by
 go_enter Tryz.func29, Tryz.ntmps29
 go_wp2_with fail
 go_ret2
 exact ⟨_, rfl, Bs.nil _, Gr.refl _⟩
theorem dec_ok : DecOk DecAt where
 ptr := fun h => h.ptr
 lt := fun h => h.lt
 keep := fun h hk hd => h.keep hk hd
 block := fun K H S seed v Y w hs hy hl hdl => dblock_any K H S seed v Y w hs hy hl hdl
 new := fun K H S seed w hs hm => dnew_any K H S seed w hs hm
 newNe := fun K H S seed w _ hm => dnewNe_any K H S seed w hm
 add := fun d F K H S seed Y id v x w hm hs h hA hl hi hb haw hx => dadd_any d F K H S seed Y id v x w hm hs h hA hl hi hb haw hx
 addNe := fun d F K H S seed Y id v x w hm _ h _ _ h64 hb hx hno => (daddNe_any d F K H S seed Y id v x w hm h h64 hb hx hno).mono fun _ _ ⟨h1, hg⟩ => ⟨F, h1, h.keep (hg.kp fun _ => False) (fun _ _ e => e), hg.kp F, fun _ hk => .inl hk⟩
 need := fun d F K H S seed Y w hm hs h hA hl => (dneed_any d F K H S seed Y w hm hs h hA hl).mono fun _ _ ⟨h1, hg⟩ => ⟨F, h1, h.keep (hg.kp fun _ => False) (fun _ _ e => e), hg.kp F, fun _ hk => .inl hk⟩
 blockM := fun d F K H S seed Y w _ hs h hA hl => (dblockM_any d F K H S seed Y w hs h hA hl).mono fun _ _ ⟨u, x, out, h1, hb, hg, hsay⟩ => ⟨F, u, x, out, h1, hb, hsay, h.keep (hg.kp fun _ => False) (fun _ _ e => e), hg.kp F, fun _ hk => .inl hk⟩
 addNil := fun id v x w _ hb _ => daddNil_any id v x w hb
 needNil := fun w => dneedNil_any w
 blockNil := fun w => dblockNil_any w
end Go.Proofs.YtbbglejdfbkjlaaGreat
