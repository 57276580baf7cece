/-
  Texts laid behind one another: Dx Dy Dz.
-/
import Derived.Test.YtbbglejdfbkjlaaGreatMbau
import Derived.Test.YtbbglejdfbkjlaaGreatMbaf
import Derived.Test.YtbbglejdfbkjlaaGreatMbag
namespace Go.Proofs.YtbbglejdfbkjlaaGreat
open Go.RowKit
set_option maxRecDepth 100000 in
set_option maxHeartbeats 1600000 in
theorem dnewNe_any (K H S : Int) (seed : Nat) (w : World) (hm : ¬ MayP K H S) :
  Calls Tryz.prog 23 #[par K H S, .int .u32 (seed : Int)] w fun e w' => e = .returned (.pointer none) ∧ Gr w w' := by
 have P0 : Hid (Par (w.alloc (.cells #[.int .i64 K, .int .i64 H, .int .i64 S] 23)) w.heap.size K H S) := Lib.hid (heap_alloc_new _ _)
 have HG0 : Hid (Gr w (w.alloc (.cells #[.int .i64 K, .int .i64 H, .int .i64 S] 23))) := Lib.hid (Gr.alloc (Gr.refl _) _ _)
 go_enter Tryz.func23, Tryz.ntmps23
 go_upto_region 1 with fail
 generalize w.alloc (.cells #[.int .i64 K, .int .i64 H, .int .i64 S] 23) = W0 at *
 generalize w.heap.size = gb at *
 have p0 := P0.out.cell0
 have p1 := P0.out.cell1
 have p2 := P0.out.cell2
 go_wp2_with fail
 refine (may_pre K H S _).mono ?_
 rw [decide_eq_false hm]
 rintro e w1 ⟨rfl, hg1⟩
 have G1 := Lib.hid (Gr.trans HG0.out hg1)
 clear hg1 p0 p1 p2
 go_wp2_with fail
 go_ret
 exact ⟨rfl, G1.out⟩
set_option maxRecDepth 100000 in
set_option maxHeartbeats 1600000 in
theorem dnew_any (K H S : Nat) (seed : Nat) (w : World) (_ : seed < 4294967296) (hm : MayP K H S) :
  Calls Tryz.prog 23 #[par K H S, .int .u32 (seed : Int)] w fun e w' => ∃ d F, e = .returned d ∧ DecAt w' d F K H S seed [] ∧ Gr w w' ∧ ∀ k, F k → w.heap.size ≤ k := by
 have hb : 1 ≤ K ∧ K ≤ 16 ∧ 1 ≤ H ∧ H ≤ 4 ∧ 1 ≤ S ∧ S ≤ 24 := by unfold MayP at hm; omega
 obtain ⟨hb1, hb2, hb3, hb4, hb5, hb6⟩ := hb
 obtain ⟨n, hn⟩ : ∃ n, K + H = n := ⟨_, rfl⟩
 obtain ⟨p, hp⟩ : ∃ p, n + S = p := ⟨_, rfl⟩
 have hcols : colsP K H S = (n : Int) := by unfold colsP; rw [if_pos hm]; omega
 have hsum : (n : Int) + (S : Int) = (p : Int) := by omega
 have hwp : IntKind.i64.wrap (p : Int) = (p : Int) := by rw [IntKind.wrap_i64]; omega
 have HC := Lib.hid hcols
 have HNP : Hid (K + H + S = p) := Lib.hid (by omega)
 have P0 : Hid (Par (w.alloc (.cells #[.int .i64 (K : Int), .int .i64 (H : Int), .int .i64 (S : Int)] 23)) w.heap.size K H S) := Lib.hid (heap_alloc_new _ _)
 have HG0 : Hid (Gr w (w.alloc (.cells #[.int .i64 (K : Int), .int .i64 (H : Int), .int .i64 (S : Int)] 23))) := Lib.hid (Gr.alloc (Gr.refl _) _ _)
 have hp64 : p ≤ 64 := by omega
 clear hcols hn hp
 go_enter Tryz.func23, Tryz.ntmps23
 go_upto_region 1 with fail
 generalize w.alloc (.cells #[.int .i64 (K : Int), .int .i64 (H : Int), .int .i64 (S : Int)] 23) = W0 at *
 generalize hgb : w.heap.size = gb at *
 have HGB := Lib.hid hgb
 clear hgb
 have p0 := P0.out.cell0
 have p1 := P0.out.cell1
 have p2 := P0.out.cell2
 go_wp2_with fail
 refine (may_pre K H S _).mono ?_
 rw [decide_eq_true hm]
 rintro e w1 ⟨rfl, hg1⟩
 have P1 := Lib.hid (P0.out.grown hg1)
 have G1 := Lib.hid (Gr.trans HG0.out hg1)
 have q0 := P1.out.cell0
 have q1 := P1.out.cell1
 have q2 := P1.out.cell2
 clear hg1 p0 p1 p2 P0 HG0 hm
 go_wp2_with fail
 go_region_held3 (fun W => W.cell? ⟨gb, 0, none⟩ = some (.int .i64 (K : Int)) ∧ W.cell? ⟨gb, 1, none⟩ = some (.int .i64 (H : Int)) ∧ W.cell? ⟨gb, 2, none⟩ = some (.int .i64 (S : Int))) (first | exact ⟨y0, y1, y2⟩ | exact ⟨t0, t1, t2⟩ | go_keep)
  (first
    | (go_at_call 47; have hx := G2; refine (new_span (.pointer none) p _ (.inl rfl) hp64).mono ?_; rintro e w3 ⟨b3, h3, rfl, hs3, hg3, hb3, hh3⟩; have y0 := cell_gr hg3 (by exact t0); have y1 := cell_gr hg3 (by exact t1); have y2 := cell_gr hg3 (by exact t2); have S3 := Lib.hid hs3; have G3 : Hid (Gr w1 w3) := Lib.hid (Gr.trans G2.out hg3); have L3 : Hid (w2.heap.size ≤ b3 ∧ w2.heap.size ≤ h3) := Lib.hid ⟨hb3, hh3⟩; clear hs3 hg3 hb3 hh3)
    | (go_at_call 27; refine (cols_pre K H S _).mono ?_; rw [HC.out]; rintro e w2 ⟨rfl, hg2⟩; have t0 := cell_gr hg2 (by exact q0); have t1 := cell_gr hg2 (by exact q1); have t2 := cell_gr hg2 (by exact q2); have G2 : Hid (Gr w1 w2) := Lib.hid (by exact hg2); clear hg2))
 all_goals
  have AT : ∀ W, Gr w3 W → W.heap[w3.heap.size]? = some (.cells #[.int .i64 (K : Int), .int .i64 (H : Int), .int .i64 (S : Int), .int .u32 (seed : Int), .pointer (some ⟨b3, 0, none⟩), .slice none 0 0] 87 (0, 0)) → DcAt W w3.heap.size (.pointer (some ⟨b3, 0, none⟩)) (.slice none 0 0) (fun k => k = w3.heap.size ∨ Fo b3 h3 (List.replicate p (.slice none 0 0)) k) (Fo b3 h3 (List.replicate p (.slice none 0 0))) K H S seed [] [] := fun W hg hb => by
   have ht3 : SAt w3 (.pointer none) (.pointer (some ⟨b3, 0, none⟩)) (Fo b3 h3 (List.replicate p (.slice none 0 0))) (K + H + S) (rowsY K H S seed []) := by
    rw [HNP.out]
    exact ⟨b3, h3, _, _, rfl, S3.out, Bg.start p, hp64, rfl⟩
   have hlt := ht3.lt
   refine ⟨hb, ht3.keep (hg.kp fun _ => False) (.inl rfl) fun _ _ e => e, SymsO.nil _ _, (fun b h => by simp [Value.ownBlock] at h), ⟨.inl rfl, fun h => by have := hlt _ h; omega⟩, fun k h => .inr h, fun k h => ?_, TellsY.nil, Nat.le_refl _⟩
   have h1 : w3.heap.size < W.heap.size := (Array.getElem?_eq_some_iff.1 hb).1
   rcases h with h | h
   ·omega
   ·have := hlt k h
    omega
  have HAT := Lib.hid AT
  have GN := Lib.hid (Gr.trans G1.out G3.out)
  have HLO : Hid (∀ k, (k = w3.heap.size ∨ Fo b3 h3 (List.replicate p (.slice none 0 0)) k) → w.heap.size ≤ k) := Lib.hid fun k h => by
   have e1 := G1.out.size
   have e2 := GN.out.size
   have e3 := L3.out
   have e4 : w1.heap.size ≤ w2.heap.size := G2.out.size
   rcases h with rfl | rfl | rfl | ⟨u, hu, hk⟩
   ·exact e2
   ·omega
   ·omega
   ·rw [(List.mem_replicate.1 hu).2] at hk
    cases hk
  clear AT
  go_wp2_with fail
  go_ret
  exact ⟨_, _, rfl, ⟨_, _, _, _, _, rfl, HAT.out _ (Gr.alloc (Gr.refl _) _ _) (heap_alloc_new _ _)⟩, Gr.trans GN.out (Gr.alloc (Gr.refl _) _ _), HLO.out⟩
set_option maxRecDepth 100000 in
set_option maxHeartbeats 1600000 in
theorem dneed_any (d : Value) (F : Nat → Prop) (K H S seed : Nat) (Y : List Symb) (w : World) (hm : MayP K H S) (hs : seed < 4294967296) (h : DecAt w d F K H S seed Y) (hA : AllY K H S Y) (hl : Y.length ≤ 700) :
  Calls Tryz.prog 26 #[d] w fun e w' => e = .returned (.int .i64 ((K : Int) + H - (rkL (matP K H S seed (idsY Y)) : Int))) ∧ Gr w w' := by
 obtain ⟨g, vt, vl, F1, Y', rfl, h⟩ := h
 have hb : 1 ≤ K ∧ K ≤ 16 ∧ 1 ≤ H ∧ H ≤ 4 ∧ 1 ≤ S ∧ S ≤ 24 := by unfold MayP at hm; omega
 obtain ⟨hb1, hb2, hb3, hb4, hb5, hb6⟩ := hb
 obtain ⟨n, hn⟩ : ∃ n, K + H = n := ⟨_, rfl⟩
 have hcols : colsP K H S = (n : Int) := by unfold colsP; rw [if_pos hm]; omega
 have hrk := h.tells.rk hA
 obtain ⟨r, hr⟩ : ∃ r, rkL (matP K H S seed (idsY Y)) = r := ⟨_, rfl⟩
 rw [hr] at hrk ⊢
 have hrn : r ≤ n := by
  rw [← hr, ← hn]
  exact L.rk_le_cols (matP_wide hm seed (idsY Y)).supp
 obtain ⟨z, hz⟩ : ∃ z, n - r = z := ⟨_, rfl⟩
 have hz1 : (n : Int) - (r : Int) = (z : Int) := by omega
 have hz2 : IntKind.i64.wrap (z : Int) = (z : Int) := by rw [IntKind.wrap_i64]; omega
 have HZ : Hid ((K : Int) + H - (r : Int) = (z : Int)) := Lib.hid (by omega)
 have HC := Lib.hid hcols
 have HRK := Lib.hid hrk
 have HSD := Lib.hid hs
 have hle := h.le
 obtain ⟨c0, c1, c2, c3, _, c5⟩ := h.cells
 have HY := Lib.hid h.list.syms
 have HYL : Hid (Y'.length ≤ 700 ∧ (idsY Y').length ≤ 900) := Lib.hid ⟨by omega, by unfold idsY; rw [List.length_map]; omega⟩
 obtain ⟨ol, cl, rfl⟩ := h.list.form
 obtain ⟨m, hmm⟩ : ∃ m, Y'.length = m := ⟨_, rfl⟩
 rw [hmm] at HY c5
 clear hcols hrk hm hs hr hz hn hrn h hA hl hle
 go_enter Tryz.func26, Tryz.ntmps26
 go_wp2_with fail
 go_region_held3 (fun W => W.cell? ⟨g, 0, none⟩ = some (.int .i64 (K : Int)) ∧ W.cell? ⟨g, 1, none⟩ = some (.int .i64 (H : Int)) ∧ W.cell? ⟨g, 2, none⟩ = some (.int .i64 (S : Int)) ∧ W.cell? ⟨g, 3, none⟩ = some (.int .u32 (seed : Int)) ∧ W.cell? ⟨g, 5, none⟩ = some (.slice ol m cl)) (first | exact ⟨x0, x1, x2, x3, x5⟩ | exact ⟨y0, y1, y2, y3, y5⟩ | exact ⟨t0, t1, t2, t3, t5⟩ | go_keep)
  (first
    | (go_at_call 28; have hx := Z3; refine (sysRank_any K H S seed _ (idsY Y') _ HSD.out (by exact Z3.out) HYL.out.2).mono ?_; rw [HRK.out]; rintro e w4 ⟨rfl, hg4⟩; have x0 := cell_gr hg4 (by exact y0); have x1 := cell_gr hg4 (by exact y1); have x2 := cell_gr hg4 (by exact y2); have x3 := cell_gr hg4 (by exact y3); have x5 := cell_gr hg4 (by exact y5); have G4 : Hid (Gr w w4) := Lib.hid (Gr.trans G3.out hg4); clear hg4)
    | (go_at_call 36; have hx := G2; refine (dids_any _ Y' _ (HY.out.grown (by exact G2.out)) (by have := HYL.out.1; omega)).mono ?_; rintro e w3 ⟨v3, rfl, hz3, hg3⟩; obtain ⟨o3, m3, c3x, rfl⟩ := hz3.form3; have y0 := cell_gr hg3 (by exact t0); have y1 := cell_gr hg3 (by exact t1); have y2 := cell_gr hg3 (by exact t2); have y3 := cell_gr hg3 (by exact t3); have y5 := cell_gr hg3 (by exact t5); have Z3 := Lib.hid hz3; have G3 : Hid (Gr w w3) := Lib.hid (Gr.trans G2.out hg3); clear hz3 hg3)
    | (go_at_call 27; refine (cols_pre K H S _).mono ?_; rw [HC.out]; rintro e w2 ⟨rfl, hg2⟩; have t0 := cell_gr hg2 (by exact c0); have t1 := cell_gr hg2 (by exact c1); have t2 := cell_gr hg2 (by exact c2); have t3 := cell_gr hg2 (by exact c3); have t5 := cell_gr hg2 (by exact c5); have G2 : Hid (Gr w w2) := Lib.hid (by exact hg2); clear hg2))
 all_goals
  go_wp2_with fail
  go_ret
  rw [HZ.out]
  exact ⟨rfl, G4.out⟩
set_option maxRecDepth 100000 in
set_option maxHeartbeats 1600000 in
theorem dblockM_any (d : Value) (F : Nat → Prop) (K H S seed : Nat) (Y : List Symb) (w : World) (hs : seed < 4294967296) (h : DecAt w d F K H S seed Y) (hA : AllY K H S Y) (hl : Y.length ≤ 700) :
  Calls Tryz.prog 29 #[d] w fun e w' => ∃ u x out, e = .returned (.tuple #[u, .int .i64 x]) ∧ Bs w' u out ∧ Gr w w' ∧ DecSays K H S seed Y x out := by
 obtain ⟨g, vt, vl, F1, Y', rfl, h⟩ := h
 have hm := hA.1
 have hb : 1 ≤ K ∧ K ≤ 16 ∧ 1 ≤ H ∧ H ≤ 4 ∧ 1 ≤ S ∧ S ≤ 24 := by unfold MayP at hm; omega
 have HSAY : Hid (∀ x out, DecSays K H S seed Y' x out → DecSays K H S seed Y x out) := Lib.hid fun _ _ hx => h.tells.says hA hx
 have hA' := h.tells.all hA
 have HDL : Hid (∀ q ∈ Y', q.d.length ≤ 1000) := Lib.hid fun q hq => by have := (hA'.2 q hq).2; omega
 have HSD := Lib.hid hs
 have hle := h.le
 obtain ⟨c0, c1, c2, c3, _, c5⟩ := h.cells
 have HY := Lib.hid h.list.syms
 have HYL : Hid (Y'.length ≤ 700) := Lib.hid (by omega)
 obtain ⟨ol, cl, rfl⟩ := h.list.form
 obtain ⟨m, hmm⟩ : ∃ m, Y'.length = m := ⟨_, rfl⟩
 rw [hmm] at HY c5
 clear hm hb hs h hA hl hle hA'
 go_enter Tryz.func29, Tryz.ntmps29
 go_wp2_with fail
 go_region_held3 (fun W => W.cell? ⟨g, 0, none⟩ = some (.int .i64 (K : Int)) ∧ W.cell? ⟨g, 1, none⟩ = some (.int .i64 (H : Int)) ∧ W.cell? ⟨g, 2, none⟩ = some (.int .i64 (S : Int)) ∧ W.cell? ⟨g, 3, none⟩ = some (.int .u32 (seed : Int)) ∧ W.cell? ⟨g, 5, none⟩ = some (.slice ol m cl)) (first | exact ⟨t0, t1, t2, t3, t5⟩ | go_keep)
  (first
    | (go_at_call 17; refine (dblock_any K H S seed _ Y' _ HSD.out (HY.out.grown (Gr.drew (Gr.refl _))) (by have := HYL.out; omega) HDL.out).mono ?_; rintro e w2 ⟨u, x, out, rfl, hbo, hg2, hsay⟩; obtain ⟨ou, mu, cu, rfl⟩ := hbo.form4; have t0 := cell_gr hg2 (by exact c0); have t1 := cell_gr hg2 (by exact c1); have t2 := cell_gr hg2 (by exact c2); have t3 := cell_gr hg2 (by exact c3); have t5 := cell_gr hg2 (by exact c5); have B2 := Lib.hid hbo; have SY := Lib.hid (HSAY.out _ _ hsay); have G2 : Hid (Gr w w2) := Lib.hid (by exact hg2); clear hbo hg2 hsay))
 all_goals
  go_wp2_with fail
  go_ret2
  exact ⟨_, _, _, rfl, B2.out, G2.out, SY.out⟩
end Go.Proofs.YtbbglejdfbkjlaaGreat
namespace Go.Proofs.YtbbglejdfbkjlaaGreat
open Go.RowKit
theorem SymsO.below {P P' : Nat → Prop} {base : Nat} {w : World} {v : Value} {Y : List Symb} (h : SymsO P base w v Y) (hP : ∀ k, P k → k < w.heap.size → P' k) : SymsO P' base w v Y := by
 obtain ⟨us, ho, hr⟩ := h
 exact ⟨us, ho, fun i hi => (hr i hi).below hP⟩
section
variable {w W : World} {g : Nat} {vt vl : Value} {F F1 F1' : Nat → Prop} {K H S seed : Nat} {Y Y' : List Symb} {q : Symb}
theorem DcAt.same (h : DcAt w g vt vl F F1 K H S seed Y Y') (hk : Kp F1 w W) (ht : SAt W (.pointer none) vt F1' (K + H + S) (rowsY K H S seed (Y ++ [q]))) (hF : ∀ k, F1' k → F1 k ∨ w.heap.size ≤ k) (hsp : L.Sp ((rowsY K H S seed Y).map vec) (vec (rowY K H S seed q))) :
  DcAt W g vt vl (fun k => F k ∨ F1' k) F1' K H S seed (Y ++ [q]) Y' := by
 have hno : ∀ k, F k → ¬ F1 k → ¬ F1' k := fun k h1 h2 h3 => by
  rcases hF k h3 with h4 | h4
  ·exact h2 h4
  ·have := h.low k h1
   omega
 refine ⟨hk.block h.blk h.inF.2, ht, ?_, fun b hb => ?_, ⟨.inl h.inF.1, hno g h.inF.1 h.inF.2⟩, fun k hk1 => .inr hk1, fun k hk1 => ?_, h.tells.skip hsp, by have := h.le; rw [List.length_append]; omega⟩
 ·refine (h.list.kp hk (fun b hb => (h.own b hb).2.1) fun b hb => hb.2.1).below fun k hk1 _ => ⟨.inl hk1.1, hno k hk1.1 hk1.2.1, hk1.2.2⟩
 ·obtain ⟨h1, h2, h3⟩ := h.own b hb
  exact ⟨.inl h1, hno b h1 h2, h3⟩
 ·rcases hk1 with h1 | h1
  ·exact Nat.lt_of_lt_of_le (h.low k h1) hk.size
  ·exact ht.lt k h1
theorem DcAt.more {W6 W7 : World} {vl' : Value} {gL : Nat} (h : DcAt w g vt vl F F1 K H S seed Y Y') (hk : Kp F1 w W) (ht : SAt W (.pointer none) vt F1' (K + H + S) (rowsY K H S seed (Y ++ [q]))) (hF : ∀ k, F1' k → F1 k ∨ w.heap.size ≤ k)
  (h6 : Gr W W6) (h7 : W6.grownBy W7 vl.ownBlock) (hl : SymsO (fun k => (F k ∨ W.heap.size ≤ k) ∧ ¬ F1' k ∧ k ≠ g) 0 W7 vl' (Y' ++ [q])) (hL : vl'.ownBlock = some gL) (hgL : vl.ownBlock = some gL ∨ gL = W6.heap.size) :
  DcAt (W7.setCell ⟨g, 5, none⟩ vl') g vt vl' (fun k => (F k ∨ F1' k ∨ W.heap.size ≤ k) ∧ k < W7.heap.size) F1' K H S seed (Y ++ [q]) (Y' ++ [q]) ∧ Kp F w (W7.setCell ⟨g, 5, none⟩ vl') := by
 have hno : ∀ k, F k → ¬ F1 k → ¬ F1' k := fun k h1 h2 h3 => by
  rcases hF k h3 with h4 | h4
  ·exact h2 h4
  ·have := h.low k h1
   omega
 have h67 : Kp (fun k => vl.ownBlock = some k) W6 W7 := ⟨h7.os, h7.tape, h7.output, h7.size, fun k hk1 hn => h7.block k hk1 fun e => hn e.symm⟩
 have hW7 : Kp (fun k => vl.ownBlock = some k) W W7 := (h6.kp _).trans h67 fun k e => .inl e
 have hset : Kp (fun k => k = g) W7 (W7.setCell ⟨g, 5, none⟩ vl') := Kp.set _ _ _ _
 have hgown : ∀ k, vl.ownBlock = some k → F k ∧ ¬ F1 k ∧ k ≠ g := h.own
 have hblk7 : W7.heap[g]? = some (.cells #[.int .i64 (K : Int), .int .i64 (H : Int), .int .i64 (S : Int), .int .u32 (seed : Int), vt, vl] 87 (0, 0)) := hW7.block (hk.block h.blk h.inF.2) fun e => (hgown g e).2.2 rfl
 have hgsz : (W7.setCell ⟨g, 5, none⟩ vl').heap.size = W7.heap.size := World.size_setCell _ _ _
 have ht7 : SAt (W7.setCell ⟨g, 5, none⟩ vl') (.pointer none) vt F1' (K + H + S) (rowsY K H S seed (Y ++ [q])) := (ht.keep hW7 (.inl rfl) fun k h1 h2 => hno k (hgown k h2).1 (hgown k h2).2.1 h1).keep hset (.inl rfl) fun k h1 h2 => hno g h.inF.1 h.inF.2 (h2 ▸ h1)
 have hown' : (F gL ∨ W.heap.size ≤ gL) ∧ ¬ F1' gL ∧ gL ≠ g := by
  rcases hgL with e | e
  ·obtain ⟨h1, h2, h3⟩ := hgown gL e
   exact ⟨.inl h1, hno gL h1 h2, h3⟩
  ·have h1 := h6.size
   have h2 : g < w.heap.size := h.low g h.inF.1
   have h3 := hk.size
   exact ⟨.inr (by omega), fun h4 => by have := ht.lt gL h4; omega, by omega⟩
 have hgL7 : gL < W7.heap.size := by
  obtain ⟨us, ho, _⟩ := hl
  exact own_low ho hL
 refine ⟨⟨?_, ht7, ?_, fun b hb => ?_, ⟨⟨.inl h.inF.1, ?_⟩, hno g h.inF.1 h.inF.2⟩, fun k hk1 => ⟨.inr (.inl hk1), ?_⟩, fun k hk1 => by rw [hgsz]; exact hk1.2, h.tells.snoc q, by have := h.le; rw [List.length_append, List.length_append]; omega⟩, ?_⟩
 ·rw [heap_setCell_same _ _ _ _ _ _ hblk7]
  rfl
 ·refine (hl.kp hset (fun b hb e => ?_) fun b hb => hb.2.2).below fun k hk1 hk2 => ⟨⟨?_, by rw [← hgsz]; exact hk2⟩, hk1.2⟩
  ·rw [hL] at hb
   cases hb
   exact hown'.2.2 e
  ·rcases hk1.1 with h1 | h1
   ·exact .inl h1
   ·exact .inr (.inr h1)
 ·rw [hL] at hb
  cases hb
  refine ⟨⟨?_, hgL7⟩, hown'.2⟩
  rcases hown'.1 with h1 | h1
  ·exact .inl h1
  ·exact .inr (.inr h1)
 ·have h2 : g < w.heap.size := h.low g h.inF.1
  have h3 := hk.size
  have h4 := hW7.size
  omega
 ·have h1 := ht.lt k hk1
  have h2 := hW7.size
  omega
 ·have k1 : Kp F w W := hk.mono h.sub
  have k2 : Kp F w W7 := k1.trans hW7 fun k e => .inl (hgown k e).1
  exact k2.trans hset fun k e => .inl (by rw [e]; exact h.inF.1)
end
end Go.Proofs.YtbbglejdfbkjlaaGreat
namespace Go.Proofs.YtbbglejdfbkjlaaGreat
open Go.RowKit
theorem new_sy {F F5 : Nat → Prop} {w5 wx w6 : World} {g : Nat} {id : Int} {v : Value} {x : List Int} (hx : wx.heap.size = w5.heap.size) (h64 : I64 id) (hn : New wx w6 v x) (hF : ∀ k, F5 k → k < w5.heap.size) (hg : g < w5.heap.size) : SyVal (fun k => (F k ∨ w5.heap.size ≤ k) ∧ ¬ F5 k ∧ k ≠ g) 0 w6 (.int .i64 id) v ⟨id, x⟩ := by
 refine ⟨rfl, h64, New.bs hn, New.rb hn 0, fun a m c e hmm => ?_⟩
 obtain ⟨_, _, ⟨_, oa', c', e2, _⟩ | ⟨g', c', cur, e2, q, _⟩⟩ := hn
 ·rw [e2] at e
  cases e
  omega
 ·rw [e2] at e
  cases e
  have hq : w5.heap.size ≤ g' := by omega
  exact ⟨.inr hq, fun h => by have := hF g' h; omega, by show g' ≠ g; omega⟩
theorem flat_two (a b : List Int) : [a, b].flatten = a ++ b := by simp
theorem rowsY_snoc (K H S : Int) (seed : Nat) (Y : List Symb) (q : Symb) : rowsY K H S seed (Y ++ [q]) = rowsY K H S seed Y ++ [rowY K H S seed q] := by simp [rowsY]
set_option maxRecDepth 100000 in
set_option maxHeartbeats 6400000 in
theorem dadd_any (d : Value) (F : Nat → Prop) (K H S seed : Nat) (Y : List Symb) (id : Int) (v : Value) (x : List Int) (w : World) (hm : MayP K H S) (hs : seed < 4294967296) (h : DecAt w d F K H S seed Y) (_ : AllY K H S Y) (hl : Y.length ≤ 700) (hi : MayI id) (hb : Bs w v x) (haw : ∀ a m c, v = .slice (some a) m c → 0 < m → ¬ F a.block) (hx : x.length = S) :
  Calls Tryz.prog 25 #[d, .int .i64 id, v] w fun e w' => ∃ F', e = .returned (.bool true) ∧ DecAt w' d F' K H S seed (Y ++ [⟨id, x⟩]) ∧ Kp F w w' ∧ ∀ k, F' k → F k ∨ w.heap.size ≤ k := by
 obtain ⟨g, vt, vl, F1, Y', rfl, h⟩ := h
 have hbn : 1 ≤ K ∧ K ≤ 16 ∧ 1 ≤ H ∧ H ≤ 4 ∧ 1 ≤ S ∧ S ≤ 24 := by unfold MayP at hm; omega
 obtain ⟨hb1, hb2, hb3, hb4, hb5, hb6⟩ := hbn
 have hi64 : I64 id := by unfold MayI at hi; exact ⟨by omega, by omega⟩
 have hsm : decide (SymMay S id x) = true := decide_eq_true ⟨hi, by rw [hx]⟩
 obtain ⟨b3, h3, us3, Ls3, rfl, hsb, hbg, hn64, rfl⟩ := h.told
 have HAT := Lib.hid h
 have HSB := Lib.hid hsb
 have HBG := Lib.hid hbg
 have HN64 := Lib.hid hn64
 have HMD := Lib.hid (decide_eq_true hm)
 have HM := Lib.hid hm
 have HSD := Lib.hid hs
 have HX := Lib.hid hb
 have HXL := Lib.hid hx
 have HI := Lib.hid hi
 have HI64 := Lib.hid hi64
 have HSM := Lib.hid hsm
 have HRL : Hid ((rowP K H S seed id).length = K + H) := Lib.hid (by rw [rowP_in hm hi, onesL_length])
 have HLE : Hid (Y'.length ≤ 700) := Lib.hid (by have := h.le; omega)
 obtain ⟨c0, c1, c2, c3, c4, c5⟩ := h.cells
 have HAW := Lib.hid haw
 obtain ⟨ov, cv, rfl⟩ := hb.form
 obtain ⟨ol, cl, rfl⟩ := h.list.form
 rw [hx] at HX HAW ⊢
 obtain ⟨ny, hny⟩ : ∃ n, Y'.length = n := ⟨_, rfl⟩
 rw [hny] at c5 HAT HLE
 have HNY := Lib.hid hny
 clear hm hs h hl hi hb hx hi64 hsm hsb hbg hn64 haw hny
 go_enter Tryz.func25, Tryz.ntmps25
 go_wp2_with fail
 refine (may_pre K H S _).mono ?_
 rw [HMD.out]
 rintro e w1 ⟨rfl, hg1⟩
 have d0 := cell_gr hg1 c0
 have d1 := cell_gr hg1 c1
 have d2 := cell_gr hg1 c2
 have d3 := cell_gr hg1 c3
 have d4 := cell_gr hg1 c4
 have G1 := Lib.hid hg1
 have X1 := Lib.hid (HX.out.grown hg1)
 clear hg1 c0 c1 c2 c3 c4 c5
 go_wp2_with fail
 refine (dsymbol_any K H S id _ x _ X1.out (by rw [HXL.out]; omega) HI64.out).mono ?_
 rw [HSM.out]
 rintro e w2 ⟨rfl, hg2⟩
 have c0 := cell_gr hg2 d0
 have c1 := cell_gr hg2 d1
 have c2 := cell_gr hg2 d2
 have c3 := cell_gr hg2 d3
 have c4 := cell_gr hg2 d4
 have G2 := Lib.hid (Gr.trans G1.out hg2)
 have X2 := Lib.hid (X1.out.grown hg2)
 have B2 := Lib.hid (HSB.out.grown (Gr.trans G1.out hg2))
 have NG : Hid (¬ Fo b3 h3 us3 g) := Lib.hid HAT.out.inF.2
 clear hg2 d0 d1 d2 d3 d4
 go_wp2_with fail
 go_region_held3 (fun W => W.cell? ⟨g, 0, none⟩ = some (.int .i64 (K : Int)) ∧ W.cell? ⟨g, 1, none⟩ = some (.int .i64 (H : Int)) ∧ W.cell? ⟨g, 2, none⟩ = some (.int .i64 (S : Int)) ∧ W.cell? ⟨g, 3, none⟩ = some (.int .u32 (seed : Int)) ∧ W.cell? ⟨g, 4, none⟩ = some (.pointer (some ⟨b3, 0, none⟩))) (first | exact ⟨z0, z1, z2, z3, z4⟩ | exact ⟨y0, y1, y2, y3, y4⟩ | exact ⟨t0, t1, t2, t3, t4⟩ | go_keep)
  (first
    | (go_at_call 50; have hx := C4; refine (add_span (.pointer none) _ b3 h3 (K + H + S) us3 Ls3 (rowsY K H S seed Y) (rowY K H S seed ⟨id, x⟩) _ (B2.out.grown (by exact G4.out)) HBG.out HN64.out (by exact C4.out) HYL.out).mono ?_; rintro e w5 ⟨t, F5, rfl, hs5, ht5, hk5, hf5⟩; have z0 := hk5.cell (by exact y0) NG.out; have z1 := hk5.cell (by exact y1) NG.out; have z2 := hk5.cell (by exact y2) NG.out; have z3 := hk5.cell (by exact y3) NG.out; have z4 := hk5.cell (by exact y4) NG.out; have T5 := Lib.hid ht5; have S5 := Lib.hid hs5; have K5 : Hid (Kp (Fo b3 h3 us3) w2 w5) := Lib.hid ((G4.out.kp (Fo b3 h3 us3)).trans hk5 fun k e => .inl e); have F5H : Hid (∀ k, F5 k → Fo b3 h3 us3 k ∨ w2.heap.size ≤ k) := Lib.hid (fun k hk => (hf5 k hk).imp (fun e => e) fun e => Nat.le_trans G4.out.size e); clear ht5 hs5 hk5 hf5)
    | (go_at_call 51; have hx := N3; refine (dconcat_any _ [rowP K H S seed id, x] _ (bss_two (heap_alloc_new _ _) ((New.bs N3.out).grown (Gr.alloc (Gr.refl _) _ _)) (X2.out.grown (Gr.trans N3.out.1 (Gr.alloc (Gr.refl _) _ _)))) (by simp) HCL.out).mono ?_; rintro e w4 ⟨v4, rfl, hn4⟩; obtain ⟨o4, m4, c4x, rfl⟩ := New.form3 hn4; have ga : Gr w3 w4 := Gr.trans (Gr.alloc (Gr.refl _) _ _) hn4.1; have y0 := cell_gr ga (by exact t0); have y1 := cell_gr ga (by exact t1); have y2 := cell_gr ga (by exact t2); have y3 := cell_gr ga (by exact t3); have y4 := cell_gr ga (by exact t4); have G4 : Hid (Gr w2 w4) := Lib.hid (Gr.trans N3.out.1 ga); have C4 : Hid (Bs w4 (.slice o4 m4 c4x) (rowY K H S seed ⟨id, x⟩)) := Lib.hid (by have hq := New.bs hn4; rw [flat_two] at hq; exact hq); clear ga hn4)
    | (go_at_call 45; refine (row_lt K H S seed id _ HSD.out).mono ?_; rintro e w3 ⟨v3, rfl, hn3⟩; obtain ⟨o3, m3, c3x, rfl⟩ := New.form3 hn3; have G3 : Hid (Gr w2 w3) := Lib.hid (by exact hn3.1); have t0 := cell_gr G3.out c0; have t1 := cell_gr G3.out c1; have t2 := cell_gr G3.out c2; have t3 := cell_gr G3.out c3; have t4 := cell_gr G3.out c4; have N3 : Hid (New w2 w3 (.slice o3 m3 c3x) (rowP K H S seed id)) := Lib.hid (by exact hn3); have HCL : Hid ([rowP K H S seed id, x].flatten.length ≤ 100000) := Lib.hid (by simp; rw [HRL.out, HXL.out]; omega); have HYL : Hid ((rowY K H S seed ⟨id, x⟩).length = K + H + S) := Lib.hid (by unfold rowY; rw [List.length_append, HRL.out, HXL.out]); clear hn3))
 all_goals
  have h2 := HAT.out.grown G2.out
  have H2 := Lib.hid h2
  have hwz : w.heap.size ≤ w2.heap.size := G2.out.size
  have T5' : Hid (SAt w5 (.pointer none) (.pointer (some ⟨b3, 0, none⟩)) F5 (K + H + S) (rowsY K H S seed (Y ++ [⟨id, x⟩]))) := Lib.hid (by rw [rowsY_snoc]; exact T5.out)
  have HNEW : Hid (∀ k, F5 k → F k ∨ w.heap.size ≤ k) := Lib.hid fun k hk => (F5H.out k hk).imp (HAT.out.sub k) fun e => Nat.le_trans hwz e
  have HK : Hid (Kp F w w5) := Lib.hid ((G2.out.kp F).trans (K5.out.mono HAT.out.sub) fun k e => .inl e)
  cases t with
  | false =>
   have hsp : L.Sp ((rowsY K H S seed Y).map vec) (vec (rowY K H S seed ⟨id, x⟩)) := Classical.byContradiction fun hn => by have := S5.out.2 hn; cases this
   have DD := Lib.hid (h2.same K5.out T5'.out F5H.out hsp)
   clear h2 hsp c0 c1 c2 c3 c4 t0 t1 t2 t3 t4 y0 y1 y2 y3 y4 z0 z1 z2 z3 z4
   go_wp2_with fail
   go_ret
   exact ⟨_, rfl, ⟨g, _, _, _, Y', rfl, DD.out⟩, HK.out, fun k hk => hk.elim .inl (HNEW.out k)⟩
  | true =>
   have b5 := K5.out.block h2.blk NG.out
   have c5 : w5.cell? ⟨g, 5, none⟩ = some (.slice ol ny cl) := by rw [cell_of_row _ _ _ _ _ _ b5]; rfl
   have f5 : w5.frozen? ⟨g, 5, none⟩ = false := frozen_of_row _ _ _ _ _ b5
   have L5 : Hid (SymsO (fun k => F k ∧ ¬ Fo b3 h3 us3 k ∧ k ≠ g) 0 w5 (.slice ol ny cl) Y') := Lib.hid (h2.list.kp K5.out (fun b hb => (h2.own b hb).2.1) fun b hb => hb.2.1)
   have X5 : Hid (Bs w5 (.slice ov S cv) x) := Lib.hid (Bs.kp X2.out K5.out fun a m c e hm' hc' => HAW.out a m c e hm' (HAT.out.sub _ hc'))
   have HXL6 : Hid (x.length ≤ 1000000) := Lib.hid (by rw [HXL.out]; omega)
   have HNO : Hid (∀ k, F k → ¬ Fo b3 h3 us3 k → ¬ F5 k) := Lib.hid fun k k1 k2 k3 => by
    rcases F5H.out k k3 with k4 | k4
    ·exact k2 k4
    ·have := HAT.out.low k k1
     omega
   have B5B := Lib.hid b5
   have HOWN : Hid (∀ b, (Value.slice ol ny cl).ownBlock = some b → b ≠ g) := Lib.hid fun b hb => (h2.own b hb).2.2
   have hG5 : g < w5.heap.size := (Array.getElem?_eq_some_iff.1 b5).1
   have HG5 := Lib.hid hG5
   have HF5 : Hid (∀ k, F5 k → k < w5.heap.size) := Lib.hid T5.out.lt
   clear h2 b5 c0 c1 c2 c3 c4 t0 t1 t2 t3 t4 y0 y1 y2 y3 y4 z0 z1 z2 z3 z4 hG5
   have HNL : Hid (Y'.length ≤ 100000) := Lib.hid (by rw [HNY.out]; have := HLE.out; omega)
   have LW : Hid (SymsO (fun k => (F k ∨ w5.heap.size ≤ k) ∧ ¬ F5 k ∧ k ≠ g) 0 w5 (.slice ol ny cl) Y') := Lib.hid (L5.out.below fun k hk _ => ⟨.inl hk.1, HNO.out k hk.1 hk.2.1, hk.2.2⟩)
   go_wp2_with fail
   go_region_law (first
     | (have gx : Gr w5 (w6.alloc (.cells #[.int .i64 id, .slice o6 m6 c6] 30)) := Gr.trans (gr_drew N6.out.1) (Gr.alloc (Gr.refl _) _ _); have la := LW.out.grown gx; have sx := (new_sy (F := F) rfl HI64.out N6.out HF5.out HG5.out).gr (Gr.alloc (Gr.refl w6) #[.int .i64 id, .slice o6 m6 c6] 30); have k0 : (w6.alloc (.cells #[.int .i64 id, .slice o6 m6 c6] 30)).cell? ⟨w6.heap.size, 0, none⟩ = some (.int .i64 id) := (cell_of_row _ _ 0 _ _ _ (heap_alloc_new w6 _)).trans rfl; have k1 : (w6.alloc (.cells #[.int .i64 id, .slice o6 m6 c6] 30)).cell? ⟨w6.heap.size, 1, none⟩ = some (.slice o6 m6 c6) := (cell_of_row _ _ 1 _ _ _ (heap_alloc_new w6 _)).trans rfl; refine step_append_syL (P := fun k => (F k ∨ w5.heap.size ≤ k) ∧ ¬ F5 k ∧ k ≠ g) rfl (.tmp 49) (.tmp 54) rfl 0 (.slice ol ny cl) Y' (by simp [Act.eval]) la w6.heap.size (.int .i64 id) (.slice o6 m6 c6) ⟨id, x⟩ (by simp [Act.eval]) k0 k1 sx HNL.out (Nat.zero_le _) ?_; intro g7 cap7 w7 hs7 hg7 hgl7; have bA := keptRow gx B5B.out; have b7 := (hg7.block g (Array.getElem?_eq_some_iff.1 bA).1 (fun e => HOWN.out g e.symm rfl)).trans bA; have l7 : w7.cell? ⟨g, 5, none⟩ = some (.slice ol ny cl) := (cell_of_row _ _ 5 _ _ _ b7).trans rfl; have f7 : w7.frozen? ⟨g, 5, none⟩ = false := frozen_of_row _ _ _ _ _ b7; have M7 := Lib.hid (H2.out.more (gL := g7) K5.out T5'.out F5H.out gx hg7 hs7 rfl hgl7); clear bA b7 hs7 hg7 hgl7)
     | ((try go_simp); go_at_call 52; refine (clone_new _ x _ (X5.out.grown (Gr.drew (Gr.refl _))) HXL6.out).mono ?_; rintro e w6 ⟨v6, rfl, hn6⟩; obtain ⟨o6, m6, c6, rfl⟩ := New.form3 hn6; have N6 := Lib.hid hn6; have l5 : w6.cell? ⟨g, 5, none⟩ = some (.slice ol ny cl) := cell_gr hn6.1 (by exact c5); have l6 : (w6.alloc (.cells #[.int .i64 id, .slice o6 m6 c6] 30)).cell? ⟨g, 5, none⟩ = some (.slice ol ny cl) := cell_gr (Gr.alloc (Gr.refl w6) _ _) l5; clear hn6))
   all_goals
    go_wp2_with fail
    go_ret
    refine ⟨_, rfl, ⟨g, _, _, _, _, rfl, M7.out.1⟩, (G2.out.kp F).trans M7.out.2 fun k e => .inl e, fun k hk => ?_⟩
    rcases hk.1 with h1 | h1 | h1
    ·exact .inl h1
    ·exact HNEW.out k h1
    ·exact .inr (Nat.le_trans HK.out.size h1)
set_option maxRecDepth 100000 in
set_option maxHeartbeats 3200000 in
theorem daddNe_any (d : Value) (F : Nat → Prop) (K H S seed : Nat) (Y : List Symb) (id : Int) (v : Value) (x : List Int) (w : World) (hm : MayP K H S) (h : DecAt w d F K H S seed Y) (h64 : I64 id) (hb : Bs w v x) (hx : x.length ≤ 1000) (hno : ¬ (MayI id ∧ x.length = S)) :
  Calls Tryz.prog 25 #[d, .int .i64 id, v] w fun e w' => e = .returned (.bool false) ∧ Gr w w' := by
 obtain ⟨g, vt, vl, F1, Y', rfl, h⟩ := h
 have hsm : decide (SymMay S id x) = false := decide_eq_false fun c => hno ⟨c.1, by have := c.2; omega⟩
 have HMD := Lib.hid (decide_eq_true hm)
 have HX := Lib.hid hb
 have HSM := Lib.hid hsm
 have H64 := Lib.hid h64
 obtain ⟨c0, c1, c2, c3, c4, c5⟩ := h.cells
 obtain ⟨ov, cv, rfl⟩ := hb.form
 have HXL := Lib.hid hx
 obtain ⟨nx, hnx⟩ : ∃ n, x.length = n := ⟨_, rfl⟩
 rw [hnx] at HX ⊢
 clear hm h hb hsm h64 hx hno hnx c3 c4 c5
 go_enter Tryz.func25, Tryz.ntmps25
 go_wp2_with fail
 refine (may_pre K H S _).mono ?_
 rw [HMD.out]
 rintro e w1 ⟨rfl, hg1⟩
 have d0 := cell_gr hg1 c0
 have d1 := cell_gr hg1 c1
 have d2 := cell_gr hg1 c2
 have G1 := Lib.hid hg1
 clear hg1 c0 c1 c2
 go_wp2_with fail
 refine (dsymbol_any K H S id _ x _ (HX.out.grown G1.out) HXL.out H64.out).mono ?_
 rw [HSM.out]
 rintro e w2 ⟨rfl, hg2⟩
 have G2 := Lib.hid (Gr.trans G1.out hg2)
 clear hg2 d0 d1 d2
 go_wp2_with fail
 go_ret
 exact ⟨rfl, G2.out⟩
theorem daddNil_any (id : Int) (v : Value) (x : List Int) (w : World) (hb : Bs w v x) : Calls Tryz.prog 25 #[.pointer none, .int .i64 id, v] w fun e w' => e = .returned (.bool false) ∧ Gr w w' := by
 obtain ⟨ov, cv, rfl⟩ := hb.form
 clear hb
 go_enter Tryz.func25, Tryz.ntmps25
 go_wp2_with fail
 go_ret
 exact ⟨rfl, Gr.refl _⟩
theorem dneedNil_any (w : World) : Calls Tryz.prog 26 #[.pointer none] w fun e w' => e = .returned (.int .i64 0) ∧ Gr w w' := by
 go_enter Tryz.func26, Tryz.ntmps26
 go_wp2_with fail
 go_ret
 exact ⟨rfl, Gr.refl _⟩
theorem dblockNil_any (w : World) : Calls Tryz.prog 29 #[.pointer none] w fun e w' => ∃ u, e = .returned (.tuple #[u, .int .i64 1]) ∧ Bs w' u [] ∧ Gr w w' := by
 go_enter Tryz.func29, Tryz.ntmps29
 go_wp2_with fail
 go_ret2
 exact ⟨_, rfl, Bs.nil _, Gr.refl _⟩
theorem dec_ok : DecOk DecAt where
 ptr := fun h => h.ptr
 lt := fun h => h.lt
 keep := fun h hk hd => h.keep hk hd
 block := fun K H S seed v Y w hs hy hl hdl => dblock_any K H S seed v Y w hs hy hl hdl
 new := fun K H S seed w hs hm => dnew_any K H S seed w hs hm
 newNe := fun K H S seed w _ hm => dnewNe_any K H S seed w hm
 add := fun d F K H S seed Y id v x w hm hs h hA hl hi hb haw hx => dadd_any d F K H S seed Y id v x w hm hs h hA hl hi hb haw hx
 addNe := fun d F K H S seed Y id v x w hm _ h _ _ h64 hb hx hno => (daddNe_any d F K H S seed Y id v x w hm h h64 hb hx hno).mono fun _ _ ⟨h1, hg⟩ => ⟨F, h1, h.keep (hg.kp fun _ => False) (fun _ _ e => e), hg.kp F, fun _ hk => .inl hk⟩
 need := fun d F K H S seed Y w hm hs h hA hl => (dneed_any d F K H S seed Y w hm hs h hA hl).mono fun _ _ ⟨h1, hg⟩ => ⟨F, h1, h.keep (hg.kp fun _ => False) (fun _ _ e => e), hg.kp F, fun _ hk => .inl hk⟩
 blockM := fun d F K H S seed Y w _ hs h hA hl => (dblockM_any d F K H S seed Y w hs h hA hl).mono fun _ _ ⟨u, x, out, h1, hb, hg, hsay⟩ => ⟨F, u, x, out, h1, hb, hsay, h.keep (hg.kp fun _ => False) (fun _ _ e => e), hg.kp F, fun _ hk => .inl hk⟩
 addNil := fun id v x w _ hb _ => daddNil_any id v x w hb
 needNil := fun w => dneedNil_any w
 blockNil := fun w => dblockNil_any w
end Go.Proofs.YtbbglejdfbkjlaaGreat
