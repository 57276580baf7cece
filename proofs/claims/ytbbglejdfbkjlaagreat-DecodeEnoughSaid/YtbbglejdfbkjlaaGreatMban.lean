/-
  Texts laid behind one another: Dj Dk Dl Ie Ua.
-/
import Derived.Test.YtbbglejdfbkjlaaGreatMbam
import Derived.Test.YtbbglejdfbkjlaaGreatMbah
import Derived.Test.YtbbglejdfbkjlaaGreatMbak
import Derived.Laws.CopyOwn
import Derived.Test.YtbbglejdfbkjlaaGreatMbal
namespace Go.Proofs.YtbbglejdfbkjlaaGreat
open Go.RowKit
theorem infoB1 : (Tryz.prog.info? 5).map (·.size) = some 1 := by kernel_rfl
theorem below_kpG {g : Nat} {w w' : World} (h : Below g w w') : Kp (fun k => g ≤ k) w w' := ⟨h.os, h.tape, h.output, h.size, fun k _ hn => h.block k (by omega)⟩
theorem splice_tail (d p : Nat) (l : List Int) (hl : l.length ≤ p) : splice ((List.replicate (d + p) (0 : Int)).map (Value.int .u8)) d (l.map (Value.int .u8)) = (List.replicate d 0 ++ (l ++ List.replicate (p - l.length) 0)).map (Value.int .u8) := by
 unfold splice
 rw [List.map_append, List.map_append, List.map_replicate, List.map_replicate, List.map_replicate, List.take_replicate, List.drop_replicate, List.length_map]
 rw [show min d (d + p) = d by omega, show d + p - (d + l.length) = p - l.length by omega]
theorem tail_cells {w : World} {oa : Option Addr} {c n : Nat} {l : List Int} (hb : Bs w (.slice oa n c) l) (hn : l.length = n) (dp : Option Addr) (g d : Nat) (hdp : dp = some ⟨g, d, none⟩) : 0 < (l.map (Value.int .u8)).length → dp = some ⟨g, d, none⟩ ∧ ∃ ad, oa = some ad ∧ ∀ j v, (l.map (Value.int .u8))[j]? = some v → w.cell? (ad.add j) = some v := fun h => by
 obtain ⟨_, oa', c', he, _, _, h4, h5⟩ := hb
 cases he
 rw [List.length_map] at h
 cases oa with
 | none => have := h4 rfl; omega
 | some ad =>
  refine ⟨hdp, ad, rfl, fun j u hu => ?_⟩
  have hj := (List.getElem?_eq_some_iff.1 hu).1
  rw [List.length_map] at hj
  rw [h5 ad rfl j (by omega)]
  rw [List.getElem?_map, List.getElem?_eq_getElem (by omega), Option.map_some, Option.some.injEq] at hu
  rw [← hu, List.getD_eq_getElem?_getD, List.getElem?_eq_getElem (by omega)]
  rfl
theorem copy_tail {w : World} {ops : Array Oper} {rest : List Oper} {o : Oper} {a : Act} {Q : Exit → Act → World → Prop} (hgd : o.guard = none) (d s : Operand)
  (ho : o.op = .call { callee := .builtin .copy, args := #[d, s], argTypes := #[25, 25] }) (g k p c n cs : Nat) (oa : Option Addr) (hg : Blk w g (List.replicate (k + p) 0)) (hd : a.eval d = .slice (some ⟨g, k, none⟩) p c)
  (l : List Int) (hs : a.eval s = .slice oa n cs) (hb : Bs w (.slice oa n cs) l) (hn : l.length = n) (hp : n ≤ p)
  (h : ∀ w', Blk w' g (List.replicate k 0 ++ (l ++ List.replicate (p - l.length) 0)) → Kp (fun j => g ≤ j) w w' → wpList Tryz.prog ops Q rest (a.put o.dst (goInt n)) w') : wpList Tryz.prog ops Q (o :: rest) a w := by
 refine wpList_copy_splice hgd d s 25 25 ho 5 Tryz.underlying25 infoB1 (some ⟨g, k, none⟩) oa p c n cs hd hs g k ((List.replicate (k + p) 0).map (Value.int .u8)) 5 hg (l.map (Value.int .u8)) (by rw [List.length_map, hn]; exact (Nat.min_eq_left hp).symm) (tail_cells hb hn _ g k rfl) (by rw [List.length_map, List.length_map, List.length_replicate]; omega) (fun v hv => by obtain ⟨x, _, rfl⟩ := List.mem_map.1 hv; rfl) g w (Below.refl _ _) (Nat.le_refl _) ?_
 intro w5 hw5 hb5
 have hw6 := hw5.out
 rw [splice_tail k p l (by omega)] at hw6
 rw [List.length_map, hn]
 exact h w5 hw6 (below_kpG hb5)
theorem step_copy_tail {w : World} {ops : Array Oper} {o : Oper} {a : Act} {K : Act → World → Prop} {Q : Exit → Act → World → Prop} {E : Prop} (hgd : o.guard = none) (d s : Operand)
  (ho : o.op = .call { callee := .builtin .copy, args := #[d, s], argTypes := #[25, 25] }) (g k p c n cs : Nat) (oa : Option Addr) (hg : Blk w g (List.replicate (k + p) 0)) (hd : a.eval d = .slice (some ⟨g, k, none⟩) p c)
  (l : List Int) (hs : a.eval s = .slice oa n cs) (hb : Bs w (.slice oa n cs) l) (hn : l.length = n) (hp : n ≤ p)
  (h : ∀ w', Blk w' g (List.replicate k 0 ++ (l ++ List.replicate (p - l.length) 0)) → Kp (fun j => g ≤ j) w w' → K (a.put o.dst (goInt n)) w') :
  if Region.wanted o (yielded ops a.tmps) = true then Oper.wp Tryz.prog o a w K Q else E := by
 refine step_copy_splice hgd d s 25 25 ho 5 Tryz.underlying25 infoB1 (some ⟨g, k, none⟩) oa p c n cs hd hs g k ((List.replicate (k + p) 0).map (Value.int .u8)) 5 hg (l.map (Value.int .u8)) (by rw [List.length_map, hn]; exact (Nat.min_eq_left hp).symm) (tail_cells hb hn _ g k rfl) (by rw [List.length_map, List.length_map, List.length_replicate]; omega) (fun v hv => by obtain ⟨x, _, rfl⟩ := List.mem_map.1 hv; rfl) g w (Below.refl _ _) (Nat.le_refl _) ?_
 intro w5 hw5 hb5
 have hw6 := hw5.out
 rw [splice_tail k p l (by omega)] at hw6
 rw [List.length_map, hn]
 exact h w5 hw6 (below_kpG hb5)
structure Fms (w0 W : World) (g n m k : Nat) (us : List Value) (b : Nat → Nat) (L : List (List Int)) : Prop where
 row : Rw W g 25 us
 len : us.length = n
 val : ∀ j, j < k → us.getD j undef = .slice (some ⟨b j, 0, none⟩) m m
 blk : ∀ j, j < k → Blk W (b j) (L.getD j []) ∧ (L.getD j []).length = m ∧ ∀ z ∈ L.getD j [], Byt z
 gt : ∀ j, j < k → g < b j
 inj : ∀ i j, i < k → j < k → b i = b j → i = j
 low : w0.heap.size ≤ g
 gr : Gr w0 W
section
variable {w0 W W' : World} {g n m k : Nat} {us : List Value} {b : Nat → Nat} {L : List (List Int)}
theorem Fms.lt (h : Fms w0 W g n m k us b L) {j : Nat} (hj : j < k) : b j < W.heap.size := (Array.getElem?_eq_some_iff.1 (h.blk j hj).1).1
theorem Fms.cell (h : Fms w0 W g n m k us b L) {j : Nat} (hj : j < k) (hk : k ≤ n) : W.cell? ⟨g, j, none⟩ = some (.slice (some ⟨b j, 0, none⟩) m m) := by
 rw [h.row.cell j (by rw [h.len]; omega), h.val j hj]
theorem Fms.more {l : List Int} {W1 W2 : World} (h : Fms w0 W g n m k us b L) (hk : k < n) (h1 : W1 = W.alloc (.cells (rowB (List.replicate m 0)) 5)) (h2 : Kp (fun j => W.heap.size ≤ j) (W1.setCell ⟨g, k, none⟩ (.slice (some ⟨W.heap.size, 0, none⟩) m m)) W2)
  (h3 : Blk W2 W.heap.size l) (hl : l.length = m) (hb : ∀ z ∈ l, Byt z) (hL : L.getD k [] = l) : Fms w0 W2 g n m (k + 1) (us.set k (.slice (some ⟨W.heap.size, 0, none⟩) m m)) (fun j => if j = k then W.heap.size else b j) L := by
 have hgl := h.row.lt
 have g1 : Gr W W1 := by rw [h1]; exact Gr.alloc (Gr.refl _) _ _
 have r1 := (h.row.grown g1).set k (.slice (some ⟨W.heap.size, 0, none⟩) m m)
 refine ⟨r1.kp h2 (by omega), by rw [List.length_set, h.len], fun j hj => ?_, fun j hj => ?_, fun j hj => ?_, fun i j hi hj e => ?_, h.low, ?_⟩
 ·by_cases e : j = k
  ·subst e
   rw [getD_selfV (by rw [h.len]; exact hk), if_pos rfl]
  ·rw [getD_neV (fun c => e c.symm), if_neg e]
   exact h.val j (by omega)
 ·by_cases e : j = k
  ·subst e
   rw [if_pos rfl, hL]
   exact ⟨h3, hl, hb⟩
  ·rw [if_neg e]
   have hj' : j < k := by omega
   have := h.lt hj'
   have := h.gt j hj'
   exact ⟨h2.block ((Kp.set W1 g k _).block (keptRow g1 (h.blk j hj').1) (by omega)) (by omega), (h.blk j hj').2⟩
 ·by_cases e : j = k
  ·show g < (if j = k then W.heap.size else b j)
   rw [if_pos e]
   exact hgl
  ·show g < (if j = k then W.heap.size else b j)
   rw [if_neg e]
   exact h.gt j (by omega)
 ·have e : (if i = k then W.heap.size else b i) = if j = k then W.heap.size else b j := e
  by_cases ei : i = k
  ·by_cases ej : j = k
   ·omega
   ·rw [if_pos ei, if_neg ej] at e
    have := h.lt (j := j) (by omega)
    omega
  ·by_cases ej : j = k
   ·rw [if_neg ei, if_pos ej] at e
    have := h.lt (j := i) (by omega)
    omega
   ·rw [if_neg ei, if_neg ej] at e
    exact h.inj i j (by omega) (by omega) e
 ·have g2 : Gr w0 (W1.setCell ⟨g, k, none⟩ (.slice (some ⟨W.heap.size, 0, none⟩) m m)) := Gr.setCell (h.gr.trans g1) h.low _
  exact h2.gr g2 fun j hj => Nat.le_trans h.gr.size hj
theorem Fms.put (h : Fms w0 W g n m k us b L) {c : Nat} (hc : c < k) (hL : L.length = n) (hk : k ≤ n) (i : Nat) {x : Int} (hx : Byt x) : Fms w0 (W.setCell ⟨b c, i, none⟩ (.int .u8 x)) g n m k us b (L.set c ((L.getD c []).set i x)) := by
 have hkp := Kp.set W (b c) i (.int .u8 x)
 refine ⟨h.row.kp hkp (by have := h.gt c hc; omega), h.len, h.val, fun j hj => ?_, h.gt, h.inj, h.low, Gr.setCell h.gr (Nat.le_trans h.low (Nat.le_of_lt (h.gt c hc))) _⟩
 by_cases e : c = j
 ·subst e
  rw [DC.getD_set_selfL (by omega)]
  refine ⟨(h.blk c hc).1.put i x, by rw [List.length_set]; exact (h.blk c hc).2.1, fun z hz => ?_⟩
  rcases List.mem_or_eq_of_mem_set hz with hz | rfl
  ·exact (h.blk c hc).2.2 z hz
  ·exact hx
 ·rw [DC.getD_set_neL e]
  exact ⟨hkp.block (h.blk j hj).1 fun e' => e (h.inj c j hc hj e'.symm), (h.blk j hj).2⟩
end
end Go.Proofs.YtbbglejdfbkjlaaGreat
namespace Go.Proofs.YtbbglejdfbkjlaaGreat
open Go.RowKit
theorem bgs_length (d S : Nat) (vs : List (List Int)) (late : List Int) : ∀ k, (DC.bgs d S vs late k).length = vs.length
 | 0 => by simp [DC.bgs]
 | k + 1 => by
  show ((DC.bgs d S vs late k).set _ _).length = _
  rw [List.length_set, bgs_length d S vs late k]
set_option maxRecDepth 100000 in
set_option maxHeartbeats 3200000 in
theorem begun_any (K H S n d : Nat) (vv vl : Value) (vs : List (List Int)) (late : List Int) (w : World) (hS : 1 ≤ S) (hS2 : S ≤ 24) (hn : vs.length = n) (hn2 : n ≤ 64) (hd : late.length = d) (hd2 : d ≤ 64)
  (hv : Bss w vv vs) (hvl : ∀ c, (vs.getD c []).length ≤ S) (hl : Zs w vl late) (hlr : ∀ c ∈ late, 0 ≤ c ∧ c < (n : Int)) :
  Calls Tryz.prog 105 #[par K H S, vv, vl] w fun e w' => ∃ g us b, e = .returned (.slice (some ⟨g, 0, none⟩) n n) ∧ Fms w w' g n (d + S) n us b (DC.bgs d S vs late d) := by
 obtain ⟨ov, cv, rfl, v1, v2, v3, v4⟩ := hv
 have HVC := Lib.hid v4
 obtain ⟨ol, cl, rfl⟩ := hl.form
 rw [hn] at HVC v1 ⊢
 rw [hd] at hl ⊢
 obtain ⟨m, hm⟩ : ∃ m, d + S = m := ⟨_, rfl⟩
 have HN := Lib.hid hn
 have HD := Lib.hid hd
 have HVL := Lib.hid hvl
 have HL := Lib.hid hl
 have HLR := Lib.hid hlr
 have HM := Lib.hid hm
 have hsum : (d : Int) + (S : Int) = (m : Int) := by omega
 have hne : m ≠ d := by omega
 have hsub : m - d = S := by omega
 rw [hm]
 have hmf := make24 n n (Nat.le_refl _) (by omega)
 have hmk : ∀ W, (Instr.makeSlice 25 (.int .i64 (m : Int)) (.int .i64 (m : Int))).run Tryz.prog W = .ok (.slice (some ⟨W.heap.size, 0, none⟩) m m) (W.alloc (.cells (rowB (List.replicate m 0)) 5)) := fun W => make22 m m (Nat.le_refl _) (by omega) W
 have P0 : Hid (Par (w.alloc (.cells #[.int .i64 (K : Int), .int .i64 (H : Int), .int .i64 (S : Int)] 23)) w.heap.size K H S) := Lib.hid (heap_alloc_new _ _)
 have HG0 : Hid (Gr w (w.alloc (.cells #[.int .i64 (K : Int), .int .i64 (H : Int), .int .i64 (S : Int)] 23))) := Lib.hid (Gr.alloc (Gr.refl _) _ _)
 have hov : n = 0 ∨ ∃ a, ov = some a := by
  cases ov with
  | none => exact .inl (by have := v3 rfl; omega)
  | some a => exact .inr ⟨a, rfl⟩
 clear hn hd hvl hl hlr hm v4 v3
 go_enter Tryz.func105, Tryz.ntmps105
 go_upto_region 1 with fail
 generalize w.alloc (.cells #[.int .i64 (K : Int), .int .i64 (H : Int), .int .i64 (S : Int)] 23) = W0 at *
 generalize hgb : w.heap.size = gb at *
 have HGB := Lib.hid hgb
 have g1 : Gr W0 (W0.alloc (.cells (nils n) 25)) := Gr.alloc (Gr.refl _) _ _
 have HGP : Hid (gb < W0.heap.size) := Lib.hid (Array.getElem?_eq_some_iff.1 P0.out).1
 have F0 : Hid (Fms w (W0.alloc (.cells (nils n) 25)) W0.heap.size n m 0 (List.replicate n (.slice none 0 0)) (fun _ => 0) (DC.bgs d S vs late 0)) := Lib.hid ⟨heap_alloc_new _ _, by simp, by omega, by omega, by omega, by omega, by rw [hgb]; have := HGP.out; omega, Gr.trans HG0.out g1⟩
 have P1 := Lib.hid (P0.out.grown g1)
 clear hgb P0 HG0 g1
 go_wp2_with fail
 clear hmf
 generalize W0.alloc (.cells (nils n) 25) = W1 at *
 generalize W0.heap.size = gp at *
 generalize List.replicate n (Value.slice none 0 0) = us0 at *
 go_loopw [17] (fun iv W => ∃ (k : Nat) (us : List Value) (b : Nat → Nat), k ≤ n ∧ iv = .int .i64 k ∧ Par W gb K H S ∧ Fms w W gp n m k us b (DC.bgs d S vs late 0)) (fun iv _ => n - (intOf iv).toNat)
 case atStart => exact ⟨0, us0, fun _ => 0, by omega, rfl, P1.out, F0.out⟩
 case round =>
  clear F0 P1
  obtain ⟨wo, hwo⟩ : ∃ x, x = wr := ⟨_, rfl⟩
  subst hwo
  obtain ⟨k, us, b, hk, rfl, hp, hf⟩ := hrel
  have FM := Lib.hid hf
  have PP := Lib.hid hp
  clear hf hp
  by_cases hlt : k < n
  ·obtain ⟨av, rfl⟩ := hov.resolve_left (by omega)
   obtain ⟨u, q0, hu⟩ := HVC.out av rfl k hlt
   have q1 := cell_grown FM.out.gr q0
   obtain ⟨ou, nu, cu, rfl⟩ := hu.form4
   have hnu : (vs.getD k []).length = nu := by
    obtain ⟨o', c', he⟩ := hu.form
    cases he
    rfl
   have HU := Lib.hid hu
   have HNU := Lib.hid hnu
   have HNS : Hid (nu ≤ S) := Lib.hid (by rw [← hnu]; exact HVL.out k)
   clear hu hnu q0
   have p2 := PP.out.cell2
   have gA : Gr wo (wo.alloc (.cells (rowB (List.replicate m 0)) 5)) := Gr.alloc (Gr.refl _) _ _
   have e1 := (FM.out.row.grown gA).cell k (by rw [FM.out.len]; exact hlt)
   have e2 := (FM.out.row.grown gA).frz k
   go_upto_region 6 with fail
   have BK : Hid (Blk ((wo.alloc (.cells (rowB (List.replicate m 0)) 5)).setCell ⟨gp, k, none⟩ (.slice (some ⟨wo.heap.size, 0, none⟩) m m)) wo.heap.size (List.replicate (d + S) 0)) := Lib.hid ((Kp.set _ gp k _).block (by rw [HM.out]; exact heap_alloc_new _ _) (by have := FM.out.row.lt; omega))
   have e3 : ((wo.alloc (.cells (rowB (List.replicate m 0)) 5)).setCell ⟨gp, k, none⟩ (.slice (some ⟨wo.heap.size, 0, none⟩) m m)).cell? ⟨gp, k, none⟩ = some (.slice (some ⟨wo.heap.size, 0, none⟩) m m) := by
    rw [((FM.out.row.grown gA).set k _).cell k (by rw [List.length_set, FM.out.len]; exact hlt), getD_selfV (by rw [FM.out.len]; exact hlt)]
   have HUW : Hid (Bs ((wo.alloc (.cells (rowB (List.replicate m 0)) 5)).setCell ⟨gp, k, none⟩ (.slice (some ⟨wo.heap.size, 0, none⟩) m m)) (.slice ou nu cu) (vs.getD k [])) := Lib.hid (HU.out.grown (Gr.setCell (FM.out.gr.trans gA) FM.out.low _))
   have PW : Hid (Par ((wo.alloc (.cells (rowB (List.replicate m 0)) 5)).setCell ⟨gp, k, none⟩ (.slice (some ⟨wo.heap.size, 0, none⟩) m m)) gb K H S) := Lib.hid ((Kp.set _ gp k _).block (PP.out.grown gA) (by have := HGP.out; omega))
   have HPL : Hid (gb < wo.heap.size) := Lib.hid (Array.getElem?_eq_some_iff.1 PP.out).1
   have MORE : Hid (∀ W2, Kp (fun j => wo.heap.size ≤ j) ((wo.alloc (.cells (rowB (List.replicate m 0)) 5)).setCell ⟨gp, k, none⟩ (.slice (some ⟨wo.heap.size, 0, none⟩) m m)) W2 → Blk W2 wo.heap.size (DC.bgv d S (vs.getD k [])) → Fms w W2 gp n m (k + 1) (us.set k (.slice (some ⟨wo.heap.size, 0, none⟩) m m)) (fun j => if j = k then wo.heap.size else b j) (DC.bgs d S vs late 0)) := Lib.hid fun W2 h2 h3 =>
    FM.out.more hlt rfl h2 h3 (by rw [DC.bgv_length (by rw [HNU.out]; exact HNS.out)]; exact HM.out) (DC.bgv_byt HU.out.1) (by
      show (vs.map (DC.bgv d S)).getD k [] = _
      rw [DC.getD_mapL (e := []) (by rw [HN.out]; exact hlt)])
   clear e1 e2 gA
   generalize (wo.alloc (.cells (rowB (List.replicate m 0)) 5)).setCell ⟨gp, k, none⟩ (.slice (some ⟨wo.heap.size, 0, none⟩) m m) = W2 at *
   generalize wo.heap.size = gz at *
   go_wp2_with (refine copy_tail rfl _ _ rfl gz d S S nu cu ou BK.out rfl (vs.getD k []) rfl HUW.out HNU.out HNS.out ?_; intro w5 hb5 hk5; have F5 := Lib.hid (MORE.out w5 hk5 hb5); have P5 : Hid (Par w5 gb K H S) := Lib.hid (hk5.block PW.out (by have := HPL.out; omega)); clear hb5 hk5)
   exact ⟨⟨k + 1, _, _, by omega, by go_num, P5.out, F5.out⟩, by simp [intOf]; omega⟩
  ·obtain rfl : k = n := by omega
   clear hmk hsum hne hsub hov
   go_wp2_with fail
   go_loopw [43] (fun iv W => ∃ i : Nat, i ≤ d ∧ iv = .int .i64 i ∧ Fms w W gp k m k us b (DC.bgs d S vs late i)) (fun iv _ => d - (intOf iv).toNat)
   case atStart => exact ⟨0, by omega, rfl, FM.out⟩
   case round =>
    clear FM PP
    obtain ⟨wi, hwi⟩ : ∃ x, x = wr := ⟨_, rfl⟩
    subst hwi
    obtain ⟨i, hi, rfl, hf⟩ := hrel
    have FI := Lib.hid hf
    clear hf
    by_cases hlt2 : i < d
    ·obtain ⟨al, rfl⟩ := HL.out.addr (by omega)
     have q0 := cell_gr FI.out.gr (HL.out.cellAt hlt2)
     have hmem := DC.mem_getD (l := late) (i := i) (by rw [HD.out]; exact hlt2) 0
     obtain ⟨h1, h2⟩ := HLR.out _ hmem
     obtain ⟨c, hc⟩ : ∃ c : Nat, late.getD i 0 = (c : Int) := ⟨_, (Int.toNat_of_nonneg h1).symm⟩
     rw [hc] at q0 h2
     have hcn : c < k := by omega
     have q2 := FI.out.cell hcn (Nat.le_refl _)
     have q3 := (FI.out.blk c hcn).1.cell i (by rw [(FI.out.blk c hcn).2.1]; have := HM.out; omega)
     have q4 := (FI.out.blk c hcn).1.frz i
     have him : i < m := by have := HM.out; omega
     have HB : DC.bgs d S vs late (i + 1) = (DC.bgs d S vs late i).set c (((DC.bgs d S vs late i).getD c []).set i 1) := by
      show (DC.bgs d S vs late i).set (late.getD i 0).toNat _ = _
      rw [hc, Int.toNat_natCast]
     have HBB := Lib.hid HB
     have F2 := Lib.hid (FI.out.put hcn (by rw [bgs_length, HN.out]) (Nat.le_refl _) i (x := 1) (by unfold Byt; omega))
     clear HB hmem h1 hc
     go_wp2_with fail
     exact ⟨⟨i + 1, by omega, by go_num, by rw [HBB.out]; exact F2.out⟩, by simp [intOf]; omega⟩
    ·obtain rfl : i = d := by omega
     go_wp2_with fail
     go_ret
     exact ⟨gp, us, b, rfl, FI.out⟩
end Go.Proofs.YtbbglejdfbkjlaaGreat
namespace Go.Proofs.YtbbglejdfbkjlaaGreat
open Go.RowKit
def totK (d : Nat) (F : List (List Int)) (q : Eqn) (i : Nat) : List Int := (q.c.take i).foldl (fun s c => sumL s (F.getD c.toNat [])) (List.replicate d 0 ++ q.d)
theorem totK_zero (d : Nat) (F : List (List Int)) (q : Eqn) : totK d F q 0 = List.replicate d 0 ++ q.d := by simp [totK]
theorem totK_succ (d : Nat) (F : List (List Int)) (q : Eqn) {i : Nat} (h : i < q.c.length) : totK d F q (i + 1) = sumL (totK d F q i) (F.getD (q.c.getD i 0).toNat []) := by
 unfold totK
 rw [take_snoc q.c i 0 h, List.foldl_append]
 rfl
theorem totK_all (d : Nat) (F : List (List Int)) (q : Eqn) : totK d F q q.c.length = DC.totL d F q := by
 unfold totK DC.totL
 rw [List.take_length]
theorem totK_length (d : Nat) (F : List (List Int)) (q : Eqn) : ∀ i, i ≤ q.c.length → (totK d F q i).length = d + q.d.length
 | 0, _ => by rw [totK_zero]; simp
 | i + 1, h => by rw [totK_succ d F q (by omega), sumL_length, totK_length d F q i (by omega)]
set_option maxRecDepth 100000 in
set_option maxHeartbeats 3200000 in
theorem total_any (n d S : Nat) (a : Addr) (cf : Nat) (vc vd : Value) (F : List (List Int)) (q : Eqn) (w : World) (hF : Bss w (.slice (some a) n cf) F) (hW : Wide (d + S) F) (hl : F.length = n) (hn : 1 ≤ n) (hd : d ≤ 64) (hS : 1 ≤ S) (hS2 : S ≤ 24)
  (hc : Zs w vc q.c) (hcl : q.c.length ≤ 1000) (hcr : ∀ x ∈ q.c, 0 ≤ x ∧ x < (n : Int)) (hq : Bs w vd q.d) (hql : q.d.length = S) :
  Calls Tryz.prog 106 #[.slice (some a) n cf, .agg #[vc, vd]] w fun e w' => ∃ v, e = .returned v ∧ New w w' v (DC.totL d F q) := by
 obtain ⟨oc, cc, rfl⟩ := hc.form
 obtain ⟨od, cd, rfl⟩ := hq.form
 obtain ⟨p, hp⟩ : ∃ p, q.c.length = p := ⟨_, rfl⟩
 obtain ⟨m, hm⟩ : ∃ m, d + S = m := ⟨_, rfl⟩
 rw [hp] at hc hcl ⊢
 rw [hql] at hq ⊢
 rw [hm] at hW
 have HF := Lib.hid hF
 have HW := Lib.hid hW
 have HL := Lib.hid hl
 have HC := Lib.hid hc
 have HCR := Lib.hid hcr
 have HQ := Lib.hid hq
 have HQL := Lib.hid hql
 have HP := Lib.hid hp
 have HM := Lib.hid hm
 have ROW : Hid (∀ i, i < n → ∃ o c, w.cell? (a.add i) = some (.slice o m c) ∧ Bs w (.slice o m c) (F.getD i [])) := Lib.hid fun i hi => by
  obtain ⟨oa, c', he, _, _, _, h5⟩ := HF.out
  cases he
  obtain ⟨u, h6, h7⟩ := h5 a rfl i (by rw [HL.out]; exact hi)
  obtain ⟨o, c, rfl⟩ := h7.form
  have hlen := (HW.out.at i (by rw [HL.out]; exact hi)).1
  rw [hlen] at h6 h7
  exact ⟨o, c, h6, h7⟩
 have hsub : (m : Int) - (S : Int) = (d : Int) := by omega
 have hwd : IntKind.i64.wrap (d : Int) = (d : Int) := by rw [IntKind.wrap_i64]; omega
 have hne : m ≠ d := by omega
 have hle : d ≤ m := by omega
 have hsub2 : m - d = S := by omega
 have hm88 : m ≤ 88 := by omega
 have hmk := make22 m m (Nat.le_refl _) (by omega)
 have HG0 : Hid (Gr w (w.alloc (.cells #[.slice oc p cc, .slice od S cd] 160))) := Lib.hid (Gr.alloc (Gr.refl _) _ _)
 have B0 : Hid ((w.alloc (.cells #[.slice oc p cc, .slice od S cd] 160)).heap[w.heap.size]? = some (.cells #[.slice oc p cc, .slice od S cd] 160 (0, 0))) := Lib.hid (heap_alloc_new _ _)
 obtain ⟨o0, c0, r0, _⟩ := ROW.out 0 (by omega)
 rw [add_noughtY] at r0
 have r0 := cell_gr HG0.out r0
 clear hF hW hl hc hcr hq hql hp hm
 go_enter Tryz.func106, Tryz.ntmps106
 go_upto_region 1 with fail
 generalize w.alloc (.cells #[.slice oc p cc, .slice od S cd] 160) = W0 at *
 generalize hgb : w.heap.size = gb at *
 have HGB := Lib.hid hgb
 clear hgb
 go_upto_region 2 with fail
 have g1 : Gr W0 (W0.alloc (.cells (rowB (List.replicate m 0)) 5)) := Gr.alloc (Gr.refl _) _ _
 have BK : Hid (Blk (W0.alloc (.cells (rowB (List.replicate m 0)) 5)) W0.heap.size (List.replicate (d + S) 0)) := Lib.hid (by rw [HM.out]; exact heap_alloc_new _ _)
 have B1 := Lib.hid (keptRow g1 B0.out)
 have HG1 := Lib.hid (Gr.trans HG0.out g1)
 have HGL : Hid (gb < W0.heap.size) := Lib.hid (Array.getElem?_eq_some_iff.1 B0.out).1
 have HQ1 := Lib.hid (HQ.out.grown HG1.out)
 clear hmk B0 r0 HG0 g1
 generalize W0.alloc (.cells (rowB (List.replicate m 0)) 5) = W1 at *
 generalize W0.heap.size = gz at *
 have k1 : W1.cell? ⟨gb, 1, none⟩ = some (.slice od S cd) := by rw [cell_of_row _ _ _ _ _ _ B1.out]; rfl
 have k0 : W1.cell? ⟨gb, 0, none⟩ = some (.slice oc p cc) := by rw [cell_of_row _ _ _ _ _ _ B1.out]; rfl
 go_region_law (refine step_copy_tail rfl (.tmp 20) (.tmp 22) rfl gz d S S S cd od BK.out (by simp [Act.eval, Act.put]) q.d (by simp [Act.eval, Act.put]) HQ1.out HQL.out (Nat.le_refl _) ?_; intro w5 hb5 hk5)
 all_goals
  rw [HQL.out, Nat.sub_self, List.replicate_zero, List.append_nil] at hb5
  have N5 : Hid (New w w5 (.slice (some ⟨gz, 0, none⟩) m m) (totK d F q 0)) := Lib.hid (new_block (hk5.gr HG1.out fun k hk => by have := HGB.out; have := HGL.out; omega) (by have := HGB.out; have := HGL.out; omega) (by rw [totK_zero]; exact hb5) (by rw [totK_length d F q 0 (by omega), HQL.out]; exact HM.out) (by
    rw [totK_zero]
    intro z hz
    rcases List.mem_append.1 hz with hz | hz
    · exact replicate_byt d z hz
    · exact HQ.out.1 z hz) (by omega))
  have B5 := Lib.hid (hk5.block B1.out (by have := HGL.out; omega))
  have j0 : w5.cell? ⟨gb, 0, none⟩ = some (.slice oc p cc) := by rw [cell_of_row _ _ _ _ _ _ B5.out]; rfl
  clear hb5 hk5 hwd hle hsub hne hsub2 k0 k1
  go_wp2_with fail
  go_loopw [5, 27] (fun sv iv W => ∃ i : Nat, i ≤ p ∧ iv = .int .i64 i ∧ New w W sv (totK d F q i)) (fun _ iv _ => p - (intOf iv).toNat)
  case atStart => exact ⟨0, by omega, rfl, N5.out⟩
  case round =>
   clear N5 B5 j0
   obtain ⟨wo, hwo⟩ : ∃ x, x = wr := ⟨_, rfl⟩
   subst hwo
   obtain ⟨i, hi, rfl, hnw⟩ := hrel
   have NW := Lib.hid hnw
   obtain ⟨os, ms, cs, rfl⟩ := New.form3 hnw
   clear hnw
   by_cases hlt : i < p
   ·obtain ⟨ac, rfl⟩ := HC.out.addr (by omega)
    have q0 := cell_gr NW.out.1 (HC.out.cellAt hlt)
    have hmem := DC.mem_getD (l := q.c) (i := i) (by rw [HP.out]; exact hlt) 0
    obtain ⟨h1, h2⟩ := HCR.out _ hmem
    obtain ⟨c, hc⟩ : ∃ c : Nat, q.c.getD i 0 = (c : Int) := ⟨_, (Int.toNat_of_nonneg h1).symm⟩
    have hst := totK_succ d F q (i := i) (by rw [HP.out]; exact hlt)
    rw [hc, Int.toNat_natCast] at hst
    have HST := Lib.hid hst
    rw [hc] at q0 h2
    have hcn : c < n := by omega
    obtain ⟨o1, c1, r1, hb1⟩ := ROW.out c hcn
    have r2 := cell_gr NW.out.1 r1
    have HB1 := Lib.hid (hb1.grown NW.out.1)
    have hlen := totK_length d F q i (by rw [HP.out]; exact hi)
    have HLEN : Hid ((F.getD c []).length = (totK d F q i).length ∧ (totK d F q i).length ≤ 1000000) := Lib.hid (by
      have := (HW.out.at c (by rw [HL.out]; exact hcn)).1
      have := HM.out
      have := HQL.out
      omega)
    clear hmem h1 hc hst hb1 r1 hlen
    go_wp2_with fail
    refine (ok_sum _ _ (totK d F q i) (F.getD c []) _ (New.bs NW.out) HB1.out HLEN.out.2 HLEN.out.1).mono ?_
    rintro e w2 ⟨v2, rfl, hn2⟩
    obtain ⟨o2, m2, c2, rfl⟩ := New.form3 hn2
    have N2 : Hid (New w w2 (.slice o2 m2 c2) (totK d F q (i + 1))) := Lib.hid (by rw [HST.out]; exact New.under NW.out.1 hn2)
    clear hn2
    go_wp2_with fail
    exact ⟨⟨i + 1, by omega, by go_num, N2.out⟩, by simp [intOf]; omega⟩
   ·obtain rfl : i = p := by omega
    go_wp2_with fail
    go_ret
    refine ⟨_, rfl, ?_⟩
    rw [← totK_all, HP.out]
    exact NW.out
end Go.Proofs.YtbbglejdfbkjlaaGreat
namespace Go.Proofs.YtbbglejdfbkjlaaGreat
open Go.RowKit
theorem Stp.lay {w : World} {oa : Option Addr} {m c : Nat} {L : List (Int × Int)} (h : Stp w (.slice oa m c) L) (hm : 0 < m) : ∃ b o, oa = some ⟨b, o, none⟩ := by
 obtain ⟨oa', c', he, _, _, _, h5⟩ := h
 cases he
 obtain ⟨b, o, e, _⟩ := h5 hm
 exact ⟨b, o, e⟩
theorem Stp.at {w : World} {b o m c : Nat} {L : List (Int × Int)} (h : Stp w (.slice (some ⟨b, o, none⟩) m c) L) {i : Nat} (hi : i < m) : w.cell? ⟨b, o + i * 2, none⟩ = some (.int .i64 (L.getD i (0, 0)).1) ∧ w.cell? ⟨b, o + i * 2 + 1, none⟩ = some (.int .i64 (L.getD i (0, 0)).2) := by
 obtain ⟨oa', c', he, _, _, _, h5⟩ := h
 cases he
 obtain ⟨b', o', e, h6⟩ := h5 (by omega)
 cases e
 exact h6 i hi
end Go.Proofs.YtbbglejdfbkjlaaGreat
namespace Go.Proofs.YtbbglejdfbkjlaaGreat
open Go.RowKit
theorem getD_not {kn : List Bool} {x : Nat} (h : x < kn.length) : (kn.map fun b => !b).getD x false = !(kn.getD x false) := by
 simp [h]
theorem PN.isOne_nil (dn : List Bool) (R : List (List Int)) (i : Nat) : PN.isOne dn [] R i = decide ((openL dn (R.getD i [])).length = 1) := by
 unfold PN.isOne
 simp
open Classical in
set_option maxHeartbeats 800000 in
theorem fitsU_any (n : Int) (v : Value) (c : List Int) (w : World) (h : Zs w v c) (hl : c.length ≤ 1000) :
  Calls Tryz.prog 149 #[.int .i64 n, v] w fun e w' => e = .returned (.bool (decide (MayRow n c))) ∧ w' = w := by
 obtain ⟨m, hm⟩ : ∃ m, c.length = m := ⟨_, rfl⟩
 have HZ := Lib.hid h
 obtain ⟨oa, ca, rfl⟩ := h.form
 rw [hm] at HZ hl ⊢
 have HADJ : Hid (MayRow n c ↔ ∀ i, i < m → adjL n c i) := Lib.hid (by rw [← hm]; exact mayRow_adj n c)
 clear h hm
 obtain ⟨b, hb⟩ : ∃ b, decide (MayRow n c) = b := ⟨_, rfl⟩
 rw [hb]
 have HB := Lib.hid hb
 clear hb
 go_enter Tryz.func149, Tryz.ntmps149
 go_wp2
 go_loopw [9] (fun i wr => wr = w ∧ ∃ k : Nat, k ≤ m ∧ i = .int .i64 k ∧ ∀ j, j < k → adjL n c j) (fun i _ => m - (intOf i).toNat)
 case atStart => exact ⟨rfl, 0, by omega, rfl, by omega⟩
 case round =>
  obtain ⟨rfl, i, hi, rfl, hs⟩ := hrel
  have HS := Lib.hid hs
  clear hs
  by_cases hlt : i < m
  ·obtain ⟨a, rfl⟩ := HZ.out.addr (by omega)
   have q := HZ.out.cellAt hlt
   have hno : ¬ adjL n c i → b = false := fun h => by
    rw [← HB.out, decide_eq_false_iff_not, HADJ.out]
    exact fun hall => h (hall i hlt)
   have hyes : adjL n c i → ∀ j, j < i + 1 → adjL n c j := fun h j hj => by
    by_cases e : j = i
    ·rw [e]; exact h
    ·exact HS.out j (by omega)
   obtain ⟨x, hx⟩ : ∃ x, c.getD i 0 = x := ⟨_, rfl⟩
   rw [hx] at q
   by_cases h0 : x < 0
   ·have hb := hno (fun h => by unfold adjL at h; omega)
    subst hb
    clear hno hyes hx
    go_wp2_with fail
    go_ret
    exact ⟨rfl, rfl⟩
   ·by_cases h1 : n ≤ x
    ·have hb := hno (fun h => by unfold adjL at h; omega)
     subst hb
     clear hno hyes hx
     go_wp2_with fail
     go_ret
     exact ⟨rfl, rfl⟩
    ·by_cases hi0 : i = 0
     ·subst hi0
      have HY := Lib.hid (hyes ⟨by omega, by omega, fun h => absurd h (by omega)⟩)
      rw [add_nought] at q
      clear hno hyes hx
      go_wp2_with fail
      exact ⟨⟨trivial, 1, by omega, rfl, HY.out⟩, by simp [intOf]; omega⟩
     ·have q2 := HZ.out.cellAt (i := i - 1) (by omega)
      obtain ⟨y, hy⟩ : ∃ y, c.getD (i - 1) 0 = y := ⟨_, rfl⟩
      rw [hy] at q2
      obtain ⟨k, hk⟩ : ∃ k, i - 1 = k := ⟨_, rfl⟩
      have hki : (i : Int) - 1 = (k : Int) := by omega
      have hi1 : (0 : Int) < (i : Int) := by omega
      have hkm : (k : Int) < (m : Int) := by omega
      rw [hk] at q2
      by_cases h2 : x ≤ y
      ·have hb := hno (fun h => by
         have := h.2.2 (by omega)
         rw [hy, hx] at this
         omega)
       subst hb
       clear hno hyes hx hy hk
       go_wp2_with fail
       go_ret
       exact ⟨rfl, rfl⟩
      ·have HY := Lib.hid (hyes ⟨by omega, by omega, fun _ => by rw [hy, hx]; omega⟩)
       clear hno hyes hx hy hk
       go_wp2_with fail
       exact ⟨⟨trivial, i + 1, by omega, by go_num, HY.out⟩, by simp [intOf]; omega⟩
  ·obtain rfl : m = i := by omega
   have hb : b = true := by
    rw [← HB.out, decide_eq_true_iff, HADJ.out]
    exact HS.out
   subst hb
   go_wp2_with fail
   go_ret
   exact ⟨rfl, rfl⟩
open Classical in
set_option maxHeartbeats 800000 in
theorem inMay_any (n : Int) (v : Value) (R : List (List Int)) (w : World) (h : Zss w v R) (hl : R.length ≤ 1000) (hc : ∀ c ∈ R, c.length ≤ 1000) :
  Calls Tryz.prog 127 #[.int .i64 n, v] w fun e w' => e = .returned (.bool (decide (PN.May n R))) ∧ w' = w := by
 obtain ⟨o, c, rfl⟩ := h.form
 obtain ⟨m, hm⟩ : ∃ m, R.length = m := ⟨_, rfl⟩
 rw [hm] at h hl ⊢
 have HZ := Lib.hid h
 have HM := Lib.hid hm
 have HC := Lib.hid hc
 clear h hm hc
 obtain ⟨b, hb⟩ : ∃ b, decide (PN.May n R) = b := ⟨_, rfl⟩
 rw [hb]
 have hno : Hid (¬ PN.May n R → b = false) := Lib.hid fun h => by rw [← hb, decide_eq_false_iff_not]; exact h
 have hyes : Hid (PN.May n R → b = true) := Lib.hid fun h => by rw [← hb, decide_eq_true_iff]; exact h
 clear hb
 by_cases c1 : n < 0
 ·obtain rfl := hno.out fun h => by have := h.1; omega
  go_enter Tryz.func127, Tryz.ntmps127
  go_wp2_with fail
  go_ret
  exact ⟨rfl, rfl⟩
 by_cases c2 : 64 < n
 ·obtain rfl := hno.out fun h => by have := h.2.1; omega
  go_enter Tryz.func127, Tryz.ntmps127
  go_wp2_with fail
  go_ret
  exact ⟨rfl, rfl⟩
 go_enter Tryz.func127, Tryz.ntmps127
 go_wp2_with fail
 go_loopw [15] (fun iv W => W = w ∧ ∃ i : Nat, i ≤ m ∧ iv = .int .i64 i ∧ ∀ j, j < i → MayRow n (R.getD j [])) (fun iv _ => m - (intOf iv).toNat)
 case atStart => exact ⟨rfl, 0, by omega, rfl, by omega⟩
 case round =>
  obtain ⟨rfl, i, hi, rfl, hmr⟩ := hrel
  have HMR := Lib.hid hmr
  clear hmr
  by_cases hlt : i < m
  ·obtain ⟨a, rfl⟩ := Zss.addr HZ.out (by omega)
   obtain ⟨u, q1, hu⟩ := Zss.rowAt HZ.out hlt
   obtain ⟨ou, mu, cu, rfl⟩ := hu.form3
   have HU := Lib.hid hu
   have hin := getD_memL (L := R) (i := i) (by rw [HM.out]; exact hlt)
   have HIN := Lib.hid hin
   clear hu hin
   go_wp2_with fail
   refine (fitsU_any n _ _ _ HU.out (HC.out _ HIN.out)).mono ?_
   by_cases hmi : MayRow n (R.getD i [])
   ·rw [decide_eq_true hmi]
    have HMI := Lib.hid hmi
    clear hmi
    rintro e w' ⟨rfl, rfl⟩
    go_wp2_with fail
    refine ⟨⟨trivial, i + 1, by omega, by go_num, fun j hj => ?_⟩, by simp [intOf]; omega⟩
    by_cases e : j = i
    ·rw [e]; exact HMI.out
    ·exact HMR.out j (by omega)
   ·rw [decide_eq_false hmi]
    obtain rfl := hno.out fun h => hmi (h.2.2 _ HIN.out)
    clear hmi
    rintro e w' ⟨rfl, rfl⟩
    go_wp2_with fail
    go_ret
    exact ⟨rfl, rfl⟩
  ·obtain rfl : i = m := by omega
   obtain rfl := hyes.out ⟨by omega, by omega, fun c hc => by
     obtain ⟨j, hj, rfl⟩ := List.getElem_of_mem hc
     have := HMR.out j (by rw [← HM.out]; exact hj)
     rw [List.getD_eq_getElem?_getD, List.getElem?_eq_getElem hj] at this
     exact this⟩
   go_wp2_with fail
   go_ret
   exact ⟨rfl, rfl⟩
def PN.oneC (kn : List Bool) (c : List Int) : Int := match openL kn c with
 | [x] => x
 | _ => -1
theorem PN.oneC_one {kn : List Bool} {c : List Int} {x : Int} (h : openL kn c = [x]) : PN.oneC kn c = x := by
 unfold PN.oneC
 rw [h]
theorem PN.oneC_none {kn : List Bool} {c : List Int} (h : (openL kn c).length ≠ 1) : PN.oneC kn c = -1 := by
 unfold PN.oneC
 split
 ·rename_i x hx
  rw [hx] at h
  exact absurd rfl h
 ·rfl
set_option maxHeartbeats 800000 in
theorem inAlone_any (vc vk : Value) (c : List Int) (kn : List Bool) (w : World) (hz : Zs w vc c) (hk : Bl w vk (kn.map fun b => !b)) (hr : ∀ x ∈ c, 0 ≤ x ∧ x < (kn.length : Int)) (hl : c.length ≤ 1000) (hkl : kn.length ≤ 1000) :
  Calls Tryz.prog 151 #[vc, vk] w fun e w' => e = .returned (.int .i64 (PN.oneC kn c)) ∧ w' = w := by
 obtain ⟨m, hm⟩ : ∃ m, c.length = m := ⟨_, rfl⟩
 obtain ⟨n, hn⟩ : ∃ n, kn.length = n := ⟨_, rfl⟩
 have HZ := Lib.hid hz
 have HK := Lib.hid hk
 obtain ⟨oa, ca, rfl⟩ := hz.form
 obtain ⟨ok, ck, rfl⟩ := hk.form3
 rw [hm] at HZ hl ⊢
 rw [List.length_map, hn] at HK ⊢
 rw [hn] at hkl hr
 have HM := Lib.hid hm
 have HN := Lib.hid hn
 have HR := Lib.hid hr
 clear hz hk hm hn hr
 obtain ⟨z, hz⟩ : ∃ z, PN.oneC kn c = z := ⟨_, rfl⟩
 rw [hz]
 have HO := Lib.hid hz
 clear hz
 go_enter Tryz.func151, Tryz.ntmps151
 go_wp2_with fail
 go_loopw [5, 10] (fun av iv W => W = w ∧ ∃ (i : Nat) (at' : Int), i ≤ m ∧ iv = .int .i64 i ∧ av = .int .i64 at' ∧ ((at' = -1 ∧ openL kn (c.take i) = []) ∨ (0 ≤ at' ∧ at' < n ∧ openL kn (c.take i) = [at']))) (fun _ iv _ => m - (intOf iv).toNat)
 case atStart => exact ⟨rfl, 0, -1, by omega, rfl, rfl, .inl ⟨rfl, rfl⟩⟩
 case round =>
  obtain ⟨rfl, i, at', hi, rfl, rfl, hat⟩ := hrel
  have HAT := Lib.hid hat
  have hab : -1 ≤ at' ∧ at' < n := by rcases hat with h | h <;> omega
  obtain ⟨ha1, ha2⟩ := hab
  clear hat
  by_cases hlt : i < m
  ·obtain ⟨a, rfl⟩ := HZ.out.addr (by omega)
   have q := HZ.out.cellAt hlt
   have hxm := HR.out (c.getD i 0) (by rw [List.getD_eq_getElem?_getD, List.getElem?_eq_getElem (by rw [HM.out]; exact hlt)]; exact List.getElem_mem _)
   have hst : openL kn (c.take (i + 1)) = openL kn (c.take i) ++ (if kn.getD (c.getD i 0).toNat false = true then [] else [c.getD i 0]) := by
    rw [take_snoc c i 0 (by rw [HM.out]; exact hlt), openL_snoc]
   have hpre : ∃ r, openL kn c = openL kn (c.take (i + 1)) ++ r := ⟨openL kn (c.drop (i + 1)), by
     unfold openL
     rw [← List.filter_append, List.take_append_drop]⟩
   obtain ⟨x, hx⟩ : ∃ x : Nat, c.getD i 0 = (x : Int) := ⟨(c.getD i 0).toNat, by omega⟩
   rw [hx] at q hxm hst
   rw [Int.toNat_natCast] at hst
   obtain ⟨ak, rfl⟩ := HK.out.addr (by omega)
   have q2 := HK.out.cellAt (i := x) (by omega)
   rw [getD_not (by rw [HN.out]; omega)] at q2
   have hxn : (x : Int) < (n : Int) := hxm.2
   have HST := Lib.hid hst
   have HPR := Lib.hid hpre
   clear hst hx hxm hpre
   cases hb : kn.getD x false with
   | true =>
    rw [hb, Bool.not_true] at q2
    rw [hb, if_pos rfl, List.append_nil] at HST
    clear hb
    go_wp2_with fail
    exact ⟨⟨trivial, i + 1, at', by omega, by go_num, rfl, by rw [HST.out]; exact HAT.out⟩, by simp [intOf]; omega⟩
   | false =>
    rw [hb, Bool.not_false] at q2
    rw [hb, if_neg (by simp)] at HST
    clear hb
    by_cases h0 : 0 ≤ at'
    ·obtain rfl : z = -1 := by
      rw [← HO.out]
      obtain ⟨r, hr⟩ := HPR.out
      rcases HAT.out with ⟨h, _⟩ | ⟨_, _, h⟩
      ·omega
      ·unfold PN.oneC
       rw [hr, HST.out, h]
       rfl
     go_wp2_with fail
     go_ret
     exact ⟨rfl, rfl⟩
    ·have HE : Hid (openL kn (c.take i) = []) := Lib.hid (by
       rcases HAT.out with ⟨_, h⟩ | ⟨h, _⟩
       · exact h
       · omega)
     go_wp2_with fail
     exact ⟨⟨trivial, i + 1, (x : Int), by omega, by go_num, rfl, .inr ⟨by omega, hxn, by rw [HST.out, HE.out]; rfl⟩⟩, by simp [intOf]; omega⟩
  ·obtain rfl : m = i := by omega
   obtain rfl : z = at' := by
    rw [← HO.out]
    have hall : c.take m = c := List.take_of_length_le (by rw [HM.out]; exact Nat.le_refl _)
    rcases HAT.out with ⟨h1, h⟩ | ⟨_, _, h⟩
    ·rw [hall] at h
     unfold PN.oneC
     rw [h, h1]
    ·rw [hall] at h
     unfold PN.oneC
     rw [h]
   go_wp2_with fail
   go_ret
   exact ⟨rfl, rfl⟩
theorem PN.firstTo_nil {dn us : List Bool} {R : List (List Int)} (h : ∀ i, us.getD i false = true → openL dn (R.getD i []) = []) : ∀ k, PN.firstTo dn us R k = PN.firstTo dn [] R k
 | 0 => rfl
 | k + 1 => by
  have e : PN.isOne dn us R k = PN.isOne dn [] R k := by
   rw [PN.isOne_nil]
   unfold PN.isOne
   cases hu : us.getD k false with
   | true => rw [h k hu]; rfl
   | false => simp
  show (match PN.firstTo dn us R k with | some i => some i | none => if PN.isOne dn us R k = true then some k else none) = (match PN.firstTo dn [] R k with | some i => some i | none => if PN.isOne dn [] R k = true then some k else none)
  rw [PN.firstTo_nil h k, e]
theorem PN.firstTo_keep {dn us : List Bool} {R : List (List Int)} {k i : Nat} (h : PN.firstTo dn us R k = some i) : ∀ {n : Nat}, k ≤ n → PN.firstTo dn us R n = some i := by
 intro n hn
 obtain ⟨d, rfl⟩ := Nat.exists_eq_add_of_le hn
 induction d with
 | zero => exact h
 | succ d ih => exact PN.firstTo_had (ih (by omega))
theorem step_load {W : World} {g : Nat} {x y : Value} (h : W.heap[g]? = some (.cells #[x, y] 157 (0, 0))) : (loadVar 157 ⟨g, 0, none⟩).run Tryz.prog W = .ok (.agg #[x, y]) W :=
 run_loadVar_mid W g 0 157 [x, y] _ (fun j v hv => by
   rw [Nat.zero_add, cell_of_row _ _ _ _ _ _ h]
   simpa using hv) Tryz.underlying157 rfl (by kernel_rfl)
theorem step_res {W : World} {g : Nat} {u : Value} {v : Value} (h : (loadVar 157 ⟨g, 0, none⟩).run Tryz.prog W = .ok v W) :
  (((asAddr (.pointer (some ⟨g, 0, none⟩))).run Tryz.prog W).andThen fun a w₁ => ((loadVar 157 a).run Tryz.prog w₁).andThen fun v w₂ => Result.ok (Value.tuple #[v, u]) w₂) = .ok (.tuple #[v, u]) W := by
 simp only [asAddr, Sem.run_pure, Result.andThen_ok, h]
def SingOut (dn : List Bool) (R : List (List Int)) (w : World) (e : Ending) (w' : World) : Prop :=
 Gr w w' ∧ ((∃ j x : Nat, e = .returned (.tuple #[.agg #[.int .i64 j, .int .i64 x], .bool true]) ∧ PN.firstTo dn [] R R.length = some j ∧ PN.colOf dn R j = (x : Int) ∧ j < R.length) ∨ (e = .returned (.tuple #[.agg #[.int .i64 0, .int .i64 0], .bool false]) ∧ PN.firstTo dn [] R R.length = none))
set_option maxRecDepth 100000 in
set_option maxHeartbeats 1600000 in
theorem single_any (N : Nat) (v vk : Value) (R : List (List Int)) (dn : List Bool) (w : World) (h : Zss w v R) (hk : Bl w vk (dn.map fun b => !b)) (hl : R.length ≤ 1000) (hc : ∀ c ∈ R, c.length ≤ 1000) (hR : ∀ c ∈ R, MayRow N c) (hd : dn.length = N) (hN : N ≤ 64) :
  Calls Tryz.prog 130 #[v, vk] w (SingOut dn R w) := by
 obtain ⟨o, c, rfl⟩ := h.form
 obtain ⟨ok, ck, rfl⟩ := hk.form3
 obtain ⟨m, hm⟩ : ∃ m, R.length = m := ⟨_, rfl⟩
 rw [hm] at h hl ⊢
 rw [List.length_map] at hk ⊢
 have HZ := Lib.hid h
 have HK := Lib.hid hk
 have HM := Lib.hid hm
 have HC := Lib.hid hc
 have HR := Lib.hid hR
 have HD := Lib.hid hd
 clear h hk hm hc hR hd
 obtain ⟨nd, hnd⟩ : ∃ n, dn.length = n := ⟨_, rfl⟩
 rw [hnd] at HK HD ⊢
 have HND := Lib.hid hnd
 clear hnd
 go_enter Tryz.func130, Tryz.ntmps130
 go_wp2_with fail
 obtain ⟨w1, hw1⟩ : ∃ x, x = w.alloc (.cells #[.int .i64 0, .int .i64 0] 157) := ⟨_, rfl⟩
 rw [← hw1]
 obtain ⟨go, hgo⟩ : ∃ g, w.heap.size = g := ⟨_, rfl⟩
 rw [hgo]
 have G1 : Hid (Gr w w1 ∧ w1.heap[go]? = some (.cells #[.int .i64 0, .int .i64 0] 157 (0, 0))) := Lib.hid ⟨by rw [hw1]; exact Gr.alloc (Gr.refl _) _ _, by rw [hw1, ← hgo]; exact heap_alloc_new _ _⟩
 have HGO : Hid (w.heap.size ≤ go) := Lib.hid (by omega)
 clear hw1 hgo
 go_loopw [11] (fun iv W => W = w1 ∧ ∃ i : Nat, i ≤ m ∧ iv = .int .i64 i ∧ PN.firstTo dn [] R i = none) (fun iv _ => m - (intOf iv).toNat)
 case atStart => exact ⟨rfl, 0, by omega, rfl, rfl⟩
 case round =>
  obtain ⟨rfl, i, hi, rfl, hf⟩ := hrel
  have HF := Lib.hid hf
  clear hf
  have hb := G1.out.2
  have c0 : wr.cell? ⟨go, 0, none⟩ = some (.int .i64 0) := by rw [cell_of_row _ _ _ _ _ _ hb]; rfl
  have c1 : wr.cell? ⟨go, 1, none⟩ = some (.int .i64 0) := by rw [cell_of_row _ _ _ _ _ _ hb]; rfl
  have f0 : wr.frozen? ⟨go, 0, none⟩ = false := frozen_of_row _ _ _ _ _ hb
  have f1 : wr.frozen? ⟨go, 1, none⟩ = false := frozen_of_row _ _ _ _ _ hb
  clear hb
  by_cases hlt : i < m
  ·obtain ⟨a, rfl⟩ := Zss.addr HZ.out (by omega)
   obtain ⟨u, q1, hu⟩ := Zss.rowAt (HZ.out.grown G1.out.1) hlt
   obtain ⟨ou, mu, cu, rfl⟩ := hu.form3
   have HU := Lib.hid hu
   have hin := getD_memL (L := R) (i := i) (by rw [HM.out]; exact hlt)
   have HIN := Lib.hid hin
   clear hu hin
   go_wp2_with fail
   refine (inAlone_any _ _ (R.getD i []) dn _ HU.out (HK.out.grown G1.out.1) (by rw [HND.out, HD.out]; exact (HR.out _ HIN.out).1) (HC.out _ HIN.out) (by rw [HND.out, HD.out]; omega)).mono ?_
   rintro e w' ⟨rfl, rfl⟩
   by_cases h1 : (openL dn (R.getD i [])).length = 1
   ·have hio : PN.isOne dn [] R i = true := by rw [PN.isOne_nil, decide_eq_true h1]
    obtain ⟨_, h3, h4, h5, _⟩ := PN.one_col HR.out (by rw [HM.out]; exact hlt) hio
    rw [PN.oneC_one h3]
    obtain ⟨x, hx⟩ : ∃ x : Nat, PN.colOf dn R i = (x : Int) := ⟨(PN.colOf dn R i).toNat, by omega⟩
    rw [hx]
    have HX := Lib.hid hx
    have hff := PN.firstTo_hit HF.out hio
    have HFF := Lib.hid hff
    have hx0 : (0 : Int) ≤ (x : Int) := by omega
    clear h1 hio h3 h4 h5 hx hff
    go_wp2_with fail
    have hb2 : ((w'.setCell ⟨go, 0, none⟩ (.int .i64 (i : Int))).setCell ⟨go, 1, none⟩ (.int .i64 (x : Int))).heap[go]? = some (.cells #[.int .i64 (i : Int), .int .i64 (x : Int)] 157 (0, 0)) := heap_setCell_same _ _ _ _ _ _ (heap_setCell_same _ _ _ _ _ _ G1.out.2)
    refine bodyPost_ret (v := .tuple #[.agg #[.int .i64 (i : Int), .int .i64 (x : Int)], .bool true]) (by rw [results_cell_tmp rfl]; exact step_res (step_load hb2)) rfl ?_
    exact ⟨Gr.setCell (Gr.setCell G1.out.1 HGO.out _) HGO.out _, .inl ⟨i, x, rfl, by rw [HM.out]; exact PN.firstTo_keep HFF.out (by omega), HX.out, by rw [HM.out]; exact hlt⟩⟩
   ·rw [PN.oneC_none h1]
    have hff := PN.firstTo_skip (us := []) (k := i) (R := R) (dn := dn) (by rw [PN.isOne_nil, decide_eq_false h1])
    have HFF := Lib.hid hff
    clear h1 hff
    go_wp2_with fail
    exact ⟨⟨trivial, i + 1, by omega, by go_num, by rw [HFF.out]; exact HF.out⟩, by simp [intOf]; omega⟩
  ·obtain rfl : i = m := by omega
   go_wp2_with fail
   have hb2 : ((wr.setCell ⟨go, 0, none⟩ (.int .i64 0)).setCell ⟨go, 1, none⟩ (.int .i64 0)).heap[go]? = some (.cells #[.int .i64 0, .int .i64 0] 157 (0, 0)) := heap_setCell_same _ _ _ _ _ _ (heap_setCell_same _ _ _ _ _ _ G1.out.2)
   refine bodyPost_ret (v := .tuple #[.agg #[.int .i64 0, .int .i64 0], .bool false]) (by rw [results_cell_tmp rfl]; exact step_res (step_load hb2)) rfl ?_
   exact ⟨Gr.setCell (Gr.setCell G1.out.1 HGO.out _) HGO.out _, .inr ⟨rfl, by rw [HM.out]; exact HF.out⟩⟩
end Go.Proofs.YtbbglejdfbkjlaaGreat
