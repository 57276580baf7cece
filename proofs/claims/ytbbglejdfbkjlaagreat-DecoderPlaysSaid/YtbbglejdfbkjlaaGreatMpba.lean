/-
  Texts laid behind one another: Eb Ec Ed Ee In Jo Pn.
-/
import Derived.Test.YtbbglejdfbkjlaaGreatMpEa
import Derived.Test.YtbbglejdfbkjlaaGreatMpah
import Derived.Test.YtbbglejdfbkjlaaGreatMpax
import Derived.Test.YtbbglejdfbkjlaaGreatMpav
import Derived.Deep.RegionHeld3
import Derived.Test.YtbbglejdfbkjlaaGreatMpam
import Derived.Test.YtbbglejdfbkjlaaGreatMpac
import Derived.Test.YtbbglejdfbkjlaaGreatMpag
import Derived.Deep.SlicePairs
import Derived.Lib.SmallJoins
import Derived.Test.YtbbglejdfbkjlaaGreatMpae
namespace Go.Proofs.YtbbglejdfbkjlaaGreat
open Go.RowKit
set_option maxRecDepth 100000 in
set_option maxHeartbeats 400000 in
theorem chunk_any (o : Option Addr) (m c S : Nat) (w : World) (hS : 1 ≤ S) (hS2 : S ≤ 24) :
  Calls Tryz.prog 64 #[.slice o m c, .int .i64 (S : Int)] w fun e w' => e = .returned (.func (.func 97) #[] #[.pointer (some ⟨w.heap.size, 0, none⟩), .pointer (some ⟨w.heap.size + 1, 0, none⟩)]) ∧
   w' = (w.alloc (.cells #[.slice o m c] 25)).alloc (.cells #[.int .i64 (S : Int)] 3) := by
 go_enter Tryz.func64, Tryz.ntmps64
 go_wp2
 go_ret
 exact ⟨rfl, rfl⟩
set_option maxRecDepth 100000 in
set_option maxHeartbeats 400000 in
theorem firstE_any (N : Nat) (w : World) (h2 : N ≤ 64) :
  Calls Tryz.prog 33 #[.int .i64 N] w fun e w' => ∃ v, e = .returned v ∧ Zs w' v (firstI N) ∧ Gr w w' := by
 have hmk := makeZ N N (by omega) (by omega)
 go_enter Tryz.func33, Tryz.ntmps33
 go_wp2_with fail
 obtain ⟨g, hg⟩ : ∃ g, w.heap.size = g := ⟨_, rfl⟩
 have hgl : w.heap.size ≤ g := by omega
 have B0 : Hid (Blz (w.alloc (.cells (rowZ (List.replicate N 0)) 3)) g (partI N 0)) := Lib.hid (by
   rw [partI_zero, ← hg]
   exact heap_alloc_new _ _)
 have G2 : Hid (Gr w (w.alloc (.cells (rowZ (List.replicate N 0)) 3))) := Lib.hid (Gr.alloc (Gr.refl _) _ _)
 have HGL := Lib.hid hgl
 rw [hg]
 generalize w.alloc (.cells (rowZ (List.replicate N 0)) 3) = w2 at *
 clear hmk hg hgl
 go_loopw [9] (fun iv W => ∃ i : Nat, i ≤ N ∧ iv = .int .i64 i ∧ Blz W g (partI N i) ∧ Gr w W) (fun iv _ => N - (intOf iv).toNat)
 case atStart => exact ⟨0, by omega, rfl, B0.out, G2.out⟩
 case round =>
  obtain ⟨i, hi, rfl, hb, hgr⟩ := hrel
  have HB := Lib.hid hb
  have HG := Lib.hid hgr
  clear hb hgr
  by_cases hlt : i < N
  ·have HST := Lib.hid (partI_set hlt)
   have q := HB.out.cell i (by rw [partI_length hi]; exact hlt)
   have qf := frozen_of_row _ g i _ _ HB.out
   generalize (partI N i).getD i 0 = old at *
   go_wp2
   refine ⟨⟨i + 1, by omega, by go_num, ?_, ?_⟩, by simp [intOf]; omega⟩
   ·rw [← HST.out]
    have h := HB.out
    unfold Blz at h ⊢
    rw [heap_setCell_same _ _ _ _ _ _ h, rowZ_set]
   ·exact HG.out.setCell HGL.out _
  ·obtain rfl : i = N := by omega
   go_wp2
   go_ret
   have hz := HB.out
   rw [partI_all] at hz
   have := Blz.zs hz (firstI i) i (by omega) (by rw [firstI_length]; omega) (by omega) (firstI_i64 (by omega)) (fun _ _ => rfl)
   rw [firstI_length] at this
   exact ⟨_, rfl, this, HG.out⟩
theorem Bs.chunk {w : World} {ad : Addr} {c K S j : Nat} {D : List Int} (h : Bs w (.slice (some ad) (K * S) c) D) (hD : D.length = K * S) (hj : j < K) : Bs w (encC ad S j) (srcL S D j) := by
 have hl := srcL_length hD hj
 obtain ⟨h0, oa, c', he, p2, p3, p4, p5⟩ := h
 obtain ⟨rfl, _, rfl⟩ : some ad = oa ∧ K * S = D.length ∧ c = c' := by simpa using he
 have hle : j * S + S ≤ K * S := by
  have := Nat.mul_le_mul_right S (show j + 1 ≤ K by omega)
  rw [Nat.succ_mul] at this
  exact this
 unfold encC
 refine ⟨fun x hx => h0 x (List.mem_of_mem_drop (List.mem_of_mem_take hx)), _, _, by rw [hl], by rw [hl]; exact Nat.le_refl _, by omega, (fun e => by cases e), fun a ha i hi => ?_⟩
 cases ha
 rw [hl] at hi
 unfold srcL
 rw [Addr.add_add', p5 ad rfl (j * S + i) (by omega), List.getD_eq_getElem?_getD, List.getD_eq_getElem?_getD, List.getElem?_take_of_lt hi, List.getElem?_drop]
structure FillC (w0 W : World) (g n c S : Nat) (j : Nat) (us : List Value) (L : List (List Int)) : Prop where
 own : W.ownsRow w0.heap.size 25 1 (.slice (some ⟨g, 0, none⟩) n c) n us
 row : ∀ i, i < n → Bs W (us.getD i undef) (L.getD i []) ∧ Rb w0.heap.size W (us.getD i undef)
 len : L.length = n
 is : ∀ i, i < j → L.getD i [] = List.replicate S 0
 gr : Gr w0 W
theorem FillC.start {w0 w : World} (hg : Gr w0 w) (n c S : Nat) (hn : n ≤ c) (hc : c ≤ 1000000) : FillC w0 (w.alloc (.cells (nils c) 25)) w.heap.size n c S 0 (List.replicate n (.slice none 0 0)) (List.replicate n []) := by
 refine ⟨⟨by simp, .inr ⟨w.heap.size, c, nils c, rfl, hg.size, heap_alloc_new _ _, hn, by unfold maxLen; omega, by simp [nils], by simp [nils, List.take_replicate, Nat.min_eq_left hn]⟩⟩, fun i hi => ?_, by simp, by omega, Gr.alloc hg _ _⟩
 have e1 : (List.replicate n (Value.slice none 0 0)).getD i undef = .slice none 0 0 := by rw [List.getD_eq_getElem?_getD, List.getElem?_replicate, if_pos hi]; rfl
 have e2 : (List.replicate n ([] : List Int)).getD i [] = [] := by rw [List.getD_eq_getElem?_getD, List.getElem?_replicate, if_pos hi]; rfl
 rw [e1, e2]
 exact ⟨Bs.nil _, fun a n c e _ => by cases e⟩
section
variable {w0 W : World} {g n c S j : Nat} {us : List Value} {L : List (List Int)}
theorem FillC.cell (h : FillC w0 W g n c S j us L) (i : Nat) (hi : i < n) : W.cell? ⟨g, i, none⟩ = some (us.getD i undef) := by
 obtain ⟨g', c', he, _, _, _, _, hc⟩ := ownsRow_cell h.own (by omega)
 cases he
 exact hc i hi
theorem FillC.frozen (h : FillC w0 W g n c S j us L) (i : Nat) : W.frozen? ⟨g, i, none⟩ = false := by
 obtain ⟨_, ⟨he, _⟩ | ⟨g', c', cur, he, _, hg, _⟩⟩ := h.own
 ·cases he
 ·cases he
  exact frozen_of_row W g i _ _ hg
theorem FillC.base (h : FillC w0 W g n c S j us L) : w0.heap.size ≤ g := (ownsRow_not_bytes h.own g rfl).1
theorem FillC.grow {W' : World} (h : FillC w0 W g n c S j us L) (hg : Gr W W') : FillC w0 W' g n c S j us L :=
 ⟨h.own.of_gr hg, fun i hi => Rb.gr (h.row i hi).1 (h.row i hi).2 hg, h.len, h.is, Gr.trans h.gr hg⟩
theorem FillC.put {u : Value} (h : FillC w0 W g n c S j us L) (hj : j < n) (hb : Bs W u (List.replicate S 0)) (hrb : Rb w0.heap.size W u) :
  FillC w0 (W.setCell ⟨g, j, none⟩ u) g n c S (j + 1) (us.set j u) (L.set j (List.replicate S 0)) := by
 obtain ⟨h1, h2⟩ := Rws.set h.own h.len h.row j hj hb hrb
 refine ⟨h1, h2, by rw [List.length_set]; exact h.len, fun i hi => ?_, Gr.setCell h.gr h.base u⟩
 by_cases e : i = j
 ·subst e
  rw [getD_set_self _ _ _ (by rw [h.len]; exact hj)]
 ·rw [getD_set_ne _ _ _ _ (fun c => e c.symm)]
  exact h.is i (by omega)
theorem FillC.done (h : FillC w0 W g n c S n us L) : L = List.replicate n (List.replicate S 0) :=
 List.ext_getElem (by rw [h.len, List.length_replicate]) fun i h1 h2 => by
  have := h.is i (by rw [h.len] at h1; exact h1)
  rw [List.getD_eq_getElem?_getD, List.getElem?_eq_getElem h1] at this
  rw [List.getElem_replicate]
  exact this
end
end Go.Proofs.YtbbglejdfbkjlaaGreat
namespace Go.Proofs.YtbbglejdfbkjlaaGreat
open Go.RowKit
theorem kpB_gr {w0 w W : World} {g : Nat} (h : Gr w0 w) (hk : KpB w.heap.size g w W) (hg : w0.heap.size ≤ g) : Gr w0 W :=
 ⟨hk.1.trans h.1, hk.2.1.trans h.2.1, hk.2.2.1.trans h.2.2.1, Nat.le_trans h.size hk.size, fun k hl => (hk.2.2.2.2 k (Nat.lt_of_lt_of_le hl h.size) (by omega)).trans (h.2.2.2.2 k hl)⟩
set_option maxRecDepth 100000 in
set_option maxHeartbeats 3200000 in
theorem sums_any (K H S : Nat) (v : Value) (D : List Int) (w : World) (hm : MayP K H S) (hz : Bs w v D) (hD : D.length = K * S) :
  Calls Tryz.prog 34 #[par K H S, v] w fun e w' => ∃ u, e = .returned u ∧ Bss w' u (rhsL K H S D) ∧ Gr w w' := by
 have hb : 1 ≤ K ∧ K ≤ 16 ∧ 1 ≤ H ∧ H ≤ 4 ∧ 1 ≤ S ∧ S ≤ 24 := by unfold MayP at hm; omega
 obtain ⟨hb1, hb2, hb3, hb4, hb5, hb6⟩ := hb
 have hc : colsP K H S = ((K + H : Nat) : Int) := by unfold colsP; rw [if_pos hm]; simp
 have HBD := Lib.hid hz
 have HD := Lib.hid hD
 obtain ⟨od, cd, rfl⟩ := hz.form
 have hQ1 : 1 ≤ K * S := Nat.mul_pos hb1 hb5
 rw [hD] at HBD ⊢
 obtain ⟨ad, rfl⟩ := Bs.addr HBD.out (by omega)
 obtain ⟨hcd1, hcd2⟩ : K * S ≤ cd ∧ cd ≤ 9223372036854775807 := by
  obtain ⟨_, oa', c', he, p2, p3, _⟩ := HBD.out
  obtain ⟨_, h2, rfl⟩ : some ad = oa' ∧ K * S = D.length ∧ cd = c' := by simpa using he
  omega
 obtain ⟨C, hC⟩ : ∃ C, K + H = C := ⟨_, rfl⟩
 rw [hC] at hc
 have hmk := make24 H C (by omega) (by omega)
 have hmr := make22 S S (by omega) (by omega)
 have P0 : Hid (Par (w.alloc (.cells #[.int .i64 (K : Int), .int .i64 (H : Int), .int .i64 (S : Int)] 23)) w.heap.size K H S) := Lib.hid (heap_alloc_new _ _)
 have HG0 : Hid (Gr w (w.alloc (.cells #[.int .i64 (K : Int), .int .i64 (H : Int), .int .i64 (S : Int)] 23))) := Lib.hid (Gr.alloc (Gr.refl _) _ _)
 have HC := Lib.hid hC
 clear hm hz hD hC hQ1
 go_enter Tryz.func34, Tryz.ntmps34
 go_wp2_with fail
 generalize w.alloc (.cells #[.int .i64 (K : Int), .int .i64 (H : Int), .int .i64 (S : Int)] 23) = W0 at *
 generalize hgp : w.heap.size = gp at *
 have c0 := P0.out.cell0
 have c1 := P0.out.cell1
 have c2 := P0.out.cell2
 go_region_held3 (fun W => W.cell? ⟨gp, 0, none⟩ = some (.int .i64 (K : Int)) ∧ W.cell? ⟨gp, 1, none⟩ = some (.int .i64 (H : Int)) ∧ W.cell? ⟨gp, 2, none⟩ = some (.int .i64 (S : Int))) (first | exact ⟨k10, k11, k12⟩ | go_keep)
  (first
    | (go_at_call 27; refine (cols_pre K H S _).mono ?_; rw [hc]; rintro e v1 ⟨rfl, hg1⟩; have k10 := cell_grown hg1 (by exact c0); have k11 := cell_grown hg1 (by exact c1); have k12 := cell_grown hg1 (by exact c2); have V1 : Hid (Gr W0 v1) := Lib.hid (by exact hg1); clear hg1))
 have HF0 : Hid (FillC w (v1.alloc (.cells (nils C) 25)) v1.heap.size H C S 0 (List.replicate H (.slice none 0 0)) (List.replicate H [])) := Lib.hid (FillC.start (Gr.trans HG0.out V1.out) H C S (by have := HC.out; omega) (by have := HC.out; omega))
 have P1 : Hid (Par (v1.alloc (.cells (nils C) 25)) gp K H S) := Lib.hid ((P0.out.grown V1.out).grown (Gr.alloc (Gr.refl _) _ _))
 have HGS : Hid (w.heap.size ≤ v1.heap.size) := Lib.hid (Gr.trans HG0.out V1.out).size
 have HGP : Hid (gp < v1.heap.size) := Lib.hid (World.block_lt_of_cell? v1 _ k10)
 generalize v1.alloc (.cells (nils C) 25) = w2 at *
 generalize v1.heap.size = g at *
 rename_i hHeld
 clear hHeld c0 c1 c2 k10 k11 k12 V1 hmk hc P0 HG0
 go_wp2_with fail
 go_loopw [14] (fun iv W => ∃ (i : Nat) (us : List Value) (L : List (List Int)), i ≤ H ∧ iv = .int .i64 i ∧ FillC w W g H C S i us L ∧ Par W gp K H S) (fun iv _ => H - (intOf iv).toNat)
 case atStart => exact ⟨0, _, _, by omega, rfl, HF0.out, P1.out⟩
 case round =>
  clear HF0 P1
  obtain ⟨wo, hwo⟩ : ∃ x, x = wr := ⟨_, rfl⟩
  subst hwo
  obtain ⟨i, us, Lx, hi, rfl, hfl, hp⟩ := hrel
  have FL := Lib.hid hfl
  have HP := Lib.hid hp
  have c0 := hp.cell0
  have c1 := hp.cell1
  have c2 := hp.cell2
  clear hfl hp
  by_cases hlt : i < H
  ·have g1 : Gr wo (wo.alloc (.cells (rowB (List.replicate S 0)) 5)) := Gr.alloc (Gr.refl _) _ _
   have NZ : Hid (New wo (wo.alloc (.cells (rowB (List.replicate S 0)) 5)) (.slice (some ⟨wo.heap.size, 0, none⟩) S S) (List.replicate S 0)) := Lib.hid (new_block g1 (Nat.le_refl _) (heap_alloc_new _ _) (by simp) (replicate_byt S) (by omega))
   have qc := cell_grown g1 (FL.out.cell i hlt)
   have qf := frozen_grown g1 (FL.out.cell i hlt) (FL.out.frozen i)
   have G1 := Lib.hid g1
   clear g1
   go_wp2_with fail
   refine ⟨⟨i + 1, _, _, by omega, by go_num, (FL.out.grow G1.out).put hlt (New.bs NZ.out) (New.rb NZ.out _), ?_⟩, by simp [intOf]; omega⟩
   exact (Below.heap_setCell _ _ _ gp (fun e => by have := HGP.out; simp at e; omega)).trans (HP.out.grown G1.out)
  ·obtain rfl : i = H := by omega
   obtain rfl := FL.out.done
   go_wp2_with fail
   refine (chunk_any (some ad) (K * S) cd S _ hb5 hb6).mono ?_
   rintro e w4 ⟨rfl, hw4⟩
   have g4 : Gr wo w4 := by rw [hw4]; exact Gr.alloc (Gr.alloc (Gr.refl _) _ _) _ _
   have hs4 : w4.heap.size = wo.heap.size + 1 + 1 := by rw [hw4]; simp
   have q1 : w4.cell? ⟨wo.heap.size, 0, none⟩ = some (.slice (some ad) (K * S) cd) := by
    rw [hw4]
    exact cell_grown (Gr.alloc (Gr.refl _) _ _) (by rw [cell_of_row _ _ 0 _ _ _ (heap_alloc_new wo _)]; rfl)
   have q2 : w4.cell? ⟨wo.heap.size + 1, 0, none⟩ = some (.int .i64 (S : Int)) := by
    rw [hw4, cell_of_row _ _ 0 _ _ _ (heap_alloc2_new _ _ _)]
    rfl
   have F4 := Lib.hid (FL.out.grow g4)
   have hgo : g < wo.heap.size := World.block_lt_of_cell? wo _ (FL.out.cell 0 (by omega))
   have Q1 := Lib.hid q1
   have Q2 := Lib.hid q2
   have G4 := Lib.hid g4
   have HS4 := Lib.hid hs4
   have HGO := Lib.hid hgo
   have HX := Lib.hid (FL.out.base)
   clear hw4 q1 q2 g4 hs4 hgo c0 c1 c2
   have hcap : i + K ≤ C := by have := HC.out; omega
   go_wp2_with fail
   refine (appendSeq_any w.heap.size g i C K S wo.heap.size (wo.heap.size + 1) cd us ad w4 F4.out.own hcap F4.out.gr.size hb5 hb6 hb2 hcd1 hcd2 (by rw [HS4.out]; omega) (by rw [HS4.out]; omega) (by have := HGO.out; omega) (by have := HGO.out; omega) Q1.out Q2.out).mono ?_
   rintro e w5 ⟨rfl, hown5, hk5⟩
   have O5 := Lib.hid hown5
   have K5 := Lib.hid hk5
   clear hown5 hk5
   go_wp2_with fail
   go_ret
   have hnb := ownsRow_not_bytes F4.out.own g rfl
   have hk : ∀ k, k < w4.heap.size → some k ≠ some g → w5.heap[k]? = w4.heap[k]? := fun k h1 h2 => K5.out.2.2.2.2 k h1 (fun e => h2 (by rw [e]))
   have hul : us.length = i := by have := F4.out.own.1; omega
   refine ⟨_, rfl, owns_bss O5.out (by rw [rhsL_length]) (fun t ht => ?_), kpB_gr F4.out.gr K5.out HX.out⟩
   rw [rhsL_length] at ht
   by_cases h : t < i
   ·rw [rhsL_head h, List.getD_eq_getElem?_getD, List.getElem?_append_left (by omega), ← List.getD_eq_getElem?_getD]
    have := F4.out.row t h
    rw [List.getD_eq_getElem?_getD (l := List.replicate i (List.replicate S (0 : Int))), List.getElem?_replicate, if_pos h] at this
    exact (Rb.kept (row := some g) this.1 this.2 hk (fun g' e => by cases e; exact hnb)).1
   ·obtain ⟨s, rfl⟩ : ∃ s, t = i + s := ⟨t - i, by omega⟩
    have hs : s < K := by omega
    rw [rhsL_src hs, List.getD_eq_getElem?_getD, List.getElem?_append_right (by omega), hul, Nat.add_sub_cancel_left, List.getElem?_map, List.getElem?_range hs]
    have hd := Bs.chunk HBD.out HD.out hs
    refine (Rb.kept (base := w.heap.size) (row := some g) (Bs.grown hd F4.out.gr) ?_ hk (fun g' e => by cases e; exact hnb)).1
    intro a n' c' e hn'
    obtain ⟨_, oa, ca, he, _, _, _, h5⟩ := hd
    rw [he] at e
    cases e
    exact .inl (by
      have := World.block_lt_of_cell? w _ (h5 _ rfl 0 (by omega))
      have hbl : (a.add 0).block = a.block := by unfold Addr.add; split <;> rfl
      rwa [hbl] at this)
end Go.Proofs.YtbbglejdfbkjlaaGreat
namespace Go.Proofs.YtbbglejdfbkjlaaGreat
open Go.RowKit
def BAt (w : World) (y : Value) (F : Nat → Prop) (K H S seed : Nat) (M : List (List Int)) : Prop :=
 ∃ (b : Nat) (w0 : World) (g : Nat) (o : Option Addr) (c : Nat), (∀ k, F k ↔ b ≤ k ∧ k < w0.heap.size) ∧ w0.heap.size ≤ w.heap.size ∧ (∀ k, F k → w.heap[k]? = w0.heap[k]?) ∧ y = .pointer (some ⟨g, 0, none⟩) ∧ b ≤ g ∧
  w0.heap[g]? = some (.cells #[.int .i64 (K : Int), .int .i64 (H : Int), .int .i64 (S : Int), .int .u32 (seed : Int), .slice o M.length c] 72 (0, 0)) ∧ RwsN b w0 (.slice o M.length c) M
theorem Rn.over {b : Nat} {w w0 : World} {u : Value} (h : Rn b w0 u) (hk : ∀ k, b ≤ k → k < w0.heap.size → w.heap[k]? = w0.heap[k]?) : Rn b w u := fun a n c e hn => by
 obtain ⟨h1, cur, h2⟩ := h a n c e hn
 exact ⟨h1, cur, by rw [hk _ h1 (Array.getElem?_eq_some_iff.1 h2).1]; exact h2⟩
theorem Bs.over {b : Nat} {w w0 : World} {u : Value} {l : List Int} (h : Bs w0 u l) (hn : Rn b w0 u) (hk : ∀ k, b ≤ k → k < w0.heap.size → w.heap[k]? = w0.heap[k]?) : Bs w u l := by
 obtain ⟨h0, oa, c, rfl, h2, h3, h4, h5⟩ := h
 refine ⟨h0, oa, c, rfl, h2, h3, h4, fun a ha i hi => ?_⟩
 subst ha
 obtain ⟨q1, cur, q2⟩ := hn a _ _ rfl (by omega)
 have hc := h5 a rfl i hi
 have hbl : (a.add i).block = a.block := by unfold Addr.add; split <;> rfl
 rw [World.cell?_of_block (w := w0) (w' := w) (a := a.add i) (by rw [hbl]; exact hk _ q1 (Array.getElem?_eq_some_iff.1 q2).1)]
 exact hc
theorem RwsN.over {b : Nat} {w w0 : World} {v : Value} {L : List (List Int)} (h : RwsN b w0 v L) (hk : ∀ k, b ≤ k → k < w0.heap.size → w.heap[k]? = w0.heap[k]?) : RwsN b w v L := by
 obtain ⟨us, ho, hr⟩ := h
 refine ⟨us, ?_, fun i hi => ⟨(hr i hi).1.over (hr i hi).2 hk, (hr i hi).2.over hk⟩⟩
 obtain ⟨h1, h2 | ⟨g, c, cur, q1, q2, q3, q4⟩⟩ := ho
 ·exact ⟨h1, .inl h2⟩
 ·exact ⟨h1, .inr ⟨g, c, cur, q1, q2, by rw [hk _ q2 (Array.getElem?_eq_some_iff.1 q3).1]; exact q3, q4⟩⟩
theorem bss_oneE {W : World} {u : Value} {r : List Int} (hb : Bs W u r) : Bss (W.alloc (.cells #[u] 25)) (.slice (some ⟨W.heap.size, 0, none⟩) 1 1) [r] :=
 ⟨some ⟨W.heap.size, 0, none⟩, 1, rfl, by simp, by omega, (fun h => by cases h), fun a ha i hi => by
   cases ha
   obtain rfl : i = 0 := by simpa using hi
   exact ⟨u, by rw [Addr.add_mid, cell_of_row _ _ 0 _ _ _ (heap_alloc_new _ _)]; rfl, Bs.grown hb (Gr.alloc (Gr.refl _) _ _)⟩⟩
theorem Nr.form {base : Nat} {w : World} {v : Value} {l : List Int} (h : Nr base w v l) : ∃ o m c, v = .slice o m c := by
 obtain ⟨_, ⟨rfl, oa, c, rfl, _⟩ | ⟨g, c, cur, rfl, _⟩⟩ := h
 ·exact ⟨_, _, _, rfl⟩
 ·exact ⟨_, _, _, rfl⟩
theorem mul_symE {K H S seed : Nat} {M O : List (List Int)} {id : Int} (hm : MayP K H S) (hM : Wide S M) (hl : M.length = K + H) (hi : MayI id) (ho : IsMul (wd M) [rowP K H S seed id] M O) : O.getD 0 [] = symP K H S seed M id := by
 have hk : 1 ≤ K + H := by unfold MayP at hm; omega
 rw [hM.wd (by omega)] at ho
 have hs := sym_is hm hM hl hi (seed := seed)
 have hO : O.length = 1 := by rw [ho.length]; rfl
 have h0 := ho.1.at 0 (by omega)
 refine vec_inj (by rw [h0.1, hs.1]) h0.2 hs.2.1 ?_
 rw [hs.2.2]
 exact (mul_at ho (i := 0) (by simp)).symm
theorem BAt.ptr {w : World} {y : Value} {F : Nat → Prop} {K H S seed : Nat} {M : List (List Int)} (h : BAt w y F K H S seed M) : ∃ a, y = .pointer (some a) := by
 obtain ⟨b, w0, g, o, c, _, _, _, rfl, _⟩ := h
 exact ⟨_, rfl⟩
theorem BAt.lt {w : World} {y : Value} {F : Nat → Prop} {K H S seed : Nat} {M : List (List Int)} (h : BAt w y F K H S seed M) (k : Nat) (hk : F k) : k < w.heap.size := by
 obtain ⟨b, w0, g, o, c, h1, h2, _⟩ := h
 have := (h1 k).1 hk
 omega
theorem BAt.keep {w w' : World} {y : Value} {F G : Nat → Prop} {K H S seed : Nat} {M : List (List Int)} (h : BAt w y F K H S seed M) (hk : Kp G w w') (hd : ∀ k, F k → ¬ G k) : BAt w' y F K H S seed M := by
 have hlt := h.lt
 obtain ⟨b, w0, g, o, c, h1, h2, h3, h4⟩ := h
 exact ⟨b, w0, g, o, c, h1, Nat.le_trans h2 hk.size, fun k hf => (hk.2.2.2.2 k (hlt k hf) (hd k hf)).trans (h3 k hf), h4⟩
theorem BAt.open {w : World} {y : Value} {F : Nat → Prop} {K H S seed : Nat} {M : List (List Int)} (h : BAt w y F K H S seed M) :
  ∃ g o c, y = .pointer (some ⟨g, 0, none⟩) ∧ w.heap[g]? = some (.cells #[.int .i64 (K : Int), .int .i64 (H : Int), .int .i64 (S : Int), .int .u32 (seed : Int), .slice o M.length c] 72 (0, 0)) ∧ Bss w (.slice o M.length c) M := by
 obtain ⟨b, w0, g, o, c, h1, h2, h3, rfl, h5, h6, h7⟩ := h
 have hk : ∀ k, b ≤ k → k < w0.heap.size → w.heap[k]? = w0.heap[k]? := fun k q1 q2 => h3 k ((h1 k).2 ⟨q1, q2⟩)
 exact ⟨g, o, c, rfl, by rw [hk g h5 (Array.getElem?_eq_some_iff.1 h6).1]; exact h6, (h7.over hk).bss⟩
set_option maxRecDepth 100000 in
set_option maxHeartbeats 400000 in
theorem symbolNil_any (id : Int) (w : World) : Calls Tryz.prog 22 #[.pointer none, .int .i64 id] w fun e w' => ∃ v, e = .returned v ∧ New w w' v [] := by
 go_enter Tryz.func22, Tryz.ntmps22
 go_wp2_with fail
 go_ret
 exact ⟨_, rfl, Gr.refl _, by simp, .inl ⟨rfl, none, 0, rfl, fun _ => rfl, by omega⟩⟩
set_option maxRecDepth 100000 in
set_option maxHeartbeats 1600000 in
theorem symbol_any (y : Value) (F : Nat → Prop) (K H S seed : Nat) (M : List (List Int)) (id : Int) (w : World) (hm : MayP K H S) (hs : seed < 4294967296) (hb : BAt w y F K H S seed M) (hM : Wide S M) (hl : M.length = K + H) (hid : I64 id) :
  Calls Tryz.prog 22 #[y, .int .i64 id] w fun e w' => ∃ v, e = .returned v ∧ New w w' v (symP K H S seed M id) := by
 obtain ⟨gb, ob, cb, rfl, hrow, hbss⟩ := hb.open
 have hN : 1 ≤ K + H ∧ K + H ≤ 64 ∧ 1 ≤ S ∧ S ≤ 24 := by unfold MayP at hm; omega
 have HB := Lib.hid hbss
 have HW := Lib.hid hM
 have HL := Lib.hid hl
 have HMP := Lib.hid hm
 have HID := Lib.hid hid
 have hr0 := rowP_len K H S seed id hm
 have HR0 := Lib.hid hr0
 have HROW := Lib.hid hrow
 have c0 : w.cell? ⟨gb, 0, none⟩ = some (.int .i64 (K : Int)) := by rw [cell_of_row _ _ 0 _ _ _ hrow]; rfl
 have c1 : w.cell? ⟨gb, 1, none⟩ = some (.int .i64 (H : Int)) := by rw [cell_of_row _ _ 1 _ _ _ hrow]; rfl
 have c2 : w.cell? ⟨gb, 2, none⟩ = some (.int .i64 (S : Int)) := by rw [cell_of_row _ _ 2 _ _ _ hrow]; rfl
 have c3 : w.cell? ⟨gb, 3, none⟩ = some (.int .u32 (seed : Int)) := by rw [cell_of_row _ _ 3 _ _ _ hrow]; rfl
 have c4 : w.cell? ⟨gb, 4, none⟩ = some (.slice ob M.length cb) := by rw [cell_of_row _ _ 4 _ _ _ hrow]; rfl
 generalize hml : M.length = m at *
 have HML := Lib.hid hml
 clear hb hbss hrow hl hM hm hid hr0 hml
 go_enter Tryz.func22, Tryz.ntmps22
 go_wp2_with fail
 go_region_held3 (fun W => W.cell? ⟨gb, 0, none⟩ = some (.int .i64 (K : Int)) ∧ W.cell? ⟨gb, 1, none⟩ = some (.int .i64 (H : Int)) ∧ W.cell? ⟨gb, 2, none⟩ = some (.int .i64 (S : Int)) ∧ W.cell? ⟨gb, 3, none⟩ = some (.int .u32 (seed : Int))) (first | exact ⟨k10, k11, k12, k13⟩ | go_keep)
  (first
    | (go_at_call 45; refine (row_lt K H S seed id _ hs).mono ?_; rintro e v1 ⟨y1, rfl, hn1⟩; obtain ⟨o1, m1, d1, rfl, hm1⟩ := New.formL hn1; have k10 := cell_grown hn1.1 (by exact c0); have k11 := cell_grown hn1.1 (by exact c1); have k12 := cell_grown hn1.1 (by exact c2); have k13 := cell_grown hn1.1 (by exact c3); have N1 := Lib.hid hn1; have HM1 := Lib.hid hm1; clear hn1 hm1))
 have c4 := cell_grown N1.out.1 c4
 have HB1 := Lib.hid (HB.out.grown N1.out.1)
 have HRW := Lib.hid (rowP_wide (K := K) (H := H) (S := (S : Int)) (id := id) HMP.out)
 clear c0 c1 c2 c3 k10 k11 k12 k13 HB HROW
 by_cases hi : MayI id
 ·have hm1 : 0 < m1 := by
   have := HR0.out.1 hi
   have := HM1.out
   omega
  have HI := Lib.hid hi
  have hw1 := HRW.out hi seed
  have HW1 := Lib.hid hw1
  have HLR : Hid (m1 = K + H) := Lib.hid (by rw [HM1.out, hw1.1])
  have g2 : Gr v1 (v1.alloc (.cells #[.slice o1 m1 d1] 25)) := Gr.alloc (Gr.refl _) _ _
  have c4a := cell_grown g2 c4
  have HA2 : Hid (Bss (v1.alloc (.cells #[.slice o1 m1 d1] 25)) (.slice (some ⟨v1.heap.size, 0, none⟩) 1 1) [rowP K H S seed id]) := Lib.hid (bss_oneE (New.bs N1.out))
  have HX2 := Lib.hid (HB1.out.grown g2)
  have G2 : Hid (Gr w (v1.alloc (.cells #[.slice o1 m1 d1] 25))) := Lib.hid (Gr.trans N1.out.1 g2)
  have hwide : Wide (K + H) [rowP K H S seed id] := fun r hr => by
   obtain rfl : r = _ := by simpa using hr
   exact HW1.out
  have hma : mayL [rowP K H S seed id] = true := hwide.may hN.2.1
  have hmx : mayL M = true := HW.out.may (by omega)
  have hwd : wd [rowP K H S seed id] = M.length := by rw [hwide.wd (by simp), HML.out, HL.out]
  have hml : M.length ≤ 1000 := by rw [HML.out, HL.out]; omega
  have HMA := Lib.hid hma
  have HMX := Lib.hid hmx
  have HWD := Lib.hid hwd
  have HMLL := Lib.hid hml
  clear hi hw1 hma hmx hwd hml hwide g2
  go_wp2_with fail
  refine (mul_pos _ _ _ [rowP K H S seed id] M _ (Or.inl rfl) HA2.out HX2.out (by simp) HMLL.out HMA.out HMX.out (by simp) HWD.out).mono ?_
  rintro e w3 ⟨v3, O, rfl, _, hg3, hmul, g3, us, rfl, hr3⟩
  obtain ⟨q1, q2⟩ := hr3 0 (by simp)
  rw [mul_symE HMP.out HW.out (by rw [HML.out, HL.out]) HI.out hmul] at q2
  obtain ⟨ou, mu, cu, hf⟩ := q2.form
  rw [hf] at q1 q2
  have HQ2 := Lib.hid q2
  have G3 := Lib.hid (Gr.trans G2.out hg3)
  clear q2 hf hr3 hmul hg3
  go_wp2_with fail
  go_ret
  exact ⟨_, rfl, Nr.new (HQ2.out.low G2.out.size) G3.out⟩
 ·obtain rfl : m1 = 0 := by
   have := HR0.out.2 hi
   have := HM1.out
   omega
  have HI := Lib.hid hi
  clear hi
  go_wp2_with fail
  go_ret
  unfold symP
  rw [if_neg HI.out]
  exact ⟨_, rfl, N1.out.1, by simp, .inl ⟨rfl, none, 0, rfl, fun _ => rfl, by omega⟩⟩
end Go.Proofs.YtbbglejdfbkjlaaGreat
namespace Go.Proofs.YtbbglejdfbkjlaaGreat
open Go.RowKit
theorem sol_midE {K H S seed : Nat} {D : List Int} {n : Int} {M : List (List Int)} (hr : RightP K H S seed) (hD : D.length = K * S) (hb : ∀ z ∈ D, Byt z) (hs : SolSays (matP K H S seed (firstI K)) (rhsL K H S D) n M) : n = 0 ∧ IsMid K H S seed D M := by
 obtain ⟨M0, h0⟩ := mid_exists hr hD hb
 have hm := hr.1
 have hk : 1 ≤ K := by unfold MayP at hm; omega
 have hwA := (matP_wide hm seed (firstI K))
 have hA : 0 < (matP K H S seed (firstI K)).length := by rw [firstM_length hm]; omega
 have hwd : wd (matP K H S seed (firstI K)) = K + H := hwA.wd hA
 have hwB : wd (rhsL K H S D) = S := (rhsL_wide hD hb).wd (by rw [rhsL_length]; omega)
 have h1 : SolSays (matP K H S seed (firstI K)) (rhsL K H S D) 0 M0 := .inr (.inr (.inl ⟨List.length_pos_iff.1 hA, by rw [right_rk hr, hwd], rfl, by rw [h0.len, hwd], by rw [hwB]; exact h0.mul, by rw [hwB]; exact h0.wide⟩))
 obtain ⟨rfl, rfl⟩ := SolSays.unique (by rw [hwd]; exact hwA) hs h1
 exact ⟨rfl, h0⟩
set_option maxRecDepth 100000 in
set_option maxHeartbeats 800000 in
theorem newMay_any (K H S : Int) (seed : Nat) (v : Value) (D : List Int) (w : World) (hm : ¬ MayP K H S) (hz : Bs w v D) :
  Calls Tryz.prog 12 #[par K H S, .int .u32 (seed : Int), v] w fun e w' => e = .returned (.tuple #[.pointer none, .int .i64 1]) ∧ Gr w w' := by
 have hd := decide_eq_false hm
 obtain ⟨od, cd, rfl⟩ := hz.form
 have HG0 : Hid (Gr w (w.alloc (.cells #[.int .i64 K, .int .i64 H, .int .i64 S] 23))) := Lib.hid (Gr.alloc (Gr.refl _) _ _)
 clear hm hz
 go_enter Tryz.func12, Tryz.ntmps12
 go_wp2_with fail
 refine (may_pre K H S _).mono ?_
 rw [hd]
 rintro e w1 ⟨rfl, hg1⟩
 have G1 := Lib.hid (Gr.trans HG0.out hg1)
 clear hg1
 go_wp2_with fail
 go_ret2
 exact ⟨rfl, G1.out⟩
set_option maxRecDepth 100000 in
set_option maxHeartbeats 800000 in
theorem newLen_any (K H S : Nat) (seed : Nat) (v : Value) (D : List Int) (w : World) (hm : MayP K H S) (hz : Bs w v D) (hD : D.length ≠ K * S) :
  Calls Tryz.prog 12 #[par K H S, .int .u32 (seed : Int), v] w fun e w' => e = .returned (.tuple #[.pointer none, .int .i64 1]) ∧ Gr w w' := by
 have hd := decide_eq_true hm
 have hb : 1 ≤ K ∧ K ≤ 16 ∧ 1 ≤ S ∧ S ≤ 24 := by unfold MayP at hm; omega
 obtain ⟨hb1, hb2, hb5, hb6⟩ := hb
 obtain ⟨Q, hQ⟩ : ∃ Q, K * S = Q := ⟨_, rfl⟩
 have hQ2 : Q ≤ 384 := by rw [← hQ]; exact Nat.le_trans (Nat.mul_le_mul hb2 hb6) (by omega)
 have hQi : (K : Int) * (S : Int) = (Q : Int) := by rw [← hQ]; simp
 rw [hQ] at hD
 obtain ⟨od, cd, rfl⟩ := hz.form
 generalize D.length = m at *
 have hne : ((m : Int) != (Q : Int)) = true := by simp; omega
 have hne2 : m ≠ Q := hD
 have P0 : Hid (Par (w.alloc (.cells #[.int .i64 (K : Int), .int .i64 (H : Int), .int .i64 (S : Int)] 23)) w.heap.size K H S) := Lib.hid (heap_alloc_new _ _)
 have HG0 : Hid (Gr w (w.alloc (.cells #[.int .i64 (K : Int), .int .i64 (H : Int), .int .i64 (S : Int)] 23))) := Lib.hid (Gr.alloc (Gr.refl _) _ _)
 clear hm hz hQ hD
 go_enter Tryz.func12, Tryz.ntmps12
 go_wp2_with fail
 generalize w.alloc (.cells #[.int .i64 (K : Int), .int .i64 (H : Int), .int .i64 (S : Int)] 23) = W0 at *
 generalize hgp : w.heap.size = gp at *
 refine (may_pre K H S _).mono ?_
 rw [hd]
 rintro e w1 ⟨rfl, hg1⟩
 have P1 := Lib.hid (P0.out.grown hg1)
 have G1 := Lib.hid (Gr.trans HG0.out hg1)
 clear hg1 P0 HG0 hd
 have c0 := P1.out.cell0
 have c1 := P1.out.cell1
 have c2 := P1.out.cell2
 go_wp2_with fail
 go_ret2
 exact ⟨rfl, G1.out⟩
set_option maxRecDepth 100000 in
set_option maxHeartbeats 800000 in
theorem newSeedE_any (K H S : Nat) (seed : Nat) (v : Value) (D : List Int) (w : World) (hs : seed < 4294967296) (hz : Bs w v D) (hm : MayP K H S) (hD : D.length = K * S) (hr : ¬ RightP K H S seed) :
  Calls Tryz.prog 12 #[par K H S, .int .u32 (seed : Int), v] w fun e w' => e = .returned (.tuple #[.pointer none, .int .i64 8]) ∧ Gr w w' := by
 have hd := decide_eq_true hm
 have hdr := decide_eq_false hr
 have hb : 1 ≤ K ∧ K ≤ 16 ∧ 1 ≤ S ∧ S ≤ 24 := by unfold MayP at hm; omega
 obtain ⟨hb1, hb2, hb5, hb6⟩ := hb
 obtain ⟨Q, hQ⟩ : ∃ Q, K * S = Q := ⟨_, rfl⟩
 have hQ2 : Q ≤ 384 := by rw [← hQ]; exact Nat.le_trans (Nat.mul_le_mul hb2 hb6) (by omega)
 have hQi : (K : Int) * (S : Int) = (Q : Int) := by rw [← hQ]; simp
 rw [hQ] at hD
 obtain ⟨od, cd, rfl⟩ := hz.form
 rw [hD]
 have P0 : Hid (Par (w.alloc (.cells #[.int .i64 (K : Int), .int .i64 (H : Int), .int .i64 (S : Int)] 23)) w.heap.size K H S) := Lib.hid (heap_alloc_new _ _)
 have HG0 : Hid (Gr w (w.alloc (.cells #[.int .i64 (K : Int), .int .i64 (H : Int), .int .i64 (S : Int)] 23))) := Lib.hid (Gr.alloc (Gr.refl _) _ _)
 clear hm hr hz hQ hD
 go_enter Tryz.func12, Tryz.ntmps12
 go_wp2_with fail
 generalize w.alloc (.cells #[.int .i64 (K : Int), .int .i64 (H : Int), .int .i64 (S : Int)] 23) = W0 at *
 generalize hgp : w.heap.size = gp at *
 refine (may_pre K H S _).mono ?_
 rw [hd]
 rintro e w1 ⟨rfl, hg1⟩
 have P1 := Lib.hid (P0.out.grown hg1)
 have G1 := Lib.hid (Gr.trans HG0.out hg1)
 clear hg1 P0 HG0 hd
 have c0 := P1.out.cell0
 have c1 := P1.out.cell1
 have c2 := P1.out.cell2
 go_wp2_with fail
 refine (system_ok.right K H S seed _ hs).mono ?_
 rw [hdr]
 rintro e w2 ⟨rfl, hg2⟩
 have G2 := Lib.hid (Gr.trans G1.out hg2)
 clear hg2 P1 G1 hdr c0 c1 c2
 go_wp2_with fail
 go_ret2
 exact ⟨rfl, G2.out⟩
set_option maxRecDepth 100000 in
set_option maxHeartbeats 3200000 in
theorem newE_any (K H S : Nat) (seed : Nat) (v : Value) (D : List Int) (w : World) (hs : seed < 4294967296) (hz : Bs w v D) (hm : MayP K H S) (hD : D.length = K * S) (hr : RightP K H S seed) :
  Calls Tryz.prog 12 #[par K H S, .int .u32 (seed : Int), v] w fun e w' => ∃ y F M, e = .returned (.tuple #[y, .int .i64 0]) ∧ IsMid K H S seed D M ∧ BAt w' y F K H S seed M ∧ Gr w w' ∧ ∀ k, F k → w.heap.size ≤ k := by
 have hd := decide_eq_true hm
 have hdr := decide_eq_true hr
 have hb : 1 ≤ K ∧ K ≤ 16 ∧ 1 ≤ H ∧ H ≤ 4 ∧ 1 ≤ S ∧ S ≤ 24 := by unfold MayP at hm; omega
 obtain ⟨hb1, hb2, hb3, hb4, hb5, hb6⟩ := hb
 obtain ⟨Q, hQ⟩ : ∃ Q, K * S = Q := ⟨_, rfl⟩
 have hQ2 : Q ≤ 384 := by rw [← hQ]; exact Nat.le_trans (Nat.mul_le_mul hb2 hb6) (by omega)
 have hQi : (K : Int) * (S : Int) = (Q : Int) := by rw [← hQ]; simp
 have HD := Lib.hid hD
 have HM := Lib.hid hm
 have HR := Lib.hid hr
 have HBD := Lib.hid hz
 rw [hQ] at hD
 obtain ⟨od, cd, rfl⟩ := hz.form
 rw [hD] at HBD ⊢
 have P0 : Hid (Par (w.alloc (.cells #[.int .i64 (K : Int), .int .i64 (H : Int), .int .i64 (S : Int)] 23)) w.heap.size K H S) := Lib.hid (heap_alloc_new _ _)
 have HG0 : Hid (Gr w (w.alloc (.cells #[.int .i64 (K : Int), .int .i64 (H : Int), .int .i64 (S : Int)] 23))) := Lib.hid (Gr.alloc (Gr.refl _) _ _)
 clear hm hr hz hQ hD
 go_enter Tryz.func12, Tryz.ntmps12
 go_wp2_with fail
 generalize w.alloc (.cells #[.int .i64 (K : Int), .int .i64 (H : Int), .int .i64 (S : Int)] 23) = W0 at *
 generalize hgp : w.heap.size = gp at *
 refine (may_pre K H S _).mono ?_
 rw [hd]
 rintro e w1 ⟨rfl, hg1⟩
 have P1 := Lib.hid (P0.out.grown hg1)
 have G1 := Lib.hid (Gr.trans HG0.out hg1)
 clear hg1 P0 HG0 hd
 have c0 := P1.out.cell0
 have c1 := P1.out.cell1
 have c2 := P1.out.cell2
 go_wp2_with fail
 refine (system_ok.right K H S seed _ hs).mono ?_
 rw [hdr]
 rintro e w2 ⟨rfl, hg2⟩
 have P2 := Lib.hid (P1.out.grown hg2)
 have G2 := Lib.hid (Gr.trans G1.out hg2)
 clear hg2 P1 G1 hdr c0 c1 c2
 have c0 := P2.out.cell0
 have c1 := P2.out.cell1
 have c2 := P2.out.cell2
 go_upto_region 5 with fail
 have HML : Hid ((matP K H S seed (firstI K)).length = H + K) := Lib.hid (firstM_length HM.out seed)
 have HWA : Hid (wd (matP K H S seed (firstI K)) = K + H) := Lib.hid ((matP_wide HM.out seed (firstI K)).wd (by rw [HML.out]; omega))
 have HWB : Hid (wd (rhsL K H S D) = S) := Lib.hid ((rhsL_wide HD.out HBD.out.1).wd (by rw [rhsL_length]; omega))
 have HRM : Hid (mayL (rhsL K H S D) = true) := Lib.hid ((rhsL_wide HD.out HBD.out.1).may (by omega))
 go_region_held3 (fun W => W.cell? ⟨gp, 0, none⟩ = some (.int .i64 (K : Int)) ∧ W.cell? ⟨gp, 1, none⟩ = some (.int .i64 (H : Int)) ∧ W.cell? ⟨gp, 2, none⟩ = some (.int .i64 (S : Int))) (first | exact ⟨k40, k41, k42⟩ | exact ⟨k30, k31, k32⟩ | exact ⟨k20, k21, k22⟩ | exact ⟨k10, k11, k12⟩ | go_keep)
  (first
    | (go_at_call 31; refine (solve_new _ _ _ (matP K H S seed (firstI K)) (rhsL K H S D) _ (Or.inl rfl) (HB2.out.grown V3.out) HB3.out (by rw [HML.out]; omega) (by rw [HML.out, rhsL_length]) (matP_may _ _ _ _ _) HRM.out (fun _ => by rw [HWA.out, HWB.out]; omega)).mono ?_; rintro e v4 ⟨u4, n4, M4, rfl, hr4, hg4, hsol⟩; have k40 := cell_grown hg4 (by exact k30); have k41 := cell_grown hg4 (by exact k31); have k42 := cell_grown hg4 (by exact k32); have HR4 := Lib.hid hr4; have V4 : Hid (Gr v3 v4) := Lib.hid (by exact hg4); have HSOL := Lib.hid hsol; clear hr4 hg4 hsol)
    | (go_at_call 34; refine (sums_any K H S _ D _ HM.out (HBD.out.grown (Gr.trans G2.out (Gr.trans V1.out V2.out))) HD.out).mono ?_; rintro e v3 ⟨u3, rfl, hb3, hg3⟩; have k30 := cell_grown hg3 (by exact k20); have k31 := cell_grown hg3 (by exact k21); have k32 := cell_grown hg3 (by exact k22); have HB3 := Lib.hid hb3; have V3 : Hid (Gr v2 v3) := Lib.hid (by exact hg3); clear hb3 hg3)
    | (go_at_call 32; refine (system_ok.matrix K H S seed _ (firstI K) _ hs HZ1.out (by rw [firstI_length]; omega)).mono ?_; rintro e v2 ⟨u2, rfl, hb2, hg2⟩; have k20 := cell_grown hg2 (by exact k10); have k21 := cell_grown hg2 (by exact k11); have k22 := cell_grown hg2 (by exact k12); have HB2 := Lib.hid hb2; have V2 : Hid (Gr v1 v2) := Lib.hid (by exact hg2); clear hb2 hg2)
    | (go_at_call 33; refine (firstE_any K _ (by omega)).mono ?_; rintro e v1 ⟨u1, rfl, hz1, hg1⟩; have k10 := cell_grown hg1 (by exact c0); have k11 := cell_grown hg1 (by exact c1); have k12 := cell_grown hg1 (by exact c2); have HZ1 := Lib.hid hz1; have V1 : Hid (Gr w2 v1) := Lib.hid (by exact hg1); clear hz1 hg1))
 obtain ⟨rfl, hmid⟩ := sol_midE HR.out HD.out HBD.out.1 HSOL.out
 have HMID := Lib.hid hmid
 obtain ⟨o4, c4, rfl, _⟩ := HR4.out.bss
 have G4 := Lib.hid (Gr.trans G2.out (Gr.trans V1.out (Gr.trans V2.out (Gr.trans V3.out V4.out))))
 have HLO : Hid (w.heap.size ≤ v3.heap.size) := Lib.hid (Gr.trans G2.out (Gr.trans V1.out (Gr.trans V2.out V3.out))).size
 rename_i hHeld
 clear hmid hHeld HSOL c0 c1 c2 k10 k11 k12 k20 k21 k22 k30 k31 k32 HB2 HB3 HZ1
 go_wp2_with fail
 go_ret2
 have gB := Gr.alloc (Gr.refl v4) #[.int .i64 (K : Int), .int .i64 (H : Int), .int .i64 (S : Int), .int .u32 (seed : Int), .slice o4 M4.length c4] 72
 exact ⟨_, fun k => w.heap.size ≤ k ∧ k < (v4.alloc (.cells #[.int .i64 (K : Int), .int .i64 (H : Int), .int .i64 (S : Int), .int .u32 (seed : Int), .slice o4 M4.length c4] 72)).heap.size, M4, rfl, HMID.out,
   ⟨w.heap.size, _, v4.heap.size, o4, c4, fun _ => Iff.rfl, Nat.le_refl _, fun _ _ => rfl, rfl, G4.out.size, heap_alloc_new _ _, (HR4.out.lowM HLO.out).grM gB⟩, Gr.trans G4.out gB, fun _ h => h.1⟩
theorem newArg_any (K H S : Int) (seed : Nat) (v : Value) (D : List Int) (w : World) (hz : Bs w v D) (h : ¬ (MayP K H S ∧ (D.length : Int) = K * S)) :
  Calls Tryz.prog 12 #[par K H S, .int .u32 (seed : Int), v] w fun e w' => e = .returned (.tuple #[.pointer none, .int .i64 1]) ∧ Gr w w' := by
 by_cases hm : MayP K H S
 ·have hb : 0 ≤ K ∧ 0 ≤ H ∧ 0 ≤ S := by unfold MayP at hm; omega
  obtain ⟨k, rfl⟩ := Int.eq_ofNat_of_zero_le hb.1
  obtain ⟨h', rfl⟩ := Int.eq_ofNat_of_zero_le hb.2.1
  obtain ⟨s, rfl⟩ := Int.eq_ofNat_of_zero_le hb.2.2
  exact newLen_any k h' s seed v D w hm hz fun e => h ⟨hm, by rw [e]; simp⟩
 ·exact newMay_any K H S seed v D w hm hz
theorem enc_ok : EncOk BAt where
 ptr := BAt.ptr
 lt := BAt.lt
 keep := BAt.keep
 newArg := fun K H S seed v D w _ hz _ h => newArg_any K H S seed v D w hz h
 newSeed := fun K H S seed v D w hs hz hm hD hr => newSeedE_any K H S seed v D w hs hz hm hD hr
 new := fun K H S seed v D w hs hz hm hD hr => newE_any K H S seed v D w hs hz hm hD hr
 symbol := fun y F K H S seed M id w hm hs hb hM hl hi => symbol_any y F K H S seed M id w hm hs hb hM hl hi
 symbolNil := fun id w _ => symbolNil_any id w
end Go.Proofs.YtbbglejdfbkjlaaGreat
namespace Go.Proofs.YtbbglejdfbkjlaaGreat
open Go.RowKit
theorem Bs.of_in {w : World} {a : Option Addr} {len cap : Nat} {zs : List Int}
  (h : (a = none ∧ len = 0 ∧ cap = 0 ∧ zs = []) ∨ ∃ x, a = some x ∧ len ≤ cap ∧ cap ≤ maxLen ∧ zs.length = cap ∧ (∀ i, i < zs.length → w.cell? (x.add i) = some (.int .u8 (zs.getD i 0))) ∧ ∀ n ∈ zs, (Lit.int .u8 n).wf = true) :
  Bs w (.slice a len cap) (zs.take len) ∧ (zs.take len).length = len := by
 rcases h with ⟨rfl, rfl, rfl, rfl⟩ | ⟨x, rfl, h1, h2, h3, h4, h5⟩
 ·exact ⟨Bs.nil w, rfl⟩
 ·have hl : (zs.take len).length = len := by rw [List.length_take]; omega
  refine ⟨⟨fun z hz => byt_of_wf (h5 z (List.mem_of_mem_take hz)), some x, cap, by rw [hl], by rw [hl]; exact h1, by have : maxLen = 9223372036854775807 := rfl; omega, (fun h => by cases h), fun a ha i hi => ?_⟩, hl⟩
  cases ha
  rw [hl] at hi
  rw [h4 i (by omega), List.getD_eq_getElem?_getD, List.getD_eq_getElem?_getD, List.getElem?_take_of_lt hi]
end Go.Proofs.YtbbglejdfbkjlaaGreat
namespace Go.Proofs.YtbbglejdfbkjlaaGreat
open Go.RowKit Go.ChangeShapes Go.WideShapes Go.Joins
theorem bs_trodY {H : Type} {enc : TypeId × Value → H} {w : World} {base : Nat} {held : Bool} {fuel : Nat} {v : Value} {x : DataW H × List MemPlace}
  (h : DataW.trod enc Tryz.prog w base (fun _ => true) held fuel 25 [v] = some x) : ∃ l, Bs w v l := by
 rcases open_ints Tryz.underlying25 Tryz.underlying5 (by kernel_rfl) h with ⟨hcs, _⟩ | ⟨a, l, c, zs, hcs, _, hl, hm, hz, _, hcell, hwz⟩
 ·simp at hcs
  subst hcs
  exact ⟨[], Bs.nil w⟩
 ·simp at hcs
  subst hcs
  exact ⟨_, (Bs.of_in (.inr ⟨a, rfl, hl, hm, by simpa using hz, hcell, hwz⟩)).1⟩
def SymP (w : World) (v : Value) (z : Symb) : Prop := ∃ u, v = .agg #[.int .i64 z.i, u] ∧ I64 z.i ∧ Bs w u z.d
set_option maxRecDepth 100000 in
theorem open_sym {H : Type} {enc : TypeId × Value → H} {w : World} {base b0 : Nat} {held : Bool} {r : Reach} {v : Value} {d : DataW H} {p : List MemPlace}
  (hv : Value.okWide Tryz.prog w r b0 30 v) (h : DataW.Trod enc Tryz.prog w base (fun _ => true) held 30 v d p) : ∃ z, SymP w v z := by
 obtain ⟨v0, v1, y0, y1, n, rfl, _, _, t0, t1⟩ := open_agg2 Tryz.underlying30 (by kernel_rfl) (by kernel_rfl) hv h
 obtain ⟨z0, e0, _, h0⟩ := DataW.trod_int Tryz.underlying3 t0
 obtain ⟨l, hl⟩ := bs_trodY t1
 simp at e0
 subst e0
 exact ⟨⟨z0, l⟩, _, rfl, i64_of_wf h0, hl⟩
end Go.Proofs.YtbbglejdfbkjlaaGreat
namespace Go.Proofs.YtbbglejdfbkjlaaGreat
open Go.RowKit Go.ChangeShapes Go.WideShapes Go.Joins
def ParP (_ : World) (v : Value) (z : Int × Int × Int) : Prop := v = par z.1 z.2.1 z.2.2
set_option maxRecDepth 100000 in
theorem open_par {H : Type} {enc : TypeId × Value → H} {w : World} {base b0 : Nat} {held : Bool} {r : Reach} {v : Value} {d : DataW H} {p : List MemPlace}
  (hv : Value.okWide Tryz.prog w r b0 23 v) (h : DataW.Trod enc Tryz.prog w base (fun _ => true) held 23 v d p) : ∃ z, ParP w v z := by
 obtain ⟨v0, v1, v2, y0, y1, y2, n, rfl, _, _, t0, t1, t2⟩ := open_agg3 Tryz.underlying23 (by kernel_rfl) (by kernel_rfl) hv h
 obtain ⟨z0, e0, _, _⟩ := DataW.trod_int Tryz.underlying3 t0
 obtain ⟨z1, e1, _, _⟩ := DataW.trod_int Tryz.underlying3 t1
 obtain ⟨z2, e2, _, _⟩ := DataW.trod_int Tryz.underlying3 t2
 simp at e0 e1 e2
 subst e0 e1 e2
 exact ⟨(z0, z1, z2), rfl⟩
end Go.Proofs.YtbbglejdfbkjlaaGreat
