/-
  Package encode as it was written: the first IDs; what the rows make.
-/
import Derived.Test.YtbabecjphmmngaaGreatEa
import Derived.Test.YtbabecjphmmngaaGreatMgi
import Derived.Test.YtbabecjphmmngaaGreatMgm
namespace Go.Proofs.YtbabecjphmmngaaGreat
open Go.RowKit

set_option maxRecDepth 100000 in
set_option maxHeartbeats 400000 in
/-- slices.Chunk: the bytes and the number are boxed. -/
theorem chunk_any (o : Option Addr) (m c S : Nat) (w : World) (hS : 1 ≤ S) (hS2 : S ≤ 24) :
    Calls Tryz.prog 48 #[.slice o m c, .int .i64 (S : Int)] w fun e w' => e = .returned (.func (.func 73) #[] #[.pointer (some ⟨w.heap.size, 0, none⟩), .pointer (some ⟨w.heap.size + 1, 0, none⟩)]) ∧
      w' = (w.alloc (.cells #[.slice o m c] 25)).alloc (.cells #[.int .i64 (S : Int)] 3) := by
  go_enter Tryz.func48, Tryz.ntmps48
  go_wp2
  go_ret
  exact ⟨rfl, rfl⟩
set_option maxRecDepth 100000 in
set_option maxHeartbeats 400000 in
theorem firstE_any (N : Nat) (w : World) (h2 : N ≤ 64) :
    Calls Tryz.prog 23 #[.int .i64 N] w fun e w' => ∃ v, e = .returned v ∧ Zs w' v (firstI N) ∧ Gr w w' := by
  have hmk := makeZ N N (by omega) (by omega)
  go_enter Tryz.func23, Tryz.ntmps23
  go_wp2_with fail
  obtain ⟨g, hg⟩ : ∃ g, w.heap.size = g := ⟨_, rfl⟩
  have hgl : w.heap.size ≤ g := by omega
  have B0 : Hid (Blz (w.alloc (.cells (rowZ (List.replicate N 0)) 3)) g (partI N 0)) := Lib.hid (by
    rw [partI_zero, ← hg]
    exact heap_alloc_new _ _)
  have G2 : Hid (Gr w (w.alloc (.cells (rowZ (List.replicate N 0)) 3))) := Lib.hid (Gr.alloc (Gr.refl _) _ _)
  have HGL := Lib.hid hgl
  rw [hg]
  generalize w.alloc (.cells (rowZ (List.replicate N 0)) 3) = w2 at *
  clear hmk hg hgl
  go_loopw [9] (fun iv W => ∃ i : Nat, i ≤ N ∧ iv = .int .i64 i ∧ Blz W g (partI N i) ∧ Gr w W) (fun iv _ => N - (intOf iv).toNat)
  case atStart => exact ⟨0, by omega, rfl, B0.out, G2.out⟩
  case round =>
    obtain ⟨i, hi, rfl, hb, hgr⟩ := hrel
    have HB := Lib.hid hb
    have HG := Lib.hid hgr
    clear hb hgr
    by_cases hlt : i < N
    · have HST := Lib.hid (partI_set hlt)
      have q := HB.out.cell i (by rw [partI_length hi]; exact hlt)
      have qf := frozen_of_row _ g i _ _ HB.out
      generalize (partI N i).getD i 0 = old at *
      go_wp2
      refine ⟨⟨i + 1, by omega, by go_num, ?_, ?_⟩, by simp [intOf]; omega⟩
      · rw [← HST.out]
        have h := HB.out
        unfold Blz at h ⊢
        rw [heap_setCell_same _ _ _ _ _ _ h, rowZ_set]
      · exact HG.out.setCell HGL.out _
    · obtain rfl : i = N := by omega
      go_wp2
      go_ret
      have hz := HB.out
      rw [partI_all] at hz
      have := Blz.zs hz (firstI i) i (by omega) (by rw [firstI_length]; omega) (by omega) (firstI_i64 (by omega)) (fun _ _ => rfl)
      rw [firstI_length] at this
      exact ⟨_, rfl, this, HG.out⟩
/-- A part of bytes, as slices.Chunk cuts it. -/
theorem Bs.chunk {w : World} {ad : Addr} {c K S j : Nat} {D : List Int} (h : Bs w (.slice (some ad) (K * S) c) D) (hD : D.length = K * S) (hj : j < K) : Bs w (encC ad S j) (srcL S D j) := by
  have hl := srcL_length hD hj
  obtain ⟨h0, oa, c', he, p2, p3, p4, p5⟩ := h
  obtain ⟨rfl, _, rfl⟩ : some ad = oa ∧ K * S = D.length ∧ c = c' := by simpa using he
  have hle : j * S + S ≤ K * S := by
    have := Nat.mul_le_mul_right S (show j + 1 ≤ K by omega)
    rw [Nat.succ_mul] at this
    exact this
  unfold encC
  refine ⟨fun x hx => h0 x (List.mem_of_mem_drop (List.mem_of_mem_take hx)), _, _, by rw [hl], by rw [hl]; exact Nat.le_refl _, by omega, (fun e => by cases e), fun a ha i hi => ?_⟩
  cases ha
  rw [hl] at hi
  unfold srcL
  rw [Addr.add_add', p5 ad rfl (j * S + i) (by omega), List.getD_eq_getElem?_getD, List.getD_eq_getElem?_getD, List.getElem?_take_of_lt hi, List.getElem?_drop]
/-- A list of rows being filled, one by one, in block g, with room for more. -/
structure FillC (w0 W : World) (g n c S : Nat) (j : Nat) (us : List Value) (L : List (List Int)) : Prop where
  own : W.ownsRow w0.heap.size 25 1 (.slice (some ⟨g, 0, none⟩) n c) n us
  row : ∀ i, i < n → Bs W (us.getD i undef) (L.getD i []) ∧ Rb w0.heap.size W (us.getD i undef)
  len : L.length = n
  is : ∀ i, i < j → L.getD i [] = List.replicate S 0
  gr : Gr w0 W
theorem FillC.start {w0 w : World} (hg : Gr w0 w) (n c S : Nat) (hn : n ≤ c) (hc : c ≤ 1000000) : FillC w0 (w.alloc (.cells (nils c) 25)) w.heap.size n c S 0 (List.replicate n (.slice none 0 0)) (List.replicate n []) := by
  refine ⟨⟨by simp, .inr ⟨w.heap.size, c, nils c, rfl, hg.size, heap_alloc_new _ _, hn, by unfold maxLen; omega, by simp [nils], by simp [nils, List.take_replicate, Nat.min_eq_left hn]⟩⟩, fun i hi => ?_, by simp, by omega, Gr.alloc hg _ _⟩
  have e1 : (List.replicate n (Value.slice none 0 0)).getD i undef = .slice none 0 0 := by rw [List.getD_eq_getElem?_getD, List.getElem?_replicate, if_pos hi]; rfl
  have e2 : (List.replicate n ([] : List Int)).getD i [] = [] := by rw [List.getD_eq_getElem?_getD, List.getElem?_replicate, if_pos hi]; rfl
  rw [e1, e2]
  exact ⟨Bs.nil _, fun a n c e _ => by cases e⟩
section
variable {w0 W : World} {g n c S j : Nat} {us : List Value} {L : List (List Int)}
theorem FillC.cell (h : FillC w0 W g n c S j us L) (i : Nat) (hi : i < n) : W.cell? ⟨g, i, none⟩ = some (us.getD i undef) := by
  obtain ⟨g', c', he, _, _, _, _, hc⟩ := ownsRow_cell h.own (by omega)
  cases he
  exact hc i hi
theorem FillC.frozen (h : FillC w0 W g n c S j us L) (i : Nat) : W.frozen? ⟨g, i, none⟩ = false := by
  obtain ⟨_, ⟨he, _⟩ | ⟨g', c', cur, he, _, hg, _⟩⟩ := h.own
  · cases he
  · cases he
    exact frozen_of_row W g i _ _ hg
theorem FillC.base (h : FillC w0 W g n c S j us L) : w0.heap.size ≤ g := (ownsRow_not_bytes h.own g rfl).1
theorem FillC.grow {W' : World} (h : FillC w0 W g n c S j us L) (hg : Gr W W') : FillC w0 W' g n c S j us L :=
  ⟨h.own.of_gr hg, fun i hi => Rb.gr (h.row i hi).1 (h.row i hi).2 hg, h.len, h.is, Gr.trans h.gr hg⟩
theorem FillC.put {u : Value} (h : FillC w0 W g n c S j us L) (hj : j < n) (hb : Bs W u (List.replicate S 0)) (hrb : Rb w0.heap.size W u) :
    FillC w0 (W.setCell ⟨g, j, none⟩ u) g n c S (j + 1) (us.set j u) (L.set j (List.replicate S 0)) := by
  obtain ⟨h1, h2⟩ := Rws.set h.own h.len h.row j hj hb hrb
  refine ⟨h1, h2, by rw [List.length_set]; exact h.len, fun i hi => ?_, Gr.setCell h.gr h.base u⟩
  by_cases e : i = j
  · subst e
    rw [getD_set_self _ _ _ (by rw [h.len]; exact hj)]
  · rw [getD_set_ne _ _ _ _ (fun c => e c.symm)]
    exact h.is i (by omega)
theorem FillC.done (h : FillC w0 W g n c S n us L) : L = List.replicate n (List.replicate S 0) :=
  List.ext_getElem (by rw [h.len, List.length_replicate]) fun i h1 h2 => by
    have := h.is i (by rw [h.len] at h1; exact h1)
    rw [List.getD_eq_getElem?_getD, List.getElem?_eq_getElem h1] at this
    rw [List.getElem_replicate]
    exact this
end
end Go.Proofs.YtbabecjphmmngaaGreat
