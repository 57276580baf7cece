/-
  Package encode as it was written: what the rows make (sums).
-/
import Derived.Test.YtbabecjphmmngaaGreatEb
import Derived.Deep.RegionHeld3
namespace Go.Proofs.YtbabecjphmmngaaGreat
open Go.RowKit

theorem kpB_gr {w0 w W : World} {g : Nat} (h : Gr w0 w) (hk : KpB w.heap.size g w W) (hg : w0.heap.size ≤ g) : Gr w0 W :=
  ⟨hk.1.trans h.1, hk.2.1.trans h.2.1, hk.2.2.1.trans h.2.2.1, Nat.le_trans h.size hk.size, fun k hl => (hk.2.2.2.2 k (Nat.lt_of_lt_of_le hl h.size) (by omega)).trans (h.2.2.2.2 k hl)⟩
set_option maxRecDepth 100000 in
set_option maxHeartbeats 3200000 in
theorem sums_any (K H S : Nat) (v : Value) (D : List Int) (w : World) (hm : MayP K H S) (hz : Bs w v D) (hD : D.length = K * S) :
    Calls Tryz.prog 24 #[par K H S, v] w fun e w' => ∃ u, e = .returned u ∧ Bss w' u (rhsL K H S D) ∧ Gr w w' := by
  have hb : 1 ≤ K ∧ K ≤ 16 ∧ 1 ≤ H ∧ H ≤ 4 ∧ 1 ≤ S ∧ S ≤ 24 := by unfold MayP at hm; omega
  obtain ⟨hb1, hb2, hb3, hb4, hb5, hb6⟩ := hb
  have hc : colsP K H S = ((K + H : Nat) : Int) := by unfold colsP; rw [if_pos hm]; simp
  have HBD := Lib.hid hz
  have HD := Lib.hid hD
  obtain ⟨od, cd, rfl⟩ := hz.form
  have hQ1 : 1 ≤ K * S := Nat.mul_pos hb1 hb5
  rw [hD] at HBD ⊢
  obtain ⟨ad, rfl⟩ := Bs.addr HBD.out (by omega)
  obtain ⟨hcd1, hcd2⟩ : K * S ≤ cd ∧ cd ≤ 9223372036854775807 := by
    obtain ⟨_, oa', c', he, p2, p3, _⟩ := HBD.out
    obtain ⟨_, h2, rfl⟩ : some ad = oa' ∧ K * S = D.length ∧ cd = c' := by simpa using he
    omega
  obtain ⟨C, hC⟩ : ∃ C, K + H = C := ⟨_, rfl⟩
  rw [hC] at hc
  have hmk := make24 H C (by omega) (by omega)
  have hmr := make22 S S (by omega) (by omega)
  have P0 : Hid (Par (w.alloc (.cells #[.int .i64 (K : Int), .int .i64 (H : Int), .int .i64 (S : Int)] 23)) w.heap.size K H S) := Lib.hid (heap_alloc_new _ _)
  have HG0 : Hid (Gr w (w.alloc (.cells #[.int .i64 (K : Int), .int .i64 (H : Int), .int .i64 (S : Int)] 23))) := Lib.hid (Gr.alloc (Gr.refl _) _ _)
  have HC := Lib.hid hC
  clear hm hz hD hC hQ1
  go_enter Tryz.func24, Tryz.ntmps24
  go_wp2_with fail
  generalize w.alloc (.cells #[.int .i64 (K : Int), .int .i64 (H : Int), .int .i64 (S : Int)] 23) = W0 at *
  generalize hgp : w.heap.size = gp at *
  have c0 := P0.out.cell0
  have c1 := P0.out.cell1
  have c2 := P0.out.cell2
  go_region_held3 (fun W => W.cell? ⟨gp, 0, none⟩ = some (.int .i64 (K : Int)) ∧ W.cell? ⟨gp, 1, none⟩ = some (.int .i64 (H : Int)) ∧ W.cell? ⟨gp, 2, none⟩ = some (.int .i64 (S : Int))) (first | exact ⟨k10, k11, k12⟩ | go_keep)
    (first
      | (go_at_call 46; refine (cols_pre K H S _).mono ?_; rw [hc]; rintro e v1 ⟨rfl, hg1⟩; have k10 := cell_grown hg1 (by exact c0); have k11 := cell_grown hg1 (by exact c1); have k12 := cell_grown hg1 (by exact c2); have V1 : Hid (Gr W0 v1) := Lib.hid (by exact hg1); clear hg1))
  have HF0 : Hid (FillC w (v1.alloc (.cells (nils C) 25)) v1.heap.size H C S 0 (List.replicate H (.slice none 0 0)) (List.replicate H [])) := Lib.hid (FillC.start (Gr.trans HG0.out V1.out) H C S (by have := HC.out; omega) (by have := HC.out; omega))
  have P1 : Hid (Par (v1.alloc (.cells (nils C) 25)) gp K H S) := Lib.hid ((P0.out.grown V1.out).grown (Gr.alloc (Gr.refl _) _ _))
  have HGS : Hid (w.heap.size ≤ v1.heap.size) := Lib.hid (Gr.trans HG0.out V1.out).size
  have HGP : Hid (gp < v1.heap.size) := Lib.hid (World.block_lt_of_cell? v1 _ k10)
  generalize v1.alloc (.cells (nils C) 25) = w2 at *
  generalize v1.heap.size = g at *
  rename_i hHeld
  clear hHeld c0 c1 c2 k10 k11 k12 V1 hmk hc P0 HG0
  go_wp2_with fail
  go_loopw [14] (fun iv W => ∃ (i : Nat) (us : List Value) (L : List (List Int)), i ≤ H ∧ iv = .int .i64 i ∧ FillC w W g H C S i us L ∧ Par W gp K H S) (fun iv _ => H - (intOf iv).toNat)
  case atStart => exact ⟨0, _, _, by omega, rfl, HF0.out, P1.out⟩
  case round =>
    clear HF0 P1
    obtain ⟨wo, hwo⟩ : ∃ x, x = wr := ⟨_, rfl⟩
    subst hwo
    obtain ⟨i, us, Lx, hi, rfl, hfl, hp⟩ := hrel
    have FL := Lib.hid hfl
    have HP := Lib.hid hp
    have c0 := hp.cell0
    have c1 := hp.cell1
    have c2 := hp.cell2
    clear hfl hp
    by_cases hlt : i < H
    · have g1 : Gr wo (wo.alloc (.cells (rowB (List.replicate S 0)) 5)) := Gr.alloc (Gr.refl _) _ _
      have NZ : Hid (New wo (wo.alloc (.cells (rowB (List.replicate S 0)) 5)) (.slice (some ⟨wo.heap.size, 0, none⟩) S S) (List.replicate S 0)) := Lib.hid (new_block g1 (Nat.le_refl _) (heap_alloc_new _ _) (by simp) (replicate_byt S) (by omega))
      have qc := cell_grown g1 (FL.out.cell i hlt)
      have qf := frozen_grown g1 (FL.out.cell i hlt) (FL.out.frozen i)
      have G1 := Lib.hid g1
      clear g1
      go_wp2_with fail
      refine ⟨⟨i + 1, _, _, by omega, by go_num, (FL.out.grow G1.out).put hlt (New.bs NZ.out) (New.rb NZ.out _), ?_⟩, by simp [intOf]; omega⟩
      exact (Below.heap_setCell _ _ _ gp (fun e => by have := HGP.out; simp at e; omega)).trans (HP.out.grown G1.out)
    · obtain rfl : i = H := by omega
      obtain rfl := FL.out.done
      go_wp2_with fail
      refine (chunk_any (some ad) (K * S) cd S _ hb5 hb6).mono ?_
      rintro e w4 ⟨rfl, hw4⟩
      have g4 : Gr wo w4 := by rw [hw4]; exact Gr.alloc (Gr.alloc (Gr.refl _) _ _) _ _
      have hs4 : w4.heap.size = wo.heap.size + 1 + 1 := by rw [hw4]; simp
      have q1 : w4.cell? ⟨wo.heap.size, 0, none⟩ = some (.slice (some ad) (K * S) cd) := by
        rw [hw4]
        exact cell_grown (Gr.alloc (Gr.refl _) _ _) (by rw [cell_of_row _ _ 0 _ _ _ (heap_alloc_new wo _)]; rfl)
      have q2 : w4.cell? ⟨wo.heap.size + 1, 0, none⟩ = some (.int .i64 (S : Int)) := by
        rw [hw4, cell_of_row _ _ 0 _ _ _ (heap_alloc2_new _ _ _)]
        rfl
      have F4 := Lib.hid (FL.out.grow g4)
      have hgo : g < wo.heap.size := World.block_lt_of_cell? wo _ (FL.out.cell 0 (by omega))
      have Q1 := Lib.hid q1
      have Q2 := Lib.hid q2
      have G4 := Lib.hid g4
      have HS4 := Lib.hid hs4
      have HGO := Lib.hid hgo
      have HX := Lib.hid (FL.out.base)
      clear hw4 q1 q2 g4 hs4 hgo c0 c1 c2
      have hcap : i + K ≤ C := by have := HC.out; omega
      go_wp2_with fail
      refine (appendSeq_any w.heap.size g i C K S wo.heap.size (wo.heap.size + 1) cd us ad w4 F4.out.own hcap F4.out.gr.size hb5 hb6 hb2 hcd1 hcd2 (by rw [HS4.out]; omega) (by rw [HS4.out]; omega) (by have := HGO.out; omega) (by have := HGO.out; omega) Q1.out Q2.out).mono ?_
      rintro e w5 ⟨rfl, hown5, hk5⟩
      have O5 := Lib.hid hown5
      have K5 := Lib.hid hk5
      clear hown5 hk5
      go_wp2_with fail
      go_ret
      have hnb := ownsRow_not_bytes F4.out.own g rfl
      have hk : ∀ k, k < w4.heap.size → some k ≠ some g → w5.heap[k]? = w4.heap[k]? := fun k h1 h2 => K5.out.2.2.2.2 k h1 (fun e => h2 (by rw [e]))
      have hul : us.length = i := by have := F4.out.own.1; omega
      refine ⟨_, rfl, owns_bss O5.out (by rw [rhsL_length]) (fun t ht => ?_), kpB_gr F4.out.gr K5.out HX.out⟩
      rw [rhsL_length] at ht
      by_cases h : t < i
      · rw [rhsL_head h, List.getD_eq_getElem?_getD, List.getElem?_append_left (by omega), ← List.getD_eq_getElem?_getD]
        have := F4.out.row t h
        rw [List.getD_eq_getElem?_getD (l := List.replicate i (List.replicate S (0 : Int))), List.getElem?_replicate, if_pos h] at this
        exact (Rb.kept (row := some g) this.1 this.2 hk (fun g' e => by cases e; exact hnb)).1
      · obtain ⟨s, rfl⟩ : ∃ s, t = i + s := ⟨t - i, by omega⟩
        have hs : s < K := by omega
        rw [rhsL_src hs, List.getD_eq_getElem?_getD, List.getElem?_append_right (by omega), hul, Nat.add_sub_cancel_left, List.getElem?_map, List.getElem?_range hs]
        have hd := Bs.chunk HBD.out HD.out hs
        refine (Rb.kept (base := w.heap.size) (row := some g) (Bs.grown hd F4.out.gr) ?_ hk (fun g' e => by cases e; exact hnb)).1
        intro a n' c' e hn'
        obtain ⟨_, oa, ca, he, _, _, _, h5⟩ := hd
        rw [he] at e
        cases e
        exact .inl (by
          have := World.block_lt_of_cell? w _ (h5 _ rfl 0 (by omega))
          have hbl : (a.add 0).block = a.block := by unfold Addr.add; split <;> rfl
          rwa [hbl] at this)
end Go.Proofs.YtbabecjphmmngaaGreat
