/-
  The document's own rows ahead, walked.
-/
import Derived.Test.YtocigdcbfbnfoaaPw
import Derived.Test.YtocigdcbfbnfoaaRv
import Derived.Test.YtocigdcbfbnfoaaCo
import Derived.Deep.DeepCutAuto
namespace Go.Proofs.Ytocigdcbfbnfoaa
open Go.RowKit

theorem ownsRow_not_par {w : World} {base : Nat} {v : Value} {n gp : Nat} {us : List Value} {K H S : Int} (h : w.ownsRow base 33 1 v n us) (hp : Par w gp K H S) : v.ownBlock ≠ some gp := by
  intro hg
  obtain ⟨_, ⟨rfl, _⟩ | ⟨g', c, cur, rfl, hb, hgg, _⟩⟩ := h
  · cases hg
  · simp [Value.ownBlock] at hg
    subst hg
    unfold Par at hp
    rw [hgg] at hp
    simp at hp
theorem ahead_end (K H h : Nat) : (lst (K + H) (part (aheadF K h) K)).set (K + h) 1 = aheadRow K H h := by
  rw [lst_set]
  apply lst_congr
  intro j hj
  unfold part aheadF
  by_cases e : j = K + h
  · rw [if_pos e, if_neg (by omega), if_pos e]
  · rw [if_neg e]
    by_cases c : j < K
    · rw [if_pos c]
    · rw [if_neg c, if_neg c, if_neg e]
set_option maxRecDepth 100000 in
set_option maxHeartbeats 1600000 in
theorem refAhead_in (K H : Nat) (S : Int) (w : World) (hm : MayP K H S) :
    Calls Try.prog 14 #[par K H S] w fun e w' => ∃ v, e = .returned v ∧ Rws w.heap.size w' v (ahead K H) ∧ Gr w w' := by
  have hd := decide_eq_true hm
  obtain ⟨i0, hi0, hz0, hz1, hz2⟩ := info_parts info22
  have I0 := Lib.hid hi0
  have I1 := Lib.hid hz0
  have I2 := Lib.hid hz1
  have I3 := Lib.hid hz2
  clear hi0 hz0 hz1 hz2
  obtain ⟨b1, b2, b3, b4, _, _⟩ := hm
  go_enter Try.func14, Try.ntmps14
  have hK := Lib.hid b2
  obtain ⟨N, hN⟩ : ∃ N, K + H = N := ⟨_, rfl⟩
  have hN' : (K : Int) + (H : Int) = (N : Int) := by omega
  have hN64 : N ≤ 20 := by omega
  have HN := Lib.hid hN
  have hmk := make22 N N (by omega) (by omega)
  have hR : ∃ cur, cur = rowB (List.replicate N 0) := ⟨_, rfl⟩
  obtain ⟨cur, hcur⟩ := hR
  rw [← hcur] at hmk
  have HC := Lib.hid hcur
  clear hcur hN
  have P0 : Hid (Par (w.alloc (.cells #[.int .i64 (K : Int), .int .i64 (H : Int), .int .i64 S] 23)) w.heap.size K H S) := Lib.hid (heap_alloc_new _ _)
  have HG0 : Hid (Gr w (w.alloc (.cells #[.int .i64 (K : Int), .int .i64 (H : Int), .int .i64 S] 23))) := Lib.hid (Gr.alloc (Gr.refl _) _ _)
  go_wp2_with fail
  generalize w.alloc (.cells #[.int .i64 (K : Int), .int .i64 (H : Int), .int .i64 S] 23) = W0 at *
  generalize hgp : w.heap.size = gp at *
  go_loopw [3, 4] (fun o i wr => ∃ n : Nat, n ≤ H ∧ i = .int .i64 n ∧ Rws gp wr o ((List.range n).map (aheadRow K H)) ∧ Par wr gp K H S ∧ Gr w wr) (fun _ i _ => H - (intOf i).toNat)
  case atStart => exact ⟨0, by omega, rfl, Rws.nil _ _, P0.out, HG0.out⟩
  case round =>
    clear P0 HG0
    obtain ⟨wo, hwo⟩ : ∃ x, x = wr := ⟨_, rfl⟩
    subst hwo
    obtain ⟨n, hn, rfl, hrs, hp, hg⟩ := hrel
    have P1 := Lib.hid hp
    have HG := Lib.hid hg
    have HRS := Lib.hid hrs
    obtain ⟨us, ho, hr⟩ := hrs
    have hlen : ((List.range n).map (aheadRow K H)).length = n := by simp
    rw [hlen] at ho hr
    obtain ⟨oo, co, rfl⟩ := ownsRow_form ho
    have HO := Lib.hid ho
    have HR := Lib.hid hr
    clear ho hg hr hlen
    have c0 := hp.cell0
    have c1 := hp.cell1
    have c2 := hp.cell2
    clear hp
    by_cases hlt : n < H
    · obtain ⟨q, hq, hqN⟩ : ∃ q : Nat, (K : Int) + (n : Int) = q ∧ q < N := ⟨K + n, by omega, by omega⟩
      go_wp2_with fail
      refine (refMay_any K H S _).mono ?_
      rw [hd]
      rintro e w1 ⟨rfl, hg1⟩
      have P2 := Lib.hid (P1.out.grown hg1)
      have c0 := P2.out.cell0
      have c1 := P2.out.cell1
      have HG1 := Lib.hid hg1
      have MK : Hid (Making w1 w1.heap.size N (aheadF K n) 0 (w1.alloc (.cells cur 5))) := Lib.hid ⟨Gr.alloc (Gr.refl _) _ _, Nat.le_refl _, by rw [HC.out, ← part_nil]; exact heap_alloc_new _ _⟩
      have P3 := Lib.hid (P2.out.grown (Gr.alloc (Gr.refl w1) cur 5))
      clear hg1 c2
      go_wp2_with fail
      clear c0 c1
      generalize w1.alloc (.cells cur 5) = W3 at *
      generalize hgr : w1.heap.size = gr at *
      go_loopw [6] (fun i W => ∃ j : Nat, j ≤ K ∧ i = .int .i64 j ∧ Making w1 gr N (aheadF K n) j W) (fun i _ => K - (intOf i).toNat)
      case atStart => exact ⟨0, by omega, rfl, MK.out⟩
      case round =>
        clear MK P3
        obtain ⟨wi, hwi⟩ : ∃ x, x = wr := ⟨_, rfl⟩
        subst hwi
        obtain ⟨j, hj, rfl, hm⟩ := hrel
        have HM := Lib.hid hm
        have P3 := P2.out.grown hm.1
        have c0 := P3.cell0
        have c1 := P3.cell1
        clear hm P3
        by_cases hlj : j < K
        · have q3 := Blk.cell HM.out.2.2 j (by rw [lst_length]; omega)
          have q4 := frozen_of_row wi gr j _ _ HM.out.2.2
          have hE : ((n : Int) + 1) * ((j : Int) + 1) = (((n + 1) * (j + 1) : Nat) : Int) := by simp
          have hF : expZ (((n + 1) * (j + 1) : Nat) : Int) = aheadF K n j := by unfold aheadF; rw [if_pos hlj]
          have hle : (n + 1) * (j + 1) ≤ 64 := Nat.le_trans (Nat.mul_le_mul (by omega : n + 1 ≤ 4) (by omega : j + 1 ≤ 16)) (by omega)
          have hjN : (j : Int) < N := by omega
          obtain ⟨e, he⟩ : ∃ e : Nat, (n + 1) * (j + 1) = e := ⟨_, rfl⟩
          rw [he] at hE hF hle
          clear he
          go_wp2_with fail
          refine (refExp_any (e : Int) _).mono ?_
          rintro e' w' ⟨rfl, rfl⟩
          rw [hF]
          go_wp2_with fail
          exact ⟨⟨j + 1, by omega, by go_num, Making.store HM.out⟩, by simp [intOf]; omega⟩
        · obtain rfl : j = K := by omega
          have q3 := Blk.cell HM.out.2.2 q (by rw [lst_length]; omega)
          have q4 := frozen_of_row wi gr q _ _ HM.out.2.2
          have hN2 := HN.out
          have hq2 : q = j + n := by omega
          have hrow : (lst N (part (aheadF j n) j)).set q 1 = aheadRow j H n := by
            rw [← hN2, hq2]
            exact ahead_end j H n
          have hblk : Blk (wi.setCell ⟨gr, q, none⟩ (.int .u8 1)) gr (aheadRow j H n) := by
            unfold Blk
            rw [heap_setCell_same _ _ _ _ _ _ HM.out.2.2, rowB_set, hrow]
          have hg4 : Gr w1 (wi.setCell ⟨gr, q, none⟩ (.int .u8 1)) := Gr.setCell HM.out.1 (by have := HM.out.2.1; omega) _
          have hnw : New w1 (wi.setCell ⟨gr, q, none⟩ (.int .u8 1)) (.slice (some ⟨gr, 0, none⟩) N N) (aheadRow j H n) := by
            refine ⟨hg4, lst_byt fun i _ => aheadF_byt j n i, .inr ⟨gr, N, _, by rw [aheadRow_length, hN2], HM.out.2.1, hblk, by rw [aheadRow_length]; omega, by omega, fun i hi => rowB_get _ i hi⟩⟩
          have HW := Lib.hid hnw
          have HG4 : Hid (Gr wo (wi.setCell ⟨gr, q, none⟩ (.int .u8 1))) := Lib.hid (Gr.trans HG1.out hg4)
          have HP4 : Hid (Par (wi.setCell ⟨gr, q, none⟩ (.int .u8 1)) gp j H S) := Lib.hid (P2.out.grown hg4)
          have HG0 : Hid (gp ≤ wo.heap.size) := Lib.hid (by rw [← hgp]; exact HG.out.size)
          clear hN2 hrow hblk hg4 hnw hq2
          go_wp2_with (first
            | (at_builtin; refine wpList_append_lies _ rfl _ _ _ rfl gp 33 i0 _ 1 24 Try.underlying29 I0.out I1.out I2.out I3.out rfl (by omega) (.slice oo n co) n us rfl ((HO.out.of_gr HG4.out).alloc _) ⟨wi.heap.size, 0, none⟩ 1 1 [.slice (some ⟨gr, 0, none⟩) N N] rfl rfl (World.news_of_block (cs := #[.slice (some ⟨gr, 0, none⟩) N N]) (t := 33) (fr := (0, 0)) (by have := heap_alloc_new (wi.setCell ⟨gr, q, none⟩ (.int .u8 1)) (.cells #[.slice (some ⟨gr, 0, none⟩) N N] 33); rwa [World.size_setCell] at this)) (by simp [Value.oneCell']) (by omega) (by unfold maxLen; omega) (by omega) (by have := HG0.out; have := HG4.out.size; simp at this; simp; omega) (wi.heap.size + 1) (by simp) ?_; intro gg cap w5 hown1 hgrow hat hlt2))
          have hga : Gr (wi.setCell ⟨gr, q, none⟩ (.int .u8 1)) ((wi.setCell ⟨gr, q, none⟩ (.int .u8 1)).alloc (.cells #[.slice (some ⟨gr, 0, none⟩) N N] 33)) := Gr.alloc (Gr.refl _) _ _
          have hg5 := Gr.trans HG4.out hga
          have hnb := Rb.gr (New.bs HW.out) (New.rb HW.out gp) hga
          have hrow := fun g hg => (ownsRow_not_bytes HO.out g hg).1
          have hpn := ownsRow_not_par ((HO.out.of_gr HG4.out).of_gr hga) (HP4.out.grown hga)
          have hap : Rws gp w5 (.slice (some ⟨gg, 0, none⟩) (n + 1) cap) ((List.range (n + 1)).map (aheadRow j H)) := by
            rw [List.range_succ, List.map_append, List.map_singleton]
            have hl : ((List.range n).map (aheadRow j H)).length = n := by simp
            exact Rws.append (by rw [hl]; exact (HO.out.of_gr HG4.out).of_gr hga) (fun i hi => Rb.gr (HR.out i (by rwa [hl] at hi)).1 (HR.out i (by rwa [hl] at hi)).2 hg5) hnb.1 hnb.2 (by rw [hl]; exact hown1) hgrow
          have hp5 : Par w5 gp j H S := by
            have h1 := HP4.out.grown hga
            unfold Par at *
            rw [hgrow.block gp (Array.getElem?_eq_some_iff.1 h1).1 (fun e => hpn e.symm)]
            exact h1
          exact ⟨⟨n + 1, by omega, by go_num, hap, hp5, Gr.append (Gr.trans HG.out hg5) hgrow (fun g hg => by rw [hgp]; exact hrow g hg)⟩, by simp [intOf]; omega⟩
    · obtain rfl : n = H := by omega
      go_wp2_with fail
      go_ret
      refine ⟨_, rfl, ?_, HG.out⟩
      rw [hgp]
      exact HRS.out
end Go.Proofs.Ytocigdcbfbnfoaa
