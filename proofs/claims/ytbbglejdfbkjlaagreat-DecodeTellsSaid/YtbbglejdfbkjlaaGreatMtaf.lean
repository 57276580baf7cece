/-
  Texts laid behind one another: Px La Lb Py Lc Ld Ya Na Nb Ja Jk Ap.
-/
import Derived.Test.YtbbglejdfbkjlaaGreatMtae
import Derived.Test.YtbbglejdfbkjlaaGreatMtac
import Derived.Deep.DeepCutAuto
import Derived.Test.YtbbglejdfbkjlaaGreatMtab
import Derived.Test.YtbbglejdfbkjlaaGreatMtad
import Derived.Laws.AppendOwnNone
import Derived.Deep.AppendLies
import Derived.Deep.RegionHeld3
namespace Go.Proofs.YtbbglejdfbkjlaaGreat
open Go.RowKit
theorem ownsRow_not_par {w : World} {base : Nat} {v : Value} {n gp : Nat} {us : List Value} {K H S : Int} (h : w.ownsRow base 25 1 v n us) (hp : Par w gp K H S) : v.ownBlock ≠ some gp := by
 intro hg
 obtain ⟨_, ⟨rfl, _⟩ | ⟨g', c, cur, rfl, hb, hgg, _⟩⟩ := h
 ·cases hg
 ·simp [Value.ownBlock] at hg
  subst hg
  unfold Par at hp
  rw [hgg] at hp
  simp at hp
theorem ahead_end (K H h : Nat) : (lst (K + H) (part (aheadF K h) K)).set (K + h) 1 = aheadRow K H h := by
 rw [lst_set]
 apply lst_congr
 intro j hj
 unfold part aheadF
 by_cases e : j = K + h
 ·rw [if_pos e, if_neg (by omega), if_pos e]
 ·rw [if_neg e]
  by_cases c : j < K
  ·rw [if_pos c]
  ·rw [if_neg c, if_neg c, if_neg e]
set_option maxRecDepth 100000 in
set_option maxHeartbeats 1600000 in
theorem refAhead_in (K H : Nat) (S : Int) (w : World) (hm : MayP K H S) :
  Calls Tryz.prog 76 #[par K H S] w fun e w' => ∃ v, e = .returned v ∧ Rws w.heap.size w' v (ahead K H) ∧ Gr w w' := by
 have hd := decide_eq_true hm
 obtain ⟨i0, hi0, hz0, hz1, hz2⟩ := info_parts info22
 have I0 := Lib.hid hi0
 have I1 := Lib.hid hz0
 have I2 := Lib.hid hz1
 have I3 := Lib.hid hz2
 clear hi0 hz0 hz1 hz2
 obtain ⟨b1, b2, b3, b4, _, _⟩ := hm
 go_enter Tryz.func76, Tryz.ntmps76
 have hK := Lib.hid b2
 obtain ⟨N, hN⟩ : ∃ N, K + H = N := ⟨_, rfl⟩
 have hN' : (K : Int) + (H : Int) = (N : Int) := by omega
 have hN64 : N ≤ 20 := by omega
 have HN := Lib.hid hN
 have hmk := make22 N N (by omega) (by omega)
 have hR : ∃ cur, cur = rowB (List.replicate N 0) := ⟨_, rfl⟩
 obtain ⟨cur, hcur⟩ := hR
 rw [← hcur] at hmk
 have HC := Lib.hid hcur
 clear hcur hN
 have P0 : Hid (Par (w.alloc (.cells #[.int .i64 (K : Int), .int .i64 (H : Int), .int .i64 S] 23)) w.heap.size K H S) := Lib.hid (heap_alloc_new _ _)
 have HG0 : Hid (Gr w (w.alloc (.cells #[.int .i64 (K : Int), .int .i64 (H : Int), .int .i64 S] 23))) := Lib.hid (Gr.alloc (Gr.refl _) _ _)
 go_wp2_with fail
 generalize w.alloc (.cells #[.int .i64 (K : Int), .int .i64 (H : Int), .int .i64 S] 23) = W0 at *
 generalize hgp : w.heap.size = gp at *
 go_loopw [3, 4] (fun o i wr => ∃ n : Nat, n ≤ H ∧ i = .int .i64 n ∧ Rws gp wr o ((List.range n).map (aheadRow K H)) ∧ Par wr gp K H S ∧ Gr w wr) (fun _ i _ => H - (intOf i).toNat)
 case atStart => exact ⟨0, by omega, rfl, Rws.nil _ _, P0.out, HG0.out⟩
 case round =>
  clear P0 HG0
  obtain ⟨wo, hwo⟩ : ∃ x, x = wr := ⟨_, rfl⟩
  subst hwo
  obtain ⟨n, hn, rfl, hrs, hp, hg⟩ := hrel
  have P1 := Lib.hid hp
  have HG := Lib.hid hg
  have HRS := Lib.hid hrs
  obtain ⟨us, ho, hr⟩ := hrs
  have hlen : ((List.range n).map (aheadRow K H)).length = n := by simp
  rw [hlen] at ho hr
  obtain ⟨oo, co, rfl⟩ := ownsRow_form ho
  have HO := Lib.hid ho
  have HR := Lib.hid hr
  clear ho hg hr hlen
  have c0 := hp.cell0
  have c1 := hp.cell1
  have c2 := hp.cell2
  clear hp
  by_cases hlt : n < H
  ·obtain ⟨q, hq, hqN⟩ : ∃ q : Nat, (K : Int) + (n : Int) = q ∧ q < N := ⟨K + n, by omega, by omega⟩
   go_wp2_with fail
   refine (refMay_any K H S _).mono ?_
   rw [hd]
   rintro e w1 ⟨rfl, hg1⟩
   have P2 := Lib.hid (P1.out.grown hg1)
   have c0 := P2.out.cell0
   have c1 := P2.out.cell1
   have HG1 := Lib.hid hg1
   have MK : Hid (Making w1 w1.heap.size N (aheadF K n) 0 (w1.alloc (.cells cur 5))) := Lib.hid ⟨Gr.alloc (Gr.refl _) _ _, Nat.le_refl _, by rw [HC.out, ← part_nil]; exact heap_alloc_new _ _⟩
   have P3 := Lib.hid (P2.out.grown (Gr.alloc (Gr.refl w1) cur 5))
   clear hg1 c2
   go_wp2_with fail
   clear c0 c1
   generalize w1.alloc (.cells cur 5) = W3 at *
   generalize hgr : w1.heap.size = gr at *
   go_loopw [6] (fun i W => ∃ j : Nat, j ≤ K ∧ i = .int .i64 j ∧ Making w1 gr N (aheadF K n) j W) (fun i _ => K - (intOf i).toNat)
   case atStart => exact ⟨0, by omega, rfl, MK.out⟩
   case round =>
    clear MK P3
    obtain ⟨wi, hwi⟩ : ∃ x, x = wr := ⟨_, rfl⟩
    subst hwi
    obtain ⟨j, hj, rfl, hm⟩ := hrel
    have HM := Lib.hid hm
    have P3 := P2.out.grown hm.1
    have c0 := P3.cell0
    have c1 := P3.cell1
    clear hm P3
    by_cases hlj : j < K
    ·have q3 := Blk.cell HM.out.2.2 j (by rw [lst_length]; omega)
     have q4 := frozen_of_row wi gr j _ _ HM.out.2.2
     have hE : ((n : Int) + 1) * ((j : Int) + 1) = (((n + 1) * (j + 1) : Nat) : Int) := by simp
     have hF : expZ (((n + 1) * (j + 1) : Nat) : Int) = aheadF K n j := by unfold aheadF; rw [if_pos hlj]
     have hle : (n + 1) * (j + 1) ≤ 64 := Nat.le_trans (Nat.mul_le_mul (by omega : n + 1 ≤ 4) (by omega : j + 1 ≤ 16)) (by omega)
     have hjN : (j : Int) < N := by omega
     obtain ⟨e, he⟩ : ∃ e : Nat, (n + 1) * (j + 1) = e := ⟨_, rfl⟩
     rw [he] at hE hF hle
     clear he
     go_wp2_with fail
     refine (refExp_any (e : Int) _).mono ?_
     rintro e' w' ⟨rfl, rfl⟩
     rw [hF]
     go_wp2_with fail
     exact ⟨⟨j + 1, by omega, by go_num, Making.store HM.out⟩, by simp [intOf]; omega⟩
    ·obtain rfl : j = K := by omega
     have q3 := Blk.cell HM.out.2.2 q (by rw [lst_length]; omega)
     have q4 := frozen_of_row wi gr q _ _ HM.out.2.2
     have hN2 := HN.out
     have hq2 : q = j + n := by omega
     have hrow : (lst N (part (aheadF j n) j)).set q 1 = aheadRow j H n := by
      rw [← hN2, hq2]
      exact ahead_end j H n
     have hblk : Blk (wi.setCell ⟨gr, q, none⟩ (.int .u8 1)) gr (aheadRow j H n) := by
      unfold Blk
      rw [heap_setCell_same _ _ _ _ _ _ HM.out.2.2, rowB_set, hrow]
     have hg4 : Gr w1 (wi.setCell ⟨gr, q, none⟩ (.int .u8 1)) := Gr.setCell HM.out.1 (by have := HM.out.2.1; omega) _
     have hnw : New w1 (wi.setCell ⟨gr, q, none⟩ (.int .u8 1)) (.slice (some ⟨gr, 0, none⟩) N N) (aheadRow j H n) := by
      refine ⟨hg4, lst_byt fun i _ => aheadF_byt j n i, .inr ⟨gr, N, _, by rw [aheadRow_length, hN2], HM.out.2.1, hblk, by rw [aheadRow_length]; omega, by omega, fun i hi => rowB_get _ i hi⟩⟩
     have HW := Lib.hid hnw
     have HG4 : Hid (Gr wo (wi.setCell ⟨gr, q, none⟩ (.int .u8 1))) := Lib.hid (Gr.trans HG1.out hg4)
     have HP4 : Hid (Par (wi.setCell ⟨gr, q, none⟩ (.int .u8 1)) gp j H S) := Lib.hid (P2.out.grown hg4)
     have HG0 : Hid (gp ≤ wo.heap.size) := Lib.hid (by rw [← hgp]; exact HG.out.size)
     clear hN2 hrow hblk hg4 hnw hq2
     go_wp2_with (first
       | (at_builtin; refine wpList_append_lies _ rfl _ _ _ rfl gp 25 i0 _ 1 24 Tryz.underlying65 I0.out I1.out I2.out I3.out rfl (by omega) (.slice oo n co) n us rfl ((HO.out.of_gr HG4.out).alloc _) ⟨wi.heap.size, 0, none⟩ 1 1 [.slice (some ⟨gr, 0, none⟩) N N] rfl rfl (World.news_of_block (cs := #[.slice (some ⟨gr, 0, none⟩) N N]) (t := 25) (fr := (0, 0)) (by have := heap_alloc_new (wi.setCell ⟨gr, q, none⟩ (.int .u8 1)) (.cells #[.slice (some ⟨gr, 0, none⟩) N N] 25); rwa [World.size_setCell] at this)) (by simp [Value.oneCell']) (by omega) (by unfold maxLen; omega) (by omega) (by have := HG0.out; have := HG4.out.size; simp at this; simp; omega) (wi.heap.size + 1) (by simp) ?_; intro gg cap w5 hown1 hgrow hat hlt2))
     have hga : Gr (wi.setCell ⟨gr, q, none⟩ (.int .u8 1)) ((wi.setCell ⟨gr, q, none⟩ (.int .u8 1)).alloc (.cells #[.slice (some ⟨gr, 0, none⟩) N N] 25)) := Gr.alloc (Gr.refl _) _ _
     have hg5 := Gr.trans HG4.out hga
     have hnb := Rb.gr (New.bs HW.out) (New.rb HW.out gp) hga
     have hrow := fun g hg => (ownsRow_not_bytes HO.out g hg).1
     have hpn := ownsRow_not_par ((HO.out.of_gr HG4.out).of_gr hga) (HP4.out.grown hga)
     have hap : Rws gp w5 (.slice (some ⟨gg, 0, none⟩) (n + 1) cap) ((List.range (n + 1)).map (aheadRow j H)) := by
      rw [List.range_succ, List.map_append, List.map_singleton]
      have hl : ((List.range n).map (aheadRow j H)).length = n := by simp
      exact Rws.append (by rw [hl]; exact (HO.out.of_gr HG4.out).of_gr hga) (fun i hi => Rb.gr (HR.out i (by rwa [hl] at hi)).1 (HR.out i (by rwa [hl] at hi)).2 hg5) hnb.1 hnb.2 (by rw [hl]; exact hown1) hgrow
     have hp5 : Par w5 gp j H S := by
      have h1 := HP4.out.grown hga
      unfold Par at *
      rw [hgrow.block gp (Array.getElem?_eq_some_iff.1 h1).1 (fun e => hpn e.symm)]
      exact h1
     exact ⟨⟨n + 1, by omega, by go_num, hap, hp5, Gr.append (Gr.trans HG.out hg5) hgrow (fun g hg => by rw [hgp]; exact hrow g hg)⟩, by simp [intOf]; omega⟩
  ·obtain rfl : n = H := by omega
   go_wp2_with fail
   go_ret
   refine ⟨_, rfl, ?_, HG.out⟩
   rw [hgp]
   exact HRS.out
end Go.Proofs.YtbbglejdfbkjlaaGreat
namespace Go.Proofs.YtbbglejdfbkjlaaGreat
open Go.RowKit
theorem tab_length_le' (l : Int) : (T.tab l).length ≤ 64 := by
 by_cases h : 1 ≤ l ∧ l ≤ 64
 ·obtain ⟨N, rfl⟩ : ∃ N : Nat, l = N := ⟨l.toNat, by omega⟩
  rw [T.tab_in (by omega) (by omega), T.tabZ_length]
  omega
 ·rw [T.tab_out h]
  simp
theorem degA_le : ∀ (t : List Int) (x : Int) (k : Nat), 0 ≤ T.degA t x k ∧ T.degA t x k ≤ (k + t.length : Nat)
 | [], x, k => by simp [T.degA]
 | a :: t, x, k => by
  have ih := degA_le t x (k + 1)
  unfold T.degA
  split
  ·simp; omega
  ·simp at ih ⊢
   omega
theorem drawV_le (t : List Int) (s : Nat) : 0 ≤ drawV t s ∧ drawV t s ≤ t.length := by
 unfold drawV
 split
 ·omega
 ·unfold T.deg
  split
  ·omega
  ·have := degA_le t (belowV s (lastZ' t)) 0
   simpa using this
def MayI (id : Int) : Prop := 0 ≤ id ∧ id ≤ 65535
instance (id : Int) : Decidable (MayI id) := by unfold MayI; exact inferInstance
def mixS (seed : Nat) (id : Nat) : Nat := seed ^^^ (id * 2654435761 % 4294967296)
theorem mixS_lt {seed : Nat} (h : seed < 4294967296) (id : Nat) : mixS seed id < 4294967296 := by
 unfold mixS
 exact Nat.xor_lt_two_pow (n := 32) h (Nat.mod_lt _ (by omega))
def atN (N seed id : Nat) : List Int := C.someZ (drawS (T.tab N) (nextS (mixS seed id))) N (drawV (T.tab N) (nextS (mixS seed id)))
def atP (K H S : Int) (seed : Nat) (id : Int) : List Int := if MayP K H S ∧ MayI id then atN (K.toNat + H.toNat) seed id.toNat else []
set_option maxHeartbeats 400000 in
theorem refMayID_any (id : Int) (w : World) :
  Calls Tryz.prog 40 #[.int .i64 id] w fun e w' => e = .returned (.bool (decide (MayI id))) ∧ w = w' := by
 go_enter Tryz.func40, Tryz.ntmps40
 go_wp2
 all_goals
  go_ret
  refine ⟨?_, rfl⟩
  first
   | (rw [show decide (MayI id) = false from decide_eq_false (by unfold MayI; omega)]; rfl)
   | (rw [show decide (MayI id) = decide (id ≤ 65535) from by rw [decide_eq_decide]; unfold MayI; omega]; rfl)
set_option maxRecDepth 100000 in
set_option maxHeartbeats 1600000 in
theorem refAt_in (K H : Nat) (S : Int) (seed id : Nat) (w : World) (hm : MayP K H S) (hi : id ≤ 65535) (hs : seed < 4294967296) :
  Calls Tryz.prog 44 #[par K H S, .int .u32 (seed : Int), .int .i64 (id : Int)] w fun e w' => ∃ v, e = .returned v ∧ Zs w' v (atN (K + H) seed id) ∧ Gr w w' := by
 have hd := decide_eq_true hm
 have hdi : decide (MayI (id : Int)) = true := decide_eq_true (by unfold MayI; omega)
 have hm' := hm
 obtain ⟨b1, b2, b3, b4, _, _⟩ := hm'
 have P0 : Hid (Par (w.alloc (.cells #[.int .i64 (K : Int), .int .i64 (H : Int), .int .i64 S] 23)) w.heap.size K H S) := Lib.hid (heap_alloc_new _ _)
 have HG0 : Hid (Gr w (w.alloc (.cells #[.int .i64 (K : Int), .int .i64 (H : Int), .int .i64 S] 23))) := Lib.hid (Gr.alloc (Gr.refl _) _ _)
 obtain ⟨mx, hmx, hmx2⟩ : ∃ mx : Nat, mixS seed id = mx ∧ mx < 4294967296 := ⟨_, rfl, mixS_lt hs id⟩
 have hxo : bits BinOp.xor IntKind.u32 (seed : Int) ((id : Int) * 2654435761 % 4294967296) = (mx : Int) := by
  rw [show (id : Int) * 2654435761 % 4294967296 = ((id * 2654435761 % 4294967296 : Nat) : Int) from by omega, u32_xor_nat _ _ hs (Nat.mod_lt _ (by omega)), ← hmx]
  rfl
 have hwx : IntKind.u64.wrap (mx : Int) = mx := by simp [IntKind.wrap, IntKind.bits, IntKind.signed]; omega
 have HMX := Lib.hid hmx
 clear hmx
 obtain ⟨N, hN⟩ : ∃ N, K + H = N := ⟨_, rfl⟩
 have HN := Lib.hid hN
 have hN20 : N ≤ 20 := by omega
 have HCO : Hid (colsP (K : Int) (H : Int) (S : Int) = N) := Lib.hid (by unfold colsP; rw [if_pos (by assumption)]; omega)
 clear hN hm
 go_enter Tryz.func44, Tryz.ntmps44
 go_wp2_with fail
 generalize w.alloc (.cells #[.int .i64 (K : Int), .int .i64 (H : Int), .int .i64 S] 23) = W0 at *
 generalize hgp : w.heap.size = gp at *
 refine (refMay_any K H S _).mono ?_
 rw [hd]
 rintro e w1 ⟨rfl, hg1⟩
 have P1 := Lib.hid (P0.out.grown hg1)
 have HG1 := Lib.hid (Gr.trans HG0.out hg1)
 clear hg1 P0 HG0
 go_wp2_with fail
 refine (refMayID_any id _).mono ?_
 rw [hdi]
 rintro e w' ⟨rfl, rfl⟩
 go_wp2_with fail
 have R2 : Hid (RAt (w1.alloc (.cells #[.int .u64 (mx : Int)] 121)) w1.heap.size mx) := Lib.hid (heap_alloc_new _ _)
 have P2 := Lib.hid (P1.out.grown (Gr.alloc (Gr.refl w1) #[.int .u64 (mx : Int)] 121))
 have HG2 : Hid (Gr w (w1.alloc (.cells #[.int .u64 (mx : Int)] 121))) := Lib.hid (Gr.alloc HG1.out _ _)
 have HGB : Hid (w.heap.size ≤ w1.heap.size) := Lib.hid HG1.out.size
 have HPN : Hid (gp ≠ w1.heap.size) := Lib.hid (by have := (Array.getElem?_eq_some_iff.1 P1.out).1; omega)
 clear P1 HG1
 generalize w1.alloc (.cells #[.int .u64 (mx : Int)] 121) = W2 at *
 generalize w1.heap.size = gr at *
 refine (refNext_any gr mx _ R2.out).mono ?_
 rintro e w3 ⟨rfl, hr3, hk3⟩
 have R3 := Lib.hid hr3
 have HG3 : Hid (Gr w w3) := Lib.hid (hk3.gr HG2.out (fun k e => by subst e; exact HGB.out))
 have P3 : Hid (Par w3 gp K H S) := Lib.hid (hk3.block P2.out HPN.out)
 have c0 := P3.out.cell0
 have c1 := P3.out.cell1
 have c2 := P3.out.cell2
 clear hr3 hk3 R2 P2 HG2
 obtain ⟨s1, hs1⟩ : ∃ s, nextS mx = s := ⟨_, rfl⟩
 rw [hs1] at R3
 have HS1 := Lib.hid hs1
 clear hs1
 go_wp2_with fail
 refine (refCols_any K H S _).mono ?_
 rw [HCO.out]
 rintro e w4 ⟨rfl, hg4⟩
 have P4 := Lib.hid (P3.out.grown hg4)
 have R4 := Lib.hid (R3.out.kept (hg4.kp fun _ => False) (fun e => e))
 have HG4 := Lib.hid (Gr.trans HG3.out hg4)
 clear hg4 P3 R3 HG3 c0 c1 c2
 go_wp2_with fail
 refine (refTable_any N _).mono ?_
 rintro e w5 ⟨v5, rfl, hz5, hg5⟩
 have P5 := Lib.hid (P4.out.grown hg5)
 have R5 := Lib.hid (R4.out.kept (hg5.kp fun _ => False) (fun e => e))
 have HG5 := Lib.hid (Gr.trans HG4.out hg5)
 have Z5 := Lib.hid hz5
 clear hg5 hz5 P4 R4 HG4
 go_wp2_with fail
 refine (refDrawDegree_any v5 (T.tab N) gr s1 _ Z5.out (by have := tab_length_le' (N : Int); omega) R5.out).mono ?_
 rintro e w6 ⟨rfl, hr6, hk6⟩
 have R6 := Lib.hid hr6
 have HG6 : Hid (Gr w w6) := Lib.hid (hk6.gr HG5.out (fun k e => by subst e; exact HGB.out))
 have P6 : Hid (Par w6 gp K H S) := Lib.hid (hk6.block P5.out HPN.out)
 have c0 := P6.out.cell0
 have c1 := P6.out.cell1
 have c2 := P6.out.cell2
 clear hr6 hk6 P5 R5 HG5 Z5
 obtain ⟨kk, hkk⟩ : ∃ k, drawV (T.tab N) s1 = k := ⟨_, rfl⟩
 obtain ⟨s2, hs2⟩ : ∃ s, drawS (T.tab N) s1 = s := ⟨_, rfl⟩
 rw [hs2] at R6
 rw [hkk]
 have HKK := Lib.hid hkk
 have HS2 := Lib.hid hs2
 clear hkk hs2
 go_wp2_with fail
 refine (refCols_any K H S _).mono ?_
 rw [HCO.out]
 rintro e w7 ⟨rfl, hg7⟩
 have R7 := Lib.hid (R6.out.kept (hg7.kp fun _ => False) (fun e => e))
 have HG7 := Lib.hid (Gr.trans HG6.out hg7)
 clear hg7 P6 R6 HG6 c0 c1 c2
 go_wp2_with fail
 refine (refSome_any gr s2 N kk _ R7.out ⟨by omega, by omega⟩ (by rw [← HKK.out]; have h1 := drawV_le (T.tab N) s1; have h2 := tab_length_le' (N : Int); exact ⟨by omega, by omega⟩)).mono ?_
 rintro e w8 ⟨v8, rfl, hz8, hr8, hk8⟩
 have HG8 : Hid (Gr w w8) := Lib.hid (hk8.gr HG7.out (fun k e => by subst e; exact HGB.out))
 have Z8 : Hid (Zs w8 v8 (atN (K + H) seed id)) := Lib.hid (by
   unfold atN
   rw [HN.out, HMX.out, HS1.out, HS2.out, HKK.out]
   exact hz8)
 clear hz8 hr8 hk8
 go_wp2_with fail
 go_ret
 exact ⟨_, rfl, Z8.out, HG8.out⟩
set_option maxRecDepth 100000 in
set_option maxHeartbeats 800000 in
theorem refAt_ne (K H S : Int) (seed : Nat) (id : Int) (w : World) (hm : ¬ (MayP K H S ∧ MayI id)) :
  Calls Tryz.prog 44 #[par K H S, .int .u32 (seed : Int), .int .i64 id] w fun e w' => e = .returned (.slice none 0 0) ∧ Gr w w' := by
 have HG0 : Hid (Gr w (w.alloc (.cells #[.int .i64 K, .int .i64 H, .int .i64 S] 23))) := Lib.hid (Gr.alloc (Gr.refl _) _ _)
 by_cases hp : MayP K H S
 ·have hd := decide_eq_true hp
  have hdi : decide (MayI id) = false := decide_eq_false fun e => hm ⟨hp, e⟩
  clear hm hp
  go_enter Tryz.func44, Tryz.ntmps44
  go_wp2_with fail
  refine (refMay_any K H S _).mono ?_
  rw [hd]
  rintro e w1 ⟨rfl, hg1⟩
  have HG1 := Lib.hid (Gr.trans HG0.out hg1)
  clear hg1
  go_wp2_with fail
  refine (refMayID_any id _).mono ?_
  rw [hdi]
  rintro e w' ⟨rfl, rfl⟩
  go_wp2_with fail
  go_ret
  exact ⟨rfl, HG1.out⟩
 ·have hd := decide_eq_false hp
  clear hm hp
  go_enter Tryz.func44, Tryz.ntmps44
  go_wp2_with fail
  refine (refMay_any K H S _).mono ?_
  rw [hd]
  rintro e w1 ⟨rfl, hg1⟩
  have HG1 := Lib.hid (Gr.trans HG0.out hg1)
  clear hg1
  go_wp2_with fail
  go_ret
  exact ⟨rfl, HG1.out⟩
theorem refAt_any (K H S : Int) (seed : Nat) (id : Int) (w : World) (hs : seed < 4294967296) :
  Calls Tryz.prog 44 #[par K H S, .int .u32 (seed : Int), .int .i64 id] w fun e w' => ∃ v, e = .returned v ∧ Zs w' v (atP K H S seed id) ∧ Gr w w' := by
 unfold atP
 by_cases hm : MayP K H S ∧ MayI id
 ·rw [if_pos hm]
  obtain ⟨h1, h2⟩ := hm
  obtain ⟨k, hk⟩ : ∃ k : Nat, K = k := ⟨K.toNat, by have := h1.1; omega⟩
  obtain ⟨h, hh⟩ : ∃ h : Nat, H = h := ⟨H.toNat, by have := h1.2.2.1; omega⟩
  obtain ⟨i, hi⟩ : ∃ i : Nat, id = i := ⟨id.toNat, by have := h2.1; omega⟩
  subst hk hh hi
  rw [Int.toNat_natCast, Int.toNat_natCast, Int.toNat_natCast]
  exact refAt_in k h S seed i w h1 (by have := h2.2; omega) hs
 ·rw [if_neg hm]
  refine (refAt_ne K H S seed id w hm).mono ?_
  rintro e w' ⟨rfl, hg⟩
  exact ⟨_, rfl, Zs.nil _, hg⟩
end Go.Proofs.YtbbglejdfbkjlaaGreat
namespace Go.Proofs.YtbbglejdfbkjlaaGreat
open Go.RowKit
theorem someZ_rng (s : Nat) (n k : Int) : ∀ x ∈ C.someZ s n k, 0 ≤ x ∧ x < n := fun x hx => by
 unfold C.someZ at hx
 by_cases h : C.May n k
 ·rw [if_pos h] at hx
  obtain ⟨h1, h2, h3, h4⟩ := h
  have := C.some_rng (n := n.toNat) (k := k.toNat) (by omega) hx
  omega
 ·rw [if_neg h] at hx
  cases hx
theorem someZ_len (s : Nat) (n k : Int) : (C.someZ s n k).length ≤ 64 := by
 unfold C.someZ
 by_cases h : C.May n k
 ·rw [if_pos h]
  obtain ⟨h1, h2, h3, h4⟩ := h
  rw [C.some_length (by omega)]
  omega
 ·rw [if_neg h]
  simp
theorem atN_rng (N seed id : Nat) : ∀ x ∈ atN N seed id, 0 ≤ x ∧ x < (N : Int) := someZ_rng _ _ _
def onesL (N : Nat) (L : List Int) : List Int := lst N fun j => if (j : Int) ∈ L then 1 else 0
def rowP (K H S : Int) (seed : Nat) (id : Int) : List Int := if MayP K H S ∧ MayI id then onesL (K.toNat + H.toNat) (atN (K.toNat + H.toNat) seed id.toNat) else []
theorem onesL_length (N : Nat) (L : List Int) : (onesL N L).length = N := lst_length _ _
theorem onesL_byt (N : Nat) (L : List Int) : ∀ z ∈ onesL N L, Byt z := lst_byt fun i _ => by
 show Byt (if (i : Int) ∈ L then 1 else 0)
 split <;> (unfold Byt; omega)
theorem onesL_nil (N : Nat) : onesL N [] = List.replicate N 0 := by
 rw [part_nil N (fun _ => 0)]
 apply lst_congr
 intro j _
 simp [part]
theorem onesL_next {N : Nat} {L : List Int} {q : Nat} (h : q < N) : (onesL N L).set q 1 = onesL N (L ++ [(q : Int)]) := by
 unfold onesL
 rw [lst_set]
 apply lst_congr
 intro j _
 by_cases e : j = q
 ·subst e
  simp
 ·rw [if_neg e]
  have e2 : ¬ ((j : Int) = (q : Int)) := by omega
  simp [e2]
set_option maxRecDepth 100000 in
set_option maxHeartbeats 1600000 in
theorem refRow_in (K H : Nat) (S : Int) (seed id : Nat) (w : World) (hm : MayP K H S) (hi : id ≤ 65535) (hs : seed < 4294967296) :
  Calls Tryz.prog 77 #[par K H S, .int .u32 (seed : Int), .int .i64 (id : Int)] w fun e w' => ∃ v, e = .returned v ∧ New w w' v (onesL (K + H) (atN (K + H) seed id)) := by
 have hd := decide_eq_true hm
 have hdi : decide (MayI (id : Int)) = true := decide_eq_true (by unfold MayI; omega)
 obtain ⟨N, hN⟩ : ∃ N, K + H = N := ⟨_, rfl⟩
 have hm' := hm
 obtain ⟨b1, b2, b3, b4, _, _⟩ := hm'
 have hN20 : N ≤ 20 := by omega
 have HCO : Hid (colsP (K : Int) (H : Int) (S : Int) = N) := Lib.hid (by unfold colsP; rw [if_pos hm]; omega)
 have HAT := Lib.hid fun (W : World) => refAt_in K H S seed id W hm hi hs
 have P0 : Hid (Par (w.alloc (.cells #[.int .i64 (K : Int), .int .i64 (H : Int), .int .i64 S] 23)) w.heap.size K H S) := Lib.hid (heap_alloc_new _ _)
 have HG0 : Hid (Gr w (w.alloc (.cells #[.int .i64 (K : Int), .int .i64 (H : Int), .int .i64 S] 23))) := Lib.hid (Gr.alloc (Gr.refl _) _ _)
 have hmk := make22 N N (by omega) (by omega)
 obtain ⟨cur, hcur⟩ : ∃ cur, cur = rowB (List.replicate N 0) := ⟨_, rfl⟩
 rw [← hcur] at hmk
 have HCU := Lib.hid hcur
 rw [hN] at HAT ⊢
 obtain ⟨A, hA⟩ : ∃ A, atN N seed id = A := ⟨_, rfl⟩
 have HAL : Hid (A.length ≤ 64) := Lib.hid (by rw [← hA]; exact someZ_len _ _ _)
 have HAR : Hid (∀ x ∈ A, 0 ≤ x ∧ x < N) := Lib.hid (by rw [← hA]; exact atN_rng N seed id)
 rw [hA] at HAT ⊢
 clear hcur hA hm hN
 go_enter Tryz.func77, Tryz.ntmps77
 go_wp2_with fail
 generalize w.alloc (.cells #[.int .i64 (K : Int), .int .i64 (H : Int), .int .i64 S] 23) = W0 at *
 generalize hgp : w.heap.size = gp at *
 refine (refMay_any K H S _).mono ?_
 rw [hd]
 rintro e w1 ⟨rfl, hg1⟩
 have P1 := Lib.hid (P0.out.grown hg1)
 have HG1 := Lib.hid (Gr.trans HG0.out hg1)
 clear hg1 P0 HG0
 go_wp2_with fail
 refine (refMayID_any id _).mono ?_
 rw [hdi]
 rintro e w' ⟨rfl, rfl⟩
 have c0 := P1.out.cell0
 have c1 := P1.out.cell1
 have c2 := P1.out.cell2
 go_wp2_with fail
 refine (refCols_any K H S _).mono ?_
 rw [HCO.out]
 rintro e w4 ⟨rfl, hg4⟩
 have P4 := Lib.hid (P1.out.grown (Gr.trans hg4 (Gr.alloc (Gr.refl w4) cur 5)))
 have HG4 := Lib.hid (Gr.trans HG1.out hg4)
 clear hg4 P1 HG1 c0 c1 c2
 have B4 : Hid (Blk (w4.alloc (.cells cur 5)) w4.heap.size (onesL N [])) := Lib.hid (by rw [onesL_nil, HCU.out]; exact heap_alloc_new _ _)
 have HG5 : Hid (Gr w (w4.alloc (.cells cur 5))) := Lib.hid (Gr.alloc HG4.out _ _)
 have HGB : Hid (w.heap.size ≤ w4.heap.size) := Lib.hid HG4.out.size
 have c0 := P4.out.cell0
 have c1 := P4.out.cell1
 have c2 := P4.out.cell2
 go_wp2_with fail
 clear c0 c1 c2
 generalize w4.alloc (.cells cur 5) = W5 at *
 generalize w4.heap.size = gx at *
 refine (HAT.out W5).mono ?_
 rintro e w6 ⟨v6, rfl, hz6, hg6⟩
 obtain ⟨m, hm⟩ : ∃ m, A.length = m := ⟨_, rfl⟩
 obtain ⟨hzi, oa, ca, rfl, z2, z3, z4, z5⟩ := hz6
 rw [hm] at z2 z5 ⊢
 have HZ5 := Lib.hid z5
 have HMM := Lib.hid hm
 have B6 := Lib.hid (B4.out.grown hg6)
 have HG6 := Lib.hid (Gr.trans HG5.out hg6)
 have hm64 : m ≤ 64 := by rw [← hm]; exact HAL.out
 clear hg6 hzi z5 hm B4 HG5 HG4
 go_wp2_with fail
 have HZC : Hid (∀ a, oa = some a → ∀ i, i < m → w6.cell? (a.add i) = some (.int .i64 (A.getD i 0))) := Lib.hid HZ5.out
 have HGX : Hid (w.heap.size ≤ gx) := Lib.hid HGB.out
 go_loopw [26] (fun i wr => ∃ t : Nat, t ≤ m ∧ i = .int .i64 t ∧ Blk wr gx (onesL N (A.take t)) ∧ Gr w wr ∧ ∀ a, oa = some a → ∀ i, i < m → wr.cell? (a.add i) = some (.int .i64 (A.getD i 0))) (fun i _ => m - (intOf i).toNat)
 case atStart => exact ⟨0, by omega, rfl, by rw [List.take_zero]; exact B6.out, HG6.out, HZC.out⟩
 case round =>
  clear B6 HG6 HZC
  obtain ⟨wo, hwo⟩ : ∃ x, x = wr := ⟨_, rfl⟩
  subst hwo
  obtain ⟨t, ht, rfl, hb, hg, hc⟩ := hrel
  by_cases hlt : t < m
  ·obtain ⟨ad, rfl⟩ : ∃ a, oa = some a := by
    cases oa with
    | some a => exact ⟨a, rfl⟩
    | none => have := z4 rfl; omega
   have q1 := hc ad rfl t hlt
   have hmem : A.getD t 0 ∈ A := by
    have := HMM.out
    rw [List.getD_eq_getElem?_getD, List.getElem?_eq_getElem (by omega)]
    exact List.getElem_mem _
   have hrg := HAR.out _ hmem
   obtain ⟨q, hq⟩ : ∃ q : Nat, A.getD t 0 = q := ⟨(A.getD t 0).toNat, by omega⟩
   have hqN : q < N := by omega
   have hnx := onesL_next (L := A.take t) hqN
   have htk : A.take (t + 1) = A.take t ++ [(q : Int)] := by
    have := HMM.out
    rw [List.take_add_one, List.getElem?_eq_getElem (by omega), ← hq, List.getD_eq_getElem?_getD, List.getElem?_eq_getElem (by omega)]
    rfl
   have q8 := Blk.cell hb q (by rw [onesL_length]; exact hqN)
   have q9 := frozen_of_row wo gx q _ _ hb
   have HB' : Hid (Blk (wo.setCell ⟨gx, q, none⟩ (.int .u8 1)) gx (onesL N (A.take (t + 1)))) := Lib.hid (by
     unfold Blk
     rw [heap_setCell_same _ _ _ _ _ _ hb, rowB_set, hnx, htk])
   have HG' : Hid (Gr w (wo.setCell ⟨gx, q, none⟩ (.int .u8 1))) := Lib.hid (Gr.setCell hg HGX.out _)
   have HC' : Hid (∀ a, some ad = some a → ∀ i, i < m → (wo.setCell ⟨gx, q, none⟩ (.int .u8 1)).cell? (a.add i) = some (.int .i64 (A.getD i 0))) := Lib.hid (fun a ha i hi => by
     rw [World.cell?_setCell_other]
     · exact hc a ha i hi
     · intro e
       have h1 := hc a ha i hi
       rw [← e, q8] at h1
       simp at h1)
   rw [hq] at q1
   clear hb hg hc hmem hrg hnx htk hq
   generalize (onesL N (A.take t)).getD q 0 = old at *
   go_wp2_with fail
   exact ⟨⟨t + 1, by omega, by go_num, HB'.out, HG'.out, HC'.out⟩, by simp [intOf]; omega⟩
  ·obtain rfl : t = m := by omega
   have hall : A.take t = A := List.take_of_length_le (by have := HMM.out; omega)
   rw [hall] at hb
   have HB' : Hid (New w wo (.slice (some ⟨gx, 0, none⟩) N N) (onesL N A)) := Lib.hid ⟨hg, onesL_byt N A, .inr ⟨gx, N, _, by rw [onesL_length], HGX.out, hb, by rw [onesL_length]; omega, by omega, fun i hi => rowB_get _ i hi⟩⟩
   clear hb hg hc hall
   go_wp2_with fail
   go_ret
   exact ⟨_, rfl, HB'.out⟩
set_option maxRecDepth 100000 in
set_option maxHeartbeats 800000 in
theorem refRow_ne (K H S : Int) (seed : Nat) (id : Int) (w : World) (hm : ¬ (MayP K H S ∧ MayI id)) :
  Calls Tryz.prog 77 #[par K H S, .int .u32 (seed : Int), .int .i64 id] w fun e w' => e = .returned (.slice none 0 0) ∧ Gr w w' := by
 have HG0 : Hid (Gr w (w.alloc (.cells #[.int .i64 K, .int .i64 H, .int .i64 S] 23))) := Lib.hid (Gr.alloc (Gr.refl _) _ _)
 by_cases hp : MayP K H S
 ·have hd := decide_eq_true hp
  have hdi : decide (MayI id) = false := decide_eq_false fun e => hm ⟨hp, e⟩
  clear hm hp
  go_enter Tryz.func77, Tryz.ntmps77
  go_wp2_with fail
  refine (refMay_any K H S _).mono ?_
  rw [hd]
  rintro e w1 ⟨rfl, hg1⟩
  have HG1 := Lib.hid (Gr.trans HG0.out hg1)
  clear hg1
  go_wp2_with fail
  refine (refMayID_any id _).mono ?_
  rw [hdi]
  rintro e w' ⟨rfl, rfl⟩
  go_wp2_with fail
  go_ret
  exact ⟨rfl, HG1.out⟩
 ·have hd := decide_eq_false hp
  clear hm hp
  go_enter Tryz.func77, Tryz.ntmps77
  go_wp2_with fail
  refine (refMay_any K H S _).mono ?_
  rw [hd]
  rintro e w1 ⟨rfl, hg1⟩
  have HG1 := Lib.hid (Gr.trans HG0.out hg1)
  clear hg1
  go_wp2_with fail
  go_ret
  exact ⟨rfl, HG1.out⟩
theorem refRow_new (K H S : Int) (seed : Nat) (id : Int) (w : World) (hs : seed < 4294967296) :
  Calls Tryz.prog 77 #[par K H S, .int .u32 (seed : Int), .int .i64 id] w fun e w' => ∃ v, e = .returned v ∧ New w w' v (rowP K H S seed id) := by
 unfold rowP
 by_cases hm : MayP K H S ∧ MayI id
 ·rw [if_pos hm]
  obtain ⟨h1, h2⟩ := hm
  obtain ⟨k, hk⟩ : ∃ k : Nat, K = k := ⟨K.toNat, by have := h1.1; omega⟩
  obtain ⟨h, hh⟩ : ∃ h : Nat, H = h := ⟨H.toNat, by have := h1.2.2.1; omega⟩
  obtain ⟨i, hi⟩ : ∃ i : Nat, id = i := ⟨id.toNat, by have := h2.1; omega⟩
  subst hk hh hi
  rw [Int.toNat_natCast, Int.toNat_natCast, Int.toNat_natCast]
  exact refRow_in k h S seed i w h1 (by have := h2.2; omega) hs
 ·rw [if_neg hm]
  refine (refRow_ne K H S seed id w hm).mono ?_
  rintro e w' ⟨rfl, hg⟩
  exact ⟨_, rfl, hg, by simp, .inl ⟨rfl, none, 0, rfl, fun _ => rfl, by omega⟩⟩
end Go.Proofs.YtbbglejdfbkjlaaGreat
namespace Go.Proofs.YtbbglejdfbkjlaaGreat
open Go.RowKit
theorem Bss.form3 {w : World} {v : Value} {L : List (List Int)} (h : Bss w v L) : ∃ o m c, v = .slice o m c := by
 obtain ⟨o, c, h, _⟩ := h
 exact ⟨o, _, c, h⟩
theorem aheadP_in {K H : Nat} {S : Int} (h : MayP K H S) : aheadP K H S = ahead K H := by
 unfold aheadP
 rw [if_pos h, Int.toNat_natCast, Int.toNat_natCast]
end Go.Proofs.YtbbglejdfbkjlaaGreat
namespace Go.Proofs.YtbbglejdfbkjlaaGreat
open Go.RowKit
structure LtOk : Prop where
 cols : ∀ (K H S : Int) (seed : Nat) (id : Int) (w : World), seed < 4294967296 → I64 id →
  Calls Tryz.prog 85 #[par K H S, .int .u32 (seed : Int), .int .i64 id] w fun e w' => ∃ v, e = .returned v ∧ OwnZ w.heap.size w' v (atP K H S seed id) ∧ Gr w w'
 row : ∀ (K H S : Int) (seed : Nat) (id : Int) (w : World), seed < 4294967296 → I64 id →
  Calls Tryz.prog 45 #[par K H S, .int .u32 (seed : Int), .int .i64 id] w fun e w' => ∃ v, e = .returned v ∧ New w w' v (rowP K H S seed id)
end Go.Proofs.YtbbglejdfbkjlaaGreat
namespace Go.Proofs.YtbbglejdfbkjlaaGreat
open Go.RowKit
theorem tab_pos {N : Nat} (h1 : 1 ≤ N) (h2 : N ≤ 64) {j : Nat} (hj : j < N) : 1 ≤ (T.tabZ N).getD j 0 := by
 rw [T.tabZ_at hj]
 have := T.sum_lt h1 h2 (j + 1) 0 (by omega) (by omega)
 omega
theorem someZ_some {s n k : Nat} (h1 : n ≤ 64) (h2 : k ≤ n) : C.someZ s n k = C.some s n k := by
 unfold C.someZ
 rw [if_pos ⟨by omega, by omega, by omega, by omega⟩, Int.toNat_natCast, Int.toNat_natCast]
theorem belowV_lt (s : Nat) {n : Int} (h : 0 < n) : belowV s n < n := by
 unfold belowV
 rw [if_neg (by omega)]
 exact Int.emod_lt_of_pos _ h
theorem drawV_pos {N : Nat} (h1 : 1 ≤ N) (h2 : N ≤ 64) (s : Nat) : 1 ≤ drawV (T.tab N) s := by
 have hl := T.tabZ_length N
 have hne : T.tabZ N ≠ [] := fun e => by rw [e] at hl; simp at hl; omega
 have hp := tab_pos h1 h2 (j := N - 1) (by omega)
 rw [T.tab_in h1 h2]
 unfold drawV
 rw [if_neg hne]
 have hlast : lastZ' (T.tabZ N) = (T.tabZ N).getD (N - 1) 0 := by unfold lastZ'; rw [hl]
 obtain ⟨j, _, h⟩ := T.deg_some (t := T.tabZ N) (x := belowV s (lastZ' (T.tabZ N))) (belowV_rng _ _).1 (by omega) (by
   rw [hl, ← hlast]
   exact belowV_lt _ (by omega))
 rw [h]
 omega
theorem atN_some {N : Nat} (h1 : 1 ≤ N) (h2 : N ≤ 64) (seed id : Nat) : ∃ s k : Nat, 1 ≤ k ∧ k ≤ N ∧ atN N seed id = C.some s N k := by
 have ha := drawV_pos h1 h2 (nextS (mixS seed id))
 have hb := (drawV_le (T.tab N) (nextS (mixS seed id))).2
 rw [T.tab_in h1 h2, T.tabZ_length] at hb
 rw [T.tab_in h1 h2] at ha
 unfold atN
 rw [T.tab_in h1 h2]
 obtain ⟨k, hk⟩ : ∃ k : Nat, drawV (T.tabZ N) (nextS (mixS seed id)) = k := ⟨(drawV (T.tabZ N) (nextS (mixS seed id))).toNat, by omega⟩
 rw [hk] at ha hb ⊢
 exact ⟨_, k, by omega, by omega, someZ_some h2 (by omega)⟩
theorem atN_len {N : Nat} (h1 : 1 ≤ N) (h2 : N ≤ 64) (seed id : Nat) : 1 ≤ (atN N seed id).length ∧ (atN N seed id).length ≤ N := by
 obtain ⟨s, k, ha, hb, h⟩ := atN_some h1 h2 seed id
 rw [h, C.some_length hb]
 exact ⟨ha, hb⟩
theorem atN_rising {N : Nat} (h1 : 1 ≤ N) (h2 : N ≤ 64) (seed id : Nat) : Rising (atN N seed id) := by
 obtain ⟨s, k, _, hb, h⟩ := atN_some h1 h2 seed id
 rw [h]
 exact rising_of (C.some_sorted hb)
end Go.Proofs.YtbbglejdfbkjlaaGreat
namespace Go.Proofs.YtbbglejdfbkjlaaGreat
open Go.RowKit
def matP (K H S : Int) (seed : Nat) (ids : List Int) : List (List Int) :=
 if MayP K H S then ahead K.toNat H.toNat ++ (ids.filter fun i => decide (MayI i)).map (rowP K H S seed) else []
def firstI (n : Nat) : List Int := (List.range n).map fun i : Nat => (i : Int)
theorem firstI_length (n : Nat) : (firstI n).length = n := by simp [firstI]
theorem firstI_succ (n : Nat) : firstI (n + 1) = firstI n ++ [(n : Int)] := by simp [firstI, List.range_succ]
theorem firstI_i64 {n : Nat} (h : n ≤ 1000) : ∀ x ∈ firstI n, I64 x := fun x hx => by
 simp only [firstI, List.mem_map, List.mem_range] at hx
 obtain ⟨a, h1, rfl⟩ := hx
 exact ⟨by omega, by omega⟩
def FullP (K H S : Int) (seed : Nat) (ids : List Int) : Prop := MayP K H S ∧ (rkL (matP K H S seed ids) : Int) = colsP K H S
noncomputable instance (K H S : Int) (seed : Nat) (ids : List Int) : Decidable (FullP K H S seed ids) := by unfold FullP; exact inferInstance
def RightP (K H S : Int) (seed : Nat) : Prop := FullP K H S seed (firstI K.toNat)
noncomputable instance (K H S : Int) (seed : Nat) : Decidable (RightP K H S seed) := by unfold RightP; exact inferInstance
theorem matP_in {K H : Nat} {S : Int} (hm : MayP K H S) (seed : Nat) (ids : List Int) : matP K H S seed ids = ahead K H ++ (ids.filter fun i => decide (MayI i)).map (rowP K H S seed) := by
 unfold matP
 rw [if_pos hm, Int.toNat_natCast, Int.toNat_natCast]
theorem rowP_in {K H : Nat} {S id : Int} (hm : MayP K H S) (hi : MayI id) (seed : Nat) : rowP K H S seed id = onesL (K + H) (atN (K + H) seed id.toNat) := by
 unfold rowP
 rw [if_pos ⟨hm, hi⟩, Int.toNat_natCast, Int.toNat_natCast]
theorem rowP_wide {K H : Nat} {S id : Int} (hm : MayP K H S) (hi : MayI id) (seed : Nat) : (rowP K H S seed id).length = K + H ∧ ∀ z ∈ rowP K H S seed id, Byt z := by
 rw [rowP_in hm hi]
 exact ⟨onesL_length _ _, onesL_byt _ _⟩
theorem matP_wide {K H : Nat} {S : Int} (hm : MayP K H S) (seed : Nat) (ids : List Int) : Wide (K + H) (matP K H S seed ids) := fun r hr => by
 rw [matP_in hm, List.mem_append] at hr
 rcases hr with hr | hr
 ·exact ahead_wide K H r hr
 ·obtain ⟨i, hi, rfl⟩ := List.mem_map.1 hr
  exact rowP_wide hm (of_decide_eq_true (List.mem_filter.1 hi).2) seed
theorem matP_may (K H S : Int) (seed : Nat) (ids : List Int) : mayL (matP K H S seed ids) = true := by
 by_cases hm : MayP K H S
 ·have h0 := hm
  unfold MayP at h0
  obtain ⟨k, rfl⟩ : ∃ k : Nat, K = k := ⟨K.toNat, by omega⟩
  obtain ⟨h, rfl⟩ : ∃ h : Nat, H = h := ⟨H.toNat, by omega⟩
  exact (matP_wide hm seed ids).may (by omega)
 ·unfold matP
  rw [if_neg hm]
  rfl
theorem matP_length (K H S : Int) (seed : Nat) (ids : List Int) : (matP K H S seed ids).length ≤ 4 + ids.length := by
 unfold matP
 split
 ·rename_i hm
  unfold MayP at hm
  have := List.length_filter_le (fun i => decide (MayI i)) ids
  rw [List.length_append, ahead_length, List.length_map]
  omega
 ·simp
theorem matP_snoc (K H S : Int) (seed : Nat) (ids : List Int) (id : Int) : matP K H S seed (ids ++ [id]) = matP K H S seed ids ++ (if MayP K H S ∧ MayI id then [rowP K H S seed id] else []) := by
 unfold matP
 by_cases hm : MayP K H S
 ·rw [if_pos hm, if_pos hm, List.filter_append, List.map_append, ← List.append_assoc]
  by_cases hi : MayI id
  ·rw [if_pos ⟨hm, hi⟩]
   simp [hi]
  ·rw [if_neg (fun e => hi e.2)]
   simp [hi]
 ·rw [if_neg hm, if_neg hm, if_neg (fun e => hm e.1)]
  rfl
theorem matP_ne {K H S : Int} (hm : ¬ MayP K H S) (seed : Nat) (ids : List Int) : matP K H S seed ids = [] := by
 unfold matP
 rw [if_neg hm]
end Go.Proofs.YtbbglejdfbkjlaaGreat
namespace Go.Proofs.YtbbglejdfbkjlaaGreat
open Go.RowKit
def addL (S : Nat) (M : List (List Int)) (A : List Int) : List Int := A.foldl (fun s i => sumL (M.getD i.toNat []) s) (List.replicate S 0)
theorem addL_nil (S : Nat) (M : List (List Int)) : addL S M [] = List.replicate S 0 := rfl
theorem addL_snoc (S : Nat) (M : List (List Int)) (A : List Int) (i : Int) : addL S M (A ++ [i]) = sumL (M.getD i.toNat []) (addL S M A) := by
 unfold addL
 rw [List.foldl_append]
 rfl
theorem replicate_byt (S : Nat) : ∀ z ∈ List.replicate S (0 : Int), Byt z := fun z hz => by
 rw [List.eq_of_mem_replicate hz]
 unfold Byt
 omega
theorem sumL_byt {x y : List Int} (hx : ∀ z ∈ x, Byt z) (hy : ∀ z ∈ y, Byt z) : ∀ z ∈ sumL x y, Byt z := lst_byt fun i _ => addZ_byt (getD_byt hx i) (getD_byt hy i)
theorem vec_noughts (S : Nat) : vec (List.replicate S 0) = L.vzero := funext fun j => by
 show fb ((List.replicate S (0 : Int)).getD j 0) = L.zero
 rw [List.getD_eq_getElem?_getD, List.getElem?_replicate]
 split <;> rfl
theorem vec_ones_snoc {N q : Nat} {A : List Int} (hq : q < N) (hn : (q : Int) ∉ A) : vec (onesL N (A ++ [(q : Int)])) = L.vadd (vec (onesL N A)) (L.unit q) := funext fun j => by
 show fb ((onesL N (A ++ [(q : Int)])).getD j 0) = L.add (fb ((onesL N A).getD j 0)) (L.unit q j)
 by_cases hj : j < N
 ·unfold onesL
  rw [lst_getD _ _ _ hj, lst_getD _ _ _ hj]
  unfold L.unit
  by_cases e : j = q
  ·subst e
   rw [if_pos rfl, if_neg hn, if_pos (by simp), fb_zero, L.zero_add, fb_one]
  ·rw [if_neg e, L.add_zero]
   have : ((j : Int) ∈ A ++ [(q : Int)]) = ((j : Int) ∈ A) := by
    simp only [List.mem_append, List.mem_singleton, eq_iff_iff]
    constructor
    ·rintro (h | h)
     ·exact h
     ·omega
    ·exact .inl
   simp only [this]
 ·rw [getD_out (by rw [onesL_length]; omega), getD_out (by rw [onesL_length]; omega), fb_zero, L.zero_add]
  show L.zero = L.unit q j
  unfold L.unit
  rw [if_neg (by omega)]
theorem addL_is {N S : Nat} {M : List (List Int)} (hM : Wide S M) (hl : M.length = N) {A : List Int} (hA : ∀ x ∈ A, 0 ≤ x ∧ x < (N : Int)) (hn : A.Nodup) :
  (addL S M A).length = S ∧ (∀ z ∈ addL S M A, Byt z) ∧ vec (addL S M A) = L.lc (vec (onesL N A)) (M.map vec) := by
 suffices ∀ n, n ≤ A.length → (addL S M (A.take n)).length = S ∧ (∀ z ∈ addL S M (A.take n), Byt z) ∧ vec (addL S M (A.take n)) = L.lc (vec (onesL N (A.take n))) (M.map vec) by
  have := this A.length (Nat.le_refl _)
  rwa [List.take_length] at this
 intro n
 induction n with
 | zero =>
  intro _
  rw [List.take_zero, addL_nil, onesL_nil, vec_noughts, vec_noughts, L.lc_zero]
  exact ⟨by simp, replicate_byt S, rfl⟩
 | succ n ih =>
  intro hle
  obtain ⟨h1, h2, h3⟩ := ih (by omega)
  have hx := hA (A[n]'(by omega)) (List.getElem_mem _)
  obtain ⟨q, hq⟩ : ∃ q : Nat, A[n]'(by omega) = (q : Int) := ⟨(A[n]'(by omega)).toNat, by omega⟩
  have hqN : q < N := by omega
  have htk : A.take (n + 1) = A.take n ++ [(q : Int)] := by
   rw [List.take_add_one, List.getElem?_eq_getElem (by omega), hq]
   rfl
  have hni : (q : Int) ∉ A.take n := by
   intro hm
   rw [List.mem_take_iff_getElem] at hm
   obtain ⟨i, hi, he⟩ := hm
   have := (List.getElem_inj (xs := A) (h₀ := by omega) (h₁ := by omega) hn).1 (he.trans hq.symm)
   omega
  have hmq := hM.at q (by omega)
  rw [htk, addL_snoc, Int.toNat_natCast]
  refine ⟨by rw [sumL_length]; exact hmq.1, sumL_byt hmq.2 h2, ?_⟩
  rw [vec_sum hmq.2 h2 (by rw [hmq.1, h1]), vec_ones_snoc hqN hni, L.lc_add, L.lc_unit, rowAt_vec, ← h3, L.vadd_comm]
def srcL (S : Nat) (D : List Int) (i : Nat) : List Int := (D.drop (i * S)).take S
def rhsL (K H S : Nat) (D : List Int) : List (List Int) := List.replicate H (List.replicate S 0) ++ (List.range K).map (srcL S D)
theorem srcL_length {K S i : Nat} {D : List Int} (hD : D.length = K * S) (hi : i < K) : (srcL S D i).length = S := by
 unfold srcL
 have : (i + 1) * S ≤ K * S := Nat.mul_le_mul_right S (by omega)
 rw [Nat.add_mul, Nat.one_mul] at this
 rw [List.length_take, List.length_drop, hD]
 omega
theorem srcL_byt {S i : Nat} {D : List Int} (hb : ∀ z ∈ D, Byt z) : ∀ z ∈ srcL S D i, Byt z := fun z hz => hb z (List.mem_of_mem_drop (List.mem_of_mem_take hz))
theorem rhsL_wide {K H S : Nat} {D : List Int} (hD : D.length = K * S) (hb : ∀ z ∈ D, Byt z) : Wide S (rhsL K H S D) := fun r hr => by
 unfold rhsL at hr
 rw [List.mem_append] at hr
 rcases hr with hr | hr
 ·rw [List.eq_of_mem_replicate hr]
  exact ⟨by simp, replicate_byt S⟩
 ·obtain ⟨i, hi, rfl⟩ := List.mem_map.1 hr
  exact ⟨srcL_length hD (List.mem_range.1 hi), srcL_byt hb⟩
theorem rhsL_length (K H S : Nat) (D : List Int) : (rhsL K H S D).length = H + K := by simp [rhsL]
theorem fb_back (x : L.Fb) : fb (x.n : Int) = x ∧ Byt (x.n : Int) := by
 have := x.lt
 refine ⟨?_, by unfold Byt; omega⟩
 apply L.Fb.ext
 show ((x.n : Int)).toNat % 256 = x.n
 rw [Int.toNat_natCast]
 omega
theorem vec_back {n : Nat} {v : L.V} (h : L.Supp n v) : ∃ l : List Int, l.length = n ∧ (∀ z ∈ l, Byt z) ∧ vec l = v := by
 refine ⟨lst n fun j => ((v j).n : Int), lst_length _ _, lst_byt fun i _ => (fb_back (v i)).2, funext fun j => ?_⟩
 show fb ((lst n fun j => ((v j).n : Int)).getD j 0) = v j
 by_cases hj : j < n
 ·rw [lst_getD _ _ _ hj, (fb_back (v j)).1]
 ·rw [getD_out (by rw [lst_length]; omega), fb_zero, h j (by omega)]
theorem vecs_back {S : Nat} : ∀ X : List L.V, (∀ x ∈ X, L.Supp S x) → ∃ M : List (List Int), Wide S M ∧ M.map vec = X
 | [], _ => ⟨[], Wide.nil S, rfl⟩
 | x :: X, h => by
  obtain ⟨M, h1, h2⟩ := vecs_back X fun y hy => h y (by simp [hy])
  obtain ⟨l, h3, h4, h5⟩ := vec_back (h x (by simp))
  refine ⟨l :: M, fun r hr => ?_, by rw [List.map_cons, h5, h2]⟩
  rcases List.mem_cons.1 hr with rfl | hr
  ·exact ⟨h3, h4⟩
  ·exact h1 r hr
structure IsMid (K H S : Nat) (seed : Nat) (D : List Int) (M : List (List Int)) : Prop where
 len : M.length = K + H
 wide : Wide S M
 mul : IsMul S (matP K H S seed (firstI K)) M (rhsL K H S D)
theorem firstI_may {n : Nat} (h : n ≤ 1000) : ∀ x ∈ firstI n, MayI x := fun x hx => by
 simp only [firstI, List.mem_map, List.mem_range] at hx
 obtain ⟨a, h1, rfl⟩ := hx
 unfold MayI
 omega
theorem firstM_is {K H S : Nat} (hm : MayP K H S) (seed : Nat) : matP K H S seed (firstI K) = ahead K H ++ (firstI K).map (rowP K H S seed) := by
 rw [matP_in hm]
 congr 2
 refine List.filter_eq_self.2 fun x hx => decide_eq_true (firstI_may (by have := hm.2.1; omega) x hx)
theorem firstM_length {K H S : Nat} (hm : MayP K H S) (seed : Nat) : (matP K H S seed (firstI K)).length = H + K := by
 rw [firstM_is hm, List.length_append, ahead_length, List.length_map, firstI_length]
theorem right_rk {K H S : Nat} {seed : Nat} (hr : RightP K H S seed) : rkL (matP K H S seed (firstI K)) = K + H := by
 unfold RightP at hr
 rw [Int.toNat_natCast] at hr
 have h := hr.2
 have : colsP K H S = K + H := by unfold colsP; rw [if_pos hr.1]
 omega
theorem mid_exists {K H S seed : Nat} {D : List Int} (hr : RightP K H S seed) (hD : D.length = K * S) (hb : ∀ z ∈ D, Byt z) : ∃ M, IsMid K H S seed D M := by
 have hm := hr.1
 have hw := matP_wide hm seed (firstI K)
 obtain ⟨X, h1, h2, h3⟩ := L.square hw.supp (by rw [List.length_map, firstM_length hm, Nat.add_comm]) (right_rk hr) (C := (rhsL K H S D).map vec) (by rw [List.length_map, rhsL_length, Nat.add_comm]) (rhsL_wide hD hb).supp
 obtain ⟨M, m1, m2⟩ := vecs_back (S := S) X h2
 refine ⟨M, ⟨by rw [← h1, ← m2, List.length_map], m1, rhsL_wide hD hb, ?_⟩⟩
 rw [m2, h3]
end Go.Proofs.YtbbglejdfbkjlaaGreat
namespace Go.Proofs.YtbbglejdfbkjlaaGreat
open Go.RowKit
theorem atN_nodup {N : Nat} (h1 : 1 ≤ N) (h2 : N ≤ 64) (seed id : Nat) : (atN N seed id).Nodup := by
 obtain ⟨s, k, _, hb, h⟩ := atN_some h1 h2 seed id
 rw [h]
 refine List.Pairwise.imp (fun h => ?_) (C.some_sorted hb)
 omega
def symP (K H S seed : Nat) (M : List (List Int)) (id : Int) : List Int := if MayI id then addL S M (atN (K + H) seed id.toNat) else []
theorem sym_is {K H S seed : Nat} {M : List (List Int)} (hm : MayP K H S) (hM : Wide S M) (hl : M.length = K + H) {id : Int} (hi : MayI id) :
  (symP K H S seed M id).length = S ∧ (∀ z ∈ symP K H S seed M id, Byt z) ∧ vec (symP K H S seed M id) = L.lc (vec (rowP K H S seed id)) (M.map vec) := by
 have hN : 1 ≤ K + H ∧ K + H ≤ 64 := by unfold MayP at hm; omega
 unfold symP
 rw [if_pos hi, rowP_in hm hi]
 exact addL_is hM hl (atN_rng _ _ _) (atN_nodup hN.1 hN.2 _ _)
theorem sym_byt {K H S seed : Nat} {M : List (List Int)} (hm : MayP K H S) (hM : Wide S M) (hl : M.length = K + H) (id : Int) : ∀ z ∈ symP K H S seed M id, Byt z := by
 by_cases hi : MayI id
 ·exact (sym_is hm hM hl hi).2.1
 ·unfold symP
  rw [if_neg hi]
  simp
theorem rhsL_src {K H S i : Nat} {D : List Int} (hi : i < K) : (rhsL K H S D).getD (H + i) [] = srcL S D i := by
 unfold rhsL
 rw [List.getD_eq_getElem?_getD, List.getElem?_append_right (by simp), List.length_replicate, Nat.add_sub_cancel_left, List.getElem?_map, List.getElem?_range hi]
 rfl
theorem rhsL_head {K H S i : Nat} {D : List Int} (hi : i < H) : (rhsL K H S D).getD i [] = List.replicate S 0 := by
 unfold rhsL
 rw [List.getD_eq_getElem?_getD, List.getElem?_append_left (by simpa using hi), List.getElem?_replicate, if_pos hi]
 rfl
theorem mul_at {A X O : List (List Int)} {m : Nat} (h : IsMul m A X O) {i : Nat} (hi : i < A.length) : L.lc (vec (A.getD i [])) (X.map vec) = vec (O.getD i []) := by
 have h2 := congrArg (fun l => l[i]?) h.2
 simp only [L.mulM, List.getElem?_map] at h2
 have hO : i < O.length := by rw [h.length]; exact hi
 rw [List.getElem?_eq_getElem hi, List.getElem?_eq_getElem hO] at h2
 rw [List.getD_eq_getElem?_getD, List.getD_eq_getElem?_getD, List.getElem?_eq_getElem hi, List.getElem?_eq_getElem hO]
 simpa using h2.symm
theorem may_of_lt {K i : Nat} (hK : K ≤ 1000) (hi : i < K) : MayI (i : Int) := by
 unfold MayI
 omega
end Go.Proofs.YtbbglejdfbkjlaaGreat
namespace Go.Proofs.YtbbglejdfbkjlaaGreat
open Go.RowKit
structure Symb where
 i : Int
 d : List Int
def noY : Symb := ⟨0, []⟩
def idsY (Y : List Symb) : List Int := Y.map (·.i)
def AllY (K H S : Int) (Y : List Symb) : Prop := MayP K H S ∧ ∀ q ∈ Y, MayI q.i ∧ (q.d.length : Int) = S
structure IsMidY (K H S seed : Nat) (Y : List Symb) (M : List (List Int)) : Prop where
 len : M.length = K + H
 wide : Wide S M
 ahead : ∀ r ∈ ahead K H, L.lc (vec r) (M.map vec) = L.vzero
 rows : ∀ q ∈ Y, L.lc (vec (rowP K H S seed q.i)) (M.map vec) = vec q.d
def outY (K H S seed : Nat) (M : List (List Int)) : List Int := (List.range K).flatMap fun i : Nat => symP K H S seed M (i : Int)
def DecSays (K H S : Int) (seed : Nat) (Y : List Symb) (e : Int) (out : List Int) : Prop :=
 (¬ AllY K H S Y ∧ e = 1 ∧ out = []) ∨
 (AllY K H S Y ∧ ¬ FullP K H S seed (idsY Y) ∧ e = 9 ∧ out = []) ∨
 (AllY K H S Y ∧ FullP K H S seed (idsY Y) ∧ e = 0 ∧ ∃ M, IsMidY K.toNat H.toNat S.toNat seed Y M ∧ out = outY K.toNat H.toNat S.toNat seed M) ∨
 (AllY K H S Y ∧ FullP K H S seed (idsY Y) ∧ e = 10 ∧ out = [] ∧ ¬ ∃ M, IsMidY K.toNat H.toNat S.toNat seed Y M)
theorem may_nats {K H S : Int} (hm : MayP K H S) : ∃ k h s : Nat, K = k ∧ H = h ∧ S = s := by
 unfold MayP at hm
 exact ⟨K.toNat, H.toNat, S.toNat, by omega, by omega, by omega⟩
theorem idsY_may {K H S : Int} {Y : List Symb} (h : AllY K H S Y) : ∀ i ∈ idsY Y, MayI i := fun i hi => by
 obtain ⟨q, hq, rfl⟩ := List.mem_map.1 hi
 exact (h.2 q hq).1
theorem fullP_rk {K H S seed : Nat} {ids : List Int} (h : FullP K H S seed ids) : rkL (matP K H S seed ids) = K + H := by
 have : colsP K H S = K + H := by unfold colsP; rw [if_pos h.1]
 have := h.2
 omega
theorem fullP_of_rk {K H S seed : Nat} {ids : List Int} (hm : MayP K H S) (h : rkL (matP K H S seed ids) = K + H) : FullP K H S seed ids := by
 refine ⟨hm, ?_⟩
 have : colsP K H S = K + H := by unfold colsP; rw [if_pos hm]
 omega
theorem matP_mem {K H S seed : Nat} {ids : List Int} (hm : MayP K H S) {r : List Int} : r ∈ matP K H S seed ids ↔ r ∈ ahead K H ∨ ∃ i, i ∈ ids ∧ MayI i ∧ rowP K H S seed i = r := by
 rw [matP_in hm, List.mem_append, List.mem_map]
 constructor
 ·rintro (h | ⟨i, h1, h2⟩)
  ·exact .inl h
  ·exact .inr ⟨i, (List.mem_filter.1 h1).1, of_decide_eq_true (List.mem_filter.1 h1).2, h2⟩
 ·rintro (h | ⟨i, h1, h2, h3⟩)
  ·exact .inl h
  ·exact .inr ⟨i, List.mem_filter.2 ⟨h1, decide_eq_true h2⟩, h3⟩
theorem IsMidY.rows_eq {K H S seed : Nat} {Y : List Symb} {M M' : List (List Int)} (hm : MayP K H S) (h : IsMidY K H S seed Y M) (h' : IsMidY K H S seed Y M') : ∀ a ∈ (matP K H S seed (idsY Y)).map vec, L.lc a (M.map vec) = L.lc a (M'.map vec) := by
 intro a ha
 obtain ⟨r, hr, rfl⟩ := List.mem_map.1 ha
 rcases (matP_mem hm).1 hr with hr | ⟨i, hi, _, rfl⟩
 ·rw [h.ahead r hr, h'.ahead r hr]
 ·obtain ⟨q, hq, rfl⟩ := List.mem_map.1 hi
  rw [h.rows q hq, h'.rows q hq]
theorem IsMidY.unique {K H S seed : Nat} {Y : List Symb} {M M' : List (List Int)} (hf : FullP K H S seed (idsY Y)) (h : IsMidY K H S seed Y M) (h' : IsMidY K H S seed Y M') : M = M' := by
 have hw := matP_wide hf.1 seed (idsY Y)
 refine map_vec_inj h.wide h'.wide (L.mul_unique hw.supp (fullP_rk hf) (by rw [List.length_map, h.len]) (by rw [List.length_map, h'.len]) ?_)
 exact List.map_congr_left (h.rows_eq hf.1 h')
theorem DecSays.unique {K H S : Int} {seed : Nat} {Y : List Symb} {e e' : Int} {out out' : List Int} (h : DecSays K H S seed Y e out) (h' : DecSays K H S seed Y e' out') : e = e' ∧ out = out' := by
 rcases h with ⟨a1, a2, a3⟩ | ⟨a1, a0, a2, a3⟩ | ⟨a1, a0, a2, M, a3, a4⟩ | ⟨a1, a0, a2, a3, a4⟩ <;>
 rcases h' with ⟨b1, b2, b3⟩ | ⟨b1, b0, b2, b3⟩ | ⟨b1, b0, b2, M', b3, b4⟩ | ⟨b1, b0, b2, b3, b4⟩ <;>
 first
  | exact absurd a1 b1
  | exact absurd b1 a1
  | exact absurd a0 b0
  | exact absurd b0 a0
  | (subst_vars; exact ⟨rfl, rfl⟩)
  | skip
 ·obtain ⟨k, h, s, rfl, rfl, rfl⟩ := may_nats a1.1
  rw [Int.toNat_natCast, Int.toNat_natCast, Int.toNat_natCast] at *
  rw [a2, b2, a4, b4, IsMidY.unique a0 a3 b3]
  exact ⟨rfl, rfl⟩
 ·exact absurd ⟨M, a3⟩ b4
 ·exact absurd ⟨M', b3⟩ a4
theorem outY_length {K H S seed : Nat} {M : List (List Int)} (hm : MayP K H S) (hM : Wide S M) (hl : M.length = K + H) : (outY K H S seed M).length = K * S := by
 have hK : K ≤ 1000 := by unfold MayP at hm; omega
 unfold outY
 suffices ∀ k, k ≤ K → ((List.range k).flatMap fun i : Nat => symP K H S seed M (i : Int)).length = k * S from this K (Nat.le_refl _)
 intro k
 induction k with
 | zero => intro _; simp
 | succ k ih =>
  intro hk
  rw [List.range_succ, List.flatMap_append, List.length_append, ih (by omega)]
  have := (sym_is (seed := seed) hm hM hl (may_of_lt hK (i := k) (by omega))).1
  simp [this, Nat.add_mul]
def symY (K H S seed : Nat) (M : List (List Int)) (ids : List Int) : List Symb := ids.map fun i => ⟨i, symP K H S seed M i⟩
theorem symY_length (K H S seed : Nat) (M : List (List Int)) (ids : List Int) : (symY K H S seed M ids).length = ids.length := by simp [symY]
theorem symY_all {K H S seed : Nat} {M : List (List Int)} (hm : MayP K H S) (hM : Wide S M) (hl : M.length = K + H) {ids : List Int} (hi : ∀ i ∈ ids, MayI i) : AllY K H S (symY K H S seed M ids) := by
 refine ⟨hm, fun q hq => ?_⟩
 obtain ⟨i, h, rfl⟩ := List.mem_map.1 hq
 exact ⟨hi i h, by rw [(sym_is (seed := seed) hm hM hl (hi i h)).1]⟩
theorem few_not {K H S seed : Nat} (hm : MayP K H S) {l : List Int} (hl : l.length < K) : ¬ FullP K H S seed l := by
 intro hf
 have h1 := fullP_rk hf
 have h2 : rkL (matP K H S seed l) ≤ ((matP K H S seed l).map vec).length := L.rk_le_len (matP_wide hm seed l).supp
 have h3 : (matP K H S seed l).length ≤ H + l.length := by
  rw [matP_in hm, List.length_append, ahead_length, List.length_map]
  have := List.length_filter_le (fun i => decide (MayI i)) l
  omega
 rw [List.length_map] at h2
 omega
theorem may_i64 {x : Int} (h : MayI x) : I64 x := by
 unfold MayI at h
 exact ⟨by omega, by omega⟩
theorem getD_memZ {l : List Int} {i : Nat} (h : i < l.length) : l.getD i 0 ∈ l := by
 rw [List.getD_eq_getElem?_getD, List.getElem?_eq_getElem h]
 exact List.getElem_mem h
end Go.Proofs.YtbbglejdfbkjlaaGreat
namespace Go.Proofs.YtbbglejdfbkjlaaGreat
open Go.RowKit
def srcY (S : Nat) (D : List Int) (l : List Nat) : List Symb := l.map fun i : Nat => ⟨(i : Int), srcL S D i⟩
theorem srcY_all {K H S : Nat} {D : List Int} (hm : MayP K H S) (hD : D.length = K * S) {l : List Nat} (hl : ∀ i ∈ l, i < K) : AllY K H S (srcY S D l) := ⟨hm, fun q hq => by
  obtain ⟨i, hi, rfl⟩ := List.mem_map.1 hq
  exact ⟨may_of_lt (by unfold MayP at hm; omega) (hl i hi), by show (((srcL S D i).length : Nat) : Int) = S; rw [srcL_length hD (hl i hi)]⟩⟩
theorem dec_less {K H S seed : Nat} {D : List Int} (hm : MayP K H S) (hD : D.length = K * S) {l : List Nat} (hl : ∀ i ∈ l, i < K) (hn : l.length < K) {e : Int} {out : List Int} (hs : DecSays K H S seed (srcY S D l) e out) : e = 9 ∧ out = [] := by
 have hids : (idsY (srcY S D l)).length = l.length := by simp [idsY, srcY]
 have hno : ¬ FullP K H S seed (idsY (srcY S D l)) := few_not hm (by rw [hids]; exact hn)
 rcases hs with ⟨a1, _⟩ | ⟨_, _, a2, a3⟩ | ⟨_, a0, _⟩ | ⟨_, a0, _⟩
 ·exact absurd (srcY_all hm hD hl) a1
 ·exact ⟨a2, a3⟩
 ·exact absurd a0 hno
 ·exact absurd a0 hno
end Go.Proofs.YtbbglejdfbkjlaaGreat
namespace Go.Proofs.YtbbglejdfbkjlaaGreat
open Go.RowKit
def Vals (w : World) (oa : Option Addr) (us : List Value) (L : List (List Int)) : Prop :=
 us.length = L.length ∧ (∀ ad, oa = some ad → ∀ j u, us[j]? = some u → w.cell? (ad.add j) = some u) ∧ (∀ i, i < L.length → Bs w (us.getD i undef) (L.getD i [])) ∧ ∀ u ∈ us, u.oneCell' = true
theorem Vals.grown {w w' : World} {oa : Option Addr} {us : List Value} {L : List (List Int)} (h : Vals w oa us L) (hg : Gr w w') : Vals w' oa us L :=
 ⟨h.1, fun ad ha j u hu => cell_grown hg (h.2.1 ad ha j u hu), fun i hi => Bs.grown (h.2.2.1 i hi) hg, h.2.2.2⟩
theorem Bss.vals {w : World} {oa : Option Addr} {n c : Nat} {L : List (List Int)} (h : Bss w (.slice oa n c) L) : ∃ us, Vals w oa us L := by
 obtain ⟨oa', c', he, h2, h3, h4, h5⟩ := h
 obtain ⟨rfl, rfl, rfl⟩ : oa = oa' ∧ n = L.length ∧ c = c' := by simpa using he
 cases oa with
 | none =>
  have : L = [] := List.eq_nil_of_length_eq_zero (by have := h4 rfl; omega)
  subst this
  exact ⟨[], rfl, (fun ad ha => by cases ha), (fun i hi => by simp at hi), by simp⟩
 | some a =>
  have hex : ∀ i, ∃ u, i < L.length → w.cell? (a.add i) = some u ∧ Bs w u (L.getD i []) := fun i => by
   by_cases hi : i < L.length
   ·obtain ⟨u, h⟩ := h5 a rfl i hi
    exact ⟨u, fun _ => h⟩
   ·exact ⟨undef, fun h => absurd h hi⟩
  have hf := fun i => Classical.choose_spec (hex i)
  have hget : ∀ i, i < L.length → ((List.range L.length).map fun i => Classical.choose (hex i)).getD i undef = Classical.choose (hex i) := fun i hi => by
   rw [List.getD_eq_getElem?_getD, List.getElem?_map, List.getElem?_range hi]
   rfl
  refine ⟨(List.range L.length).map fun i => Classical.choose (hex i), by simp, fun ad ha j u hu => ?_, fun i hi => ?_, fun u hu => ?_⟩
  ·cases ha
   rw [List.getElem?_map] at hu
   by_cases hj : j < L.length
   ·rw [List.getElem?_range hj] at hu
    simp at hu
    rw [← hu]
    exact (hf j hj).1
   ·rw [List.getElem?_eq_none (by simp; omega)] at hu
    cases hu
  ·rw [hget i hi]
   exact (hf i hi).2
  ·obtain ⟨i, hi, rfl⟩ := List.mem_map.1 hu
   obtain ⟨o, cc, he⟩ := ((hf i (List.mem_range.1 hi)).2).form
   rw [he]
   rfl
theorem owns_bss {base n : Nat} {w : World} {v : Value} {us : List Value} {L : List (List Int)} (ho : w.ownsRow base 25 1 v n us) (hl : L.length = n) (hr : ∀ i, i < L.length → Bs w (us.getD i undef) (L.getD i [])) : Bss w v L := by
 subst hl
 by_cases h0 : 0 < L.length
 ·obtain ⟨g, c, rfl, h1, h2, h3, h4, h5⟩ := ownsRow_cell ho h0
  refine ⟨some ⟨g, 0, none⟩, c, rfl, h1, by unfold maxLen at h2; omega, (fun h => by cases h), fun a ha i hi => ?_⟩
  cases ha
  rw [Addr.add_mid, Nat.zero_add]
  exact ⟨_, h5 i hi, hr i hi⟩
 ·have : L = [] := List.eq_nil_of_length_eq_zero (by omega)
  subst this
  obtain ⟨_, ⟨rfl, _⟩ | ⟨g, c, cur, rfl, _, _, _, h2, _⟩⟩ := ho
  ·exact Bss.nil w
  ·exact ⟨_, c, rfl, by simp, by unfold maxLen at h2; omega, (fun h => by cases h), fun a _ i hi => by simp at hi⟩
end Go.Proofs.YtbbglejdfbkjlaaGreat
