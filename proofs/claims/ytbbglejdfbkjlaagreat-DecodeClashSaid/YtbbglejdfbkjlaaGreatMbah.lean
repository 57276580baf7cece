/-
  Texts laid behind one another: Pc Ro Md Me Mf Bc.
-/
import Derived.Test.YtbbglejdfbkjlaaGreatMbad
import Derived.Test.YtbbglejdfbkjlaaGreatMbab
import Derived.BigRegion
import Derived.Deep.RegionLaw
import Derived.Deep.DeepCutAuto
import Derived.Deep.RegionHeld3
import Derived.Test.YtbbglejdfbkjlaaGreatMbag
import Derived.Lib.SliceRun
namespace Go.Proofs.YtbbglejdfbkjlaaGreat
open Go.RowKit
theorem upTo_pre (m n : Int) (w : World) :
  Calls Tryz.prog 48 #[.int .i64 m, .int .i64 n] w fun e w' => e = .returned (.bool (decide (1 ≤ n ∧ n ≤ m))) ∧ w = w' := by
 by_cases h : 1 ≤ n
 ·rw [show decide (1 ≤ n ∧ n ≤ m) = decide (n ≤ m) from by rw [decide_eq_decide]; omega]
  go_enter Tryz.func48, Tryz.ntmps48
  go_wp2
  go_ret
  exact ⟨rfl, rfl⟩
 ·rw [decide_eq_false (by omega : ¬ (1 ≤ n ∧ n ≤ m))]
  go_enter Tryz.func48, Tryz.ntmps48
  go_wp2
  go_ret
  exact ⟨rfl, rfl⟩
set_option maxHeartbeats 800000 in
theorem may_pre (K H S : Int) (w : World) :
  Calls Tryz.prog 24 #[par K H S] w fun e w' => e = .returned (.bool (decide (MayP K H S))) ∧ Gr w w' := by
 have hd : decide (MayP K H S) = (decide (1 ≤ K ∧ K ≤ 16) && (decide (1 ≤ H ∧ H ≤ 4) && decide (1 ≤ S ∧ S ≤ 24))) := by
  rw [← Bool.decide_and, ← Bool.decide_and, decide_eq_decide]
  unfold MayP
  omega
 rw [hd]
 have b1 : ∀ x : Int, ∃ b : Bool, decide (1 ≤ x ∧ x ≤ 16) = b := fun x => ⟨_, rfl⟩
 obtain ⟨p, hp⟩ := b1 K
 obtain ⟨q, hq⟩ : ∃ b : Bool, decide (1 ≤ H ∧ H ≤ 4) = b := ⟨_, rfl⟩
 obtain ⟨r, hr⟩ : ∃ b : Bool, decide (1 ≤ S ∧ S ≤ 24) = b := ⟨_, rfl⟩
 have HP := Lib.hid hp
 have HQ := Lib.hid hq
 have HR := Lib.hid hr
 rw [hp, hq, hr]
 clear hp hq hr hd b1
 have P0 : Hid (Par (w.alloc (.cells #[.int .i64 K, .int .i64 H, .int .i64 S] 23)) w.heap.size K H S) := Lib.hid (heap_alloc_new _ _)
 have HG0 : Hid (Gr w (w.alloc (.cells #[.int .i64 K, .int .i64 H, .int .i64 S] 23))) := Lib.hid (Gr.alloc (Gr.refl _) _ _)
 go_enter Tryz.func24, Tryz.ntmps24
 cases p with
 | false =>
  go_wp2_with fail
  refine (upTo_pre 16 K _).mono ?_
  rw [HP.out]
  rintro e w1 ⟨rfl, rfl⟩
  go_wp2_with fail
  go_ret
  exact ⟨rfl, HG0.out⟩
 | true =>
  have c1 := P0.out.cell1
  have c2 := P0.out.cell2
  cases q with
  | false =>
   go_wp2_with fail
   refine (upTo_pre 16 K _).mono ?_
   rw [HP.out]
   rintro e w1 ⟨rfl, rfl⟩
   go_wp2_with fail
   refine (upTo_pre 4 H _).mono ?_
   rw [HQ.out]
   rintro e w1 ⟨rfl, rfl⟩
   go_wp2_with fail
   go_ret
   exact ⟨rfl, HG0.out⟩
  | true =>
   go_wp2_with fail
   refine (upTo_pre 16 K _).mono ?_
   rw [HP.out]
   rintro e w1 ⟨rfl, rfl⟩
   go_wp2_with fail
   refine (upTo_pre 4 H _).mono ?_
   rw [HQ.out]
   rintro e w1 ⟨rfl, rfl⟩
   go_wp2_with fail
   refine (upTo_pre 24 S _).mono ?_
   rw [HR.out]
   rintro e w1 ⟨rfl, rfl⟩
   go_wp2_with fail
   go_ret
   exact ⟨by simp, HG0.out⟩
set_option maxHeartbeats 400000 in
theorem cols_pre (K H S : Int) (w : World) :
  Calls Tryz.prog 27 #[par K H S] w fun e w' => e = .returned (.int .i64 (colsP K H S)) ∧ Gr w w' := by
 unfold colsP
 by_cases hm : MayP K H S
 ·have hd := decide_eq_true hm
  have HM := Lib.hid hm
  rw [if_pos hm]
  have hk : -9223372036854775808 ≤ K + H ∧ K + H ≤ 9223372036854775807 := by have := hm; unfold MayP at this; omega
  have hwr : IntKind.i64.wrap (K + H) = K + H := by have := hk; simp [IntKind.wrap, IntKind.bits, IntKind.signed]; omega
  clear hm
  go_enter Tryz.func27, Tryz.ntmps27
  go_wp2_with fail
  refine (may_pre K H S _).mono ?_
  rw [hd]
  rintro e w1 ⟨rfl, hg⟩
  have P1 : Par w1 w.heap.size K H S := Par.grown (heap_alloc_new w _) hg
  have c0 := P1.cell0
  have c1 := P1.cell1
  have G1 := Lib.hid (Gr.trans (Gr.alloc (Gr.refl w) _ _) hg)
  clear hg P1
  go_wp2_with fail
  go_ret
  exact ⟨rfl, G1.out⟩
 ·have hd := decide_eq_false hm
  rw [if_neg hm]
  clear hm
  go_enter Tryz.func27, Tryz.ntmps27
  go_wp2_with fail
  refine (may_pre K H S _).mono ?_
  rw [hd]
  rintro e w1 ⟨rfl, hg⟩
  have G1 := Lib.hid (Gr.trans (Gr.alloc (Gr.refl w) _ _) hg)
  clear hg
  go_wp2_with fail
  go_ret
  exact ⟨rfl, G1.out⟩
end Go.Proofs.YtbbglejdfbkjlaaGreat
namespace Go.Proofs.YtbbglejdfbkjlaaGreat
open Go.RowKit
set_option maxHeartbeats 400000 in
theorem tabled_any (f : Value) (w : World) (h : IsF w f) :
  Calls Tryz.prog 118 #[f] w fun e w' => ∃ b, e = .returned (.pointer (some ⟨b, 0, none⟩)) ∧ FieldAt w' b ∧ Gr w w' := by
 rcases h with rfl | ⟨b, rfl, hb⟩
 ·go_enter Tryz.func118, Tryz.ntmps118
  go_wp2_with (go_at_call 65; refine (new_any _).mono ?_; rintro e w' ⟨b, rfl, hf, hg⟩; have HF := Lib.hid hf; clear hf; have HG := Lib.hid hg; clear hg)
  go_ret
  exact ⟨_, rfl, HF.out, HG.out⟩
 ·have HF := Lib.hid hb
  clear hb
  go_enter Tryz.func118, Tryz.ntmps118
  go_wp2_with fail
  go_ret
  exact ⟨_, rfl, HF.out, Gr.refl _⟩
set_option maxHeartbeats 400000 in
theorem made_field (b : Nat) (w : World) (hb : FieldAt w b) :
  Calls Tryz.prog 120 #[.pointer (some ⟨b, 0, none⟩)] w fun e w' => e = .returned (.pointer (some ⟨b, 0, none⟩)) ∧ w = w' := by
 have h0 := FieldAt.ex hb 0 (by omega)
 rw [M.exN_zero] at h0
 clear hb
 go_enter Tryz.func120, Tryz.ntmps120
 go_wp2_with fail
 go_ret
 exact ⟨rfl, rfl⟩
theorem mul_field (t : Nat) (a b : Int) (ha : Byt a) (hb : Byt b) (w : World) (hf : FieldAt w t) :
  Calls Tryz.prog 119 #[.pointer (some ⟨t, 0, none⟩), .int .u8 a, .int .u8 b] w fun e w' => e = .returned (.int .u8 (mulZ a b)) ∧ ∃ d, w' = w.drewN d := by
 obtain ⟨a0, a1⟩ := ha
 obtain ⟨b0, b1⟩ := hb
 by_cases az : a = 0
 ·subst az
  go_enter Tryz.func119, Tryz.ntmps119
  go_wp2_with fail
  go_ret
  exact ⟨ret_int (by simp [mulZ, M.mulN_zero_left]), 0, rfl⟩
 by_cases bz : b = 0
 ·subst bz
  go_enter Tryz.func119, Tryz.ntmps119
  go_wp2_with fail
  go_ret
  exact ⟨ret_int (by simp [mulZ, M.mulN_zero_right]), 0, rfl⟩
 ·have HF := Lib.hid hf
  clear hf
  have ea : (a == 0) = false := by simpa using az
  have eb : (b == 0) = false := by simpa using bz
  obtain ⟨x, rfl⟩ := Int.eq_ofNat_of_zero_le a0
  obtain ⟨y, rfl⟩ := Int.eq_ofNat_of_zero_le b0
  clear az bz
  have hx : x < 256 := by omega
  have hy : y < 256 := by omega
  go_enter Tryz.func119, Tryz.ntmps119
  go_wp2_with (go_at_call 120; refine (made_field t _ HF.out).mono ?_; rintro e w' ⟨rfl, rfl⟩)
  have c1 := FieldAt.lg HF.out x hx
  have c2 := FieldAt.lg HF.out y hy
  have hi : (M.lgN x + M.lgN y) % 255 < 255 := Nat.mod_lt _ (by omega)
  have c3 := FieldAt.ex HF.out _ hi
  have l1 := M.lgN_lt x
  have l2 := M.lgN_lt y
  have E : Hid (mulZ x y = ((M.exN ((M.lgN x + M.lgN y) % 255) : Nat) : Int)) := Lib.hid (by
    unfold mulZ
    rw [M.mulN_nz _ _ (by simp at ea; simpa using ea) (by simp at eb; simpa using eb)]
    rfl)
  generalize M.lgN x = p at *
  generalize M.lgN y = q at *
  go_quiet (fail)
  go_wp2
  go_ret
  exact ⟨ret_int E.out.symm, _, rfl⟩
theorem New.of_blk {w w' : World} {g n : Nat} {l : List Int} (hg : Gr w w') (hb : ∀ x ∈ l, Byt x) (hs : w.heap.size ≤ g) (hk : Blk w' g l) (hl : l.length = n) (hn : n ≤ 1000000) : New w w' (.slice (some ⟨g, 0, none⟩) n n) l := by
 subst hl
 exact ⟨hg, hb, Or.inr ⟨g, l.length, rowB l, rfl, hs, hk, Nat.le_refl _, by omega, fun i hi => rowB_get l i hi⟩⟩
theorem New.nought {w w' : World} (hg : Gr w w') : New w w' (.slice none 0 0) [] := ⟨hg, by simp, Or.inl ⟨rfl, none, 0, rfl, fun _ => rfl, by omega⟩⟩
theorem New.made0 {w w' : World} {g : Nat} (hg : Gr w w') : New w w' (.slice (some ⟨g, 0, none⟩) 0 0) [] := ⟨hg, by simp, Or.inl ⟨rfl, _, 0, rfl, fun _ => rfl, by omega⟩⟩
theorem Making.drawn {w wr : World} {g n k : Nat} {f : Nat → Int} (h : Making w g n f k wr) (d : Nat) : Making w g n f k (wr.drewN d) := by
 obtain ⟨h1, h2, h3⟩ := h
 exact ⟨h1, h2, h3⟩
def sumF (x y : List Int) : Nat → Int := fun i => addZ (x.getD i 0) (y.getD i 0)
theorem sumF_byt {x y : List Int} {n : Nat} (hx : ∀ i, Byt (x.getD i 0)) (hy : ∀ i, Byt (y.getD i 0)) : ∀ z ∈ lst n (sumF x y), Byt z := lst_byt fun i _ => addZ_byt (hx i) (hy i)
set_option maxHeartbeats 400000 in
theorem sum_core (a b : Addr) (n ca cb : Nat) (x y : List Int) (w : World) (hx : ∀ i, Byt (x.getD i 0)) (hy : ∀ i, Byt (y.getD i 0)) (hn : n ≤ 1000000)
  (hxc : ∀ i, i < n → w.cell? (a.add i) = some (.int .u8 (x.getD i 0))) (hyc : ∀ i, i < n → w.cell? (b.add i) = some (.int .u8 (y.getD i 0))) :
  Calls Tryz.prog 134 #[.slice (some a) n ca, .slice (some b) n cb] w fun e w' => ∃ v, e = .returned (.tuple #[v, .bool true]) ∧ New w w' v (lst n (sumF x y)) := by
 have HXB := Lib.hid hx
 have HYB := Lib.hid hy
 have HX := Lib.hid hxc
 have HY := Lib.hid hyc
 have hmk := make22 n n (by omega) (by omega)
 clear hx hy hxc hyc
 have HB : Hid (Making w w.heap.size n (sumF x y) 0 (w.alloc (.cells (rowB (List.replicate n 0)) 5))) :=
  Lib.hid ⟨Gr.alloc (Gr.refl _) _ _, Nat.le_refl _, by rw [← part_nil]; exact heap_alloc_new _ _⟩
 generalize rowB (List.replicate n 0) = cur at *
 go_enter Tryz.func134, Tryz.ntmps134
 go_wp2
 clear hmk
 generalize hW : w.alloc (.cells cur 5) = W at *
 generalize hG : w.heap.size = g at *
 go_loopw [19] (fun i wr => ∃ k : Nat, k ≤ n ∧ i = .int .i64 k ∧ Making w g n (sumF x y) k wr) (fun i _ => n - (intOf i).toNat)
 case atStart => exact ⟨0, by omega, rfl, HB.out⟩
 case round =>
  clear HB
  obtain ⟨k, hk, rfl, hm⟩ := hrel
  obtain ⟨hg, hge, hblk⟩ := hm
  by_cases hlt : k < n
  ·have q1 := cell_grown hg (HX.out k hlt)
   have q2 := cell_grown hg (HY.out k hlt)
   have q3 := Blk.cell hblk k (by rw [lst_length]; exact hlt)
   have q4 := frozen_of_row wr g k _ _ hblk
   have n1 : a.add k ≠ ⟨g, k, none⟩ := far_of hge (HX.out k hlt)
   have n2 : b.add k ≠ ⟨g, k, none⟩ := far_of hge (HY.out k hlt)
   have M0 : Hid (Making w g n (sumF x y) k wr) := Lib.hid ⟨hg, hge, hblk⟩
   have E : Hid (addZ (x.getD k 0) (y.getD k 0) = sumF x y k) := Lib.hid rfl
   have hp := HXB.out k
   have hq := HYB.out k
   clear hg hge hblk
   generalize (lst n (part (sumF x y) k)).getD k 0 = old at *
   generalize x.getD k 0 = p at *
   generalize y.getD k 0 = q at *
   go_wp2
   go_region_held3 (fun W => W.cell? (a.add k) = some (.int .u8 p) ∧ W.cell? (b.add k) = some (.int .u8 q)) (first | exact ⟨cell_set_far q1 n1, cell_set_far q2 n2⟩ | go_keep)
    (first | (go_at_call 135; refine (add_any _ p q hp hq _).mono ?_; rintro e w' ⟨rfl, rfl⟩))
   have E2 : ((p.toNat ^^^ q.toNat : Nat) : Int) = sumF x y k := E.out
   rw [E2]
   go_wp2
   exact ⟨⟨k + 1, by omega, by go_num, Making.drew (Making.store M0.out)⟩, by simp [intOf]; omega⟩
  ·obtain rfl : k = n := by omega
   rw [part_all] at hblk
   have G := Lib.hid hg
   have K := Lib.hid hblk
   clear hg hblk
   go_wp2
   go_ret2
   exact ⟨_, rfl, New.of_blk G.out (sumF_byt HXB.out HYB.out) hge K.out (lst_length _ _) hn⟩
def axF (c : Int) (x y : List Int) : Nat → Int := fun i => addZ (y.getD i 0) (mulZ c (x.getD i 0))
theorem axF_byt {c : Int} {x y : List Int} {n : Nat} (hy : ∀ i, Byt (y.getD i 0)) : ∀ z ∈ lst n (axF c x y), Byt z := lst_byt fun i _ => addZ_byt (hy i) (mulZ_byt _ _)
set_option maxHeartbeats 400000 in
theorem axpy_core (f : Value) (a b : Addr) (n ca cb : Nat) (c : Int) (x y : List Int) (w : World) (hf : IsF w f) (hc : Byt c) (hx : ∀ i, Byt (x.getD i 0)) (hy : ∀ i, Byt (y.getD i 0)) (hn : n ≤ 1000000)
  (hxc : ∀ i, i < n → w.cell? (a.add i) = some (.int .u8 (x.getD i 0))) (hyc : ∀ i, i < n → w.cell? (b.add i) = some (.int .u8 (y.getD i 0))) :
  Calls Tryz.prog 107 #[f, .int .u8 c, .slice (some a) n ca, .slice (some b) n cb] w fun e w' => ∃ v, e = .returned (.tuple #[v, .bool true]) ∧ New w w' v (lst n (axF c x y)) := by
 have HXB := Lib.hid hx
 have HYB := Lib.hid hy
 have HX := Lib.hid hxc
 have HY := Lib.hid hyc
 have HF := Lib.hid hf
 have hmk := make22 n n (by omega) (by omega)
 clear hx hy hxc hyc hf
 have hR : ∃ cur, cur = rowB (List.replicate n 0) := ⟨_, rfl⟩
 obtain ⟨cur, hcur⟩ := hR
 rw [← hcur] at hmk
 have HC := Lib.hid hcur
 clear hcur
 go_enter Tryz.func107, Tryz.ntmps107
 go_wp2_with (first | (go_at_call 118; refine (tabled_any f _ HF.out).mono ?_; rintro e w1 ⟨t, rfl, ht, hg1⟩; have HT := Lib.hid ht; clear ht; have G1 := Lib.hid hg1; clear hg1))
 clear hmk
 have HX1 : Hid (∀ i, i < n → w1.cell? (a.add i) = some (.int .u8 (x.getD i 0))) := Lib.hid fun i hi => cell_grown G1.out (HX.out i hi)
 have HY1 : Hid (∀ i, i < n → w1.cell? (b.add i) = some (.int .u8 (y.getD i 0))) := Lib.hid fun i hi => cell_grown G1.out (HY.out i hi)
 have hsz : w.heap.size ≤ w1.heap.size := G1.out.size
 have HB : Hid (Making w1 w1.heap.size n (axF c x y) 0 (w1.alloc (.cells cur 5))) :=
  Lib.hid ⟨Gr.alloc (Gr.refl _) _ _, Nat.le_refl _, by rw [HC.out, ← part_nil]; exact heap_alloc_new _ _⟩
 clear HC HX HY HF
 generalize hW : w1.alloc (.cells cur 5) = W at *
 generalize hG : w1.heap.size = g at *
 go_loopw [24] (fun i wr => ∃ k : Nat, k ≤ n ∧ i = .int .i64 k ∧ Making w1 g n (axF c x y) k wr) (fun i _ => n - (intOf i).toNat)
 case atStart => exact ⟨0, by omega, rfl, HB.out⟩
 case round =>
  clear HB
  obtain ⟨k, hk, rfl, hm⟩ := hrel
  obtain ⟨hg, hge, hblk⟩ := hm
  by_cases hlt : k < n
  ·have q1 := cell_grown hg (HX1.out k hlt)
   have q2 := cell_grown hg (HY1.out k hlt)
   have q3 := Blk.cell hblk k (by rw [lst_length]; exact hlt)
   have q4 := frozen_of_row wr g k _ _ hblk
   have n1 : a.add k ≠ ⟨g, k, none⟩ := far_of hge (HX1.out k hlt)
   have n2 : b.add k ≠ ⟨g, k, none⟩ := far_of hge (HY1.out k hlt)
   have M0 : Hid (Making w1 g n (axF c x y) k wr) := Lib.hid ⟨hg, hge, hblk⟩
   have HT1 : Hid (FieldAt wr t) := Lib.hid (FieldAt.grown HT.out hg)
   have E : Hid (addZ (y.getD k 0) (mulZ c (x.getD k 0)) = axF c x y k) := Lib.hid rfl
   have hp := HXB.out k
   have hq := HYB.out k
   have hm := mulZ_byt c (x.getD k 0)
   clear hg hge hblk
   generalize (lst n (part (axF c x y) k)).getD k 0 = old at *
   generalize x.getD k 0 = p at *
   generalize y.getD k 0 = q at *
   generalize hM : mulZ c p = m at *
   go_wp2
   go_region_held3 (fun W => W.cell? (a.add k) = some (.int .u8 p) ∧ W.cell? (b.add k) = some (.int .u8 q)) (first | exact ⟨cell_set_far q1 n1, cell_set_far q2 n2⟩ | exact ⟨cell_set_farN q1 n1, cell_set_farN q2 n2⟩ | go_keep)
    (first | (go_at_call 135; refine (add_any _ q m hq hm _).mono ?_; rintro e w' ⟨rfl, rfl⟩) | (go_at_call 119; refine (mul_field t c p hc hp _ (by exact HT1.out)).mono ?_; rw [hM]; rintro e w' ⟨rfl, nd, rfl⟩))
   have E2 : ((q.toNat ^^^ m.toNat : Nat) : Int) = axF c x y k := by rw [← E.out]; rfl
   rw [E2]
   go_wp2
   exact ⟨⟨k + 1, by omega, by go_num, Making.drew (Making.store (Making.drawn M0.out _))⟩, by simp [intOf]; omega⟩
  ·obtain rfl : k = n := by omega
   rw [part_all] at hblk
   have G := Lib.hid hg
   have K := Lib.hid hblk
   clear hg hblk
   go_wp2
   go_ret2
   exact ⟨_, rfl, New.of_blk (Gr.trans G1.out G.out) (axF_byt HYB.out) (by omega) K.out (lst_length _ _) hn⟩
def scF (c : Int) (x : List Int) : Nat → Int := fun i => mulZ c (x.getD i 0)
set_option maxHeartbeats 400000 in
theorem scale_core (f : Value) (a : Addr) (n ca : Nat) (c : Int) (x : List Int) (w : World) (hf : IsF w f) (hc : Byt c) (hx : ∀ i, Byt (x.getD i 0)) (hn : n ≤ 1000000)
  (hxc : ∀ i, i < n → w.cell? (a.add i) = some (.int .u8 (x.getD i 0))) :
  Calls Tryz.prog 90 #[f, .int .u8 c, .slice (some a) n ca] w fun e w' => ∃ v, e = .returned v ∧ New w w' v (lst n (scF c x)) := by
 have HXB := Lib.hid hx
 have HX := Lib.hid hxc
 have HF := Lib.hid hf
 have hmk := make22 n n (by omega) (by omega)
 clear hx hxc hf
 have hR : ∃ cur, cur = rowB (List.replicate n 0) := ⟨_, rfl⟩
 obtain ⟨cur, hcur⟩ := hR
 rw [← hcur] at hmk
 have HC := Lib.hid hcur
 clear hcur
 go_enter Tryz.func90, Tryz.ntmps90
 go_wp2_with (first | (go_at_call 118; refine (tabled_any f _ HF.out).mono ?_; rintro e w1 ⟨t, rfl, ht, hg1⟩; have HT := Lib.hid ht; clear ht; have G1 := Lib.hid hg1; clear hg1))
 clear hmk
 have HX1 : Hid (∀ i, i < n → w1.cell? (a.add i) = some (.int .u8 (x.getD i 0))) := Lib.hid fun i hi => cell_grown G1.out (HX.out i hi)
 have hsz : w.heap.size ≤ w1.heap.size := G1.out.size
 have HB : Hid (Making w1 w1.heap.size n (scF c x) 0 (w1.alloc (.cells cur 5))) :=
  Lib.hid ⟨Gr.alloc (Gr.refl _) _ _, Nat.le_refl _, by rw [HC.out, ← part_nil]; exact heap_alloc_new _ _⟩
 clear HC HX HF
 generalize hW : w1.alloc (.cells cur 5) = W at *
 generalize hG : w1.heap.size = g at *
 go_loopw [16] (fun i wr => ∃ k : Nat, k ≤ n ∧ i = .int .i64 k ∧ Making w1 g n (scF c x) k wr) (fun i _ => n - (intOf i).toNat)
 case atStart => exact ⟨0, by omega, rfl, HB.out⟩
 case round =>
  clear HB
  obtain ⟨k, hk, rfl, hm⟩ := hrel
  obtain ⟨hg, hge, hblk⟩ := hm
  by_cases hlt : k < n
  ·have q1 := cell_grown hg (HX1.out k hlt)
   have q3 := Blk.cell hblk k (by rw [lst_length]; exact hlt)
   have q4 := frozen_of_row wr g k _ _ hblk
   have n1 : a.add k ≠ ⟨g, k, none⟩ := far_of hge (HX1.out k hlt)
   have M0 : Hid (Making w1 g n (scF c x) k wr) := Lib.hid ⟨hg, hge, hblk⟩
   have HT1 : Hid (FieldAt wr t) := Lib.hid (FieldAt.grown HT.out hg)
   have E : Hid (mulZ c (x.getD k 0) = scF c x k) := Lib.hid rfl
   have hp := HXB.out k
   clear hg hge hblk
   generalize (lst n (part (scF c x) k)).getD k 0 = old at *
   generalize x.getD k 0 = p at *
   go_wp2_with (first | (go_at_call 119; refine (mul_field t c p hc hp _ (by exact HT1.out)).mono ?_; rw [E.out]; rintro e w' ⟨rfl, d, rfl⟩))
   exact ⟨⟨k + 1, by omega, by go_num, Making.store (Making.drawn M0.out _)⟩, by simp [intOf]; omega⟩
  ·obtain rfl : k = n := by omega
   rw [part_all] at hblk
   have G := Lib.hid hg
   have K := Lib.hid hblk
   clear hg hblk
   go_wp2
   go_ret
   exact ⟨_, rfl, New.of_blk (Gr.trans G1.out G.out) (lst_byt fun i _ => mulZ_byt _ _) (by omega) K.out (lst_length _ _) hn⟩
set_option maxHeartbeats 400000 in
theorem lead_core (a : Addr) (n ca : Nat) (x : List Int) (w : World) (hl : x.length = n) (hn : n ≤ 1000000)
  (hxc : ∀ i, i < n → w.cell? (a.add i) = some (.int .u8 (x.getD i 0))) :
  Calls Tryz.prog 60 #[.slice (some a) n ca] w fun e w' => e = .returned (.int .i64 (leadL x)) ∧ Gr w w' := by
 have HX := Lib.hid hxc
 have HL := Lib.hid hl
 clear hxc hl
 go_enter Tryz.func60, Tryz.ntmps60
 go_wp2
 go_loop [7] (fun i => ∃ k : Nat, k ≤ n ∧ i = .int .i64 k ∧ (∀ j, j < k → x.getD j 0 = 0)) (fun i => n - (intOf i).toNat)
 case atStart => exact ⟨0, by omega, rfl, by omega⟩
 case round =>
  obtain ⟨k, hk, rfl, hs⟩ := hrel
  have S := Lib.hid hs
  clear hs
  by_cases hlt : k < n
  ·have q1 := HX.out k hlt
   by_cases hz : x.getD k 0 = 0
   ·rw [hz] at q1
    have Z := Lib.hid hz
    clear hz
    go_wp2
    refine ⟨⟨k + 1, by omega, by go_num, fun j hj => ?_⟩, by simp [intOf]; omega⟩
    by_cases e : j = k
    ·rw [e, Z.out]
    ·exact S.out j (by omega)
   ·have E : Hid (leadL x = k) := Lib.hid (leadL_at x k (by rw [HL.out]; exact hlt) S.out hz)
    have hb : (x.getD k 0 != 0) = true := by simpa using hz
    clear hz
    generalize x.getD k 0 = p at *
    go_wp2
    go_ret
    exact ⟨by rw [E.out]; rfl, Gr.refl _⟩
  ·obtain rfl : k = n := by omega
   go_wp2
   go_ret
   exact ⟨by rw [leadL_none x (by rw [HL.out]; exact S.out)]; rfl, Gr.refl _⟩
set_option maxHeartbeats 400000 in
theorem lead_none (oa : Option Addr) (ca : Nat) (w : World) :
  Calls Tryz.prog 60 #[.slice oa 0 ca] w fun e w' => e = .returned (.int .i64 (-1)) ∧ Gr w w' := by
 go_enter Tryz.func60, Tryz.ntmps60
 go_wp2
 go_loop [7] (fun i => i = .int .i64 0) (fun _ => 0)
 case atStart => exact rfl
 case round =>
  subst hrel
  go_wp2
  go_ret
  exact ⟨rfl, Gr.refl _⟩
set_option maxHeartbeats 400000 in
theorem sum_none (oa ob : Option Addr) (ca cb : Nat) (w : World) :
  Calls Tryz.prog 134 #[.slice oa 0 ca, .slice ob 0 cb] w fun e w' => ∃ v, e = .returned (.tuple #[v, .bool true]) ∧ New w w' v [] := by
 have hmk : ∀ w, (Instr.makeSlice 25 (.int .i64 0) (.int .i64 0)).run Tryz.prog w = .ok (.slice (some ⟨w.heap.size, 0, none⟩) 0 0) (w.alloc (.cells (rowB []) 5)) := fun w => make22 0 0 (by omega) (by omega) w
 generalize rowB [] = cur at *
 go_enter Tryz.func134, Tryz.ntmps134
 go_wp2
 clear hmk
 go_loopw [19] (fun i wr => i = .int .i64 0 ∧ wr = w.alloc (.cells cur 5)) (fun _ _ => 0)
 case atStart => exact ⟨rfl, rfl⟩
 case round =>
  obtain ⟨rfl, rfl⟩ := hrel
  go_wp2
  go_ret2
  exact ⟨_, rfl, New.made0 (Gr.alloc (Gr.refl _) _ _)⟩
set_option maxHeartbeats 400000 in
theorem axpy_none (f : Value) (c : Int) (oa ob : Option Addr) (ca cb : Nat) (w : World) (hf : IsF w f) :
  Calls Tryz.prog 107 #[f, .int .u8 c, .slice oa 0 ca, .slice ob 0 cb] w fun e w' => ∃ v, e = .returned (.tuple #[v, .bool true]) ∧ New w w' v [] := by
 have hmk : ∀ w, (Instr.makeSlice 25 (.int .i64 0) (.int .i64 0)).run Tryz.prog w = .ok (.slice (some ⟨w.heap.size, 0, none⟩) 0 0) (w.alloc (.cells (rowB []) 5)) := fun w => make22 0 0 (by omega) (by omega) w
 generalize rowB [] = cur at *
 have HF := Lib.hid hf
 clear hf
 go_enter Tryz.func107, Tryz.ntmps107
 go_wp2_with (first | (go_at_call 118; refine (tabled_any f _ HF.out).mono ?_; rintro e w1 ⟨t, rfl, ht, hg1⟩; clear ht; have G1 := Lib.hid hg1; clear hg1))
 clear hmk
 go_loopw [24] (fun i wr => i = .int .i64 0 ∧ wr = w1.alloc (.cells cur 5)) (fun _ _ => 0)
 case atStart => exact ⟨rfl, rfl⟩
 case round =>
  obtain ⟨rfl, rfl⟩ := hrel
  go_wp2
  go_ret2
  exact ⟨_, rfl, New.made0 (Gr.alloc G1.out _ _)⟩
set_option maxHeartbeats 400000 in
theorem scale_none (f : Value) (c : Int) (oa : Option Addr) (ca : Nat) (w : World) (hf : IsF w f) :
  Calls Tryz.prog 90 #[f, .int .u8 c, .slice oa 0 ca] w fun e w' => ∃ v, e = .returned v ∧ New w w' v [] := by
 have hmk : ∀ w, (Instr.makeSlice 25 (.int .i64 0) (.int .i64 0)).run Tryz.prog w = .ok (.slice (some ⟨w.heap.size, 0, none⟩) 0 0) (w.alloc (.cells (rowB []) 5)) := fun w => make22 0 0 (by omega) (by omega) w
 generalize rowB [] = cur at *
 have HF := Lib.hid hf
 clear hf
 go_enter Tryz.func90, Tryz.ntmps90
 go_wp2_with (first | (go_at_call 118; refine (tabled_any f _ HF.out).mono ?_; rintro e w1 ⟨t, rfl, ht, hg1⟩; clear ht; have G1 := Lib.hid hg1; clear hg1))
 clear hmk
 go_loopw [16] (fun i wr => i = .int .i64 0 ∧ wr = w1.alloc (.cells cur 5)) (fun _ _ => 0)
 case atStart => exact ⟨rfl, rfl⟩
 case round =>
  obtain ⟨rfl, rfl⟩ := hrel
  go_wp2
  go_ret
  exact ⟨_, rfl, New.made0 (Gr.alloc G1.out _ _)⟩
theorem unitL_set (n k : Nat) : (List.replicate n (0 : Int)).set k 1 = unitL n k := by
 unfold unitL lst
 apply List.ext_getElem
 ·simp
 intro j h1 h2
 simp only [List.getElem_set, List.getElem_replicate, List.getElem_map, List.getElem_range]
 by_cases e : k = j
 ·rw [if_pos e, if_pos e.symm]
 ·rw [if_neg e, if_neg (fun c => e c.symm)]
theorem unitL_byt (n k : Nat) : ∀ z ∈ unitL n k, Byt z := lst_byt fun i _ => by
 unfold Byt
 split <;> omega
set_option maxHeartbeats 400000 in
theorem unit_any (n k : Nat) (w : World) (h1 : 1 ≤ n) (h2 : n ≤ 64) (h3 : k < n) :
  Calls Tryz.prog 121 #[.int .i64 n, .int .i64 k] w fun e w' => ∃ v, e = .returned v ∧ New w w' v (unitL n k) := by
 have hmk := make22 n n (by omega) (by omega)
 have hR : ∃ cur, cur = rowB (List.replicate n 0) := ⟨_, rfl⟩
 obtain ⟨cur, hcur⟩ := hR
 rw [← hcur] at hmk
 have c1 : ∀ w : World, (w.alloc (.cells cur 5)).cell? ⟨w.heap.size, k, none⟩ = some (.int .u8 0) := fun w => by
  rw [cell_of_row _ _ _ _ _ _ (heap_alloc_new _ _), hcur, rowB_get _ _ (by simpa using h3), replicate_getD]
 have c2 : ∀ w : World, (w.alloc (.cells cur 5)).frozen? ⟨w.heap.size, k, none⟩ = false := fun w => frozen_of_row _ _ k _ _ (heap_alloc_new _ _)
 have HC := Lib.hid hcur
 clear hcur
 have d1 := c1 w
 have d2 := c2 w
 clear c1 c2
 go_enter Tryz.func121, Tryz.ntmps121
 go_wp2
 go_ret
 refine ⟨_, rfl, New.of_blk (Gr.alloc (Gr.refl _) _ _) (unitL_byt n k) (Nat.le_refl _) ?_ (lst_length _ _) (by omega)⟩
 show (w.alloc _).heap[w.heap.size]? = _
 rw [heap_alloc_new, HC.out, rowB_set, unitL_set]
theorem lst_eq_sum (x y : List Int) : lst x.length (sumF x y) = sumL x y := rfl
theorem lst_eq_ax (c : Int) (x y : List Int) : lst x.length (axF c x y) = axL c x y := rfl
theorem lst_eq_sc (c : Int) (x : List Int) : lst x.length (scF c x) = scaleL c x := rfl
theorem ok_sum : ∀ (va vb : Value) (x y : List Int) (w : World), Bs w va x → Bs w vb y → x.length ≤ 1000000 → y.length = x.length →
  Calls Tryz.prog 134 #[va, vb] w fun e w' => ∃ v, e = .returned (.tuple #[v, .bool true]) ∧ New w w' v (sumL x y) :=
 fun va vb x y w ha hb hn hl => by
  rw [← lst_eq_sum]
  by_cases h0 : 0 < x.length
  ·obtain ⟨a, ca, rfl, _, _, h3⟩ := Bs.at ha h0
   obtain ⟨b, cb, rfl, _, _, h6⟩ := Bs.at hb (by omega)
   rw [hl] at h6 ⊢
   exact sum_core a b x.length ca cb x y w (Bs.byt ha) (Bs.byt hb) hn h3 h6
  ·obtain rfl : x = [] := List.eq_nil_of_length_eq_zero (by omega)
   obtain rfl : y = [] := List.eq_nil_of_length_eq_zero hl
   obtain ⟨_, oa, ca, rfl, _, _, _, _⟩ := ha
   obtain ⟨_, ob, cb, rfl, _, _, _, _⟩ := hb
   exact sum_none oa ob ca cb w
theorem ok_axpy : ∀ (f va vb : Value) (c : Int) (x y : List Int) (w : World), IsF w f → Byt c → Bs w va x → Bs w vb y → x.length ≤ 1000000 → y.length = x.length →
  Calls Tryz.prog 107 #[f, .int .u8 c, va, vb] w fun e w' => ∃ v, e = .returned (.tuple #[v, .bool true]) ∧ New w w' v (axL c x y) :=
 fun f va vb c x y w hf hc ha hb hn hl => by
  rw [← lst_eq_ax]
  by_cases h0 : 0 < x.length
  ·obtain ⟨a, ca, rfl, _, _, h3⟩ := Bs.at ha h0
   obtain ⟨b, cb, rfl, _, _, h6⟩ := Bs.at hb (by omega)
   rw [hl] at h6 ⊢
   exact axpy_core f a b x.length ca cb c x y w hf hc (Bs.byt ha) (Bs.byt hb) hn h3 h6
  ·obtain rfl : x = [] := List.eq_nil_of_length_eq_zero (by omega)
   obtain rfl : y = [] := List.eq_nil_of_length_eq_zero hl
   obtain ⟨_, oa, ca, rfl, _, _, _, _⟩ := ha
   obtain ⟨_, ob, cb, rfl, _, _, _, _⟩ := hb
   exact axpy_none f c oa ob ca cb w hf
theorem ok_scale : ∀ (f va : Value) (c : Int) (x : List Int) (w : World), IsF w f → Byt c → Bs w va x → x.length ≤ 1000000 →
  Calls Tryz.prog 90 #[f, .int .u8 c, va] w fun e w' => ∃ v, e = .returned v ∧ New w w' v (scaleL c x) :=
 fun f va c x w hf hc ha hn => by
  rw [← lst_eq_sc]
  by_cases h0 : 0 < x.length
  ·obtain ⟨a, ca, rfl, _, _, h3⟩ := Bs.at ha h0
   exact scale_core f a x.length ca c x w hf hc (Bs.byt ha) hn h3
  ·obtain rfl : x = [] := List.eq_nil_of_length_eq_zero (by omega)
   obtain ⟨_, oa, ca, rfl, _, _, _, _⟩ := ha
   exact scale_none f c oa ca w hf
theorem ok_lead : ∀ (va : Value) (x : List Int) (w : World), Bs w va x → x.length ≤ 1000000 →
  Calls Tryz.prog 60 #[va] w fun e w' => e = .returned (.int .i64 (leadL x)) ∧ Gr w w' :=
 fun va x w ha hn => by
  by_cases h0 : 0 < x.length
  ·obtain ⟨a, ca, rfl, _, _, h3⟩ := Bs.at ha h0
   exact lead_core a x.length ca x w rfl hn h3
  ·obtain rfl : x = [] := List.eq_nil_of_length_eq_zero (by omega)
   obtain ⟨_, oa, ca, rfl, _, _, _, _⟩ := ha
   exact lead_none oa ca w
theorem ok_unit : ∀ (n k : Nat) (w : World), 1 ≤ n → n ≤ 64 → k < n →
  Calls Tryz.prog 121 #[.int .i64 n, .int .i64 k] w fun e w' => ∃ v, e = .returned v ∧ New w w' v (unitL n k) :=
 fun n k w h1 h2 h3 => unit_any n k w h1 h2 h3
end Go.Proofs.YtbbglejdfbkjlaaGreat
namespace Go.Proofs.YtbbglejdfbkjlaaGreat
open Go.RowKit
set_option maxHeartbeats 400000 in
theorem columns_any (v : Value) (A : List (List Int)) (w : World) (h : Bss w v A) :
  Calls Tryz.prog 56 #[v] w fun e w' => e = .returned (.int .i64 (wd A)) ∧ Gr w w' := by
 by_cases h0 : 0 < A.length
 ·obtain ⟨a, c, rfl, h1, h2, h3⟩ := Bss.at h h0
  obtain ⟨u, q, hu⟩ := h3 0 h0
  rw [show a.add 0 = a from by simp [Addr.add]] at q
  obtain ⟨ou, cu, rfl⟩ := hu.form
  have e : (A.getD 0 []).length = wd A := rfl
  rw [e] at q
  clear h h3 hu e
  generalize wd A = k at *
  generalize A.length = n at *
  have hb : ((n : Int) == 0) = false := by simp; omega
  go_enter Tryz.func56, Tryz.ntmps56
  go_wp2
  go_ret
  exact ⟨rfl, Gr.refl _⟩
 ·obtain rfl : A = [] := List.eq_nil_of_length_eq_zero (by omega)
  obtain ⟨oa, c, rfl, _, _, _, _⟩ := h
  rw [wd_nil]
  go_enter Tryz.func56, Tryz.ntmps56
  go_wp2
  go_ret
  exact ⟨rfl, Gr.refl _⟩
theorem mayL_iff {A : List (List Int)} (h : ∀ j, j < A.length → (A.getD j []).length = wd A) : mayL A = decide (wd A ≤ 64) := by
 by_cases h0 : 0 < A.length
 ·by_cases h1 : wd A ≤ 64
  ·rw [decide_eq_true h1]
   exact mayL_true fun i hi => ⟨h i hi, by rw [h i hi]; exact h1⟩
  ·rw [decide_eq_false h1]
   exact mayL_false 0 h0 fun c => h1 c.2
 ·obtain rfl : A = [] := List.eq_nil_of_length_eq_zero (by omega)
  rfl
set_option maxHeartbeats 400000 in
theorem may_core (a : Addr) (n c : Nat) (L : List (List Int)) (w : World) (hn : L.length = n) (hnb : n ≤ 1000000) (hs : Bss w (.slice (some a) n c) L)
  (hc : ∀ i, i < n → ∃ u, w.cell? (a.add i) = some u ∧ Bs w u (L.getD i [])) :
  Calls Tryz.prog 55 #[.slice (some a) n c] w fun e w' => e = .returned (.bool (mayL L)) ∧ Gr w w' := by
 have HC := Lib.hid hc
 have HN := Lib.hid hn
 have HS := Lib.hid hs
 clear hc hn hs
 go_enter Tryz.func55, Tryz.ntmps55
 go_wp2_with (first | (go_at_call 56; refine (columns_any _ L _ HS.out).mono ?_; rintro e w1 ⟨rfl, hg1⟩; have G1 := Lib.hid hg1; clear hg1))
 have HW : Hid (wd L = wd L) := Lib.hid rfl
 obtain ⟨q, hq⟩ : ∃ q, wd L = q := ⟨_, rfl⟩
 have HQ := Lib.hid hq
 rw [hq]
 clear hq HW
 go_loopw [10] (fun i wr => ∃ k : Nat, k ≤ n ∧ i = .int .i64 k ∧ Gr w wr ∧ ∀ j, j < k → (L.getD j []).length = wd L) (fun i _ => n - (intOf i).toNat)
 case atStart => exact ⟨0, by omega, rfl, G1.out, by omega⟩
 case round =>
  obtain ⟨k, hk, rfl, hg, hs⟩ := hrel
  have HJ := Lib.hid hs
  have G := Lib.hid hg
  clear hs hg
  by_cases hlt : k < n
  ·obtain ⟨u, h1, hu⟩ := HC.out k hlt
   have q1 := cell_grown G.out h1
   obtain ⟨ou, cu, rfl⟩ := hu.form
   obtain ⟨p, hp⟩ : ∃ p, (L.getD k []).length = p := ⟨_, rfl⟩
   rw [hp] at q1
   have HP := Lib.hid hp
   clear hp h1 hu
   by_cases e1 : p = q
   ·subst e1
    go_wp2
    refine ⟨⟨k + 1, by omega, by go_num, G.out, fun j hj => ?_⟩, by simp [intOf]; omega⟩
    by_cases e : j = k
    ·rw [e, HP.out, HQ.out]
    ·exact HJ.out j (by omega)
   ·have hne : ((p : Int) != q) = true := by simp; omega
    go_wp2
    go_ret
    exact ⟨by rw [mayL_false k (by rw [HN.out]; exact hlt) (fun c => e1 (by rw [← HP.out, ← HQ.out]; exact c.1))]; rfl, G.out⟩
  ·obtain rfl : k = n := by omega
   have E : Hid (mayL L = decide (q ≤ 64)) := Lib.hid (by rw [← HQ.out]; exact mayL_iff (fun i hi => HJ.out i (by rw [HN.out] at hi; exact hi)))
   have hd : decide ((q : Int) ≤ 64) = decide (q ≤ 64) := decide_eq_decide.2 (by omega)
   have HD := Lib.hid hd
   clear hd
   go_wp2
   go_ret
   exact ⟨by rw [E.out, ← HD.out]; rfl, G.out⟩
set_option maxHeartbeats 400000 in
theorem may_nil (oa : Option Addr) (c : Nat) (w : World) (h : Bss w (.slice oa 0 c) []) :
  Calls Tryz.prog 55 #[.slice oa 0 c] w fun e w' => e = .returned (.bool true) ∧ Gr w w' := by
 have HS := Lib.hid h
 clear h
 go_enter Tryz.func55, Tryz.ntmps55
 go_wp2_with (first | (go_at_call 56; refine (columns_any _ [] _ HS.out).mono ?_; rw [wd_nil]; rintro e w1 ⟨rfl, hg1⟩; have G1 := Lib.hid hg1; clear hg1))
 go_loopw [10] (fun i wr => i = .int .i64 0 ∧ wr = w1) (fun _ _ => 0)
 case atStart => exact ⟨rfl, rfl⟩
 case round =>
  obtain ⟨rfl, rfl⟩ := hrel
  go_wp2
  go_ret
  exact ⟨rfl, G1.out⟩
theorem may_any (v : Value) (L : List (List Int)) (w : World) (h : Bss w v L) (hn : L.length ≤ 1000000) :
  Calls Tryz.prog 55 #[v] w fun e w' => e = .returned (.bool (mayL L)) ∧ Gr w w' := by
 by_cases h0 : 0 < L.length
 ·have hs := h
  obtain ⟨a, c, rfl, _, _, h3⟩ := Bss.at h h0
  exact may_core a L.length c L w rfl hn hs h3
 ·obtain rfl : L = [] := List.eq_nil_of_length_eq_zero (by omega)
  have hs := h
  obtain ⟨oa, c, rfl, _, _, _, _⟩ := h
  exact may_nil oa c w hs
set_option maxHeartbeats 400000 in
theorem mtabled_any (f : Value) (w : World) (h : IsF w f) :
  Calls Tryz.prog 59 #[f] w fun e w' => ∃ b, e = .returned (.pointer (some ⟨b, 0, none⟩)) ∧ FieldAt w' b ∧ Gr w w' := by
 rcases h with rfl | ⟨b, rfl, hb⟩
 ·go_enter Tryz.func59, Tryz.ntmps59
  go_wp2_with (go_at_call 65; refine (new_any _).mono ?_; rintro e w' ⟨b, rfl, hf, hg⟩; have HF := Lib.hid hf; clear hf; have HG := Lib.hid hg; clear hg)
  go_ret
  exact ⟨_, rfl, HF.out, HG.out⟩
 ·have HF := Lib.hid hb
  clear hb
  go_enter Tryz.func59, Tryz.ntmps59
  go_wp2_with fail
  go_ret
  exact ⟨_, rfl, HF.out, Gr.refl _⟩
set_option maxHeartbeats 400000 in
theorem inv_field (t : Nat) (a : Int) (ha : Byt a) (w : World) (hf : FieldAt w t) :
  Calls Tryz.prog 91 #[.pointer (some ⟨t, 0, none⟩), .int .u8 a] w fun e w' => e = .returned (.int .u8 (invZ a)) ∧ ∃ d, w' = w.drewN d := by
 obtain ⟨a0, a1⟩ := ha
 by_cases az : a = 0
 ·subst az
  go_enter Tryz.func91, Tryz.ntmps91
  go_wp2_with fail
  go_ret
  exact ⟨rfl, 0, rfl⟩
 ·have HF := Lib.hid hf
  clear hf
  have ea : (a == 0) = false := by simpa using az
  obtain ⟨x, rfl⟩ := Int.eq_ofNat_of_zero_le a0
  have hx : x < 256 := by omega
  have l1 := (M.ex_lg x hx (by simpa using az)).2
  clear az
  go_enter Tryz.func91, Tryz.ntmps91
  go_wp2_with (go_at_call 120; refine (made_field t _ HF.out).mono ?_; rintro e w' ⟨rfl, rfl⟩)
  have c1 := FieldAt.lg HF.out x hx
  have hi : (255 - M.lgN x) % 255 < 255 := Nat.mod_lt _ (by omega)
  have c3 := FieldAt.ex HF.out _ hi
  have E : Hid (invZ x = ((M.exN ((255 - M.lgN x) % 255) : Nat) : Int)) := Lib.hid (by
    unfold invZ M.invN
    rw [if_neg (by simp at ea; simpa using ea)]
    rfl)
  generalize M.lgN x = p at *
  rw [show (255 - p) % 255 = (-(p : Int) % 255).toNat from by omega] at c3 E
  clear hi
  go_quiet (fail)
  go_wp2
  go_ret
  exact ⟨ret_int E.out.symm, _, rfl⟩
section
variable {w0 : World} {g n c k : Nat} {A Lm : List (List Int)} {ps : List Nat} {col : Nat} {us : List Value}
set_option maxHeartbeats 800000 in
theorem beginning_any (w : World) (h : Mx w0 w g n c k A Lm ps col us) (st cl : Nat) (hst : st ≤ n) (hcl : cl < k) (hn : n ≤ 1000) :
  Calls Tryz.prog 94 #[.slice (some ⟨g, 0, none⟩) n c, .int .i64 st, .int .i64 cl] w fun e w' => Gr w w' ∧
   ((e = .returned (.int .i64 (-1)) ∧ ∀ s, st ≤ s → s < n → (Lm.getD s []).getD cl 0 = 0) ∨ ∃ t : Nat, e = .returned (.int .i64 t) ∧ st ≤ t ∧ t < n ∧ (Lm.getD t []).getD cl 0 ≠ 0) := by
 have HX := Lib.hid h
 clear h
 go_enter Tryz.func94, Tryz.ntmps94
 go_wp2
 refine wp_scope_jumps 0 (fun a' w' => ∃ (t : Nat) (u0 u1 u2 u3 u4 u5 u6 u8 u9 u10 u11 u12 u13 u14 u15 u16 u17 u18 u19 u20 u21 u22 u23 : Value), st ≤ t ∧ t < n ∧ (Lm.getD t []).getD cl 0 ≠ 0 ∧ w' = w ∧ a' = { tmps := #[u0, u1, u2, u3, u4, u5, u6, .int .i64 t, u8, u9, u10, u11, u12, u13, u14, u15, u16, u17, u18, u19, u20, u21, u22, u23], defers := [] }) (fun _ _ => 0) rfl ?_ ?_
 rotate_left
 ·rintro a' w' ⟨t, u0, u1, u2, u3, u4, u5, u6, u8, u9, u10, u11, u12, u13, u14, u15, u16, u17, u18, u19, u20, u21, u22, u23, h1, h2, h3, rfl, rfl⟩
  have H3 := Lib.hid h3
  clear h3
  go_wp2
  simp only [Exit.jump]
  go_ret
  exact ⟨Gr.refl _, .inr ⟨t, rfl, h1, h2, H3.out⟩⟩
 go_wp2
 go_loopw [7] (fun i wr => wr = w ∧ ∃ ii : Nat, ii ≤ n ∧ st ≤ ii ∧ i = .int .i64 ii ∧ ∀ s, st ≤ s → s < ii → (Lm.getD s []).getD cl 0 = 0) (fun i _ => n - (intOf i).toNat)
 case atStart => exact ⟨rfl, st, hst, Nat.le_refl _, rfl, by omega⟩
 case round =>
  obtain ⟨rfl, ii, hii, hdi, rfl, ht⟩ := hrel
  have HT := Lib.hid ht
  clear ht
  by_cases hlt : ii < n
  ·obtain ⟨oi, ci, _, e1, e2⟩ := HX.out.cell ii hlt
   obtain ⟨b, rfl, e3⟩ := e2 cl hcl
   have hbb := HX.out.wide.byt ii cl
   clear e2
   obtain ⟨z, hz⟩ : ∃ z, (Lm.getD ii []).getD cl 0 = z := ⟨_, rfl⟩
   rw [hz] at e3 hbb
   have HZ := Lib.hid hz
   clear hz
   by_cases hz0 : z = 0
   ·subst hz0
    go_wp2
    refine ⟨⟨trivial, ii + 1, by omega, by omega, by go_num, fun s s1 s2 => ?_⟩, by simp [intOf]; omega⟩
    by_cases e : s = ii
    ·rw [e, HZ.out]
    ·exact HT.out s s1 (by omega)
   ·have hzb : (z != 0) = true := by simpa using hz0
    go_wp2
    go_step3
    exact ⟨rfl, ii, _, _, _, _, _, _, _, _, _, _, _, _, _, _, _, _, _, _, _, _, _, _, _, hdi, hlt, by rw [HZ.out]; exact hz0, rfl, rfl⟩
  ·obtain rfl : n = ii := by omega
   go_wp2
   simp only [Exit.jump]
   go_ret
   exact ⟨Gr.refl _, .inl ⟨rfl, HT.out⟩⟩
end
end Go.Proofs.YtbbglejdfbkjlaaGreat
namespace Go.Proofs.YtbbglejdfbkjlaaGreat
open Go.RowKit
theorem gr_drew {W w2 : World} (h : Gr W.drew w2) : Gr W w2 := h
section
variable {w0 : World} {g n c k : Nat} {A Lm : List (List Int)} {ps : List Nat} {col : Nat} {us : List Value}
set_option maxRecDepth 100000 in
set_option maxHeartbeats 1600000 in
theorem sweep_any (w : World) (h : Mx w0 w g n c k A Lm ps col us) (ft : Nat) (hf : FieldAt w ft) (hfg : ft ≠ g) (d cl : Nat) (hd : ps.length ≤ d) (hd2 : d < n) (hcl : cl < k) (hone : (Lm.getD d []).getD cl 0 = 1) (hn : n ≤ 1000) (hk : k ≤ 1000) (hnc : n ≤ c) (hc : c ≤ 9223372036854775807) :
  Calls Tryz.prog 95 #[.pointer (some ⟨ft, 0, none⟩), .slice (some ⟨g, 0, none⟩) n c, .int .i64 d, .int .i64 cl] w fun e w' => e = .returned (.tuple #[]) ∧ FieldAt w' ft ∧
   ∃ L3 us3, Mx w0 w' g n c k A L3 ps col us3 ∧ (L3.getD d []).getD cl 0 = 1 ∧ ∀ s, s < n → s ≠ d → (L3.getD s []).getD cl 0 = 0 := by
 have HX := Lib.hid h
 have HF0 := Lib.hid hf
 have HO := Lib.hid hone
 have HFG := Lib.hid hfg
 clear h hf hone hfg
 go_enter Tryz.func95, Tryz.ntmps95
 go_wp2
 go_loopw [12] (fun i W => ∃ (j : Nat) (L3 : List (List Int)) (us3 : List Value), j ≤ n ∧ i = .int .i64 j ∧ Mx w0 W g n c k A L3 ps col us3 ∧ FieldAt W ft ∧ (L3.getD d []).getD cl 0 = 1 ∧ ∀ s, s < j → s ≠ d → (L3.getD s []).getD cl 0 = 0) (fun i _ => n - (intOf i).toNat)
 case atStart => exact ⟨0, Lm, us, by omega, rfl, HX.out, HF0.out, HO.out, by omega⟩
 case round =>
  clear HX HO HF0
  obtain ⟨j, L3, us3, hj, rfl, hx3, hft, hone, hzs⟩ := hrel
  have H3 := Lib.hid hx3
  have HF := Lib.hid hft
  have HONE := Lib.hid hone
  have HZS := Lib.hid hzs
  clear hx3 hone hzs hft
  by_cases hlt : j < n
  ·obtain ⟨oj, cj, ej, qj, rj⟩ := H3.out.cell j hlt
   obtain ⟨bj, rfl, rqj⟩ := rj cl hcl
   clear rj
   by_cases hjd : j = d
   ·subst hjd
    clear ej
    go_wp2
    refine ⟨⟨j + 1, L3, us3, by omega, by go_num, H3.out, HF.out, HONE.out, fun s s1 s2 => HZS.out s (by omega) s2⟩, by simp [intOf]; omega⟩
   ·have hjd' : ((j : Int) != d) = true := by simp; omega
    have hbz := H3.out.wide.byt j cl
    generalize hzz : (L3.getD j []).getD cl 0 = z at *
    have HZZ := Lib.hid hzz
    have HEJ := Lib.hid ej
    have HJD := Lib.hid hjd
    clear hzz ej hjd
    by_cases hz0 : z = 0
    ·subst hz0
     go_wp2
     refine ⟨⟨j + 1, L3, us3, by omega, by go_num, H3.out, HF.out, HONE.out, fun s s1 s2 => ?_⟩, by simp [intOf]; omega⟩
     by_cases e : s = j
     ·rw [e, HZZ.out]
     ·exact HZS.out s (by omega) s2
    ·have hzb : (z != 0) = true := by simpa using hz0
     obtain ⟨od, cd, ed, qd, _⟩ := H3.out.cell d hd2
     have fj := H3.out.frozen j
     have hrj := (H3.out.row j hlt).1
     have hrd := (H3.out.row d hd2).1
     rw [HEJ.out] at hrj
     rw [ed] at hrd
     have RJ := Lib.hid hrj
     have RD := Lib.hid hrd
     have WJ : Hid ((L3.getD j []).length = k) := Lib.hid (H3.out.wide.at j (by rw [H3.out.len]; exact hlt)).1
     have WD : Hid ((L3.getD d []).length = k) := Lib.hid (H3.out.wide.at d (by rw [H3.out.len]; exact hd2)).1
     clear hrj hrd ed hz0
     go_wp2
     go_region_law (first
       | ((try go_simp); go_at_call 107; refine (ok_axpy _ _ _ z (L3.getD d []) (L3.getD j []) _ (Or.inr ⟨ft, rfl, by exact HF.out⟩) hbz (Bs.grown RD.out (Gr.drew (Gr.refl _))) (Bs.grown RJ.out (Gr.drew (Gr.refl _))) (by rw [WD.out]; omega) (by rw [WJ.out, WD.out])).mono ?_; rintro e w2 ⟨v2, rfl, hnw⟩; obtain ⟨o2, m2, c2', rfl⟩ := New.form3 hnw; have hc2 := cell_grown hnw.1 qj; have hf2 := frozen_grown hnw.1 qj fj; have HNW := Lib.hid hnw; clear hnw))
     all_goals
      go_wp2_with fail
      refine ⟨⟨j + 1, _, _, by omega, by go_num, (H3.out.grow (Gr.trans (Gr.drew (Gr.refl _)) HNW.out.1)).added j d hd hd2 hlt HJD.out hbz (New.bs HNW.out) (New.rb HNW.out _), FieldAt.put (FieldAt.grown HF.out (gr_drew HNW.out.1)) HFG.out, ?_, fun s s1 s2 => ?_⟩, by simp [intOf]; omega⟩
      ·rw [getD_set_ne _ _ _ _ HJD.out, HONE.out]
      ·by_cases e : s = j
       ·rw [e, getD_set_self _ _ _ (by rw [H3.out.len]; exact hlt), axL_getD _ _ _ _ (by rw [WD.out]; exact hcl), HONE.out, HZZ.out, mulZ_one z hbz, addZ_self]
       ·rw [getD_set_ne _ _ _ _ (fun c => e c.symm)]
        exact HZS.out s (by omega) s2
  ·obtain rfl : j = n := by omega
   go_wp2
   go_end0
   exact ⟨rfl, HF.out, L3, us3, H3.out, HONE.out, fun s s1 s2 => HZS.out s s1 s2⟩
set_option maxRecDepth 100000 in
set_option maxHeartbeats 3200000 in
theorem eliminate_any (w : World) (h : Mx w0 w g n c k A A [] 0 us) (ft : Nat) (hf : FieldAt w ft) (hfg : ft ≠ g) (cols : Nat) (hcols : cols ≤ k) (hn : n ≤ 1000) (hk : k ≤ 1000) (hnc : n ≤ c) (hc : c ≤ 9223372036854775807) :
  Calls Tryz.prog 58 #[.pointer (some ⟨ft, 0, none⟩), .slice (some ⟨g, 0, none⟩) n c, .int .i64 cols] w fun e w' => ∃ (ps : List Nat) (Lm : List (List Int)) (us' : List Value), e = .returned (.int .i64 (ps.length : Nat)) ∧ Mx w0 w' g n c k A Lm ps cols us' := by
 have HX0 := Lib.hid h
 have HF0 := Lib.hid hf
 have HFG := Lib.hid hfg
 clear h hf hfg
 go_enter Tryz.func58, Tryz.ntmps58
 go_wp2
 go_loopw [7, 11] (fun dd cc W => ∃ (cl : Nat) (Lm : List (List Int)) (ps : List Nat) (us : List Value), cl ≤ cols ∧ cc = .int .i64 cl ∧ dd = .int .i64 (ps.length : Nat) ∧ FieldAt W ft ∧ Mx w0 W g n c k A Lm ps cl us) (fun _ cc _ => cols - (intOf cc).toNat)
 case atStart => exact ⟨0, A, [], us, by omega, rfl, rfl, HF0.out, HX0.out⟩
 case round =>
  clear HX0 HF0
  obtain ⟨cl, Lm, ps, us, hcl, rfl, rfl, hff, hx⟩ := hrel
  have HX := Lib.hid hx
  have HF := Lib.hid hff
  have hdn : ps.length ≤ n := by have := hx.ech.le; rw [List.length_map, hx.len] at this; exact this
  generalize hd : ps.length = d at *
  have HD := Lib.hid hd
  clear hx hd hff
  by_cases hend : cl < cols
  ·have hck : cl < k := by omega
   go_wp2_with fail
   refine (beginning_any _ HX.out d cl hdn hck hn).mono ?_
   rintro e w1 ⟨hg1, ⟨rfl, h0⟩ | ⟨t, rfl, t1, t2, t3⟩⟩
   ·have HX1 := Lib.hid (HX.out.grow hg1)
    have HF1 := Lib.hid (FieldAt.grown HF.out hg1)
    have H0 := Lib.hid h0
    clear HX h0 hg1
    go_wp2
    refine ⟨⟨cl + 1, Lm, ps, us, by omega, by go_num, by rw [HD.out], HF1.out, HX1.out.to (HX1.out.ech.skip fun s hs => ?_)⟩, by simp [intOf]; omega⟩
    rw [at_vec]
    by_cases e : s < n
    ·rw [H0.out s (by rw [← HD.out]; exact hs) e, fb_zero]
    ·have hnil : Lm.getD s [] = [] := by
      rw [List.getD_eq_getElem?_getD, List.getElem?_eq_none (by rw [HX1.out.len]; omega)]
      rfl
     rw [hnil]
     rfl
   ·have HX1 := Lib.hid (HX.out.grow hg1)
    have HF1 := Lib.hid (FieldAt.grown HF.out hg1)
    have H0 := Lib.hid t3
    clear HX t3 hg1 HF
    have hd1 : d < n := by omega
    obtain ⟨oa1, ca1, ea, qa, _⟩ := HX1.out.cell t t2
    obtain ⟨od1, cd1, ed, qd, _⟩ := HX1.out.cell d hd1
    have ft1 := HX1.out.frozen t
    have fd1 := HX1.out.frozen d
    have HEA := Lib.hid ea
    have HED := Lib.hid ed
    clear ea ed
    obtain ⟨y, hy⟩ : ∃ y, (w1.setCell ⟨g, d, none⟩ (.slice oa1 k ca1)).cell? ⟨g, t, none⟩ = some y := by
     obtain ⟨_, ⟨he, _⟩ | ⟨g', c', cur, he, _, hg, hh1, hh2, hh3, _⟩⟩ := HX1.out.own
     ·cases he
     ·cases he
      have h2 := heap_setCell_same w1 g d cur _ (.slice oa1 k ca1) hg
      rw [cell_of_row _ g t _ _ _ h2]
      have : t < (cur.setIfInBounds d (.slice oa1 k ca1)).size := by simp; omega
      exact ⟨_, by rw [Array.getElem?_eq_getElem this]⟩
    go_wp2
    go_region
    have hsw := (HX1.out.swap d t (by rw [HD.out]; exact Nat.le_refl _) hd1 (by rw [HD.out]; exact t1) t2).grow (Gr.drew (Gr.refl _))
    rw [HEA.out, HED.out] at hsw
    have hz1 : (((Lm.set d (Lm.getD t [])).set t (Lm.getD d [])).getD d []).getD cl 0 ≠ 0 := by
     by_cases e : t = d
     ·subst e
      rw [getD_set_self _ _ _ (by rw [List.length_set, HX1.out.len]; exact hd1)]
      exact H0.out
     ·rw [getD_set_ne _ _ _ _ e, getD_set_self _ _ _ (by rw [HX1.out.len]; exact hd1)]
      exact H0.out
    have H1 := Lib.hid hsw
    have HZ1 := Lib.hid hz1
    have HF2 : Hid (FieldAt ((w1.setCell ⟨g, d, none⟩ (.slice oa1 k ca1)).setCell ⟨g, t, none⟩ (.slice od1 k cd1)).drew ft) := Lib.hid (FieldAt.grown (FieldAt.put (FieldAt.put HF1.out HFG.out) HFG.out) (Gr.drew (Gr.refl _)))
    clear hsw hz1 hy ft1 fd1 qa qd HEA HED H0 HX1 HF1
    generalize ((w1.setCell ⟨g, d, none⟩ (.slice oa1 k ca1)).setCell ⟨g, t, none⟩ (.slice od1 k cd1)).drew = W1 at *
    generalize (us.set d (.slice oa1 k ca1)).set t (.slice od1 k cd1) = us1 at *
    generalize (Lm.set d (Lm.getD t [])).set t (Lm.getD d []) = L1 at *
    obtain ⟨ob1, cb1, eb1, qb1, rb1⟩ := H1.out.cell d hd1
    obtain ⟨b1, rfl, rq1⟩ := rb1 cl hck
    have fr1 := H1.out.frozen d
    have hbz := H1.out.wide.byt d cl
    have hrow := (H1.out.row d hd1).1
    rw [eb1] at hrow
    have HROW := Lib.hid hrow
    have HLK : Hid ((L1.getD d []).length = k) := Lib.hid (H1.out.wide.at d (by rw [H1.out.len]; exact hd1)).1
    clear rb1 hrow eb1
    generalize hzz : (L1.getD d []).getD cl 0 = z at *
    have HZZ := Lib.hid hzz
    clear hzz
    go_upto_region 8 with fail
    go_cut [] (fun wx => ∃ L2 us2, Mx w0 wx g n c k A L2 ps cl us2 ∧ (L2.getD d []).getD cl 0 = 1 ∧ FieldAt wx ft)
    case first =>
     go_region_law (first
       | ((try go_simp); go_at_call 91; refine (inv_field ft z hbz _ (by exact HF2.out)).mono ?_; rintro e w' ⟨rfl, nd, rfl⟩)
       | ((try go_simp); go_at_call 90; refine (ok_scale _ _ (invZ z) (L1.getD d []) _ (Or.inr ⟨ft, rfl, by exact HF2.out⟩) (invZ_byt z) (by exact HROW.out) (by rw [HLK.out]; omega)).mono ?_; rintro e w2 ⟨v2, rfl, hnw⟩; obtain ⟨o2, m2, c2', rfl⟩ := New.form3 hnw; have hc2 := cell_grown hnw.1 (by exact qb1); have hf2 := frozen_grown hnw.1 (by exact qb1) (by exact fr1); have HG2 := Lib.hid (show Gr W1 _ from hnw.1); have HNW := Lib.hid hnw; clear hnw))
     all_goals
      go_wp2_with fail
      go_meet
      refine ⟨_, _, (H1.out.grow HG2.out).scaled d (by rw [HD.out]; exact Nat.le_refl _) hd1 (invZ_byt z) (invZ_ne hbz HZ1.out) (New.bs HNW.out) ?_, ?_, FieldAt.put (FieldAt.grown HF2.out HG2.out) HFG.out⟩
      ·exact New.rb HNW.out _
      ·rw [getD_set_self _ _ _ (by rw [H1.out.len]; exact hd1), scaleL_getD _ _ _ (by rw [HLK.out]; exact hck), HZZ.out, inv_mulZ hbz HZ1.out]
    case rest =>
     clear H1 HZ1 qb1 rq1 fr1 hbz HROW HLK HZZ HF2
     obtain ⟨L2, us2, hx2, hone, hf2⟩ := hcut
     have H2 := Lib.hid hx2
     have HONE := Lib.hid hone
     have HF3 := Lib.hid hf2
     clear hx2 hone hf2
     go_wp2_with fail
     refine (sweep_any _ H2.out ft HF3.out HFG.out d cl (by rw [HD.out]; exact Nat.le_refl _) hd1 hck HONE.out hn hk hnc hc).mono ?_
     rintro e w3 ⟨rfl, hf3, L3, us3, hx3, hone3, hzs⟩
     have H3 := Lib.hid hx3
     have HF4 := Lib.hid hf3
     have HONE3 := Lib.hid hone3
     have HZS := Lib.hid hzs
     clear hx3 hf3 hone3 hzs H2 HONE HF3
     go_wp2
     refine ⟨⟨cl + 1, L3, ps ++ [cl], us3, by omega, by go_num, by rw [List.length_append, HD.out]; go_num, HF4.out, H3.out.to (H3.out.ech.next ?_ ?_ fun s hs => ?_)⟩, by simp [intOf]; omega⟩
     ·rw [List.length_map, H3.out.len, HD.out]; exact hd1
     ·rw [at_vec, HD.out, HONE3.out, fb_one]
     ·rw [at_vec]
      by_cases e : s < n
      ·rw [HZS.out s e (by rw [← HD.out]; exact hs), fb_zero]
      ·have hnil : L3.getD s [] = [] := by
        rw [List.getD_eq_getElem?_getD, List.getElem?_eq_none (by rw [H3.out.len]; omega)]
        rfl
       rw [hnil]
       rfl
  ·obtain rfl : cl = cols := by omega
   go_wp2
   go_ret
   exact ⟨ps, Lm, us, by rw [HD.out]; rfl, HX.out⟩
end
set_option maxHeartbeats 400000 in
theorem eliminate_none (f v : Value) (w : World) :
  Calls Tryz.prog 58 #[f, v, .int .i64 0] w fun e w' => e = .returned (.int .i64 0) ∧ Gr w w' := by
 go_enter Tryz.func58, Tryz.ntmps58
 go_wp2
 go_loopw [7, 11] (fun dd cc W => dd = .int .i64 0 ∧ cc = .int .i64 0 ∧ W = w) (fun _ _ _ => 0)
 case atStart => exact ⟨rfl, rfl, rfl⟩
 case round =>
  obtain ⟨rfl, rfl, rfl⟩ := hrel
  go_wp2
  go_ret
  exact ⟨rfl, Gr.refl _⟩
end Go.Proofs.YtbbglejdfbkjlaaGreat
namespace Go.Proofs.YtbbglejdfbkjlaaGreat
open Go.RowKit
set_option maxRecDepth 100000 in
set_option maxHeartbeats 800000 in
theorem reduce_nil (f : Value) (oa : Option Addr) (c : Nat) (w : World) (hf : IsF w f) (h : Bss w (.slice oa 0 c) []) :
  Calls Tryz.prog 93 #[f, .slice oa 0 c] w fun e w' => ∃ v R, e = .returned v ∧ Bss w' v R ∧ Gr w w' ∧ IsRed (wd []) [] R := by
 have HS := Lib.hid h
 have HF := Lib.hid hf
 clear h hf
 go_enter Tryz.func93, Tryz.ntmps93
 go_wp2_with fail
 refine (may_any _ [] w HS.out (by simp)).mono ?_
 rintro e w1 ⟨rfl, hg1⟩
 rw [show mayL [] = true from rfl]
 have G1 := Lib.hid hg1
 clear hg1
 go_wp2_with (first
   | (at_builtin; refine wpList_append_rows rfl _ _ rfl rfl oa 0 c [] rfl rfl (Bss.grown HS.out G1.out) (by omega) ?_; intro v2 w2 us hown hg2 hrow; obtain ⟨o2, c2, rfl⟩ := ownsRow_form hown; have HO := Lib.hid hown; have G2 := Lib.hid hg2; clear hown hg2 hrow)
   | (go_at_call 59; refine (mtabled_any f _ (IsF.grown HF.out (Gr.trans G1.out G2.out))).mono ?_; rintro e w3 ⟨b, rfl, hfb, hg3⟩; clear hfb; have G3 := Lib.hid hg3; clear hg3)
   | (go_at_call 56; refine (columns_any _ [] _ (Bss.grown HS.out (Gr.trans G1.out (Gr.trans G2.out G3.out)))).mono ?_; rw [wd_nil]; rintro e w4 ⟨rfl, hg4⟩; have G4 := Lib.hid hg4; clear hg4))
 refine (eliminate_none _ _ _).mono ?_
 rintro e w5 ⟨rfl, hg5⟩
 have GG := Lib.hid (Gr.trans G1.out (Gr.trans G2.out (Gr.trans G3.out (Gr.trans G4.out hg5))))
 have H5 := Lib.hid (Bss.grown (owns_bss (L := []) HO.out rfl (fun i hi => by simp at hi)) (Gr.trans G3.out (Gr.trans G4.out hg5)))
 have hc2 : c2 ≤ maxLen := by
  obtain ⟨_, ⟨he, _⟩ | ⟨g, c', cur, he, _, _, _, h2, _⟩⟩ := HO.out
  ·cases he; omega
  ·cases he; exact h2
 unfold maxLen at hc2
 clear G1 G2 G3 G4 hg5 HO HS
 go_wp2_with (first
   | (at_builtin; refine wpList_append_rows rfl _ _ rfl rfl o2 0 c2 [] rfl rfl H5.out (by omega) ?_; intro v6 w6 us6 hown hg6 hrow; obtain ⟨o6, c6, rfl⟩ := ownsRow_form hown; have HO6 := Lib.hid hown; have G6 := Lib.hid hg6; clear hown hg6 hrow))
 go_ret
 exact ⟨_, [], rfl, owns_bss HO6.out rfl (fun i hi => by simp at hi), Gr.trans GG.out G6.out, (by intro r hr; cases hr), [], rfl, L.Rref.nil, L.Same.refl _⟩
theorem field_block {w w' : World} {b g base n c : Nat} {us : List Value} {l : List Int} (h : FieldAt w b) (ho : w.ownsRow base 25 1 (.slice (some ⟨g, 0, none⟩) n c) n us) (h0 : 0 < n) (hb : Bs w' (us.getD 0 undef) l) : b ≠ g := by
 intro e
 subst e
 obtain ⟨g', c', he, _, _, _, _, hc⟩ := ownsRow_cell ho h0
 cases he
 have h1 := hc 0 h0
 rw [FieldAt.ex h 0 (by omega)] at h1
 obtain ⟨o, c2, hf⟩ := hb.form
 rw [hf] at h1
 cases h1
set_option maxRecDepth 100000 in
set_option maxHeartbeats 1600000 in
theorem reduce_pos (f va : Value) (A : List (List Int)) (w : World) (hf : IsF w f) (h : Bss w va A) (hl : A.length ≤ 1000) (hmay : mayL A = true) (h0 : 0 < A.length) :
  Calls Tryz.prog 93 #[f, va] w fun e w' => ∃ v R, e = .returned v ∧ Bss w' v R ∧ Gr w w' ∧ IsRed (wd A) A R := by
 have HW := Lib.hid (Wide.of_may hmay h.byt)
 have hk64 : wd A ≤ 64 := (mayL_at hmay 0 h0).2
 have HS := Lib.hid h
 have HF := Lib.hid hf
 have HM := Lib.hid hmay
 obtain ⟨oa, c0, rfl, h1, h2, _, _⟩ := h
 obtain ⟨n, hn⟩ : ∃ n, A.length = n := ⟨_, rfl⟩
 rw [hn] at HS h1 hl h0 ⊢
 obtain ⟨k, hk⟩ : ∃ k, wd A = k := ⟨_, rfl⟩
 have HN := Lib.hid hn
 have HK := Lib.hid hk
 rw [show (A.getD 0 []).length = wd A from rfl] at HW
 rw [hk] at hk64 HW ⊢
 clear hf hmay hn hk
 go_enter Tryz.func93, Tryz.ntmps93
 go_wp2_with fail
 refine (may_any _ A w HS.out (by rw [HN.out]; omega)).mono ?_
 rintro e w1 ⟨rfl, hg1⟩
 rw [HM.out]
 have G1 := Lib.hid hg1
 clear hg1
 go_wp2_with (first
   | (at_builtin; refine wpList_append_rows rfl _ _ rfl rfl oa n c0 A rfl HN.out (Bss.grown HS.out G1.out) hl ?_; intro v2 w2 us hown hg2 hrow; have HO := Lib.hid hown; obtain ⟨g, c, rfl, hc1, hc2, _, _, _⟩ := ownsRow_cell hown h0; have G2 := Lib.hid hg2; have HR := Lib.hid hrow; clear hown hg2 hrow)
   | (go_at_call 59; refine (mtabled_any f _ (IsF.grown HF.out (Gr.trans G1.out G2.out))).mono ?_; rintro e w3 ⟨b, rfl, hfb, hg3⟩; have HFB := Lib.hid hfb; clear hfb; have G3 := Lib.hid hg3; clear hg3)
   | (go_at_call 56; refine (columns_any _ A _ (Bss.grown HS.out (Gr.trans G1.out (Gr.trans G2.out G3.out)))).mono ?_; rw [HK.out]; rintro e w4 ⟨rfl, hg4⟩; have G4 := Lib.hid hg4; clear hg4))
 unfold maxLen at hc2
 have hx : Mx w1 w2 g n c k A A [] 0 us := ⟨HO.out, HR.out, HN.out, HW.out, L.Ech.start _, G2.out⟩
 have hx4 := hx.grow (Gr.trans G3.out G4.out)
 have hfg : b ≠ g := field_block HFB.out (HO.out.of_gr G3.out) h0 (HR.out 0 h0).1
 refine (eliminate_any _ hx4 b (FieldAt.grown HFB.out G4.out) hfg k (Nat.le_refl _) hl (by omega) hc1 hc2).mono ?_
 rintro e w5 ⟨ps, Lm, us5, rfl, hx5⟩
 obtain ⟨hrw, hgr, hred⟩ := hx5.out
 have hdn : ps.length ≤ n := by have := hx5.ech.le; rw [List.length_map, hx5.len] at this; exact this
 have hlt : (Lm.take ps.length).length = ps.length := by rw [List.length_take, hx5.len]; omega
 have HB5 := Lib.hid hrw.bss
 have GG := Lib.hid (Gr.trans G1.out hgr)
 have HRED := Lib.hid hred
 have HLT := Lib.hid hlt
 clear hx hx4 hfg hx5 hrw hgr hred hlt G2 G3 G4 HO HR HFB
 generalize Lm.take ps.length = R at *
 generalize ps.length = d at *
 go_wp2_with (first
   | (at_builtin; refine wpList_append_rows rfl _ _ rfl rfl (some ⟨g, 0, none⟩) d c R rfl HLT.out HB5.out (by omega) ?_; intro v6 w6 us6 hown hg6 hrow; obtain ⟨o6, c6, rfl⟩ := ownsRow_form hown; have HO6 := Lib.hid hown; have G6 := Lib.hid hg6; have HR6 := Lib.hid hrow; clear hown hg6 hrow))
 go_ret
 exact ⟨_, R, rfl, owns_bss HO6.out HLT.out (fun i hi => (HR6.out i (by rw [HLT.out] at hi; exact hi)).1), Gr.trans GG.out G6.out, HRED.out⟩
theorem ok_reduce : ∀ (f va : Value) (A : List (List Int)) (w : World), IsF w f → Bss w va A → A.length ≤ 1000 → mayL A = true →
  Calls Tryz.prog 93 #[f, va] w fun e w' => ∃ v R, e = .returned v ∧ Bss w' v R ∧ Gr w w' ∧ IsRed (wd A) A R :=
 fun f va A w hf ha hl hm => by
  by_cases h0 : 0 < A.length
  ·exact reduce_pos f va A w hf ha hl hm h0
  ·obtain rfl : A = [] := List.eq_nil_of_length_eq_zero (by omega)
   have hs := ha
   obtain ⟨oa, c, rfl, _, _, _, _⟩ := ha
   exact reduce_nil f oa c w hf hs
set_option maxHeartbeats 400000 in
theorem ok_rank : ∀ (f va : Value) (A : List (List Int)) (w : World), IsF w f → Bss w va A → A.length ≤ 1000 → mayL A = true →
  Calls Tryz.prog 53 #[f, va] w fun e w' => e = .returned (.int .i64 (rkL A)) ∧ Gr w w' := by
 intro f va A w hf ha hl hm
 have HS := Lib.hid ha
 have HF := Lib.hid hf
 have HM := Lib.hid hm
 clear ha hf hm
 go_enter Tryz.func53, Tryz.ntmps53
 go_wp2_with fail
 refine (ok_reduce f va A w HF.out HS.out hl HM.out).mono ?_
 rintro e w1 ⟨v, R, rfl, hv, hg, hred⟩
 have hrk : rkL A = R.length := hred.rank
 obtain ⟨o, c, rfl, h1, h2, _, _⟩ := hv
 have HG := Lib.hid hg
 have HRK := Lib.hid hrk
 clear hred hrk hg
 generalize R.length = s at *
 go_wp2_with fail
 go_ret
 exact ⟨by rw [HRK.out]; rfl, HG.out⟩
end Go.Proofs.YtbbglejdfbkjlaaGreat
namespace Go.Proofs.YtbbglejdfbkjlaaGreat
open Go.RowKit
def nils (n : Nat) : Array Value := (List.replicate n (Value.slice none 0 0)).toArray
theorem nils_made (n : Nat) : madeCells #[.slice none 0 0] n = nils n := by
 apply Array.ext'
 rw [toList_madeCells_one]
 simp [nils]
theorem make24 (l c : Nat) (h : l ≤ c) (hc : c ≤ 1000000) (w : World) :
  (Instr.makeSlice 65 (.int .i64 (l : Int)) (.int .i64 (c : Int))).run Tryz.prog w = .ok (.slice (some ⟨w.heap.size, 0, none⟩) l c) (w.alloc (.cells (nils c) 25)) := by
 obtain ⟨i, hi, hzz⟩ := Option.map_eq_some_iff.1 info22
 simp only [Prod.mk.injEq] at hzz
 obtain ⟨hz, hs, hb⟩ := hzz
 have hr := run_make (P := Tryz.prog) w 65 25 i _ Tryz.underlying65 hi hz .i64 .i64 l c (by omega) (by omega) (by rw [hb]; omega) (by omega)
 rw [Int.toNat_natCast, Int.toNat_natCast, hs, Nat.mul_one] at hr
 rw [hr, ← nils_made]
 rfl
set_option maxHeartbeats 400000 in
theorem clone_any (v : Value) (l : List Int) (w : World) (h : Bs w v l) (hl : l.length ≤ 1000000) :
  Calls Tryz.prog 52 #[v] w fun e w' => ∃ v', e = .returned v' ∧ w'.ownsRow w.heap.size 5 1 v' l.length (l.map (Value.int .u8)) ∧ Gr w w' := by
 have HS := Lib.hid h
 obtain ⟨_, oa, c, rfl, h1, h2, h3, _⟩ := h
 obtain ⟨n, hn⟩ : ∃ n, l.length = n := ⟨_, rfl⟩
 rw [hn] at HS h1 hl ⊢
 have HN := Lib.hid hn
 clear hn
 have hnil : ∀ (W : World) (x : Option Addr) (p q : Nat), (binOp .eql 25 (.slice x p q) (.slice none 0 0)).run Tryz.prog W = .ok (.bool x.isNone) W := fun W x p q => Lib.run_eql_slice_nil W _ _ x p q 0 0 Tryz.underlying25
 cases oa with
 | none =>
  obtain rfl : c = 0 := h3 rfl
  obtain rfl : n = 0 := by omega
  obtain rfl : l = [] := List.eq_nil_of_length_eq_zero HN.out
  clear HS h3
  go_enter Tryz.func52, Tryz.ntmps52
  go_wp2
  go_ret
  exact ⟨_, rfl, World.ownsRow_nil _ _ _ _, Gr.refl _⟩
 | some a =>
  clear h3
  have hown : Hid ((w.alloc (.cells #[] 5)).ownsRow w.heap.size 5 1 (.slice (some ⟨w.heap.size, 0, none⟩) 0 0) 0 (([] : List Int).map (Value.int .u8))) := Lib.hid ⟨rfl, .inr ⟨w.heap.size, 0, #[], rfl, Nat.le_refl _, heap_alloc_new _ _, Nat.le_refl _, by unfold maxLen; omega, rfl, rfl⟩⟩
  have hg : Hid (Gr w (w.alloc (.cells #[] 5))) := Lib.hid (Gr.alloc (Gr.refl _) _ _)
  go_enter Tryz.func52, Tryz.ntmps52
  go_wp2_with (first
    | (at_builtin; refine wpList_append_bytes rfl _ _ rfl w.heap.size _ 0 [] rfl (by exact hown.out) (some a) n c l rfl (Bs.grown HS.out hg.out) (by omega) (by exact hg.out.size) ?_; intro v2 w2 hown2 hgrow2; rw [Nat.zero_add, List.nil_append] at hown2; obtain ⟨o2, c2, rfl⟩ := ownsRow_form hown2; have H2 := Lib.hid hown2; have G2 := Lib.hid (Gr.append hg.out hgrow2 (ownsRow_base hown.out)); clear hown2 hgrow2))
  go_ret
  exact ⟨_, rfl, H2.out, G2.out⟩
theorem clone_new (v : Value) (l : List Int) (w : World) (h : Bs w v l) (hl : l.length ≤ 1000000) :
  Calls Tryz.prog 52 #[v] w fun e w' => ∃ v', e = .returned v' ∧ New w w' v' l := by
 have hb := h.1
 refine (clone_any v l w h hl).mono ?_
 rintro e w' ⟨v', rfl, h1, h2⟩
 exact ⟨v', rfl, New.of_row h2 hb h1⟩
end Go.Proofs.YtbbglejdfbkjlaaGreat
