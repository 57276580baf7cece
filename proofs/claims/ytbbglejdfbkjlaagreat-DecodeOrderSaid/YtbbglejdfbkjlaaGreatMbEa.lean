/-
  Texts laid behind one another: Ea.
-/
import Derived.RangeFuncBox
import Derived.RangeFuncLeaves
import Derived.Shelf.Abstract
import Derived.WalkKit
import Derived.OwnWalkIn
import Derived.TacticsInMore
import Derived.LoopNIn
import Derived.LoopIn
import Derived.Maps.AppendAt
import Derived.Sort.QuietTacIn
import Derived.Test.YtbbglejdfbkjlaaGreatMbab
namespace Go.Proofs.YtbbglejdfbkjlaaGreat
open Go.RowKit Go.Shelf
attribute [local go_sem] Oper.semAt_some
def KpB (b g : Nat) (A B : World) : Prop := B.os = A.os ∧ B.tape = A.tape ∧ B.output = A.output ∧ A.heap.size ≤ B.heap.size ∧ ∀ k, k < b → k ≠ g → B.heap[k]? = A.heap[k]?
theorem KpB.refl (b g : Nat) (A : World) : KpB b g A A := ⟨rfl, rfl, rfl, Nat.le_refl _, fun _ _ _ => rfl⟩
theorem KpB.trans {b g : Nat} {A B C : World} (h : KpB b g A B) (k : KpB b g B C) : KpB b g A C :=
 ⟨k.1.trans h.1, k.2.1.trans h.2.1, k.2.2.1.trans h.2.2.1, Nat.le_trans h.2.2.2.1 k.2.2.2.1, fun i hi hn => (k.2.2.2.2 i hi hn).trans (h.2.2.2.2 i hi hn)⟩
theorem KpB.size {b g : Nat} {A B : World} (h : KpB b g A B) : A.heap.size ≤ B.heap.size := h.2.2.2.1
theorem KpB.step {b g : Nat} {A B : World} {row : Option Nat} (hg : A.grownBy B row) (hb : b ≤ A.heap.size) (hr : ∀ r, row = some r → r = g ∨ b ≤ r) : KpB b g A B :=
 ⟨hg.os, hg.tape, hg.output, hg.size, fun k hk hn => hg.block k (by omega) fun e => by
   rcases hr k e.symm with h | h
   · exact hn h
   · omega⟩
theorem KpB.alloc {b g : Nat} {A B : World} (h : KpB b g A B) (hb : b ≤ A.heap.size) (o : Obj) : KpB b g A (B.alloc o) :=
 h.trans (KpB.step (World.grownBy_alloc B o none) (Nat.le_trans hb h.size) (fun r e => by cases e))
theorem KpB.cell {b g : Nat} {A B : World} {p : Addr} {v : Value} (h : KpB b g A B) (hp : p.block < b) (hn : p.block ≠ g) (hc : A.cell? p = some v) : B.cell? p = some v :=
 (World.cell?_of_block (h.2.2.2.2 _ hp hn)).trans hc
theorem kpB_putObj {b g : Nat} {w : World} (hb : b ≤ w.heap.size) (W : World) (l : Nat) (o o' : Obj) (hl : w.heap.size ≤ l) (h : W.heap[l]? = some o) (_ : o.isCells = false) (_ : o.isWalk = false) : KpB b g W (W.putObj l o') :=
 KpB.step (grownBy_putObj' W l o') (by have := (Array.getElem?_eq_some_iff.1 h).1; omega) (fun r e => by cases e; omega)
def encC (ad : Addr) (S j : Nat) : Value := .slice (some (ad.add (j * S))) S S
set_option maxRecDepth 100000 in
set_option maxHeartbeats 2000000 in
theorem chunk1_in (F : Fence) (n : Nat) (hF : F.fn 97) (hro : F.round = none) (hn : 1 ≤ n) (l B1 B2 b g K S cap : Nat) (ad : Addr) (hS : 1 ≤ S) (hS2 : S ≤ 24) (hK : K ≤ 16) (hcap : K * S ≤ cap) (hcap2 : cap ≤ 9223372036854775807)
  (hb1 : B1 < b) (hb2 : B2 < b) (hg1 : B1 ≠ g) (hg2 : B2 ≠ g) (J Jx : List Nat → World → Prop)
  (hY : ∀ pre x W, J pre W → pre.length < K → YieldAt F (n - 1) Tryz.prog l #[encC ad S x] W fun e W' =>
    (e = .returned (.bool true) ∧ J (pre ++ [x]) W' ∧ KpB b g W W') ∨ (e = .returned (.bool false) ∧ Jx (pre ++ [x]) W'))
  (hJd : ∀ pre W m, J pre W → J pre (W.drewN m))
  (W : World) (hc1 : W.cell? ⟨B1, 0, none⟩ = some (.slice (some ad) (K * S) cap)) (hc2 : W.cell? ⟨B2, 0, none⟩ = some (.int .i64 (S : Int))) (h0 : J [] W) :
  CallsIn F n Tryz.prog 97 #[.func (.yield l) #[] #[], .pointer (some ⟨B1, 0, none⟩), .pointer (some ⟨B2, 0, none⟩)] W fun e W' => (∃ v, e = .returned v) ∧
   ((∃ ys, ys = List.range K ∧ J ys W') ∨ (∃ pre, (∃ k, k ≤ K ∧ pre = List.range k) ∧ Jx pre W')) := by
 obtain ⟨Q, hQ⟩ : ∃ Q, K * S = Q := ⟨_, rfl⟩
 have hQ2 : Q ≤ 384 := by rw [← hQ]; exact Nat.le_trans (Nat.mul_le_mul hK hS2) (by omega)
 have HQ := Lib.hid hQ
 rw [hQ] at hc1 hcap
 clear hQ
 refine callsIn_of_wp Tryz.func97 rfl hF ?_ hro
 simp only [Tryz.ntmps97, List.size_toArray, List.length_cons, List.length_nil, Nat.reduceAdd, Nat.reduceSub, Array.replicate_succ, Array.replicate_zero, List.push_toArray, List.append_toArray, List.nil_append, List.cons_append]
 gi_wp2
 gi_loopw [4] (fun i wr => ∃ (j p : Nat), j ≤ K ∧ p = j * S ∧ i = .int .i64 p ∧ J (List.range j) wr ∧ KpB b g W wr) (fun i _ => K * S - (intOf i).toNat)
 case atStart => exact ⟨0, 0, Nat.zero_le _, by simp, rfl, h0, KpB.refl _ _ _⟩
 case round =>
  obtain ⟨j, p, hj, hp, rfl, hJs, hk⟩ := hrel
  have HP := Lib.hid hp
  have q1 := hk.cell hb1 hg1 hc1
  have q2 := hk.cell hb2 hg2 hc2
  by_cases hlt : j < K
  ·have hpS : p + S = (j + 1) * S := by rw [hp]; exact (Nat.succ_mul j S).symm
   have hle : p + S ≤ Q := by rw [hpS, ← HQ.out]; exact Nat.mul_le_mul_right _ hlt
   have HPS := Lib.hid hpS
   have hpQ : (p : Int) ≤ (cap : Int) := by omega
   have hw : IntKind.i64.wrap (S : Int) = (S : Int) := by simp [IntKind.wrap, IntKind.bits, IntKind.signed]; omega
   have hpQ2 : (p : Int) ≤ (Q : Int) := by omega
   have hne : cap ≠ p := by omega
   obtain ⟨y, hqy⟩ : ∃ y, Q - p = y := ⟨_, rfl⟩
   have hSy : S ≤ y := by omega
   have hSy2 : (S : Int) ≤ (y : Int) := by omega
   have hmin : min (S : Int) (y : Int) = (S : Int) := by omega
   clear hp hpS
   gi_wp2
   refine wpIn_region_quiet_lit hro (by kernel_rfl) (by kernel_rfl) ?_
   repeat (quiet_step_in (fail))
   refine wpQuietIn_nil ?_
   intro _ hw'
   obtain ⟨nq, hw''⟩ := hw'
   subst hw''
   have hif : (if y < S then (y : Int) else (S : Int)) = (S : Int) := if_neg (by omega)
   rw [hif]
   have Q1 := Lib.hid q1
   have q1d : (wr.drewN nq).cell? ⟨B1, 0, none⟩ = some (.slice (some ad) Q cap) := q1
   have q2d : (wr.drewN nq).cell? ⟨B2, 0, none⟩ = some (.int .i64 (S : Int)) := q2
   have hkd : KpB b g W (wr.drewN nq) := hk
   have hpSc : (p : Int) + (S : Int) ≤ (cap : Int) := by omega
   obtain ⟨fn, tmps, assign, body, hy, hR⟩ := hY _ j (wr.drewN nq) (hJd _ _ _ hJs) (by simp; omega)
   generalize wr.drewN nq = wd at *
   unfold encC at hy
   rw [← HP.out] at hy
   clear q1 q2 hk hif hqy hSy hSy2 hmin
   gi_wp2
   refine hR.mono ?_
   rintro e W3 (⟨rfl, hJ3, hk3⟩ | ⟨rfl, hJx3⟩)
   ·have q23 := hk3.cell hb2 hg2 q2d
    have hk4 := hkd.trans hk3
    gi_wp2
    go_roundw
    case rel => exact ⟨j + 1, p + S, by omega, HPS.out, by simp, by rw [List.range_succ]; exact hJ3, hk4⟩
    case measure =>
     rw [HQ.out]
     simp [intOf]
     omega
   ·gi_wp2
    refine bodyPost_ret (results_none rfl _ _ _) rfl ?_
    exact ⟨⟨_, rfl⟩, .inr ⟨_, ⟨j + 1, by omega, List.range_succ.symm⟩, hJx3⟩⟩
  ·obtain rfl : j = K := by omega
   have : p = Q := by rw [HP.out, HQ.out]
   subst this
   gi_wp2
   go_end0
   exact ⟨⟨_, rfl⟩, .inl ⟨_, rfl, hJs⟩⟩
theorem chunk_stops (F : Fence) (n : Nat) (hF : F.fn 97) (hro : F.round = none) (hn : 1 ≤ n) (B1 B2 b g K S cap : Nat) (ad : Addr) (hS : 1 ≤ S) (hS2 : S ≤ 24) (hK : K ≤ 16) (hcap : K * S ≤ cap) (hcap2 : cap ≤ 9223372036854775807)
  (hb1 : B1 < b) (hb2 : B2 < b) (hg1 : B1 ≠ g) (hg2 : B2 ≠ g) (w : World) (hb : b ≤ w.heap.size) (hc1 : w.cell? ⟨B1, 0, none⟩ = some (.slice (some ad) (K * S) cap)) (hc2 : w.cell? ⟨B2, 0, none⟩ = some (.int .i64 (S : Int))) :
  SeqStopsK F n Tryz.prog 97 #[.pointer (some ⟨B1, 0, none⟩), .pointer (some ⟨B2, 0, none⟩)] (fun x : Nat => #[encC ad S x]) (KpB b g) (fun ys => ys = List.range K) (fun pre => ∃ k, k ≤ K ∧ pre = List.range k) K w := fun l J Jx W hW hJ _ hY h0 =>
 chunk1_in F n hF hro hn l B1 B2 b g K S cap ad hS hS2 hK hcap hcap2 hb1 hb2 hg1 hg2 J Jx hY
  (fun pre V m hp => hJ pre V (V.drewN m) none hp ⟨rfl, rfl, rfl, Nat.le_refl _, fun _ _ _ => rfl⟩ (fun r e => by cases e))
  W ((hW.cell (p := ⟨B1, 0, none⟩) (by show B1 < _; omega)).trans hc1) ((hW.cell (p := ⟨B2, 0, none⟩) (by show B2 < _; omega)).trans hc2) h0
theorem info_row : (Tryz.prog.info? 25).map (fun i => (i.zero, i.size, i.bytes)) = some (some (.slice none 0 0), 1, 24) := info22
theorem ownFrom_kpB {β : Type} {g : Nat} {w : World} {B : Nat} (hB : w.heap.size ≤ B) : OwnFrom B (fun (_ : β) W => KpB w.heap.size g w W) := fun _ _ _ _ h hg hr =>
 h.trans (KpB.step hg h.size (fun r e => .inr (Nat.le_trans hB (hr r e).1)))
set_option maxRecDepth 100000 in
set_option maxHeartbeats 2000000 in
theorem appendSeq_in (F : Fence) (n : Nat) (h46 : F.fn 63) (h61 : F.fn 97) (hro : F.round = none) (hn : 3 ≤ n) (base g k cap K S B1 B2 cd : Nat) (us : List Value) (ad : Addr) (w : World)
  (hown : w.ownsRow base 25 1 (.slice (some ⟨g, 0, none⟩) k cap) k us) (hroom : k + K ≤ cap) (hbase : base ≤ w.heap.size) (hS : 1 ≤ S) (hS2 : S ≤ 24) (hK : K ≤ 16) (hcd : K * S ≤ cd) (hcd2 : cd ≤ 9223372036854775807)
  (hb1 : B1 < w.heap.size) (hb2 : B2 < w.heap.size) (hg1 : B1 ≠ g) (hg2 : B2 ≠ g) (hc1 : w.cell? ⟨B1, 0, none⟩ = some (.slice (some ad) (K * S) cd)) (hc2 : w.cell? ⟨B2, 0, none⟩ = some (.int .i64 (S : Int))) :
  CallsIn F n Tryz.prog 63 #[.slice (some ⟨g, 0, none⟩) k cap, .func (.func 97) #[] #[.pointer (some ⟨B1, 0, none⟩), .pointer (some ⟨B2, 0, none⟩)]] w fun e W' =>
   e = .returned (.slice (some ⟨g, 0, none⟩) (k + K) cap) ∧ W'.ownsRow base 25 1 (.slice (some ⟨g, 0, none⟩) (k + K) cap) (k + K) (us ++ (List.range K).map (encC ad S)) ∧ KpB w.heap.size g w W' := by
 have h1 : 1 ≤ n := by omega
 obtain ⟨i0, hi, hz0, hz1, hz2⟩ := info_parts info_row
 refine callsIn_of_wp_marks Tryz.func63 rfl h46 ?_ hro
 simp only [Tryz.ntmps63, List.size_toArray, List.length_cons, List.length_nil, Nat.reduceAdd, Nat.reduceSub, Array.replicate_succ, Array.replicate_zero, List.push_toArray, List.append_toArray, List.nil_append, List.cons_append]
 gi_wp2
 have bO := Boxed.new w 65 (.slice (some ⟨g, 0, none⟩) k cap)
 refine wpIn_rangeFunc_ownG hro h1 (gf := 97) (lb := #[.pointer (some ⟨B1, 0, none⟩), .pointer (some ⟨B2, 0, none⟩)]) rfl h61 (enters_of Tryz.func97 (by kernel_rfl) rfl)
  (encs := fun x : Nat => #[.slice (some (ad.add (x * S))) S S])
  (chunk_stops F (n - 1) h61 hro (by omega) B1 B2 w.heap.size g K S cd ad hS hS2 hK hcd hcd2 hb1 hb2 hg1 hg2 _ (by simp) (cell_grown (Gr.alloc (Gr.refl _) _ _) hc1) (cell_grown (Gr.alloc (Gr.refl _) _ _) hc2)) (fun h k => h.trans k) (kpB_putObj (by simp)) (Below.refl _ _) (fun _ => rfl)
  (fun (pre : List Nat) W => (∃ v, Boxed W w.heap.size 65 v ∧ W.ownsRow base 25 1 v (k + pre.length) (us ++ pre.map (encC ad S)) ∧ v = .slice (some ⟨g, 0, none⟩) (k + pre.length) cap) ∧ KpB w.heap.size g w W)
  (fun _ _ _ => False)
  (OwnFrom.and (Own.from (holdsRow_own base w.heap.size 65 25 1 (fun pre : List Nat => k + pre.length) (fun pre : List Nat => us ++ pre.map (encC ad S)) (fun (pre : List Nat) v => v = .slice (some ⟨g, 0, none⟩) (k + pre.length) cap)) _) (ownFrom_kpB (by simp)))
  (fun _ _ _ _ _ hs _ _ => hs)
  ⟨⟨_, bO, by simpa using hown.alloc _, by simp⟩, (KpB.refl _ _ _).alloc (Nat.le_refl _) _⟩
  (fun x => { tmps := #[.slice (some ⟨g, 0, none⟩) k cap, .func (.func 97) #[] #[.pointer (some ⟨B1, 0, none⟩), .pointer (some ⟨B2, 0, none⟩)], .pointer (some ⟨w.heap.size, 0, none⟩), undef, .slice none 0 0, .slice (some (ad.add (x * S))) S S, .func (.func 97) #[] #[.pointer (some ⟨B1, 0, none⟩), .pointer (some ⟨B2, 0, none⟩)], .slice (some (ad.add (x * S))) S S, undef, undef, undef, undef, undef], defers := [] }) ?assign ?body ?done ?stop
 case assign =>
  intro l x W K hK
  gi_wp2
  exact hK
 case body =>
  rintro l pre x W ⟨⟨v, hv, hrow, rfl⟩, hB⟩ hlt
  have hc := hv.cell
  have hbW : base ≤ W.heap.size := Nat.le_trans hbase hB.size
  gi_wp2_with (gi_at_builtin; refine wpListIn_append_fits _ rfl _ _ 65 rfl base 25 i0 1 Tryz.underlying65 hi hz1 g (k + pre.length) cap _ rfl (hrow.alloc _) ⟨W.heap.size, 0, none⟩ 1 1 [.slice (some (ad.add (x * S))) S S] rfl rfl (cell_one_new _ _ _) (by simp [Value.oneCell']) (by omega) ?_; intro w1 hown' hgrow; obtain ⟨hv1, hv2, hr2, hk2, hb2⟩ := hv.appended (by decide) hrow hbW hbase hown' hgrow; have hc1 := hv1.cell; have hf1 := hv1.frozen)
  have s1 : w.heap.size ≤ (W.alloc (.cells #[.slice (some (ad.add (x * S))) S S] 25)).heap.size := by
   have := hB.size
   simp
   omega
  have s2 : w.heap.size ≤ w1.heap.size := Nat.le_trans s1 hgrow.size
  have hk3 := (((KpB.refl w.heap.size g W).alloc hB.size (.cells #[.slice (some (ad.add (x * S))) S S] 25)).trans (KpB.step hgrow s1 (fun r e => .inl (by cases e; rfl)))).trans (KpB.step (grownBy_setCell' w1 w.heap.size (.slice (some ⟨g, 0, none⟩) (k + pre.length + 1) cap)) s2 (fun r e => .inr (by cases e; exact Nat.le_refl _)))
  refine ⟨hk2.from _, hk3, ⟨_, hv2, ?_, ?_⟩, hB.trans hk3⟩
  ·rw [List.map_append, List.length_append, ← List.append_assoc, ← Nat.add_assoc]
   exact hr2
  ·rw [List.length_append, ← Nat.add_assoc]
   rfl
 case done =>
  rintro D ys W hD rfl ⟨⟨v, hv, hrow, rfl⟩, hB⟩ hK
  have hc := hv.cell
  gi_wp2
  refine ⟨by simp, .inl ⟨_, _, rfl, run_takeDeferred hK, ?_⟩⟩
  have hl : (List.range K).length = K := List.length_range
  refine ⟨_, results_tmp rfl _ _ _, rfl, ?_, ?_⟩
  ·rw [hl] at hrow
   exact ownsRow_putObj hrow _ hK rfl
  ·exact hB.trans (kpB_putObj (w := w) (Nat.le_refl _) W D _ _ (by simp at hD; omega) hK rfl rfl)
 case stop =>
  rintro D c pre W _ _ h _
  exact h.elim
theorem appendSeq_any (base g k cap K S B1 B2 cd : Nat) (us : List Value) (ad : Addr) (w : World)
  (hown : w.ownsRow base 25 1 (.slice (some ⟨g, 0, none⟩) k cap) k us) (hroom : k + K ≤ cap) (hbase : base ≤ w.heap.size) (hS : 1 ≤ S) (hS2 : S ≤ 24) (hK : K ≤ 16) (hcd : K * S ≤ cd) (hcd2 : cd ≤ 9223372036854775807)
  (hb1 : B1 < w.heap.size) (hb2 : B2 < w.heap.size) (hg1 : B1 ≠ g) (hg2 : B2 ≠ g) (hc1 : w.cell? ⟨B1, 0, none⟩ = some (.slice (some ad) (K * S) cd)) (hc2 : w.cell? ⟨B2, 0, none⟩ = some (.int .i64 (S : Int))) :
  Calls Tryz.prog 63 #[.slice (some ⟨g, 0, none⟩) k cap, .func (.func 97) #[] #[.pointer (some ⟨B1, 0, none⟩), .pointer (some ⟨B2, 0, none⟩)]] w fun e W' =>
   e = .returned (.slice (some ⟨g, 0, none⟩) (k + K) cap) ∧ W'.ownsRow base 25 1 (.slice (some ⟨g, 0, none⟩) (k + K) cap) (k + K) (us ++ (List.range K).map (encC ad S)) ∧ KpB w.heap.size g w W' :=
 callsIn_wide.1 (appendSeq_in Fence.wide 3 trivial trivial rfl (Nat.le_refl _) base g k cap K S B1 B2 cd us ad w hown hroom hbase hS hS2 hK hcd hcd2 hb1 hb2 hg1 hg2 hc1 hc2)
end Go.Proofs.YtbbglejdfbkjlaaGreat
