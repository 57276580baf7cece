/-
  Texts laid behind one another: Sb Sr St2 Su Sx Jt Jq Jy Dw.
-/
import Derived.Test.YtbbglejdfbkjlaaGreatMbah
import Derived.Test.YtbbglejdfbkjlaaGreatMbat
import Derived.Deep.DeepCutAuto
import Derived.Test.YtbbglejdfbkjlaaGreatMbaf
import Derived.Test.YtbbglejdfbkjlaaGreatMbad
import Derived.Test.YtbbglejdfbkjlaaGreatMbae
import Derived.Test.YtbbglejdfbkjlaaGreatMbag
import Derived.BigRegion
import Derived.Deep.RegionLaw
import Derived.Deep.RegionHeld3
import Derived.Test.YtbbglejdfbkjlaaGreatMbai
namespace Go.Proofs.YtbbglejdfbkjlaaGreat
open Go.RowKit
theorem run_neq_slice_nil {P : Program} (w : World) (t e : TypeId) (a : Option Addr) (n c n' c' : Nat) (h : P.underlying t = some (.slice e)) :
  (binOp .neq t (.slice a n c) (.slice none n' c')).run P w = .ok (.bool (!a.isNone)) w := by
 simp only [binOp]
 simp [Op.equal, Op.maxDepth, Lib.run_equalIn_slice_nil w 9999 t e a n c n' c' h]
def Plc (w : World) (n : Nat) (u : Value) (l : List Int) : Prop :=
 (u = .slice none 0 0 ∧ l = []) ∨ ∃ g c, u = .slice (some ⟨g, 0, none⟩) n c ∧ 0 < n ∧ l.length = n ∧ Bs w u l ∧ ∃ cur, w.heap[g]? = some (.cells cur 5 (0, 0))
theorem Plc.grown {w w' : World} {n : Nat} {u : Value} {l : List Int} (h : Plc w n u l) (hg : Gr w w') : Plc w' n u l := by
 rcases h with h | ⟨g, c, rfl, h0, hl, hb, cur, hc⟩
 ·exact .inl h
 ·exact .inr ⟨g, c, rfl, h0, hl, Bs.grown hb hg, cur, keptRow hg hc⟩
theorem Plc.of_new {w w' : World} {n : Nat} {u : Value} {l : List Int} (h : New w w' u l) (hl : l.length = n) (h0 : 0 < n) : Plc w' n u l := by
 have hb := New.bs h
 obtain ⟨_, _, ⟨rfl, _⟩ | ⟨g, c, cur, rfl, _, h2, _⟩⟩ := h
 ·simp at hl
  omega
 ·exact .inr ⟨g, c, by rw [hl], h0, hl, hb, cur, h2⟩
def spanCells (h n : Nat) : Array Value := (tab 255 M.exN ++ tab 256 M.lgN).push (.slice (some ⟨h, 0, none⟩) n n)
structure Sb (w : World) (b h n : Nat) (us : List Value) (Ls : List (List Int)) : Prop where
 blk : w.heap[b]? = some (.cells (spanCells h n) 133 (0, 0))
 row : ∃ cur, w.heap[h]? = some (.cells cur 25 (0, 0)) ∧ cur.toList = us
 len : us.length = n
 plc : ∀ i, i < n → Plc w n (us.getD i undef) (Ls.getD i [])
section
variable {w w' : World} {b h n : Nat} {us : List Value} {Ls : List (List Int)}
theorem Sb.field (H : Sb w b h n us Ls) : FieldAt w b := fun j v hv => by
 have hj := (List.getElem?_eq_some_iff.1 hv).1
 rw [Array.length_toList] at hj
 rw [Array.getElem?_toList] at hv
 rw [cell_of_row w b _ _ _ _ H.blk]
 unfold spanCells
 rw [Nat.zero_add, Array.getElem?_push, if_neg (by omega)]
 exact hv
theorem Sb.begun (H : Sb w b h n us Ls) : w.cell? ⟨b, 511, none⟩ = some (.slice (some ⟨h, 0, none⟩) n n) := by
 rw [cell_of_row w b _ _ _ _ H.blk]
 unfold spanCells
 rw [Array.getElem?_push, if_pos (by simp [tab_size])]
theorem Sb.cell (H : Sb w b h n us Ls) (i : Nat) (hi : i < n) : w.cell? ⟨h, i, none⟩ = some (us.getD i undef) := by
 obtain ⟨cur, h1, h2⟩ := H.row
 rw [cell_of_row w h _ _ _ _ h1, ← Array.getElem?_toList, h2, List.getD_eq_getElem?_getD, List.getElem?_eq_getElem (by rw [H.len]; exact hi)]
 rfl
theorem Sb.frozen (H : Sb w b h n us Ls) (i : Nat) : w.frozen? ⟨h, i, none⟩ = false := by
 obtain ⟨cur, h1, h2⟩ := H.row
 exact frozen_of_row w h i _ _ h1
theorem Sb.ne (H : Sb w b h n us Ls) : b ≠ h := by
 intro e
 obtain ⟨cur, h1, _⟩ := H.row
 have := H.blk
 rw [e, h1] at this
 simp at this
theorem Sb.grown (H : Sb w b h n us Ls) (hg : Gr w w') : Sb w' b h n us Ls := by
 obtain ⟨cur, h1, h2⟩ := H.row
 exact ⟨keptRow hg H.blk, ⟨cur, keptRow hg h1, h2⟩, H.len, fun i hi => (H.plc i hi).grown hg⟩
theorem Sb.plcPut (H : Sb w b h n us Ls) (j : Nat) (u : Value) {v : Value} {k : List Int} (hv : Plc w n v k) : Plc (w.setCell ⟨h, j, none⟩ u) n v k := by
 obtain ⟨cur, h1, h2⟩ := H.row
 have far : ∀ {g : Nat} {c : Array Value}, w.heap[g]? = some (.cells c 5 (0, 0)) → g ≠ h := fun hc e => by
  rw [e, h1] at hc
  simp at hc
 rcases hv with hv | ⟨g, c, rfl, q0, ql, qb, cc, qc⟩
 ·exact .inl hv
 ·refine .inr ⟨g, c, rfl, q0, ql, ?_, cc, by rw [heap_setCell_other _ _ _ _ (far qc)]; exact qc⟩
  exact Bs.kp qb (Kp.set w h j u) fun a m c' e _ e2 => by
   cases e
   exact far qc e2
theorem Sb.put (H : Sb w b h n us Ls) (hL : Ls.length = n) {j : Nat} (hj : j < n) {u : Value} {l : List Int} (hp : Plc w n u l) : Sb (w.setCell ⟨h, j, none⟩ u) b h n (us.set j u) (Ls.set j l) := by
 obtain ⟨cur, h1, h2⟩ := H.row
 refine ⟨?_, ⟨cur.setIfInBounds j u, ?_, ?_⟩, by rw [List.length_set]; exact H.len, fun i hi => ?_⟩
 ·rw [heap_setCell_other _ _ _ _ H.ne]
  exact H.blk
 ·exact heap_setCell_same _ _ _ _ _ _ h1
 ·rw [Array.toList_setIfInBounds, h2]
 ·by_cases e : i = j
  ·subst e
   have e1 : (us.set i u).getD i undef = u := by rw [List.getD_eq_getElem?_getD, List.getElem?_set_self (by rw [H.len]; exact hi)]; rfl
   rw [e1, getD_set_self _ _ _ (by rw [hL]; exact hi)]
   exact H.plcPut _ _ hp
  ·have e1 : (us.set j u).getD i undef = us.getD i undef := by rw [List.getD_eq_getElem?_getD, List.getElem?_set_ne (fun c => e c.symm), ← List.getD_eq_getElem?_getD]
   rw [e1, getD_set_ne _ _ _ _ (fun c => e c.symm)]
   exact H.plcPut _ _ (H.plc i hi)
end
def Fo (b h : Nat) (us : List Value) (k : Nat) : Prop := k = b ∨ k = h ∨ ∃ u ∈ us, blkOf u = some k
def SAt (w : World) (_ s : Value) (F : Nat → Prop) (n : Nat) (A : List (List Int)) : Prop :=
 ∃ b h us Ls, s = .pointer (some ⟨b, 0, none⟩) ∧ Sb w b h n us Ls ∧ Bg n Ls A ∧ n ≤ 64 ∧ F = Fo b h us
theorem SAt.lt {w : World} {f s : Value} {F : Nat → Prop} {n : Nat} {A : List (List Int)} (H : SAt w f s F n A) : ∀ k, F k → k < w.heap.size := by
 obtain ⟨b, h, us, Ls, _, hs, _, _, rfl⟩ := H
 obtain ⟨cur, h1, h2⟩ := hs.row
 rintro k (rfl | rfl | ⟨u, hu, hk⟩)
 ·exact (Array.getElem?_eq_some_iff.1 hs.blk).1
 ·exact (Array.getElem?_eq_some_iff.1 h1).1
 ·obtain ⟨i, hi, rfl⟩ := List.getElem_of_mem hu
  have hp := hs.plc i (by rw [← hs.len]; exact hi)
  have e : us.getD i undef = us[i] := by rw [List.getD_eq_getElem?_getD, List.getElem?_eq_getElem hi]; rfl
  rw [e] at hp
  rcases hp with ⟨hp, _⟩ | ⟨g, c, hp, _, _, _, cc, hc⟩
  ·rw [hp] at hk
   cases hk
  ·rw [hp] at hk
   cases hk
   exact (Array.getElem?_eq_some_iff.1 hc).1
theorem SAt.keep {w w' : World} {f s : Value} {F G : Nat → Prop} {n : Nat} {A : List (List Int)} (H : SAt w f s F n A) (hk : Kp G w w') (_ : IsF w' f) (hd : ∀ k, F k → ¬ G k) : SAt w' f s F n A := by
 obtain ⟨b, h, us, Ls, rfl, hs, hB, hn, rfl⟩ := H
 obtain ⟨cur, h1, h2⟩ := hs.row
 refine ⟨b, h, us, Ls, rfl, ⟨hk.block hs.blk (hd b (.inl rfl)), ⟨cur, hk.block h1 (hd h (.inr (.inl rfl))), h2⟩, hs.len, fun i hi => ?_⟩, hB, hn, rfl⟩
 have hm : us.getD i undef ∈ us := by
  rw [List.getD_eq_getElem?_getD, List.getElem?_eq_getElem (by rw [hs.len]; exact hi)]
  exact List.getElem_mem _
 rcases hs.plc i hi with hp | ⟨g, c, he, q0, ql, qb, cc, hc⟩
 ·exact .inl hp
 ·have hG : ¬ G g := hd g (.inr (.inr ⟨_, hm, by rw [he]; rfl⟩))
  refine .inr ⟨g, c, he, q0, ql, Bs.kp qb hk fun a m c' e _ e2 => ?_, cc, hk.block hc hG⟩
  rw [he] at e
  cases e
  exact hG e2
end Go.Proofs.YtbbglejdfbkjlaaGreat
namespace Go.Proofs.YtbbglejdfbkjlaaGreat
open Go.RowKit
set_option maxHeartbeats 400000 in
theorem fits_any (b h n : Nat) (us : List Value) (Ls : List (List Int)) (v : Value) (x : List Int) (w : World) (hs : Sb w b h n us Ls) (hv : Bs w v x) :
  Calls Tryz.prog 117 #[.pointer (some ⟨b, 0, none⟩), v] w fun e w' => e = .returned (.bool (decide (x.length = n))) ∧ Gr w w' := by
 have hc := hs.begun
 obtain ⟨o, c, rfl⟩ := hv.form
 clear hs hv
 generalize x.length = m at *
 have hmn : ((m : Int) == (n : Int)) = decide (m = n) := by rw [Bool.eq_iff_iff]; simp; omega
 go_enter Tryz.func117, Tryz.ntmps117
 go_wp2
 go_ret
 exact ⟨rfl, Gr.refl _⟩
set_option maxRecDepth 100000 in
set_option maxHeartbeats 800000 in
theorem restSp_any (b h n : Nat) (us : List Value) (Ls A : List (List Int)) (v : Value) (x : List Int) (w : World) (hs : Sb w b h n us Ls) (hB : Bg n Ls A) (hn : n ≤ 64) (hv : Bs w v x) (hx : x.length = n) :
  Calls Tryz.prog 88 #[.pointer (some ⟨b, 0, none⟩), v] w fun e w' => ∃ u y, e = .returned (.tuple #[u, .bool true]) ∧ New w w' u y ∧ Rs n Ls A x n y := by
 have HS := Lib.hid hs
 have HB := Lib.hid hB
 have HV := Lib.hid hv
 have HX := Lib.hid hx
 have hft : (decide (x.length = n)) = true := by simpa using hx
 clear hs hB hv hx
 have hnil : ∀ (W : World) (x : Option Addr) (p q : Nat), (binOp .neq 25 (.slice x p q) (.slice none 0 0)).run Tryz.prog W = .ok (.bool (!x.isNone)) W := fun W x p q => run_neq_slice_nil W _ _ x p q 0 0 Tryz.underlying25
 go_enter Tryz.func88, Tryz.ntmps88
 go_wp2_with (first
   | (go_at_call 117; refine (fits_any b h n us Ls v x _ HS.out HV.out).mono ?_; rw [hft]; rintro e w1 ⟨rfl, hg⟩; have G1 := Lib.hid hg; clear hg)
   | (go_at_call 52; refine (clone_new v x _ (Bs.grown HV.out G1.out) (by rw [HX.out]; omega)).mono ?_; rintro e w2 ⟨u2, rfl, hnw⟩; have N2 := Lib.hid hnw; clear hnw; have hc := (HS.out.grown (Gr.trans G1.out N2.out.1)).begun))
 have NW0 : Hid (New w w2 u2 x) := Lib.hid ⟨Gr.trans G1.out N2.out.1, N2.out.2.1, by
   obtain ⟨_, _, q | ⟨g, c, cur, q1, q2, q3⟩⟩ := N2.out
   · exact .inl q
   · exact .inr ⟨g, c, cur, q1, Nat.le_trans G1.out.size q2, q3⟩⟩
 clear hc N2
 go_loopw [6, 20] (fun r i W => ∃ (k : Nat) (y : List Int), k ≤ n ∧ i = .int .i64 k ∧ New w W r y ∧ Rs n Ls A x k y) (fun _ i _ => n - (intOf i).toNat)
 case atStart => exact ⟨0, x, by omega, rfl, NW0.out, Rs.start HX.out HV.out.1⟩
 case round =>
  clear NW0
  obtain ⟨k, y, hk, rfl, hnw, hrs⟩ := hrel
  obtain ⟨or', mr, cr, rfl⟩ := New.form3 hnw
  have HN := Lib.hid hnw
  have HR := Lib.hid hrs
  clear hnw hrs
  by_cases hlt : k < n
  ·have hs1 := HS.out.grown HN.out.1
   have hcc := hs1.cell k hlt
   rcases hs1.plc k hlt with ⟨he, he2⟩ | ⟨g, c, he, h0, hl, hbk, _⟩
   ·rw [he] at hcc
    have HR2 := Lib.hid (HR.out.skip fun e => absurd he2 e)
    clear he he2 hs1
    go_wp2
    exact ⟨⟨k + 1, y, by omega, by go_num, HN.out, HR2.out⟩, by simp [intOf]; omega⟩
   ·have hyl := HR.out.len
    obtain ⟨a, ca, q1, q2, q3, q4⟩ := Bs.at (New.bs HN.out) (by omega)
    rw [hyl] at q1 q4
    obtain rfl : or' = some a := by cases q1; rfl
    obtain rfl : n = mr := by cases q1; rfl
    clear q1
    have hq := q4 k (by omega)
    have hyb := getD_byt HR.out.byt k
    have hne : Ls.getD k [] ≠ [] := fun e => by rw [e] at hl; simp at hl; omega
    rw [he] at hcc hbk
    have HBK := Lib.hid hbk
    have HFD := Lib.hid hs1.field
    have HNE := Lib.hid hne
    have HYL := Lib.hid hyl
    have HLL := Lib.hid hl
    generalize hzz : y.getD k 0 = z at *
    have HZZ := Lib.hid hzz
    clear hs1 hbk hne hyl he q4 hzz hl
    by_cases hz0 : z = 0
    ·subst hz0
     go_wp2
     exact ⟨⟨k + 1, y, by omega, by go_num, HN.out, HR.out.skip fun _ => HZZ.out⟩, by simp [intOf]; omega⟩
    ·have hzb : (z != 0) = true := by simpa using hz0
     clear hz0
     go_wp2
     go_region_law (first
       | ((try go_simp); go_at_call 107; refine (ok_axpy _ _ _ z (Ls.getD k []) y _ (Or.inr ⟨b, rfl, by exact HFD.out⟩) hyb (by exact HBK.out) (by exact New.bs HN.out) (by rw [HLL.out]; omega) (by rw [HYL.out, HLL.out])).mono ?_; rintro e w3 ⟨v3, rfl, hnw⟩; obtain ⟨o3, m3, c3, rfl⟩ := New.form3 hnw; have N3 := Lib.hid hnw; clear hnw))
     all_goals
      go_wp2_with fail
      refine ⟨⟨k + 1, _, by omega, by go_num, ⟨Gr.trans HN.out.1 (by exact N3.out.1), N3.out.2.1, ?_⟩, ?_⟩, by simp [intOf]; omega⟩
      ·obtain ⟨_, _, q | ⟨g', c', cur, q1, q2, q3⟩⟩ := N3.out
       ·exact .inl q
       ·exact .inr ⟨g', c', cur, q1, Nat.le_trans HN.out.1.size q2, q3⟩
      ·have := HR.out.step HB.out hlt HNE.out
       rw [HZZ.out] at this
       exact this
  ·obtain rfl : k = n := by omega
   go_wp2
   go_ret2
   exact ⟨_, y, rfl, HN.out, HR.out⟩
end Go.Proofs.YtbbglejdfbkjlaaGreat
namespace Go.Proofs.YtbbglejdfbkjlaaGreat
open Go.RowKit
set_option maxHeartbeats 400000 in
theorem restNe_any (b h n : Nat) (us : List Value) (Ls : List (List Int)) (v : Value) (x : List Int) (w : World) (hs : Sb w b h n us Ls) (hv : Bs w v x) (hx : x.length ≠ n) :
  Calls Tryz.prog 88 #[.pointer (some ⟨b, 0, none⟩), v] w fun e w' => e = .returned (.tuple #[.slice none 0 0, .bool false]) ∧ Gr w w' := by
 have HS := Lib.hid hs
 have HV := Lib.hid hv
 have hft : (decide (x.length = n)) = false := by simpa using hx
 clear hs hv hx
 go_enter Tryz.func88, Tryz.ntmps88
 go_wp2_with (go_at_call 117; refine (fits_any b h n us Ls v x _ HS.out HV.out).mono ?_; rw [hft]; rintro e w1 ⟨rfl, hg⟩; have G1 := Lib.hid hg; clear hg)
 go_ret2
 exact ⟨rfl, G1.out⟩
structure Half (w W : World) (b h n p base : Nat) (us : List Value) (Ls : List (List Int)) (r : List Int) (rv : Value) (k : Nat) (us' : List Value) (Lk : List (List Int)) : Prop where
 sb : Sb W b h n us' Lk
 len : Lk.length = n
 get : ∀ c, Lk.getD c [] = if c < k then swept p r (Ls.getD c []) else Ls.getD c []
 kp : Kp (fun g => g = h) w W
 old : ∀ i, i < n → us'.getD i undef = us.getD i undef ∨ ∀ g, blkOf (us'.getD i undef) = some g → base ≤ g
 plc : Plc W n rv r
section
variable {w W W2 : World} {b h n p base : Nat} {us : List Value} {Ls : List (List Int)} {r : List Int} {rv : Value} {k : Nat} {us' : List Value} {Lk : List (List Int)}
theorem Half.same (H : Half w W b h n p base us Ls r rv k us' Lk) (hs : swept p r (Ls.getD k []) = Ls.getD k []) : Half w W b h n p base us Ls r rv (k + 1) us' Lk := by
 refine ⟨H.sb, H.len, fun c => ?_, H.kp, H.old, H.plc⟩
 rw [H.get c]
 by_cases e : c = k
 ·subst e
  rw [if_neg (by omega), if_pos (by omega), hs]
 ·by_cases e2 : c < k
  ·rw [if_pos e2, if_pos (by omega)]
  ·rw [if_neg e2, if_neg (by omega)]
theorem Half.step {u : Value} (H : Half w W b h n p base us Ls r rv k us' Lk) (hk : k < n) (hnw : New W W2 u (swept p r (Ls.getD k []))) (hl : (swept p r (Ls.getD k [])).length = n) (hb : base ≤ W.heap.size) :
  Half w (W2.setCell ⟨h, k, none⟩ u) b h n p base us Ls r rv (k + 1) (us'.set k u) (Lk.set k (swept p r (Ls.getD k []))) := by
 have S2 := H.sb.grown hnw.1
 refine ⟨S2.put H.len hk (Plc.of_new hnw hl (by omega)), by rw [List.length_set]; exact H.len, fun c => ?_, (H.kp.trans (hnw.1.kp fun g => g = h) fun g e => .inl e).trans (Kp.set W2 h k u) fun g e => .inl e, fun i hi => ?_, S2.plcPut _ _ (H.plc.grown hnw.1)⟩
 ·by_cases e : c = k
  ·subst e
   rw [getD_set_self _ _ _ (by rw [H.len]; exact hk), if_pos (by omega)]
  ·rw [getD_set_ne _ _ _ _ (fun c => e c.symm), H.get c]
   by_cases e2 : c < k
   ·rw [if_pos e2, if_pos (by omega)]
   ·rw [if_neg e2, if_neg (by omega)]
 ·by_cases e : i = k
  ·subst e
   have e1 : (us'.set i u).getD i undef = u := by rw [List.getD_eq_getElem?_getD, List.getElem?_set_self (by rw [H.sb.len]; exact hi)]; rfl
   rw [e1]
   refine .inr fun g hg => ?_
   obtain ⟨_, _, ⟨q, _⟩ | ⟨g', c, cur, rfl, q2, _⟩⟩ := hnw
   ·rw [q] at hl
    simp at hl
    omega
   ·cases hg
    exact Nat.le_trans hb q2
  ·have e1 : (us'.set k u).getD i undef = us'.getD i undef := by rw [List.getD_eq_getElem?_getD, List.getElem?_set_ne (fun c => e c.symm), ← List.getD_eq_getElem?_getD]
   rw [e1]
   exact H.old i hi
end
set_option maxRecDepth 100000 in
set_option maxHeartbeats 1600000 in
theorem begin_any (b h n p base : Nat) (us : List Value) (Ls : List (List Int)) (rv : Value) (r : List Int) (w : World) (hs : Sb w b h n us Ls) (hL : Ls.length = n) (hr : Plc w n rv r) (hr0 : r ≠ []) (hp : p < n) (hn : n ≤ 64)
  (hbase : base ≤ w.heap.size) (hrb : ∀ g, blkOf rv = some g → base ≤ g) :
  Calls Tryz.prog 89 #[.pointer (some ⟨b, 0, none⟩), .int .i64 p, rv] w fun e w' => e = .returned (.tuple #[]) ∧
   ∃ us', Sb w' b h n us' (putIn Ls p r) ∧ Kp (fun k => k = h) w w' ∧ ∀ i, i < n → us'.getD i undef = us.getD i undef ∨ ∀ g, blkOf (us'.getD i undef) = some g → base ≤ g := by
 obtain ⟨gr, cr, rfl, _, hrl, _, _⟩ : ∃ g c, rv = .slice (some ⟨g, 0, none⟩) n c ∧ 0 < n ∧ r.length = n ∧ Bs w rv r ∧ ∃ cur, w.heap[g]? = some (.cells cur 5 (0, 0)) := by
  rcases hr with ⟨_, hr⟩ | hr
  ·exact absurd hr hr0
  ·exact hr
 have hc := hs.begun
 have HS := Lib.hid hs
 have HL := Lib.hid hL
 have HR := Lib.hid hr
 have HR0 := Lib.hid hr0
 have HRB := Lib.hid hrb
 have HRL := Lib.hid hrl
 clear hs hL hr hr0 hrb hrl
 have hnil : ∀ (W : World) (x : Option Addr) (p q : Nat), (binOp .neq 25 (.slice x p q) (.slice none 0 0)).run Tryz.prog W = .ok (.bool (!x.isNone)) W := fun W x p q => run_neq_slice_nil W _ _ x p q 0 0 Tryz.underlying25
 go_enter Tryz.func89, Tryz.ntmps89
 go_wp2
 clear hc
 go_loopw [13] (fun i W => ∃ (k : Nat) (us' : List Value) (Lk : List (List Int)), k ≤ n ∧ i = .int .i64 k ∧ Half w W b h n p base us Ls r (.slice (some ⟨gr, 0, none⟩) n cr) k us' Lk) (fun i _ => n - (intOf i).toNat)
 case atStart => exact ⟨0, us, Ls, by omega, rfl, HS.out, HL.out, fun c => by rw [if_neg (by omega)], Kp.refl _ _, fun i _ => .inl rfl, HR.out⟩
 case round =>
  clear HS HR
  obtain ⟨k, us', Lk, hk, rfl, hh⟩ := hrel
  have HH := Lib.hid hh
  clear hh
  by_cases hlt : k < n
  ·have hcc := HH.out.sb.cell k hlt
   have hgk := HH.out.get k
   rw [if_neg (by omega)] at hgk
   have HR1 : Hid (Bs wr (.slice (some ⟨gr, 0, none⟩) n cr) r) := Lib.hid (by
     rcases HH.out.plc with ⟨q, _⟩ | ⟨_, _, _, _, _, q, _⟩
     · cases q
     · exact q)
   rcases HH.out.sb.plc k hlt with ⟨he, he2⟩ | ⟨g, c, he, h0, hl, hbk, _⟩
   ·rw [he] at hcc
    rw [hgk] at he2
    have HH2 := Lib.hid (HH.out.same (by rw [he2, swept_none]))
    clear he he2 hgk
    go_wp2
    exact ⟨⟨k + 1, us', Lk, by omega, by go_num, HH2.out⟩, by simp [intOf]; omega⟩
   ·rw [he] at hcc hbk
    rw [hgk] at hl hbk
    have hq : wr.cell? ((⟨g, 0, none⟩ : Addr).add p) = some (.int .u8 ((Ls.getD k []).getD p 0)) := by
     obtain ⟨a, ca, q1, q2, q3, q4⟩ := Bs.at hbk (by omega)
     cases q1
     exact q4 p (by omega)
    rw [Addr.add_mid, Nat.zero_add] at hq
    have hlb : ∀ z ∈ Ls.getD k [], Byt z := hbk.1
    have hzb := getD_byt hlb p
    have hcb := HH.out.sb.begun
    have hfz := HH.out.sb.frozen k
    have HFD := Lib.hid HH.out.sb.field
    have HBK := Lib.hid hbk
    have HLL := Lib.hid hl
    have HLB := Lib.hid hlb
    have HSW : Hid (swept p r (Ls.getD k []) = if (Ls.getD k []).getD p 0 = 0 then Ls.getD k [] else axL ((Ls.getD k []).getD p 0) r (Ls.getD k [])) := Lib.hid rfl
    generalize hzz : (Ls.getD k []).getD p 0 = z at *
    have HZZ := Lib.hid hzz
    clear hbk hl hlb he hgk hzz
    by_cases hz0 : z = 0
    ·subst hz0
     have HH2 := Lib.hid (HH.out.same (by rw [HSW.out, if_pos rfl]))
     go_wp2
     exact ⟨⟨k + 1, us', Lk, by omega, by go_num, HH2.out⟩, by simp [intOf]; omega⟩
    ·have hzn : (z != 0) = true := by simpa using hz0
     have HZ0 := Lib.hid hz0
     clear hz0
     go_wp2
     go_region_law (first
       | ((try go_simp); go_at_call 107; refine (ok_axpy _ _ _ z r (Ls.getD k []) _ (Or.inr ⟨b, rfl, by exact HFD.out⟩) hzb (by exact HR1.out) (by exact HBK.out) (by rw [HRL.out]; omega) (by rw [HLL.out, HRL.out])).mono ?_; rintro e w3 ⟨v3, rfl, hnw⟩; obtain ⟨o3, m3, c3, rfl⟩ := New.form3 hnw; have hc2 := cell_grown hnw.1 hcc; have hf2 := frozen_grown hnw.1 hcc hfz; have hcb3 := cell_grown hnw.1 hcb; have N3 := Lib.hid hnw; clear hnw))
     all_goals
      have hE : swept p r (Ls.getD k []) = axL z r (Ls.getD k []) := by rw [HSW.out, if_neg HZ0.out]
      have hE2 : (swept p r (Ls.getD k [])).length = n := by rw [hE, axL_length, HRL.out]
      go_wp2_with fail
      exact ⟨⟨k + 1, _, _, by omega, by go_num, HH.out.step hlt (by rw [hE]; exact N3.out) hE2 (Nat.le_trans hbase HH.out.kp.size)⟩, by simp [intOf]; omega⟩
  ·obtain rfl : k = n := by omega
   have hcb := HH.out.sb.begun
   have hcp := HH.out.sb.cell p hp
   have hfp := HH.out.sb.frozen p
   go_wp2
   go_end0
   have hL : Lk.set p r = putIn Ls p r := by
    apply List.ext_getElem?
    intro i
    have hlen : (Lk.set p r).length = k := by rw [List.length_set]; exact HH.out.len
    have hlen2 : (putIn Ls p r).length = k := by simp [putIn, HL.out]
    by_cases hi : i < k
    ·have h1 : (Lk.set p r).getD i [] = (putIn Ls p r).getD i [] := by
      rw [putIn_getD (by rw [HL.out]; exact hp)]
      by_cases e : i = p
      ·subst e
       rw [getD_set_self _ _ _ (by rw [HH.out.len]; exact hi), if_pos rfl]
      ·rw [getD_set_ne _ _ _ _ (fun c => e c.symm), HH.out.get i, if_pos hi, if_neg e]
     rw [List.getD_eq_getElem?_getD, List.getD_eq_getElem?_getD, List.getElem?_eq_getElem (by omega), List.getElem?_eq_getElem (by omega)] at h1
     rw [List.getElem?_eq_getElem (by omega), List.getElem?_eq_getElem (by omega)]
     simpa using h1
    ·rw [List.getElem?_eq_none (by omega), List.getElem?_eq_none (by omega)]
   refine ⟨rfl, us'.set p _, by rw [← hL]; exact HH.out.sb.put HH.out.len hp HH.out.plc, HH.out.kp.trans (Kp.set wr h p _) fun g e => .inl e, fun i hi => ?_⟩
   by_cases e : i = p
   ·subst e
    have e1 : (us'.set i (.slice (some ⟨gr, 0, none⟩) k cr)).getD i undef = .slice (some ⟨gr, 0, none⟩) k cr := by rw [List.getD_eq_getElem?_getD, List.getElem?_set_self (by rw [HH.out.sb.len]; exact hi)]; rfl
    rw [e1]
    exact .inr HRB.out
   ·have e1 : (us'.set p (.slice (some ⟨gr, 0, none⟩) k cr)).getD i undef = us'.getD i undef := by rw [List.getD_eq_getElem?_getD, List.getElem?_set_ne (fun c => e c.symm), ← List.getD_eq_getElem?_getD]
    rw [e1]
    exact HH.out.old i hi
theorem new_blk {w w' : World} {v : Value} {l : List Int} {base : Nat} (h : New w w' v l) (hl : l ≠ []) (hb : base ≤ w.heap.size) : ∀ g, blkOf v = some g → base ≤ g := by
 obtain ⟨_, _, ⟨q, _⟩ | ⟨g', c, cur, rfl, q2, _⟩⟩ := h
 ·exact absurd q hl
 ·intro g hg
  cases hg
  exact Nat.le_trans hb q2
theorem SAt.added {w w1 w2 w' : World} {f : Value} {b h n p : Nat} {us us' : List Value} {Ls A : List (List Int)} {x y : List Int} (hs : Sb w b h n us Ls) (hB : Bg n Ls A) (hn : n ≤ 64) (hx : Rs n Ls A x n y) (hp : leadL y = p)
  (hg : Gr w w1) (h12 : w1 = w2) (hs' : Sb w' b h n us' (putIn Ls p (scaleL (invZ (y.getD p 0)) y))) (hk : Kp (fun k => k = h) w2 w') (ho : ∀ i, i < n → us'.getD i undef = us.getD i undef ∨ ∀ g, blkOf (us'.getD i undef) = some g → w.heap.size ≤ g) :
  ∃ F', SAt w' f (.pointer (some ⟨b, 0, none⟩)) F' n (A ++ [x]) ∧ Kp (Fo b h us) w w' ∧ ∀ k, F' k → Fo b h us k ∨ w.heap.size ≤ k := by
 subst h12
 refine ⟨Fo b h us', ⟨b, h, us', _, rfl, hs', (hB.put hx hp).1, hn, rfl⟩, (hg.kp (Fo b h us)).trans hk (fun k e => .inl (.inr (.inl e))), fun k e => ?_⟩
 rcases e with e | e | ⟨u, hu, hk2⟩
 ·exact .inl (.inl e)
 ·exact .inl (.inr (.inl e))
 ·obtain ⟨i, hi, rfl⟩ := List.getElem_of_mem hu
  have hin : i < n := by rw [← hs'.len]; exact hi
  have e1 : us'.getD i undef = us'[i] := by rw [List.getD_eq_getElem?_getD, List.getElem?_eq_getElem hi]; rfl
  rcases ho i hin with q | q
  ·refine .inl (.inr (.inr ⟨us.getD i undef, ?_, by rw [← q, e1]; exact hk2⟩))
   rw [List.getD_eq_getElem?_getD, List.getElem?_eq_getElem (by rw [hs.len]; exact hin)]
   exact List.getElem_mem _
  ·exact .inr (q k (by rw [e1]; exact hk2))
set_option maxRecDepth 100000 in
set_option maxHeartbeats 1600000 in
theorem add_span (f v : Value) (b h n : Nat) (us : List Value) (Ls A : List (List Int)) (x : List Int) (w : World) (hs : Sb w b h n us Ls) (hB : Bg n Ls A) (hn : n ≤ 64) (hv : Bs w v x) (hx : x.length = n) :
  Calls Tryz.prog 50 #[.pointer (some ⟨b, 0, none⟩), v] w fun e w' => ∃ t F', e = .returned (.bool t) ∧ (t = true ↔ ¬ L.Sp (A.map vec) (vec x)) ∧ SAt w' f (.pointer (some ⟨b, 0, none⟩)) F' n (A ++ [x]) ∧ Kp (Fo b h us) w w' ∧ ∀ k, F' k → Fo b h us k ∨ w.heap.size ≤ k := by
 have HS := Lib.hid hs
 have HB := Lib.hid hB
 have HV := Lib.hid hv
 have HX := Lib.hid hx
 clear hs hB hv hx
 go_enter Tryz.func50, Tryz.ntmps50
 go_wp2_with (first
     | (go_at_call 88; refine (restSp_any b h n us Ls A v x _ HS.out HB.out hn HV.out HX.out).mono ?_; rintro e w1 ⟨u, y, rfl, hnw, hrs⟩; obtain ⟨ou, mu, cu, rfl⟩ := New.form3 hnw; have N1 := Lib.hid hnw; have R1 := Lib.hid hrs; clear hnw hrs))
 refine (ok_lead _ y _ (New.bs N1.out) (by rw [R1.out.len]; omega)).mono ?_
 rintro e w2 ⟨rfl, hg⟩
 have G2 := Lib.hid hg
 clear hg
 by_cases hneg : leadL y < 0
 ·have HP := Lib.hid hneg
  go_wp2
  go_ret
  obtain ⟨q1, q2⟩ := HB.out.none R1.out HP.out
  have hg := Gr.trans N1.out.1 G2.out
  exact ⟨false, Fo b h us, rfl, by simp [q2], ⟨b, h, us, Ls, rfl, HS.out.grown hg, q1, hn, rfl⟩, hg.kp _, fun k e => .inl e⟩
 ·obtain ⟨p, hp⟩ := Int.eq_ofNat_of_zero_le (Int.not_lt.1 hneg)
  have HP := Lib.hid hp
  obtain ⟨p1, p2, _⟩ := leadL_spec y p hp
  have hyl := R1.out.len
  have hpn : p < n := by omega
  obtain ⟨a, ca, q1, q2, q3, q4⟩ := Bs.at (New.bs N1.out) (by omega)
  rw [hyl] at q1 q4
  obtain rfl : ou = some a := by cases q1; rfl
  obtain rfl : n = mu := by cases q1; rfl
  have hq := cell_grown G2.out (q4 p hpn)
  have hyb := getD_byt R1.out.byt p
  have NY : Hid (Bs w2 (.slice (some a) n cu) y) := Lib.hid (Bs.grown (New.bs N1.out) G2.out)
  have HS2 := Lib.hid (HS.out.grown (Gr.trans N1.out.1 G2.out))
  have HYL := Lib.hid hyl
  have HP2 := Lib.hid p2
  have HSZ : Hid (w.heap.size ≤ w2.heap.size) := Lib.hid (Gr.trans N1.out.1 G2.out).size
  have HNE : Hid (scaleL (invZ (y.getD p 0)) y ≠ []) := Lib.hid fun e => by
   have := scaleL_length (invZ (y.getD p 0)) y
   rw [e, hyl] at this
   simp at this
   omega
  rw [hp] at hneg ⊢
  generalize hzz : y.getD p 0 = z at *
  have HZZ := Lib.hid hzz
  clear hp p1 p2 hyl q1 q2 q3 q4 hzz hneg
  go_wp2
  go_region_law (first
    | ((try go_simp); go_at_call 89; refine (begin_any b h n p w.heap.size us Ls _ (scaleL (invZ z) y) _ (HS2.out.grown (by exact G4.out)) HB.out.len (Plc.of_new NSC.out (by rw [scaleL_length, HYL.out]) (by omega)) HNE.out hpn hn (Nat.le_trans HSZ.out (by exact G4.out.size)) (new_blk NSC.out HNE.out (Nat.le_trans HSZ.out GIN.out.size))).mono ?_; rintro e w5 ⟨rfl, us', hs5, hk5, ho5⟩; have S5 := Lib.hid hs5; have K5 := Lib.hid hk5; have O5 := Lib.hid ho5; clear hs5 hk5 ho5)
    | ((try go_simp); go_at_call 90; refine (ok_scale _ _ (invZ z) y _ (Or.inr ⟨b, rfl, FieldAt.grown HS2.out.field (by exact GIN.out)⟩) (invZ_byt z) (Bs.grown NY.out (by exact GIN.out)) (by rw [HYL.out]; omega)).mono ?_; rintro e w4 ⟨v4, rfl, hnw⟩; have NSC := Lib.hid hnw; have G4 : Hid (Gr w2 w4) := Lib.hid (Gr.trans GIN.out hnw.1); clear hnw)
    | ((try go_simp); go_at_call 91; refine (inv_any _ z hyb _ (Or.inr ⟨b, rfl, by exact HS2.out.field⟩)).mono ?_; rintro e w3 ⟨rfl, hg⟩; have GIN : Hid (Gr w2 w3) := Lib.hid hg; clear hg))
  all_goals
   have hs5 := S5.out
   rw [← HZZ.out] at hs5
   have hns := (HB.out.put R1.out HP.out).2
   have hg4 : Gr w w4 := Gr.trans (Gr.trans N1.out.1 G2.out) G4.out
   obtain ⟨F', hF⟩ := SAt.added (f := f) HS.out HB.out hn R1.out HP.out hg4 rfl hs5 K5.out O5.out
   have HF := Lib.hid hF
   have HNS := Lib.hid hns
   clear hF hs5 hns hg4
   go_wp2_with fail
   go_ret
   exact ⟨true, F', rfl, by simp [HNS.out], HF.out⟩
end Go.Proofs.YtbbglejdfbkjlaaGreat
namespace Go.Proofs.YtbbglejdfbkjlaaGreat
open Go.RowKit
def fieldA : Array Value := tab 255 M.exN ++ tab 256 M.lgN
theorem fieldA_size : fieldA.size = 511 := by simp [fieldA, tab_size]
theorem info44 : (Tryz.prog.info? 130).map (·.size) = some 511 := by kernel_rfl
theorem zeroF (w : World) : Sem.run Tryz.prog (zeroValue 130) w = Result.ok (Value.agg (tab 511 fun _ => 0)) w := by
 have h := zero44
 cases hi : Tryz.prog.info? 130 with
 | none => simp [hi] at h
 | some i =>
  have hz : i.zero = some (.agg (tab 511 fun _ => 0)) := by simpa [hi] using h
  simp [zeroValue, typeInfo, hi, hz]
theorem fieldA_one : fieldA.all (·.oneCell') = true := by
 unfold fieldA
 rw [Array.all_append, tab_one, tab_one]
 rfl
set_option maxRecDepth 100000 in
set_option maxHeartbeats 400000 in
theorem own_any (f : Value) (w : World) (hf : IsF w f) :
  Calls Tryz.prog 87 #[f] w fun e w' => e = .returned (.agg fieldA) ∧ Gr w w' := by
 have z := zeroF
 obtain ⟨fs, hu, _⟩ := under44
 have hq : (tab 511 (fun _ => 0)).size = fieldA.size := by rw [tab_size, fieldA_size]
 have h1 := fieldA_one
 have hi : (Tryz.prog.info? 130).map (·.size) = some fieldA.size := by rw [fieldA_size]; exact info44
 have hi2 : (Tryz.prog.info? 130).map (·.size) = some fieldA.toList.length := by rw [Array.length_toList, fieldA_size]; exact info44
 have hld : ∀ {W : World} {t : Nat}, FieldAt W t → W.rangeAt t 0 fieldA.toList := fun h => h
 generalize tab 511 (fun _ => 0) = q at *
 generalize fieldA = fa at *
 have HU := Lib.hid hu
 have HQ := Lib.hid hq
 have H1 := Lib.hid h1
 have HI := Lib.hid hi
 have HI2 := Lib.hid hi2
 have HLD : Hid (∀ (W : World) (t : Nat), FieldAt W t → W.rangeAt t 0 fa.toList) := Lib.hid fun W t h => hld h
 clear hu hq h1 hi hi2 hld
 rcases hf with rfl | ⟨b, rfl, hb⟩
 ·have hw := heap_alloc_new w (.cells q 130)
  go_enter Tryz.func87, Tryz.ntmps87
  go_wp2_with (first
    | (go_at_call 65; refine (new_any _).mono ?_; rintro e w1 ⟨t, rfl, ht, hg1⟩; have HT := Lib.hid ht; have hw1 := keptRow hg1 hw; clear ht; have G1 := Lib.hid hg1; clear hg1)
    | (refine wpList_load_mid rfl 130 _ rfl t 0 rfl fa.toList _ (HLD.out _ _ HT.out) HU.out rfl HI2.out ?_; rw [Array.toArray_toList])
    | (refine wpList_store_row rfl 130 _ _ rfl w.heap.size 130 q fa rfl rfl hw1 HI.out HQ.out H1.out ?_))
  refine bodyPost_ret_by (results_cell_row rfl _ _ w.heap.size 130 fa (0, 0) _ rfl (setRow_heap _ _ q _ _ _ hw1) HU.out rfl HI.out) rfl ⟨rfl, ?_⟩
  exact Gr.setRow (Gr.trans ((Gr.refl _).alloc _ _) G1.out) (Nat.le_refl _) _
 ·have hw := heap_alloc_new w (.cells q 130)
  have HT : Hid (FieldAt (w.alloc (.cells q 130)) b) := Lib.hid (FieldAt.grown hb ((Gr.refl _).alloc _ _))
  clear hb
  go_enter Tryz.func87, Tryz.ntmps87
  go_wp2_with (first
    | (refine wpList_load_mid rfl 130 _ rfl b 0 rfl fa.toList _ (HLD.out _ _ HT.out) HU.out rfl HI2.out ?_; rw [Array.toArray_toList])
    | (refine wpList_store_row rfl 130 _ _ rfl w.heap.size 130 q fa rfl rfl hw HI.out HQ.out H1.out ?_))
  refine bodyPost_ret_by (results_cell_row rfl _ _ w.heap.size 130 fa (0, 0) _ rfl (setRow_heap _ _ q _ _ _ hw) HU.out rfl HI.out) rfl ⟨rfl, ?_⟩
  exact Gr.setRow ((Gr.refl _).alloc _ _) (Nat.le_refl _) _
theorem zeroS : (Tryz.prog.info? 133).map (·.zero) = some (some (.agg ((tab 511 fun _ => 0).push (.slice none 0 0)))) := by kernel_rfl
end Go.Proofs.YtbbglejdfbkjlaaGreat
namespace Go.Proofs.YtbbglejdfbkjlaaGreat
open Go.RowKit
theorem zeroS_run (w : World) : Sem.run Tryz.prog (zeroValue 133) w = Result.ok (Value.agg ((tab 511 fun _ => 0).push (.slice none 0 0))) w := by
 have h := zeroS
 cases hi : Tryz.prog.info? 133 with
 | none => simp [hi] at h
 | some i =>
  have hz : i.zero = some (.agg ((tab 511 fun _ => 0).push (.slice none 0 0))) := by simpa [hi] using h
  simp [zeroValue, typeInfo, hi, hz]
theorem laid_span (z fa : Array Value) (hp : fa.size = 511) (hz : z.size = 512) : ∃ q2 : Array Value, Array.foldl (fun (cs : Array Value) (x : Value × Nat) => cs.setIfInBounds x.snd x.fst) z fa.zipIdx 0 511 = q2 ∧ q2.size = 512 ∧ ∀ v, q2.setIfInBounds 511 v = fa.push v := by
 have f1 : Array.foldl (fun (cs : Array Value) (x : Value × Nat) => cs.setIfInBounds x.snd x.fst) z fa.zipIdx 0 511 = (fa.toList.zipIdx 0).foldl (fun cs x => cs.setIfInBounds (0 + x.2) x.1) z := by
  have : (511 : Nat) = fa.zipIdx.size := by simp [hp]
  rw [this, ← Array.foldl_toList, Array.toList_zipIdx]
  simp only [Nat.zero_add]
 have s1 : ∀ (off : Nat) (xs : List (Value × Nat)) (cells : Array Value), (xs.foldl (fun cs x => cs.setIfInBounds (off + x.2) x.1) cells).size = cells.size := by
  intro off xs
  induction xs with
  | nil => intro cells; rfl
  | cons x xs ih => intro cells; rw [List.foldl_cons, ih, Array.size_setIfInBounds]
 refine ⟨_, f1, by rw [s1, hz], fun v => ?_⟩
 apply Array.ext_getElem?
 intro i
 rw [Array.getElem?_setIfInBounds, s1, foldSet, Array.getElem?_push]
 by_cases h1 : i < 511
 ·rw [if_neg (by omega), if_pos (by simp [hp, hz]; omega), if_neg (by omega)]
  simp
 ·by_cases h2 : i = 511
  ·subst h2
   rw [if_pos rfl, if_pos (by omega), if_pos (by omega)]
  ·rw [if_neg (fun e => h2 e.symm), if_neg (by simp [hp]; omega), if_neg (by omega), Array.getElem?_eq_none (by omega), Array.getElem?_eq_none (by omega)]
theorem Sb.start {W : World} {b h n : Nat} (hb : W.heap[b]? = some (.cells (fieldA.push (.slice (some ⟨h, 0, none⟩) n n)) 133 (0, 0))) (hh : W.heap[h]? = some (.cells (nils n) 25 (0, 0))) :
  Sb W b h n (List.replicate n (.slice none 0 0)) (List.replicate n []) := by
 refine ⟨hb, ⟨_, hh, by simp [nils]⟩, by simp, fun i hi => .inl ⟨?_, nones_getD n i⟩⟩
 rw [List.getD_eq_getElem?_getD, List.getElem?_replicate, if_pos hi]
 rfl
theorem gr_back {w w1 : World} {c : Array Value} {t : TypeId} (h : Gr (w.alloc (.cells c t)).drew w1) : Gr w w1 ∧ w1.heap[w.heap.size]? = some (.cells c t (0, 0)) :=
 ⟨Gr.trans (Gr.alloc (Gr.refl w) c t) h, keptRow h (heap_alloc_new w (.cells c t))⟩
set_option maxRecDepth 100000 in
set_option maxHeartbeats 400000 in
theorem new_span (f : Value) (n : Nat) (w : World) (hf : IsF w f) (hn : n ≤ 64) :
  Calls Tryz.prog 47 #[f, .int .i64 n] w fun e w' => ∃ b h, e = .returned (.pointer (some ⟨b, 0, none⟩)) ∧ Sb w' b h n (List.replicate n (.slice none 0 0)) (List.replicate n []) ∧ Gr w w' ∧ w.heap.size ≤ b ∧ w.heap.size ≤ h := by
 have hmk := make24 n n (by omega) (by omega)
 have hzs := zeroS_run
 have hqs : ((tab 511 fun _ => 0).push (.slice none 0 0)).size = 512 := by simp [tab_size]
 have hfs := fieldA_size
 generalize (tab 511 fun _ => 0).push (.slice none 0 0) = q at *
 generalize hfa : fieldA = fa at *
 obtain ⟨q2, hq2, hs2, hp2⟩ := laid_span q fa hfs hqs
 have HF := Lib.hid hf
 have HFA := Lib.hid hfa
 clear hf hfa
 have h1 : decide ((n : Int) < 0) = false := by simp
 have h2 : decide (64 < (n : Int)) = false := by simp; omega
 go_enter Tryz.func47, Tryz.ntmps47
 go_wp2
 go_region_law ((try go_simp); go_at_call 87; refine (own_any f _ (IsF.grown HF.out (by first | exact Gr.refl _ | exact Gr.drew (Gr.refl _) | exact Gr.alloc (Gr.refl _) _ _ | exact Gr.drew (Gr.alloc (Gr.refl _) _ _) | exact Gr.alloc (Gr.drew (Gr.refl _)) _ _))).mono ?_; rw [HFA.out]; rintro e w1 ⟨rfl, hg⟩; have G1 := Lib.hid hg; clear hg)
 all_goals
  clear hzs hqs hmk hq2 hs2 hp2
  go_wp2_with fail
  go_ret
  first
   | (obtain ⟨q1, q2⟩ := gr_back G1.out
      exact ⟨_, _, rfl, Sb.start (by rw [HFA.out]; exact heap_alloc_new _ _) (by rw [heap_alloc_old _ _ (Array.getElem?_eq_some_iff.1 q2).1]; exact q2), Gr.alloc q1 _ _, q1.size, Nat.le_refl _⟩)
   | (have q1 : Gr w w1 := G1.out
      exact ⟨_, _, rfl, Sb.start (by rw [HFA.out]; exact heap_alloc2_new _ _ _) (heap_alloc2_old _ _ _), Gr.alloc (Gr.alloc q1 _ _) _ _, by have := q1.size; omega, q1.size⟩)
end Go.Proofs.YtbbglejdfbkjlaaGreat
namespace Go.Proofs.YtbbglejdfbkjlaaGreat
open Go.RowKit
def SmallY (Y : List Symb) : Prop := Y.length ≤ 100 ∧ ∀ q ∈ Y, q.d.length ≤ 100
theorem SmallY.set {Y : List Symb} (h : SmallY Y) (k : Nat) {d : List Int} (hd : d.length ≤ 100) : SmallY (Y.set k ⟨(Y.getD k noY).i, d⟩) := by
 refine ⟨by rw [List.length_set]; exact h.1, fun q hq => ?_⟩
 rcases List.mem_or_eq_of_mem_set hq with hq | rfl
 ·exact h.2 q hq
 ·exact hd
end Go.Proofs.YtbbglejdfbkjlaaGreat
namespace Go.Proofs.YtbbglejdfbkjlaaGreat
open Go.RowKit
theorem own_kpY {F : Nat → Prop} {w w' : World} {base : Nat} {e : TypeId} {size n : Nat} {v : Value} {us : List Value} (h : w.ownsRow base e size v n us) (hk : Kp F w w') (hn : ∀ g, v.ownBlock = some g → ¬ F g) : w'.ownsRow base e size v n us := by
 obtain ⟨h0, h1 | ⟨g, c, cur, rfl, hb, hg, h2⟩⟩ := h
 ·exact ⟨h0, .inl h1⟩
 ·exact ⟨h0, .inr ⟨g, c, cur, rfl, hb, hk.block hg (hn g rfl), h2⟩⟩
theorem SyVal.kp {P F : Nat → Prop} {base : Nat} {w w' : World} {uc ud : Value} {q : Symb} (h : SyVal P base w uc ud q) (hk : Kp F w w') (hd : ∀ b, P b → ¬ F b) : SyVal P base w' uc ud q := by
 obtain ⟨h1, h2, ⟨h30, oa, c, rfl, h31, h32, h33, h34⟩, h4, h5⟩ := h
 refine ⟨h1, h2, ⟨h30, oa, c, rfl, h31, h32, h33, fun a ha i hi => hk.cell (h34 a ha i hi) ?_⟩, fun a n c' e hn => ?_, h5⟩
 ·rw [add_blk]
  subst ha
  exact hd _ (h5 a _ _ rfl (by omega))
 ·rcases h4 a n c' e hn with h | ⟨cur, h⟩
  ·exact .inl h
  ·exact .inr ⟨cur, hk.block h (hd _ (h5 a n c' e hn))⟩
theorem SymsO.kp {P F : Nat → Prop} {base : Nat} {w w' : World} {v : Value} {Y : List Symb} (h : SymsO P base w v Y) (hk : Kp F w w') (hn : ∀ g, v.ownBlock = some g → ¬ F g) (hd : ∀ b, P b → ¬ F b) : SymsO P base w' v Y := by
 obtain ⟨us, ho, hr⟩ := h
 exact ⟨us, own_kpY ho hk hn, fun i hi => (hr i hi).kp hk hd⟩
theorem SymsO.at {P : Nat → Prop} {base g n c i : Nat} {w : World} {Y : List Symb} (h : SymsO P base w (.slice (some ⟨g, 0, none⟩) n c) Y) (hi : i < n) : ∃ ud, w.cell? ⟨g, i * 2, none⟩ = some (.int .i64 (Y.getD i noY).i) ∧ w.cell? ⟨g, i * 2 + 1, none⟩ = some ud ∧ SyVal P base w (.int .i64 (Y.getD i noY).i) ud (Y.getD i noY) := by
 obtain ⟨us, ⟨hlen, ⟨he, _⟩ | ⟨g', c', cur, he, h1, h2, h3, h4, h5, h6⟩⟩, hr⟩ := h
 ·cases he
 cases he
 have hcell : ∀ j, j < Y.length * 2 → w.cell? ⟨g, j, none⟩ = some (us.getD j undef) := fun j hj => by
  rw [cell_of_row _ _ _ _ _ _ h2]
  have e : (cur.toList.take (Y.length * 2))[j]? = us[j]? := by rw [h6]
  rw [List.getElem?_take_of_lt hj] at e
  have hus : j < us.length := by omega
  rw [List.getD_eq_getElem?_getD, List.getElem?_eq_getElem hus]
  rw [List.getElem?_eq_getElem hus] at e
  simpa using e
 have hq := hr i hi
 exact ⟨_, by rw [hcell _ (by omega), hq.1], hcell _ (by omega), by rw [← hq.1]; exact hq⟩
theorem SyVal.below {P P' : Nat → Prop} {base : Nat} {w : World} {uc ud : Value} {q : Symb} (h : SyVal P base w uc ud q) (hP : ∀ k, P k → k < w.heap.size → P' k) : SyVal P' base w uc ud q :=
 ⟨h.1, h.2.1, h.2.2.1, h.2.2.2.1, fun a n c e hn => hP _ (h.2.2.2.2 a n c e hn) (Bs.block_lt h.2.2.1 e hn)⟩
end Go.Proofs.YtbbglejdfbkjlaaGreat
namespace Go.Proofs.YtbbglejdfbkjlaaGreat
open Go.RowKit
theorem step_append_syL {P : Nat → Prop} {w : World} {ops : Array Oper} {o : Oper} {a : Act} {K : Act → World → Prop} {Q : Exit → Act → World → Prop} {E : Prop} (hgd : o.guard = none) (s x : Operand)
  (ho : o.op = .call { callee := .builtin .append, args := #[s, x], argTypes := #[27, 27] }) (base : Nat) (v : Value) (L : List Symb) (hs : a.eval s = v) (hR : SymsO P base w v L)
  (g : Nat) (uc ud : Value) (q : Symb) (hx : a.eval x = .slice (some ⟨g, 0, none⟩) 1 1) (hc : w.cell? ⟨g, 0, none⟩ = some uc) (hd : w.cell? ⟨g, 1, none⟩ = some ud) (hq : SyVal P base w uc ud q) (hm : L.length ≤ 100000) (hbase : base ≤ w.heap.size)
  (h : ∀ g' cap w', SymsO P base w' (.slice (some ⟨g', 0, none⟩) (L.length + 1) cap) (L ++ [q]) → w.grownBy w' v.ownBlock → (v.ownBlock = some g' ∨ g' = w.heap.size) → K (a.put o.dst (.slice (some ⟨g', 0, none⟩) (L.length + 1) cap)) w') :
  if Region.wanted o (yielded ops a.tmps) = true then Oper.wp Tryz.prog o a w K Q else E := by
 obtain ⟨i, hi, hzz⟩ := Option.map_eq_some_iff.1 infoY
 simp only [Prod.mk.injEq] at hzz
 obtain ⟨hz0, hz1, hz2⟩ := hzz
 obtain ⟨z, hz, hzs⟩ := Option.map_eq_some_iff.1 hz0
 obtain ⟨us, hown, hr⟩ := hR
 have e1 := hq.1
 obtain ⟨od, cd, e2⟩ := hq.2.2.1.form
 refine step_append_lies w hgd s x 27 ho base 30 i z 2 32 Tryz.underlying27 hi hz hz1 hz2 hzs (by omega) v L.length us hs hown ⟨g, 0, none⟩ 1 1 [uc, ud] hx rfl (fun j u hj => by
   match j, hj with
   | 0, hj =>
     obtain rfl : uc = u := by simpa using hj
     exact hc
   | 1, hj =>
     obtain rfl : ud = u := by simpa using hj
     exact hd
   | j + 2, hj => simp at hj) (fun u hu => by
     simp at hu
     rcases hu with rfl | rfl
     · rw [e1]; rfl
     · rw [e2]; rfl) (by omega) (by unfold maxLen; omega) (by omega) hbase _ rfl ?_
 intro gg cap w' h1 h2 h3 _
 have hlen : us.length = L.length * 2 := hown.1
 refine h gg cap w' ⟨us ++ [uc, ud], by rw [List.length_append]; exact h1, fun k hk => ?_⟩ h2 h3
 rw [List.length_append, List.length_singleton] at hk
 by_cases e : k < L.length
 ·rw [List.getD_eq_getElem?_getD, List.getD_eq_getElem?_getD, List.getD_eq_getElem?_getD, List.getElem?_append_left (by omega), List.getElem?_append_left (by omega), List.getElem?_append_left e, ← List.getD_eq_getElem?_getD, ← List.getD_eq_getElem?_getD, ← List.getD_eq_getElem?_getD]
  exact (hr k e).kept hown h2
 ·obtain rfl : k = L.length := by omega
  have d1 : (us ++ [uc, ud]).getD (L.length * 2) undef = uc := by rw [List.getD_eq_getElem?_getD, List.getElem?_append_right (by omega), hlen, Nat.sub_self]; rfl
  have d2 : (us ++ [uc, ud]).getD (L.length * 2 + 1) undef = ud := by rw [List.getD_eq_getElem?_getD, List.getElem?_append_right (by omega), hlen, Nat.add_sub_cancel_left]; rfl
  have d3 : (L ++ [q]).getD L.length noY = q := by rw [List.getD_eq_getElem?_getD, List.getElem?_append_right (by omega)]; simp
  rw [d1, d2, d3]
  exact hq.kept hown h2
end Go.Proofs.YtbbglejdfbkjlaaGreat
namespace Go.Proofs.YtbbglejdfbkjlaaGreat
open Go.RowKit
def rowY (K H S : Int) (seed : Nat) (q : Symb) : List Int := rowP K H S seed q.i ++ q.d
def rowsY (K H S : Int) (seed : Nat) (Y : List Symb) : List (List Int) := Y.map (rowY K H S seed)
def TellsY (K H S : Int) (seed : Nat) (Y' Y : List Symb) : Prop := (∀ q ∈ Y', q ∈ Y) ∧ ∀ q ∈ Y, L.Sp ((rowsY K H S seed Y').map vec) (vec (rowY K H S seed q))
section
variable {K H S seed : Nat} {Y Y' : List Symb}
theorem cut_rowY (hm : MayP K H S) {q : Symb} (hi : MayI q.i) : L.cutV (K + H) (vec (rowY K H S seed q)) = vec (rowP K H S seed q.i) := by
 rw [← DC.vec_takeL]
 unfold rowY
 rw [List.take_left' (by rw [rowP_in hm hi, onesL_length])]
theorem sh_rowY (hm : MayP K H S) {q : Symb} (hi : MayI q.i) : L.shV (K + H) (vec (rowY K H S seed q)) = vec q.d := by
 rw [← DC.vec_dropL]
 unfold rowY
 rw [List.drop_left' (by rw [rowP_in hm hi, onesL_length])]
theorem TellsY.all (h : TellsY K H S seed Y' Y) (hA : AllY K H S Y) : AllY K H S Y' := ⟨hA.1, fun q hq => hA.2 q (h.1 q hq)⟩
theorem TellsY.rk (h : TellsY K H S seed Y' Y) (hA : AllY K H S Y) : rkL (matP K H S seed (idsY Y')) = rkL (matP K H S seed (idsY Y)) := by
 have hm := hA.1
 unfold rkL
 refine L.rk_same (L.Same.of (fun x hx => ?_) fun x hx => ?_)
 ·obtain ⟨r, hr, rfl⟩ := List.mem_map.1 hx
  refine L.Sp.mem (List.mem_map.2 ⟨r, ?_, rfl⟩)
  rcases (matP_mem hm).1 hr with h1 | ⟨i, hi, hmi, rfl⟩
  ·exact (matP_mem hm).2 (.inl h1)
  ·obtain ⟨q, hq, rfl⟩ := List.mem_map.1 hi
   exact (matP_mem hm).2 (.inr ⟨q.i, List.mem_map.2 ⟨q, h.1 q hq, rfl⟩, hmi, rfl⟩)
 ·obtain ⟨r, hr, rfl⟩ := List.mem_map.1 hx
  rcases (matP_mem hm).1 hr with h1 | ⟨i, hi, hmi, rfl⟩
  ·exact L.Sp.mem (List.mem_map.2 ⟨r, (matP_mem hm).2 (.inl h1), rfl⟩)
  ·obtain ⟨q, hq, rfl⟩ := List.mem_map.1 hi
   have h2 := L.Sp.lin (L.cutV_lin (K + H)) (h.2 q hq)
   rw [cut_rowY hm hmi] at h2
   refine L.Sp.trans (fun y hy => ?_) h2
   obtain ⟨z, hz, rfl⟩ := List.mem_map.1 hy
   obtain ⟨z2, hz2, rfl⟩ := List.mem_map.1 hz
   obtain ⟨q2, hq2, rfl⟩ := List.mem_map.1 hz2
   have hi2 := (hA.2 q2 (h.1 q2 hq2)).1
   rw [cut_rowY hm hi2]
   exact L.Sp.mem (List.mem_map.2 ⟨_, (matP_mem hm).2 (.inr ⟨q2.i, List.mem_map.2 ⟨q2, hq2, rfl⟩, hi2, rfl⟩), rfl⟩)
theorem ans_rowY (hm : MayP K H S) {M : List (List Int)} (hl : M.length = K + H) {q : Symb} (hi : MayI q.i) : L.Ans (K + H) (M.map vec) (vec (rowY K H S seed q)) ↔ L.lc (vec (rowP K H S seed q.i)) (M.map vec) = vec q.d := by
 unfold L.Ans
 rw [sh_rowY hm hi]
 have e : L.lc (vec (rowY K H S seed q)) (M.map vec) = L.lc (vec (rowP K H S seed q.i)) (M.map vec) := by
  rw [← cut_rowY hm hi]
  exact L.lc_congr _ _ _ fun j hj => (L.cutV_lt _ (by rw [List.length_map, hl] at hj; exact hj)).symm
 rw [e]
theorem TellsY.mid (h : TellsY K H S seed Y' Y) (hA : AllY K H S Y) {M : List (List Int)} : IsMidY K H S seed Y' M ↔ IsMidY K H S seed Y M := by
 have hm := hA.1
 constructor
 ·intro hM
  refine ⟨hM.len, hM.wide, hM.ahead, fun q hq => ?_⟩
  rw [← ans_rowY hm hM.len (hA.2 q hq).1]
  refine L.Ans.span (fun a ha => ?_) (h.2 q hq)
  obtain ⟨z, hz, rfl⟩ := List.mem_map.1 ha
  obtain ⟨q2, hq2, rfl⟩ := List.mem_map.1 hz
  exact (ans_rowY hm hM.len (hA.2 q2 (h.1 q2 hq2)).1).2 (hM.rows q2 hq2)
 ·intro hM
  exact ⟨hM.len, hM.wide, hM.ahead, fun q hq => hM.rows q (h.1 q hq)⟩
theorem TellsY.says (h : TellsY K H S seed Y' Y) (hA : AllY K H S Y) {e : Int} {out : List Int} (hs : DecSays K H S seed Y' e out) : DecSays K H S seed Y e out := by
 have hF : FullP K H S seed (idsY Y') ↔ FullP K H S seed (idsY Y) := by
  constructor
  ·intro hf
   exact fullP_of_rk hA.1 (by rw [← h.rk hA]; exact fullP_rk hf)
  ·intro hf
   exact fullP_of_rk hA.1 (by rw [h.rk hA]; exact fullP_rk hf)
 rcases hs with ⟨a1, _⟩ | ⟨_, a2, a3, a4⟩ | ⟨_, a2, a3, M, a4, a5⟩ | ⟨_, a2, a3, a4, a5⟩
 ·exact absurd (h.all hA) a1
 ·exact .inr (.inl ⟨hA, fun c => a2 (hF.2 c), a3, a4⟩)
 ·refine .inr (.inr (.inl ⟨hA, hF.1 a2, a3, M, ?_, a5⟩))
  rw [Int.toNat_natCast, Int.toNat_natCast, Int.toNat_natCast] at a4 ⊢
  exact (h.mid hA).1 a4
 ·refine .inr (.inr (.inr ⟨hA, hF.1 a2, a3, a4, fun ⟨M, hM⟩ => a5 ⟨M, ?_⟩⟩))
  rw [Int.toNat_natCast, Int.toNat_natCast, Int.toNat_natCast] at hM ⊢
  exact (h.mid hA).2 hM
theorem TellsY.nil : TellsY K H S seed [] [] := ⟨fun q h => h, fun q h => by simp at h⟩
theorem TellsY.snoc (h : TellsY K H S seed Y' Y) (q : Symb) : TellsY K H S seed (Y' ++ [q]) (Y ++ [q]) := by
 refine ⟨fun x hx => ?_, fun x hx => ?_⟩
 ·rcases List.mem_append.1 hx with hx | hx
  ·exact List.mem_append.2 (.inl (h.1 x hx))
  ·exact List.mem_append.2 (.inr hx)
 ·unfold rowsY
  rw [List.map_append, List.map_append]
  rcases List.mem_append.1 hx with hx | hx
  ·exact L.Sp.mono (fun y hy => List.mem_append.2 (.inl hy)) (h.2 x hx)
  ·obtain rfl := List.mem_singleton.1 hx
   exact L.Sp.mem (List.mem_append.2 (.inr (by simp)))
theorem TellsY.skip (h : TellsY K H S seed Y' Y) {q : Symb} (hq : L.Sp ((rowsY K H S seed Y).map vec) (vec (rowY K H S seed q))) : TellsY K H S seed Y' (Y ++ [q]) := by
 refine ⟨fun x hx => List.mem_append.2 (.inl (h.1 x hx)), fun x hx => ?_⟩
 rcases List.mem_append.1 hx with hx | hx
 ·exact h.2 x hx
 ·obtain rfl := List.mem_singleton.1 hx
  refine L.Sp.trans (fun y hy => ?_) hq
  obtain ⟨z, hz, rfl⟩ := List.mem_map.1 hy
  obtain ⟨q2, hq2, rfl⟩ := List.mem_map.1 hz
  exact h.2 q2 hq2
end
structure DcAt (w : World) (g : Nat) (vt vl : Value) (F F1 : Nat → Prop) (K H S seed : Nat) (Y Y' : List Symb) : Prop where
 blk : w.heap[g]? = some (.cells #[.int .i64 (K : Int), .int .i64 (H : Int), .int .i64 (S : Int), .int .u32 (seed : Int), vt, vl] 87 (0, 0))
 told : SAt w (.pointer none) vt F1 (K + H + S) (rowsY K H S seed Y)
 list : SymsO (fun k => F k ∧ ¬ F1 k ∧ k ≠ g) 0 w vl Y'
 own : ∀ b, vl.ownBlock = some b → F b ∧ ¬ F1 b ∧ b ≠ g
 inF : F g ∧ ¬ F1 g
 sub : ∀ k, F1 k → F k
 low : ∀ k, F k → k < w.heap.size
 tells : TellsY K H S seed Y' Y
 le : Y'.length ≤ Y.length
def DecAt (w : World) (d : Value) (F : Nat → Prop) (K H S seed : Nat) (Y : List Symb) : Prop := ∃ g vt vl F1 Y', d = .pointer (some ⟨g, 0, none⟩) ∧ DcAt w g vt vl F F1 K H S seed Y Y'
section
variable {w w' : World} {g : Nat} {vt vl : Value} {F F1 G : Nat → Prop} {K H S seed : Nat} {Y Y' : List Symb}
theorem DcAt.keep (h : DcAt w g vt vl F F1 K H S seed Y Y') (hk : Kp G w w') (hd : ∀ k, F k → ¬ G k) : DcAt w' g vt vl F F1 K H S seed Y Y' :=
 ⟨hk.block h.blk (hd g h.inF.1), h.told.keep hk (.inl rfl) fun k hk1 => hd k (h.sub k hk1), h.list.kp hk (fun b hb => hd b (h.own b hb).1) fun b hb => hd b hb.1, h.own, h.inF, h.sub, fun k hk1 => Nat.lt_of_lt_of_le (h.low k hk1) hk.size, h.tells, h.le⟩
theorem DcAt.grown (h : DcAt w g vt vl F F1 K H S seed Y Y') (hg : Gr w w') : DcAt w' g vt vl F F1 K H S seed Y Y' := h.keep (hg.kp fun _ => False) fun _ _ e => e
theorem DcAt.cells (h : DcAt w g vt vl F F1 K H S seed Y Y') : w.cell? ⟨g, 0, none⟩ = some (.int .i64 (K : Int)) ∧ w.cell? ⟨g, 1, none⟩ = some (.int .i64 (H : Int)) ∧ w.cell? ⟨g, 2, none⟩ = some (.int .i64 (S : Int)) ∧ w.cell? ⟨g, 3, none⟩ = some (.int .u32 (seed : Int)) ∧ w.cell? ⟨g, 4, none⟩ = some vt ∧ w.cell? ⟨g, 5, none⟩ = some vl := by
 refine ⟨?_, ?_, ?_, ?_, ?_, ?_⟩ <;> (rw [cell_of_row _ _ _ _ _ _ h.blk]; rfl)
theorem DecAt.ptr {d : Value} (h : DecAt w d F K H S seed Y) : ∃ a, d = .pointer (some a) := by
 obtain ⟨g, _, _, _, _, rfl, _⟩ := h
 exact ⟨_, rfl⟩
theorem DecAt.lt {d : Value} (h : DecAt w d F K H S seed Y) : ∀ k, F k → k < w.heap.size := by
 obtain ⟨g, _, _, _, _, rfl, h⟩ := h
 exact h.low
theorem DecAt.keep {d : Value} (h : DecAt w d F K H S seed Y) (hk : Kp G w w') (hd : ∀ k, F k → ¬ G k) : DecAt w' d F K H S seed Y := by
 obtain ⟨g, vt, vl, F1, Y', rfl, h⟩ := h
 exact ⟨g, vt, vl, F1, Y', rfl, h.keep hk hd⟩
end
end Go.Proofs.YtbbglejdfbkjlaaGreat
