/-
  Texts laid behind one another: Do Ly Cj Sd Se Lt.
-/
import Derived.Test.YtbabecjphmmngaaGreatMga
import Derived.Shelf.Sort.Plain
import Derived.Shelf.Slices.In.SortNone
import Derived.Test.YtbabecjphmmngaaGreatMgc
import Derived.Lib.SortBridge
import Derived.Test.YtbabecjphmmngaaGreatMgb
import Derived.Deep.CutBlock
import Derived.Lib.BitFns
import Derived.Test.YtbabecjphmmngaaGreatMgg
import Derived.Test.YtbabecjphmmngaaGreatMgj
namespace Go.Proofs.YtbabecjphmmngaaGreat
open Go.RowKit

/-- A Draw lies in block g. -/
def DBlk (w : World) (g s : Nat) : Prop := w.heap[g]? = some (.cells #[.int .u64 (s : Int)] 130 (0, 0))
theorem DBlk.cell {w : World} {g s : Nat} (h : DBlk w g s) : w.cell? ⟨g, 0, none⟩ = some (.int .u64 (s : Int)) := by
  rw [cell_of_row w g 0 _ _ _ h]
  rfl
theorem DBlk.frozen {w : World} {g s : Nat} (h : DBlk w g s) : w.frozen? ⟨g, 0, none⟩ = false := frozen_of_row w g 0 _ _ h
theorem DBlk.set {w : World} {g s : Nat} (h : DBlk w g s) (t : Nat) : DBlk (w.setCell ⟨g, 0, none⟩ (.int .u64 (t : Int))) g t := by
  unfold DBlk at *
  rw [heap_setCell_same _ _ _ _ _ _ h]
  rfl
theorem DBlk.lt {w : World} {g s : Nat} (h : DBlk w g s) : g < w.heap.size := (Array.getElem?_eq_some_iff.1 h).1
/-- How a Draw lies in memory, and its state. -/
def DAt (w : World) (d : Value) (F : Nat → Prop) (s : Nat) : Prop := ∃ g, d = .pointer (some ⟨g, 0, none⟩) ∧ DBlk w g s ∧ F = fun k => k = g

set_option maxHeartbeats 400000 in
theorem next_dev (g s : Nat) (w : World) (h : DBlk w g s) :
    Calls Tryz.prog 94 #[.pointer (some ⟨g, 0, none⟩)] w fun e w' => e = .returned (.int .u32 (topS (nextS s) : Nat)) ∧ DBlk w' g (nextS s) ∧ Kp (fun k => k = g) w w' := by
  have q1 := h.cell
  have q2 := h.frozen
  have H := Lib.hid h
  clear h
  go_enter Tryz.func94, Tryz.ntmps94
  go_wp2
  go_ret
  rw [next_wrap]
  refine ⟨?_, H.out.set _, Kp.set _ _ _ _⟩
  rw [← top_wrap s]
  rfl
set_option maxHeartbeats 400000 in
theorem below_dev (g s : Nat) (n : Int) (w : World) (h : DBlk w g s) (hn : n < 9223372036854775808) :
    Calls Tryz.prog 96 #[.pointer (some ⟨g, 0, none⟩), .int .i64 n] w fun e w' => e = .returned (.int .i64 (belowV s n)) ∧ DBlk w' g (belowS s n) ∧ Kp (fun k => k = g) w w' := by
  have H := Lib.hid h
  clear h
  by_cases h0 : n ≤ 0
  · have e1 : belowV s n = 0 := if_pos h0
    have e2 : belowS s n = s := if_pos h0
    rw [e1, e2]
    clear e1 e2
    go_enter Tryz.func96, Tryz.ntmps96
    go_wp2
    go_ret
    exact ⟨rfl, H.out, Kp.refl _ _⟩
  · have e1 : belowV s n = ((topS (nextS s) : Nat) : Int) % n := if_neg h0
    have e2 : belowS s n = nextS s := if_neg h0
    have E1 := Lib.hid e1
    have E2 := Lib.hid e2
    have ht := topS_lt (nextS_lt s)
    have hp : 0 < n := by omega
    clear e1 e2 h0
    go_enter Tryz.func96, Tryz.ntmps96
    go_wp2_with fail
    refine (next_dev g s _ H.out).mono ?_
    rintro e w1 ⟨rfl, hr, hk⟩
    have HR := Lib.hid hr
    have HK := Lib.hid hk
    clear hr hk
    generalize topS (nextS s) = tt at *
    have hr1 := Int.emod_nonneg (tt : Int) (by omega : n ≠ 0)
    have hr2 := Int.emod_lt_of_pos (tt : Int) hp
    generalize hrr : (tt : Int) % n = rr at *
    have HRR := Lib.hid hrr
    clear hrr
    go_wp2_with fail
    go_ret
    have hw : wrap64 rr = rr := by unfold wrap64; omega
    refine ⟨by rw [E1.out, HRR.out, hw]; rfl, by rw [E2.out]; exact HR.out, HK.out⟩
set_option maxHeartbeats 400000 in
theorem new_dev (s : Nat) (w : World) (hs : s < 4294967296) :
    Calls Tryz.prog 93 #[.int .u32 s] w fun e w' => ∃ g, e = .returned (.pointer (some ⟨g, 0, none⟩)) ∧ DBlk w' g s ∧ Gr w w' ∧ w.heap.size ≤ g := by
  go_enter Tryz.func93, Tryz.ntmps93
  go_wp2
  go_ret
  exact ⟨_, rfl, heap_alloc_new _ _, Gr.alloc (Gr.refl _) _ _, Nat.le_refl _⟩
theorem nextNil_dev (w : World) : Calls Tryz.prog 94 #[.pointer none] w fun e w' => e = .returned (.int .u32 0) ∧ Gr w w' := by
  go_enter Tryz.func94, Tryz.ntmps94
  go_wp2
  go_ret
  exact ⟨rfl, Gr.refl _⟩
set_option maxHeartbeats 400000 in
theorem belowNil_dev (n : Int) (w : World) (hn : n < 9223372036854775808) (_ : -9223372036854775808 ≤ n) : Calls Tryz.prog 96 #[.pointer none, .int .i64 n] w fun e w' => e = .returned (.int .i64 0) ∧ Gr w w' := by
  by_cases h0 : n ≤ 0
  · go_enter Tryz.func96, Tryz.ntmps96
    go_wp2
    go_ret
    exact ⟨rfl, Gr.refl _⟩
  · have hp : 0 < n := by omega
    clear h0
    go_enter Tryz.func96, Tryz.ntmps96
    go_wp2_with fail
    refine (nextNil_dev _).mono ?_
    rintro e w1 ⟨rfl, hg⟩
    have HG := Lib.hid hg
    clear hg
    go_wp2_with fail
    go_ret
    exact ⟨rfl, HG.out⟩
/-- Package draw as it was written keeps its contracts. -/
theorem draw_ok : DrawOk DAt where
  ptr := fun ⟨_, h, _⟩ => ⟨_, h⟩
  lt := by
    rintro w d F s ⟨g, rfl, hb, rfl⟩ k rfl
    exact hb.lt
  keep := by
    rintro w w' d F G s ⟨g, rfl, hb, rfl⟩ hk hd
    exact ⟨g, rfl, hk.block hb (hd g rfl), rfl⟩
  new := fun s w hs => (new_dev s w hs).mono (by
    rintro e w' ⟨g, rfl, hb, hg, hl⟩
    exact ⟨_, _, rfl, ⟨g, rfl, hb, rfl⟩, hg, fun k hk => hk ▸ hl⟩)
  next := by
    rintro d F s w _ ⟨g, rfl, hb, rfl⟩
    refine (next_dev g s w hb).mono ?_
    rintro e w' ⟨rfl, hb', hk⟩
    exact ⟨rfl, ⟨g, rfl, hb', rfl⟩, hk⟩
  below := by
    rintro d F s n w _ hn _ ⟨g, rfl, hb, rfl⟩
    refine (below_dev g s n w hb hn).mono ?_
    rintro e w' ⟨rfl, hb', hk⟩
    exact ⟨rfl, ⟨g, rfl, hb', rfl⟩, hk⟩
  nextNil := nextNil_dev
  belowNil := belowNil_dev
end Go.Proofs.YtbabecjphmmngaaGreat
namespace Go.Proofs.YtbabecjphmmngaaGreat
open Go.Shelf
def lays189_ren : Go.Shelf.Ren := ⟨fun | 189 => 102 | 125 => 108 | 257 => 109 | 128 => 110 | 129 => 111 | 294 => 112 | 295 => 113 | 296 => 114 | 297 => 115 | 298 => 116 | 299 => 117 | 216 => 118 | 300 => 119 | 301 => 120 | 328 => 121 | 329 => 122 | 330 => 123 | 331 => 124 | 332 => 125 | 215 => 126 | 343 => 127 | n => n, fun | 28 => 26 | 3 => 3 | 46 => 24 | 0 => 0 | 51 => 30 | 53 => 92 | 4 => 4 | 183 => 138 | 182 => 137 | 131 => 142 | 5 => 5 | 9 => 9 | 218 => 144 | 222 => 148 | 228 => 150 | 229 => 151 | n => n, fun | n => n⟩
theorem lays189 : Go.Proofs.Lays.n189 Tryz.prog lays189_ren := {
  mixed := by kernel_rfl
  f125 := Tryz.func108.trans (congrArg some (by kernel_rfl))
  f128 := Tryz.func110.trans (congrArg some (by kernel_rfl))
  f129 := Tryz.func111.trans (congrArg some (by kernel_rfl))
  f189 := Tryz.func102.trans (congrArg some (by kernel_rfl))
  f215 := Tryz.func126.trans (congrArg some (by kernel_rfl))
  f216 := Tryz.func118.trans (congrArg some (by kernel_rfl))
  f257 := Tryz.func109.trans (congrArg some (by kernel_rfl))
  f294 := Tryz.func112.trans (congrArg some (by kernel_rfl))
  f295 := Tryz.func113.trans (congrArg some (by kernel_rfl))
  f296 := Tryz.func114.trans (congrArg some (by kernel_rfl))
  f297 := Tryz.func115.trans (congrArg some (by kernel_rfl))
  f298 := Tryz.func116.trans (congrArg some (by kernel_rfl))
  f299 := Tryz.func117.trans (congrArg some (by kernel_rfl))
  f300 := Tryz.func119.trans (congrArg some (by kernel_rfl))
  f301 := Tryz.func120.trans (congrArg some (by kernel_rfl))
  f328 := Tryz.func121.trans (congrArg some (by kernel_rfl))
  f329 := Tryz.func122.trans (congrArg some (by kernel_rfl))
  f330 := Tryz.func123.trans (congrArg some (by kernel_rfl))
  f331 := Tryz.func124.trans (congrArg some (by kernel_rfl))
  f332 := Tryz.func125.trans (congrArg some (by kernel_rfl))
  f343 := Tryz.func127.trans (congrArg some (by kernel_rfl))
  t0 := Tryz.underlying0
  a0 := Tryz.isAgg0
  z0 := Tryz.sizeOf0
  v0 := Tryz.zeroValue0
  t3 := Tryz.underlying3
  a3 := Tryz.isAgg3
  z3 := Tryz.sizeOf3
  v3 := Tryz.zeroValue3
  t4 := Tryz.underlying4
  a4 := Tryz.isAgg4
  z4 := Tryz.sizeOf4
  v4 := Tryz.zeroValue4
  t5 := Tryz.underlying5
  a5 := Tryz.isAgg5
  z5 := Tryz.sizeOf5
  v5 := Tryz.zeroValue5
  t9 := Tryz.underlying9
  a9 := Tryz.isAgg9
  z9 := Tryz.sizeOf9
  v9 := Tryz.zeroValue9
  t28 := Tryz.underlying26
  a28 := Tryz.isAgg26
  z28 := Tryz.sizeOf26
  v28 := Tryz.zeroValue26
  t46 := Tryz.underlying24
  a46 := Tryz.isAgg24
  z46 := Tryz.sizeOf24
  v46 := Tryz.zeroValue24
  t51 := Tryz.underlying30
  a51 := Tryz.isAgg30
  z51 := Tryz.sizeOf30
  v51 := Tryz.zeroValue30
  t53 := Tryz.underlying92
  a53 := Tryz.isAgg92
  z53 := Tryz.sizeOf92
  v53 := Tryz.zeroValue92
  t131 := Tryz.underlying142
  a131 := Tryz.isAgg142
  z131 := Tryz.sizeOf142
  v131 := Tryz.zeroValue142
  t182 := Tryz.underlying137
  a182 := Tryz.isAgg137
  z182 := Tryz.sizeOf137
  v182 := Tryz.zeroValue137
  t183 := Tryz.underlying138
  a183 := Tryz.isAgg138
  z183 := Tryz.sizeOf138
  v183 := Tryz.zeroValue138
  t218 := Tryz.underlying144
  a218 := Tryz.isAgg144
  z218 := Tryz.sizeOf144
  v218 := Tryz.zeroValue144
  t222 := Tryz.underlying148
  a222 := Tryz.isAgg148
  z222 := Tryz.sizeOf148
  v222 := Tryz.zeroValue148
  t228 := Tryz.underlying150
  a228 := Tryz.isAgg150
  z228 := Tryz.sizeOf150
  v228 := Tryz.zeroValue150
  t229 := Tryz.underlying151
  a229 := Tryz.isAgg151
  z229 := Tryz.sizeOf151
  v229 := Tryz.zeroValue151 }
open Go.Sort Go.RowKit in
theorem slices_Sort_int (blk off cap : Nat) (zs : List Int) (w : World) (hH : Holds (Value.int .i64) w blk off zs.toArray) (hblk : blk < w.heap.size) (hsz : zs.length < 4611686018427387904) :
    Calls Tryz.prog 102 #[.slice (some ⟨blk, off, none⟩) zs.length cap] w fun e w' =>
      e = .returned (.tuple #[]) ∧ ∃ n os, w' = grow (putRow (Value.int .i64) (Sort.ahead w n) blk off (zs.mergeSort fun x y => decide (x ≤ y)).toArray) os := Any.slices_Sort_int lays189 blk off cap zs w hH hblk hsz
open Go.RowKit Go.Sort in
/-- .. and plain. (LAID: no walk: one application.) -/
theorem slices_Sort_int_none (p : Option Addr) (cap : Nat) (w : World) :
    Calls Tryz.prog 102 #[.slice p 0 cap] w fun e w' => e = .returned (.tuple #[]) ∧ w' = w := Any.slices_Sort_int_none lays189 p cap w
end Go.Proofs.YtbabecjphmmngaaGreat
namespace Go.Proofs.YtbabecjphmmngaaGreat
open Go.RowKit

def partU (N i : Nat) : List Int := upTo i ++ List.replicate (N - i) 0
theorem upTo_length (n : Nat) : (upTo n).length = n := by simp [upTo]
theorem partU_zero (N : Nat) : partU N 0 = List.replicate N 0 := by simp [partU, upTo]
theorem partU_all (N : Nat) : partU N N = upTo N := by simp [partU]
theorem partU_set {N i : Nat} (h : i < N) : (partU N i).set i (i : Int) = partU N (i + 1) := by
  unfold partU
  rw [List.set_append, if_neg (by rw [upTo_length]; omega), upTo_length, Nat.sub_self]
  obtain ⟨m, hm⟩ : ∃ m, N - i = m + 1 := ⟨N - i - 1, by omega⟩
  rw [hm, List.replicate_succ, List.set_cons_zero, upTo_succ, show N - (i + 1) = m from by omega, List.append_assoc]
  rfl
theorem BlzC.set {w : World} {g : Nat} {L : List Int} (h : Blz w g L) (i : Nat) (x : Int) : Blz (w.setCell ⟨g, i, none⟩ (.int .i64 x)) g (L.set i x) := by
  unfold Blz at *
  rw [heap_setCell_same _ _ _ _ _ _ h, rowZ_set]
theorem BlzC.frozen {w : World} {g : Nat} {L : List Int} (h : Blz w g L) (i : Nat) : w.frozen? ⟨g, i, none⟩ = false := frozen_of_row w g i _ _ h
theorem BlzC.iz {w : World} {g n : Nat} {L : List Int} (h : Blz w g L) (hl : L.length = n) (hn : n ≤ 9223372036854775807) : Iz w g n n L :=
  ⟨hl, Nat.le_refl _, hn, rowZ L, h, by simp [rowZ, hl], fun i hi => by rw [rowZ_get L i (by omega)]⟩
set_option maxRecDepth 100000 in
set_option maxHeartbeats 800000 in
theorem upTo_dev (N : Nat) (w : World) (hN : N ≤ 64) :
    Calls Tryz.prog 101 #[.int .i64 (N : Int)] w fun e w' => e = .returned (.slice (some ⟨w.heap.size, 0, none⟩) N N) ∧ Iz w' w.heap.size N N (upTo N) ∧ Gr w w' := by
  have hmk := makeZ N N (by omega) (by omega)
  go_enter Tryz.func101, Tryz.ntmps101
  go_wp2_with fail
  obtain ⟨g, hg⟩ : ∃ g, w.heap.size = g := ⟨_, rfl⟩
  have B0 : Hid (Blz (w.alloc (.cells (rowZ (List.replicate N 0)) 3)) g (partU N 0)) := Lib.hid (by
    rw [partU_zero, ← hg]
    exact heap_alloc_new _ _)
  have G2 : Hid (Gr w (w.alloc (.cells (rowZ (List.replicate N 0)) 3))) := Lib.hid (Gr.alloc (Gr.refl _) _ _)
  have HGL : Hid (w.heap.size ≤ g) := Lib.hid (by omega)
  rw [hg]
  generalize w.alloc (.cells (rowZ (List.replicate N 0)) 3) = w2 at *
  have HE := Lib.hid hg
  clear hmk hg
  go_loopw [9] (fun iv W => ∃ i : Nat, i ≤ N ∧ iv = .int .i64 i ∧ Blz W g (partU N i) ∧ Gr w W) (fun iv _ => N - (intOf iv).toNat)
  case atStart => exact ⟨0, by omega, rfl, B0.out, G2.out⟩
  case round =>
    obtain ⟨i, hi, rfl, hb, hgr⟩ := hrel
    have HB := Lib.hid hb
    have HG := Lib.hid hgr
    clear hb hgr B0 G2
    by_cases hlt : i < N
    · have hl : i < (partU N i).length := by simp [partU, upTo_length]; omega
      have q1 := HB.out.cell i hl
      have q2 := BlzC.frozen HB.out i
      have HST := Lib.hid (partU_set hlt)
      clear hl
      go_wp2
      refine ⟨⟨i + 1, by omega, by go_num, ?_, Gr.setCell HG.out HGL.out _⟩, by simp [intOf]; omega⟩
      rw [← HST.out]
      exact BlzC.set HB.out i _
    · obtain rfl : i = N := by omega
      go_wp2
      go_ret
      rw [HE.out]
      exact ⟨rfl, BlzC.iz (by rw [← partU_all]; exact HB.out) (upTo_length i) (by omega), HG.out⟩
/-- The elements from o on, one after another. -/
def setsL : List Int → Nat → List Int → List Int
  | L, _, [] => L
  | L, o, v :: vs => setsL (L.set o v) (o + 1) vs
theorem setsL_get : ∀ (vs L : List Int) (o i : Nat), o + vs.length ≤ L.length → (setsL L o vs).getD i 0 = if o ≤ i ∧ i < o + vs.length then vs.getD (i - o) 0 else L.getD i 0
  | [], L, o, i, _ => by
    rw [if_neg (by rw [List.length_nil]; omega)]
    rfl
  | v :: vs, L, o, i, h => by
    rw [List.length_cons] at h
    show (setsL (L.set o v) (o + 1) vs).getD i 0 = _
    rw [setsL_get vs (L.set o v) (o + 1) i (by rw [List.length_set]; omega), List.length_cons]
    by_cases e : i = o
    · subst e
      rw [if_neg (by omega), if_pos (by omega), Nat.sub_self, List.getD_eq_getElem?_getD, List.getElem?_set_self (by omega)]
      rfl
    · by_cases e2 : o + 1 ≤ i ∧ i < o + 1 + vs.length
      · rw [if_pos e2, if_pos (by omega), show i - o = (i - (o + 1)) + 1 from by omega]
        rfl
      · rw [if_neg e2, if_neg (by omega), List.getD_eq_getElem?_getD, List.getElem?_set_ne (fun c => e c.symm), List.getD_eq_getElem?_getD]
theorem Iz.sets {g c n : Nat} : ∀ (vs : List Int) (W : World) (L : List Int) (o : Nat), Iz W g c n L → o + vs.length ≤ n → Iz (W.setCells g o (vs.map (Value.int .i64))) g c n (setsL L o vs)
  | [], _, _, _, h, _ => h
  | v :: vs, W, L, o, h, hl => by
    rw [List.length_cons] at hl
    exact Iz.sets vs _ _ (o + 1) (h.set o (by omega) v) (by omega)
theorem Kp.sets {g : Nat} : ∀ (vs : List Value) (o : Nat) (W : World), Kp (fun b => b = g) W (W.setCells g o vs)
  | [], _, _ => Kp.refl _ _
  | v :: vs, o, W => (Kp.set W g o v).trans (Kp.sets vs (o + 1) _) fun _ e => .inl e
theorem gr_grow (W : World) (os : Array Obj) : Gr W (Go.Sort.grow W os) :=
  ⟨rfl, rfl, rfl, by simp [Go.Sort.grow], fun _ hk => Go.Sort.heap_grow_old W os hk⟩
theorem isort_merge (l : List Int) (h : l.Nodup) : (l.mergeSort fun x y => decide (x ≤ y)) = C.isort l := by
  have hp := List.mergeSort_perm l (fun x y : Int => decide (x ≤ y))
  have hs : (l.mergeSort fun x y => decide (x ≤ y)).Pairwise (fun a b => decide (a ≤ b) = true) :=
    List.pairwise_mergeSort (fun a b c h1 h2 => by simp at *; omega) (fun a b => by simp; omega) l
  have hn : (l.mergeSort fun x y => decide (x ≤ y)).Nodup := hp.nodup_iff.2 h
  refine C.rise_ext _ _ ?_ (C.isort_sorted l h) fun x => by rw [C.mem_isort, hp.mem_iff]
  rw [List.nodup_iff_pairwise_ne] at hn
  exact (hs.and hn).imp fun {a b} ⟨h1, h2⟩ => by simp at h1; omega
/-- The first k of a row of one's own, sorted by the library. -/
theorem sort_dev (g c n k : Nat) (L : List Int) (W : World) (h : Iz W g c n L) (hk : k ≤ n) (hn : n ≤ 1000) (hd : (L.take k).Nodup) :
    Calls Tryz.prog 102 #[.slice (some ⟨g, 0, none⟩) k k] W fun e W' => e = .returned (.tuple #[]) ∧ Iz W' g c n (setsL L 0 (C.isort (L.take k))) ∧ Kp (fun b => b = g) W W' := by
  have hl : (L.take k).length = k := by rw [List.length_take, h.1]; omega
  have hH : Go.Sort.Holds (Value.int .i64) W g 0 (L.take k).toArray :=
    Go.Lib.holds_of_ints (by rw [h.1]; exact hk) (fun j hj => by rw [Nat.zero_add, h.cell j (by rw [← h.1]; exact hj)]) (fun j hj => by rw [Nat.zero_add]; exact h.frozen j)
  have hb : g < W.heap.size := by
    obtain ⟨_, _, _, cur, hg, _⟩ := h
    exact (Array.getElem?_eq_some_iff.1 hg).1
  have hc := slices_Sort_int g 0 k (L.take k) W hH hb (by omega)
  rw [hl, isort_merge _ hd] at hc
  refine hc.mono ?_
  rintro e W' ⟨rfl, m, os, rfl⟩
  have hil : (C.isort (L.take k)).length = k := by rw [C.isort_length, hl]
  have hw := Go.Lib.sorted_world (Value.int .i64) W g 0 m (L.take k).toArray (C.isort (L.take k)) os hH (by simp [hil]; rw [h.1]; omega)
  rw [hw]
  have hi : Iz (W.drewN m) g c n L := h.kp (F := fun _ => False) (Kp.refl _ W) (fun e => e)
  have hs := Iz.sets (C.isort (L.take k)) _ _ 0 hi (by omega)
  have hk2 : Kp (fun b => b = g) W ((W.drewN m).setCells g 0 ((C.isort (L.take k)).map (Value.int .i64))) := Kp.sets _ 0 (W.drewN m)
  exact ⟨rfl, hs.kp ((gr_grow _ _).kp fun _ => False) (fun e => e), hk2.trans ((gr_grow _ _).kp fun _ => False) (fun _ e => e.elim)⟩
theorem take_sets (L s : List Int) (h : s.length ≤ L.length) : (setsL L 0 s).length = L.length → (setsL L 0 s).take s.length = s := fun hl => by
  apply List.ext_getElem?
  intro i
  by_cases hi : i < s.length
  · rw [List.getElem?_take_of_lt hi]
    have hg := setsL_get s L 0 i (by omega)
    rw [if_pos (by omega), Nat.sub_zero, List.getD_eq_getElem?_getD, List.getD_eq_getElem?_getD] at hg
    rw [List.getElem?_eq_getElem (by omega), List.getElem?_eq_getElem hi] at hg ⊢
    simpa using hg
  · rw [List.getElem?_eq_none (by rw [List.length_take]; omega), List.getElem?_eq_none (by omega)]
theorem Iz.own {W : World} {g c n base : Nat} {L l : List Int} (h : Iz W g c n L) (k : Nat) (hk : k ≤ n) (hb : ∀ x ∈ l, I64 x) (hl : L.take k = l) (hg : base ≤ g) : OwnZ base W (.slice (some ⟨g, 0, none⟩) k k) l := by
  have hn : n ≤ 9223372036854775807 := by have := h.2.1; have := h.2.2.1; omega
  have hlk : l.length = k := by rw [← hl, List.length_take, h.1]; omega
  obtain ⟨h1, h2, h3, cur, h4, h5, h6⟩ := h
  refine ⟨hb, .inr ⟨g, k, c, by rw [hlk], hg, by omega, by omega, rfl, by omega, h3, cur, h4, h5, fun i hi => ?_⟩⟩
  rw [h6 i (by omega), ← hl, List.getD_eq_getElem?_getD, List.getD_eq_getElem?_getD, List.getElem?_take_of_lt (by omega)]
/-- What one drawing below a bound does to what is kept of a Draw: j numbers are drawn by then. -/
structure Bw (S : World → Nat → Prop) (d : Value) (F : Nat → Prop) (bv : Nat → Int) (N K : Nat) : Prop where
  keep : ∀ W W' j (G : Nat → Prop), S W j → Kp G W W' → (∀ k, F k → ¬ G k) → S W' j
  below : ∀ W j, j < K → S W j → Calls Tryz.prog 96 #[d, .int .i64 ((N : Int) - j)] W fun e W' => e = .returned (.int .i64 (bv j)) ∧ S W' (j + 1) ∧ Kp F W W'
set_option maxRecDepth 100000 in
set_option maxHeartbeats 1600000 in
theorem some_core (S : World → Nat → Prop) (d : Value) (F : Nat → Prop) (bv : Nat → Int) (q : Nat → Nat) (M : Nat → List Int) (N K : Nat) (w : World) (hN : N ≤ 64) (hK : K ≤ N)
    (B : Bw S d F bv N K) (hq : ∀ j, j < K → (j : Int) + bv j = q j ∧ q j < N ∧ -9223372036854775808 ≤ bv j ∧ bv j < 9223372036854775808) (hM0 : M 0 = upTo N) (hM : ∀ j, j < K → M (j + 1) = C.swap (M j) j (q j)) (hS : S w 0) (hF : ∀ k, F k → k < w.heap.size) (hi : C.Inj N (M K)) :
    Calls Tryz.prog 80 #[d, .int .i64 (N : Int), .int .i64 (K : Int)] w fun e w' => ∃ v, e = .returned v ∧ OwnZ w.heap.size w' v (C.isort ((M K).take K)) ∧ S w' K ∧ Kp F w w' := by
  have d1 : decide ((N : Int) < 0) = false := decide_eq_false (by omega)
  have d2 : decide ((64 : Int) < N) = false := decide_eq_false (by omega)
  have d3 : decide ((K : Int) < 0) = false := decide_eq_false (by omega)
  have d4 : decide (N < K) = false := decide_eq_false (by omega)
  have d5 : decide ((N : Int) < K) = false := decide_eq_false (by omega)
  have BB := Lib.hid B
  have HQ := Lib.hid hq
  have HM := Lib.hid hM
  have HS := Lib.hid hS
  have HF := Lib.hid hF
  have HI := Lib.hid hi
  clear B hq hM hS hF hi
  go_enter Tryz.func80, Tryz.ntmps80
  go_wp2_with fail
  refine (upTo_dev N _ hN).mono ?_
  rintro e w1 ⟨rfl, hz, hg⟩
  obtain ⟨g, hgg⟩ : ∃ g, w.heap.size = g := ⟨_, rfl⟩
  rw [hgg] at hz ⊢
  have HB : Hid (w.heap.size ≤ g) := Lib.hid (by omega)
  have HE := Lib.hid hgg
  have Z0 : Hid (Iz w1 g N N (M 0)) := Lib.hid (by rw [hM0]; exact hz)
  have K0 : Hid (Kp F w w1) := Lib.hid (hg.kp F)
  have S0 : Hid (S w1 0) := Lib.hid (BB.out.keep _ _ _ (fun _ => False) HS.out (hg.kp _) (fun _ _ e => e))
  clear hz hg hgg hM0 HS d1 d2 d3 d4 d5
  go_wp2_with fail
  go_loopw [29] (fun iv W => ∃ j : Nat, j ≤ K ∧ iv = .int .i64 j ∧ Iz W g N N (M j) ∧ S W j ∧ Kp F w W) (fun iv _ => K - (intOf iv).toNat)
  case atStart => exact ⟨0, by omega, rfl, Z0.out, S0.out, K0.out⟩
  case round =>
    clear Z0 S0 K0
    obtain ⟨wi, hwi⟩ : ∃ x, x = wr := ⟨_, rfl⟩
    subst hwi
    obtain ⟨j, hj, rfl, hz, hr, hk⟩ := hrel
    have ZZ := Lib.hid hz
    have RR := Lib.hid hr
    have KK := Lib.hid hk
    clear hz hr hk
    by_cases hlt : j < K
    · obtain ⟨q1, pl2, hb1, hb2⟩ := HQ.out j hlt
      have FG : Hid (∀ k, F k → ¬ k = g) := Lib.hid fun k h e => by have := HF.out k h; have := HE.out; omega
      go_upto_region 8 with fail
      refine (BB.out.below _ j hlt RR.out).mono ?_
      rintro e w1 ⟨rfl, hr1, hk1⟩
      have Z1 := Lib.hid (ZZ.out.kp hk1 (fun e => FG.out g e rfl))
      have K1 := Lib.hid (KK.out.trans hk1 fun k e => .inl e)
      have SH := Lib.hid (HM.out j hlt)
      have R1 := Lib.hid hr1
      clear hr1 hk1 RR KK ZZ
      generalize q j = qq at *
      generalize bv j = bb at *
      have ji : j < N := by omega
      have ZS1 := Lib.hid (Z1.out.swap j qq ji pl2)
      rw [← SH.out] at ZS1
      have c1 := Z1.out.cell j ji
      have c2 := Z1.out.cell qq pl2
      have fr1 := Z1.out.frozen j
      have fr2 := Z1.out.frozen qq
      generalize hx : (M j).getD j 0 = x at *
      generalize hy : (M j).getD qq 0 = y at *
      obtain ⟨y2, hy2⟩ := Z1.out.any j qq y ji pl2
      have G1 : Hid (S ((w1.setCell ⟨g, j, none⟩ (.int .i64 y)).setCell ⟨g, qq, none⟩ (.int .i64 x)) (j + 1) ∧ Kp F w ((w1.setCell ⟨g, j, none⟩ (.int .i64 y)).setCell ⟨g, qq, none⟩ (.int .i64 x))) :=
        Lib.hid ⟨BB.out.keep _ _ _ _ (BB.out.keep _ _ _ _ R1.out (Kp.set _ _ _ _) FG.out) (Kp.set _ _ _ _) FG.out, (K1.out.setNew HB.out _ _).setNew HB.out _ _⟩
      clear R1 K1 hx hy Z1
      go_wp2
      go_region
      go_wp2
      exact ⟨⟨j + 1, by omega, by go_num, ZS1.out.kp ((Kp.refl (fun _ => False) _).drew) (fun e => e), BB.out.keep _ _ _ _ G1.out.1 ((Kp.refl (fun _ => False) _).drew) (fun _ _ e => e), G1.out.2.drew⟩, by simp [intOf]; omega⟩
    · obtain rfl : j = K := by omega
      have hnd : ((M j).take j).Nodup := HI.out.nodup.sublist (List.take_sublist _ _)
      have HND := Lib.hid hnd
      have FG : Hid (∀ k, F k → ¬ k = g) := Lib.hid fun k h e => by have := HF.out k h; have := HE.out; omega
      clear hnd
      go_wp2_with fail
      refine (sort_dev g N N j (M j) _ ZZ.out hK (by omega) HND.out).mono ?_
      rintro e w2 ⟨rfl, hz2, hk2⟩
      have Z2 := Lib.hid hz2
      have K2 := Lib.hid hk2
      clear hz2 hk2
      go_wp2_with fail
      go_ret
      have hlt : ((M j).take j).length = j := by rw [List.length_take, HI.out.len]; omega
      have hil : (C.isort ((M j).take j)).length = j := by rw [C.isort_length, hlt]
      have htk := take_sets (M j) (C.isort ((M j).take j)) (by rw [hil, HI.out.len]; exact hK) (by rw [Z2.out.1, HI.out.len])
      rw [hil] at htk
      refine ⟨_, rfl, Z2.out.own j hK (fun x hx => ?_) htk (by have := HE.out; omega), BB.out.keep _ _ _ _ RR.out K2.out FG.out, KK.out.trans K2.out fun k e => .inr (by have := HE.out; omega)⟩
      have hx2 := List.mem_of_mem_take ((C.mem_isort x _).1 hx)
      obtain ⟨i, hi, rfl⟩ := List.getElem_of_mem hx2
      have := HI.out.rng i (by rw [← HI.out.len]; exact hi)
      rw [List.getD_eq_getElem?_getD, List.getElem?_eq_getElem hi] at this
      simp only [Option.getD_some] at this
      unfold I64
      omega
theorem inj_upTo (N : Nat) : C.Inj N (upTo N) := C.shuf_inj 0 N 0 (Nat.zero_le _)
theorem isort_upTo {N K : Nat} (h : K ≤ N) : C.isort ((upTo N).take K) = upTo K := by
  have ht : (upTo N).take K = upTo K := by
    unfold upTo
    rw [← List.map_take, List.take_range, Nat.min_eq_left h]
  rw [ht]
  refine C.rise_ext _ _ (C.isort_sorted _ (inj_upTo K).nodup) ?_ fun x => C.mem_isort x _
  unfold upTo
  rw [List.pairwise_map]
  exact List.pairwise_lt_range.imp fun h => by omega
theorem swap_self (l : List Int) (i : Nat) (hi : i < l.length) : C.swap l i i = l := by
  apply List.ext_getElem?
  intro k
  unfold C.swap
  by_cases e : k = i
  · subst e
    rw [List.getElem?_set_self (by simpa using hi), List.getD_eq_getElem?_getD, List.getElem?_eq_getElem hi]
    rfl
  · rw [List.getElem?_set_ne (fun c => e c.symm), List.getElem?_set_ne (fun c => e c.symm)]
theorem some_none (d : Value) (n k : Int) (w : World) (hn : I64 n) (hk : I64 k) (hm : ¬ C.May n k) :
    Calls Tryz.prog 80 #[d, .int .i64 n, .int .i64 k] w fun e w' => e = .returned (.slice none 0 0) ∧ w' = w := by
  unfold I64 at hn hk
  unfold C.May at hm
  by_cases c1 : n < 0
  · go_enter Tryz.func80, Tryz.ntmps80
    go_wp2
    go_ret
    exact ⟨rfl, rfl⟩
  · by_cases c2 : 64 < n
    · go_enter Tryz.func80, Tryz.ntmps80
      go_wp2
      go_ret
      exact ⟨rfl, rfl⟩
    · by_cases c3 : k < 0
      · go_enter Tryz.func80, Tryz.ntmps80
        go_wp2
        go_ret
        exact ⟨rfl, rfl⟩
      · have c4 : n < k := by omega
        go_enter Tryz.func80, Tryz.ntmps80
        go_wp2
        go_ret
        exact ⟨rfl, rfl⟩
/-- Package choose as it was written, what is told being memory of its own. -/
theorem choose_own (s : Nat) (d : Value) (F : Nat → Prop) (n k : Int) (w : World) (hn : I64 n) (hk : I64 k) (hs : s < 18446744073709551616) (hd : DAt w d F s) :
    Calls Tryz.prog 80 #[d, .int .i64 n, .int .i64 k] w fun e w' => ∃ v, e = .returned v ∧ OwnZ w.heap.size w' v (C.someZ s n k) ∧ DAt w' d F (C.someS s n k) ∧ Kp F w w' := by
  by_cases hm : C.May n k
  · have e1 : C.someZ s n k = C.some s n.toNat k.toNat := if_pos hm
    have e2 : C.someS s n k = C.st s k.toNat := if_pos hm
    rw [e1, e2]
    obtain ⟨m1, m2, m3, m4⟩ := hm
    obtain ⟨N, rfl⟩ : ∃ N : Nat, n = N := ⟨n.toNat, by omega⟩
    obtain ⟨K, rfl⟩ : ∃ K : Nat, k = K := ⟨k.toNat, by omega⟩
    rw [Int.toNat_natCast, Int.toNat_natCast]
    refine some_core (fun W j => DAt W d F (C.st s j)) d F (fun j => belowV (C.st s j) ((N : Int) - j)) (C.pick s N) (C.shuf s N) N K w (by omega) (by omega) ⟨fun W W' j G h hkp hG => draw_ok.keep h hkp hG, fun W j hj h => ?_⟩ (fun j hj => ?_) rfl (fun j hj => rfl) hd (draw_ok.lt hd) (C.shuf_inj s N K (by omega))
    · have hb := draw_ok.below d F (C.st s j) ((N : Int) - j) W (C.st_lt hs j) (by omega) (by omega) h
      rw [(C.pick_below (s := s) (show j < N by omega)).2] at hb
      exact hb
    · have hr := belowV_rng (C.st s j) ((N : Int) - j)
      exact ⟨(C.pick_below (by omega)).1, (C.pick_lt (by omega)).2, by omega, by omega⟩
  · have e1 : C.someZ s n k = [] := if_neg hm
    have e2 : C.someS s n k = s := if_neg hm
    rw [e1, e2]
    refine (some_none d n k w hn hk hm).mono ?_
    rintro e w' ⟨rfl, rfl⟩
    exact ⟨_, rfl, ⟨(fun x hx => by cases hx), .inl ⟨rfl, rfl⟩⟩, hd, Kp.refl _ _⟩
theorem choose_ok : ChooseOk DAt where
  some := fun d n k F s w hn hk hs hd => (choose_own s d F n k w hn hk hs hd).mono (by
    rintro e w' ⟨v, rfl, ho, ha, hk⟩
    exact ⟨v, rfl, ho.zs, ho.away (draw_ok.lt hd), ha, hk⟩)
  someNil := by
    intro n k w hn hk hm
    obtain ⟨m1, m2, m3, m4⟩ := hm
    obtain ⟨N, rfl⟩ : ∃ N : Nat, n = N := ⟨n.toNat, by omega⟩
    obtain ⟨K, rfl⟩ : ∃ K : Nat, k = K := ⟨k.toNat, by omega⟩
    rw [Int.toNat_natCast]
    refine (some_core (fun _ _ => True) (.pointer none) (fun _ => False) (fun _ => 0) (fun j => j) (fun _ => upTo N) N K w (by omega) (by omega) ⟨fun _ _ _ _ _ _ _ => trivial, fun W j hj _ => ?_⟩ (fun j hj => ⟨by omega, by omega, by omega, by omega⟩) rfl (fun j hj => (swap_self (upTo N) j (by rw [upTo_length]; omega)).symm) trivial (fun k h => h.elim) (inj_upTo N)).mono ?_
    · refine (belowNil_dev ((N : Int) - j) W (by omega) (by omega)).mono ?_
      rintro e w' ⟨rfl, hg⟩
      exact ⟨rfl, trivial, hg.kp _⟩
    · rintro e w' ⟨v, rfl, ho, _, hk⟩
      rw [isort_upTo (by omega)] at ho
      exact ⟨v, rfl, ho.zs, ho.away (fun _ h => h), hk.gr (Gr.refl w) fun _ h => h.elim⟩
end Go.Proofs.YtbabecjphmmngaaGreat
namespace Go.Proofs.YtbabecjphmmngaaGreat
open Go.RowKit

set_option maxHeartbeats 400000 in
theorem last_any (v : Value) (t : List Int) (w : World) (h : Zs w v t) (hl : t.length ≤ 1000) :
    Calls Tryz.prog 97 #[v] w fun e w' => e = .returned (.int .i64 (lastZ' t)) ∧ Gr w w' := by
  by_cases h0 : 0 < t.length
  · obtain ⟨a, c, rfl, h1, h2, h3⟩ := Zs.at h h0
    have q := h3 (t.length - 1) (by omega)
    have hrng := h.rng (t.length - 1) (by omega)
    rw [show t.getD (t.length - 1) 0 = lastZ' t from rfl] at q hrng
    generalize lastZ' t = y at *
    obtain ⟨n, hn⟩ : ∃ n, t.length = n := ⟨_, rfl⟩
    rw [hn] at q h1 h0 hl ⊢
    clear h h3 hn
    obtain ⟨m, rfl⟩ : ∃ m, n = m + 1 := ⟨n - 1, by omega⟩
    rw [Nat.add_sub_cancel] at q
    have hb : (((m + 1 : Nat) : Int) == 0) = false := by simp; omega
    go_enter Tryz.func97, Tryz.ntmps97
    go_wp2
    go_ret
    exact ⟨rfl, Gr.refl _⟩
  · obtain rfl : t = [] := List.eq_nil_of_length_eq_zero (by omega)
    obtain ⟨oa, c, rfl⟩ := h.form
    clear h
    rw [show lastZ' [] = 0 from rfl]
    go_enter Tryz.func97, Tryz.ntmps97
    go_wp2
    go_ret
    exact ⟨rfl, Gr.refl _⟩
set_option maxHeartbeats 400000 in
theorem rootUp_any (N : Nat) (w : World) (h1 : 1 ≤ N) (h2 : N ≤ 64) :
    Calls Tryz.prog 98 #[.int .i64 N] w fun e w' => e = .returned (.int .i64 (T.root N : Nat)) ∧ Gr w w' := by
  obtain ⟨R, hR⟩ : ∃ R, T.root N = R := ⟨_, rfl⟩
  rw [hR]
  have HR := Lib.hid hR
  clear hR
  go_enter Tryz.func98, Tryz.ntmps98
  go_wp2
  go_loopw [3] (fun i wr => w = wr ∧ ∃ r : Nat, r ≤ 8 ∧ 1 ≤ r ∧ i = .int .i64 r ∧ ∀ j, j < r → j * j < N) (fun i _ => 8 - (intOf i).toNat)
  case atStart => exact ⟨rfl, 1, by omega, by omega, rfl, fun j hj => by
    have hj0 : j = 0 := by omega
    rw [hj0]
    omega⟩
  case round =>
    obtain ⟨rfl, r, hr, hr1, rfl, hs⟩ := hrel
    have HS := Lib.hid hs
    obtain ⟨q, hq⟩ : ∃ q, r * r = q := ⟨_, rfl⟩
    have hq2 : (r : Int) * r = q := by rw [← hq, Int.natCast_mul]
    have hq3 : q ≤ 64 := by rw [← hq]; exact Nat.mul_le_mul hr hr
    have HQ := Lib.hid hq
    clear hs hq
    by_cases hlt : q < N
    · have h8 : r ≠ 8 := fun c => by
        rw [c] at HQ
        have := HQ.out
        omega
      go_wp2
      refine ⟨⟨trivial, r + 1, by omega, by omega, by go_num, fun j hj => ?_⟩, ?_⟩
      · by_cases e : j = r
        · rw [e, HQ.out]; exact hlt
        · exact HS.out j (by omega)
      · simp [intOf]
        omega
    · have hroot := T.root_eq h1 h2 (by rw [HQ.out]; omega) HS.out
      rw [HR.out] at hroot
      subst hroot
      go_wp2
      go_ret
      exact ⟨rfl, Gr.refl _⟩
/-- What the weight of k begins with. -/
def idealP (N k : Nat) : Nat := if 1 < k then 1048576 / (k * (k - 1)) else 1048576 / N
set_option maxHeartbeats 400000 in
theorem ideal_any (N k : Nat) (w : World) (h1 : 1 ≤ N) (h2 : N ≤ 64) (k1 : 1 ≤ k) (k2 : k ≤ 64) :
    Calls Tryz.prog 99 #[.int .i64 N, .int .i64 k] w fun e w' => e = .returned (.int .i64 (idealP N k : Nat)) ∧ Gr w w' := by
  by_cases c : 1 < k
  · have e1 : idealP N k = 1048576 / (k * (k - 1)) := if_pos c
    rw [e1]
    have hk2 : k * (k - 1) ≤ 4032 := Nat.le_trans (Nat.mul_le_mul (by omega : k ≤ 64) (by omega : k - 1 ≤ 63)) (by omega)
    obtain ⟨P, hP⟩ : ∃ P, k * (k - 1) = P := ⟨_, rfl⟩
    have fP : (k : Int) * ((k : Int) - 1) = P := by
      rw [← hP, Int.natCast_mul]
      congr 1
      omega
    have fP1 : 1 ≤ P := by rw [← hP]; exact Nat.mul_pos (by omega) (by omega)
    rw [hP] at hk2 ⊢
    obtain ⟨a2, ha2⟩ : ∃ a2, 1048576 / P = a2 := ⟨_, rfl⟩
    have fa2 : (1048576 : Int) / P = a2 := by rw [← ha2, Int.natCast_ediv]; rfl
    have ba2 : a2 ≤ 1048576 := by rw [← ha2]; exact Nat.div_le_self _ _
    rw [ha2]
    clear hP ha2 e1
    have hb : ((k : Int) == 1) = false := by simp; omega
    go_enter Tryz.func99, Tryz.ntmps99
    go_wp2
    go_ret
    exact ⟨by rw [← fa2]; rfl, Gr.refl _⟩
  · obtain rfl : k = 1 := by omega
    rw [show idealP N 1 = 1048576 / N from rfl]
    obtain ⟨a2, ha2⟩ : ∃ a2, 1048576 / N = a2 := ⟨_, rfl⟩
    have fa2 : (1048576 : Int) / N = a2 := by rw [← ha2, Int.natCast_ediv]; rfl
    have ba2 : a2 ≤ 1048576 := by rw [← ha2]; exact Nat.div_le_self _ _
    rw [ha2]
    clear ha2
    go_enter Tryz.func99, Tryz.ntmps99
    go_wp2
    go_ret
    exact ⟨by rw [← fa2]; rfl, Gr.refl _⟩
theorem digits_len : ∀ r, r < 9 → Lib.len8 ((r : Nat) : Int) = (T.digits 9 r : Nat) := by decide +kernel
set_option maxRecDepth 100000 in
set_option maxHeartbeats 800000 in
theorem len_any (r : Nat) (w : World) (h1 : 1 ≤ r) (h2 : r ≤ 8) :
    Calls Tryz.prog 108 #[.int .u64 r] w fun e w' => e = .returned (.int .i64 (T.digits 9 r : Nat)) ∧ Gr w w' := by
  have key : ∀ (x : Int) w, x = r → Calls Tryz.prog 111 #[.int .u64 x] w fun e w' => e = .returned (.int .i64 (Lib.len8 x)) ∧ Gr w w' := by
    intro x w hx
    have hb := T.digits_le r (by omega)
    have hl : 0 ≤ Lib.len8 x ∧ Lib.len8 x ≤ 4 := by rw [hx, digits_len r (by omega)]; omega
    have hx1 : 1 ≤ x := by omega
    have hx2 : x ≤ 8 := by omega
    clear hb hx h1 h2
    have hsz : x.toNat < Lib.len8tab.size := by rw [Lib.len8tab_size]; omega
    have e : ((Lib.len8tab[x.toNat]'hsz).toNat : Int) = Lib.len8 x := by
      unfold Lib.len8
      rw [getElem?_pos Lib.len8tab x.toNat hsz]
      rfl
    have E := Lib.hid e
    clear e
    go_enter Tryz.func111, Tryz.ntmps111
    go_wp2
    go_ret
    refine ⟨congrArg Ending.returned (congrArg (Value.int IntKind.i64) ?_), Gr.refl _⟩
    rw [E.out]
    unfold wrap64
    omega
  rw [← digits_len r (by omega)]
  go_enter Tryz.func108, Tryz.ntmps108
  go_wp2_with fail
  refine (key _ _ rfl).mono ?_
  rintro e w' ⟨rfl, hg⟩
  have G := Lib.hid hg
  clear hg
  go_wp2
  go_ret
  exact ⟨rfl, G.out⟩
set_option maxHeartbeats 400000 in
theorem index_any (v : Value) (t : List Int) (x : Int) (B : Nat) (w : World) (h : Zs w v t) (hl : t.length ≤ 1000) (hB : w.cell? ⟨B, 0, none⟩ = some (.int .i64 x)) :
    Calls Tryz.prog 106 #[v, .func (.func 107) #[] #[.pointer (some ⟨B, 0, none⟩)]] w fun e w' => e = .returned (.int .i64 (T.degA t x 0 - 1)) ∧ Gr w w' := by
  obtain ⟨_, oa, c, rfl, h1, h2, h3, h4⟩ := h
  obtain ⟨n, hn⟩ : ∃ n, t.length = n := ⟨_, rfl⟩
  rw [hn] at h1 h4 hl ⊢
  have HN := Lib.hid hn
  have HC := Lib.hid h4
  have HO : Hid (oa = none → n = 0) := Lib.hid (fun e => by have := h3 e; omega)
  clear h3 h4 hn
  go_enter Tryz.func106, Tryz.ntmps106
  go_wp2
  go_loopw [8] (fun i wr => wr = w ∧ ∃ k : Nat, k ≤ n ∧ i = .int .i64 k ∧ ∀ j, j < k → t.getD j 0 ≤ x) (fun i _ => n - (intOf i).toNat)
  case atStart => exact ⟨rfl, 0, by omega, rfl, by omega⟩
  case round =>
    obtain ⟨rfl, k, hk, rfl, hs⟩ := hrel
    have HS := Lib.hid hs
    clear hs
    by_cases hlt : k < n
    · obtain ⟨a, rfl⟩ : ∃ a, oa = some a := by
        cases oa with
        | none => exact absurd (HO.out rfl) (by omega)
        | some a => exact ⟨a, rfl⟩
      have q := HC.out a rfl k hlt
      obtain ⟨y, hy⟩ : ∃ y, t.getD k 0 = y := ⟨_, rfl⟩
      rw [hy] at q
      have HY := Lib.hid hy
      clear hy
      by_cases hxy : x < y
      · go_wp2_with (first | go_in)
        go_ret
        exact ⟨by rw [T.degA_at t x 0 k (by rw [HN.out]; exact hlt) HS.out (by rw [HY.out]; exact hxy)]; simp, Gr.refl _⟩
      · go_wp2_with (first | go_in)
        refine ⟨⟨trivial, k + 1, by omega, by go_num, fun j hj => ?_⟩, by simp [intOf]; omega⟩
        by_cases e : j = k
        · rw [e, HY.out]; omega
        · exact HS.out j (by omega)
    · obtain rfl : k = n := by omega
      go_wp2
      go_ret
      exact ⟨by rw [T.degA_none t x 0 (fun i hi => HS.out i (by rw [HN.out] at hi; exact hi))]; rfl, Gr.refl _⟩
/-- The numbers of t are none above the last one. -/
def Top (t : List Int) : Prop := ∀ i, i < t.length → t.getD i 0 ≤ lastZ' t
theorem tab_top (l : Int) : Top (T.tab l) ∧ (T.tab l).length ≤ 64 := by
  by_cases hin : 1 ≤ l ∧ l ≤ 64
  · obtain ⟨N, rfl⟩ : ∃ N : Nat, l = N := ⟨l.toNat, by omega⟩
    rw [T.tab_in (by omega) (by omega)]
    refine ⟨fun i hi => ?_, by rw [T.tabZ_length]; omega⟩
    rw [T.tabZ_length] at hi
    unfold lastZ'
    rw [T.tabZ_length, T.tabZ_at hi, T.tabZ_at (by omega)]
    by_cases e : i = N - 1
    · rw [e]; omega
    · have := T.sum_lt (l := N) (by omega) (by omega) (N - 1 + 1) (i + 1) (by omega) (by omega)
      omega
  · rw [T.tab_out hin]
    exact ⟨fun i hi => absurd hi (by simp), by simp⟩
set_option maxHeartbeats 400000 in
theorem degree_any (v : Value) (t : List Int) (x : Int) (w : World) (h : Zs w v t) (ht : Top t) (hl : t.length ≤ 1000) (hx : I64 x) :
    Calls Tryz.prog 95 #[v, .int .i64 x] w fun e w' => e = .returned (.int .i64 (T.deg t x)) ∧ Gr w w' := by
  have H := Lib.hid h
  have HX := Lib.hid hx
  have HB : Hid ((w.alloc (.cells #[.int .i64 x] 3)).cell? ⟨w.heap.size, 0, none⟩ = some (.int .i64 x)) := Lib.hid (by rw [World.cell?_alloc_at _ _ _ _ rfl]; rfl)
  have G0 : Hid (Gr w (w.alloc (.cells #[.int .i64 x] 3))) := Lib.hid (Gr.alloc (Gr.refl _) _ _)
  have hb := HB.out
  have HA := Lib.hid (H.out.grown G0.out)
  have HL := Lib.hid hl
  have hmf : ∀ (fn : Fn) (first cap : Array Value) (w : World), (Instr.makeFunc fn first cap).run Tryz.prog w = .ok (.func fn first cap) w := fun _ _ _ _ => rfl
  obtain ⟨D, hD⟩ : ∃ D, T.deg t x = D := ⟨_, rfl⟩
  rw [hD]
  have HD := Lib.hid hD
  clear h hx hD
  go_enter Tryz.func95, Tryz.ntmps95
  by_cases h0 : x < 0
  · have hd0 : D = 0 := by rw [← HD.out, T.deg_low h0]
    have hbt : decide (x < 0) = true := by simpa using h0
    go_wp2_with fail
    go_quiet (fail)
    go_wp2
    go_ret
    exact ⟨by rw [hd0]; rfl, G0.out⟩
  · have hbb : decide (x < 0) = false := by simpa using h0
    go_wp2_with fail
    go_region_held3 (fun W => W.cell? ⟨w.heap.size, 0, none⟩ = some (.int .i64 x)) (first | exact HB1.out | exact HB.out | go_keep) (first
      | (go_at_call 97; refine (last_any _ t _ (HA.out.grown (Gr.drew (Gr.refl _))) HL.out).mono ?_; rintro e w1 ⟨rfl, hg⟩; have G1 := Lib.hid hg; have hb1 := cell_gr hg HB.out; have HB1 := Lib.hid hb1; have HA1 := Lib.hid (HA.out.grown hg); clear hg))
    by_cases hc : lastZ' t ≤ x
    · have hd0 : D = 0 := by rw [← HD.out, T.deg_none (t := t) (x := x) (fun i hi => by have := ht i hi; omega)]
      go_wp2_with fail
      go_ret
      exact ⟨by rw [hd0]; rfl, Gr.trans G0.out G1.out⟩
    · have hn0 : 0 < t.length := by
        cases t with
        | nil => exact absurd (by simp [lastZ']; omega) hc
        | cons _ _ => simp
      obtain ⟨j, hj, hd⟩ := T.deg_some (t := t) (x := x) (by omega) hn0 (by have : ¬ lastZ' t ≤ x := hc; unfold lastZ' at this; omega)
      have hda : T.degA t x 0 = ((j + 1 : Nat) : Int) := by
        rw [← hd]
        unfold T.deg
        rw [if_neg (by omega)]
      have HDA := Lib.hid hda
      have hdj : D = ((j + 1 : Nat) : Int) := by rw [← HD.out, hd]
      clear hd hda
      go_wp2_with fail
      refine (index_any _ t x w.heap.size _ HA1.out HL.out HB1.out).mono ?_
      rw [HDA.out]
      rintro e w2 ⟨rfl, hg2⟩
      have G2 := Lib.hid (Gr.trans G0.out (Gr.trans G1.out hg2))
      clear hg2 HDA
      go_wp2_with fail
      go_ret
      exact ⟨congrArg Ending.returned (congrArg (Value.int .i64) (by omega)), G2.out⟩
/-- What the weight of k has more. -/
def robustP (N k : Nat) : Nat := (if k < T.peak N then 1048576 * T.root N / (N * k) else 0) + (if k = T.peak N then 1048576 * T.root N * T.digits 9 (T.root N) / N else 0)
theorem weight_parts (N k : Nat) : T.weight N k = idealP N k + robustP N k := by
  unfold T.weight idealP robustP
  omega
set_option maxHeartbeats 400000 in
theorem robust_any (N k : Nat) (w : World) (h1 : 1 ≤ N) (h2 : N ≤ 64) (k1 : 1 ≤ k) (k2 : k ≤ 64) :
    Calls Tryz.prog 100 #[.int .i64 N, .int .i64 (T.root N : Nat), .int .i64 k] w fun e w' => e = .returned (.int .i64 (robustP N k : Nat)) ∧ Gr w w' := by
  obtain ⟨q1, q2, q3, q4⟩ := T.root_ok N (by omega) h1
  have HP : Hid (T.peak N = N / T.root N) := Lib.hid rfl
  obtain ⟨d, hd⟩ : ∃ d, T.digits 9 (T.root N) = d := ⟨_, rfl⟩
  have hd4 : d ≤ 4 := by rw [← hd]; exact T.digits_le _ (by omega)
  have HLEN : Hid (∀ w, Calls Tryz.prog 108 #[.int .u64 (T.root N : Nat)] w fun e w' => e = .returned (.int .i64 (d : Nat)) ∧ Gr w w') := Lib.hid (fun w => by rw [← hd]; exact len_any _ w q2 q3)
  unfold robustP
  rw [hd]
  generalize T.root N = r at *
  obtain ⟨p, hp⟩ : ∃ p, N / r = p := ⟨_, rfl⟩
  have hpi : (N : Int) / r = p := by rw [← hp, Int.natCast_ediv]
  have hp64 : p ≤ 64 := by rw [← hp]; exact Nat.le_trans (Nat.div_le_self _ _) h2
  rw [HP.out, hp]
  clear hp HP hd q1 q4
  obtain ⟨R1, hR1⟩ : ∃ R1, 1048576 * r = R1 := ⟨_, rfl⟩
  have fR1 : (1048576 : Int) * r = R1 := by rw [← hR1, Int.natCast_mul]; rfl
  have bR1 : R1 ≤ 8388608 := by omega
  rw [hR1]
  clear hR1
  by_cases c1 : k < p
  · rw [if_pos c1, if_neg (by omega)]
    obtain ⟨Q, hQ⟩ : ∃ Q, N * k = Q := ⟨_, rfl⟩
    have fQ : (N : Int) * k = Q := by rw [← hQ, Int.natCast_mul]
    have bQ : Q ≤ 4096 := by rw [← hQ]; exact Nat.le_trans (Nat.mul_le_mul h2 (by omega : k ≤ 64)) (by omega)
    have fQ1 : 1 ≤ Q := by rw [← hQ]; exact Nat.mul_pos (by omega) (by omega)
    obtain ⟨a3, ha3⟩ : ∃ a3, R1 / Q = a3 := ⟨_, rfl⟩
    have fa3 : (R1 : Int) / Q = a3 := by rw [← ha3, Int.natCast_ediv]
    have ba3 : a3 ≤ 8388608 := by rw [← ha3]; exact Nat.le_trans (Nat.div_le_self _ _) bR1
    rw [hQ, ha3]
    clear hQ ha3
    go_enter Tryz.func100, Tryz.ntmps100
    go_wp2_with fail
    go_ret
    exact ⟨congrArg Ending.returned (congrArg (Value.int .i64) (by omega)), Gr.refl _⟩
  · rw [if_neg c1]
    by_cases c2 : k = p
    · rw [if_pos c2]
      obtain ⟨R2, hR2⟩ : ∃ R2, R1 * d = R2 := ⟨_, rfl⟩
      have fR2 : (R1 : Int) * d = R2 := by rw [← hR2, Int.natCast_mul]
      have bR2 : R2 ≤ 8388608 * 4 := by rw [← hR2]; exact Nat.mul_le_mul bR1 hd4
      obtain ⟨a4, ha4⟩ : ∃ a4, R2 / N = a4 := ⟨_, rfl⟩
      have fa4 : (R2 : Int) / N = a4 := by rw [← ha4, Int.natCast_ediv]
      have ba4 : a4 ≤ 8388608 * 4 := by rw [← ha4]; exact Nat.le_trans (Nat.div_le_self _ _) bR2
      rw [hR2, ha4]
      clear hR2 ha4
      have hkp : ((k : Int) == p) = true := by simp; omega
      clear c2
      go_enter Tryz.func100, Tryz.ntmps100
      go_wp2_with (first | (go_at_call 108; refine (HLEN.out _).mono ?_; rintro e w1 ⟨rfl, hg1⟩; have G1 := Lib.hid hg1; clear hg1))
      go_ret
      exact ⟨congrArg Ending.returned (congrArg (Value.int .i64) (by omega)), G1.out⟩
    · rw [if_neg c2]
      have hkp : ((k : Int) == p) = false := by simp; omega
      clear c2
      go_enter Tryz.func100, Tryz.ntmps100
      go_wp2_with fail
      go_ret
      exact ⟨rfl, Gr.refl _⟩
end Go.Proofs.YtbabecjphmmngaaGreat
namespace Go.Proofs.YtbabecjphmmngaaGreat
open Go.RowKit

set_option maxHeartbeats 800000 in
theorem draw_deg {At : World → Value → (Nat → Prop) → Nat → Prop} (D : DrawOk At) (v d : Value) (t : List Int) (F : Nat → Prop) (s : Nat) (w : World) (hs : s < 18446744073709551616) (h : Zs w v t) (ht : Top t) (hl : t.length ≤ 1000) (ha : AwayZ F v) (hd : At w d F s) :
    Calls Tryz.prog 78 #[v, d] w fun e w' => e = .returned (.int .i64 (drawV t s)) ∧ At w' d F (drawS t s) ∧ Kp F w w' := by
  by_cases h0 : t = []
  · subst h0
    obtain ⟨oa, c, rfl⟩ := h.form
    have HD := Lib.hid hd
    clear h hd ht ha
    rw [show drawV [] s = 0 from if_pos rfl, show drawS [] s = s from if_pos rfl]
    go_enter Tryz.func78, Tryz.ntmps78
    go_wp2
    go_ret
    exact ⟨rfl, HD.out, Kp.refl _ _⟩
  · have e1 : drawV t s = T.deg t (belowV s (lastZ' t)) := if_neg h0
    have e2 : drawS t s = belowS s (lastZ' t) := if_neg h0
    rw [e1, e2]
    have hn0 : 0 < t.length := List.length_pos_iff.2 h0
    have hrng := h.rng (t.length - 1) (by omega)
    rw [show t.getD (t.length - 1) 0 = lastZ' t from rfl] at hrng
    obtain ⟨oa, c, rfl⟩ := h.form
    have hbz : (((t.length : Nat) : Int) == 0) = false := by simp; exact h0
    obtain ⟨ad, rfl⟩ := D.ptr hd
    have HZ := Lib.hid h
    have HD := Lib.hid hd
    have HL0 := Lib.hid hl
    obtain ⟨y, hy⟩ : ∃ y, lastZ' t = y := ⟨_, rfl⟩
    have HAW := Lib.hid ha
    have HT := Lib.hid ht
    have HOK := Lib.hid D
    have HBV : Hid (I64 (belowV s (lastZ' t))) := Lib.hid (by
      have hr : I64 (lastZ' t) := hrng
      unfold I64 at *
      unfold belowV
      split
      · omega
      · rename_i hp
        have a1 := Int.emod_nonneg ((topS (nextS s) : Nat) : Int) (by omega : lastZ' t ≠ 0)
        have a2 := Int.emod_lt_of_pos ((topS (nextS s) : Nat) : Int) (by omega : 0 < lastZ' t)
        omega)
    rw [hy] at hrng HBV ⊢
    have HY := Lib.hid hy
    unfold I64 at hrng
    clear h hd ha ht hl D e1 e2 h0 hy
    generalize hn : t.length = n at *
    have HL1 : Hid (t.length ≤ 1000) := Lib.hid (by rw [hn]; exact HL0.out)
    clear hn HL0
    go_enter Tryz.func78, Tryz.ntmps78
    go_wp2_with fail
    refine (last_any _ t _ HZ.out HL1.out).mono ?_
    rw [HY.out]
    rintro e w1 ⟨rfl, hg1⟩
    have HD1 := Lib.hid (HOK.out.keep HD.out (hg1.kp fun _ => False) fun _ _ e => e)
    have HZ1 := Lib.hid (HZ.out.grown hg1)
    have G1 := Lib.hid hg1
    clear hg1
    go_wp2_with fail
    refine (HOK.out.below _ F s y _ hs hrng.2 hrng.1 HD1.out).mono ?_
    rintro e w2 ⟨rfl, hd2, hk2⟩
    have HD2 := Lib.hid hd2
    have HK2 := Lib.hid (((G1.out.kp F)).trans hk2 fun k e => .inl e)
    have HZ2 := Lib.hid (HZ1.out.kp hk2 HAW.out)
    clear hd2 hk2
    go_wp2_with fail
    refine (degree_any _ t _ _ HZ2.out HT.out HL1.out HBV.out).mono ?_
    rintro e w3 ⟨rfl, hg3⟩
    have HD3 := Lib.hid (HOK.out.keep HD2.out (hg3.kp fun _ => False) fun _ _ e => e)
    have HK3 := Lib.hid (HK2.out.trans (hg3.kp F) fun k e => .inl e)
    clear hg3
    go_wp2
    go_ret
    exact ⟨rfl, HD3.out, HK3.out⟩
/-- The first i numbers, and noughts behind. -/
def partT (N i : Nat) : List Int := tabV N i ++ List.replicate (N - i) 0
theorem partT_zero (N : Nat) : partT N 0 = List.replicate N 0 := by simp [partT, tabV]
theorem partT_all (N : Nat) : partT N N = T.tabZ N := by simp [partT, tabV, T.tabZ]
theorem partT_length {N i : Nat} (h : i ≤ N) : (partT N i).length = N := by
  simp [partT, tabV]
  omega
theorem partT_set {N i : Nat} (h : i < N) : (partT N i).set i ((T.sum N (i + 1) : Nat) : Int) = partT N (i + 1) := by
  unfold partT
  have hl : (tabV N i).length = i := by simp [tabV]
  rw [List.set_append, if_neg (by omega), hl, Nat.sub_self]
  obtain ⟨m, hm⟩ : ∃ m, N - i = m + 1 := ⟨N - i - 1, by omega⟩
  rw [hm, List.replicate_succ, List.set_cons_zero, tabV_succ, show N - (i + 1) = m from by omega, List.append_assoc]
  simp [T.sum]
theorem Blz.set {w : World} {g : Nat} {L : List Int} (h : Blz w g L) (i : Nat) (x : Int) : Blz (w.setCell ⟨g, i, none⟩ (.int .i64 x)) g (L.set i x) := by
  unfold Blz at *
  rw [heap_setCell_same _ _ _ _ _ _ h, rowZ_set]
theorem Blz.frozen {w : World} {g : Nat} {L : List Int} (h : Blz w g L) (i : Nat) : w.frozen? ⟨g, i, none⟩ = false := frozen_of_row w g i _ _ h
set_option maxRecDepth 100000 in
set_option maxHeartbeats 1600000 in
theorem table_in (N : Nat) (w : World) (h1 : 1 ≤ N) (h2 : N ≤ 64) :
    Calls Tryz.prog 79 #[.int .i64 N] w fun e w' => ∃ v, e = .returned v ∧ Zs w' v (T.tabZ N) ∧ Gr w w' := by
  have hmk := makeZ N N (by omega) (by omega)
  go_enter Tryz.func79, Tryz.ntmps79
  go_wp2_with fail
  refine (rootUp_any N _ h1 h2).mono ?_
  rintro e w1 ⟨rfl, hg1⟩
  have G1 := Lib.hid hg1
  clear hg1
  go_wp2_with fail
  obtain ⟨g, hg⟩ : ∃ g, w1.heap.size = g := ⟨_, rfl⟩
  have hgl : w.heap.size ≤ g := by have := G1.out.size; omega
  have B0 : Hid (Blz (w1.alloc (.cells (rowZ (List.replicate N 0)) 3)) g (partT N 0)) := Lib.hid (by
    rw [partT_zero, ← hg]
    exact heap_alloc_new _ _)
  have G2 : Hid (Gr w (w1.alloc (.cells (rowZ (List.replicate N 0)) 3))) := Lib.hid (Gr.alloc G1.out _ _)
  rw [hg]
  generalize w1.alloc (.cells (rowZ (List.replicate N 0)) 3) = w2 at *
  clear hmk hg G1
  go_loopw [5, 19] (fun sv iv W => ∃ i : Nat, i ≤ N ∧ iv = .int .i64 i ∧ sv = .int .i64 ((T.sum N i : Nat) : Int) ∧ Blz W g (partT N i) ∧ Gr w W) (fun _ iv _ => N - (intOf iv).toNat)
  case atStart => exact ⟨0, by omega, rfl, rfl, B0.out, G2.out⟩
  case round =>
    obtain ⟨i, hi, rfl, rfl, hb, hgr⟩ := hrel
    have HB := Lib.hid hb
    have HG := Lib.hid hgr
    clear hb hgr
    have hsle := T.sum_le h1 h2 hi
    by_cases hlt : i < N
    · have hsle2 := T.sum_le h1 h2 (i := i + 1) (by omega)
      have hsw : T.sum N (i + 1) = T.sum N i + (idealP N (i + 1) + robustP N (i + 1)) := by rw [← weight_parts]; rfl
      have HST := Lib.hid (partT_set hlt)
      have HID : Hid (∀ w, Calls Tryz.prog 99 #[.int .i64 N, .int .i64 ((i : Int) + 1)] w fun e w' => e = .returned (.int .i64 (idealP N (i + 1) : Nat)) ∧ Gr w w') := Lib.hid (fun w => ideal_any N (i + 1) w h1 h2 (by omega) (by omega))
      have HRO : Hid (∀ w, Calls Tryz.prog 100 #[.int .i64 N, .int .i64 (T.root N : Nat), .int .i64 ((i : Int) + 1)] w fun e w' => e = .returned (.int .i64 (robustP N (i + 1) : Nat)) ∧ Gr w w') := Lib.hid (fun w => robust_any N (i + 1) w h1 h2 (by omega) (by omega))
      rw [hsw] at HST
      obtain ⟨s2, hs2⟩ : ∃ s2, T.sum N i + (idealP N (i + 1) + robustP N (i + 1)) = s2 := ⟨_, rfl⟩
      rw [hs2] at HST hsw
      rw [hsw] at hsle2
      have HS2 := Lib.hid hsw
      clear hsw
      generalize idealP N (i + 1) = x1 at *
      generalize robustP N (i + 1) = x2 at *
      generalize T.sum N i = s1 at *
      have fs : (s1 : Int) + ((x1 : Int) + x2) = s2 := by omega
      go_wp2_with fail
      refine (HID.out _).mono ?_
      rintro e w3 ⟨rfl, hg3⟩
      have HB3 := Lib.hid (HB.out.grown hg3)
      have HG3 := Lib.hid (HG.out.trans hg3)
      clear hg3
      go_wp2_with fail
      refine (HRO.out _).mono ?_
      rintro e w4 ⟨rfl, hg4⟩
      have HB4 := Lib.hid (HB3.out.grown hg4)
      have HG4 := Lib.hid (HG3.out.trans hg4)
      clear hg4
      have q := HB4.out.cell i (by rw [partT_length hi]; exact hlt)
      have qf := HB4.out.frozen i
      generalize (partT N i).getD i 0 = old at *
      clear hs2
      go_wp2
      refine ⟨⟨i + 1, by omega, by go_num, by rw [HS2.out], ?_, ?_⟩, by simp [intOf]; omega⟩
      · have h9 := HB4.out.set i (s2 : Int)
        rw [HST.out] at h9
        first | exact h9 | (rw [← fs] at h9; exact h9)
      · exact HG4.out.setCell hgl _
    · obtain rfl : i = N := by omega
      go_wp2
      go_ret
      have hz := HB.out
      rw [partT_all] at hz
      have := Blz.zs hz (T.tabZ i) i (by omega) (by rw [T.tabZ_length]; omega) (by omega) (fun x hx => by
        have := tabZ_rng h1 h2 x hx
        unfold I64
        omega) (fun _ _ => rfl)
      rw [T.tabZ_length] at this
      exact ⟨_, rfl, this, HG.out⟩
set_option maxHeartbeats 400000 in
theorem table_any (l : Int) (w : World) : Calls Tryz.prog 79 #[.int .i64 l] w fun e w' => ∃ v, e = .returned v ∧ Zs w' v (T.tab l) ∧ Gr w w' := by
  by_cases hin : 1 ≤ l ∧ l ≤ 64
  · obtain ⟨N, rfl⟩ : ∃ N : Nat, l = N := ⟨l.toNat, by omega⟩
    rw [T.tab_in (by omega) (by omega)]
    exact table_in N w (by omega) (by omega)
  · rw [T.tab_out hin]
    by_cases h1 : l < 1
    · go_enter Tryz.func79, Tryz.ntmps79
      go_wp2
      go_ret
      exact ⟨_, rfl, Zs.nil _, Gr.refl _⟩
    · have h2 : 64 < l := by omega
      go_enter Tryz.func79, Tryz.ntmps79
      go_wp2
      go_ret
      exact ⟨_, rfl, Zs.nil _, Gr.refl _⟩
/-- Package soliton as it was written keeps its contracts. -/
theorem sol_ok : SolOk DAt where
  table := fun l w _ => table_any l w
  degree := fun v l x w _ hx h => degree_any v _ x w h (tab_top l).1 (by have := (tab_top l).2; omega) hx
  draw := fun v d l F s w _ hs h ha hd => draw_deg draw_ok v d _ F s w hs h (tab_top l).1 (by have := (tab_top l).2; omega) ha hd
end Go.Proofs.YtbabecjphmmngaaGreat
namespace Go.Proofs.YtbabecjphmmngaaGreat
open Go.RowKit

theorem OwnZ.low {base base' : Nat} {w : World} {v : Value} {l : List Int} (h : OwnZ base' w v l) (hb : base ≤ base') : OwnZ base w v l := by
  obtain ⟨h0, h | ⟨g, c, C, h1, h2, h3⟩⟩ := h
  · exact ⟨h0, .inl h⟩
  · exact ⟨h0, .inr ⟨g, c, C, h1, Nat.le_trans hb h2, h3⟩⟩
/-- Ints lie in no block of a Draw. -/
theorem DAt.away {w : World} {d v : Value} {F : Nat → Prop} {s : Nat} {l : List Int} (h : DAt w d F s) (hz : Zs w v l) : AwayZ F v := fun a m c hv hm hf => by
  obtain ⟨g, rfl, hb, rfl⟩ := h
  obtain ⟨_, oa, c', he, _, _, _, h5⟩ := hz
  rw [he] at hv
  obtain ⟨rfl, rfl, rfl⟩ : oa = some a ∧ l.length = m ∧ c' = c := by simpa using hv
  have h6 := h5 a rfl 0 hm
  have e : (a.add 0).block = g := by rw [add_blk]; exact hf
  unfold World.cell? at h6
  rw [e, show w.heap[g]? = _ from hb] at h6
  by_cases hs : (a.add 0).spot.isSome = true
  · simp [hs] at h6
  · simp only [hs] at h6
    generalize (a.add 0).off = k at h6
    match k with
    | 0 => simp at h6
    | k + 1 => simp at h6
set_option maxHeartbeats 400000 in
theorem may_lt (K H S id : Int) (w : World) :
    Calls Tryz.prog 58 #[par K H S, .int .i64 id] w fun e w' => e = .returned (.bool (decide (MayP K H S ∧ MayI id))) ∧ Gr w w' := by
  have HG0 : Hid (Gr w (w.alloc (.cells #[.int .i64 K, .int .i64 H, .int .i64 S] 23))) := Lib.hid (Gr.alloc (Gr.refl _) _ _)
  by_cases hp : MayP K H S
  · have hd := decide_eq_true hp
    rw [show decide (MayP K H S ∧ MayI id) = decide (0 ≤ id ∧ id ≤ 65535) from by rw [decide_eq_decide]; unfold MayI; simp [hp]]
    clear hp
    go_enter Tryz.func58, Tryz.ntmps58
    go_wp2_with fail
    refine (may_pre K H S _).mono ?_
    rw [hd]
    rintro e w1 ⟨rfl, hg1⟩
    have HG1 := Lib.hid (Gr.trans HG0.out hg1)
    clear hg1
    go_wp2
    all_goals
      go_ret
      refine ⟨?_, HG1.out⟩
      first
        | (rw [show decide (0 ≤ id) = false from decide_eq_false (by omega)]; rfl)
        | (rw [show decide (0 ≤ id ∧ id ≤ 65535) = decide (id ≤ 65535) from by rw [decide_eq_decide]; omega]; rfl)
  · have hd := decide_eq_false hp
    rw [show decide (MayP K H S ∧ MayI id) = false from decide_eq_false fun h => hp h.1]
    clear hp
    go_enter Tryz.func58, Tryz.ntmps58
    go_wp2_with fail
    refine (may_pre K H S _).mono ?_
    rw [hd]
    rintro e w1 ⟨rfl, hg1⟩
    have HG1 := Lib.hid (Gr.trans HG0.out hg1)
    clear hg1
    go_wp2_with fail
    go_ret
    exact ⟨rfl, HG1.out⟩
set_option maxHeartbeats 800000 in
theorem source_lt (seed id : Nat) (w : World) (hi : id ≤ 65535) (hs : seed < 4294967296) :
    Calls Tryz.prog 77 #[.int .u32 (seed : Int), .int .i64 (id : Int)] w fun e w' => ∃ g, e = .returned (.pointer (some ⟨g, 0, none⟩)) ∧ DBlk w' g (nextS (mixS seed id)) ∧ Gr w w' ∧ w.heap.size ≤ g := by
  obtain ⟨mx, hmx, hmx2⟩ : ∃ mx : Nat, mixS seed id = mx ∧ mx < 4294967296 := ⟨_, rfl, mixS_lt hs id⟩
  have hxo : bits BinOp.xor IntKind.u32 (seed : Int) ((id : Int) * 2654435761 % 4294967296) = (mx : Int) := by
    rw [show (id : Int) * 2654435761 % 4294967296 = ((id * 2654435761 % 4294967296 : Nat) : Int) from by omega, u32_xor_nat _ _ hs (Nat.mod_lt _ (by omega)), ← hmx]
    rfl
  rw [hmx]
  clear hmx
  go_enter Tryz.func77, Tryz.ntmps77
  go_wp2_with fail
  refine (new_dev mx _ hmx2).mono ?_
  rintro e w1 ⟨g, rfl, hb, hg1, hle⟩
  have HB := Lib.hid hb
  have HG1 := Lib.hid hg1
  have HL := Lib.hid hle
  clear hb hg1 hle
  go_wp2_with fail
  refine (next_dev g mx _ HB.out).mono ?_
  rintro e w2 ⟨rfl, hb2, hk2⟩
  have HB2 := Lib.hid hb2
  have HG2 : Hid (Gr w w2) := Lib.hid (hk2.gr HG1.out (fun k e => by subst e; exact HL.out))
  clear hb2 hk2
  go_wp2_with fail
  go_ret
  exact ⟨_, rfl, HB2.out, HG2.out, HL.out⟩
set_option maxRecDepth 100000 in
set_option maxHeartbeats 1600000 in
theorem cols_in (K H : Nat) (S : Int) (seed id : Nat) (w : World) (hm : MayP K H S) (hi : id ≤ 65535) (hs : seed < 4294967296) :
    Calls Tryz.prog 59 #[par K H S, .int .u32 (seed : Int), .int .i64 (id : Int)] w fun e w' => ∃ v, e = .returned v ∧ OwnZ w.heap.size w' v (atN (K + H) seed id) ∧ Gr w w' := by
  have hd : decide (MayP K H S ∧ MayI (id : Int)) = true := decide_eq_true ⟨hm, by unfold MayI; omega⟩
  have hm' := hm
  obtain ⟨b1, b2, b3, b4, _, _⟩ := hm'
  obtain ⟨N, hN⟩ : ∃ N, K + H = N := ⟨_, rfl⟩
  have hN20 : N ≤ 20 := by omega
  have HCO : Hid (colsP (K : Int) (H : Int) (S : Int) = N) := Lib.hid (by unfold colsP; rw [if_pos (by assumption)]; omega)
  have P0 : Hid (Par (w.alloc (.cells #[.int .i64 (K : Int), .int .i64 (H : Int), .int .i64 S] 23)) w.heap.size K H S) := Lib.hid (heap_alloc_new _ _)
  have HG0 : Hid (Gr w (w.alloc (.cells #[.int .i64 (K : Int), .int .i64 (H : Int), .int .i64 S] 23))) := Lib.hid (Gr.alloc (Gr.refl _) _ _)
  obtain ⟨s1, hs1⟩ : ∃ s, nextS (mixS seed id) = s := ⟨_, rfl⟩
  have HSB : Hid (s1 < 18446744073709551616) := Lib.hid (by rw [← hs1]; exact nextS_lt _)
  obtain ⟨kk, hkk⟩ : ∃ k, drawV (T.tab N) s1 = k := ⟨_, rfl⟩
  obtain ⟨s2, hs2⟩ : ∃ s, drawS (T.tab N) s1 = s := ⟨_, rfl⟩
  have HAT : Hid (atN (K + H) seed id = C.someZ s2 N kk) := Lib.hid (by unfold atN; rw [hN, hs1, hkk, hs2])
  have HKK : Hid (I64 kk) := Lib.hid (by
    rw [← hkk]
    have h1 := drawV_le (T.tab N) s1
    have h2 := tab_length_le' (N : Int)
    exact ⟨by omega, by omega⟩)
  have HDR : Hid (drawV (T.tab N) s1 = kk ∧ drawS (T.tab N) s1 = s2) := Lib.hid ⟨hkk, hs2⟩
  have HS2B : Hid (s2 < 18446744073709551616) := Lib.hid (by
    rw [← hs2]
    unfold drawS belowS
    have := HSB.out
    split
    · exact this
    · split
      · exact this
      · exact nextS_lt _)
  have HSR : Hid (∀ w : World, Calls Tryz.prog 77 #[.int .u32 (seed : Int), .int .i64 (id : Int)] w fun e w' => ∃ g, e = .returned (.pointer (some ⟨g, 0, none⟩)) ∧ DBlk w' g s1 ∧ Gr w w' ∧ w.heap.size ≤ g) := Lib.hid (fun w => by rw [← hs1]; exact source_lt seed id w hi hs)
  have HNN := Lib.hid hN
  clear hN hm hs1 hkk hs2
  go_enter Tryz.func59, Tryz.ntmps59
  go_wp2_with fail
  generalize w.alloc (.cells #[.int .i64 (K : Int), .int .i64 (H : Int), .int .i64 S] 23) = W0 at *
  generalize hgp : w.heap.size = gp at *
  refine (may_lt K H S id _).mono ?_
  rw [hd]
  rintro e w1 ⟨rfl, hg1⟩
  have P1 := Lib.hid (P0.out.grown hg1)
  have HG1 := Lib.hid (Gr.trans HG0.out hg1)
  clear hg1 P0 HG0
  go_wp2_with fail
  refine (HSR.out _).mono ?_
  rintro e w3 ⟨g, rfl, hb3, hg3, hl3⟩
  have HGB : Hid (w.heap.size ≤ g) := Lib.hid (Nat.le_trans HG1.out.size hl3)
  have D3 : Hid (DAt w3 (.pointer (some ⟨g, 0, none⟩)) (fun k => k = g) s1) := Lib.hid ⟨g, rfl, hb3, rfl⟩
  have HG3 := Lib.hid (Gr.trans HG1.out hg3)
  have P3 := Lib.hid (P1.out.grown hg3)
  have c0 := P3.out.cell0
  have c1 := P3.out.cell1
  have c2 := P3.out.cell2
  clear hb3 hg3 hl3 P1 HG1
  go_wp2_with fail
  refine (cols_pre K H S _).mono ?_
  rw [HCO.out]
  rintro e w4 ⟨rfl, hg4⟩
  have D4 := Lib.hid (draw_ok.keep D3.out (hg4.kp fun _ => False) fun _ _ e => e)
  have HG4 := Lib.hid (Gr.trans HG3.out hg4)
  clear hg4 P3 D3 HG3 c0 c1 c2
  go_wp2_with fail
  refine (sol_ok.table N _ ⟨by omega, by omega⟩).mono ?_
  rintro e w5 ⟨v5, rfl, hz5, hg5⟩
  have D5 := Lib.hid (draw_ok.keep D4.out (hg5.kp fun _ => False) fun _ _ e => e)
  have HG5 := Lib.hid (Gr.trans HG4.out hg5)
  have Z5 := Lib.hid hz5
  clear hg5 hz5 D4 HG4
  go_wp2_with fail
  refine (sol_ok.draw v5 _ N _ s1 _ ⟨by omega, by omega⟩ HSB.out Z5.out (DAt.away D5.out Z5.out) D5.out).mono ?_
  rw [HDR.out.1, HDR.out.2]
  rintro e w6 ⟨rfl, hd6, hk6⟩
  have D6 := Lib.hid hd6
  have HG6 : Hid (Gr w w6) := Lib.hid (hk6.gr HG5.out (fun k e => by subst e; exact HGB.out))
  clear hd6 hk6 D5 HG5 Z5
  go_wp2_with fail
  refine (choose_own s2 _ _ N kk _ ⟨by omega, by omega⟩ HKK.out HS2B.out D6.out).mono ?_
  rintro e w8 ⟨v8, rfl, hz8, _, hk8⟩
  have HG8 : Hid (Gr w w8) := Lib.hid (hk8.gr HG6.out (fun k e => by subst e; exact HGB.out))
  have Z8 : Hid (OwnZ w.heap.size w8 v8 (atN (K + H) seed id)) := Lib.hid (by
    rw [HAT.out]
    exact hz8.low HG6.out.size)
  clear hz8 hk8
  go_wp2_with fail
  go_ret
  exact ⟨_, rfl, by rw [← hgp]; exact Z8.out, HG8.out⟩
set_option maxRecDepth 100000 in
set_option maxHeartbeats 800000 in
theorem cols_ne (K H S : Int) (seed : Nat) (id : Int) (w : World) (hm : ¬ (MayP K H S ∧ MayI id)) :
    Calls Tryz.prog 59 #[par K H S, .int .u32 (seed : Int), .int .i64 id] w fun e w' => e = .returned (.slice none 0 0) ∧ Gr w w' := by
  have HG0 : Hid (Gr w (w.alloc (.cells #[.int .i64 K, .int .i64 H, .int .i64 S] 23))) := Lib.hid (Gr.alloc (Gr.refl _) _ _)
  have hd := decide_eq_false hm
  clear hm
  go_enter Tryz.func59, Tryz.ntmps59
  go_wp2_with fail
  refine (may_lt K H S id _).mono ?_
  rw [hd]
  rintro e w1 ⟨rfl, hg1⟩
  have HG1 := Lib.hid (Gr.trans HG0.out hg1)
  clear hg1
  go_wp2_with fail
  go_ret
  exact ⟨rfl, HG1.out⟩
theorem cols_lt (K H S : Int) (seed : Nat) (id : Int) (w : World) (hs : seed < 4294967296) :
    Calls Tryz.prog 59 #[par K H S, .int .u32 (seed : Int), .int .i64 id] w fun e w' => ∃ v, e = .returned v ∧ OwnZ w.heap.size w' v (atP K H S seed id) ∧ Gr w w' := by
  unfold atP
  by_cases hm : MayP K H S ∧ MayI id
  · rw [if_pos hm]
    obtain ⟨h1, h2⟩ := hm
    obtain ⟨k, hk⟩ : ∃ k : Nat, K = k := ⟨K.toNat, by have := h1.1; omega⟩
    obtain ⟨h, hh⟩ : ∃ h : Nat, H = h := ⟨H.toNat, by have := h1.2.2.1; omega⟩
    obtain ⟨i, hi⟩ : ∃ i : Nat, id = i := ⟨id.toNat, by have := h2.1; omega⟩
    subst hk hh hi
    rw [Int.toNat_natCast, Int.toNat_natCast, Int.toNat_natCast]
    exact cols_in k h S seed i w h1 (by have := h2.2; omega) hs
  · rw [if_neg hm]
    refine (cols_ne K H S seed id w hm).mono ?_
    rintro e w' ⟨rfl, hg⟩
    exact ⟨_, rfl, ⟨(fun x hx => by cases hx), .inl ⟨rfl, rfl⟩⟩, hg⟩
set_option maxRecDepth 100000 in
set_option maxHeartbeats 1600000 in
theorem row_in (K H : Nat) (S : Int) (seed id : Nat) (w : World) (hm : MayP K H S) (hi : id ≤ 65535) (hs : seed < 4294967296) :
    Calls Tryz.prog 31 #[par K H S, .int .u32 (seed : Int), .int .i64 (id : Int)] w fun e w' => ∃ v, e = .returned v ∧ New w w' v (onesL (K + H) (atN (K + H) seed id)) := by
  have hd : decide (MayP K H S ∧ MayI (id : Int)) = true := decide_eq_true ⟨hm, by unfold MayI; omega⟩
  obtain ⟨N, hN⟩ : ∃ N, K + H = N := ⟨_, rfl⟩
  have hm' := hm
  obtain ⟨b1, b2, b3, b4, _, _⟩ := hm'
  have hN20 : N ≤ 20 := by omega
  have HCO : Hid (colsP (K : Int) (H : Int) (S : Int) = N) := Lib.hid (by unfold colsP; rw [if_pos hm]; omega)
  have HAT := Lib.hid fun (W : World) => cols_in K H S seed id W hm hi hs
  have P0 : Hid (Par (w.alloc (.cells #[.int .i64 (K : Int), .int .i64 (H : Int), .int .i64 S] 23)) w.heap.size K H S) := Lib.hid (heap_alloc_new _ _)
  have HG0 : Hid (Gr w (w.alloc (.cells #[.int .i64 (K : Int), .int .i64 (H : Int), .int .i64 S] 23))) := Lib.hid (Gr.alloc (Gr.refl _) _ _)
  have hmk := make22 N N (by omega) (by omega)
  obtain ⟨cur, hcur⟩ : ∃ cur, cur = rowB (List.replicate N 0) := ⟨_, rfl⟩
  rw [← hcur] at hmk
  have HCU := Lib.hid hcur
  rw [hN] at HAT ⊢
  obtain ⟨A, hA⟩ : ∃ A, atN N seed id = A := ⟨_, rfl⟩
  have HAL : Hid (A.length ≤ 64) := Lib.hid (by rw [← hA]; exact someZ_len _ _ _)
  have HAR : Hid (∀ x ∈ A, 0 ≤ x ∧ x < N) := Lib.hid (by rw [← hA]; exact atN_rng N seed id)
  rw [hA] at HAT ⊢
  clear hcur hA hm hN
  go_enter Tryz.func31, Tryz.ntmps31
  go_wp2_with fail
  generalize w.alloc (.cells #[.int .i64 (K : Int), .int .i64 (H : Int), .int .i64 S] 23) = W0 at *
  generalize hgp : w.heap.size = gp at *
  refine (may_lt K H S id _).mono ?_
  rw [hd]
  rintro e w1 ⟨rfl, hg1⟩
  have P1 := Lib.hid (P0.out.grown hg1)
  have HG1 := Lib.hid (Gr.trans HG0.out hg1)
  clear hg1 P0 HG0
  have c0 := P1.out.cell0
  have c1 := P1.out.cell1
  have c2 := P1.out.cell2
  go_wp2_with fail
  refine (cols_pre K H S _).mono ?_
  rw [HCO.out]
  rintro e w4 ⟨rfl, hg4⟩
  have P4 := Lib.hid (P1.out.grown (Gr.trans hg4 (Gr.alloc (Gr.refl w4) cur 5)))
  have HG4 := Lib.hid (Gr.trans HG1.out hg4)
  clear hg4 P1 HG1 c0 c1 c2
  have B4 : Hid (Blk (w4.alloc (.cells cur 5)) w4.heap.size (onesL N [])) := Lib.hid (by rw [onesL_nil, HCU.out]; exact heap_alloc_new _ _)
  have HG5 : Hid (Gr w (w4.alloc (.cells cur 5))) := Lib.hid (Gr.alloc HG4.out _ _)
  have HGB : Hid (w.heap.size ≤ w4.heap.size) := Lib.hid HG4.out.size
  have c0 := P4.out.cell0
  have c1 := P4.out.cell1
  have c2 := P4.out.cell2
  go_wp2_with fail
  clear c0 c1 c2
  generalize w4.alloc (.cells cur 5) = W5 at *
  generalize w4.heap.size = gx at *
  refine (HAT.out W5).mono ?_
  rintro e w6 ⟨v6, rfl, ho6, hg6⟩
  have hz6 := ho6.zs
  clear ho6
  obtain ⟨m, hm⟩ : ∃ m, A.length = m := ⟨_, rfl⟩
  obtain ⟨hzi, oa, ca, rfl, z2, z3, z4, z5⟩ := hz6
  rw [hm] at z2 z5 ⊢
  have HZ5 := Lib.hid z5
  have HMM := Lib.hid hm
  have B6 := Lib.hid (B4.out.grown hg6)
  have HG6 := Lib.hid (Gr.trans HG5.out hg6)
  have hm64 : m ≤ 64 := by rw [← hm]; exact HAL.out
  clear hg6 hzi z5 hm B4 HG5 HG4
  go_wp2_with fail
  have HZC : Hid (∀ a, oa = some a → ∀ i, i < m → w6.cell? (a.add i) = some (.int .i64 (A.getD i 0))) := Lib.hid HZ5.out
  have HGX : Hid (w.heap.size ≤ gx) := Lib.hid HGB.out
  go_loopw [22] (fun i wr => ∃ t : Nat, t ≤ m ∧ i = .int .i64 t ∧ Blk wr gx (onesL N (A.take t)) ∧ Gr w wr ∧ ∀ a, oa = some a → ∀ i, i < m → wr.cell? (a.add i) = some (.int .i64 (A.getD i 0))) (fun i _ => m - (intOf i).toNat)
  case atStart => exact ⟨0, by omega, rfl, by rw [List.take_zero]; exact B6.out, HG6.out, HZC.out⟩
  case round =>
    clear B6 HG6 HZC
    obtain ⟨wo, hwo⟩ : ∃ x, x = wr := ⟨_, rfl⟩
    subst hwo
    obtain ⟨t, ht, rfl, hb, hg, hc⟩ := hrel
    by_cases hlt : t < m
    · obtain ⟨ad, rfl⟩ : ∃ a, oa = some a := by
        cases oa with
        | some a => exact ⟨a, rfl⟩
        | none => have := z4 rfl; omega
      have q1 := hc ad rfl t hlt
      have hmem : A.getD t 0 ∈ A := by
        have := HMM.out
        rw [List.getD_eq_getElem?_getD, List.getElem?_eq_getElem (by omega)]
        exact List.getElem_mem _
      have hrg := HAR.out _ hmem
      obtain ⟨q, hq⟩ : ∃ q : Nat, A.getD t 0 = q := ⟨(A.getD t 0).toNat, by omega⟩
      have hqN : q < N := by omega
      have hnx := onesL_next (L := A.take t) hqN
      have htk : A.take (t + 1) = A.take t ++ [(q : Int)] := by
        have := HMM.out
        rw [List.take_add_one, List.getElem?_eq_getElem (by omega), ← hq, List.getD_eq_getElem?_getD, List.getElem?_eq_getElem (by omega)]
        rfl
      have q8 := Blk.cell hb q (by rw [onesL_length]; exact hqN)
      have q9 := frozen_of_row wo gx q _ _ hb
      have HB' : Hid (Blk (wo.setCell ⟨gx, q, none⟩ (.int .u8 1)) gx (onesL N (A.take (t + 1)))) := Lib.hid (by
        unfold Blk
        rw [heap_setCell_same _ _ _ _ _ _ hb, rowB_set, hnx, htk])
      have HG' : Hid (Gr w (wo.setCell ⟨gx, q, none⟩ (.int .u8 1))) := Lib.hid (Gr.setCell hg HGX.out _)
      have HC' : Hid (∀ a, some ad = some a → ∀ i, i < m → (wo.setCell ⟨gx, q, none⟩ (.int .u8 1)).cell? (a.add i) = some (.int .i64 (A.getD i 0))) := Lib.hid (fun a ha i hi => by
        rw [World.cell?_setCell_other]
        · exact hc a ha i hi
        · intro e
          have h1 := hc a ha i hi
          rw [← e, q8] at h1
          simp at h1)
      rw [hq] at q1
      clear hb hg hc hmem hrg hnx htk hq
      generalize (onesL N (A.take t)).getD q 0 = old at *
      go_wp2_with fail
      exact ⟨⟨t + 1, by omega, by go_num, HB'.out, HG'.out, HC'.out⟩, by simp [intOf]; omega⟩
    · obtain rfl : t = m := by omega
      have hall : A.take t = A := List.take_of_length_le (by have := HMM.out; omega)
      rw [hall] at hb
      have HB' : Hid (New w wo (.slice (some ⟨gx, 0, none⟩) N N) (onesL N A)) := Lib.hid ⟨hg, onesL_byt N A, .inr ⟨gx, N, _, by rw [onesL_length], HGX.out, hb, by rw [onesL_length]; omega, by omega, fun i hi => rowB_get _ i hi⟩⟩
      clear hb hg hc hall
      go_wp2_with fail
      go_ret
      exact ⟨_, rfl, HB'.out⟩
set_option maxRecDepth 100000 in
set_option maxHeartbeats 800000 in
theorem row_ne (K H S : Int) (seed : Nat) (id : Int) (w : World) (hm : ¬ (MayP K H S ∧ MayI id)) :
    Calls Tryz.prog 31 #[par K H S, .int .u32 (seed : Int), .int .i64 id] w fun e w' => e = .returned (.slice none 0 0) ∧ Gr w w' := by
  have HG0 : Hid (Gr w (w.alloc (.cells #[.int .i64 K, .int .i64 H, .int .i64 S] 23))) := Lib.hid (Gr.alloc (Gr.refl _) _ _)
  have hd := decide_eq_false hm
  clear hm
  go_enter Tryz.func31, Tryz.ntmps31
  go_wp2_with fail
  refine (may_lt K H S id _).mono ?_
  rw [hd]
  rintro e w1 ⟨rfl, hg1⟩
  have HG1 := Lib.hid (Gr.trans HG0.out hg1)
  clear hg1
  go_wp2_with fail
  go_ret
  exact ⟨rfl, HG1.out⟩
theorem row_lt (K H S : Int) (seed : Nat) (id : Int) (w : World) (hs : seed < 4294967296) :
    Calls Tryz.prog 31 #[par K H S, .int .u32 (seed : Int), .int .i64 id] w fun e w' => ∃ v, e = .returned v ∧ New w w' v (rowP K H S seed id) := by
  unfold rowP
  by_cases hm : MayP K H S ∧ MayI id
  · rw [if_pos hm]
    obtain ⟨h1, h2⟩ := hm
    obtain ⟨k, hk⟩ : ∃ k : Nat, K = k := ⟨K.toNat, by have := h1.1; omega⟩
    obtain ⟨h, hh⟩ : ∃ h : Nat, H = h := ⟨H.toNat, by have := h1.2.2.1; omega⟩
    obtain ⟨i, hi⟩ : ∃ i : Nat, id = i := ⟨id.toNat, by have := h2.1; omega⟩
    subst hk hh hi
    rw [Int.toNat_natCast, Int.toNat_natCast, Int.toNat_natCast]
    exact row_in k h S seed i w h1 (by have := h2.2; omega) hs
  · rw [if_neg hm]
    refine (row_ne K H S seed id w hm).mono ?_
    rintro e w' ⟨rfl, hg⟩
    exact ⟨_, rfl, hg, by simp, .inl ⟨rfl, none, 0, rfl, fun _ => rfl, by omega⟩⟩
/-- Package lt as it was written keeps its contracts. -/
theorem lt_ok : LtOk where
  cols := fun K H S seed id w hs _ => cols_lt K H S seed id w hs
  row := fun K H S seed id w hs _ => row_lt K H S seed id w hs
end Go.Proofs.YtbabecjphmmngaaGreat
