/-
  Texts laid behind one another: Vd Pc Bc Ke Kc Kd Kf Kg Kh.
-/
import Derived.Test.YtjkfiimlaigdhaaDoorMge
import Derived.Test.YtjkfiimlaigdhaaDoorMgh
import Derived.Lib.SliceRun
import Derived.Test.YtjkfiimlaigdhaaDoorMgf
import Derived.Lib.Bytes
import Derived.Laws.IdiomCopy
import Derived.Laws.CopyOwn
import Derived.Test.YtjkfiimlaigdhaaDoorMgb
import Derived.Lib.LaidTab
import Derived.Test.YtjkfiimlaigdhaaDoorRows
import Derived.MakeChecks
import Derived.Test.YtjkfiimlaigdhaaDoorMgi
namespace Go.Proofs.YtjkfiimlaigdhaaDoor
open Go.RowKit

/-- Block g begins with the bytes L, and may be written. -/
def Wb (w : World) (g : Nat) (L : List Int) : Prop := ∃ cur, w.heap[g]? = some (.cells cur 5 (0, 0)) ∧ L.length ≤ cur.size ∧ ∀ i, i < L.length → cur[i]? = some (.int .u8 (L.getD i 0))
theorem Wb.cell {w : World} {g : Nat} {L : List Int} (h : Wb w g L) (i : Nat) (hi : i < L.length) : w.cell? ⟨g, i, none⟩ = some (.int .u8 (L.getD i 0)) := by
  obtain ⟨cur, h1, _, h2⟩ := h
  rw [cell_of_row w g i _ _ _ h1, h2 i hi]
theorem Wb.frozen {w : World} {g : Nat} {L : List Int} (h : Wb w g L) (i : Nat) : w.frozen? ⟨g, i, none⟩ = false := by
  obtain ⟨cur, h1, _⟩ := h
  exact frozen_of_row w g i _ _ h1
theorem Wb.set {w : World} {g : Nat} {L : List Int} (h : Wb w g L) (i : Nat) (x : Int) : Wb (w.setCell ⟨g, i, none⟩ (.int .u8 x)) g (L.set i x) := by
  obtain ⟨cur, h1, h2, h3⟩ := h
  refine ⟨cur.setIfInBounds i (.int .u8 x), heap_setCell_same _ _ _ _ _ _ h1, by simpa using h2, fun j hj => ?_⟩
  rw [List.length_set] at hj
  by_cases e : i = j
  · subst e
    rw [Array.getElem?_setIfInBounds_self_of_lt (by omega), List.getD_eq_getElem?_getD, List.getElem?_set_self hj]
    rfl
  · rw [Array.getElem?_setIfInBounds_ne e, h3 j hj, List.getD_eq_getElem?_getD, List.getD_eq_getElem?_getD, List.getElem?_set_ne e]
theorem Wb.bs {w : World} {g c : Nat} {L : List Int} (h : Wb w g L) (hb : ∀ x ∈ L, Byt x) (hc : L.length ≤ c) (hm : c ≤ 9223372036854775807) : Bs w (.slice (some ⟨g, 0, none⟩) L.length c) L :=
  ⟨hb, some ⟨g, 0, none⟩, c, rfl, hc, hm, (fun e => by cases e), fun a ha i hi => by
    cases ha
    rw [Addr.add_mid, Nat.zero_add]
    exact h.cell i hi⟩
theorem Wb.of_new {w w' : World} {v : Value} {l : List Int} (h : New w w' v l) (hl : 0 < l.length) : ∃ g c, v = .slice (some ⟨g, 0, none⟩) l.length c ∧ w.heap.size ≤ g ∧ l.length ≤ c ∧ c ≤ 9223372036854775807 ∧ Wb w' g l := by
  obtain ⟨_, _, h | h⟩ := h
  · obtain ⟨rfl, _⟩ := h
    simp at hl
  · obtain ⟨g, c, cur, rfl, h0, h1, h2, h3, h4⟩ := h
    refine ⟨g, c, rfl, h0, h2, h3, cur, h1, ?_, h4⟩
    have := h4 (l.length - 1) (by omega)
    have := (Array.getElem?_eq_some_iff.1 this).1
    omega
end Go.Proofs.YtjkfiimlaigdhaaDoor
namespace Go.Proofs.YtjkfiimlaigdhaaDoor
open Go.RowKit

theorem upTo_pre (m n : Int) (w : World) :
    Calls Tryd.prog 39 #[.int .i64 m, .int .i64 n] w fun e w' => e = .returned (.bool (decide (1 ≤ n ∧ n ≤ m))) ∧ w = w' := by
  by_cases h : 1 ≤ n
  · rw [show decide (1 ≤ n ∧ n ≤ m) = decide (n ≤ m) from by rw [decide_eq_decide]; omega]
    go_enter Tryd.func39, Tryd.ntmps39
    go_wp2
    go_ret
    exact ⟨rfl, rfl⟩
  · rw [decide_eq_false (by omega : ¬ (1 ≤ n ∧ n ≤ m))]
    go_enter Tryd.func39, Tryd.ntmps39
    go_wp2
    go_ret
    exact ⟨rfl, rfl⟩
set_option maxHeartbeats 800000 in
theorem may_pre (K H S : Int) (w : World) :
    Calls Tryd.prog 28 #[par K H S] w fun e w' => e = .returned (.bool (decide (MayP K H S))) ∧ Gr w w' := by
  have hd : decide (MayP K H S) = (decide (1 ≤ K ∧ K ≤ 16) && (decide (1 ≤ H ∧ H ≤ 4) && decide (1 ≤ S ∧ S ≤ 24))) := by
    rw [← Bool.decide_and, ← Bool.decide_and, decide_eq_decide]
    unfold MayP
    omega
  rw [hd]
  have b1 : ∀ x : Int, ∃ b : Bool, decide (1 ≤ x ∧ x ≤ 16) = b := fun x => ⟨_, rfl⟩
  obtain ⟨p, hp⟩ := b1 K
  obtain ⟨q, hq⟩ : ∃ b : Bool, decide (1 ≤ H ∧ H ≤ 4) = b := ⟨_, rfl⟩
  obtain ⟨r, hr⟩ : ∃ b : Bool, decide (1 ≤ S ∧ S ≤ 24) = b := ⟨_, rfl⟩
  have HP := Lib.hid hp
  have HQ := Lib.hid hq
  have HR := Lib.hid hr
  rw [hp, hq, hr]
  clear hp hq hr hd b1
  have P0 : Hid (Par (w.alloc (.cells #[.int .i64 K, .int .i64 H, .int .i64 S] 23)) w.heap.size K H S) := Lib.hid (heap_alloc_new _ _)
  have HG0 : Hid (Gr w (w.alloc (.cells #[.int .i64 K, .int .i64 H, .int .i64 S] 23))) := Lib.hid (Gr.alloc (Gr.refl _) _ _)
  go_enter Tryd.func28, Tryd.ntmps28
  cases p with
  | false =>
    go_wp2_with fail
    refine (upTo_pre 16 K _).mono ?_
    rw [HP.out]
    rintro e w1 ⟨rfl, rfl⟩
    go_wp2_with fail
    go_ret
    exact ⟨rfl, HG0.out⟩
  | true =>
    have c1 := P0.out.cell1
    have c2 := P0.out.cell2
    cases q with
    | false =>
      go_wp2_with fail
      refine (upTo_pre 16 K _).mono ?_
      rw [HP.out]
      rintro e w1 ⟨rfl, rfl⟩
      go_wp2_with fail
      refine (upTo_pre 4 H _).mono ?_
      rw [HQ.out]
      rintro e w1 ⟨rfl, rfl⟩
      go_wp2_with fail
      go_ret
      exact ⟨rfl, HG0.out⟩
    | true =>
      go_wp2_with fail
      refine (upTo_pre 16 K _).mono ?_
      rw [HP.out]
      rintro e w1 ⟨rfl, rfl⟩
      go_wp2_with fail
      refine (upTo_pre 4 H _).mono ?_
      rw [HQ.out]
      rintro e w1 ⟨rfl, rfl⟩
      go_wp2_with fail
      refine (upTo_pre 24 S _).mono ?_
      rw [HR.out]
      rintro e w1 ⟨rfl, rfl⟩
      go_wp2_with fail
      go_ret
      exact ⟨by simp, HG0.out⟩
end Go.Proofs.YtjkfiimlaigdhaaDoor
namespace Go.Proofs.YtjkfiimlaigdhaaDoor
open Go.RowKit

/-- A block's cells that are nil rows. -/
def nils (n : Nat) : Array Value := (List.replicate n (Value.slice none 0 0)).toArray
theorem nils_made (n : Nat) : madeCells #[.slice none 0 0] n = nils n := by
  apply Array.ext'
  rw [toList_madeCells_one]
  simp [nils]
theorem make24 (l c : Nat) (h : l ≤ c) (hc : c ≤ 1000000) (w : World) :
    (Instr.makeSlice 43 (.int .i64 (l : Int)) (.int .i64 (c : Int))).run Tryd.prog w = .ok (.slice (some ⟨w.heap.size, 0, none⟩) l c) (w.alloc (.cells (nils c) 25)) := by
  obtain ⟨i, hi, hzz⟩ := Option.map_eq_some_iff.1 info22
  simp only [Prod.mk.injEq] at hzz
  obtain ⟨hz, hs, hb⟩ := hzz
  have hr := run_make (P := Tryd.prog) w 43 25 i _ Tryd.underlying43 hi hz .i64 .i64 l c (by omega) (by omega) (by rw [hb]; omega) (by omega)
  rw [Int.toNat_natCast, Int.toNat_natCast, hs, Nat.mul_one] at hr
  rw [hr, ← nils_made]
  rfl
set_option maxHeartbeats 400000 in
theorem clone_any (v : Value) (l : List Int) (w : World) (h : Bs w v l) (hl : l.length ≤ 1000000) :
    Calls Tryd.prog 41 #[v] w fun e w' => ∃ v', e = .returned v' ∧ w'.ownsRow w.heap.size 5 1 v' l.length (l.map (Value.int .u8)) ∧ Gr w w' := by
  have HS := Lib.hid h
  obtain ⟨_, oa, c, rfl, h1, h2, h3, _⟩ := h
  obtain ⟨n, hn⟩ : ∃ n, l.length = n := ⟨_, rfl⟩
  rw [hn] at HS h1 hl ⊢
  have HN := Lib.hid hn
  clear hn
  have hnil : ∀ (W : World) (x : Option Addr) (p q : Nat), (binOp .eql 25 (.slice x p q) (.slice none 0 0)).run Tryd.prog W = .ok (.bool x.isNone) W := fun W x p q => Lib.run_eql_slice_nil W _ _ x p q 0 0 Tryd.underlying25
  cases oa with
  | none =>
    obtain rfl : c = 0 := h3 rfl
    obtain rfl : n = 0 := by omega
    obtain rfl : l = [] := List.eq_nil_of_length_eq_zero HN.out
    clear HS h3
    go_enter Tryd.func41, Tryd.ntmps41
    go_wp2
    go_ret
    exact ⟨_, rfl, World.ownsRow_nil _ _ _ _, Gr.refl _⟩
  | some a =>
    clear h3
    have hown : Hid ((w.alloc (.cells #[] 5)).ownsRow w.heap.size 5 1 (.slice (some ⟨w.heap.size, 0, none⟩) 0 0) 0 (([] : List Int).map (Value.int .u8))) := Lib.hid ⟨rfl, .inr ⟨w.heap.size, 0, #[], rfl, Nat.le_refl _, heap_alloc_new _ _, Nat.le_refl _, by unfold maxLen; omega, rfl, rfl⟩⟩
    have hg : Hid (Gr w (w.alloc (.cells #[] 5))) := Lib.hid (Gr.alloc (Gr.refl _) _ _)
    go_enter Tryd.func41, Tryd.ntmps41
    go_wp2_with (first
      | (at_builtin; refine wpList_append_bytes rfl _ _ rfl w.heap.size _ 0 [] rfl (by exact hown.out) (some a) n c l rfl (Bs.grown HS.out hg.out) (by omega) (by exact hg.out.size) ?_; intro v2 w2 hown2 hgrow2; rw [Nat.zero_add, List.nil_append] at hown2; obtain ⟨o2, c2, rfl⟩ := ownsRow_form hown2; have H2 := Lib.hid hown2; have G2 := Lib.hid (Gr.append hg.out hgrow2 (ownsRow_base hown.out)); clear hown2 hgrow2))
    go_ret
    exact ⟨_, rfl, H2.out, G2.out⟩
theorem clone_new (v : Value) (l : List Int) (w : World) (h : Bs w v l) (hl : l.length ≤ 1000000) :
    Calls Tryd.prog 41 #[v] w fun e w' => ∃ v', e = .returned v' ∧ New w w' v' l := by
  have hb := h.1
  refine (clone_any v l w h hl).mono ?_
  rintro e w' ⟨v', rfl, h1, h2⟩
  exact ⟨v', rfl, New.of_row h2 hb h1⟩
set_option maxHeartbeats 400000 in
theorem clone_nil (w : World) :
    Calls Tryd.prog 41 #[.slice none 0 0] w fun e w' => e = .returned (.slice none 0 0) ∧ w = w' := by
  have hnil : ∀ (W : World) (x : Option Addr) (p q : Nat), (binOp .eql 25 (.slice x p q) (.slice none 0 0)).run Tryd.prog W = .ok (.bool x.isNone) W := fun W x p q => Lib.run_eql_slice_nil W _ _ x p q 0 0 Tryd.underlying25
  go_enter Tryd.func41, Tryd.ntmps41
  go_wp2
  go_ret
  exact ⟨rfl, rfl⟩
end Go.Proofs.YtjkfiimlaigdhaaDoor
namespace Go.Proofs.YtjkfiimlaigdhaaDoor
open Go.RowKit

namespace Cell
def lay1 : List Int := [87, 115, 1] ++ List.replicate 61 0
def lay2 (k : Int) : List Int := [87, 115, 1, k] ++ List.replicate 60 0
def lay3 (k : Int) (body : List Int) : List Int := pre k body ++ List.replicate 5 0
def putS (L : List Int) (s : Nat) : Nat → List Int
  | 0 => L
  | i + 1 => (putS L s i).set (59 + i) ((s / 2 ^ (8 * i) % 256 : Nat) : Int)
theorem putS_length (L : List Int) (s i : Nat) : (putS L s i).length = L.length := by
  induction i with
  | zero => rfl
  | succ i ih => exact (List.length_set ..).trans ih
theorem lay1_it : (((List.replicate 64 (0 : Int)).set 0 87).set 1 115).set 2 1 = lay1 := rfl
theorem lay2_it (k : Int) : lay1.set 3 k = lay2 k := rfl
theorem lay3_it (k : Int) (body : List Int) (h : body.length ≤ 55) : splice ((lay2 k).map (Value.int .u8)) 4 (body.map (Value.int .u8)) = (lay3 k body).map (Value.int .u8) := by
  have e1 : ((lay2 k).map (Value.int .u8)).take 4 = [87, 115, 1, k].map (Value.int .u8) := rfl
  have e2 : ((lay2 k).map (Value.int .u8)).drop (4 + body.length) = (List.replicate (55 - body.length) (0 : Int) ++ List.replicate 5 0).map (Value.int .u8) := by
    rw [← List.map_drop]
    congr 1
    unfold lay2
    rw [← List.drop_drop, List.drop_left' (by rfl), List.drop_replicate, List.replicate_append_replicate]
    congr 1
    omega
  unfold splice
  rw [e1, List.length_map, e2]
  unfold lay3 pre pad
  simp only [List.map_append, List.append_assoc]
theorem lay3_length {k : Int} {body : List Int} (h : body.length ≤ 55) : (lay3 k body).length = 64 := by
  unfold lay3
  rw [List.length_append, pre_length h, List.length_replicate]
theorem lay4_it {k : Int} {body : List Int} {s : Nat} (h : body.length ≤ 55) : (putS (lay3 k body) s 4).set 63 165 = pre k body ++ Crc.low4 s ++ [165] := by
  have e : ∀ (Y : List Int) (i : Nat) (v : Int), (pre k body ++ Y).set (59 + i) v = pre k body ++ Y.set i v := fun Y i v => by
    rw [List.set_append_right _ _ (by rw [pre_length h]; omega), pre_length h, Nat.add_sub_cancel_left]
  have e4 : ∀ Y v, (pre k body ++ Y).set 63 v = pre k body ++ Y.set 4 v := fun Y v => e Y 4 v
  unfold lay3
  simp only [putS]
  rw [e, e, e, e, e4, List.append_assoc]
  congr 1
  simp [Crc.low4, List.replicate_succ]
theorem take_lay3 {k : Int} {body : List Int} (h : body.length ≤ 55) : (lay3 k body).take 59 = pre k body := by
  unfold lay3
  exact List.take_left' (pre_length h)
theorem txt_inj {x y : List Int} (hx : ∀ b ∈ x, Byt b) (hy : ∀ b ∈ y, Byt b) (h1 : Lib.bytesOf x = Lib.bytesOf y) : x = y := by
  unfold Lib.bytesOf at h1
  have back : ∀ l : List Int, (∀ b ∈ l, Byt b) → (l.map fun n => UInt8.ofNat n.toNat).map (fun u => (u.toNat : Int)) = l := fun l hl => by
    rw [List.map_map]
    refine (List.map_congr_left fun z hz => ?_).trans (List.map_id l)
    have := hl z hz
    unfold Byt at this
    show (((UInt8.ofNat z.toNat).toNat : Nat) : Int) = z
    rw [UInt8.toNat_ofNat']
    omega
  rw [← back x hx, ← back y hy, h1]
end Cell
theorem Blk.put5 {w : World} {g : Nat} {L : List Int} (h : Blk w g L) (i : Nat) (x : Int) : Blk (w.setCell ⟨g, i, none⟩ (.int .u8 x)) g (L.set i x) := by
  unfold Blk at *
  rw [heap_setCell_same _ _ _ _ _ _ h, rowB_set]
theorem Blk.frz5 {w : World} {g : Nat} {L : List Int} (h : Blk w g L) (i : Nat) : w.frozen? ⟨g, i, none⟩ = false := frozen_of_row w g i _ _ h
theorem New.of_blk5 {w w' : World} {g n : Nat} {l : List Int} (hg : Gr w w') (hb : ∀ x ∈ l, Byt x) (hs : w.heap.size ≤ g) (hk : Blk w' g l) (hl : l.length = n) (hn : n ≤ 1000000) : New w w' (.slice (some ⟨g, 0, none⟩) n n) l := by
  subst hl
  exact ⟨hg, hb, Or.inr ⟨g, l.length, rowB l, rfl, hs, hk, Nat.le_refl _, by omega, fun i hi => rowB_get l i hi⟩⟩
/-- Bytes as a text: whatever slice they are. -/
theorem conv5 {w : World} {v : Value} {l : List Int} (h : Bs w v l) : (convert 25 9 v).run Tryd.prog w = .ok (.string (strOfNums l)) w := by
  by_cases h0 : l.length = 0
  · obtain rfl := List.eq_nil_of_length_eq_zero h0
    obtain ⟨o, c, rfl⟩ := h.form5
    rw [List.length_nil, run_convert_bytes_string w 25 9 5 _ 0 c Tryd.underlying25 Tryd.underlying5 Tryd.underlying9]
    cases o <;> simp [Conv.bytesToString, loadCells]
    all_goals rfl
  · obtain ⟨ad, c, rfl, h2, h3, hc⟩ := Bs.at h (by omega)
    obtain ⟨ab, ao, asp⟩ := ad
    obtain rfl : asp = none := by
      have h1 := hc 0 (by omega)
      rw [show (Addr.mk ab ao asp).add 0 = ⟨ab, ao, asp⟩ from by simp [Addr.add]] at h1
      simpa using World.cell?_spot h1
    exact run_convert_bytes_arg (P := Tryd.prog) w 25 5 Tryd.underlying25 Tryd.underlying5 ab ao l.length c l rfl (fun i hi => by
      have := hc i hi
      rwa [Addr.add_mid] at this) 9 Tryd.underlying9
set_option maxHeartbeats 400000 in
theorem equal_any (v1 v2 : Value) (x y : List Int) (w : World) (h1 : Bs w v1 x) (h2 : Bs w v2 y) :
    Calls Tryd.prog 35 #[v1, v2] w fun e w' => e = .returned (.bool (x == y)) ∧ w' = w := by
  have q1 := conv5 h1
  have q2 := conv5 h2
  have hE : Hid (((strOfNums x).toList == (strOfNums y).toList) = (x == y)) := Lib.hid (by
    rw [Lib.strOfNums_toList, Lib.strOfNums_toList]
    by_cases e : x = y
    · rw [e, beq_self_eq_true, beq_self_eq_true]
    · rw [beq_eq_false_iff_ne.2 e]
      exact beq_eq_false_iff_ne.2 fun h => e (Cell.txt_inj h1.1 h2.1 h))
  rw [← hE.out]
  clear h1 h2 hE
  generalize strOfNums x = sx at *
  generalize strOfNums y = sy at *
  go_enter Tryd.func35, Tryd.ntmps35
  go_wp2_with fail
  go_ret
  exact ⟨rfl, rfl⟩
set_option maxRecDepth 100000 in
set_option maxHeartbeats 800000 in
theorem putSum_any (g s : Nat) (L : List Int) (w : World) (h : Blk w g L) (hl : L.length = 64) :
    Calls Tryd.prog 37 #[.slice (some ⟨g, 59, none⟩) 5 5, .int .u32 (s : Int)] w fun e w' => e = .returned (.tuple #[]) ∧ Blk w' g (Cell.putS L s 4) ∧ Kp (fun k => k = g) w w' := by
  have HB := Lib.hid h
  have HL := Lib.hid hl
  clear h hl
  go_enter Tryd.func37, Tryd.ntmps37
  go_wp2_with fail
  go_loopw [5] (fun iv W => ∃ i : Nat, i ≤ 4 ∧ iv = .int .i64 (i : Int) ∧ Blk W g (Cell.putS L s i) ∧ Kp (fun k => k = g) w W) (fun iv _ => 4 - (intOf iv).toNat)
  case atStart => exact ⟨0, by omega, rfl, HB.out, Kp.refl _ _⟩
  case round =>
    obtain ⟨wi, hwi⟩ : ∃ x, x = wr := ⟨_, rfl⟩
    subst hwi
    obtain ⟨i, hi, rfl, hb, hk⟩ := hrel
    have HLL : Hid ((Cell.putS L s i).length = 64) := Lib.hid (by rw [Cell.putS_length, HL.out])
    have HNX : Hid (Cell.putS L s (i + 1) = (Cell.putS L s i).set (59 + i) ((s / 2 ^ (8 * i) % 256 : Nat) : Int)) := Lib.hid rfl
    by_cases hlt : i < 4
    · obtain ⟨e, he⟩ : ∃ e : Nat, 8 * i = e := ⟨_, rfl⟩
      have k0 : (8 : Int) * (i : Int) = (e : Int) := by omega
      have k1 : IntKind.i64.wrap (e : Int) = e := by simp [IntKind.wrap, IntKind.bits, IntKind.signed]; omega
      have k2 : (0 : Int) ≤ (e : Int) := by omega
      have k3 : (0 : Int) ≤ (i : Int) := by omega
      obtain ⟨y, hy⟩ : ∃ y : Nat, s / 2 ^ e = y := ⟨_, rfl⟩
      have hz : (s : Int) / 2 ^ e = (y : Int) := by
        rw [← hy]
        simp
      obtain ⟨y8, hy8, hy9⟩ : ∃ x, y % 256 = x ∧ x < 256 := ⟨_, rfl, by omega⟩
      have k4 : (y : Int) % 256 = (y8 : Int) := by omega
      rw [he, hy, hy8] at HNX
      have q1 := hb.cell (59 + i) (by rw [HLL.out]; omega)
      have q2 := hb.frz5 (59 + i)
      generalize (Cell.putS L s i).getD (59 + i) 0 = old at *
      have HNW : Hid (Blk (wi.setCell ⟨g, 59 + i, none⟩ (.int .u8 (y8 : Int))) g (Cell.putS L s (i + 1)) ∧ Kp (fun k => k = g) w (wi.setCell ⟨g, 59 + i, none⟩ (.int .u8 (y8 : Int)))) := Lib.hid ⟨by
        rw [HNX.out]
        exact hb.put5 _ _, hk.trans (Kp.set _ _ _ _) fun _ e => .inl e⟩
      clear hb hk HNX HLL hy hy8 he HB
      go_wp2_with fail
      exact ⟨⟨i + 1, by omega, by go_num, HNW.out.1, HNW.out.2⟩, by simp [intOf]; omega⟩
    · obtain rfl : i = 4 := by omega
      have HB2 := Lib.hid hb
      have HK2 := Lib.hid hk
      clear hb hk HNX HB
      go_wp2_with fail
      go_end0
      exact ⟨rfl, HB2.out, HK2.out⟩
end Go.Proofs.YtjkfiimlaigdhaaDoor
namespace Go.Proofs.YtjkfiimlaigdhaaDoor
open Go.RowKit

namespace Crc
/-- The developers' table. -/
def tabZ : List Int := [0, 498536548, 997073096, 651767980, 1994146192, 1802195444, 1303535960, 1342533948, 3988292384, 4027552580, 3604390888, 3412177804, 2607071920, 2262029012, 2685067896, 3183342108]
theorem tab_it : ∀ r, r < 16 → tabZ.getD r 0 = ((it 4 r : Nat) : Int) := by decide +kernel
/-- Four steps: what is above the lowest four bits, and what the table says of these. -/
theorem it_half (s : Nat) : it 4 s = s / 16 ^^^ it 4 (s % 16) := by
  have h : s = (s % 16) ^^^ (s / 16 * 2 ^ 4) := by
    rw [← add_xor (s / 16) 4 (Nat.mod_lt _ (by omega))]
    omega
  have h2 : it 4 s = it 4 (s % 16) ^^^ it 4 (s / 16 * 2 ^ 4) := by
    rw [← it_xor, ← h]
  rw [h2, it_shift, Nat.xor_comm]
/-- The table lies in the package-level variable. -/
def Tab (w : World) : Prop := ∀ i, i < 16 → w.cell? ⟨0, i, none⟩ = some (.int .u32 (tabZ.getD i 0))
theorem Tab.gr {w w' : World} (h : Tab w) (hg : Gr w w') : Tab w' := fun i hi => cell_grown hg (h i hi)
end Crc
theorem u32_low4 (c : Nat) (h : c < 4294967296) : bits BinOp.and IntKind.u32 (c : Int) 15 = ((c % 16 : Nat) : Int) := by
  have := u32_and_nat c 15 h (by omega)
  rw [show c &&& 15 = c % 16 from Nat.and_two_pow_sub_one_eq_mod c 4] at this
  exact this
set_option maxRecDepth 100000 in
set_option maxHeartbeats 800000 in
theorem half_any (s : Nat) (w : World) (hs : s < 4294967296) (ht : Crc.Tab w) :
    Calls Tryd.prog 42 #[.int .u32 (s : Int)] w fun e w' => e = .returned (.int .u32 (Crc.it 4 s : Nat)) ∧ w' = w := by
  have e1 := u32_low4 s hs
  obtain ⟨r, hr, hr2⟩ : ∃ r, s % 16 = r ∧ r < 16 := ⟨_, rfl, Nat.mod_lt _ (by omega)⟩
  have q1 := ht r hr2
  rw [Crc.tab_it r hr2] at q1
  have hlt : Crc.it 4 r < 4294967296 := Crc.it_lt (by omega) 4
  have e2 : bits BinOp.xor IntKind.u32 ((s : Int) / 16) ((Crc.it 4 r : Nat) : Int) = ((Crc.it 4 s : Nat) : Int) := by
    have := u32_xor_nat (s / 16) (Crc.it 4 r) (by omega) hlt
    rw [← hr, ← Crc.it_half] at this
    rw [← hr]
    exact this
  rw [hr] at e1
  generalize Crc.it 4 r = t at *
  generalize Crc.it 4 s = u at *
  clear ht hr
  go_enter Tryd.func42, Tryd.ntmps42
  go_wp2_with fail
  go_ret
  exact ⟨rfl, rfl⟩
set_option maxRecDepth 100000 in
set_option maxHeartbeats 800000 in
theorem sumC_any (v : Value) (l : List Int) (w : World) (h : Bs w v l) (hl : l.length ≤ 1000) (ht : Crc.Tab w) :
    Calls Tryd.prog 38 #[v] w fun e w' => e = .returned (.int .u32 (Crc.sum l : Nat)) ∧ Gr w w' := by
  obtain ⟨n, hn⟩ : ∃ n, l.length = n := ⟨_, rfl⟩
  obtain ⟨hb, oa, c, rfl, h1, h2, h3, h4⟩ := h
  have HN := Lib.hid hn
  rw [hn] at hl h1 h4 ⊢
  have HB := Lib.hid hb
  have H4 := Lib.hid h4
  have HT := Lib.hid ht
  clear hb h4 hn ht
  have hs0 : Crc.run 4294967295 (l.take 0) = 4294967295 := rfl
  have H0 := Lib.hid hs0
  clear hs0
  go_enter Tryd.func38, Tryd.ntmps38
  go_wp2_with fail
  go_loopw [3, 8] (fun cv iv W => ∃ i s : Nat, i ≤ n ∧ iv = .int .i64 i ∧ cv = .int .u32 (s : Int) ∧ Crc.run 4294967295 (l.take i) = s ∧ s < 4294967296 ∧ w = W) (fun _ iv _ => n - (intOf iv).toNat)
  case atStart => exact ⟨0, 4294967295, by omega, rfl, rfl, H0.out, by omega, rfl⟩
  case round =>
    obtain ⟨i, s, hi, rfl, rfl, hs, hs2, rfl⟩ := hrel
    by_cases hlt : i < n
    · have hbi := Crc.getD_byt HB.out i
      obtain ⟨b, hb1⟩ : ∃ b : Nat, l.getD i 0 = b := ⟨(l.getD i 0).toNat, by unfold Byt at hbi; omega⟩
      have hb2 : b < 256 := by unfold Byt at hbi; omega
      obtain ⟨ad, rfl⟩ : ∃ a, oa = some a := by
        cases oa with
        | some a => exact ⟨a, rfl⟩
        | none => have := h3 rfl; omega
      have q1 := H4.out ad rfl i hlt
      rw [hb1] at q1
      have hx : bits BinOp.xor IntKind.u32 (s : Int) (b : Int) = ((s ^^^ b : Nat) : Int) := u32_xor_nat s b hs2 (by omega)
      obtain ⟨x0, hx0, hx1⟩ : ∃ x0, s ^^^ b = x0 ∧ x0 < 4294967296 := ⟨_, rfl, Nat.xor_lt_two_pow (n := 32) hs2 (by omega)⟩
      rw [hx0] at hx
      have HNX : Hid (Crc.run 4294967295 (l.take (i + 1)) = Crc.it 4 (Crc.it 4 x0)) := Lib.hid (by rw [Crc.run_take HN.out hlt, hs, hb1, Int.toNat_natCast, hx0]; exact Crc.it_add 4 4 x0)
      clear hs hb1 hx0 hbi
      go_wp2_with fail
      refine (half_any x0 _ hx1 HT.out).mono ?_
      rintro e w' ⟨rfl, rfl⟩
      obtain ⟨x1, hx2, hx3⟩ : ∃ x, Crc.it 4 x0 = x ∧ x < 4294967296 := ⟨_, rfl, Crc.it_lt hx1 4⟩
      rw [hx2] at HNX ⊢
      clear hx2
      go_wp2_with fail
      refine (half_any x1 _ hx3 HT.out).mono ?_
      rintro e w' ⟨rfl, rfl⟩
      obtain ⟨x2, hx4, hx5⟩ : ∃ x, Crc.it 4 x1 = x ∧ x < 4294967296 := ⟨_, rfl, Crc.it_lt hx3 4⟩
      rw [hx4] at HNX ⊢
      clear hx4
      go_wp2_with fail
      exact ⟨⟨i + 1, x2, by omega, by go_num, rfl, HNX.out, hx5, trivial⟩, by simp [intOf]; omega⟩
    · obtain rfl : i = n := by omega
      rw [List.take_of_length_le (by have := HN.out; omega)] at hs
      have e1 := u32_not s hs2
      have HS : Hid (s ^^^ 4294967295 = Crc.sum l) := Lib.hid (by rw [← hs]; rfl)
      clear hs
      go_wp2_with fail
      go_ret
      refine ⟨?_, Gr.refl _⟩
      rw [HS.out]
      rfl
theorem crc_ok {W0 : World} (h : Crc.Tab W0) : CrcOk W0 := ⟨fun v l w hg hb hl => sumC_any v l w hb hl (h.gr hg)⟩
end Go.Proofs.YtjkfiimlaigdhaaDoor
namespace Go.Proofs.YtjkfiimlaigdhaaDoor
open Go.RowKit

abbrev crcLaid : List (String × DataW Unit) := [("wellspring/crc.remainders", Rows.laid_wellspring_crc_remainders)]
theorem tab_at : Tryd.prog.globalNamed "wellspring/crc.remainders" = some 0 := by kernel_rfl
theorem tab_type : (Tryd.prog.globals[(0 : Nat)]?).map (·.type) = some 62 := by kernel_rfl
theorem tab_of_laid {W : World} (h : laidMetH Tryd.prog crcLaid W) : Crc.Tab W := by
  rw [MakeChecks.laidMetH_plain _ _ _ (by kernel_rfl)] at h
  have hT := Lib.tabIs_of_head (zs := Crc.tabZ) (k := .u32) (rest := []) tab_at tab_type Tryd.underlying62 Tryd.underlying24 (by kernel_rfl) (by kernel_rfl) h
  exact fun i hi => hT.cell tab_at i hi
theorem crc_laid {W : World} (h : laidMetH Tryd.prog crcLaid W) : CrcOk W := crc_ok (tab_of_laid h)
end Go.Proofs.YtjkfiimlaigdhaaDoor
namespace Go.Proofs.YtjkfiimlaigdhaaDoor
open Go.RowKit

theorem info5c : (Tryd.prog.info? 5).map (·.size) = some 1 := by kernel_rfl
theorem run_copy_begin (w : World) (g : Nat) (ty : TypeId) (h : Blk w g (List.replicate 64 0)) :
    (Builtin.copy_ #[25, 9] ty #[.slice (some ⟨g, 0, none⟩) 64 64, .string ⟨#[87, 115, 1]⟩]).run Tryd.prog w = .ok (goInt 3) (w.setCells g 0 [.int .u8 87, .int .u8 115, .int .u8 1]) := by
  have hst := run_storeCells_cells (P := Tryd.prog) g 0 [.int .u8 87, .int .u8 115, .int .u8 1] 0 w (fun j hj => by
      rw [h.cell (0 + 0 + j) (by simp at hj ⊢; omega)]
      rfl) (fun j _ => h.frz5 _) (by
      intro v hv
      simp only [List.mem_cons, List.not_mem_nil, or_false] at hv
      rcases hv with rfl | rfl | rfl <;> rfl)
  cases hq : Tryd.prog.info? 5 with
  | none =>
    have := info5c
    rw [hq] at this
    cases this
  | some i =>
    simp [Builtin.copy_, run_underlying Tryd.underlying25, Builtin.lenOf, Builtin.firstCells, sizeOf, typeInfo, hq]
    show ((storeCells ⟨g, 0, none⟩ [.int .u8 87, .int .u8 115, .int .u8 1]).run Tryd.prog w).andThen (fun _ w' => Result.ok (goInt 3) w') = _
    rw [hst]
    rfl
theorem wpList_copy_begin {w : World} {ops : Array Oper} {rest : List Oper} {o : Oper} {a : Act} {Q : Exit → Act → World → Prop} (hgd : o.guard = none) (d x : Operand)
    (ho : o.op = .call { callee := .builtin .copy, args := #[d, x], argTypes := #[25, 9] }) (g : Nat) (hg : Blk w g (List.replicate 64 0)) (hd : a.eval d = .slice (some ⟨g, 0, none⟩) 64 64) (hx : a.eval x = .string ⟨#[87, 115, 1]⟩)
    (h : ∀ w', Blk w' g Cell.lay1 → Kp (fun k => k = g) w w' → wpList Tryd.prog ops Q rest (a.put o.dst (goInt 3)) w') : wpList Tryd.prog ops Q (o :: rest) a w := by
  refine wpList_plain hgd fun K hK => ?_
  have hrun := run_copy_begin w g o.type hg
  unfold Oper.wp
  simp [execOp, ho, resolve, invoke, builtin, hd, hx, hrun, Result.andThen]
  refine hK _ _ (h _ ?_ ?_)
  · rw [← Cell.lay1_it]
    exact ((hg.put5 0 87).put5 1 115).put5 2 1
  · exact ((Kp.set _ _ _ _).trans (Kp.set _ _ _ _) fun _ e => .inl e).trans (Kp.set _ _ _ _) fun _ e => .inl e
theorem body_cells {w : World} {oa : Option Addr} {c n g : Nat} {l : List Int} (hb : Bs w (.slice oa n c) l) (hn : l.length = n) : 0 < (l.map (Value.int .u8)).length → (some ⟨g, 4, none⟩ : Option Addr) = some ⟨g, 4, none⟩ ∧ ∃ ad, oa = some ad ∧ ∀ j v, (l.map (Value.int .u8))[j]? = some v → w.cell? (ad.add j) = some v := fun h => by
  obtain ⟨_, oa', c', he, _, _, h4, h5⟩ := hb
  obtain ⟨rfl, _, _⟩ : oa = oa' ∧ n = l.length ∧ c = c' := by simpa using he
  rw [List.length_map] at h
  cases oa with
  | none => have := h4 rfl; omega
  | some ad =>
    refine ⟨rfl, ad, rfl, fun j u hu => ?_⟩
    have hj := (List.getElem?_eq_some_iff.1 hu).1
    rw [List.length_map] at hj
    rw [h5 ad rfl j (by omega)]
    rw [List.getElem?_map, List.getElem?_eq_getElem (by omega), Option.map_some, Option.some.injEq] at hu
    rw [← hu, List.getD_eq_getElem?_getD, List.getElem?_eq_getElem (by omega)]
    rfl
/-- copy of a body behind the first four bytes. -/
theorem wpList_copy_body {w w0 : World} {ops : Array Oper} {rest : List Oper} {o : Oper} {a : Act} {Q : Exit → Act → World → Prop} (hgd : o.guard = none) (d s : Operand)
    (ho : o.op = .call { callee := .builtin .copy, args := #[d, s], argTypes := #[25, 25] }) (g n c : Nat) (k : Int) (oa : Option Addr) (hg : Blk w g (Cell.lay2 k)) (hd : a.eval d = .slice (some ⟨g, 4, none⟩) 60 60)
    (l : List Int) (hs : a.eval s = .slice oa n c) (hb : Bs w (.slice oa n c) l) (hn : l.length = n) (hp : n ≤ 55) (hg0 : Gr w0 w) (hge : w0.heap.size ≤ g)
    (h : ∀ w', Blk w' g (Cell.lay3 k l) → Gr w0 w' → wpList Tryd.prog ops Q rest (a.put o.dst (goInt n)) w') : wpList Tryd.prog ops Q (o :: rest) a w := by
  refine wpList_copy_splice hgd d s 25 25 ho 5 Tryd.underlying25 info5c (some ⟨g, 4, none⟩) oa 60 60 n c hd hs g 4 ((Cell.lay2 k).map (Value.int .u8)) 5 hg (l.map (Value.int .u8)) (by rw [List.length_map, hn]; exact (Nat.min_eq_left (by omega)).symm) (body_cells hb hn) (by rw [List.length_map, List.length_map, hn]; show 4 + n ≤ 64; omega) (fun v hv => by obtain ⟨x, _, rfl⟩ := List.mem_map.1 hv; rfl) w0.heap.size w0 hg0.below hge ?_
  intro w5 hw5 hb5
  have hw6 := hw5.out
  rw [Cell.lay3_it k l (by omega)] at hw6
  rw [List.length_map, hn]
  exact h w5 hw6 (Gr.of hb5)
set_option maxRecDepth 100000 in
set_option maxHeartbeats 1600000 in
theorem put_in {W0 : World} (O : CrcOk W0) (k : Int) (v : Value) (body : List Int) (w : World) (hw : Gr W0 w) (hm : Cell.MayC k body) (h : Bs w v body) :
    Calls Tryd.prog 24 #[.int .i64 k, v] w fun e w' => ∃ u, e = .returned u ∧ New w w' u (Cell.cell k body) := by
  obtain ⟨o, c, rfl⟩ := h.form5
  obtain ⟨n, hn⟩ : ∃ n, body.length = n := ⟨_, rfl⟩
  obtain ⟨hk1, hk2, hk3⟩ := hm
  have HN := Lib.hid hn
  rw [hn] at h hk3 ⊢
  have H := Lib.hid h
  have HO := Lib.hid O
  have HW := Lib.hid hw
  have hmd : k % 256 = k := by omega
  have hmk : ∀ w, (Instr.makeSlice 25 (.int .i64 64) (.int .i64 64)).run Tryd.prog w = .ok (.slice (some ⟨w.heap.size, 0, none⟩) 64 64) (w.alloc (.cells (rowB (List.replicate 64 0)) 5)) := fun w => make22 64 64 (by omega) (by omega) w
  have B1 : Hid (Blk (w.alloc (.cells (rowB (List.replicate 64 0)) 5)) w.heap.size (List.replicate 64 0)) := Lib.hid (heap_alloc_new w _)
  have G1 : Hid (Gr w (w.alloc (.cells (rowB (List.replicate 64 0)) 5))) := Lib.hid (Gr.alloc (Gr.refl _) _ _)
  clear h hn O hw
  generalize hZ : rowB (List.replicate 64 0) = Z at *
  have HZ := Lib.hid hZ
  clear hZ
  go_enter Tryd.func24, Tryd.ntmps24
  go_wp2_with (first
    | (refine wpList_copy_begin rfl _ _ rfl w.heap.size B1.out rfl rfl ?_; intro w2 hb2 hk2; have q2 := hb2.cell 3 (by decide); have f2 := hb2.frz5 3; have B2 := Lib.hid hb2; have G2 := Lib.hid (hk2.gr G1.out fun x e => Nat.le_of_eq e.symm); clear hb2 hk2)
    | (refine wpList_copy_body (w0 := w) rfl _ _ rfl w.heap.size n c k o (B2.out.put5 3 k) rfl body rfl (H.out.grown (Gr.setCell G2.out (Nat.le_refl _) _)) HN.out hk3 (Gr.setCell G2.out (Nat.le_refl _) _) (Nat.le_refl _) ?_; intro w4 hb4 hg4; have B4 := Lib.hid hb4; have G4 := Lib.hid hg4; clear hb4 hg4))
  have LL : Hid ((Cell.lay3 k body).length = 64) := Lib.hid (Cell.lay3_length (by rw [HN.out]; exact hk3))
  have HPL : Hid ((Cell.pre k body).length = 59) := Lib.hid (Cell.pre_length (by rw [HN.out]; exact hk3))
  have BP : Hid (Bs w4 (.slice (some ⟨w.heap.size, 0, none⟩) 59 64) (Cell.pre k body)) := Lib.hid (by
    have := B4.out.bs (Cell.pre k body) 64 (by rw [HPL.out, LL.out]; omega) (by rw [HPL.out]; omega) (by omega) (Cell.pre_byt ⟨hk1, hk2⟩ H.out.1) (fun i hi => by
      unfold Cell.lay3
      rw [List.getD_eq_getElem?_getD, List.getElem?_append_left hi, ← List.getD_eq_getElem?_getD])
    rwa [HPL.out] at this)
  obtain ⟨s, hs⟩ : ∃ s, Crc.sum (Cell.pre k body) = s := ⟨_, rfl⟩
  have HS := Lib.hid hs
  clear hs B1 B2 G1 G2 q2 f2 hmk hmd
  go_region_law (first
    | ((try go_simp); go_at_call 38; refine (HO.out.sum _ (Cell.pre k body) _ (Gr.trans HW.out (Gr.drew G4.out)) (BP.out.grown (Gr.drew (Gr.refl _))) (by rw [HPL.out]; omega)).mono ?_; rw [HS.out]; rintro e w5 ⟨rfl, hg5⟩; have B5 := Lib.hid (B4.out.grown (Gr.trans (Gr.drew (Gr.refl _)) hg5)); have G5 := Lib.hid (Gr.trans (Gr.drew G4.out) hg5); clear hg5)
    | ((try go_simp); go_at_call 37; refine (putSum_any w.heap.size s _ _ B5.out LL.out).mono ?_; rintro e w6 ⟨rfl, hb6, hk6⟩; have q6 := hb6.cell 63 (by rw [Cell.putS_length, LL.out]; omega); have f6 := hb6.frz5 63; have B6 := Lib.hid hb6; have G6 := Lib.hid (hk6.gr G5.out fun x e => Nat.le_of_eq e.symm); clear hb6 hk6))
  all_goals
    go_wp2_with fail
    go_ret
    refine ⟨_, rfl, New.of_blk5 (Gr.setCell G6.out (Nat.le_refl _) _) (Cell.cell_byt ⟨hk1, hk2⟩ H.out.1) (Nat.le_refl _) ?_ (Cell.cell_length (by rw [HN.out]; exact hk3)) (by omega)⟩
    have := B6.out.put5 63 165
    rw [Cell.lay4_it (by rw [HN.out]; exact hk3), ← HS.out] at this
    exact this
set_option maxHeartbeats 800000 in
theorem put_ne (k : Int) (v : Value) (body : List Int) (w : World) (hk : I64 k) (hm : ¬ Cell.MayC k body) (hl : body.length ≤ 1000) (h : Bs w v body) :
    Calls Tryd.prog 24 #[.int .i64 k, v] w fun e w' => e = .returned (.slice none 0 0) ∧ Gr w w' := by
  obtain ⟨o, c, rfl⟩ := h.form5
  obtain ⟨n, hn⟩ : ∃ n, body.length = n := ⟨_, rfl⟩
  unfold Cell.MayC at hm
  unfold I64 at hk
  rw [hn] at hm hl ⊢
  clear h hn
  have hu : ¬ ((1 ≤ k ∧ k ≤ 255) ∧ (n : Int) ≤ 55) := fun c => hm ⟨c.1.1, c.1.2, by omega⟩
  go_enter Tryd.func24, Tryd.ntmps24
  go_wp2_with fail
  all_goals
    go_ret
    exact ⟨rfl, Gr.refl _⟩
theorem put_any {W0 : World} (O : CrcOk W0) (k : Int) (v : Value) (body : List Int) (w : World) (hw : Gr W0 w) (hk : I64 k) (hl : body.length ≤ 1000) (h : Bs w v body) :
    Calls Tryd.prog 24 #[.int .i64 k, v] w fun e w' => ∃ u, e = .returned u ∧ New w w' u (Cell.put k body) := by
  by_cases hm : Cell.MayC k body
  · rw [Cell.put_in hm]
    exact put_in O k v body w hw hm h
  · rw [show Cell.put k body = [] from if_neg hm]
    refine (put_ne k v body w hk hm hl h).mono ?_
    rintro e w' ⟨rfl, hg⟩
    exact ⟨_, rfl, New.nil5 w w' hg⟩
set_option maxRecDepth 100000 in
set_option maxHeartbeats 1600000 in
theorem take_in {W0 : World} (O : CrcOk W0) (v : Value) (b : List Int) (w : World) (hw : Gr W0 w) (h : Bs w v b) (hl : b.length = 64) :
    Calls Tryd.prog 23 #[v] w fun e w' => ∃ u, e = .returned (.tuple #[.int .i64 (Cell.takeK b), u, .bool (decide (Cell.Is b))]) ∧ Gr w w' ∧ Bs w' u (Cell.takeX b) := by
  obtain ⟨ad, c, rfl, h2, h3, hc⟩ := Bs.at h (by omega)
  rw [hl] at h h2 hc ⊢
  have q3 := hc 3 (by omega)
  obtain ⟨ab, ao, asp⟩ := ad
  obtain rfl : asp = none := by
    have h0 := hc 0 (by omega)
    rw [show (Addr.mk ab ao asp).add 0 = ⟨ab, ao, asp⟩ from by simp [Addr.add]] at h0
    simpa using World.cell?_spot h0
  rw [Addr.add_mid] at q3
  have hby := Crc.getD_byt h.1 3
  obtain ⟨x3, hx3⟩ : ∃ x, b.getD 3 0 = x := ⟨_, rfl⟩
  have hx3b : Byt x3 := by rw [← hx3]; exact hby
  rw [hx3] at q3
  have HX3 := Lib.hid hx3
  have H := Lib.hid h
  have HL := Lib.hid hl
  have HO := Lib.hid O
  have HW := Lib.hid hw
  have HM : Hid (Bs w (.slice (some ⟨ab, ao + 4, none⟩) 55 (c - 4)) (Cell.bodyOf b)) := Lib.hid (by
    have := Bs.mid5 h 4 55 (by omega)
    rw [if_neg (by omega), Addr.add_mid] at this
    exact this)
  have HBL : Hid ((Cell.bodyOf b).length = 55) := Lib.hid (by unfold Cell.bodyOf; rw [List.length_take, List.length_drop, hl]; omega)
  have u1 : (59 : Int) ≤ (c : Int) := by omega
  have u2 : ¬ c = 4 := by omega
  unfold Byt at hx3b
  have hwx : IntKind.i64.wrap x3 = x3 := by simp [IntKind.wrap, IntKind.bits, IntKind.signed]; omega
  clear h hl hc hby hx3 O hw
  go_enter Tryd.func23, Tryd.ntmps23
  go_wp2_with fail
  refine (put_any HO.out x3 _ (Cell.bodyOf b) _ HW.out ⟨by omega, by omega⟩ (by rw [HBL.out]; omega) HM.out).mono ?_
  rintro e w5 ⟨u5, rfl, hn5⟩
  by_cases hi : Cell.Is b
  · have e0 : Cell.put x3 (Cell.bodyOf b) = b := by rw [← HX3.out]; exact hi.2
    rw [e0] at hn5
    have E1 : Hid (Cell.takeK b = x3) := Lib.hid (by rw [← HX3.out]; exact if_pos hi)
    have E2 : Hid (Cell.takeX b = Cell.bodyOf b) := Lib.hid (if_pos hi)
    have E3 : Hid (decide (Cell.Is b) = true) := Lib.hid (decide_eq_true hi)
    obtain ⟨g5, c5, rfl, hc5, hm5⟩ := New.shape hn5 (by rw [HL.out]; omega)
    rw [HL.out] at hc5 ⊢
    have N5 := Lib.hid hn5
    have v1 : (59 : Int) ≤ (c5 : Int) := by omega
    have HM5 : Hid (Bs w5 (.slice (some ⟨g5, 4, none⟩) 55 55) (Cell.bodyOf b)) := Lib.hid (by
      have hb5 := New.bs hn5
      rw [HL.out] at hb5
      obtain ⟨k1, oa, c', he, k2, k3, k4, k5⟩ := Bs.mid5 hb5 4 55 (by omega)
      obtain ⟨r1, r2, r3⟩ : (if c5 = 4 then some ⟨g5, 0, none⟩ else some ((⟨g5, 0, none⟩ : Addr).add 4)) = oa ∧ 55 = ((b.drop 4).take 55).length ∧ c5 - 4 = c' := by simpa using he
      rw [if_neg (by omega), Addr.add_mid] at r1
      subst r1
      exact ⟨k1, _, 55, by rw [HBL.out], by rw [HBL.out]; omega, by omega, (fun e => by cases e), k5⟩)
    clear hn5 hi e0
    go_wp2_with fail
    refine (equal_any _ _ b b _ (by have := New.bs N5.out; rwa [HL.out] at this) (H.out.grown N5.out.1)).mono ?_
    rw [beq_self_eq_true]
    rintro e w6 ⟨rfl, rfl⟩
    go_wp2_with fail
    go_region
    go_wp2_with fail
    go_ret3
    rw [E1.out, E2.out, E3.out]
    exact ⟨_, rfl, N5.out.1, HM5.out⟩
  · have E1 : Hid (Cell.takeK b = 0) := Lib.hid (if_neg hi)
    have E2 : Hid (Cell.takeX b = []) := Lib.hid (if_neg hi)
    have E3 : Hid (decide (Cell.Is b) = false) := Lib.hid (decide_eq_false hi)
    have e1 : (Cell.put x3 (Cell.bodyOf b) == b) = false := by
      rw [← HX3.out]
      exact beq_eq_false_iff_ne.2 fun h => hi ⟨HL.out, h⟩
    have HE := Lib.hid e1
    obtain ⟨o5, c5, e5⟩ := (New.bs hn5).form5
    obtain ⟨lp, hlp⟩ : ∃ m, (Cell.put x3 (Cell.bodyOf b)).length = m := ⟨_, rfl⟩
    rw [hlp] at e5
    subst e5
    have N5 := Lib.hid hn5
    clear hn5 hlp hi e1
    go_wp2_with fail
    refine (equal_any _ _ _ b _ (New.bs N5.out) (H.out.grown N5.out.1)).mono ?_
    rw [HE.out]
    rintro e w6 ⟨rfl, rfl⟩
    go_wp2_with fail
    go_ret3
    rw [E1.out, E2.out, E3.out]
    exact ⟨_, rfl, N5.out.1, Bs.nil _⟩
set_option maxHeartbeats 400000 in
theorem take_ne (v : Value) (b : List Int) (w : World) (h : Bs w v b) (hl : ¬ b.length = 64) :
    Calls Tryd.prog 23 #[v] w fun e w' => e = .returned (.tuple #[.int .i64 0, .slice none 0 0, .bool false]) ∧ Gr w w' := by
  obtain ⟨o, c, rfl⟩ := h.form5
  obtain ⟨n, hn⟩ : ∃ n, b.length = n := ⟨_, rfl⟩
  rw [hn] at hl ⊢
  clear h hn
  have h1 : ¬ (n : Int) = 64 := by omega
  go_enter Tryd.func23, Tryd.ntmps23
  go_wp2_with fail
  go_ret3
  exact ⟨rfl, Gr.refl _⟩
theorem take_any {W0 : World} (O : CrcOk W0) (v : Value) (b : List Int) (w : World) (hw : Gr W0 w) (h : Bs w v b) :
    Calls Tryd.prog 23 #[v] w fun e w' => ∃ u, e = .returned (.tuple #[.int .i64 (Cell.takeK b), u, .bool (decide (Cell.Is b))]) ∧ Gr w w' ∧ Bs w' u (Cell.takeX b) := by
  by_cases hl : b.length = 64
  · exact take_in O v b w hw h hl
  · have hi : ¬ Cell.Is b := fun h => hl h.1
    rw [show Cell.takeK b = 0 from if_neg hi, show Cell.takeX b = [] from if_neg hi, decide_eq_false hi]
    refine (take_ne v b w h hl).mono ?_
    rintro e w' ⟨rfl, hg⟩
    exact ⟨_, rfl, hg, Bs.nil _⟩
theorem cell_ok {W0 : World} (O : CrcOk W0) : CellOk W0 := ⟨fun k v body w hg hk hl hb => put_any O k v body w hg hk hl hb, fun v b w hg _ hb => take_any O v b w hg hb⟩
theorem cell_laid {W : World} (h : laidMetH Tryd.prog crcLaid W) : CellOk W := cell_ok (crc_laid h)
end Go.Proofs.YtjkfiimlaigdhaaDoor
namespace Go.Proofs.YtjkfiimlaigdhaaDoor
open Go.RowKit

theorem upTo_rec (m n : Int) (w : World) :
    Calls Tryd.prog 27 #[.int .i64 m, .int .i64 n] w fun e w' => e = .returned (.bool (decide (0 ≤ n ∧ n ≤ m))) ∧ w = w' := by
  by_cases h : 0 ≤ n
  · rw [show decide (0 ≤ n ∧ n ≤ m) = decide (n ≤ m) from by rw [decide_eq_decide]; omega]
    go_enter Tryd.func27, Tryd.ntmps27
    go_wp2
    go_ret
    exact ⟨rfl, rfl⟩
  · rw [decide_eq_false (by omega : ¬ (0 ≤ n ∧ n ≤ m))]
    go_enter Tryd.func27, Tryd.ntmps27
    go_wp2
    go_ret
    exact ⟨rfl, rfl⟩
theorem mayR_bools (r : Rcd) (d : List Int) : decide (MayR r d) = (decide (0 ≤ r.o ∧ r.o ≤ 16777215) && (decide (0 ≤ r.b ∧ r.b ≤ 7) && (decide (0 ≤ r.i ∧ r.i ≤ 65535) && (decide (MayP r.K r.H r.S) && decide ((d.length : Int) = r.S))))) := by
  rw [← Bool.decide_and, ← Bool.decide_and, ← Bool.decide_and, ← Bool.decide_and, decide_eq_decide]
  unfold MayR MayI MayP
  omega
set_option maxRecDepth 100000 in
set_option maxHeartbeats 1600000 in
theorem may_rec (r : Rcd) (v : Value) (d : List Int) (w : World) (h : Bs w v d) :
    Calls Tryd.prog 12 #[r.val v] w fun e w' => e = .returned (.bool (decide (MayR r d))) ∧ Gr w w' := by
  obtain ⟨o, c, rfl⟩ := h.form5
  obtain ⟨n, hn⟩ : ∃ n, d.length = n := ⟨_, rfl⟩
  rw [mayR_bools, hn]
  clear h hn d
  obtain ⟨ro, rb, ri, K, H, S, s⟩ := r
  show Calls _ _ #[.agg #[.int .i64 ro, .int .i64 rb, .int .i64 ri, .int .i64 K, .int .i64 H, .int .i64 S, .int .u32 (s : Int), _]] _ _
  simp only
  obtain ⟨p, hp⟩ : ∃ b : Bool, decide (0 ≤ ro ∧ ro ≤ 16777215) = b := ⟨_, rfl⟩
  obtain ⟨q, hq⟩ : ∃ b : Bool, decide (0 ≤ rb ∧ rb ≤ 7) = b := ⟨_, rfl⟩
  obtain ⟨t, ht⟩ : ∃ b : Bool, decide (0 ≤ ri ∧ ri ≤ 65535) = b := ⟨_, rfl⟩
  obtain ⟨m, hm⟩ : ∃ b : Bool, decide (MayP K H S) = b := ⟨_, rfl⟩
  have HP := Lib.hid hp
  have HQ := Lib.hid hq
  have HT := Lib.hid ht
  have HM := Lib.hid hm
  rw [hp, hq, ht, hm]
  clear hp hq ht hm
  have HA : Hid (Gr w (w.alloc (.cells #[.int .i64 ro, .int .i64 rb, .int .i64 ri, .int .i64 K, .int .i64 H, .int .i64 S, .int .u32 (s : Int), .slice o n c] 27))) := Lib.hid (Gr.alloc (Gr.refl _) _ _)
  have HC : Hid ((w.alloc (.cells #[.int .i64 ro, .int .i64 rb, .int .i64 ri, .int .i64 K, .int .i64 H, .int .i64 S, .int .u32 (s : Int), .slice o n c] 27)).heap[w.heap.size]? = some (.cells #[.int .i64 ro, .int .i64 rb, .int .i64 ri, .int .i64 K, .int .i64 H, .int .i64 S, .int .u32 (s : Int), .slice o n c] 27 (0, 0))) := Lib.hid (heap_alloc_new _ _)
  go_enter Tryd.func12, Tryd.ntmps12
  cases p with
  | false =>
    go_wp2_with fail
    refine (upTo_rec 16777215 ro _).mono ?_
    rw [HP.out]
    rintro e w1 ⟨rfl, rfl⟩
    go_wp2_with fail
    go_ret
    exact ⟨rfl, HA.out⟩
  | true =>
    cases q with
    | false =>
      go_wp2_with fail
      refine (upTo_rec 16777215 ro _).mono ?_
      rw [HP.out]
      rintro e w1 ⟨rfl, rfl⟩
      go_wp2_with fail
      refine (upTo_rec 7 rb _).mono ?_
      rw [HQ.out]
      rintro e w1 ⟨rfl, rfl⟩
      go_wp2_with fail
      go_ret
      exact ⟨rfl, HA.out⟩
    | true =>
      cases t with
      | false =>
        go_wp2_with fail
        refine (upTo_rec 16777215 ro _).mono ?_
        rw [HP.out]
        rintro e w1 ⟨rfl, rfl⟩
        go_wp2_with fail
        refine (upTo_rec 7 rb _).mono ?_
        rw [HQ.out]
        rintro e w1 ⟨rfl, rfl⟩
        go_wp2_with fail
        refine (upTo_rec 65535 ri _).mono ?_
        rw [HT.out]
        rintro e w1 ⟨rfl, rfl⟩
        go_wp2_with fail
        go_ret
        exact ⟨rfl, HA.out⟩
      | true =>
        go_wp2_with fail
        refine (upTo_rec 16777215 ro _).mono ?_
        rw [HP.out]
        rintro e w1 ⟨rfl, rfl⟩
        go_wp2_with fail
        refine (upTo_rec 7 rb _).mono ?_
        rw [HQ.out]
        rintro e w1 ⟨rfl, rfl⟩
        go_wp2_with fail
        refine (upTo_rec 65535 ri _).mono ?_
        rw [HT.out]
        rintro e w1 ⟨rfl, rfl⟩
        go_wp2_with fail
        refine (may_pre K H S _).mono ?_
        rw [HM.out]
        rintro e w2 ⟨rfl, hg2⟩
        have HC2 := keptRow hg2 HC.out
        have e5 : w2.cell? ⟨w.heap.size, 5, none⟩ = some (.int .i64 S) := by rw [cell_of_row _ _ 5 _ _ _ HC2]; rfl
        have e7 : w2.cell? ⟨w.heap.size, 7, none⟩ = some (.slice o n c) := by rw [cell_of_row _ _ 7 _ _ _ HC2]; rfl
        have G2 := Lib.hid (Gr.trans HA.out hg2)
        clear hg2 HC2 HC HA
        cases m with
        | false =>
          go_wp2_with fail
          go_ret
          exact ⟨rfl, G2.out⟩
        | true =>
          go_wp2_with fail
          go_ret
          exact ⟨by simp; rfl, G2.out⟩
set_option maxRecDepth 100000 in
set_option maxHeartbeats 800000 in
theorem number_rec (v : Value) (l : List Int) (w : World) (h : Bs w v l) (hl : l.length ≤ 4) :
    Calls Tryd.prog 40 #[v] w fun e w' => e = .returned (.int .u32 (Rc.num 0 l : Nat)) ∧ w = w' := by
  obtain ⟨o, c, rfl⟩ := h.form5
  obtain ⟨n, hn⟩ : ∃ n, l.length = n := ⟨_, rfl⟩
  have HN := Lib.hid hn
  rw [hn] at h hl ⊢
  have H := Lib.hid h
  clear h hn
  have h0 : Rc.num 0 (l.take 0) = 0 := rfl
  have H0 := Lib.hid h0
  clear h0
  go_enter Tryd.func40, Tryd.ntmps40
  go_wp2_with fail
  go_loopw [3, 8] (fun vv iv W => ∃ i s : Nat, i ≤ n ∧ iv = .int .i64 i ∧ vv = .int .u32 (s : Int) ∧ Rc.num 0 (l.take i) = s ∧ w = W) (fun _ iv _ => n - (intOf iv).toNat)
  case atStart => exact ⟨0, 0, by omega, rfl, rfl, H0.out, rfl⟩
  case round =>
    obtain ⟨i, s, hi, rfl, rfl, hs, rfl⟩ := hrel
    by_cases hlt : i < n
    · have hsb : s < 16777216 := by
        rw [← hs]
        refine Nat.lt_of_lt_of_le (num_lt fun x hx => H.out.1 x (List.mem_of_mem_take hx)) ?_
        have : (l.take i).length ≤ 3 := by rw [List.length_take]; have := HN.out; omega
        exact Nat.le_trans (Nat.pow_le_pow_right (by omega) this) (by omega)
      have hbi := Crc.getD_byt H.out.1 i
      obtain ⟨b, hb1⟩ : ∃ b : Nat, l.getD i 0 = b := ⟨(l.getD i 0).toNat, by unfold Byt at hbi; omega⟩
      have hb2 : b < 256 := by unfold Byt at hbi; omega
      obtain ⟨ad, c2, hv, _, _, hcell⟩ := Bs.at H.out (by rw [HN.out]; omega)
      obtain ⟨rfl, _, rfl⟩ : o = some ad ∧ n = l.length ∧ c = c2 := by simpa using hv
      have q1 := hcell i (by rw [HN.out]; exact hlt)
      rw [hb1] at q1
      obtain ⟨s8, hs8, hs9⟩ : ∃ x : Nat, (s : Int) * 256 = x ∧ x = s * 256 := ⟨s * 256, by omega, rfl⟩
      have k1 : IntKind.u32.wrap (s8 : Int) = s8 := by simp [IntKind.wrap, IntKind.bits, IntKind.signed]; omega
      have k2 : IntKind.u32.wrap (b : Int) = b := by simp [IntKind.wrap, IntKind.bits, IntKind.signed]; omega
      have k3 := u32_or_nat s8 b (by omega) (by omega)
      obtain ⟨s', hs', hs2⟩ : ∃ x, s8 ||| b = x ∧ x = s * 256 + b := ⟨_, rfl, by rw [hs9]; exact or_add s b hb2⟩
      rw [hs'] at k3
      have HNX : Hid (Rc.num 0 (l.take (i + 1)) = s') := Lib.hid (by
        rw [List.take_add_one, List.getElem?_eq_getElem (by rw [HN.out]; exact hlt)]
        show Rc.num 0 (l.take i ++ [l[i]'_]) = _
        rw [num_snoc, hs, hs2]
        rw [List.getD_eq_getElem?_getD, List.getElem?_eq_getElem (by rw [HN.out]; exact hlt)] at hb1
        simp only [Option.getD_some] at hb1
        rw [hb1, Int.toNat_natCast])
      clear hs hbi hb1 hs' hs2 hs9 hv hcell
      go_wp2_with fail
      exact ⟨⟨i + 1, s', by omega, by go_num, rfl, HNX.out, trivial⟩, by simp [intOf]; omega⟩
    · obtain rfl : i = n := by omega
      rw [List.take_of_length_le (by have := HN.out; omega)] at hs
      have HS := Lib.hid hs
      clear hs
      go_wp2_with fail
      go_ret
      exact ⟨by rw [HS.out]; rfl, rfl⟩
/-- What putNumber has written after so many rounds. -/
def highTo (v n i : Nat) (M : List Int) : List Int := (Rc.highL v n).take i ++ M.drop i
theorem highTo_length {v n i : Nat} {M : List Int} (hm : M.length = n) (hi : i ≤ n) : (highTo v n i M).length = n := by
  unfold highTo
  rw [List.length_append, List.length_take, List.length_drop, Rc.highL_length]
  omega
theorem highL_getElem? (v n j : Nat) (hj : j < n) : (Rc.highL v n)[j]? = some ((v / 256 ^ (n - 1 - j) % 256 : Nat) : Int) := by
  induction n generalizing j with
  | zero => omega
  | succ n ih =>
    cases j with
    | zero => rfl
    | succ j =>
      show (Rc.highL v n)[j]? = _
      rw [ih j (by omega), show n + 1 - 1 - (j + 1) = n - 1 - j from by omega]
theorem highTo_next {v n i : Nat} {M : List Int} (hm : M.length = n) (hi : i < n) : (highTo v n i M).set i ((v / 256 ^ (n - 1 - i) % 256 : Nat) : Int) = highTo v n (i + 1) M := by
  unfold highTo
  have hl : ((Rc.highL v n).take i).length = i := by rw [List.length_take, Rc.highL_length]; omega
  rw [List.set_append_right _ _ (by omega), hl, Nat.sub_self, List.take_add_one, highL_getElem? v n i hi, List.drop_eq_getElem_cons (by omega : i < M.length), List.set_cons_zero, List.append_assoc]
  rfl
set_option maxRecDepth 100000 in
set_option maxHeartbeats 800000 in
theorem putNumber_any (g a n v c : Nat) (A M Z : List Int) (w : World) (hA : A.length = a) (hM : M.length = n) (hn : n ≤ 4) (h : Blk w g (A ++ M ++ Z)) :
    Calls Tryd.prog 31 #[.slice (some ⟨g, a, none⟩) n c, .int .u32 (v : Int)] w fun e w' => e = .returned (.tuple #[]) ∧ Blk w' g (A ++ Rc.highL v n ++ Z) ∧ Kp (fun k => k = g) w w' := by
  have HB := Lib.hid h
  have HA := Lib.hid hA
  have HM := Lib.hid hM
  clear h hA hM
  go_enter Tryd.func31, Tryd.ntmps31
  go_wp2_with fail
  go_loopw [7] (fun iv W => ∃ i : Nat, i ≤ n ∧ iv = .int .i64 (i : Int) ∧ Blk W g (A ++ highTo v n i M ++ Z) ∧ Kp (fun k => k = g) w W) (fun iv _ => n - (intOf iv).toNat)
  case atStart => exact ⟨0, by omega, rfl, by unfold highTo; rw [List.take_zero, List.nil_append, List.drop_zero]; exact HB.out, Kp.refl _ _⟩
  case round =>
    obtain ⟨wi, hwi⟩ : ∃ x, x = wr := ⟨_, rfl⟩
    subst hwi
    obtain ⟨i, hi, rfl, hb, hk⟩ := hrel
    by_cases hlt : i < n
    · have HL : Hid ((highTo v n i M).length = n) := Lib.hid (highTo_length HM.out hi)
      have HNX : Hid ((A ++ highTo v n i M ++ Z).set (a + i) ((v / 256 ^ (n - 1 - i) % 256 : Nat) : Int) = A ++ highTo v n (i + 1) M ++ Z) := Lib.hid (by
        rw [List.set_append_left _ _ (by rw [List.length_append, HA.out, HL.out]; omega), List.set_append_right _ _ (by rw [HA.out]; omega), HA.out, Nat.add_sub_cancel_left, highTo_next HM.out hlt])
      obtain ⟨j, hj⟩ : ∃ j : Nat, n - 1 - i = j := ⟨_, rfl⟩
      have j0 : (n : Int) - 1 - (i : Int) = (j : Int) := by omega
      rw [hj] at HNX
      obtain ⟨e, he⟩ : ∃ e : Nat, 8 * j = e := ⟨_, rfl⟩
      have k0 : (8 : Int) * (j : Int) = (e : Int) := by omega
      have k1 : IntKind.i64.wrap (e : Int) = e := by simp [IntKind.wrap, IntKind.bits, IntKind.signed]; omega
      have k2 : (0 : Int) ≤ (e : Int) := by omega
      have k3 : (0 : Int) ≤ (i : Int) := by omega
      obtain ⟨y, hy⟩ : ∃ y : Nat, v / 256 ^ j = y := ⟨_, rfl⟩
      have hz : (v : Int) / 2 ^ e = (y : Int) := by
        rw [← hy, ← he]
        have e2 : (2 : Int) ^ (8 * j) = ((256 ^ j : Nat) : Int) := by
          rw [show (256 : Nat) ^ j = 2 ^ (8 * j) from by rw [Nat.pow_mul]]
          simp
        rw [e2, Int.natCast_ediv]
      obtain ⟨y8, hy8, hy9⟩ : ∃ x, y % 256 = x ∧ x < 256 := ⟨_, rfl, by omega⟩
      have k4 : (y : Int) % 256 = (y8 : Int) := by omega
      rw [hy, hy8] at HNX
      have q1 := hb.cell (a + i) (by rw [List.length_append, List.length_append, HA.out, HL.out]; omega)
      have q2 := hb.frz5 (a + i)
      generalize (A ++ highTo v n i M ++ Z).getD (a + i) 0 = old at *
      have HNW : Hid (Blk (wi.setCell ⟨g, a + i, none⟩ (.int .u8 (y8 : Int))) g (A ++ highTo v n (i + 1) M ++ Z) ∧ Kp (fun k => k = g) w (wi.setCell ⟨g, a + i, none⟩ (.int .u8 (y8 : Int)))) := Lib.hid ⟨by
        rw [← HNX.out]
        exact hb.put5 _ _, hk.trans (Kp.set _ _ _ _) fun _ e => .inl e⟩
      clear hb hk HNX HL hy hy8 he hj HB
      go_wp2_with fail
      exact ⟨⟨i + 1, by omega, by go_num, HNW.out.1, HNW.out.2⟩, by simp [intOf]; omega⟩
    · obtain rfl : i = n := by omega
      have HB2 := Lib.hid hb
      have HK2 := Lib.hid hk
      have HD : Hid (highTo v i i M = Rc.highL v i) := Lib.hid (by unfold highTo; rw [List.take_of_length_le (by rw [Rc.highL_length]; exact Nat.le_refl _), List.drop_eq_nil_of_le (by rw [HM.out]; exact Nat.le_refl _), List.append_nil])
      clear hb hk HB
      go_wp2_with fail
      go_end0
      exact ⟨rfl, by rw [← HD.out]; exact HB2.out, HK2.out⟩
theorem highL_one (n : Nat) (h : n < 256) : Rc.highL n 1 = [(n : Int)] := by
  show [((n / 256 ^ 0 % 256 : Nat) : Int)] = _
  rw [show (n / 256 ^ 0 % 256 : Nat) = n from by rw [show (256 : Nat) ^ 0 = 1 from rfl]; omega]
theorem putNumber_next (g a n k v c : Nat) (A : List Int) (w : World) (hA : A.length = a) (hn : n ≤ 4) (h : Blk w g (A ++ List.replicate (n + k) 0)) :
    Calls Tryd.prog 31 #[.slice (some ⟨g, a, none⟩) n c, .int .u32 (v : Int)] w fun e w' => e = .returned (.tuple #[]) ∧ Blk w' g (A ++ Rc.highL v n ++ List.replicate k 0) ∧ Kp (fun k => k = g) w w' :=
  putNumber_any g a n v c A (List.replicate n 0) (List.replicate k 0) w hA List.length_replicate hn (by rwa [List.append_assoc, List.replicate_append_replicate])
end Go.Proofs.YtjkfiimlaigdhaaDoor
namespace Go.Proofs.YtjkfiimlaigdhaaDoor
open Go.RowKit

theorem rec_own {w : World} {base g : Nat} {P : List Int} (h : Blk w g (P ++ List.replicate 42 0)) (hp : P.length = 13) (hb : base ≤ g) : w.ownsRow base 5 1 (.slice (some ⟨g, 0, none⟩) 13 55) 13 (P.map (Value.int .u8)) :=
  ⟨by rw [List.length_map, hp], .inr ⟨g, 55, rowB (P ++ List.replicate 42 0), rfl, hb, h, by omega, by unfold maxLen; omega, by simp [rowB, hp], by
    unfold rowB
    show ((P ++ List.replicate 42 0).map (Value.int .u8)).take (13 * 1) = _
    rw [List.map_append, List.take_left' (by rw [List.length_map, hp])]⟩⟩
set_option maxRecDepth 100000 in
set_option maxHeartbeats 3200000 in
theorem put_rec_in {W0 : World} (O : CellOk W0) (r : Rcd) (v : Value) (d : List Int) (w : World) (hw : Gr W0 w) (h : Bs w v d) (hs : r.s < 4294967296) (hm : MayR r d) :
    Calls Tryd.prog 15 #[r.val v] w fun e w' => ∃ u, e = .returned u ∧ New w w' u (Cell.put 1 (recL r d)) := by
  obtain ⟨o, c, rfl⟩ := h.form5
  obtain ⟨n, hn⟩ : ∃ n, d.length = n := ⟨_, rfl⟩
  have HN := Lib.hid hn
  have hbd := rec_bounds hm
  have HMD := Lib.hid (decide_eq_true hm)
  have HO := Lib.hid O
  have HW := Lib.hid hw
  rw [hn] at h hbd ⊢
  have H := Lib.hid h
  obtain ⟨ro, rb, ri, K, H', S, s⟩ := r
  obtain ⟨⟨a1, a2⟩, ⟨a3, a4⟩, ⟨a5, a6⟩, ⟨a7, a8⟩, ⟨a9, a10⟩, ⟨a11, a12⟩, a13⟩ := hbd
  obtain ⟨no, rfl⟩ : ∃ m : Nat, ro = m := ⟨ro.toNat, by simp only at *; omega⟩
  obtain ⟨nb, rfl⟩ : ∃ m : Nat, rb = m := ⟨rb.toNat, by simp only at *; omega⟩
  obtain ⟨ni, rfl⟩ : ∃ m : Nat, ri = m := ⟨ri.toNat, by simp only at *; omega⟩
  obtain ⟨nk, rfl⟩ : ∃ m : Nat, K = m := ⟨K.toNat, by simp only at *; omega⟩
  obtain ⟨nh, rfl⟩ : ∃ m : Nat, H' = m := ⟨H'.toNat, by simp only at *; omega⟩
  obtain ⟨ns, rfl⟩ : ∃ m : Nat, S = m := ⟨S.toNat, by simp only at *; omega⟩
  simp only at a2 a4 a6 a7 a8 a9 a10 a11 a12 hs
  have HRM : Hid (∀ W, Bs W (.slice o n c) d → Calls Tryd.prog 12 #[.agg #[.int .i64 no, .int .i64 nb, .int .i64 ni, .int .i64 nk, .int .i64 nh, .int .i64 ns, .int .u32 (s : Int), .slice o n c]] W fun e w' => e = .returned (.bool true) ∧ Gr W w') := Lib.hid fun W hW => by
    have h := may_rec ⟨no, nb, ni, nk, nh, ns, s⟩ (.slice o n c) d W hW
    rw [HMD.out] at h
    exact h
  show Calls _ _ #[.agg #[.int .i64 no, .int .i64 nb, .int .i64 ni, .int .i64 nk, .int .i64 nh, .int .i64 ns, .int .u32 (s : Int), _]] _ _
  have HA : Hid (Gr w (w.alloc (.cells #[.int .i64 no, .int .i64 nb, .int .i64 ni, .int .i64 nk, .int .i64 nh, .int .i64 ns, .int .u32 (s : Int), .slice o n c] 27))) := Lib.hid (Gr.alloc (Gr.refl _) _ _)
  have HC : Hid (RcAt (w.alloc (.cells #[.int .i64 no, .int .i64 nb, .int .i64 ni, .int .i64 nk, .int .i64 nh, .int .i64 ns, .int .u32 (s : Int), .slice o n c] 27)) w.heap.size ⟨no, nb, ni, nk, nh, ns, s⟩ (.slice o n c)) := Lib.hid (heap_alloc_new _ _)
  have hmk : ∀ w, (Instr.makeSlice 25 (.int .i64 13) (.int .i64 55)).run Tryd.prog w = .ok (.slice (some ⟨w.heap.size, 0, none⟩) 13 55) (w.alloc (.cells (rowB (List.replicate 55 0)) 5)) := fun w => make22 13 55 (by omega) (by omega) w
  have wo : IntKind.u32.wrap (no : Int) = no := by simp [IntKind.wrap, IntKind.bits, IntKind.signed]; omega
  have wb : IntKind.u32.wrap (nb : Int) = nb := by simp [IntKind.wrap, IntKind.bits, IntKind.signed]; omega
  have wi : IntKind.u32.wrap (ni : Int) = ni := by simp [IntKind.wrap, IntKind.bits, IntKind.signed]; omega
  have wk : IntKind.u32.wrap (nk : Int) = nk := by simp [IntKind.wrap, IntKind.bits, IntKind.signed]; omega
  have wh : IntKind.u32.wrap (nh : Int) = nh := by simp [IntKind.wrap, IntKind.bits, IntKind.signed]; omega
  have ws : IntKind.u32.wrap (ns : Int) = ns := by simp [IntKind.wrap, IntKind.bits, IntKind.signed]; omega
  obtain ⟨Z, hZ⟩ : ∃ Z, List.replicate 55 (0 : Int) = Z := ⟨_, rfl⟩
  have HZ : Hid ([] ++ List.replicate (3 + 52) 0 = Z) := Lib.hid hZ
  rw [hZ] at hmk
  clear h hn hm O hw hZ
  go_enter Tryd.func15, Tryd.ntmps15
  go_wp2_with fail
  generalize w.alloc (.cells #[.int .i64 no, .int .i64 nb, .int .i64 ni, .int .i64 nk, .int .i64 nh, .int .i64 ns, .int .u32 (s : Int), .slice o n c] 27) = W1 at *
  generalize hgr : w.heap.size = gr at *
  refine (HRM.out _ (H.out.grown HA.out)).mono ?_
  rintro e w1 ⟨rfl, hg1⟩
  have HC1 := Lib.hid (HC.out.grown (hg1.trans (Gr.alloc (Gr.refl _) (rowB Z) 5)))
  have HG1 := Lib.hid (Gr.trans HA.out (hg1.trans (Gr.alloc (Gr.refl _) (rowB Z) 5)))
  have B1 : Hid (Blk (w1.alloc (.cells (rowB Z) 5)) w1.heap.size Z) := Lib.hid (heap_alloc_new _ _)
  have HNG : Hid (gr ≠ w1.heap.size) := Lib.hid (by have := (Array.getElem?_eq_some_iff.1 (HC.out.grown hg1)).1; omega)
  have HWG : Hid (w.heap.size ≤ w1.heap.size) := Lib.hid (Gr.trans HA.out hg1).size
  clear hg1 HC HA
  go_wp2_with fail
  obtain ⟨gB, hgB⟩ : ∃ g, w1.heap.size = g := ⟨_, rfl⟩
  generalize w1.alloc (.cells (rowB Z) 5) = v1 at *
  rw [hgB] at B1 HNG HWG ⊢
  clear hmk hgB
  have HSB : Hid (Blk v1 gB ([] ++ List.replicate (3 + 52) 0)) := Lib.hid (by rw [HZ.out]; exact B1.out)
  clear B1
  have q0 := HC1.out.cell.1
  simp only at q0
  go_region_law (first
    | ((try go_simp); go_at_call 31; refine (putNumber_next gB 0 3 52 no 55 [] _ rfl (by omega) (HSB.out.grown (Gr.drew (Gr.refl _)))).mono ?_; rintro e w2 ⟨rfl, hb, hk⟩; have B2 := Lib.hid hb; have HC2 : Hid (RcAt w2 gr ⟨no, nb, ni, nk, nh, ns, s⟩ (.slice o n c)) := Lib.hid (hk.block (HC1.out.grown (Gr.drew (Gr.refl _))) HNG.out); have HG2 := Lib.hid (hk.gr (Gr.drew HG1.out) fun x e => Nat.le_trans HWG.out (Nat.le_of_eq e.symm)); clear hb hk))
  clear q0 HC1 HG1 HSB
  go_wp2_with fail
  have q1 := HC2.out.cell.2.1
  simp only at q1
  go_region_law (first
    | ((try go_simp); go_at_call 31; refine (putNumber_next gB 3 1 51 nb 52 ([] ++ Rc.highL no 3) _ rfl (by omega) (B2.out.grown (Gr.drew (Gr.refl _)))).mono ?_; rintro e w3 ⟨rfl, hb, hk⟩; have B3 := Lib.hid hb; have HC3 : Hid (RcAt w3 gr ⟨no, nb, ni, nk, nh, ns, s⟩ (.slice o n c)) := Lib.hid (hk.block (HC2.out.grown (Gr.drew (Gr.refl _))) HNG.out); have HG3 := Lib.hid (hk.gr (Gr.drew HG2.out) fun x e => Nat.le_trans HWG.out (Nat.le_of_eq e.symm)); clear hb hk))
  clear q1 HC2 HG2 B2
  go_wp2_with fail
  have q2 := HC3.out.cell.2.2.1
  simp only at q2
  go_region_law (first
    | ((try go_simp); go_at_call 31; refine (putNumber_next gB 4 2 49 ni 51 (([] ++ Rc.highL no 3) ++ Rc.highL nb 1) _ rfl (by omega) (B3.out.grown (Gr.drew (Gr.refl _)))).mono ?_; rintro e w4 ⟨rfl, hb, hk⟩; have B4 := Lib.hid hb; have HC4 : Hid (RcAt w4 gr ⟨no, nb, ni, nk, nh, ns, s⟩ (.slice o n c)) := Lib.hid (hk.block (HC3.out.grown (Gr.drew (Gr.refl _))) HNG.out); have HG4 := Lib.hid (hk.gr (Gr.drew HG3.out) fun x e => Nat.le_trans HWG.out (Nat.le_of_eq e.symm)); clear hb hk))
  clear q2 HC3 HG3 B3
  go_wp2_with fail
  have q3 := HC4.out.cell.2.2.2.1
  simp only at q3
  go_region_law (first
    | ((try go_simp); go_at_call 31; refine (putNumber_next gB 6 1 48 nk 49 ((([] ++ Rc.highL no 3) ++ Rc.highL nb 1) ++ Rc.highL ni 2) _ rfl (by omega) (B4.out.grown (Gr.drew (Gr.refl _)))).mono ?_; rintro e w5 ⟨rfl, hb, hk⟩; have B5 := Lib.hid hb; have HC5 : Hid (RcAt w5 gr ⟨no, nb, ni, nk, nh, ns, s⟩ (.slice o n c)) := Lib.hid (hk.block (HC4.out.grown (Gr.drew (Gr.refl _))) HNG.out); have HG5 := Lib.hid (hk.gr (Gr.drew HG4.out) fun x e => Nat.le_trans HWG.out (Nat.le_of_eq e.symm)); clear hb hk))
  clear q3 HC4 HG4 B4
  go_wp2_with fail
  have q4 := HC5.out.cell.2.2.2.2.1
  simp only at q4
  go_region_law (first
    | ((try go_simp); go_at_call 31; refine (putNumber_next gB 7 1 47 nh 48 (((([] ++ Rc.highL no 3) ++ Rc.highL nb 1) ++ Rc.highL ni 2) ++ Rc.highL nk 1) _ rfl (by omega) (B5.out.grown (Gr.drew (Gr.refl _)))).mono ?_; rintro e w6 ⟨rfl, hb, hk⟩; have B6 := Lib.hid hb; have HC6 : Hid (RcAt w6 gr ⟨no, nb, ni, nk, nh, ns, s⟩ (.slice o n c)) := Lib.hid (hk.block (HC5.out.grown (Gr.drew (Gr.refl _))) HNG.out); have HG6 := Lib.hid (hk.gr (Gr.drew HG5.out) fun x e => Nat.le_trans HWG.out (Nat.le_of_eq e.symm)); clear hb hk))
  clear q4 HC5 HG5 B5
  go_wp2_with fail
  have q5 := HC6.out.cell.2.2.2.2.2.1
  simp only at q5
  go_region_law (first
    | ((try go_simp); go_at_call 31; refine (putNumber_next gB 8 1 46 ns 47 ((((([] ++ Rc.highL no 3) ++ Rc.highL nb 1) ++ Rc.highL ni 2) ++ Rc.highL nk 1) ++ Rc.highL nh 1) _ rfl (by omega) (B6.out.grown (Gr.drew (Gr.refl _)))).mono ?_; rintro e w7 ⟨rfl, hb, hk⟩; have B7 := Lib.hid hb; have HC7 : Hid (RcAt w7 gr ⟨no, nb, ni, nk, nh, ns, s⟩ (.slice o n c)) := Lib.hid (hk.block (HC6.out.grown (Gr.drew (Gr.refl _))) HNG.out); have HG7 := Lib.hid (hk.gr (Gr.drew HG6.out) fun x e => Nat.le_trans HWG.out (Nat.le_of_eq e.symm)); clear hb hk))
  clear q5 HC6 HG6 B6
  go_wp2_with fail
  have q6 := HC7.out.cell.2.2.2.2.2.2.1
  simp only at q6
  go_region_law (first
    | ((try go_simp); go_at_call 31; refine (putNumber_next gB 9 4 42 s 46 (((((([] ++ Rc.highL no 3) ++ Rc.highL nb 1) ++ Rc.highL ni 2) ++ Rc.highL nk 1) ++ Rc.highL nh 1) ++ Rc.highL ns 1) _ rfl (by omega) (B7.out.grown (Gr.drew (Gr.refl _)))).mono ?_; rintro e w8 ⟨rfl, hb, hk⟩; have B8 := Lib.hid hb; have HC8 : Hid (RcAt w8 gr ⟨no, nb, ni, nk, nh, ns, s⟩ (.slice o n c)) := Lib.hid (hk.block (HC7.out.grown (Gr.drew (Gr.refl _))) HNG.out); have HG8 := Lib.hid (hk.gr (Gr.drew HG7.out) fun x e => Nat.le_trans HWG.out (Nat.le_of_eq e.symm)); clear hb hk))
  clear q6 HC7 HG7 B7
  have q7 := HC8.out.cell.2.2.2.2.2.2.2
  have HPL : Hid (([] ++ Rc.highL no 3 ++ Rc.highL nb 1 ++ Rc.highL ni 2 ++ Rc.highL nk 1 ++ Rc.highL nh 1 ++ Rc.highL ns 1 ++ Rc.highL s 4 : List Int).length = 13) := Lib.hid rfl
  have HPD : Hid ([] ++ Rc.highL no 3 ++ Rc.highL nb 1 ++ Rc.highL ni 2 ++ Rc.highL nk 1 ++ Rc.highL nh 1 ++ Rc.highL ns 1 ++ Rc.highL s 4 ++ d = recL ⟨no, nb, ni, nk, nh, ns, s⟩ d) := Lib.hid (by
    rw [highL_one nk (by omega), highL_one nh (by omega), highL_one ns (by omega)]
    unfold recL
    simp only [Int.toNat_natCast, List.nil_append, List.append_assoc, List.cons_append])
  have HRB : Hid (∀ x ∈ recL ⟨no, nb, ni, nk, nh, ns, s⟩ d, Byt x) := Lib.hid fun x hx => by
    rw [← HPD.out] at hx
    simp only [List.mem_append, List.not_mem_nil, false_or] at hx
    rcases hx with ((((((h | h) | h) | h) | h) | h) | h) | h
    · exact Rc.highL_byt _ _ x h
    · exact Rc.highL_byt _ _ x h
    · exact Rc.highL_byt _ _ x h
    · exact Rc.highL_byt _ _ x h
    · exact Rc.highL_byt _ _ x h
    · exact Rc.highL_byt _ _ x h
    · exact Rc.highL_byt _ _ x h
    · exact H.out.1 x h
  have HRL : Hid ((recL ⟨no, nb, ni, nk, nh, ns, s⟩ d).length = 13 + n) := Lib.hid (by rw [recL_length, HN.out])
  clear a1 a2 a3 a4 a5 a6 a7 a8 a9 a10 a11 a12 wo wb wi wk wh ws HC8 HRM
  generalize hP : ([] ++ Rc.highL no 3 ++ Rc.highL nb 1 ++ Rc.highL ni 2 ++ Rc.highL nk 1 ++ Rc.highL nh 1 ++ Rc.highL ns 1 ++ Rc.highL s 4 : List Int) = P at *
  obtain ⟨R, hR⟩ : ∃ R, recL ⟨no, nb, ni, nk, nh, ns, s⟩ d = R := ⟨_, rfl⟩
  have HR := Lib.hid hR
  rw [hR] at HPD HRB HRL
  clear hR
  clear hP
  go_wp2_with (first
    | (at_builtin; refine wpList_append_bytes rfl _ _ rfl w.heap.size (.slice (some ⟨gB, 0, none⟩) 13 55) 13 P rfl (rec_own B8.out HPL.out HWG.out) o n c d rfl (H.out.grown HG8.out) (by omega) HG8.out.size ?_; intro v9 w9 ho hg; obtain ⟨o9, c9, rfl⟩ := ownsRow_form ho; have N9 : Hid (New w w9 (.slice o9 (13 + n) c9) R) := Lib.hid (New.of_row (Gr.append HG8.out hg fun k e => ownsRow_base (rec_own B8.out HPL.out HWG.out) k e) HRB.out (by rw [HRL.out, ← HPD.out]; exact ho)); clear ho hg))
  refine (HO.out.put 1 _ R _ (Gr.trans HW.out N9.out.1) ⟨by omega, by omega⟩ (by rw [HRL.out]; omega) (New.bs N9.out)).mono ?_
  rintro e w10 ⟨u, rfl, hn10⟩
  have N10 := Lib.hid (New.under N9.out.1 hn10)
  clear hn10
  go_wp2_with fail
  go_ret
  exact ⟨_, rfl, by rw [HR.out]; exact N10.out⟩
set_option maxHeartbeats 400000 in
theorem put_rec_ne (r : Rcd) (v : Value) (d : List Int) (w : World) (h : Bs w v d) (hm : ¬ MayR r d) :
    Calls Tryd.prog 15 #[r.val v] w fun e w' => e = .returned (.slice none 0 0) ∧ Gr w w' := by
  obtain ⟨o, c, rfl⟩ := h.form5
  obtain ⟨n, hn⟩ : ∃ n, d.length = n := ⟨_, rfl⟩
  have HMD := Lib.hid (decide_eq_false hm)
  rw [hn] at h ⊢
  have H := Lib.hid h
  obtain ⟨ro, rb, ri, K, H', S, s⟩ := r
  have HRM : Hid (∀ W, Bs W (.slice o n c) d → Calls Tryd.prog 12 #[.agg #[.int .i64 ro, .int .i64 rb, .int .i64 ri, .int .i64 K, .int .i64 H', .int .i64 S, .int .u32 (s : Int), .slice o n c]] W fun e w' => e = .returned (.bool false) ∧ Gr W w') := Lib.hid fun W hW => by
    have h := may_rec ⟨ro, rb, ri, K, H', S, s⟩ (.slice o n c) d W hW
    rw [HMD.out] at h
    exact h
  show Calls _ _ #[.agg #[.int .i64 ro, .int .i64 rb, .int .i64 ri, .int .i64 K, .int .i64 H', .int .i64 S, .int .u32 (s : Int), _]] _ _
  have HA : Hid (Gr w (w.alloc (.cells #[.int .i64 ro, .int .i64 rb, .int .i64 ri, .int .i64 K, .int .i64 H', .int .i64 S, .int .u32 (s : Int), .slice o n c] 27))) := Lib.hid (Gr.alloc (Gr.refl _) _ _)
  clear h hn hm
  go_enter Tryd.func15, Tryd.ntmps15
  go_wp2_with fail
  refine (HRM.out _ (H.out.grown HA.out)).mono ?_
  rintro e w1 ⟨rfl, hg1⟩
  have HG1 := Lib.hid (Gr.trans HA.out hg1)
  clear hg1
  go_wp2_with fail
  go_ret
  exact ⟨rfl, HG1.out⟩
theorem put_rec {W0 : World} (O : CellOk W0) (r : Rcd) (v : Value) (d : List Int) (w : World) (hw : Gr W0 w) (hs : r.s < 4294967296) (h : Bs w v d) :
    Calls Tryd.prog 15 #[r.val v] w fun e w' => ∃ u, e = .returned u ∧ New w w' u (putR r d) := by
  by_cases hm : MayR r d
  · rw [show putR r d = Cell.put 1 (recL r d) from if_pos hm]
    exact put_rec_in O r v d w hw h hs hm
  · rw [show putR r d = [] from if_neg hm]
    refine (put_rec_ne r v d w h hm).mono ?_
    rintro e w' ⟨rfl, hg⟩
    exact ⟨_, rfl, New.nil5 w w' hg⟩
end Go.Proofs.YtjkfiimlaigdhaaDoor
