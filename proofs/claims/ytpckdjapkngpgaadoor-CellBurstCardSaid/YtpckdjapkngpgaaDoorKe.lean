/-
  The developers' package cell: plain, and the small functions.
-/
import Derived.Test.YtpckdjapkngpgaaDoorVg
import Derived.Test.YtpckdjapkngpgaaDoorKp
import Derived.Lib.Bytes
import Derived.Laws.IdiomCopy
import Derived.Laws.CopyOwn
namespace Go.Proofs.YtpckdjapkngpgaaDoor
open Go.RowKit

namespace Cell
def lay1 : List Int := [87, 115, 1] ++ List.replicate 61 0
def lay2 (k : Int) : List Int := [87, 115, 1, k] ++ List.replicate 60 0
def lay3 (k : Int) (body : List Int) : List Int := pre k body ++ List.replicate 5 0
def putS (L : List Int) (s : Nat) : Nat → List Int
  | 0 => L
  | i + 1 => (putS L s i).set (59 + i) ((s / 2 ^ (8 * i) % 256 : Nat) : Int)
theorem putS_length (L : List Int) (s i : Nat) : (putS L s i).length = L.length := by
  induction i with
  | zero => rfl
  | succ i ih => exact (List.length_set ..).trans ih
theorem lay1_it : (((List.replicate 64 (0 : Int)).set 0 87).set 1 115).set 2 1 = lay1 := rfl
theorem lay2_it (k : Int) : lay1.set 3 k = lay2 k := rfl
theorem lay3_it (k : Int) (body : List Int) (h : body.length ≤ 55) : splice ((lay2 k).map (Value.int .u8)) 4 (body.map (Value.int .u8)) = (lay3 k body).map (Value.int .u8) := by
  have e1 : ((lay2 k).map (Value.int .u8)).take 4 = [87, 115, 1, k].map (Value.int .u8) := rfl
  have e2 : ((lay2 k).map (Value.int .u8)).drop (4 + body.length) = (List.replicate (55 - body.length) (0 : Int) ++ List.replicate 5 0).map (Value.int .u8) := by
    rw [← List.map_drop]
    congr 1
    unfold lay2
    rw [← List.drop_drop, List.drop_left' (by rfl), List.drop_replicate, List.replicate_append_replicate]
    congr 1
    omega
  unfold splice
  rw [e1, List.length_map, e2]
  unfold lay3 pre pad
  simp only [List.map_append, List.append_assoc]
theorem lay3_length {k : Int} {body : List Int} (h : body.length ≤ 55) : (lay3 k body).length = 64 := by
  unfold lay3
  rw [List.length_append, pre_length h, List.length_replicate]
theorem lay4_it {k : Int} {body : List Int} {s : Nat} (h : body.length ≤ 55) : (putS (lay3 k body) s 4).set 63 165 = pre k body ++ Crc.low4 s ++ [165] := by
  have e : ∀ (Y : List Int) (i : Nat) (v : Int), (pre k body ++ Y).set (59 + i) v = pre k body ++ Y.set i v := fun Y i v => by
    rw [List.set_append_right _ _ (by rw [pre_length h]; omega), pre_length h, Nat.add_sub_cancel_left]
  have e4 : ∀ Y v, (pre k body ++ Y).set 63 v = pre k body ++ Y.set 4 v := fun Y v => e Y 4 v
  unfold lay3
  simp only [putS]
  rw [e, e, e, e, e4, List.append_assoc]
  congr 1
  simp [Crc.low4, List.replicate_succ]
theorem take_lay3 {k : Int} {body : List Int} (h : body.length ≤ 55) : (lay3 k body).take 59 = pre k body := by
  unfold lay3
  exact List.take_left' (pre_length h)
theorem txt_inj {x y : List Int} (hx : ∀ b ∈ x, Byt b) (hy : ∀ b ∈ y, Byt b) (h1 : Lib.bytesOf x = Lib.bytesOf y) : x = y := by
  unfold Lib.bytesOf at h1
  have back : ∀ l : List Int, (∀ b ∈ l, Byt b) → (l.map fun n => UInt8.ofNat n.toNat).map (fun u => (u.toNat : Int)) = l := fun l hl => by
    rw [List.map_map]
    refine (List.map_congr_left fun z hz => ?_).trans (List.map_id l)
    have := hl z hz
    unfold Byt at this
    show (((UInt8.ofNat z.toNat).toNat : Nat) : Int) = z
    rw [UInt8.toNat_ofNat']
    omega
  rw [← back x hx, ← back y hy, h1]
end Cell
theorem Blk.put5 {w : World} {g : Nat} {L : List Int} (h : Blk w g L) (i : Nat) (x : Int) : Blk (w.setCell ⟨g, i, none⟩ (.int .u8 x)) g (L.set i x) := by
  unfold Blk at *
  rw [heap_setCell_same _ _ _ _ _ _ h, rowB_set]
theorem Blk.frz5 {w : World} {g : Nat} {L : List Int} (h : Blk w g L) (i : Nat) : w.frozen? ⟨g, i, none⟩ = false := frozen_of_row w g i _ _ h
theorem New.of_blk5 {w w' : World} {g n : Nat} {l : List Int} (hg : Gr w w') (hb : ∀ x ∈ l, Byt x) (hs : w.heap.size ≤ g) (hk : Blk w' g l) (hl : l.length = n) (hn : n ≤ 1000000) : New w w' (.slice (some ⟨g, 0, none⟩) n n) l := by
  subst hl
  exact ⟨hg, hb, Or.inr ⟨g, l.length, rowB l, rfl, hs, hk, Nat.le_refl _, by omega, fun i hi => rowB_get l i hi⟩⟩
/-- Bytes as a text: whatever slice they are. -/
theorem conv5 {w : World} {v : Value} {l : List Int} (h : Bs w v l) : (convert 22 9 v).run Tryd.prog w = .ok (.string (strOfNums l)) w := by
  by_cases h0 : l.length = 0
  · obtain rfl := List.eq_nil_of_length_eq_zero h0
    obtain ⟨o, c, rfl⟩ := h.form5
    rw [List.length_nil, run_convert_bytes_string w 22 9 5 _ 0 c Tryd.underlying22 Tryd.underlying5 Tryd.underlying9]
    cases o <;> simp [Conv.bytesToString, loadCells]
    all_goals rfl
  · obtain ⟨ad, c, rfl, h2, h3, hc⟩ := Bs.at h (by omega)
    obtain ⟨ab, ao, asp⟩ := ad
    obtain rfl : asp = none := by
      have h1 := hc 0 (by omega)
      rw [show (Addr.mk ab ao asp).add 0 = ⟨ab, ao, asp⟩ from by simp [Addr.add]] at h1
      simpa using World.cell?_spot h1
    exact run_convert_bytes_arg (P := Tryd.prog) w 22 5 Tryd.underlying22 Tryd.underlying5 ab ao l.length c l rfl (fun i hi => by
      have := hc i hi
      rwa [Addr.add_mid] at this) 9 Tryd.underlying9
set_option maxHeartbeats 400000 in
theorem equal_any (v1 v2 : Value) (x y : List Int) (w : World) (h1 : Bs w v1 x) (h2 : Bs w v2 y) :
    Calls Tryd.prog 24 #[v1, v2] w fun e w' => e = .returned (.bool (x == y)) ∧ w' = w := by
  have q1 := conv5 h1
  have q2 := conv5 h2
  have hE : Hid (((strOfNums x).toList == (strOfNums y).toList) = (x == y)) := Lib.hid (by
    rw [Lib.strOfNums_toList, Lib.strOfNums_toList]
    by_cases e : x = y
    · rw [e, beq_self_eq_true, beq_self_eq_true]
    · rw [beq_eq_false_iff_ne.2 e]
      exact beq_eq_false_iff_ne.2 fun h => e (Cell.txt_inj h1.1 h2.1 h))
  rw [← hE.out]
  clear h1 h2 hE
  generalize strOfNums x = sx at *
  generalize strOfNums y = sy at *
  go_enter Tryd.func24, Tryd.ntmps24
  go_wp2_with fail
  go_ret
  exact ⟨rfl, rfl⟩
set_option maxRecDepth 100000 in
set_option maxHeartbeats 800000 in
theorem putSum_any (g s : Nat) (L : List Int) (w : World) (h : Blk w g L) (hl : L.length = 64) :
    Calls Tryd.prog 21 #[.slice (some ⟨g, 59, none⟩) 5 5, .int .u32 (s : Int)] w fun e w' => e = .returned (.tuple #[]) ∧ Blk w' g (Cell.putS L s 4) ∧ Kp (fun k => k = g) w w' := by
  have HB := Lib.hid h
  have HL := Lib.hid hl
  clear h hl
  go_enter Tryd.func21, Tryd.ntmps21
  go_wp2_with fail
  go_loopw [5] (fun iv W => ∃ i : Nat, i ≤ 4 ∧ iv = .int .i64 (i : Int) ∧ Blk W g (Cell.putS L s i) ∧ Kp (fun k => k = g) w W) (fun iv _ => 4 - (intOf iv).toNat)
  case atStart => exact ⟨0, by omega, rfl, HB.out, Kp.refl _ _⟩
  case round =>
    obtain ⟨wi, hwi⟩ : ∃ x, x = wr := ⟨_, rfl⟩
    subst hwi
    obtain ⟨i, hi, rfl, hb, hk⟩ := hrel
    have HLL : Hid ((Cell.putS L s i).length = 64) := Lib.hid (by rw [Cell.putS_length, HL.out])
    have HNX : Hid (Cell.putS L s (i + 1) = (Cell.putS L s i).set (59 + i) ((s / 2 ^ (8 * i) % 256 : Nat) : Int)) := Lib.hid rfl
    by_cases hlt : i < 4
    · obtain ⟨e, he⟩ : ∃ e : Nat, 8 * i = e := ⟨_, rfl⟩
      have k0 : (8 : Int) * (i : Int) = (e : Int) := by omega
      have k1 : IntKind.i64.wrap (e : Int) = e := by simp [IntKind.wrap, IntKind.bits, IntKind.signed]; omega
      have k2 : (0 : Int) ≤ (e : Int) := by omega
      have k3 : (0 : Int) ≤ (i : Int) := by omega
      obtain ⟨y, hy⟩ : ∃ y : Nat, s / 2 ^ e = y := ⟨_, rfl⟩
      have hz : (s : Int) / 2 ^ e = (y : Int) := by
        rw [← hy]
        simp
      obtain ⟨y8, hy8, hy9⟩ : ∃ x, y % 256 = x ∧ x < 256 := ⟨_, rfl, by omega⟩
      have k4 : (y : Int) % 256 = (y8 : Int) := by omega
      rw [he, hy, hy8] at HNX
      have q1 := hb.cell (59 + i) (by rw [HLL.out]; omega)
      have q2 := hb.frz5 (59 + i)
      generalize (Cell.putS L s i).getD (59 + i) 0 = old at *
      have HNW : Hid (Blk (wi.setCell ⟨g, 59 + i, none⟩ (.int .u8 (y8 : Int))) g (Cell.putS L s (i + 1)) ∧ Kp (fun k => k = g) w (wi.setCell ⟨g, 59 + i, none⟩ (.int .u8 (y8 : Int)))) := Lib.hid ⟨by
        rw [HNX.out]
        exact hb.put5 _ _, hk.trans (Kp.set _ _ _ _) fun _ e => .inl e⟩
      clear hb hk HNX HLL hy hy8 he HB
      go_wp2_with fail
      exact ⟨⟨i + 1, by omega, by go_num, HNW.out.1, HNW.out.2⟩, by simp [intOf]; omega⟩
    · obtain rfl : i = 4 := by omega
      have HB2 := Lib.hid hb
      have HK2 := Lib.hid hk
      clear hb hk HNX HB
      go_wp2_with fail
      go_end0
      exact ⟨rfl, HB2.out, HK2.out⟩
end Go.Proofs.YtpckdjapkngpgaaDoor
