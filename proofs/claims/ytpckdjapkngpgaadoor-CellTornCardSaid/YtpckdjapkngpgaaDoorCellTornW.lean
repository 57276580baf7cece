/-
  Law CellTorn, walked: of a cell that was not written to its end nothing is left.
-/
import Derived.Test.YtpckdjapkngpgaaDoorVg
import Derived.Test.YtpckdjapkngpgaaDoorVd
import Derived.Laws.CopyOwn
namespace Go.Proofs.YtpckdjapkngpgaaDoor
open Go.RowKit

namespace Cell
def torn (X : List Int) (t : Nat) : List Int := X.take t ++ List.replicate (64 - t) 0
theorem torn_length {X : List Int} {t : Nat} (hX : X.length = 64) (ht : t < 64) : (torn X t).length = 64 := by
  unfold torn
  rw [List.length_append, List.length_take, List.length_replicate]
  omega
theorem torn_byt {X : List Int} (hb : ∀ x ∈ X, Byt x) (t : Nat) : ∀ x ∈ torn X t, Byt x := fun x hx => by
  rcases List.mem_append.1 hx with h | h
  · exact hb x (List.mem_of_mem_take h)
  · obtain ⟨_, rfl⟩ := List.mem_replicate.1 h
    exact ⟨by decide, by decide⟩
theorem torn_not {X : List Int} {t : Nat} (hb : ∀ x ∈ X, Byt x) (hX : X.length = 64) (ht : t < 64) : ¬ Is (torn X t) := fun h => by
  have h1 := (is_run (torn_byt hb t) h).2
  have hl : (X.take t).length = t := by rw [List.length_take]; omega
  unfold torn at h1
  rw [List.getD_eq_getElem?_getD, List.getElem?_append_right (by omega), hl, List.getElem?_replicate, if_pos (by omega)] at h1
  simp at h1
theorem torn_splice {X : List Int} {t : Nat} (hX : X.length = 64) (ht : t < 64) : (splice ((List.replicate 64 0).map (Value.int .u8)) 0 ((X.take t).map (Value.int .u8))) = (torn X t).map (Value.int .u8) := by
  have hl : (X.take t).length = t := by rw [List.length_take]; omega
  unfold splice torn
  rw [List.take_zero, List.nil_append, List.length_map, hl, Nat.zero_add, List.map_append, ← List.map_drop, List.drop_replicate]
end Cell
set_option maxRecDepth 100000 in
set_option maxHeartbeats 1600000 in
theorem cellTorn_walk (kind : Int) (v : Value) (l : List Int) (at' : Int) (w : World) (O : CellOk w) (h : Bs w v l) :
    Calls Tryd.prog 6 #[.int .i64 kind, v, .int .i64 at'] w fun e w' => e = .returned (.bool true) ∧ Gr w w' := by
  have HO := Lib.hid O
  obtain ⟨o, c, rfl⟩ := h.form5
  have H := Lib.hid h
  obtain ⟨k, hk, hk1, hk2⟩ : ∃ k : Int, kind % 255 = k ∧ 0 ≤ k ∧ k ≤ 254 := ⟨_, rfl, by omega, by omega⟩
  have HK := Lib.hid hk
  obtain ⟨t, ht, ht2⟩ : ∃ t : Nat, at' % 64 = t ∧ t < 64 := ⟨(at' % 64).toNat, by omega, by omega⟩
  have HT := Lib.hid ht
  obtain ⟨cur, hcur⟩ : ∃ cur, cur = rowB (List.replicate 64 0) := ⟨_, rfl⟩
  have hmk : ∀ w : World, (Instr.makeSlice 22 (.int .i64 64) (.int .i64 64)).run Tryd.prog w = .ok (.slice (some ⟨w.heap.size, 0, none⟩) 64 64) (w.alloc (.cells cur 5)) := fun w => by
    rw [hcur]
    exact make22 64 64 (by omega) (by omega) w
  have HCU := Lib.hid hcur
  clear O h hk ht hcur
  go_enter Tryd.func6, Tryd.ntmps6
  go_wp2_with fail
  refine (within_any kind 255 (by omega) (by omega) _).mono ?_
  rw [HK.out]
  rintro e w' ⟨rfl, rfl⟩
  go_wp2_with fail
  refine (cut_any _ l 55 _ H.out (by omega)).mono ?_
  rintro e w' ⟨v1, rfl, hb1, rfl⟩
  obtain ⟨L, hL⟩ : ∃ L, l.take 55 = L := ⟨_, rfl⟩
  rw [hL] at hb1
  have hl : L.length ≤ 55 := by rw [← hL, List.length_take]; omega
  have hm : Cell.MayC (1 + k) L := ⟨by omega, by omega, hl⟩
  have HB := Lib.hid hb1
  have HL := Lib.hid hl
  obtain ⟨X, hX⟩ : ∃ X, Cell.cell (1 + k) L = X := ⟨_, rfl⟩
  have HP : Hid (Cell.put (1 + k) L = X) := Lib.hid (by rw [← hX]; exact Cell.put_in hm)
  have HXL : Hid (X.length = 64) := Lib.hid (by rw [← hX]; exact Cell.cell_length hl)
  have HXB : Hid (∀ x ∈ X, Byt x) := Lib.hid (by rw [← hX]; exact Cell.cell_byt ⟨by omega, by omega⟩ hb1.1)
  have HXI : Hid (Cell.Is X) := Lib.hid (by rw [← hX]; exact Cell.is_cell hm)
  clear hL hb1 hl hm hX
  go_wp2_with fail
  refine (HO.out.put (1 + k) v1 L _ (Gr.refl _) ⟨by omega, by omega⟩ (by have := HL.out; omega) HB.out).mono ?_
  rw [HP.out]
  rintro e w3 ⟨u, rfl, hn⟩
  obtain ⟨gx, cx, hv, hge, hcx, hcm, hwb⟩ := Wb.of_new hn (by rw [HXL.out]; omega)
  rw [HXL.out] at hv hcx
  subst hv
  have HG3 := Lib.hid hn.1
  have HWB := Lib.hid hwb
  clear hn hge hwb HB
  have HNT := Lib.hid (Cell.torn_not HXB.out HXL.out ht2)
  have HTB := Lib.hid (Cell.torn_byt HXB.out t)
  have HTL := Lib.hid (Cell.torn_length HXL.out ht2)
  have HTS := Lib.hid (Cell.torn_splice HXL.out ht2)
  generalize Cell.torn X t = T at *
  have HBX : Hid (Bs w3 (.slice (some ⟨gx, 0, none⟩) 64 cx) X) := Lib.hid (by
    have := HWB.out.bs HXB.out (by rw [HXL.out]; exact hcx) hcm
    rwa [HXL.out] at this)
  have u1 : (64 : Int) ≤ (cx : Int) := by omega
  have u2 : (t : Int) ≤ (cx : Int) := by omega
  have u3 : (0 : Int) ≤ (t : Int) := by omega
  have u4 : (63 : Int) ≤ (cx : Int) := by omega
  clear HWB HXI HP
  go_wp2_with fail
  refine (within_any at' 64 (by omega) (by omega) _).mono ?_
  rintro e w' ⟨rfl, rfl⟩
  rw [HT.out]
  have HSZ : (Tryd.prog.info? 5).map (·.size) = some 1 := by kernel_rfl
  have SZ := Lib.hid HSZ
  clear HSZ
  have HB0 : Hid ((w3.alloc (.cells cur 5)).heap[w3.heap.size]? = some (.cells ((List.replicate 64 0).map (Value.int .u8)).toArray 5 (0, 0))) := Lib.hid (by
    rw [heap_alloc_new, HCU.out]
    rfl)
  have HLC : Hid (((X.take t).map (Value.int .u8)).length = t) := Lib.hid (by rw [List.length_map, List.length_take, HXL.out]; omega)
  have HMI : Hid (((X.take t).map (Value.int .u8)).length = Nat.min t 64) := Lib.hid (by rw [HLC.out]; exact (Nat.min_eq_left (by omega)).symm)
  have HFI : Hid (0 + ((X.take t).map (Value.int .u8)).length ≤ ((List.replicate 64 0).map (Value.int .u8)).length) := Lib.hid (by rw [HLC.out, List.length_map, List.length_replicate]; omega)
  have HON : Hid (∀ u ∈ (X.take t).map (Value.int .u8), u.oneCell' = true) := Lib.hid (by intro u hu; obtain ⟨x, _, rfl⟩ := List.mem_map.1 hu; rfl)
  have HSR : Hid (0 < ((X.take t).map (Value.int .u8)).length → (some ⟨w3.heap.size, 0, none⟩ : Option Addr) = some ⟨w3.heap.size, 0, none⟩ ∧ ∃ ad, (some ⟨gx, 0, none⟩ : Option Addr) = some ad ∧ ∀ j u, ((X.take t).map (Value.int .u8))[j]? = some u → (w3.alloc (.cells cur 5)).cell? (ad.add j) = some u) := Lib.hid fun _ => ⟨rfl, _, rfl, fun j u hu => by
    have hj : j < t := by
      have := (List.getElem?_eq_some_iff.1 hu).1
      rw [HLC.out] at this
      exact this
    obtain ⟨_, oa, c', he, _, _, _, h5⟩ := HBX.out.grown (Gr.alloc (Gr.refl w3) cur 5)
    obtain ⟨ho, _⟩ : some (⟨gx, 0, none⟩ : Addr) = oa ∧ _ := by simpa using he
    have h6 := h5 _ ho.symm j (by rw [HXL.out]; omega)
    rw [List.getElem?_map, List.getElem?_take_of_lt hj, List.getElem?_eq_getElem (by rw [HXL.out]; omega), Option.map_some, Option.some.injEq] at hu
    rw [h6, ← hu, List.getD_eq_getElem?_getD, List.getElem?_eq_getElem (by rw [HXL.out]; omega)]
    rfl⟩
  have HBE : Hid (Below w3.heap.size w3 (w3.alloc (.cells cur 5))) := Lib.hid (Gr.alloc (Gr.refl w3) _ _).below
  have LC : Hid (∀ (ops : Array Oper) (rest : List Oper) (o : Oper) (a : Act) (Q : Exit → Act → World → Prop) (_ : o.guard = none) (d s : Operand) (_ : o.op = .call { callee := .builtin .copy, args := #[d, s], argTypes := #[22, 22] }) (_ : a.eval d = .slice (some ⟨w3.heap.size, 0, none⟩) 64 64) (_ : a.eval s = .slice (some ⟨gx, 0, none⟩) t cx) (_ : ∀ w5, w5.heap[w3.heap.size]? = some (.cells (T.map (Value.int .u8)).toArray 5 (0, 0)) → Gr w3 w5 → wpList Tryd.prog ops Q rest (a.put o.dst (goInt t)) w5), wpList Tryd.prog ops Q (o :: rest) a (w3.alloc (.cells cur 5))) := Lib.hid fun ops rest o a Q hgd d s ho hd hs hx => by
    refine wpList_copy_splice hgd _ _ 22 22 ho 5 Tryd.underlying22 SZ.out (some ⟨w3.heap.size, 0, none⟩) (some ⟨gx, 0, none⟩) 64 64 t cx hd hs w3.heap.size 0 ((List.replicate 64 0).map (Value.int .u8)) 5 HB0.out ((X.take t).map (Value.int .u8)) HMI.out HSR.out HFI.out HON.out w3.heap.size w3 HBE.out (Nat.le_refl _) ?_
    intro w5 hw5 hbel5
    have hw6 := hw5.out
    rw [HTS.out] at hw6
    rw [HLC.out]
    exact hx w5 hw6 (Gr.of hbel5)
  go_wp2_with (refine LC.out _ _ _ _ _ rfl _ _ rfl rfl rfl ?_; intro w5 hw5 hg5; have G5 := Lib.hid hg5; have B5 := Lib.hid hw5; clear hw5 hg5)
  have BT : Hid (Bs w5 (.slice (some ⟨w3.heap.size, 0, none⟩) 64 64) T) := Lib.hid (by
    have h : Blk w5 w3.heap.size T := B5.out
    have := Blk.bs h T 64 (Nat.le_refl _) (by rw [HTL.out]; omega) (by omega) HTB.out fun _ _ => rfl
    rwa [HTL.out] at this)
  have HBX5 := Lib.hid (HBX.out.grown G5.out)
  have HG5 := Lib.hid (Gr.trans HG3.out G5.out)
  have hz0 : ¬ Cell.Is (X.take 63) := fun h => by have := h.1; rw [List.length_take, HXL.out] at this; omega
  have hz1 : ¬ Cell.Is (X ++ [0]) := fun h => by have := h.1; rw [List.length_append, HXL.out] at this; simp at this
  have HZ0 := Lib.hid hz0
  have HZ1 := Lib.hid hz1
  clear hz0 hz1 LC HB0 HLC HMI HFI HON HSR HBE HTS B5 HBX G5 HG3 hmk SZ
  refine (HO.out.take _ T _ HG5.out (by rw [HTL.out]; omega) BT.out).mono ?_
  rw [show Cell.takeK T = 0 from if_neg HNT.out, show Cell.takeX T = [] from if_neg HNT.out, decide_eq_false HNT.out]
  rintro e w6 ⟨u6, rfl, hn6⟩
  obtain ⟨o6, c6, rfl⟩ := hn6.2.form5
  have HG6 := Lib.hid (Gr.trans HG5.out hn6.1)
  have HBX6 := Lib.hid (HBX5.out.grown hn6.1)
  clear hn6 HG5 HBX5 BT
  go_wp2_with fail
  refine (HO.out.take _ (X.take 63) _ HG6.out (by rw [List.length_take, HXL.out]; omega) (Bs.pre5 HBX6.out 63 (by omega))).mono ?_
  rw [show Cell.takeK (X.take 63) = 0 from if_neg HZ0.out, show Cell.takeX (X.take 63) = [] from if_neg HZ0.out, decide_eq_false HZ0.out]
  rintro e w7 ⟨u7, rfl, hn7⟩
  obtain ⟨o7, c7, rfl⟩ := hn7.2.form5
  have HG7 := Lib.hid (Gr.trans HG6.out hn7.1)
  have HBX7 := Lib.hid (HBX6.out.grown hn7.1)
  clear hn7 HG6 HBX6
  go_wp2_with (first
    | (at_builtin; refine wpList_append_bytes rfl _ _ rfl w7.heap.size (.slice o8 64 c8) 64 X rfl (O8.out.alloc _) (some ⟨w8.heap.size, 0, none⟩) 1 1 [0] rfl (lit_bs1 [0] (by simp [Byt]) (by simp)) (by omega) (by have := G8.out.size; simp; omega) ?_; intro v9 w9 ho9 hg9; obtain ⟨o9, c9, rfl⟩ := ownsRow_form ho9; have N9 : Hid (New w7 w9 (.slice o9 65 c9) (X ++ [0])) := Lib.hid (New.of_row (Gr.append (Gr.alloc G8.out _ _) hg9 (ownsRow_base O8.out)) (by intro x hx; rcases List.mem_append.1 hx with h | h; exact HXB.out x h; obtain rfl := List.mem_singleton.1 h; exact ⟨by decide, by decide⟩) (by rw [List.length_append, HXL.out]; exact ho9)); clear ho9 hg9)
    | (at_builtin; refine wpList_append_bytes rfl _ _ rfl w7.heap.size (.slice none 0 0) 0 [] rfl (World.ownsRow_nil _ _ _ _) (some ⟨gx, 0, none⟩) 64 cx X rfl HBX7.out (by omega) (Nat.le_refl _) ?_; intro v8 w8 ho8 hg8; rw [Nat.zero_add, List.nil_append] at ho8; obtain ⟨o8, c8, rfl⟩ := ownsRow_form ho8; have O8 := Lib.hid ho8; have G8 : Hid (Gr w7 w8) := Lib.hid (Gr.append (Gr.refl w7) hg8 (fun _ h => by cases h)); clear ho8 hg8))
  refine (HO.out.take _ (X ++ [0]) _ (Gr.trans HG7.out N9.out.1) (by rw [List.length_append, HXL.out]; simp) (New.bs N9.out)).mono ?_
  rw [show Cell.takeK (X ++ [0]) = 0 from if_neg HZ1.out, show Cell.takeX (X ++ [0]) = [] from if_neg HZ1.out, decide_eq_false HZ1.out]
  rintro e w10 ⟨u10, rfl, hn10⟩
  obtain ⟨o10, c10, rfl⟩ := hn10.2.form5
  have HG10 := Lib.hid (Gr.trans HG7.out (Gr.trans N9.out.1 hn10.1))
  clear hn10 HG7 HBX7 N9 O8 G8
  go_wp2_with fail
  refine (cellWakes_any HO.out _ HG10.out).mono ?_
  rintro e w11 ⟨rfl, hg11⟩
  have HG11 := Lib.hid (Gr.trans HG10.out hg11)
  clear hg11 HG10
  go_wp2_with fail
  go_ret
  exact ⟨rfl, HG11.out⟩
end Go.Proofs.YtpckdjapkngpgaaDoor
