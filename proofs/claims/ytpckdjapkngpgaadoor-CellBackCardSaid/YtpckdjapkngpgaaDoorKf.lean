/-
  The developers' package cell: Put and Take.
-/
import Derived.Test.YtpckdjapkngpgaaDoorKe
import Derived.Test.YtpckdjapkngpgaaDoorKd
namespace Go.Proofs.YtpckdjapkngpgaaDoor
open Go.RowKit

theorem info5c : (Tryd.prog.info? 5).map (·.size) = some 1 := by kernel_rfl
theorem run_copy_begin (w : World) (g : Nat) (ty : TypeId) (h : Blk w g (List.replicate 64 0)) :
    (Builtin.copy_ #[22, 9] ty #[.slice (some ⟨g, 0, none⟩) 64 64, .string ⟨#[87, 115, 1]⟩]).run Tryd.prog w = .ok (goInt 3) (w.setCells g 0 [.int .u8 87, .int .u8 115, .int .u8 1]) := by
  have hst := run_storeCells_cells (P := Tryd.prog) g 0 [.int .u8 87, .int .u8 115, .int .u8 1] 0 w (fun j hj => by
      rw [h.cell (0 + 0 + j) (by simp at hj ⊢; omega)]
      rfl) (fun j _ => h.frz5 _) (by
      intro v hv
      simp only [List.mem_cons, List.not_mem_nil, or_false] at hv
      rcases hv with rfl | rfl | rfl <;> rfl)
  cases hq : Tryd.prog.info? 5 with
  | none =>
    have := info5c
    rw [hq] at this
    cases this
  | some i =>
    simp [Builtin.copy_, run_underlying Tryd.underlying22, Builtin.lenOf, Builtin.firstCells, sizeOf, typeInfo, hq]
    show ((storeCells ⟨g, 0, none⟩ [.int .u8 87, .int .u8 115, .int .u8 1]).run Tryd.prog w).andThen (fun _ w' => Result.ok (goInt 3) w') = _
    rw [hst]
    rfl
theorem wpList_copy_begin {w : World} {ops : Array Oper} {rest : List Oper} {o : Oper} {a : Act} {Q : Exit → Act → World → Prop} (hgd : o.guard = none) (d x : Operand)
    (ho : o.op = .call { callee := .builtin .copy, args := #[d, x], argTypes := #[22, 9] }) (g : Nat) (hg : Blk w g (List.replicate 64 0)) (hd : a.eval d = .slice (some ⟨g, 0, none⟩) 64 64) (hx : a.eval x = .string ⟨#[87, 115, 1]⟩)
    (h : ∀ w', Blk w' g Cell.lay1 → Kp (fun k => k = g) w w' → wpList Tryd.prog ops Q rest (a.put o.dst (goInt 3)) w') : wpList Tryd.prog ops Q (o :: rest) a w := by
  refine wpList_plain hgd fun K hK => ?_
  have hrun := run_copy_begin w g o.type hg
  unfold Oper.wp
  simp [execOp, ho, resolve, invoke, builtin, hd, hx, hrun, Result.andThen]
  refine hK _ _ (h _ ?_ ?_)
  · rw [← Cell.lay1_it]
    exact ((hg.put5 0 87).put5 1 115).put5 2 1
  · exact ((Kp.set _ _ _ _).trans (Kp.set _ _ _ _) fun _ e => .inl e).trans (Kp.set _ _ _ _) fun _ e => .inl e
theorem body_cells {w : World} {oa : Option Addr} {c n g : Nat} {l : List Int} (hb : Bs w (.slice oa n c) l) (hn : l.length = n) : 0 < (l.map (Value.int .u8)).length → (some ⟨g, 4, none⟩ : Option Addr) = some ⟨g, 4, none⟩ ∧ ∃ ad, oa = some ad ∧ ∀ j v, (l.map (Value.int .u8))[j]? = some v → w.cell? (ad.add j) = some v := fun h => by
  obtain ⟨_, oa', c', he, _, _, h4, h5⟩ := hb
  obtain ⟨rfl, _, _⟩ : oa = oa' ∧ n = l.length ∧ c = c' := by simpa using he
  rw [List.length_map] at h
  cases oa with
  | none => have := h4 rfl; omega
  | some ad =>
    refine ⟨rfl, ad, rfl, fun j u hu => ?_⟩
    have hj := (List.getElem?_eq_some_iff.1 hu).1
    rw [List.length_map] at hj
    rw [h5 ad rfl j (by omega)]
    rw [List.getElem?_map, List.getElem?_eq_getElem (by omega), Option.map_some, Option.some.injEq] at hu
    rw [← hu, List.getD_eq_getElem?_getD, List.getElem?_eq_getElem (by omega)]
    rfl
/-- copy of a body behind the first four bytes. -/
theorem wpList_copy_body {w w0 : World} {ops : Array Oper} {rest : List Oper} {o : Oper} {a : Act} {Q : Exit → Act → World → Prop} (hgd : o.guard = none) (d s : Operand)
    (ho : o.op = .call { callee := .builtin .copy, args := #[d, s], argTypes := #[22, 22] }) (g n c : Nat) (k : Int) (oa : Option Addr) (hg : Blk w g (Cell.lay2 k)) (hd : a.eval d = .slice (some ⟨g, 4, none⟩) 60 60)
    (l : List Int) (hs : a.eval s = .slice oa n c) (hb : Bs w (.slice oa n c) l) (hn : l.length = n) (hp : n ≤ 55) (hg0 : Gr w0 w) (hge : w0.heap.size ≤ g)
    (h : ∀ w', Blk w' g (Cell.lay3 k l) → Gr w0 w' → wpList Tryd.prog ops Q rest (a.put o.dst (goInt n)) w') : wpList Tryd.prog ops Q (o :: rest) a w := by
  refine wpList_copy_splice hgd d s 22 22 ho 5 Tryd.underlying22 info5c (some ⟨g, 4, none⟩) oa 60 60 n c hd hs g 4 ((Cell.lay2 k).map (Value.int .u8)) 5 hg (l.map (Value.int .u8)) (by rw [List.length_map, hn]; exact (Nat.min_eq_left (by omega)).symm) (body_cells hb hn) (by rw [List.length_map, List.length_map, hn]; show 4 + n ≤ 64; omega) (fun v hv => by obtain ⟨x, _, rfl⟩ := List.mem_map.1 hv; rfl) w0.heap.size w0 hg0.below hge ?_
  intro w5 hw5 hb5
  have hw6 := hw5.out
  rw [Cell.lay3_it k l (by omega)] at hw6
  rw [List.length_map, hn]
  exact h w5 hw6 (Gr.of hb5)
set_option maxRecDepth 100000 in
set_option maxHeartbeats 1600000 in
theorem put_in {W0 : World} (O : CrcOk W0) (k : Int) (v : Value) (body : List Int) (w : World) (hw : Gr W0 w) (hm : Cell.MayC k body) (h : Bs w v body) :
    Calls Tryd.prog 12 #[.int .i64 k, v] w fun e w' => ∃ u, e = .returned u ∧ New w w' u (Cell.cell k body) := by
  obtain ⟨o, c, rfl⟩ := h.form5
  obtain ⟨n, hn⟩ : ∃ n, body.length = n := ⟨_, rfl⟩
  obtain ⟨hk1, hk2, hk3⟩ := hm
  have HN := Lib.hid hn
  rw [hn] at h hk3 ⊢
  have H := Lib.hid h
  have HO := Lib.hid O
  have HW := Lib.hid hw
  have hmd : k % 256 = k := by omega
  have hmk : ∀ w, (Instr.makeSlice 22 (.int .i64 64) (.int .i64 64)).run Tryd.prog w = .ok (.slice (some ⟨w.heap.size, 0, none⟩) 64 64) (w.alloc (.cells (rowB (List.replicate 64 0)) 5)) := fun w => make22 64 64 (by omega) (by omega) w
  have B1 : Hid (Blk (w.alloc (.cells (rowB (List.replicate 64 0)) 5)) w.heap.size (List.replicate 64 0)) := Lib.hid (heap_alloc_new w _)
  have G1 : Hid (Gr w (w.alloc (.cells (rowB (List.replicate 64 0)) 5))) := Lib.hid (Gr.alloc (Gr.refl _) _ _)
  clear h hn O hw
  generalize hZ : rowB (List.replicate 64 0) = Z at *
  have HZ := Lib.hid hZ
  clear hZ
  go_enter Tryd.func12, Tryd.ntmps12
  go_wp2_with (first
    | (refine wpList_copy_begin rfl _ _ rfl w.heap.size B1.out rfl rfl ?_; intro w2 hb2 hk2; have q2 := hb2.cell 3 (by decide); have f2 := hb2.frz5 3; have B2 := Lib.hid hb2; have G2 := Lib.hid (hk2.gr G1.out fun x e => Nat.le_of_eq e.symm); clear hb2 hk2)
    | (refine wpList_copy_body (w0 := w) rfl _ _ rfl w.heap.size n c k o (B2.out.put5 3 k) rfl body rfl (H.out.grown (Gr.setCell G2.out (Nat.le_refl _) _)) HN.out hk3 (Gr.setCell G2.out (Nat.le_refl _) _) (Nat.le_refl _) ?_; intro w4 hb4 hg4; have B4 := Lib.hid hb4; have G4 := Lib.hid hg4; clear hb4 hg4))
  have LL : Hid ((Cell.lay3 k body).length = 64) := Lib.hid (Cell.lay3_length (by rw [HN.out]; exact hk3))
  have HPL : Hid ((Cell.pre k body).length = 59) := Lib.hid (Cell.pre_length (by rw [HN.out]; exact hk3))
  have BP : Hid (Bs w4 (.slice (some ⟨w.heap.size, 0, none⟩) 59 64) (Cell.pre k body)) := Lib.hid (by
    have := B4.out.bs (Cell.pre k body) 64 (by rw [HPL.out, LL.out]; omega) (by rw [HPL.out]; omega) (by omega) (Cell.pre_byt ⟨hk1, hk2⟩ H.out.1) (fun i hi => by
      unfold Cell.lay3
      rw [List.getD_eq_getElem?_getD, List.getElem?_append_left hi, ← List.getD_eq_getElem?_getD])
    rwa [HPL.out] at this)
  obtain ⟨s, hs⟩ : ∃ s, Crc.sum (Cell.pre k body) = s := ⟨_, rfl⟩
  have HS := Lib.hid hs
  clear hs B1 B2 G1 G2 q2 f2 hmk hmd
  go_region_law (first
    | ((try go_simp); go_at_call 16; refine (HO.out.sum _ (Cell.pre k body) _ (Gr.trans HW.out (Gr.drew G4.out)) (BP.out.grown (Gr.drew (Gr.refl _))) (by rw [HPL.out]; omega)).mono ?_; rw [HS.out]; rintro e w5 ⟨rfl, hg5⟩; have B5 := Lib.hid (B4.out.grown (Gr.trans (Gr.drew (Gr.refl _)) hg5)); have G5 := Lib.hid (Gr.trans (Gr.drew G4.out) hg5); clear hg5)
    | ((try go_simp); go_at_call 21; refine (putSum_any w.heap.size s _ _ B5.out LL.out).mono ?_; rintro e w6 ⟨rfl, hb6, hk6⟩; have q6 := hb6.cell 63 (by rw [Cell.putS_length, LL.out]; omega); have f6 := hb6.frz5 63; have B6 := Lib.hid hb6; have G6 := Lib.hid (hk6.gr G5.out fun x e => Nat.le_of_eq e.symm); clear hb6 hk6))
  all_goals
    go_wp2_with fail
    go_ret
    refine ⟨_, rfl, New.of_blk5 (Gr.setCell G6.out (Nat.le_refl _) _) (Cell.cell_byt ⟨hk1, hk2⟩ H.out.1) (Nat.le_refl _) ?_ (Cell.cell_length (by rw [HN.out]; exact hk3)) (by omega)⟩
    have := B6.out.put5 63 165
    rw [Cell.lay4_it (by rw [HN.out]; exact hk3), ← HS.out] at this
    exact this
set_option maxHeartbeats 800000 in
theorem put_ne (k : Int) (v : Value) (body : List Int) (w : World) (hk : I64 k) (hm : ¬ Cell.MayC k body) (hl : body.length ≤ 1000) (h : Bs w v body) :
    Calls Tryd.prog 12 #[.int .i64 k, v] w fun e w' => e = .returned (.slice none 0 0) ∧ Gr w w' := by
  obtain ⟨o, c, rfl⟩ := h.form5
  obtain ⟨n, hn⟩ : ∃ n, body.length = n := ⟨_, rfl⟩
  unfold Cell.MayC at hm
  unfold I64 at hk
  rw [hn] at hm hl ⊢
  clear h hn
  have hu : ¬ ((1 ≤ k ∧ k ≤ 255) ∧ (n : Int) ≤ 55) := fun c => hm ⟨c.1.1, c.1.2, by omega⟩
  go_enter Tryd.func12, Tryd.ntmps12
  go_wp2_with fail
  all_goals
    go_ret
    exact ⟨rfl, Gr.refl _⟩
theorem put_any {W0 : World} (O : CrcOk W0) (k : Int) (v : Value) (body : List Int) (w : World) (hw : Gr W0 w) (hk : I64 k) (hl : body.length ≤ 1000) (h : Bs w v body) :
    Calls Tryd.prog 12 #[.int .i64 k, v] w fun e w' => ∃ u, e = .returned u ∧ New w w' u (Cell.put k body) := by
  by_cases hm : Cell.MayC k body
  · rw [Cell.put_in hm]
    exact put_in O k v body w hw hm h
  · rw [show Cell.put k body = [] from if_neg hm]
    refine (put_ne k v body w hk hm hl h).mono ?_
    rintro e w' ⟨rfl, hg⟩
    exact ⟨_, rfl, New.nil5 w w' hg⟩
set_option maxRecDepth 100000 in
set_option maxHeartbeats 1600000 in
theorem take_in {W0 : World} (O : CrcOk W0) (v : Value) (b : List Int) (w : World) (hw : Gr W0 w) (h : Bs w v b) (hl : b.length = 64) :
    Calls Tryd.prog 17 #[v] w fun e w' => ∃ u, e = .returned (.tuple #[.int .i64 (Cell.takeK b), u, .bool (decide (Cell.Is b))]) ∧ Gr w w' ∧ Bs w' u (Cell.takeX b) := by
  obtain ⟨ad, c, rfl, h2, h3, hc⟩ := Bs.at h (by omega)
  rw [hl] at h h2 hc ⊢
  have q3 := hc 3 (by omega)
  obtain ⟨ab, ao, asp⟩ := ad
  obtain rfl : asp = none := by
    have h0 := hc 0 (by omega)
    rw [show (Addr.mk ab ao asp).add 0 = ⟨ab, ao, asp⟩ from by simp [Addr.add]] at h0
    simpa using World.cell?_spot h0
  rw [Addr.add_mid] at q3
  have hby := Crc.getD_byt h.1 3
  obtain ⟨x3, hx3⟩ : ∃ x, b.getD 3 0 = x := ⟨_, rfl⟩
  have hx3b : Byt x3 := by rw [← hx3]; exact hby
  rw [hx3] at q3
  have HX3 := Lib.hid hx3
  have H := Lib.hid h
  have HL := Lib.hid hl
  have HO := Lib.hid O
  have HW := Lib.hid hw
  have HM : Hid (Bs w (.slice (some ⟨ab, ao + 4, none⟩) 55 (c - 4)) (Cell.bodyOf b)) := Lib.hid (by
    have := Bs.mid5 h 4 55 (by omega)
    rw [if_neg (by omega), Addr.add_mid] at this
    exact this)
  have HBL : Hid ((Cell.bodyOf b).length = 55) := Lib.hid (by unfold Cell.bodyOf; rw [List.length_take, List.length_drop, hl]; omega)
  have u1 : (59 : Int) ≤ (c : Int) := by omega
  have u2 : ¬ c = 4 := by omega
  unfold Byt at hx3b
  have hwx : IntKind.i64.wrap x3 = x3 := by simp [IntKind.wrap, IntKind.bits, IntKind.signed]; omega
  clear h hl hc hby hx3 O hw
  go_enter Tryd.func17, Tryd.ntmps17
  go_wp2_with fail
  refine (put_any HO.out x3 _ (Cell.bodyOf b) _ HW.out ⟨by omega, by omega⟩ (by rw [HBL.out]; omega) HM.out).mono ?_
  rintro e w5 ⟨u5, rfl, hn5⟩
  by_cases hi : Cell.Is b
  · have e0 : Cell.put x3 (Cell.bodyOf b) = b := by rw [← HX3.out]; exact hi.2
    rw [e0] at hn5
    have E1 : Hid (Cell.takeK b = x3) := Lib.hid (by rw [← HX3.out]; exact if_pos hi)
    have E2 : Hid (Cell.takeX b = Cell.bodyOf b) := Lib.hid (if_pos hi)
    have E3 : Hid (decide (Cell.Is b) = true) := Lib.hid (decide_eq_true hi)
    obtain ⟨g5, c5, rfl, hc5, hm5⟩ := New.shape hn5 (by rw [HL.out]; omega)
    rw [HL.out] at hc5 ⊢
    have N5 := Lib.hid hn5
    have v1 : (59 : Int) ≤ (c5 : Int) := by omega
    have HM5 : Hid (Bs w5 (.slice (some ⟨g5, 4, none⟩) 55 55) (Cell.bodyOf b)) := Lib.hid (by
      have hb5 := New.bs hn5
      rw [HL.out] at hb5
      obtain ⟨k1, oa, c', he, k2, k3, k4, k5⟩ := Bs.mid5 hb5 4 55 (by omega)
      obtain ⟨r1, r2, r3⟩ : (if c5 = 4 then some ⟨g5, 0, none⟩ else some ((⟨g5, 0, none⟩ : Addr).add 4)) = oa ∧ 55 = ((b.drop 4).take 55).length ∧ c5 - 4 = c' := by simpa using he
      rw [if_neg (by omega), Addr.add_mid] at r1
      subst r1
      exact ⟨k1, _, 55, by rw [HBL.out], by rw [HBL.out]; omega, by omega, (fun e => by cases e), k5⟩)
    clear hn5 hi e0
    go_wp2_with fail
    refine (equal_any _ _ b b _ (by have := New.bs N5.out; rwa [HL.out] at this) (H.out.grown N5.out.1)).mono ?_
    rw [beq_self_eq_true]
    rintro e w6 ⟨rfl, rfl⟩
    go_wp2_with fail
    go_region
    go_wp2_with fail
    go_ret3
    rw [E1.out, E2.out, E3.out]
    exact ⟨_, rfl, N5.out.1, HM5.out⟩
  · have E1 : Hid (Cell.takeK b = 0) := Lib.hid (if_neg hi)
    have E2 : Hid (Cell.takeX b = []) := Lib.hid (if_neg hi)
    have E3 : Hid (decide (Cell.Is b) = false) := Lib.hid (decide_eq_false hi)
    have e1 : (Cell.put x3 (Cell.bodyOf b) == b) = false := by
      rw [← HX3.out]
      exact beq_eq_false_iff_ne.2 fun h => hi ⟨HL.out, h⟩
    have HE := Lib.hid e1
    obtain ⟨o5, c5, e5⟩ := (New.bs hn5).form5
    obtain ⟨lp, hlp⟩ : ∃ m, (Cell.put x3 (Cell.bodyOf b)).length = m := ⟨_, rfl⟩
    rw [hlp] at e5
    subst e5
    have N5 := Lib.hid hn5
    clear hn5 hlp hi e1
    go_wp2_with fail
    refine (equal_any _ _ _ b _ (New.bs N5.out) (H.out.grown N5.out.1)).mono ?_
    rw [HE.out]
    rintro e w6 ⟨rfl, rfl⟩
    go_wp2_with fail
    go_ret3
    rw [E1.out, E2.out, E3.out]
    exact ⟨_, rfl, N5.out.1, Bs.nil _⟩
set_option maxHeartbeats 400000 in
theorem take_ne (v : Value) (b : List Int) (w : World) (h : Bs w v b) (hl : ¬ b.length = 64) :
    Calls Tryd.prog 17 #[v] w fun e w' => e = .returned (.tuple #[.int .i64 0, .slice none 0 0, .bool false]) ∧ Gr w w' := by
  obtain ⟨o, c, rfl⟩ := h.form5
  obtain ⟨n, hn⟩ : ∃ n, b.length = n := ⟨_, rfl⟩
  rw [hn] at hl ⊢
  clear h hn
  have h1 : ¬ (n : Int) = 64 := by omega
  go_enter Tryd.func17, Tryd.ntmps17
  go_wp2_with fail
  go_ret3
  exact ⟨rfl, Gr.refl _⟩
theorem take_any {W0 : World} (O : CrcOk W0) (v : Value) (b : List Int) (w : World) (hw : Gr W0 w) (h : Bs w v b) :
    Calls Tryd.prog 17 #[v] w fun e w' => ∃ u, e = .returned (.tuple #[.int .i64 (Cell.takeK b), u, .bool (decide (Cell.Is b))]) ∧ Gr w w' ∧ Bs w' u (Cell.takeX b) := by
  by_cases hl : b.length = 64
  · exact take_in O v b w hw h hl
  · have hi : ¬ Cell.Is b := fun h => hl h.1
    rw [show Cell.takeK b = 0 from if_neg hi, show Cell.takeX b = [] from if_neg hi, decide_eq_false hi]
    refine (take_ne v b w h hl).mono ?_
    rintro e w' ⟨rfl, hg⟩
    exact ⟨_, rfl, hg, Bs.nil _⟩
theorem cell_ok {W0 : World} (O : CrcOk W0) : CellOk W0 := ⟨fun k v body w hg hk hl hb => put_any O k v body w hg hk hl hb, fun v b w hg _ hb => take_any O v b w hg hb⟩
theorem cell_laid {W : World} (h : laidMetH Tryd.prog crcLaid W) : CellOk W := cell_ok (crc_laid h)
end Go.Proofs.YtpckdjapkngpgaaDoor
