/-
  Texts laid behind one another: Vj Vk Vl Vn Vm Vo Wi Vp Vq.
-/
import Derived.Test.YtjkfiimlaigdhaaDoorMgh
import Derived.Laws.ResultCell
import Derived.Deep.DeepCutAuto
import Derived.Test.YtjkfiimlaigdhaaDoorMgb
namespace Go.Proofs.YtjkfiimlaigdhaaDoor
open Go.RowKit

def recL (r : Rcd) (d : List Int) : List Int := Rc.highL r.o.toNat 3 ++ Rc.highL r.b.toNat 1 ++ Rc.highL r.i.toNat 2 ++ [r.K, r.H, r.S] ++ Rc.highL r.s 4 ++ d
def putR (r : Rcd) (d : List Int) : List Int := if MayR r d then Cell.put 1 (recL r d) else []
theorem recL_length (r : Rcd) (d : List Int) : (recL r d).length = 13 + d.length := by
  unfold recL
  simp only [List.length_append, Rc.highL_length, List.length_cons, List.length_nil]
theorem rec_bounds {r : Rcd} {d : List Int} (h : MayR r d) : (0 ≤ r.o ∧ r.o < 16777216) ∧ (0 ≤ r.b ∧ r.b < 8) ∧ (0 ≤ r.i ∧ r.i < 65536) ∧ (1 ≤ r.K ∧ r.K ≤ 16) ∧ (1 ≤ r.H ∧ r.H ≤ 4) ∧ (1 ≤ r.S ∧ r.S ≤ 24) ∧ d.length ≤ 24 := by
  obtain ⟨h1, h2, h3, h4, h5, h6, h7⟩ := h
  unfold MayI at h5
  unfold MayP at h6
  omega
theorem own_low5 {w : World} {base base' : Nat} {e : TypeId} {size : Nat} {v : Value} {n : Nat} {us : List Value} (h : w.ownsRow base' e size v n us) (hb : base ≤ base') : w.ownsRow base e size v n us := by
  obtain ⟨h0, h | ⟨g, c, cur, hv, h1, h2⟩⟩ := h
  · exact ⟨h0, .inl h⟩
  · exact ⟨h0, .inr ⟨g, c, cur, hv, Nat.le_trans hb h1, h2⟩⟩
set_option maxRecDepth 100000 in
set_option maxHeartbeats 1600000 in
theorem refPutR_in (r : Rcd) (v : Value) (d : List Int) (w : World) (h : Bs w v d) (hs : r.s < 4294967296) (hm : MayR r d) :
    Calls Tryd.prog 16 #[r.val v] w fun e w' => ∃ u, e = .returned u ∧ New w w' u (Cell.put 1 (recL r d)) := by
  obtain ⟨o, c, rfl⟩ := h.form5
  obtain ⟨n, hn⟩ : ∃ n, d.length = n := ⟨_, rfl⟩
  have HN := Lib.hid hn
  have hbd := rec_bounds hm
  have HMD := Lib.hid (decide_eq_true hm)
  rw [hn] at h hbd ⊢
  have H := Lib.hid h
  obtain ⟨ro, rb, ri, K, H', S, s⟩ := r
  obtain ⟨⟨a1, a2⟩, ⟨a3, a4⟩, ⟨a5, a6⟩, ⟨a7, a8⟩, ⟨a9, a10⟩, ⟨a11, a12⟩, a13⟩ := hbd
  obtain ⟨no, rfl⟩ : ∃ m : Nat, ro = m := ⟨ro.toNat, by simp only at *; omega⟩
  obtain ⟨nb, rfl⟩ : ∃ m : Nat, rb = m := ⟨rb.toNat, by simp only at *; omega⟩
  obtain ⟨ni, rfl⟩ : ∃ m : Nat, ri = m := ⟨ri.toNat, by simp only at *; omega⟩
  simp only at a2 a4 a6 a7 a8 a9 a10 a11 a12 hs
  have HRM : Hid (∀ W, Bs W (.slice o n c) d → Calls Tryd.prog 13 #[.agg #[.int .i64 no, .int .i64 nb, .int .i64 ni, .int .i64 K, .int .i64 H', .int .i64 S, .int .u32 (s : Int), .slice o n c]] W fun e w' => e = .returned (.bool true) ∧ Gr W w') := Lib.hid fun W hW => by
    have h := refMayR_any ⟨no, nb, ni, K, H', S, s⟩ (.slice o n c) d W hW
    rw [HMD.out] at h
    exact h
  show Calls _ _ #[.agg #[.int .i64 no, .int .i64 nb, .int .i64 ni, .int .i64 K, .int .i64 H', .int .i64 S, .int .u32 (s : Int), _]] _ _
  have HA : Hid (Gr w (w.alloc (.cells #[.int .i64 no, .int .i64 nb, .int .i64 ni, .int .i64 K, .int .i64 H', .int .i64 S, .int .u32 (s : Int), .slice o n c] 27))) := Lib.hid (Gr.alloc (Gr.refl _) _ _)
  have HC : Hid ((w.alloc (.cells #[.int .i64 no, .int .i64 nb, .int .i64 ni, .int .i64 K, .int .i64 H', .int .i64 S, .int .u32 (s : Int), .slice o n c] 27)).heap[w.heap.size]? = some (.cells #[.int .i64 no, .int .i64 nb, .int .i64 ni, .int .i64 K, .int .i64 H', .int .i64 S, .int .u32 (s : Int), .slice o n c] 27 (0, 0))) := Lib.hid (heap_alloc_new _ _)
  clear h hn hm
  go_enter Tryd.func16, Tryd.ntmps16
  go_wp2_with fail
  generalize w.alloc (.cells #[.int .i64 no, .int .i64 nb, .int .i64 ni, .int .i64 K, .int .i64 H', .int .i64 S, .int .u32 (s : Int), .slice o n c] 27) = W0 at *
  generalize hgr : w.heap.size = gr at *
  refine (HRM.out _ (H.out.grown HA.out)).mono ?_
  rintro e w1 ⟨rfl, hg1⟩
  have HC1 := Lib.hid (keptRow hg1 HC.out)
  have HG1 := Lib.hid (Gr.trans HA.out hg1)
  clear hg1 HC HA
  have c0 : w1.cell? ⟨gr, 0, none⟩ = some (.int .i64 no) := by rw [cell_of_row _ _ 0 _ _ _ HC1.out]; rfl
  have c1 : w1.cell? ⟨gr, 1, none⟩ = some (.int .i64 nb) := by rw [cell_of_row _ _ 1 _ _ _ HC1.out]; rfl
  have c2 : w1.cell? ⟨gr, 2, none⟩ = some (.int .i64 ni) := by rw [cell_of_row _ _ 2 _ _ _ HC1.out]; rfl
  have hgl : gr < w1.heap.size := (Array.getElem?_eq_some_iff.1 HC1.out).1
  obtain ⟨B, hB⟩ : ∃ B, w1.heap.size = B := ⟨_, rfl⟩
  have HBB : Hid (B ≤ w1.drew.heap.size) := Lib.hid (by rw [← hB]; exact Nat.le_refl _)
  have HNF : Hid (¬ B ≤ gr) := Lib.hid (by omega)
  have HB1 := Lib.hid hB
  clear hgl hB
  go_wp2_with fail
  go_region_held3 (fun W => W.cell? ⟨gr, 0, none⟩ = some (.int .i64 no) ∧ W.cell? ⟨gr, 1, none⟩ = some (.int .i64 nb) ∧ W.cell? ⟨gr, 2, none⟩ = some (.int .i64 ni)) (first | exact ⟨k40, k41, k42⟩ | exact ⟨k30, k31, k32⟩ | exact ⟨k20, k21, k22⟩ | exact ⟨c0, c1, c2⟩ | go_keep)
    (first
      | (go_at_call 32; have h := O3; clear h; refine (high_any (.slice o3 4 d3) 4 B ni 2 (Rc.highL no 3 ++ Rc.highL nb 1) _ (by omega) (by omega) S3.out O3.out).mono ?_; rintro e w4 ⟨u4, rfl, ho4, hk4⟩; obtain ⟨o4, d4, rfl⟩ := ownsRow_form ho4; have O4 : Hid (w4.ownsRow B 5 1 (.slice o4 6 d4) 6 ((Rc.highL no 3 ++ Rc.highL nb 1 ++ Rc.highL ni 2).map (Value.int .u8))) := Lib.hid ho4; have k40 := hk4.cell (by exact k30) HNF.out; have k41 := hk4.cell (by exact k31) HNF.out; have k42 := hk4.cell (by exact k32) HNF.out; have K4 := Lib.hid (K3.out.trans hk4 fun k e => .inl e); have S4 := Lib.hid (Nat.le_trans S3.out hk4.size); clear ho4 hk4)
      | (go_at_call 32; have h := O2; clear h; refine (high_any (.slice o2 3 d2) 3 B nb 1 (Rc.highL no 3) _ (by omega) (by omega) S2.out O2.out).mono ?_; rintro e w3 ⟨u3, rfl, ho3, hk3⟩; obtain ⟨o3, d3, rfl⟩ := ownsRow_form ho3; have O3 : Hid (w3.ownsRow B 5 1 (.slice o3 4 d3) 4 ((Rc.highL no 3 ++ Rc.highL nb 1).map (Value.int .u8))) := Lib.hid ho3; have k30 := hk3.cell (by exact k20) HNF.out; have k31 := hk3.cell (by exact k21) HNF.out; have k32 := hk3.cell (by exact k22) HNF.out; have K3 := Lib.hid (K2.out.trans hk3 fun k e => .inl e); have S3 := Lib.hid (Nat.le_trans S2.out hk3.size); clear ho3 hk3)
      | (go_at_call 32; refine (high_any (.slice none 0 0) 0 B no 3 [] w1.drew (by omega) (by omega) HBB.out (World.ownsRow_nil _ _ _ _)).mono ?_; rintro e w2 ⟨u2, rfl, ho2, hk2⟩; obtain ⟨o2, d2, rfl⟩ := ownsRow_form ho2; have O2 : Hid (w2.ownsRow B 5 1 (.slice o2 3 d2) 3 ((Rc.highL no 3).map (Value.int .u8))) := Lib.hid ho2; have k20 := hk2.cell (by exact c0) HNF.out; have k21 := hk2.cell (by exact c1) HNF.out; have k22 := hk2.cell (by exact c2) HNF.out; have K2 := Lib.hid hk2; have S2 := Lib.hid (Nat.le_trans HBB.out hk2.size); clear ho2 hk2))
  have HC4 : Hid (w4.heap[gr]? = some (.cells #[.int .i64 no, .int .i64 nb, .int .i64 ni, .int .i64 K, .int .i64 H', .int .i64 S, .int .u32 (s : Int), .slice o n c] 27 (0, 0))) := Lib.hid (K4.out.block HC1.out HNF.out)
  have HG4 : Hid (Gr w w4) := Lib.hid (K4.out.gr (Gr.drew HG1.out) fun k h => Nat.le_trans (by rw [← HB1.out]; exact HG1.out.size) h)
  have H14 : Hid (Gr w1 w4) := Lib.hid (K4.out.gr (Gr.drew (Gr.refl _)) fun k h => by rw [HB1.out]; exact h)
  clear O2 O3 K2 K3 S2 S3 k20 k21 k22 k30 k31 k32 k40 k41 k42 c0 c1 c2
  have c3 : w4.cell? ⟨gr, 3, none⟩ = some (.int .i64 K) := by rw [cell_of_row _ _ 3 _ _ _ HC4.out]; rfl
  have c4 : w4.cell? ⟨gr, 4, none⟩ = some (.int .i64 H') := by rw [cell_of_row _ _ 4 _ _ _ HC4.out]; rfl
  have c5 : w4.cell? ⟨gr, 5, none⟩ = some (.int .i64 S) := by rw [cell_of_row _ _ 5 _ _ _ HC4.out]; rfl
  have m1 : K % 256 = K := by omega
  have m2 : H' % 256 = H' := by omega
  have m3 : S % 256 = S := by omega
  have HKB : Hid (∀ z ∈ [K, H', S], Byt z) := Lib.hid fun z hz => by
    simp only [List.mem_cons, List.not_mem_nil, or_false] at hz
    unfold Byt
    omega
  go_wp2_with (first
    | (at_builtin; refine wpList_append_bytes rfl _ _ rfl B (.slice o4 6 d4) 6 (Rc.highL no 3 ++ Rc.highL nb 1 ++ Rc.highL ni 2) rfl (O4.out.alloc _) (some ⟨w4.heap.size, 0, none⟩) 3 3 [K, H', S] rfl (lit_bs1 _ HKB.out (by simp)) (by omega) (by have := S4.out; simp; omega) ?_; intro v5 w5 ho5 hg5; obtain ⟨o5, d5, rfl⟩ := ownsRow_form ho5; have O5 : Hid (w5.ownsRow B 5 1 (.slice o5 9 d5) 9 ((Rc.highL no 3 ++ Rc.highL nb 1 ++ Rc.highL ni 2 ++ [K, H', S]).map (Value.int .u8))) := Lib.hid ho5; have G5 := Lib.hid hg5; clear ho5 hg5))
  have HC5 : Hid (w5.heap[gr]? = some (.cells #[.int .i64 no, .int .i64 nb, .int .i64 ni, .int .i64 K, .int .i64 H', .int .i64 S, .int .u32 (s : Int), .slice o n c] 27 (0, 0))) := Lib.hid ((kp_grown5 G5.out).block (keptRow (Gr.alloc (Gr.refl w4) _ _) HC4.out) fun e => HNF.out (ownsRow_base O4.out gr e))
  have HG5 : Hid (Gr w w5) := Lib.hid (Gr.append (Gr.alloc HG4.out _ _) G5.out fun k e => Nat.le_trans (by rw [← HB1.out]; exact HG1.out.size) (ownsRow_base O4.out k e))
  have S5 : Hid (B ≤ w5.drew.heap.size) := Lib.hid (Nat.le_trans S4.out (Nat.le_trans (Gr.alloc (Gr.refl w4) _ _).size G5.out.size))
  have HWB : Hid (w.heap.size ≤ B) := Lib.hid (by rw [← HB1.out]; exact HG1.out.size)
  have q6 : w5.cell? ⟨gr, 6, none⟩ = some (.int .u32 (s : Int)) := by rw [cell_of_row _ _ 6 _ _ _ HC5.out]; rfl
  have q7 : w5.cell? ⟨gr, 7, none⟩ = some (.slice o n c) := by rw [cell_of_row _ _ 7 _ _ _ HC5.out]; rfl
  have m4 : IntKind.i64.wrap (s : Int) = s := by simp [IntKind.wrap, IntKind.bits, IntKind.signed]; omega
  have OD5 : Hid (w5.drew.ownsRow B 5 1 (.slice o5 9 d5) 9 ((Rc.highL no 3 ++ Rc.highL nb 1 ++ Rc.highL ni 2 ++ [K, H', S]).map (Value.int .u8))) := O5
  have HRB : Hid (∀ x ∈ recL ⟨no, nb, ni, K, H', S, s⟩ d, Byt x) := Lib.hid fun x hx => by
    unfold recL at hx
    simp only [List.mem_append] at hx
    rcases hx with ((((h | h) | h) | h) | h) | h
    · exact Rc.highL_byt _ _ x h
    · exact Rc.highL_byt _ _ x h
    · exact Rc.highL_byt _ _ x h
    · exact HKB.out x h
    · exact Rc.highL_byt _ _ x h
    · exact H.out.1 x h
  have HRL : Hid ((recL ⟨no, nb, ni, K, H', S, s⟩ d).length = 13 + n) := Lib.hid (by rw [recL_length, HN.out])
  clear c3 c4 c5 m1 m2 m3 O4 G5 K4 S4
  go_region_held3 (fun W => W.cell? ⟨gr, 6, none⟩ = some (.int .u32 (s : Int)) ∧ W.cell? ⟨gr, 7, none⟩ = some (.slice o n c)) (first | exact ⟨k80, k81⟩ | exact ⟨k70, k71⟩ | exact ⟨k60, k61⟩ | exact ⟨q6, q7⟩ | go_keep)
    (first
      | (go_at_call 19; refine (refPut_any 1 (.slice o7 (13 + n) d7) (recL ⟨no, nb, ni, K, H', S, s⟩ d) w7 ⟨by omega, by omega⟩ (by rw [HRL.out]; omega) (New.bs N7.out)).mono ?_; rintro e w8 ⟨u8, rfl, hn8⟩; have k80 := cell_grown hn8.1 (by exact k70); have k81 := cell_grown hn8.1 (by exact k71); have N8 := Lib.hid (New.under N7.out.1 hn8); clear hn8)
      | (refine step_append_bytes rfl _ _ rfl B (.slice o6 13 d6) 13 (Rc.highL no 3 ++ Rc.highL nb 1 ++ Rc.highL ni 2 ++ [K, H', S] ++ Rc.highL s 4) (by rfl) O6.out o n c d (by rfl) (H.out.grown G6.out) (by omega) S6.out ?_; intro v7 w7 ho7 hg7; obtain ⟨o7, d7, rfl⟩ := ownsRow_form ho7; have k70 := hg7.cell (by exact k60) (fun e => HNF.out (ownsRow_base O6.out gr e.symm)); have k71 := hg7.cell (by exact k61) (fun e => HNF.out (ownsRow_base O6.out gr e.symm)); have N7 : Hid (New w w7 (.slice o7 (13 + n) d7) (recL ⟨no, nb, ni, K, H', S, s⟩ d)) := Lib.hid (New.of_row (Gr.append G6.out hg7 fun k e => Nat.le_trans HWB.out (ownsRow_base O6.out k e)) HRB.out (by rw [HRL.out]; exact own_low5 ho7 HWB.out)); clear ho7 hg7)
      | (go_at_call 32; refine (high_any (.slice o5 9 d5) 9 B s 4 (Rc.highL no 3 ++ Rc.highL nb 1 ++ Rc.highL ni 2 ++ [K, H', S]) w5.drew (by omega) (by omega) S5.out OD5.out).mono ?_; rintro e w6 ⟨u6, rfl, ho6, hk6⟩; obtain ⟨o6, d6, rfl⟩ := ownsRow_form ho6; have O6 : Hid (w6.ownsRow B 5 1 (.slice o6 13 d6) 13 ((Rc.highL no 3 ++ Rc.highL nb 1 ++ Rc.highL ni 2 ++ [K, H', S] ++ Rc.highL s 4).map (Value.int .u8))) := Lib.hid ho6; have k60 := hk6.cell (by exact q6) HNF.out; have k61 := hk6.cell (by exact q7) HNF.out; have S6 := Lib.hid (Nat.le_trans S5.out hk6.size); have G6 : Hid (Gr w w6) := Lib.hid (hk6.gr (Gr.drew HG5.out) fun k h => Nat.le_trans HWB.out h); clear ho6 hk6))
  go_wp2_with fail
  go_ret
  exact ⟨_, rfl, N8.out⟩
set_option maxHeartbeats 400000 in
theorem refPutR_ne (r : Rcd) (v : Value) (d : List Int) (w : World) (h : Bs w v d) (hm : ¬ MayR r d) :
    Calls Tryd.prog 16 #[r.val v] w fun e w' => e = .returned (.slice none 0 0) ∧ Gr w w' := by
  obtain ⟨o, c, rfl⟩ := h.form5
  obtain ⟨n, hn⟩ : ∃ n, d.length = n := ⟨_, rfl⟩
  have HMD := Lib.hid (decide_eq_false hm)
  rw [hn] at h ⊢
  have H := Lib.hid h
  obtain ⟨ro, rb, ri, K, H', S, s⟩ := r
  have HRM : Hid (∀ W, Bs W (.slice o n c) d → Calls Tryd.prog 13 #[.agg #[.int .i64 ro, .int .i64 rb, .int .i64 ri, .int .i64 K, .int .i64 H', .int .i64 S, .int .u32 (s : Int), .slice o n c]] W fun e w' => e = .returned (.bool false) ∧ Gr W w') := Lib.hid fun W hW => by
    have h := refMayR_any ⟨ro, rb, ri, K, H', S, s⟩ (.slice o n c) d W hW
    rw [HMD.out] at h
    exact h
  show Calls _ _ #[.agg #[.int .i64 ro, .int .i64 rb, .int .i64 ri, .int .i64 K, .int .i64 H', .int .i64 S, .int .u32 (s : Int), _]] _ _
  have HA : Hid (Gr w (w.alloc (.cells #[.int .i64 ro, .int .i64 rb, .int .i64 ri, .int .i64 K, .int .i64 H', .int .i64 S, .int .u32 (s : Int), .slice o n c] 27))) := Lib.hid (Gr.alloc (Gr.refl _) _ _)
  clear h hn hm
  go_enter Tryd.func16, Tryd.ntmps16
  go_wp2_with fail
  refine (HRM.out _ (H.out.grown HA.out)).mono ?_
  rintro e w1 ⟨rfl, hg1⟩
  have HG1 := Lib.hid (Gr.trans HA.out hg1)
  clear hg1
  go_wp2_with fail
  go_ret
  exact ⟨rfl, HG1.out⟩
theorem refPutR_any (r : Rcd) (v : Value) (d : List Int) (w : World) (hs : r.s < 4294967296) (h : Bs w v d) :
    Calls Tryd.prog 16 #[r.val v] w fun e w' => ∃ u, e = .returned u ∧ New w w' u (putR r d) := by
  by_cases hm : MayR r d
  · rw [show putR r d = Cell.put 1 (recL r d) from if_pos hm]
    exact refPutR_in r v d w h hs hm
  · rw [show putR r d = [] from if_neg hm]
    refine (refPutR_ne r v d w h hm).mono ?_
    rintro e w' ⟨rfl, hg⟩
    exact ⟨_, rfl, New.nil5 w w' hg⟩
end Go.Proofs.YtjkfiimlaigdhaaDoor
namespace Go.Proofs.YtjkfiimlaigdhaaDoor
open Go.RowKit

def rcdOf (x : List Int) : Rcd := ⟨(Rc.num 0 (x.take 3) : Nat), x.getD 3 0, (Rc.num 0 ((x.drop 4).take 2) : Nat), x.getD 6 0, x.getD 7 0, x.getD 8 0, Rc.num 0 ((x.drop 9).take 4)⟩
def datOf (x : List Int) : List Int := (x.drop 13).take (rcdOf x).S.toNat
/-- These bytes are a record's cell. -/
def IsR (b : List Int) : Prop := Cell.Is b ∧ b.getD 3 0 = 1 ∧ MayP (rcdOf (Cell.bodyOf b)).K (rcdOf (Cell.bodyOf b)).H (rcdOf (Cell.bodyOf b)).S ∧ putR (rcdOf (Cell.bodyOf b)) (datOf (Cell.bodyOf b)) = b
instance (b : List Int) : Decidable (IsR b) := by unfold IsR; exact inferInstance
theorem recL_mayC {r : Rcd} {d : List Int} (h : MayR r d) : Cell.MayC 1 (recL r d) := ⟨by omega, by omega, by rw [recL_length]; have := (rec_bounds h).2.2.2.2.2.2; omega⟩
theorem rcd_back {r : Rcd} {d : List Int} (h : MayR r d) (hs : r.s < 4294967296) : rcdOf (Cell.pad (recL r d)) = r ∧ datOf (Cell.pad (recL r d)) = d := by
  obtain ⟨⟨a1, a2⟩, ⟨a3, a4⟩, ⟨a5, a6⟩, ⟨a7, a8⟩, ⟨a9, a10⟩, ⟨a11, a12⟩, a13⟩ := rec_bounds h
  have hlen : (d.length : Int) = r.S := h.2.2.2.2.2.2
  have e1 : (Cell.pad (recL r d)).take 3 = Rc.highL r.o.toNat 3 := rfl
  have e2 : (Cell.pad (recL r d)).getD 3 0 = ((r.b.toNat / 256 ^ 0 % 256 : Nat) : Int) := rfl
  have e3 : ((Cell.pad (recL r d)).drop 4).take 2 = Rc.highL r.i.toNat 2 := rfl
  have e4 : (Cell.pad (recL r d)).getD 6 0 = r.K := rfl
  have e5 : (Cell.pad (recL r d)).getD 7 0 = r.H := rfl
  have e6 : (Cell.pad (recL r d)).getD 8 0 = r.S := rfl
  have e7 : ((Cell.pad (recL r d)).drop 9).take 4 = Rc.highL r.s 4 := rfl
  have e8 : (Cell.pad (recL r d)).drop 13 = d ++ List.replicate (55 - (recL r d).length) 0 := rfl
  have hr : rcdOf (Cell.pad (recL r d)) = r := by
    obtain ⟨o, b, i, K, H, S, s⟩ := r
    unfold rcdOf
    rw [e1, e2, e3, e4, e5, e6, e7, Rc.num_highL, Rc.num_highL, Rc.num_highL]
    clear e1 e2 e3 e4 e5 e6 e7 e8
    simp only at a1 a2 a3 a4 a5 a6 hs
    have p1 : (0 * 256 ^ 3 + o.toNat % 256 ^ 3 : Nat) = o.toNat := by rw [show (256 : Nat) ^ 3 = 16777216 from rfl]; omega
    have p2 : (b.toNat / 256 ^ 0 % 256 : Nat) = b.toNat := by rw [show (256 : Nat) ^ 0 = 1 from rfl]; omega
    have p3 : (0 * 256 ^ 2 + i.toNat % 256 ^ 2 : Nat) = i.toNat := by rw [show (256 : Nat) ^ 2 = 65536 from rfl]; omega
    have p4 : (0 * 256 ^ 4 + s % 256 ^ 4 : Nat) = s := by rw [show (256 : Nat) ^ 4 = 4294967296 from rfl]; omega
    show (⟨_, _, _, K, H, S, _⟩ : Rcd) = _
    rw [p1, p2, p3, p4, Int.toNat_of_nonneg a1, Int.toNat_of_nonneg a3, Int.toNat_of_nonneg a5]
  refine ⟨hr, ?_⟩
  unfold datOf
  rw [hr, e8]
  have : r.S.toNat = d.length := by omega
  rw [this]
  exact List.take_left' rfl
theorem isR_cell {r : Rcd} {d : List Int} (h : MayR r d) (hs : r.s < 4294967296) : IsR (Cell.put 1 (recL r d)) ∧ rcdOf (Cell.bodyOf (Cell.put 1 (recL r d))) = r ∧ datOf (Cell.bodyOf (Cell.put 1 (recL r d))) = d := by
  have hm := recL_mayC h
  rw [Cell.put_in hm]
  have hb := Cell.bodyOf_cell (k := 1) hm.2.2
  obtain ⟨h1, h2⟩ := rcd_back h hs
  unfold IsR
  rw [hb, h1, h2]
  refine ⟨⟨Cell.is_cell hm, Cell.cell_three 1 _, h.2.2.2.2.2.1, ?_⟩, rfl, rfl⟩
  rw [show putR r d = Cell.put 1 (recL r d) from if_pos h, Cell.put_in hm]
/-- Records whose cells are alike are alike. -/
theorem putR_inj {r r' : Rcd} {d d' : List Int} (h : MayR r d) (hs : r.s < 4294967296) (h' : MayR r' d') (hs' : r'.s < 4294967296) (he : putR r d = putR r' d') : r = r' ∧ d = d' := by
  rw [show putR r d = Cell.put 1 (recL r d) from if_pos h, show putR r' d' = Cell.put 1 (recL r' d') from if_pos h'] at he
  obtain ⟨_, a1, a2⟩ := isR_cell h hs
  obtain ⟨_, b1, b2⟩ := isR_cell h' hs'
  rw [he] at a1 a2
  exact ⟨a1.symm.trans b1, a2.symm.trans b2⟩
end Go.Proofs.YtjkfiimlaigdhaaDoor
namespace Go.Proofs.YtjkfiimlaigdhaaDoor
open Go.RowKit

set_option maxRecDepth 100000 in
set_option maxHeartbeats 3200000 in
theorem sameR_any (r r' : Rcd) (v v' : Value) (d d' : List Int) (w : World) (bm : Bool) (hbm : bm = true ↔ r = r' ∧ d = d') (h : Bs w v d) (h' : Bs w v' d') :
    Calls Tryd.prog 22 #[r.val v, r'.val v'] w fun e w' => e = .returned (.bool bm) ∧ Gr w w' := by
  obtain ⟨o, c, rfl⟩ := h.form5
  obtain ⟨o2, c2, rfl⟩ := h'.form5
  obtain ⟨n, hn⟩ : ∃ n, d.length = n := ⟨_, rfl⟩
  obtain ⟨n2, hn2⟩ : ∃ n, d'.length = n := ⟨_, rfl⟩
  rw [hn] at h ⊢
  rw [hn2] at h' ⊢
  have H := Lib.hid h
  have H' := Lib.hid h'
  obtain ⟨ro, rb, ri, K, Hh, S, s⟩ := r
  obtain ⟨ro', rb', ri', K', Hh', S', s'⟩ := r'
  have HF : Hid (¬ (ro = ro' ∧ rb = rb' ∧ ri = ri' ∧ K = K' ∧ Hh = Hh' ∧ S = S' ∧ s = s') → bm = false) := Lib.hid fun hne => by
    cases bm with
    | false => rfl
    | true => exact absurd (by simpa using (hbm.1 rfl).1) hne
  have HT : Hid ((ro = ro' ∧ rb = rb' ∧ ri = ri' ∧ K = K' ∧ Hh = Hh' ∧ S = S' ∧ s = s') → bm = (d == d')) := Lib.hid fun he => by
    obtain ⟨rfl, rfl, rfl, rfl, rfl, rfl, rfl⟩ := he
    by_cases hd : d = d'
    · rw [hbm.2 ⟨rfl, hd⟩]
      exact (beq_iff_eq.2 hd).symm
    · rw [beq_eq_false_iff_ne.2 hd]
      cases bm with
      | false => rfl
      | true => exact absurd (hbm.1 rfl).2 hd
  show Calls _ _ #[.agg #[.int .i64 ro, .int .i64 rb, .int .i64 ri, .int .i64 K, .int .i64 Hh, .int .i64 S, .int .u32 (s : Int), .slice o n c], .agg #[.int .i64 ro', .int .i64 rb', .int .i64 ri', .int .i64 K', .int .i64 Hh', .int .i64 S', .int .u32 (s' : Int), .slice o2 n2 c2]] _ _
  have HA : Hid (Gr w ((w.alloc (.cells #[.int .i64 ro, .int .i64 rb, .int .i64 ri, .int .i64 K, .int .i64 Hh, .int .i64 S, .int .u32 (s : Int), .slice o n c] 27)).alloc (.cells #[.int .i64 ro', .int .i64 rb', .int .i64 ri', .int .i64 K', .int .i64 Hh', .int .i64 S', .int .u32 (s' : Int), .slice o2 n2 c2] 27))) := Lib.hid (Gr.alloc (Gr.alloc (Gr.refl _) _ _) _ _)
  clear h h' hn hn2 hbm
  go_enter Tryd.func22, Tryd.ntmps22
  by_cases e1 : ro = ro'
  rotate_left
  · obtain rfl := HF.out fun h => e1 h.1
    go_wp2_with fail
    go_ret
    exact ⟨rfl, HA.out⟩
  subst e1
  by_cases e2 : rb = rb'
  rotate_left
  · obtain rfl := HF.out fun h => e2 h.2.1
    go_wp2_with fail
    go_ret
    exact ⟨rfl, HA.out⟩
  subst e2
  by_cases e3 : ri = ri'
  rotate_left
  · obtain rfl := HF.out fun h => e3 h.2.2.1
    go_wp2_with fail
    go_ret
    exact ⟨rfl, HA.out⟩
  subst e3
  by_cases e4 : K = K'
  rotate_left
  · obtain rfl := HF.out fun h => e4 h.2.2.2.1
    go_wp2_with fail
    go_ret
    exact ⟨rfl, HA.out⟩
  subst e4
  by_cases e5 : Hh = Hh'
  rotate_left
  · obtain rfl := HF.out fun h => e5 h.2.2.2.2.1
    go_wp2_with fail
    go_ret
    exact ⟨rfl, HA.out⟩
  subst e5
  by_cases e6 : S = S'
  rotate_left
  · obtain rfl := HF.out fun h => e6 h.2.2.2.2.2.1
    go_wp2_with fail
    go_ret
    exact ⟨rfl, HA.out⟩
  subst e6
  by_cases e7 : s = s'
  rotate_left
  · obtain rfl := HF.out fun h => e7 h.2.2.2.2.2.2
    have e8 : ¬ (s : Int) = (s' : Int) := by omega
    go_wp2_with fail
    go_ret
    exact ⟨rfl, HA.out⟩
  subst e7
  have HBM := Lib.hid (HT.out ⟨rfl, rfl, rfl, rfl, rfl, rfl, rfl⟩)
  clear HF HT
  go_wp2_with fail
  refine (same_any _ _ d d' _ (H.out.grown HA.out) (H'.out.grown HA.out)).mono ?_
  rw [← HBM.out]
  rintro e w1 ⟨rfl, hg1⟩
  have HG1 := Lib.hid (Gr.trans HA.out hg1)
  clear hg1
  go_wp2_with fail
  go_ret
  exact ⟨rfl, HG1.out⟩
end Go.Proofs.YtjkfiimlaigdhaaDoor
namespace Go.Proofs.YtjkfiimlaigdhaaDoor
open Go.RowKit

/-- A record lies in block g. -/
def RcAt (w : World) (g : Nat) (r : Rcd) (v : Value) : Prop := w.heap[g]? = some (.cells #[.int .i64 r.o, .int .i64 r.b, .int .i64 r.i, .int .i64 r.K, .int .i64 r.H, .int .i64 r.S, .int .u32 (r.s : Int), v] 27 (0, 0))
theorem RcAt.grown {w w' : World} {g : Nat} {r : Rcd} {v : Value} (h : RcAt w g r v) (hg : Gr w w') : RcAt w' g r v := keptRow hg h
theorem RcAt.cell {w : World} {g : Nat} {r : Rcd} {v : Value} (h : RcAt w g r v) : w.cell? ⟨g, 0, none⟩ = some (.int .i64 r.o) ∧ w.cell? ⟨g, 1, none⟩ = some (.int .i64 r.b) ∧ w.cell? ⟨g, 2, none⟩ = some (.int .i64 r.i) ∧ w.cell? ⟨g, 3, none⟩ = some (.int .i64 r.K) ∧ w.cell? ⟨g, 4, none⟩ = some (.int .i64 r.H) ∧ w.cell? ⟨g, 5, none⟩ = some (.int .i64 r.S) ∧ w.cell? ⟨g, 6, none⟩ = some (.int .u32 (r.s : Int)) ∧ w.cell? ⟨g, 7, none⟩ = some (v) := by
  refine ⟨?_, ?_, ?_, ?_, ?_, ?_, ?_, ?_⟩
  · rw [cell_of_row _ _ 0 _ _ _ h]; rfl
  · rw [cell_of_row _ _ 1 _ _ _ h]; rfl
  · rw [cell_of_row _ _ 2 _ _ _ h]; rfl
  · rw [cell_of_row _ _ 3 _ _ _ h]; rfl
  · rw [cell_of_row _ _ 4 _ _ _ h]; rfl
  · rw [cell_of_row _ _ 5 _ _ _ h]; rfl
  · rw [cell_of_row _ _ 6 _ _ _ h]; rfl
  · rw [cell_of_row _ _ 7 _ _ _ h]; rfl
theorem RcAt.frozen {w : World} {g : Nat} {r : Rcd} {v : Value} (h : RcAt w g r v) : w.frozen? ⟨g, 0, none⟩ = false ∧ w.frozen? ⟨g, 1, none⟩ = false ∧ w.frozen? ⟨g, 2, none⟩ = false ∧ w.frozen? ⟨g, 3, none⟩ = false ∧ w.frozen? ⟨g, 4, none⟩ = false ∧ w.frozen? ⟨g, 5, none⟩ = false ∧ w.frozen? ⟨g, 6, none⟩ = false ∧ w.frozen? ⟨g, 7, none⟩ = false :=
  ⟨frozen_of_row w g 0 _ _ h, frozen_of_row w g 1 _ _ h, frozen_of_row w g 2 _ _ h, frozen_of_row w g 3 _ _ h, frozen_of_row w g 4 _ _ h, frozen_of_row w g 5 _ _ h, frozen_of_row w g 6 _ _ h, frozen_of_row w g 7 _ _ h⟩
theorem RcAt.put {w : World} {g : Nat} {r : Rcd} {v : Value} (h : RcAt w g r v) (r' : Rcd) (v' : Value) :
    RcAt ((((((((w.setCell ⟨g, 0, none⟩ (.int .i64 r'.o)).setCell ⟨g, 1, none⟩ (.int .i64 r'.b)).setCell ⟨g, 2, none⟩ (.int .i64 r'.i)).setCell ⟨g, 3, none⟩ (.int .i64 r'.K)).setCell ⟨g, 4, none⟩ (.int .i64 r'.H)).setCell ⟨g, 5, none⟩ (.int .i64 r'.S)).setCell ⟨g, 6, none⟩ (.int .u32 (r'.s : Int))).setCell ⟨g, 7, none⟩ (v')) g r' v' := by
  unfold RcAt at h ⊢
  replace h := heap_setCell_same _ g 0 _ _ (.int .i64 r'.o) h
  simp only [List.setIfInBounds_toArray, List.set_cons_zero] at h
  replace h := heap_setCell_same _ g 1 _ _ (.int .i64 r'.b) h
  simp only [List.setIfInBounds_toArray, List.set_cons_zero, List.set_cons_succ] at h
  replace h := heap_setCell_same _ g 2 _ _ (.int .i64 r'.i) h
  simp only [List.setIfInBounds_toArray, List.set_cons_zero, List.set_cons_succ] at h
  replace h := heap_setCell_same _ g 3 _ _ (.int .i64 r'.K) h
  simp only [List.setIfInBounds_toArray, List.set_cons_zero, List.set_cons_succ] at h
  replace h := heap_setCell_same _ g 4 _ _ (.int .i64 r'.H) h
  simp only [List.setIfInBounds_toArray, List.set_cons_zero, List.set_cons_succ] at h
  replace h := heap_setCell_same _ g 5 _ _ (.int .i64 r'.S) h
  simp only [List.setIfInBounds_toArray, List.set_cons_zero, List.set_cons_succ] at h
  replace h := heap_setCell_same _ g 6 _ _ (.int .u32 (r'.s : Int)) h
  simp only [List.setIfInBounds_toArray, List.set_cons_zero, List.set_cons_succ] at h
  replace h := heap_setCell_same _ g 7 _ _ (v') h
  simp only [List.setIfInBounds_toArray, List.set_cons_zero, List.set_cons_succ] at h
  exact h
theorem rec_gr {w0 w : World} {g : Nat} (hg : Gr w0 w) (hb : w0.heap.size ≤ g) (r' : Rcd) (v' : Value) :
    Gr w0 ((((((((w.setCell ⟨g, 0, none⟩ (.int .i64 r'.o)).setCell ⟨g, 1, none⟩ (.int .i64 r'.b)).setCell ⟨g, 2, none⟩ (.int .i64 r'.i)).setCell ⟨g, 3, none⟩ (.int .i64 r'.K)).setCell ⟨g, 4, none⟩ (.int .i64 r'.H)).setCell ⟨g, 5, none⟩ (.int .i64 r'.S)).setCell ⟨g, 6, none⟩ (.int .u32 (r'.s : Int))).setCell ⟨g, 7, none⟩ (v')) :=
  (((((((hg.setCell hb _).setCell hb _).setCell hb _).setCell hb _).setCell hb _).setCell hb _).setCell hb _).setCell hb _
theorem far8 {w : World} {g g' : Nat} (hne : g' ≠ g) (i : Nat) {x0 x1 x2 x3 x4 x5 x6 x7 : Value} :
    ((((((((w.setCell ⟨g, 0, none⟩ x0).setCell ⟨g, 1, none⟩ x1).setCell ⟨g, 2, none⟩ x2).setCell ⟨g, 3, none⟩ x3).setCell ⟨g, 4, none⟩ x4).setCell ⟨g, 5, none⟩ x5).setCell ⟨g, 6, none⟩ x6).setCell ⟨g, 7, none⟩ x7).cell? ⟨g', i, none⟩ = w.cell? ⟨g', i, none⟩ := by
  have h : ∀ k, (⟨g, k, none⟩ : Addr) ≠ ⟨g', i, none⟩ := fun k e => hne (by cases e; rfl)
  simp only [World.cell?_setCell_other _ _ _ _ (h _)]
theorem heap8 {w : World} {g k : Nat} (hne : k ≠ g) {x0 x1 x2 x3 x4 x5 x6 x7 : Value} :
    ((((((((w.setCell ⟨g, 0, none⟩ x0).setCell ⟨g, 1, none⟩ x1).setCell ⟨g, 2, none⟩ x2).setCell ⟨g, 3, none⟩ x3).setCell ⟨g, 4, none⟩ x4).setCell ⟨g, 5, none⟩ x5).setCell ⟨g, 6, none⟩ x6).setCell ⟨g, 7, none⟩ x7).heap[k]? = w.heap[k]? := by
  have h : ∀ (W : World) i (v : Value), (W.setCell ⟨g, i, none⟩ v).heap[k]? = W.heap[k]? := fun W i v => heap_setCell_other W ⟨g, i, none⟩ k v hne
  simp only [h]
theorem New.far5 {w w1 w2 w3 : World} {v : Value} {l : List Int} (hg : Gr w w3) (h : New w1 w2 v l) (hw : w.heap.size ≤ w1.heap.size) (he : ∀ k, w1.heap.size ≤ k → w3.heap[k]? = w2.heap[k]?) : New w w3 v l := by
  obtain ⟨h1, h2, h3⟩ := h
  refine ⟨hg, h2, ?_⟩
  rcases h3 with h3 | ⟨g, c, cur, e1, e2, e3, e4⟩
  · exact .inl h3
  · exact .inr ⟨g, c, cur, e1, Nat.le_trans hw e2, (he g e2).trans e3, e4⟩
theorem RcAt.bytes {w : World} {g : Nat} {r : Rcd} {v : Value} (h : RcAt w g r v) (v' : Value) : RcAt (w.setCell ⟨g, 7, none⟩ v') g r v' := by
  unfold RcAt at h ⊢
  replace h := heap_setCell_same _ g 7 _ _ v' h
  simp only [List.setIfInBounds_toArray, List.set_cons_zero, List.set_cons_succ] at h
  exact h
theorem RcAt.set_o {w : World} {g : Nat} {r : Rcd} {v : Value} (h : RcAt w g r v) (x : Int) : RcAt (w.setCell ⟨g, 0, none⟩ (.int .i64 x)) g { r with o := x } v := by
  unfold RcAt at h ⊢
  replace h := heap_setCell_same _ g 0 _ _ (.int .i64 x) h
  simp only [List.setIfInBounds_toArray, List.set_cons_zero] at h
  exact h
theorem RcAt.set_b {w : World} {g : Nat} {r : Rcd} {v : Value} (h : RcAt w g r v) (x : Int) : RcAt (w.setCell ⟨g, 1, none⟩ (.int .i64 x)) g { r with b := x } v := by
  unfold RcAt at h ⊢
  replace h := heap_setCell_same _ g 1 _ _ (.int .i64 x) h
  simp only [List.setIfInBounds_toArray, List.set_cons_zero, List.set_cons_succ] at h
  exact h
theorem RcAt.set_i {w : World} {g : Nat} {r : Rcd} {v : Value} (h : RcAt w g r v) (x : Int) : RcAt (w.setCell ⟨g, 2, none⟩ (.int .i64 x)) g { r with i := x } v := by
  unfold RcAt at h ⊢
  replace h := heap_setCell_same _ g 2 _ _ (.int .i64 x) h
  simp only [List.setIfInBounds_toArray, List.set_cons_zero, List.set_cons_succ] at h
  exact h
theorem RcAt.set_K {w : World} {g : Nat} {r : Rcd} {v : Value} (h : RcAt w g r v) (x : Int) : RcAt (w.setCell ⟨g, 3, none⟩ (.int .i64 x)) g { r with K := x } v := by
  unfold RcAt at h ⊢
  replace h := heap_setCell_same _ g 3 _ _ (.int .i64 x) h
  simp only [List.setIfInBounds_toArray, List.set_cons_zero, List.set_cons_succ] at h
  exact h
theorem RcAt.set_H {w : World} {g : Nat} {r : Rcd} {v : Value} (h : RcAt w g r v) (x : Int) : RcAt (w.setCell ⟨g, 4, none⟩ (.int .i64 x)) g { r with H := x } v := by
  unfold RcAt at h ⊢
  replace h := heap_setCell_same _ g 4 _ _ (.int .i64 x) h
  simp only [List.setIfInBounds_toArray, List.set_cons_zero, List.set_cons_succ] at h
  exact h
theorem RcAt.set_S {w : World} {g : Nat} {r : Rcd} {v : Value} (h : RcAt w g r v) (x : Int) : RcAt (w.setCell ⟨g, 5, none⟩ (.int .i64 x)) g { r with S := x } v := by
  unfold RcAt at h ⊢
  replace h := heap_setCell_same _ g 5 _ _ (.int .i64 x) h
  simp only [List.setIfInBounds_toArray, List.set_cons_zero, List.set_cons_succ] at h
  exact h
theorem RcAt.set_s {w : World} {g : Nat} {r : Rcd} {v : Value} (h : RcAt w g r v) (x : Nat) : RcAt (w.setCell ⟨g, 6, none⟩ (.int .u32 (x : Int))) g { r with s := x } v := by
  unfold RcAt at h ⊢
  replace h := heap_setCell_same _ g 6 _ _ (.int .u32 (x : Int)) h
  simp only [List.setIfInBounds_toArray, List.set_cons_zero, List.set_cons_succ] at h
  exact h
theorem RcAt.other {w : World} {g g' : Nat} {r : Rcd} {v : Value} (h : RcAt w g r v) (hne : g ≠ g') (i : Nat) (v' : Value) : RcAt (w.setCell ⟨g', i, none⟩ v') g r v := (heap_setCell_other _ _ _ _ hne).trans h
theorem rec_far {w : World} {g g' : Nat} (hne : g' ≠ g) (i : Nat) (r' : Rcd) (v' : Value) :
    ((((((((w.setCell ⟨g, 0, none⟩ (.int .i64 r'.o)).setCell ⟨g, 1, none⟩ (.int .i64 r'.b)).setCell ⟨g, 2, none⟩ (.int .i64 r'.i)).setCell ⟨g, 3, none⟩ (.int .i64 r'.K)).setCell ⟨g, 4, none⟩ (.int .i64 r'.H)).setCell ⟨g, 5, none⟩ (.int .i64 r'.S)).setCell ⟨g, 6, none⟩ (.int .u32 (r'.s : Int))).setCell ⟨g, 7, none⟩ (v')).cell? ⟨g', i, none⟩ = w.cell? ⟨g', i, none⟩ := by
  have h : ∀ k, (⟨g, k, none⟩ : Addr) ≠ ⟨g', i, none⟩ := fun k e => hne (by cases e; rfl)
  simp only [World.cell?_setCell_other _ _ _ _ (h _)]
theorem Bs.far5 {w w' : World} {g o n c : Nat} {l : List Int} (h : Bs w (.slice (some ⟨g, o, none⟩) n c) l) (he : ∀ i, w'.cell? ⟨g, i, none⟩ = w.cell? ⟨g, i, none⟩) : Bs w' (.slice (some ⟨g, o, none⟩) n c) l := by
  obtain ⟨h0, oa, c', hv, h2, h3, h4, h5⟩ := h
  refine ⟨h0, oa, c', hv, h2, h3, h4, fun a ha i hi => ?_⟩
  have h6 := h5 a ha i hi
  rw [ha] at hv
  obtain ⟨rfl, -, -⟩ : ⟨g, o, none⟩ = a ∧ _ ∧ _ := by simpa using hv
  rw [Addr.add_mid] at h6 ⊢
  rw [he, h6]
theorem RcAt.load {w : World} {g : Nat} {r : Rcd} {v : Value} (h : RcAt w g r v) : (loadVar 27 ⟨g, 0, none⟩).run Tryd.prog w = .ok (r.val v) w :=
  run_loadVar_mid w g 0 27 [.int .i64 r.o, .int .i64 r.b, .int .i64 r.i, .int .i64 r.K, .int .i64 r.H, .int .i64 r.S, .int .u32 (r.s : Int), v] _ (fun j v hv => by
    rw [Nat.zero_add, cell_of_row _ _ _ _ _ _ h]
    simpa using hv) Tryd.underlying27 rfl (by kernel_rfl)
theorem rec_res {W : World} {g : Nat} {u : Value} {v : Value} (h : (loadVar 27 ⟨g, 0, none⟩).run Tryd.prog W = .ok v W) :
    (((asAddr (.pointer (some ⟨g, 0, none⟩))).run Tryd.prog W).andThen fun a w₁ => ((loadVar 27 a).run Tryd.prog w₁).andThen fun v w₂ => Result.ok (Value.tuple #[v, u]) w₂) = .ok (.tuple #[v, u]) W := by
  simp only [asAddr, Sem.run_pure, Result.andThen_ok, h]
end Go.Proofs.YtjkfiimlaigdhaaDoor
namespace Go.Proofs.YtjkfiimlaigdhaaDoor
open Go.RowKit

def rcd0 : Rcd := ⟨0, 0, 0, 0, 0, 0, 0⟩
def takeRr (b : List Int) : Rcd := if IsR b then rcdOf (Cell.bodyOf b) else rcd0
def takeRd (b : List Int) : List Int := if IsR b then datOf (Cell.bodyOf b) else []
set_option maxRecDepth 100000 in
set_option maxHeartbeats 800000 in
theorem refTakeR_ne (v : Value) (b : List Int) (w : World) (h : Bs w v b) (hi : ¬ (Cell.Is b ∧ b.getD 3 0 = 1)) :
    Calls Tryd.prog 21 #[v] w fun e w' => e = .returned (.tuple #[rcd0.val (.slice none 0 0), .bool false]) ∧ Gr w w' := by
  obtain ⟨o, c, rfl⟩ := h.form5
  obtain ⟨n, hn⟩ : ∃ n, b.length = n := ⟨_, rfl⟩
  have H := Lib.hid h
  rw [hn] at H ⊢
  obtain ⟨k, hk⟩ : ∃ k, Cell.takeK b = k := ⟨_, rfl⟩
  obtain ⟨bi, hb⟩ : ∃ k, decide (Cell.Is b) = k := ⟨_, rfl⟩
  have HK := Lib.hid hk
  have HB := Lib.hid hb
  have hcase : bi = false ∨ (bi = true ∧ ¬ k = 1) := by
    cases bi with
    | false => exact .inl rfl
    | true =>
      have h1 := of_decide_eq_true hb
      refine .inr ⟨rfl, fun e => hi ⟨h1, ?_⟩⟩
      rw [← hk] at e
      exact (if_pos h1).symm.trans e
  have HA : Hid (Gr w (w.alloc (.cells #[.int .i64 0, .int .i64 0, .int .i64 0, .int .i64 0, .int .i64 0, .int .i64 0, .int .u32 0, .slice none 0 0] 27))) := Lib.hid (Gr.alloc (Gr.refl _) _ _)
  have HC : Hid (RcAt (w.alloc (.cells #[.int .i64 0, .int .i64 0, .int .i64 0, .int .i64 0, .int .i64 0, .int .i64 0, .int .u32 0, .slice none 0 0] 27)) w.heap.size rcd0 (.slice none 0 0)) := Lib.hid (heap_alloc_new _ _)
  clear h hn hi hk hb
  go_enter Tryd.func21, Tryd.ntmps21
  go_wp2_with fail
  generalize w.alloc (.cells #[.int .i64 0, .int .i64 0, .int .i64 0, .int .i64 0, .int .i64 0, .int .i64 0, .int .u32 0, .slice none 0 0] 27) = W0 at *
  generalize hgr : w.heap.size = gr at *
  refine (refTake_any _ b _ (H.out.grown HA.out)).mono ?_
  rw [HK.out, HB.out]
  rintro e w1 ⟨u1, rfl, hn1⟩
  obtain ⟨o1, c1, rfl⟩ := (New.bs hn1).form5
  have HC1 := Lib.hid (HC.out.grown hn1.1)
  have HG1 := Lib.hid (Gr.trans HA.out hn1.1)
  clear hn1
  have HP := Lib.hid (HC1.out.put rcd0 (.slice none 0 0))
  have HGR : Hid (w.heap.size ≤ gr) := Lib.hid (by omega)
  obtain ⟨p0, p1, p2, p3, p4, p5, p6, p7⟩ := HC1.out.cell
  obtain ⟨f0, f1, f2, f3, f4, f5, f6, f7⟩ := HC1.out.frozen
  have HGZ : Hid (Gr w _) := Lib.hid (rec_gr HG1.out HGR.out rcd0 (.slice none 0 0))
  generalize (Cell.takeX b).length = xl at *
  have hk2 : bi = true → (k != 1) = true := fun h => by
    rcases hcase with h1 | ⟨_, h1⟩
    · rw [h1] at h; cases h
    · exact bne_iff_ne.2 h1
  clear hcase HK
  cases bi with
  | false =>
    clear hk2
    go_wp2_with fail
    refine bodyPost_ret (v := .tuple #[rcd0.val (.slice none 0 0), .bool false]) (by rw [results_cell_tmp rfl]; exact rec_res HP.out.load) rfl ?_
    exact ⟨rfl, HGZ.out⟩
  | true =>
    have hk3 := hk2 rfl
    clear hk2
    go_wp2_with fail
    refine bodyPost_ret (v := .tuple #[rcd0.val (.slice none 0 0), .bool false]) (by rw [results_cell_tmp rfl]; exact rec_res HP.out.load) rfl ?_
    exact ⟨rfl, HGZ.out⟩
end Go.Proofs.YtjkfiimlaigdhaaDoor
namespace Go.Proofs.YtjkfiimlaigdhaaDoor
open Go.RowKit

set_option maxRecDepth 100000 in
set_option maxHeartbeats 3200000 in
theorem refTakeR_in (v : Value) (b : List Int) (w : World) (h : Bs w v b) (hi : Cell.Is b) (h3 : b.getD 3 0 = 1) :
    Calls Tryd.prog 21 #[v] w fun e w' => ∃ u, e = .returned (.tuple #[(takeRr b).val u, .bool (decide (IsR b))]) ∧ Bs w' u (takeRd b) ∧ Gr w w' := by
  obtain ⟨o, c, rfl⟩ := h.form5
  obtain ⟨n, hn⟩ : ∃ n, b.length = n := ⟨_, rfl⟩
  have HK : Hid (Cell.takeK b = 1) := Lib.hid ((if_pos hi).trans h3)
  have HX : Hid (Cell.takeX b = Cell.bodyOf b) := Lib.hid (if_pos hi)
  have HI : Hid (decide (Cell.Is b) = true) := Lib.hid (decide_eq_true hi)
  have HIS : Hid (Cell.Is b ∧ b.getD 3 0 = 1) := Lib.hid ⟨hi, h3⟩
  have HXL : Hid ((Cell.bodyOf b).length = 55) := Lib.hid (by rw [← HX.out]; exact Cell.takeX_length hi)
  have HXB : Hid (∀ x ∈ Cell.bodyOf b, Byt x) := Lib.hid (Cell.bodyOf_byt h.1)
  have H := Lib.hid h
  rw [hn] at H ⊢
  have HN := Lib.hid hn
  have HA : Hid (Gr w (w.alloc (.cells #[.int .i64 0, .int .i64 0, .int .i64 0, .int .i64 0, .int .i64 0, .int .i64 0, .int .u32 0, .slice none 0 0] 27))) := Lib.hid (Gr.alloc (Gr.refl _) _ _)
  have HC : Hid (RcAt (w.alloc (.cells #[.int .i64 0, .int .i64 0, .int .i64 0, .int .i64 0, .int .i64 0, .int .i64 0, .int .u32 0, .slice none 0 0] 27)) w.heap.size rcd0 (.slice none 0 0)) := Lib.hid (heap_alloc_new _ _)
  clear h hi h3 hn
  go_enter Tryd.func21, Tryd.ntmps21
  go_wp2_with fail
  generalize w.alloc (.cells #[.int .i64 0, .int .i64 0, .int .i64 0, .int .i64 0, .int .i64 0, .int .i64 0, .int .u32 0, .slice none 0 0] 27) = W0 at *
  generalize hgr : w.heap.size = gr at *
  refine (refTake_any _ b _ (H.out.grown HA.out)).mono ?_
  rw [HK.out, HX.out, HI.out]
  rintro e w1 ⟨u1, rfl, hn1⟩
  obtain ⟨g, cx, cur, rfl, x1, x2, x3⟩ : ∃ g cx cur, u1 = .slice (some ⟨g, 0, none⟩) 55 cx ∧ W0.heap.size ≤ g ∧ 55 ≤ cx ∧ w1.heap[g]? = some (.cells cur 5 (0, 0)) := by
    obtain ⟨_, _, h | ⟨g, c, cur, e, h1, h2, h3, h4⟩⟩ := hn1
    · have := HXL.out; rw [h.1] at this; simp at this
    · rw [HXL.out] at e h3
      exact ⟨g, c, cur, e, h1, h3, h2⟩
  have N1 := Lib.hid hn1
  clear hn1
  obtain ⟨X, hX⟩ : ∃ X, Cell.bodyOf b = X := ⟨_, rfl⟩
  have hrX : rcdOf (Cell.bodyOf b) = ⟨(Rc.num 0 (X.take 3) : Nat), X.getD 3 0, (Rc.num 0 ((X.drop 4).take 2) : Nat), X.getD 6 0, X.getD 7 0, X.getD 8 0, Rc.num 0 ((X.drop 9).take 4)⟩ := by rw [hX]; rfl
  have hdX : datOf (Cell.bodyOf b) = (X.drop 13).take (X.getD 8 0).toNat := by rw [hX]; rfl
  rw [hX] at HXL HXB N1
  have HBX := Lib.hid (New.bs N1.out)
  have b1 : Hid (Bs w1 (.slice (some ⟨g, 0, none⟩) 3 cx) (X.take 3)) := Lib.hid (by
    have := Bs.pre5 HBX.out 3 (by omega)
    exact this)
  have b2 : Hid (Bs w1 (.slice (some ⟨g, 4, none⟩) 2 (cx - 4)) ((X.drop 4).take 2)) := Lib.hid (by
    have := Bs.mid5 HBX.out 4 2 (by omega)
    rw [if_neg (by omega), Addr.add_mid] at this
    exact this)
  have b3 : Hid (Bs w1 (.slice (some ⟨g, 9, none⟩) 4 (cx - 9)) ((X.drop 9).take 4)) := Lib.hid (by
    have := Bs.mid5 HBX.out 9 4 (by omega)
    rw [if_neg (by omega), Addr.add_mid] at this
    exact this)
  obtain ⟨_, _, he0, _, _, hcell⟩ := Bs.at HBX.out (by rw [HXL.out]; omega)
  obtain ⟨rfl, -, rfl⟩ : _ ∧ _ ∧ _ := by simpa using he0
  have q3 := hcell 3 (by rw [HXL.out]; omega)
  have q6 := hcell 6 (by rw [HXL.out]; omega)
  have q7 := hcell 7 (by rw [HXL.out]; omega)
  have q8 := hcell 8 (by rw [HXL.out]; omega)
  rw [Addr.add_mid, Nat.zero_add] at q3 q6 q7 q8
  obtain ⟨y3, hy3⟩ : ∃ y, X.getD 3 0 = y := ⟨_, rfl⟩
  obtain ⟨y6, hy6⟩ : ∃ y, X.getD 6 0 = y := ⟨_, rfl⟩
  obtain ⟨y7, hy7⟩ : ∃ y, X.getD 7 0 = y := ⟨_, rfl⟩
  obtain ⟨y8, hy8⟩ : ∃ y, X.getD 8 0 = y := ⟨_, rfl⟩
  have z3 : Byt y3 := by rw [← hy3]; exact Crc.getD_byt HXB.out 3
  have z6 : Byt y6 := by rw [← hy6]; exact Crc.getD_byt HXB.out 6
  have z7 : Byt y7 := by rw [← hy7]; exact Crc.getD_byt HXB.out 7
  have z8 : Byt y8 := by rw [← hy8]; exact Crc.getD_byt HXB.out 8
  unfold Byt at z3 z6 z7 z8
  obtain ⟨n1, hn1⟩ : ∃ m : Nat, Rc.num 0 (X.take 3) = m := ⟨_, rfl⟩
  obtain ⟨n2, hn2⟩ : ∃ m : Nat, Rc.num 0 ((X.drop 4).take 2) = m := ⟨_, rfl⟩
  obtain ⟨n3, hn3⟩ : ∃ m : Nat, Rc.num 0 ((X.drop 9).take 4) = m := ⟨_, rfl⟩
  have hlt : n3 < 4294967296 := by
    rw [← hn3]
    have h := num_lt (l := (X.drop 9).take 4) fun x hx => HXB.out x (List.mem_of_mem_drop (List.mem_of_mem_take hx))
    rw [List.length_take, List.length_drop, HXL.out] at h
    exact h
  have v3 : IntKind.i64.wrap y3 = y3 := by simp [IntKind.wrap, IntKind.bits, IntKind.signed]; omega
  have v6 : IntKind.i64.wrap y6 = y6 := by simp [IntKind.wrap, IntKind.bits, IntKind.signed]; omega
  have v7 : IntKind.i64.wrap y7 = y7 := by simp [IntKind.wrap, IntKind.bits, IntKind.signed]; omega
  have v8 : IntKind.i64.wrap y8 = y8 := by simp [IntKind.wrap, IntKind.bits, IntKind.signed]; omega
  have vs : IntKind.u32.wrap (n3 : Int) = n3 := by simp [IntKind.wrap, IntKind.bits, IntKind.signed]; omega
  have hu1 : (3 : Int) ≤ (cx : Int) := by omega
  have hu2 : (6 : Int) ≤ (cx : Int) := by omega
  have hu3 : (13 : Int) ≤ (cx : Int) := by omega
  have hu4 : ¬ cx = 4 := by omega
  have hu5 : ¬ cx = 9 := by omega
  have D1 : Hid (∀ W, Gr w1 W → Calls Tryd.prog 36 #[.slice (some ⟨g, 0, none⟩) 3 cx] W fun e w' => e = .returned (.int .i64 (n1 : Int)) ∧ Gr W w') := Lib.hid fun W hW => by
    have h := number_any _ (X.take 3) W (b1.out.grown hW) (by rw [List.length_take]; omega)
    rw [hn1] at h
    exact h
  have D2 : Hid (∀ W, Gr w1 W → Calls Tryd.prog 36 #[.slice (some ⟨g, 4, none⟩) 2 (cx - 4)] W fun e w' => e = .returned (.int .i64 (n2 : Int)) ∧ Gr W w') := Lib.hid fun W hW => by
    have h := number_any _ ((X.drop 4).take 2) W (b2.out.grown hW) (by rw [List.length_take]; omega)
    rw [hn2] at h
    exact h
  have D3 : Hid (∀ W, Gr w1 W → Calls Tryd.prog 36 #[.slice (some ⟨g, 9, none⟩) 4 (cx - 9)] W fun e w' => e = .returned (.int .i64 (n3 : Int)) ∧ Gr W w') := Lib.hid fun W hW => by
    have h := number_any _ ((X.drop 9).take 4) W (b3.out.grown hW) (by rw [List.length_take]; omega)
    rw [hn3] at h
    exact h
  rw [hy3, hy6, hy7, hy8, hn1, hn2, hn3] at hrX
  rw [hy8] at hdX
  rw [hy3] at q3
  rw [hy6] at q6
  rw [hy7] at q7
  rw [hy8] at q8
  have HR := Lib.hid hrX
  have HD := Lib.hid hdX
  have HNG : Hid (g ≠ gr) := Lib.hid (by have := (Array.getElem?_eq_some_iff.1 HC.out).1; omega)
  have HGL : Hid (g < w1.heap.size) := Lib.hid (Array.getElem?_eq_some_iff.1 x3).1
  have HC1 := Lib.hid (HC.out.grown N1.out.1)
  have HG1 := Lib.hid (Gr.trans HA.out N1.out.1)
  have HGR : Hid (w.heap.size ≤ gr) := Lib.hid (by omega)
  have HBW : Hid (w.heap.size ≤ w1.heap.size) := Lib.hid HG1.out.size
  clear hrX hdX hcell he0 hX hy3 hy6 hy7 hy8 hn1 hn2 hn3 HC b1 b2 b3 x3
  go_upto_region 4 with fail
  go_cut [7] (fun s7 wx => ∃ gR, s7 = .pointer (some ⟨gR, 0, none⟩) ∧ RcAt wx gR ⟨n1, y3, n2, y6, y7, y8, n3⟩ (.slice none 0 0) ∧ Gr w1 wx ∧ w1.heap.size ≤ gR)
  case first =>
    go_region_held3 (fun W => W.cell? ⟨g, 3, none⟩ = some (.int .u8 y3) ∧ W.cell? ⟨g, 6, none⟩ = some (.int .u8 y6) ∧ W.cell? ⟨g, 7, none⟩ = some (.int .u8 y7) ∧ W.cell? ⟨g, 8, none⟩ = some (.int .u8 y8)) (first | with_reducible exact ⟨k33, k36, k37, k38⟩ | with_reducible exact ⟨k23, k26, k27, k28⟩ | with_reducible exact ⟨k13, k16, k17, k18⟩ | with_reducible exact ⟨q3, q6, q7, q8⟩ | exact ⟨(rec_far NE3.out.1 _ ⟨n1, y3, n2, y6, y7, y8, n3⟩ (.slice none 0 0)).trans k33, (rec_far NE3.out.1 _ ⟨n1, y3, n2, y6, y7, y8, n3⟩ (.slice none 0 0)).trans k36, (rec_far NE3.out.1 _ ⟨n1, y3, n2, y6, y7, y8, n3⟩ (.slice none 0 0)).trans k37, (rec_far NE3.out.1 _ ⟨n1, y3, n2, y6, y7, y8, n3⟩ (.slice none 0 0)).trans k38⟩ | go_keep)
      (first
        | (go_at_call 36; have h := V2; clear h; refine Calls.mono (D3.out _ ?_) ?_; (focus (first | exact V2.out | exact Gr.alloc V2.out _ _)); rintro e v3 ⟨rfl, hg3⟩; (first | (have RZ3 : Hid (RcAt v3 _ rcd0 (.slice none 0 0)) := Lib.hid (RZ2.out.grown hg3); have NE3 := NE2) | (have RZ3 : Hid (RcAt v3 v2.heap.size rcd0 (.slice none 0 0)) := Lib.hid (RcAt.grown (heap_alloc_new _ _) hg3); have NE3 : Hid (g ≠ v2.heap.size ∧ w1.heap.size ≤ v2.heap.size) := Lib.hid ⟨by have := HGL.out; have := V2.out.size; omega, V2.out.size⟩) | skip); (first | (obtain ⟨p0, p1, p2, p3, p4, p5, p6, p7⟩ := RZ3.out.cell; obtain ⟨f0, f1, f2, f3, f4, f5, f6, f7⟩ := RZ3.out.frozen) | skip); have V3 : Hid (Gr w1 v3) := Lib.hid (Gr.trans (by first | exact V2.out | exact Gr.alloc V2.out _ _) hg3); have k33 := cell_grown V3.out q3; have k36 := cell_grown V3.out q6; have k37 := cell_grown V3.out q7; have k38 := cell_grown V3.out q8; clear hg3)
        | (go_at_call 36; have h := V1; clear h; (fail_if_success have h := V2); refine Calls.mono (D2.out _ ?_) ?_; (focus (first | exact V1.out | exact Gr.alloc V1.out _ _)); rintro e v2 ⟨rfl, hg2⟩; (first | (have RZ2 : Hid (RcAt v2 _ rcd0 (.slice none 0 0)) := Lib.hid (RZ1.out.grown hg2); have NE2 := NE1) | (have RZ2 : Hid (RcAt v2 v1.heap.size rcd0 (.slice none 0 0)) := Lib.hid (RcAt.grown (heap_alloc_new _ _) hg2); have NE2 : Hid (g ≠ v1.heap.size ∧ w1.heap.size ≤ v1.heap.size) := Lib.hid ⟨by have := HGL.out; have := V1.out.size; omega, V1.out.size⟩) | skip); have V2 : Hid (Gr w1 v2) := Lib.hid (Gr.trans (by first | exact V1.out | exact Gr.alloc V1.out _ _) hg2); have k23 := cell_grown V2.out q3; have k26 := cell_grown V2.out q6; have k27 := cell_grown V2.out q7; have k28 := cell_grown V2.out q8; clear hg2)
        | (go_at_call 36; (fail_if_success have h := V1); refine Calls.mono (D1.out _ ?_) ?_; (focus (first | exact Gr.drew (Gr.refl _) | exact Gr.alloc (Gr.drew (Gr.refl _)) _ _)); rintro e v1 ⟨rfl, hg1⟩; (first | (have RZ1 : Hid (RcAt v1 w1.heap.size rcd0 (.slice none 0 0)) := Lib.hid (RcAt.grown (w := w1.drew.alloc _) (heap_alloc_new _ _) hg1); have NE1 : Hid (g ≠ w1.heap.size ∧ w1.heap.size ≤ w1.heap.size) := Lib.hid ⟨by have := HGL.out; omega, Nat.le_refl _⟩) | skip); have V1 : Hid (Gr w1 v1) := Lib.hid (Gr.trans (by first | exact Gr.drew (Gr.refl _) | exact Gr.alloc (Gr.drew (Gr.refl _)) _ _) hg1); have k13 := cell_grown V1.out q3; have k16 := cell_grown V1.out q6; have k17 := cell_grown V1.out q7; have k18 := cell_grown V1.out q8; clear hg1))
    all_goals (go_wp2_with fail; go_meet)
    · exact ⟨_, rfl, heap_alloc_new _ _, Gr.alloc V3.out _ _, V3.out.size⟩
    · exact ⟨_, rfl, RZ3.out.put ⟨n1, y3, n2, y6, y7, y8, n3⟩ (.slice none 0 0), rec_gr V3.out NE3.out.2 ⟨n1, y3, n2, y6, y7, y8, n3⟩ (.slice none 0 0), NE3.out.2⟩
    · exact ⟨_, rfl, RZ3.out.put ⟨n1, y3, n2, y6, y7, y8, n3⟩ (.slice none 0 0), rec_gr V3.out NE3.out.2 ⟨n1, y3, n2, y6, y7, y8, n3⟩ (.slice none 0 0), NE3.out.2⟩
    · exact ⟨_, rfl, RZ3.out.put ⟨n1, y3, n2, y6, y7, y8, n3⟩ (.slice none 0 0), rec_gr V3.out NE3.out.2 ⟨n1, y3, n2, y6, y7, y8, n3⟩ (.slice none 0 0), NE3.out.2⟩
  case rest =>
    obtain ⟨gR, rfl, hr, hg2, hge⟩ := hcut
    have A2 := Lib.hid hr
    have G2 := Lib.hid hg2
    have HGE := Lib.hid hge
    have C2 := Lib.hid (HC1.out.grown hg2)
    obtain ⟨s8, rfl⟩ : ∃ s : Nat, y8 = s := ⟨y8.toNat, by omega⟩
    rw [Int.toNat_natCast] at HD
    obtain ⟨a0, a1, a2, a3, a4, a5, a6, a7⟩ := hr.cell
    obtain ⟨e0, e1, e2, e3, e4, e5, e6, e7⟩ := hr.frozen
    clear hr hg2 hge D1 D2 D3 v3 v6 v7 v8 vs q3 q6 q7 q8 hu1 hu2 hu3 hu4 hu5
    have HM : Hid (IsR b ↔ MayP y6 y7 s8 ∧ putR ⟨n1, y3, n2, y6, y7, s8, n3⟩ ((X.drop 13).take s8) = b) := Lib.hid (by
      unfold IsR
      rw [HR.out, HD.out]
      exact ⟨fun h => ⟨h.2.2.1, h.2.2.2⟩, fun h => ⟨HIS.out.1, HIS.out.2, h.1, h.2⟩⟩)
    obtain ⟨bm, hbm⟩ : ∃ x, decide (MayP y6 y7 s8) = x := ⟨_, rfl⟩
    have HBM := Lib.hid hbm
    go_wp2_with fail
    refine (refMay_any y6 y7 s8 _).mono ?_
    rw [hbm]
    rintro e w3 ⟨rfl, hg3⟩
    have A3 := Lib.hid (A2.out.grown hg3)
    have C3 := Lib.hid (C2.out.grown hg3)
    have G3 := Lib.hid (Gr.trans G2.out hg3)
    clear hbm hg3 a0 a1 a2 a3 a4 a5 a6 a7 e0 e1 e2 e3 e4 e5 e6 e7 A2 C2
    cases bm with
    | false =>
      have HP := Lib.hid (C3.out.put rcd0 (.slice none 0 0))
      obtain ⟨p0, p1, p2, p3, p4, p5, p6, p7⟩ := C3.out.cell
      obtain ⟨f0, f1, f2, f3, f4, f5, f6, f7⟩ := C3.out.frozen
      have HGZ : Hid (Gr w _) := Lib.hid (rec_gr (Gr.trans HG1.out G3.out) HGR.out rcd0 (.slice none 0 0))
      have hno : ¬ IsR b := fun h => of_decide_eq_false HBM.out (HM.out.1 h).1
      have HNO := Lib.hid hno
      clear hno
      go_wp2_with fail
      refine bodyPost_ret (v := .tuple #[rcd0.val (.slice none 0 0), .bool false]) (by rw [results_cell_tmp rfl]; exact rec_res HP.out.load) rfl ?_
      rw [decide_eq_false HNO.out, show takeRr b = rcd0 from if_neg HNO.out, show takeRd b = [] from if_neg HNO.out]
      exact ⟨_, rfl, Bs.nil _, HGZ.out⟩
    | true =>
      have hmp : MayP y6 y7 s8 := of_decide_eq_true HBM.out
      have hs1 : 1 ≤ s8 := by have := hmp.2.2.2.2.1; omega
      have hs2 : s8 ≤ 24 := by have := hmp.2.2.2.2.2; omega
      have HMP := Lib.hid hmp
      obtain ⟨a0, a1, a2, a3, a4, a5, a6, a7⟩ := A3.out.cell
      obtain ⟨e0, e1, e2, e3, e4, e5, e6, e7⟩ := A3.out.frozen
      simp only at a5
      obtain ⟨d, hd⟩ : ∃ d, (X.drop 13).take s8 = d := ⟨_, rfl⟩
      have HDL : Hid (d.length = s8) := Lib.hid (by rw [← hd, List.length_take, List.length_drop, HXL.out]; omega)
      have HDB : Hid (Bs w1 (.slice (some ⟨g, 13, none⟩) s8 (cx - 13)) d) := Lib.hid (by
        have := Bs.mid5 HBX.out 13 s8 (by omega)
        rw [if_neg (by omega), Addr.add_mid, Nat.zero_add, hd] at this
        exact this)
      rw [hd] at HM HD
      have g1 : (13 : Int) + (s8 : Int) ≤ (cx : Int) := by omega
      have g2 : ¬ cx = 13 := by omega
      have g3 : IntKind.i64.wrap (13 + (s8 : Int)) = 13 + (s8 : Int) := by simp [IntKind.wrap, IntKind.bits, IntKind.signed]; omega
      clear hd hmp
      go_wp2_with fail
      have hwlt := (Array.getElem?_eq_some_iff.1 HC1.out).1
      have A4 := Lib.hid (A3.out.bytes (.slice (some ⟨g, 13, none⟩) s8 (cx - 13)))
      have C4 := Lib.hid (C3.out.other (g' := gR) (by have := HGE.out; omega) 7 (.slice (some ⟨g, 13, none⟩) s8 (cx - 13)))
      have G4 := Lib.hid (G3.out.setCell (a := ⟨gR, 7, none⟩) HGE.out (.slice (some ⟨g, 13, none⟩) s8 (cx - 13)))
      generalize w3.setCell ⟨gR, 7, none⟩ (.slice (some ⟨g, 13, none⟩) s8 (cx - 13)) = w4 at *
      clear A3 C3 G3 a0 a1 a2 a3 a4 a5 a6 a7 e0 e1 e2 e3 e4 e5 e6 e7 g1 g2 g3 hwlt
      refine (refPutR_any ⟨n1, y3, n2, y6, y7, s8, n3⟩ _ d _ hlt (HDB.out.grown G4.out)).mono ?_
      rintro e w5 ⟨u5, rfl, hn5⟩
      obtain ⟨o5, m5, c5, rfl⟩ := New.form3 hn5
      have A5 := Lib.hid (A4.out.grown hn5.1)
      have C5 := Lib.hid (C4.out.grown hn5.1)
      have G5 := Lib.hid (Gr.trans G4.out hn5.1)
      have B5 := Lib.hid (New.bs hn5)
      clear hn5 A4 C4 G4
      go_wp2_with fail
      refine (same_any _ _ _ b _ B5.out (H.out.grown (Gr.trans HG1.out G5.out))).mono ?_
      obtain ⟨q, hq⟩ : ∃ q, (putR ⟨n1, y3, n2, y6, y7, s8, n3⟩ d == b) = q := ⟨_, rfl⟩
      have HQ := Lib.hid hq
      rw [hq]
      rintro e w6 ⟨rfl, hg6⟩
      have A6 := Lib.hid (A5.out.grown hg6)
      have C6 := Lib.hid (C5.out.grown hg6)
      have G6 := Lib.hid (Gr.trans G5.out hg6)
      clear hq hg6 A5 C5 G5 B5
      obtain ⟨p0, p1, p2, p3, p4, p5, p6, p7⟩ := C6.out.cell
      obtain ⟨f0, f1, f2, f3, f4, f5, f6, f7⟩ := C6.out.frozen
      cases q with
      | false =>
        have HP := Lib.hid (C6.out.put rcd0 (.slice none 0 0))
        have HGZ : Hid (Gr w _) := Lib.hid (rec_gr (Gr.trans HG1.out G6.out) HGR.out rcd0 (.slice none 0 0))
        have hno : ¬ IsR b := fun h => by
          have := beq_iff_eq.2 (HM.out.1 h).2
          rw [HQ.out] at this
          cases this
        have HNO := Lib.hid hno
        clear hno
        go_wp2_with fail
        refine bodyPost_ret (v := .tuple #[rcd0.val (.slice none 0 0), .bool false]) (by rw [results_cell_tmp rfl]; exact rec_res HP.out.load) rfl ?_
        rw [decide_eq_false HNO.out, show takeRr b = rcd0 from if_neg HNO.out, show takeRd b = [] from if_neg HNO.out]
        exact ⟨_, rfl, Bs.nil _, HGZ.out⟩
      | true =>
        have HP := Lib.hid (C6.out.put ⟨n1, y3, n2, y6, y7, s8, n3⟩ (.slice (some ⟨g, 13, none⟩) s8 (cx - 13)))
        have HGZ : Hid (Gr w _) := Lib.hid (rec_gr (Gr.trans HG1.out G6.out) HGR.out ⟨n1, y3, n2, y6, y7, s8, n3⟩ (.slice (some ⟨g, 13, none⟩) s8 (cx - 13)))
        have HBZ : Hid (Bs _ (.slice (some ⟨g, 13, none⟩) s8 (cx - 13)) d) := Lib.hid (Bs.far5 (HDB.out.grown G6.out) fun i => rec_far HNG.out i ⟨n1, y3, n2, y6, y7, s8, n3⟩ (.slice (some ⟨g, 13, none⟩) s8 (cx - 13)))
        have hyes : IsR b := HM.out.2 ⟨HMP.out, beq_iff_eq.1 HQ.out⟩
        have HYE := Lib.hid hyes
        obtain ⟨a0, a1, a2, a3, a4, a5, a6, a7⟩ := A6.out.cell
        clear hyes
        go_wp2_with fail
        refine bodyPost_ret (v := .tuple #[Rcd.val ⟨n1, y3, n2, y6, y7, s8, n3⟩ (.slice (some ⟨g, 13, none⟩) s8 (cx - 13)), .bool true]) (by rw [results_cell_tmp rfl]; exact rec_res HP.out.load) rfl ?_
        rw [decide_eq_true HYE.out, show takeRr b = ⟨n1, y3, n2, y6, y7, s8, n3⟩ from (if_pos HYE.out).trans HR.out, show takeRd b = d from (if_pos HYE.out).trans HD.out]
        exact ⟨_, rfl, HBZ.out, HGZ.out⟩
theorem refTakeR_any (v : Value) (b : List Int) (w : World) (h : Bs w v b) :
    Calls Tryd.prog 21 #[v] w fun e w' => ∃ u, e = .returned (.tuple #[(takeRr b).val u, .bool (decide (IsR b))]) ∧ Bs w' u (takeRd b) ∧ Gr w w' := by
  by_cases hi : Cell.Is b ∧ b.getD 3 0 = 1
  · exact refTakeR_in v b w h hi.1 hi.2
  · have hno : ¬ IsR b := fun h => hi ⟨h.1, h.2.1⟩
    rw [decide_eq_false hno, show takeRr b = rcd0 from if_neg hno, show takeRd b = [] from if_neg hno]
    refine (refTakeR_ne v b w h hi).mono ?_
    rintro e w' ⟨rfl, hg⟩
    exact ⟨_, rfl, Bs.nil _, hg⟩
end Go.Proofs.YtjkfiimlaigdhaaDoor
namespace Go.Proofs.YtjkfiimlaigdhaaDoor
open Go.RowKit

set_option maxRecDepth 100000 in
set_option maxHeartbeats 400000 in
theorem within_big (x n : Int) (h1 : 1 ≤ n) (h2 : n ≤ 4611686018427387904) (w : World) :
    Calls Tryd.prog 9 #[.int .i64 x, .int .i64 n] w fun e w' => e = .returned (.int .i64 (x % n)) ∧ w = w' := by
  have ht := within_fact x n (by omega)
  have h3 := Int.emod_lt_of_pos x (by omega : 0 < n)
  have h4 := Int.emod_nonneg x (by omega : n ≠ 0)
  have hn : (n == 0) = false := by simp; omega
  rcases ht with ht | ⟨ht, hu⟩
  · go_enter Tryd.func9, Tryd.ntmps9
    go_wp2_with fail
    go_ret
    exact ⟨rfl, rfl⟩
  · obtain ⟨r, hr⟩ : ∃ r, x.tmod n = r := ⟨_, rfl⟩
    rw [hr] at ht hu
    go_enter Tryd.func9, Tryd.ntmps9
    go_wp2_with fail
    go_ret
    exact ⟨rfl, rfl⟩
end Go.Proofs.YtjkfiimlaigdhaaDoor
namespace Go.Proofs.YtjkfiimlaigdhaaDoor
open Go.RowKit

def Rcd.Fit (r : Rcd) : Prop := I64 r.o ∧ I64 r.b ∧ I64 r.i ∧ I64 r.K ∧ I64 r.H ∧ I64 r.S ∧ r.s < 4294967296
/-- The contracts of package record. -/
structure RecOk (W0 : World) : Prop where
  may : ∀ (r : Rcd) (v : Value) (d : List Int) (w : World), Gr W0 w → r.Fit → d.length ≤ 1000 → Bs w v d →
    Calls Tryd.prog 12 #[r.val v] w fun e w' => e = .returned (.bool (decide (MayR r d))) ∧ Gr w w'
  put : ∀ (r : Rcd) (v : Value) (d : List Int) (w : World), Gr W0 w → r.Fit → d.length ≤ 1000 → Bs w v d →
    Calls Tryd.prog 15 #[r.val v] w fun e w' => ∃ u, e = .returned u ∧ New w w' u (putR r d)
  take : ∀ (v : Value) (b : List Int) (w : World), Gr W0 w → b.length ≤ 1000 → Bs w v b →
    Calls Tryd.prog 20 #[v] w fun e w' => ∃ u, e = .returned (.tuple #[(takeRr b).val u, .bool (decide (IsR b))]) ∧ Bs w' u (takeRd b) ∧ Gr w w'
set_option maxRecDepth 100000 in
set_option maxHeartbeats 800000 in
theorem dataP_any (n : Nat) (x : Int) (w : World) (hn : n ≤ 1000) :
    Calls Tryd.prog 26 #[.int .i64 n, .int .i64 x] w fun e w' => ∃ u l, e = .returned u ∧ New w w' u l ∧ l.length = n := by
  go_enter Tryd.func26, Tryd.ntmps26
  go_wp2_with fail
  go_loopw [5, 6] (fun bv iv W => ∃ (r : Nat) (o : Option Addr) (c : Nat) (L : List Int), r ≤ n ∧ iv = .int .i64 r ∧ L.length = r ∧ (∀ z ∈ L, Byt z) ∧ bv = .slice o r c ∧ W.ownsRow w.heap.size 5 1 (.slice o r c) r (L.map (Value.int .u8)) ∧ Gr w W) (fun _ iv _ => n - (intOf iv).toNat)
  case atStart => exact ⟨0, none, 0, [], by omega, rfl, rfl, (fun z hz => by cases hz), rfl, World.ownsRow_nil _ _ _ _, Gr.refl _⟩
  case round =>
    obtain ⟨wi, hwi⟩ : ∃ x, x = wr := ⟨_, rfl⟩
    subst hwi
    obtain ⟨r, o, c, L, hr, rfl, hl, hL, rfl, ho, hg⟩ := hrel
    have HO := Lib.hid ho
    have HG := Lib.hid hg
    have HL := Lib.hid hl
    have HB := Lib.hid hL
    clear ho hg hl hL
    by_cases hlt : r < n
    · go_wp2_with (first
        | (at_builtin; refine wpList_append_bytes rfl _ _ rfl w.heap.size (.slice o r c) r L rfl (HO.out.alloc _) (some ⟨wi.heap.size, 0, none⟩) 1 1 [wrap64 (x / 2 ^ (r % 7) + wrap64 ((r : Int) * bits BinOp.or IntKind.i64 x 1)) % 256] rfl (lit_bs1 [_] (by intro z hz; obtain rfl := List.mem_singleton.1 hz; unfold Byt; omega) (by simp)) (by omega) (by have := HG.out.size; simp; omega) ?_; intro v6 w6 ho6 hg6; obtain ⟨o6, c6, rfl⟩ := ownsRow_form ho6; have O6 := Lib.hid ho6; have G6 : Hid (Gr w w6) := Lib.hid (Gr.append (Gr.alloc HG.out _ _) hg6 (ownsRow_base HO.out)); clear ho6 hg6))
      refine ⟨⟨r + 1, o6, c6, _, by omega, by go_num, by rw [List.length_append, HL.out]; rfl, ?_, rfl, O6.out, G6.out⟩, by simp [intOf]; omega⟩
      intro z hz
      rcases List.mem_append.1 hz with h | h
      · exact HB.out z h
      · obtain rfl := List.mem_singleton.1 h
        unfold Byt
        omega
    · obtain rfl : r = n := by omega
      go_wp2_with fail
      go_ret
      exact ⟨_, _, rfl, New.of_row HG.out HB.out (by rw [HL.out]; exact HO.out), HL.out⟩
/-- A record of numbers, as the law makes it. -/
def madeR (object block id a b c : Int) (s : Nat) : Rcd := ⟨object % 16777216, block % 8, id % 65536, 1 + a % 16, 1 + b % 4, 1 + c % 24, s⟩
theorem madeR_may (object block id a b c : Int) (s : Nat) (d : List Int) (hd : (d.length : Int) = 1 + c % 24) : MayR (madeR object block id a b c s) d := by
  unfold MayR madeR MayI MayP
  simp only
  omega
theorem madeR_fit (object block id a b c : Int) (s : Nat) (hs : s < 4294967296) : (madeR object block id a b c s).Fit := by
  unfold Rcd.Fit madeR I64
  simp only
  omega
set_option maxRecDepth 100000 in
set_option maxHeartbeats 3200000 in
theorem made_any5 (object block id a b c x sd : Int) (w : World) :
    Calls Tryd.prog 8 #[.int .i64 object, .int .i64 block, .int .i64 id, .int .i64 a, .int .i64 b, .int .i64 c, .int .i64 x, .int .u64 sd] w fun e w' =>
      ∃ s u d, e = .returned ((madeR object block id a b c s).val u) ∧ s < 4294967296 ∧ (d.length : Int) = 1 + c % 24 ∧ New w w' u d := by
  obtain ⟨s, hs1, hs2⟩ : ∃ s : Nat, sd % 4294967296 = s ∧ s < 4294967296 := ⟨(sd % 4294967296).toNat, by omega, by omega⟩
  obtain ⟨z, hz1, hz2⟩ : ∃ z : Nat, 1 + c % 24 = z ∧ z ≤ 24 := ⟨(1 + c % 24).toNat, by omega, by omega⟩
  have HZ1 := Lib.hid hz1
  have HA : Hid (Gr w (w.alloc (.cells #[.int .i64 0, .int .i64 0, .int .i64 0, .int .i64 0, .int .i64 0, .int .i64 0, .int .u32 0, .slice none 0 0] 27))) := Lib.hid (Gr.alloc (Gr.refl _) _ _)
  have HC : Hid (RcAt (w.alloc (.cells #[.int .i64 0, .int .i64 0, .int .i64 0, .int .i64 0, .int .i64 0, .int .i64 0, .int .u32 0, .slice none 0 0] 27)) w.heap.size rcd0 (.slice none 0 0)) := Lib.hid (heap_alloc_new _ _)
  obtain ⟨r, hr⟩ : ∃ r, madeR object block id a b c s = r := ⟨_, rfl⟩
  have HR := Lib.hid hr
  have HQ : Hid (object % 16777216 = r.o ∧ block % 8 = r.b ∧ id % 65536 = r.i ∧ 1 + a % 16 = r.K ∧ 1 + b % 4 = r.H ∧ 1 + c % 24 = r.S ∧ s = r.s) := Lib.hid (by rw [← hr]; exact ⟨rfl, rfl, rfl, rfl, rfl, rfl, rfl⟩)
  have HSZ : Hid (r.S = z) := Lib.hid (HQ.out.2.2.2.2.2.1.symm.trans hz1)
  have HSS : Hid (sd % 4294967296 = (r.s : Int)) := Lib.hid (by rw [hs1, HQ.out.2.2.2.2.2.2])
  clear hr hz1 hs1
  go_enter Tryd.func8, Tryd.ntmps8
  go_wp2_with fail
  generalize (w.alloc (.cells #[.int .i64 0, .int .i64 0, .int .i64 0, .int .i64 0, .int .i64 0, .int .i64 0, .int .u32 0, .slice none 0 0] 27)) = W0 at *
  generalize hgr : w.heap.size = gr at *
  refine (params_any a b c _).mono ?_
  rw [HQ.out.2.2.2.1, HQ.out.2.2.2.2.1, HQ.out.2.2.2.2.2.1]
  rintro e w1 ⟨rfl, hg1⟩
  have HC1 := Lib.hid (HC.out.grown (hg1.trans (Gr.alloc (Gr.refl _) (#[.int .i64 r.K, .int .i64 r.H, .int .i64 r.S]) 23)))
  have HP1 : Hid (Par (w1.alloc (.cells #[.int .i64 r.K, .int .i64 r.H, .int .i64 r.S] 23)) w1.heap.size r.K r.H r.S) := Lib.hid (heap_alloc_new _ _)
  have HGL : Hid (gr < (w1.alloc (.cells #[.int .i64 r.K, .int .i64 r.H, .int .i64 r.S] 23)).heap.size) := Lib.hid (Array.getElem?_eq_some_iff.1 HC1.out).1
  have HG1 : Hid (Gr w (w1.alloc (.cells #[.int .i64 r.K, .int .i64 r.H, .int .i64 r.S] 23))) := Lib.hid (Gr.alloc (Gr.trans HA.out hg1) _ _)
  have HGR : Hid (w.heap.size ≤ gr) := Lib.hid (by omega)
  have NG : Hid (w1.heap.size ≠ gr) := Lib.hid (by have := (Array.getElem?_eq_some_iff.1 (HC.out.grown hg1)).1; omega)
  clear hg1 HC HA
  go_wp2_with fail
  generalize w1.alloc (.cells #[.int .i64 r.K, .int .i64 r.H, .int .i64 r.S] 23) = W1 at *
  generalize w1.heap.size = gp at *
  have c0 := HP1.out.cell0
  have c1 := HP1.out.cell1
  have c2 := HP1.out.cell2
  rw [HSZ.out] at c2
  have hss := HSS.out
  have j0 : W1.drew.cell? ⟨gp, 0, none⟩ = some (.int .i64 r.K) := c0
  have j1 : W1.drew.cell? ⟨gp, 1, none⟩ = some (.int .i64 r.H) := c1
  have j2 : W1.drew.cell? ⟨gp, 2, none⟩ = some (.int .i64 z) := c2
  go_region_held3 (fun W => W.cell? ⟨gp, 0, none⟩ = some (.int .i64 r.K) ∧ W.cell? ⟨gp, 1, none⟩ = some (.int .i64 r.H) ∧ W.cell? ⟨gp, 2, none⟩ = some (.int .i64 z)) (first | with_reducible exact ⟨k40, k41, k42⟩ | with_reducible exact ⟨c0, c1, c2⟩ | with_reducible exact ⟨j0, j1, j2⟩ | exact ⟨(far8 NG.out 0).trans k40, (far8 NG.out 1).trans k41, (far8 NG.out 2).trans k42⟩ | go_keep)
    (first
      | (go_at_call 26; refine (dataP_any z x _ (by omega)).mono ?_; rintro e v4 ⟨u4, l4, rfl, hn4, hl4⟩; obtain ⟨o4, d4, e4⟩ := (New.bs hn4).form; rw [hl4] at e4; subst e4; have N4 := Lib.hid hn4; have L4 := Lib.hid hl4; have k40 := cell_grown hn4.1 (by exact c0); have k41 := cell_grown hn4.1 (by exact c1); have k42 := cell_grown hn4.1 (by exact c2); have C4 := Lib.hid (HC1.out.grown (Gr.trans (Gr.drew (Gr.refl _)) hn4.1)); obtain ⟨p0, p1, p2, p3, p4, p5, p6, p7⟩ := C4.out.cell; obtain ⟨f0, f1, f2, f3, f4, f5, f6, f7⟩ := C4.out.frozen; clear hn4 hl4)
      | (go_at_call 9; have h := M2; clear h; (fail_if_success have h := M3); refine (within_any id 65536 (by omega) (by omega) _).mono ?_; rw [HQ.out.2.2.1]; rintro e w' ⟨rfl, rfl⟩; have M3 := True.intro)
      | (go_at_call 9; have h := M1; clear h; (fail_if_success have h := M2); refine (within_any block 8 (by omega) (by omega) _).mono ?_; rw [HQ.out.2.1]; rintro e w' ⟨rfl, rfl⟩; have M2 := True.intro)
      | (go_at_call 9; (fail_if_success have h := M1); refine (within_big object 16777216 (by omega) (by omega) _).mono ?_; rw [HQ.out.1]; rintro e w' ⟨rfl, rfl⟩; have M1 := True.intro))
  have HP := Lib.hid (C4.out.put r (.slice o4 z d4))
  have HGZ : Hid (Gr w _) := Lib.hid (rec_gr (Gr.trans HG1.out (Gr.trans (Gr.drew (Gr.refl _)) N4.out.1)) HGR.out r (.slice o4 z d4))
  go_wp2_with fail
  have hws : IntKind.u32.wrap sd = (r.s : Int) := by rw [← HSS.out]; rfl
  rw [hws, ← HSZ.out]
  refine bodyPost_ret_by (results_cell_row rfl _ _ gr 27 _ (0, 0) _ rfl HP.out Tryd.underlying27 rfl (by kernel_rfl)) rfl ?_
  refine ⟨s, .slice o4 z d4, l4, ?_, hs2, by rw [L4.out, HZ1.out], New.far5 HGZ.out N4.out HG1.out.size fun k hk => heap8 fun e => ?_⟩
  · rw [HR.out]
    rfl
  · have := HGL.out
    have h2 : W1.heap.size ≤ k := hk
    omega
end Go.Proofs.YtjkfiimlaigdhaaDoor
namespace Go.Proofs.YtjkfiimlaigdhaaDoor
open Go.RowKit

theorem putR_in {r : Rcd} {d : List Int} (h : MayR r d) : putR r d = Cell.cell 1 (recL r d) := by
  unfold putR
  rw [if_pos h, Cell.put_in (recL_mayC h)]
theorem putR_len {r : Rcd} {d : List Int} (h : MayR r d) : (putR r d).length = 64 := by
  rw [putR_in h]
  exact Cell.cell_length (recL_mayC h).2.2
theorem putR_le (r : Rcd) (d : List Int) : (putR r d).length ≤ 64 := by
  by_cases h : MayR r d
  · rw [putR_len h]
    exact Nat.le_refl _
  · rw [show putR r d = [] from if_neg h]
    exact Nat.zero_le _
theorem isR_put {r : Rcd} {d : List Int} (h : MayR r d) (hs : r.s < 4294967296) : IsR (putR r d) ∧ takeRr (putR r d) = r ∧ takeRd (putR r d) = d := by
  have e : putR r d = Cell.put 1 (recL r d) := if_pos h
  obtain ⟨h1, h2, h3⟩ := isR_cell h hs
  rw [← e] at h1 h2 h3
  exact ⟨h1, (if_pos h1).trans h2, (if_pos h1).trans h3⟩
theorem Bs.any3 {w : World} {v : Value} {l : List Int} (h : Bs w v l) : ∃ o m c, v = .slice o m c := by
  obtain ⟨o, c, e⟩ := h.form
  exact ⟨o, _, c, e⟩
set_option maxRecDepth 100000 in
set_option maxHeartbeats 1600000 in
theorem recWakes_any {W0 : World} (O : RecOk W0) (w : World) (hw : Gr W0 w) : Calls Tryd.prog 7 #[] w fun e w' => e = .returned (.bool true) ∧ Gr w w' := by
  have HO := Lib.hid O
  have HW := Lib.hid hw
  clear O hw
  have hm : MayR ⟨0, 0, 0, 1, 1, 1, 0⟩ [5] := by unfold MayR MayI MayP; decide
  have HM := Lib.hid hm
  have HT := Lib.hid (isR_put hm (by decide))
  have HF : Hid (Rcd.Fit ⟨0, 0, 0, 1, 1, 1, 0⟩) := Lib.hid (by unfold Rcd.Fit I64; simp only; omega)
  have HL := Lib.hid (putR_len hm)
  have HB : Hid (Bs (w.alloc (.cells #[.int .u8 5] 5)) (.slice (some ⟨w.heap.size, 0, none⟩) 1 1) [5]) := Lib.hid (lit_bs1 [5] (by simp [Byt]) (by simp))
  have HG0 : Hid (Gr w (w.alloc (.cells #[.int .u8 5] 5))) := Lib.hid (Gr.alloc (Gr.refl _) _ _)
  clear hm
  go_enter Tryd.func7, Tryd.ntmps7
  go_wp2_with fail
  have A1 : Hid (RcAt ((w.alloc (.cells #[.int .u8 5] 5)).alloc (.cells #[.int .i64 0, .int .i64 0, .int .i64 0, .int .i64 1, .int .i64 1, .int .i64 1, .int .u32 0, .slice (some ⟨w.heap.size, 0, none⟩) 1 1] 27)) (w.heap.size + 1) ⟨0, 0, 0, 1, 1, 1, 0⟩ (.slice (some ⟨w.heap.size, 0, none⟩) 1 1)) := Lib.hid (by
    have h := heap_alloc_new (w.alloc (.cells #[.int .u8 5] 5)) (.cells #[.int .i64 0, .int .i64 0, .int .i64 0, .int .i64 1, .int .i64 1, .int .i64 1, .int .u32 0, .slice (some ⟨w.heap.size, 0, none⟩) 1 1] 27)
    rwa [show (w.alloc (.cells #[.int .u8 5] 5)).heap.size = w.heap.size + 1 from by simp] at h)
  have G1 : Hid (Gr w ((w.alloc (.cells #[.int .u8 5] 5)).alloc (.cells #[.int .i64 0, .int .i64 0, .int .i64 0, .int .i64 1, .int .i64 1, .int .i64 1, .int .u32 0, .slice (some ⟨w.heap.size, 0, none⟩) 1 1] 27))) := Lib.hid (Gr.alloc HG0.out _ _)
  have B1 := Lib.hid (HB.out.grown (Gr.alloc (Gr.refl _) (#[.int .i64 0, .int .i64 0, .int .i64 0, .int .i64 1, .int .i64 1, .int .i64 1, .int .u32 0, .slice (some ⟨w.heap.size, 0, none⟩) 1 1]) 27))
  generalize (w.alloc (.cells #[.int .u8 5] 5)).alloc (.cells #[.int .i64 0, .int .i64 0, .int .i64 0, .int .i64 1, .int .i64 1, .int .i64 1, .int .u32 0, .slice (some ⟨w.heap.size, 0, none⟩) 1 1] 27) = w1 at *
  clear HB HG0
  generalize w.heap.size = gs at *
  refine (HO.out.put ⟨0, 0, 0, 1, 1, 1, 0⟩ _ [5] _ (Gr.trans HW.out G1.out) HF.out (by simp) B1.out).mono ?_
  rintro e w2 ⟨u2, rfl, hn2⟩
  obtain ⟨o2, m2, c2, rfl⟩ := New.form3 hn2
  have A2 := Lib.hid (A1.out.grown hn2.1)
  have B2 := Lib.hid (B1.out.grown hn2.1)
  have G2 := Lib.hid (Gr.trans G1.out hn2.1)
  have N2 := Lib.hid (New.bs hn2)
  clear hn2 A1 B1 G1
  go_wp2_with fail
  refine (HO.out.take _ _ _ (Gr.trans HW.out G2.out) (by rw [HL.out]; omega) N2.out).mono ?_
  rw [HT.out.2.1, HT.out.2.2, decide_eq_true HT.out.1]
  rintro e w3 ⟨u3, he, hb3, hg3⟩
  obtain ⟨o3, c3, rfl⟩ := hb3.form5
  obtain rfl : e = .returned (.tuple #[.agg #[.int .i64 0, .int .i64 0, .int .i64 0, .int .i64 1, .int .i64 1, .int .i64 1, .int .u32 0, .slice o3 1 c3], .bool true]) := he
  have A3 := Lib.hid (A2.out.grown (Gr.trans hg3 (Gr.alloc (Gr.refl _) (#[.int .i64 0, .int .i64 0, .int .i64 0, .int .i64 1, .int .i64 1, .int .i64 1, .int .u32 0, .slice o3 1 c3]) 27)))
  have B3 := Lib.hid (B2.out.grown (Gr.trans hg3 (Gr.alloc (Gr.refl _) (#[.int .i64 0, .int .i64 0, .int .i64 0, .int .i64 1, .int .i64 1, .int .i64 1, .int .u32 0, .slice o3 1 c3]) 27)))
  have G3 : Hid (Gr w (w3.alloc (.cells #[.int .i64 0, .int .i64 0, .int .i64 0, .int .i64 1, .int .i64 1, .int .i64 1, .int .u32 0, .slice o3 1 c3] 27))) := Lib.hid (Gr.alloc (Gr.trans G2.out hg3) _ _)
  have X3 : Hid (RcAt (w3.alloc (.cells #[.int .i64 0, .int .i64 0, .int .i64 0, .int .i64 1, .int .i64 1, .int .i64 1, .int .u32 0, .slice o3 1 c3] 27)) w3.heap.size ⟨0, 0, 0, 1, 1, 1, 0⟩ (.slice o3 1 c3)) := Lib.hid (heap_alloc_new _ _)
  have D3 := Lib.hid (hb3.grown (Gr.alloc (Gr.refl _) (#[.int .i64 0, .int .i64 0, .int .i64 0, .int .i64 1, .int .i64 1, .int .i64 1, .int .u32 0, .slice o3 1 c3]) 27))
  clear hg3 hb3 A2 B2 G2 N2
  go_upto_region 3 with fail
  generalize (w3.alloc (.cells #[.int .i64 0, .int .i64 0, .int .i64 0, .int .i64 1, .int .i64 1, .int .i64 1, .int .u32 0, .slice o3 1 c3] 27)) = w4 at *
  generalize w3.heap.size = g4 at *
  obtain ⟨p0, p1, p2, p3, p4, p5, p6, p7⟩ := A3.out.cell
  obtain ⟨q0, q1, q2, q3, q4, q5, q6, q7⟩ := X3.out.cell
  go_wp2_with fail
  refine (HO.out.may ⟨0, 0, 0, 1, 1, 1, 0⟩ _ [5] _ (Gr.trans HW.out G3.out) HF.out (by simp) B3.out).mono ?_
  rw [decide_eq_true HM.out]
  rintro e w5 ⟨rfl, hg5⟩
  have A5 := Lib.hid (A3.out.grown hg5)
  have X5 := Lib.hid (X3.out.grown hg5)
  have B5 := Lib.hid (B3.out.grown hg5)
  have D5 := Lib.hid (D3.out.grown hg5)
  have G5 := Lib.hid (Gr.trans G3.out hg5)
  clear hg5 A3 X3 B3 D3 G3 p0 p1 p2 p3 p4 p5 p6 p7 q0 q1 q2 q3 q4 q5 q6 q7
  obtain ⟨p0, p1, p2, p3, p4, p5, p6, p7⟩ := A5.out.cell
  obtain ⟨q0, q1, q2, q3, q4, q5, q6, q7⟩ := X5.out.cell
  go_wp2_with fail
  refine (sameR_any ⟨0, 0, 0, 1, 1, 1, 0⟩ ⟨0, 0, 0, 1, 1, 1, 0⟩ _ _ [5] [5] _ true (by simp) D5.out B5.out).mono ?_
  rintro e w6 ⟨rfl, hg6⟩
  have G6 := Lib.hid (Gr.trans G5.out hg6)
  clear hg6
  go_wp2_with fail
  go_ret
  exact ⟨rfl, G6.out⟩
end Go.Proofs.YtjkfiimlaigdhaaDoor
