/-
  Law EncodeSums, walked.
-/
import Derived.Test.YtbabecjphmmngaaEncodeFirstW
namespace Go.Proofs.Ytbabecjphmmngaa
open Go.RowKit

theorem New.within {w w' : World} {v : Value} {l : List Int} (h : New w w' v l) {n : Nat} (hl : l.length = n) (hn : 0 < n) : ∃ a c, v = .slice (some a) n c ∧ w.heap.size ≤ a.block ∧ a.block < w'.heap.size := by
  obtain ⟨_, _, ⟨rfl, _⟩ | ⟨g, c, cur, rfl, h1, h2, _⟩⟩ := h
  · simp at hl
    omega
  · exact ⟨⟨g, 0, none⟩, c, by rw [hl], h1, (Array.getElem?_eq_some_iff.1 h2).1⟩
theorem Bs.cellAt {w : World} {a : Addr} {m c : Nat} {l : List Int} (h : Bs w (.slice (some a) m c) l) {i : Nat} (hi : i < m) : w.cell? (a.add i) = some (.int .u8 (l.getD i 0)) := by
  obtain ⟨_, oa', c', he, h2, h3, h4, h5⟩ := h
  obtain ⟨rfl, rfl, rfl⟩ : some a = oa' ∧ m = l.length ∧ c = c' := by simpa using he
  exact h5 a rfl i hi
theorem Bs.other {w : World} {a : Addr} {m c g k : Nat} {l : List Int} (h : Bs w (.slice (some a) m c) l) (hn : a.block ≠ g) (v : Value) : Bs (w.setCell ⟨g, k, none⟩ v) (.slice (some a) m c) l := by
  obtain ⟨h0, oa', c', he, h2, h3, h4, h5⟩ := h
  obtain ⟨rfl, rfl, rfl⟩ : some a = oa' ∧ m = l.length ∧ c = c' := by simpa using he
  refine ⟨h0, some a, c, rfl, h2, h3, h4, fun x hx i hi => ?_⟩
  cases hx
  rw [World.cell?_setCell_other]
  · exact h5 a rfl i hi
  · intro e
    have := congrArg Addr.block e
    rw [add_blk] at this
    exact hn this.symm
/-- Three lists of bytes: two to read, one of noughts to write. -/
def Trio (w0 w : World) (Q : Nat) (X Y : List Int) (s t u : Value) : Prop :=
  ∃ ax cx ay cy g, s = .slice (some ax) Q cx ∧ t = .slice (some ay) Q cy ∧ u = .slice (some ⟨g, 0, none⟩) Q Q ∧ Bs w s X ∧ Bs w t Y ∧ Blk w g (List.replicate Q 0) ∧ w0.heap.size ≤ g ∧ Gr w0 w ∧ ax.block ≠ g ∧ ay.block ≠ g
theorem sym_noughts {K H S s : Nat} (hm : MayP K H S) {id : Int} (hi : MayI id) : symP K H S s (List.replicate (K + H) (List.replicate S 0)) id = List.replicate S 0 := by
  have hw : Wide S (List.replicate (K + H) (List.replicate S (0 : Int))) := fun r hr => by rw [List.eq_of_mem_replicate hr]; exact ⟨by simp, replicate_byt S⟩
  obtain ⟨h1, h2, h3⟩ := sym_is (seed := s) hm hw (by simp) hi
  refine vec_inj (by rw [h1]; simp) h2 (replicate_byt S) ?_
  rw [h3, List.map_replicate, vec_noughts]
  have hlc : ∀ (n : Nat) (c : L.V), L.lc c (List.replicate n L.vzero) = L.vzero := by
    intro n
    induction n with
    | zero => intro c; rfl
    | succ n ih =>
      intro c
      rw [List.replicate_succ]
      show L.vadd (L.smul (c 0) L.vzero) (L.lc (fun i => c (i + 1)) (List.replicate n L.vzero)) = L.vzero
      rw [ih, L.smul_zero, L.vadd_zero]
  exact hlc _ _
section
variable {w0 v1 v2 : World} {Q : Nat} {X Y : List Int} {a1 a2 : Addr} {d1 d2 : Nat}
theorem trio_last (h1 : New w0 v1 (.slice (some a1) Q d1) X) (h2 : New v1 v2 (.slice (some a2) Q d2) Y) (m1 : a1.block < v1.heap.size) (m2 : a2.block < v2.heap.size) {cur : Array Value} (hc : cur = rowB (List.replicate Q 0)) :
    Trio w0 (v2.alloc (.cells cur 5)) Q X Y (.slice (some a1) Q d1) (.slice (some a2) Q d2) (.slice (some ⟨v2.heap.size, 0, none⟩) Q Q) := by
  subst hc
  have s1 := h1.1.size
  have s2 := h2.1.size
  exact ⟨a1, d1, a2, d2, _, rfl, rfl, rfl, Bs.grown (New.bs h1) (Gr.alloc h2.1 _ _), Bs.grown (New.bs h2) (Gr.alloc (Gr.refl _) _ _), heap_alloc_new _ _, by omega, Gr.alloc (Gr.trans h1.1 h2.1) _ _, by omega, by omega⟩
theorem trio_first {cur : Array Value} (hc : cur = rowB (List.replicate Q 0)) (h1 : New (w0.alloc (.cells cur 5)) v1 (.slice (some a1) Q d1) X) (h2 : New v1 v2 (.slice (some a2) Q d2) Y) (l1 : (w0.alloc (.cells cur 5)).heap.size ≤ a1.block) (l2 : v1.heap.size ≤ a2.block) :
    Trio w0 v2 Q X Y (.slice (some a1) Q d1) (.slice (some a2) Q d2) (.slice (some ⟨w0.heap.size, 0, none⟩) Q Q) := by
  subst hc
  have s1 := h1.1.size
  simp at s1 l1
  exact ⟨a1, d1, a2, d2, _, rfl, rfl, rfl, Bs.grown (New.bs h1) h2.1, New.bs h2, keptRow (Gr.trans h1.1 h2.1) (heap_alloc_new _ _), Nat.le_refl _, Gr.trans (Gr.alloc (Gr.refl _) _ _) (Gr.trans h1.1 h2.1), by omega, by omega⟩
theorem trio_mid {cur : Array Value} (hc : cur = rowB (List.replicate Q 0)) (h1 : New w0 v1 (.slice (some a1) Q d1) X) (h2 : New (v1.alloc (.cells cur 5)) v2 (.slice (some a2) Q d2) Y) (m1 : a1.block < v1.heap.size) (l2 : (v1.alloc (.cells cur 5)).heap.size ≤ a2.block) :
    Trio w0 v2 Q X Y (.slice (some a1) Q d1) (.slice (some a2) Q d2) (.slice (some ⟨v1.heap.size, 0, none⟩) Q Q) := by
  subst hc
  have s1 := h1.1.size
  simp at l2
  exact ⟨a1, d1, a2, d2, _, rfl, rfl, rfl, Bs.grown (New.bs h1) (Gr.trans (Gr.alloc (Gr.refl _) _ _) h2.1), New.bs h2, keptRow h2.1 (heap_alloc_new _ _), by omega, Gr.trans (Gr.alloc h1.1 _ _) h2.1, by omega, by omega⟩
end
set_option maxRecDepth 100000 in
set_option maxHeartbeats 6400000 in
theorem encodeSums_walk {At : World → Value → (Nat → Prop) → Nat → Nat → Nat → Nat → List (List Int) → Prop} (O : SystemOk) (E : EncOk At) (a b c sd : Int) (vx vy : Value) (DX DY : List Int) (id : Int) (w : World) (hdx : Bs w vx DX) (hdy : Bs w vy DY) :
    Calls Try.prog 4 #[.int .i64 a, .int .i64 b, .int .i64 c, .int .u64 sd, vx, vy, .int .i64 id] w fun e w' => e = .returned (.bool true) ∧ Gr w w' := by
  have HO := Lib.hid O
  have HE := Lib.hid E
  have HDX := Lib.hid hdx
  have HDY := Lib.hid hdy
  obtain ⟨od, md, cd, rfl⟩ := Bs.form4 hdx
  obtain ⟨oe, me, ce, rfl⟩ := Bs.form4 hdy
  clear O E hdx hdy
  obtain ⟨K, hK, K1, K2⟩ : ∃ K : Nat, 1 + a % 16 = K ∧ 1 ≤ K ∧ K ≤ 16 := ⟨(1 + a % 16).toNat, by omega, by omega, by omega⟩
  obtain ⟨H, hH, H1, H2⟩ : ∃ K : Nat, 1 + b % 4 = K ∧ 1 ≤ K ∧ K ≤ 4 := ⟨(1 + b % 4).toNat, by omega, by omega, by omega⟩
  obtain ⟨S, hS, S1, S2⟩ : ∃ K : Nat, 1 + c % 24 = K ∧ 1 ≤ K ∧ K ≤ 24 := ⟨(1 + c % 24).toNat, by omega, by omega, by omega⟩
  have hm : MayP K H S := by unfold MayP; omega
  have HM := Lib.hid hm
  obtain ⟨Q, hQ⟩ : ∃ Q, K * S = Q := ⟨_, rfl⟩
  have hQ1 : 1 ≤ Q := by rw [← hQ]; exact Nat.mul_pos K1 S1
  have hQ2 : Q ≤ 384 := by rw [← hQ]; exact Nat.le_trans (Nat.mul_le_mul K2 S2) (by omega)
  have hQi : (K : Int) * (S : Int) = (Q : Int) := by rw [← hQ]; simp
  have hQw : IntKind.i64.wrap (Q : Int) = Q := by simp [IntKind.wrap, IntKind.bits, IntKind.signed]; omega
  have HQ := Lib.hid hQ
  clear hm hQ
  go_enter Try.func4, Try.ntmps4
  go_wp2_with fail
  refine (params_any a b c _).mono ?_
  rintro e w1 ⟨rfl, hg⟩
  rw [hK, hH, hS]
  clear hK hH hS
  go_wp2_with fail
  have HP : Hid (Par (w1.alloc (.cells #[.int .i64 (K : Int), .int .i64 (H : Int), .int .i64 (S : Int)] 25)) w1.heap.size K H S) := Lib.hid (heap_alloc_new _ _)
  have HG : Hid (Gr w (w1.alloc (.cells #[.int .i64 (K : Int), .int .i64 (H : Int), .int .i64 (S : Int)] 25))) := Lib.hid (Gr.alloc hg _ _)
  clear hg
  generalize w1.alloc (.cells #[.int .i64 (K : Int), .int .i64 (H : Int), .int .i64 (S : Int)] 25) = W0 at *
  generalize w1.heap.size = gp at *
  have c0 := HP.out.cell0
  have c1 := HP.out.cell1
  have c2 := HP.out.cell2
  go_wp2_with fail
  refine (seed_any HO.out K H S sd _).mono ?_
  rintro e w2 ⟨s, rfl, hs, hg2⟩
  have HP2 := Lib.hid (HP.out.grown hg2)
  have HG2 := Lib.hid (Gr.trans HG.out hg2)
  have HS := Lib.hid hs
  clear hg2 HP HG c0 c1 c2 hs
  have c0 := HP2.out.cell0
  have c1 := HP2.out.cell1
  have c2 := HP2.out.cell2
  go_wp2_with fail
  refine (HO.out.right K H S s _ HS.out).mono ?_
  by_cases hr : RightP K H S s
  · rw [decide_eq_true hr]
    have HRT := Lib.hid hr
    rintro e w3 ⟨rfl, hg3⟩
    have HP3 := Lib.hid (HP2.out.grown hg3)
    have HG3 := Lib.hid (Gr.trans HG2.out hg3)
    clear hg3 hr HP2 HG2 c0 c1 c2
    have c0 := HP3.out.cell0
    have c1 := HP3.out.cell1
    have c2 := HP3.out.cell2
    go_wp2_with fail
    obtain ⟨X, hX⟩ : ∃ X, dataL DX Q = X := ⟨_, rfl⟩
    have HXB : Hid (∀ z ∈ X, Byt z) := Lib.hid (by rw [← hX]; exact dataL_byt HDX.out.1 Q)
    have HXL : Hid (X.length = Q) := Lib.hid (by rw [← hX]; exact dataL_length DX Q)
    obtain ⟨Y, hY⟩ : ∃ Y, dataL DY Q = Y := ⟨_, rfl⟩
    have HYB : Hid (∀ z ∈ Y, Byt z) := Lib.hid (by rw [← hY]; exact dataL_byt HDY.out.1 Q)
    have HYL : Hid (Y.length = Q) := Lib.hid (by rw [← hY]; exact dataL_length DY Q)
    have HX := Lib.hid hX
    have HY := Lib.hid hY
    have hmk := make22 Q Q (by omega) (by omega)
    obtain ⟨cur, hcur⟩ : ∃ cur, cur = rowB (List.replicate Q 0) := ⟨_, rfl⟩
    rw [← hcur] at hmk
    have HCU := Lib.hid hcur
    clear hcur hX hY
    go_cut [17, 18, 19] (fun s t u wx => Trio w3 wx Q X Y s t u)
    case first =>
      go_region_held3 (fun W => W.cell? ⟨gp, 0, none⟩ = some (.int .i64 (K : Int)) ∧ W.cell? ⟨gp, 1, none⟩ = some (.int .i64 (H : Int)) ∧ W.cell? ⟨gp, 2, none⟩ = some (.int .i64 (S : Int))) (first | exact ⟨k20, k21, k22⟩ | exact ⟨k10, k11, k12⟩ | exact ⟨cell_grown (Gr.alloc (Gr.refl _) _ _) k20, cell_grown (Gr.alloc (Gr.refl _) _ _) k21, cell_grown (Gr.alloc (Gr.refl _) _ _) k22⟩ | exact ⟨cell_grown (Gr.alloc (Gr.refl _) _ _) k10, cell_grown (Gr.alloc (Gr.refl _) _ _) k11, cell_grown (Gr.alloc (Gr.refl _) _ _) k12⟩ | exact ⟨cell_grown (Gr.alloc (Gr.drew (Gr.refl _)) _ _) c0, cell_grown (Gr.alloc (Gr.drew (Gr.refl _)) _ _) c1, cell_grown (Gr.alloc (Gr.drew (Gr.refl _)) _ _) c2⟩ | go_keep)
        (first
          | (go_at_call 8; have h1 := V1; refine (data_any _ DY Q _ (Bs.grown HDY.out (Gr.trans HG3.out (by first | exact V1.out | exact Gr.alloc V1.out _ _))) hQ1 (by omega)).mono ?_; rw [HY.out]; rintro e v2 ⟨y2, rfl, hn2⟩; have hg2 := hn2.1; have k20 := cell_grown hg2 (by first | exact k10 | exact cell_grown (Gr.alloc (Gr.refl _) _ _) k10); have k21 := cell_grown hg2 (by first | exact k11 | exact cell_grown (Gr.alloc (Gr.refl _) _ _) k11); have k22 := cell_grown hg2 (by first | exact k12 | exact cell_grown (Gr.alloc (Gr.refl _) _ _) k12); obtain ⟨a2, d2, rfl, l2, m2⟩ := hn2.within HYL.out hQ1; have L2 := Lib.hid l2; have M2 := Lib.hid m2; have N2 := Lib.hid hn2; clear hn2 l2 m2)
          | (go_at_call 8; refine (data_any _ DX Q _ (Bs.grown HDX.out (Gr.trans HG3.out (by first | exact Gr.drew (Gr.refl _) | exact Gr.alloc (Gr.drew (Gr.refl _)) _ _))) hQ1 (by omega)).mono ?_; rw [HX.out]; rintro e v1 ⟨y1, rfl, hn1⟩; have hg1 := hn1.1; have k10 := cell_grown hg1 (by first | exact c0 | exact cell_grown (Gr.alloc (Gr.drew (Gr.refl _)) _ _) c0); have k11 := cell_grown hg1 (by first | exact c1 | exact cell_grown (Gr.alloc (Gr.drew (Gr.refl _)) _ _) c1); have k12 := cell_grown hg1 (by first | exact c2 | exact cell_grown (Gr.alloc (Gr.drew (Gr.refl _)) _ _) c2); obtain ⟨a1, d1, rfl, l1, m1⟩ := hn1.within HXL.out hQ1; have L1 := Lib.hid l1; have M1 := Lib.hid m1; have N1 := Lib.hid hn1; clear l1 m1; have V1 : Hid (Gr w3 v1) := Lib.hid (Gr.trans (by first | exact Gr.drew (Gr.refl _) | exact Gr.alloc (Gr.drew (Gr.refl _)) _ _) hg1); clear hn1))
      all_goals (go_wp2_with fail; go_meet)
      all_goals
        first
          | exact trio_last N1.out N2.out M1.out M2.out HCU.out
          | exact trio_first HCU.out N1.out N2.out L1.out L2.out
          | exact trio_mid HCU.out N1.out N2.out M1.out L2.out
    case rest =>
      clear hmk c0 c1 c2
      obtain ⟨ax, cx, ay, cy, g, rfl, rfl, rfl, hbx, hby, hblk, hge, hgr, hxg, hyg⟩ := hcut
      have HQL : Hid (Q ≤ cx ∧ Q ≤ cy) := Lib.hid (by
        obtain ⟨_, _, _, hf, hl, _⟩ := hbx
        obtain ⟨_, _, _, hf2, hl2, _⟩ := hby
        simp at hf hf2
        omega)
      have HBX := Lib.hid hbx
      have HBY := Lib.hid hby
      have MK : Hid (Making w3 g Q (fun i => addZ (X.getD i 0) (Y.getD i 0)) 0 wc) := Lib.hid ⟨hgr, hge, by rw [← part_nil]; exact hblk⟩
      clear hbx hby hblk hge hgr
      go_wp2_with fail
      go_loopw [67] (fun iv W => ∃ k : Nat, k ≤ Q ∧ iv = .int .i64 k ∧ Making w3 g Q (fun i => addZ (X.getD i 0) (Y.getD i 0)) k W ∧ Bs W (.slice (some ax) Q cx) X ∧ Bs W (.slice (some ay) Q cy) Y) (fun iv _ => Q - (intOf iv).toNat)
      case atStart => exact ⟨0, by omega, rfl, MK.out, HBX.out, HBY.out⟩
      case round =>
        clear MK HBX HBY
        obtain ⟨wo, hwo⟩ : ∃ x, x = wr := ⟨_, rfl⟩
        subst hwo
        obtain ⟨k, hk, rfl, hm, hbx, hby⟩ := hrel
        by_cases hlt : k < Q
        · have q1 := Bs.cellAt hbx hlt
          have q2 := Bs.cellAt hby hlt
          have q3 := Blk.cell hm.2.2 k (by rw [lst_length]; exact hlt)
          have q4 := frozen_of_row wo g k _ _ hm.2.2
          have n1 : ax.add k ≠ ⟨g, k, none⟩ := fun e => hxg (by have := congrArg Addr.block e; rw [add_blk] at this; exact this)
          have n2 : ay.add k ≠ ⟨g, k, none⟩ := fun e => hyg (by have := congrArg Addr.block e; rw [add_blk] at this; exact this)
          have M0 := Lib.hid hm
          have E : Hid (bits BinOp.xor IntKind.u8 (X.getD k 0) (Y.getD k 0) = addZ (X.getD k 0) (Y.getD k 0)) := Lib.hid (xorZ _ _ (getD_byt HXB.out k) (getD_byt HYB.out k))
          have BX := Lib.hid (fun v => Bs.other (k := k) hbx hxg v)
          have BY := Lib.hid (fun v => Bs.other (k := k) hby hyg v)
          have b1 : (k : Int) < Q := by omega
          clear hm hbx hby
          generalize (lst Q (part (fun i => addZ (X.getD i 0) (Y.getD i 0)) k)).getD k 0 = old at *
          obtain ⟨x0, hx0⟩ : ∃ x0, X.getD k 0 = x0 := ⟨_, rfl⟩
          obtain ⟨y0, hy0⟩ : ∃ y0, Y.getD k 0 = y0 := ⟨_, rfl⟩
          rw [hx0] at q1
          rw [hy0] at q2
          rw [hx0, hy0] at E
          have HX0 := Lib.hid hx0
          have HY0 := Lib.hid hy0
          clear hx0 hy0
          go_wp2_with fail
          go_region_held3 (fun W => W.cell? (ax.add k) = some (.int .u8 x0) ∧ W.cell? (ay.add k) = some (.int .u8 y0)) (first | exact ⟨cell_set_far q1 n1, cell_set_far q2 n2⟩ | go_keep) (first | fail)
          rw [E.out]
          go_wp2_with fail
          have hst := Making.store M0.out
          rw [HX0.out, HY0.out] at hst
          exact ⟨⟨k + 1, by omega, by go_num, Making.drew hst, BX.out _, BY.out _⟩, by simp [intOf]; omega⟩
        · obtain rfl : k = Q := by omega
          have hsum : lst k (fun i => addZ (X.getD i 0) (Y.getD i 0)) = sumL X Y := by unfold sumL; rw [HXL.out]
          have hblk := hm.2.2
          rw [part_all, hsum] at hblk
          have hsl : (sumL X Y).length = k := by rw [sumL_length, HXL.out]
          have hsb := sumL_byt HXB.out HYB.out
          have hbs := Blk.bs (L := sumL X Y) hblk (sumL X Y) k (Nat.le_refl _) (by omega) (by omega) hsb fun _ _ => rfl
          rw [hsl] at hbs
          have HBS := Lib.hid hbs
          have HBX := Lib.hid hbx
          have HBY := Lib.hid hby
          have HSL := Lib.hid hsl
          have HPC := Lib.hid (HP3.out.grown hm.1)
          have HGC := Lib.hid (Gr.trans HG3.out hm.1)
          clear hsum hblk hsl hsb hbs hm hbx hby
          have c0 := HPC.out.cell0
          have c1 := HPC.out.cell1
          have c2 := HPC.out.cell2
          go_wp2_with fail
          refine (HE.out.new K H S s _ X _ HS.out HBX.out HM.out (by rw [HXL.out, HQ.out]) HRT.out).mono ?_
          rintro e wn1 ⟨y1, F1, M1, rfl, hmid, hat, hgn, _⟩
          obtain ⟨p1, rfl⟩ := HE.out.ptr hat
          have HI1 := Lib.hid hmid
          have HA1 := Lib.hid hat
          have HP1 := Lib.hid (HPC.out.grown hgn)
          have HG1 := Lib.hid (Gr.trans HGC.out hgn)
          have HY1 := Lib.hid (Bs.grown HBY.out hgn)
          have HS1 := Lib.hid (Bs.grown HBS.out hgn)
          clear hmid hat hgn HPC HGC HBY HBS HBX c0 c1 c2
          have c0 := HP1.out.cell0
          have c1 := HP1.out.cell1
          have c2 := HP1.out.cell2
          go_wp2_with fail
          refine (HE.out.new K H S s _ Y _ HS.out HY1.out HM.out (by rw [HYL.out, HQ.out]) HRT.out).mono ?_
          rintro e wn2 ⟨y2, F2, M2, rfl, hmid, hat, hgn, _⟩
          obtain ⟨p2, rfl⟩ := HE.out.ptr hat
          have HI2 := Lib.hid hmid
          have HA2 := Lib.hid hat
          have HP2 := Lib.hid (HP1.out.grown hgn)
          have HG2 := Lib.hid (Gr.trans HG1.out hgn)
          have HA1b := Lib.hid (HE.out.grown HA1.out hgn)
          have HS2 := Lib.hid (Bs.grown HS1.out hgn)
          clear hmid hat hgn HP1 HG1 HY1 HS1 HA1 c0 c1 c2
          have c0 := HP2.out.cell0
          have c1 := HP2.out.cell1
          have c2 := HP2.out.cell2
          go_wp2_with fail
          refine (HE.out.new K H S s _ (sumL X Y) _ HS.out HS2.out HM.out (by rw [HSL.out, HQ.out]) HRT.out).mono ?_
          rintro e wn3 ⟨y3, F3, M3, rfl, hmid, hat, hgn, _⟩
          obtain ⟨p3, rfl⟩ := HE.out.ptr hat
          obtain rfl : M3 = sumM M1 M2 := hmid.unique HRT.out (HI1.out.sum HI2.out (by rw [HXL.out, HQ.out]) (by rw [HYL.out, HQ.out]) HXB.out HYB.out)
          have HA3 := Lib.hid hat
          have HP3' := Lib.hid (HP2.out.grown hgn)
          have HG3' := Lib.hid (Gr.trans HG2.out hgn)
          have HA1c := Lib.hid (HE.out.grown HA1b.out hgn)
          have HA2c := Lib.hid (HE.out.grown HA2.out hgn)
          clear hmid hat hgn HP2 HG2 HS2 HA1b HA2 c0 c1 c2
          have c0 := HP3'.out.cell0
          have c1 := HP3'.out.cell1
          have c2 := HP3'.out.cell2
          have hmk := make22 k k (by omega) (by omega)
          obtain ⟨cur2, hcur⟩ : ∃ cur, cur = rowB (List.replicate k 0) := ⟨_, rfl⟩
          rw [← hcur] at hmk
          have HCU2 := Lib.hid hcur
          have HBZ : Hid (∀ W : World, Bs (W.alloc (.cells cur2 5)) (.slice (some ⟨W.heap.size, 0, none⟩) k k) (List.replicate k 0)) := Lib.hid fun W => by
            have := Blk.bs (w := W.alloc (.cells cur2 5)) (g := W.heap.size) (L := List.replicate k 0) (by rw [HCU2.out]; exact heap_alloc_new _ _) (List.replicate k 0) k (Nat.le_refl _) (by simp) (by omega) (replicate_byt k) fun _ _ => rfl
            simpa using this
          clear hcur
          go_wp2_with fail
          go_region_held3 (fun W => W.cell? ⟨gp, 0, none⟩ = some (.int .i64 (K : Int)) ∧ W.cell? ⟨gp, 1, none⟩ = some (.int .i64 (H : Int)) ∧ W.cell? ⟨gp, 2, none⟩ = some (.int .i64 (S : Int))) (first | exact ⟨k10, k11, k12⟩ | exact ⟨cell_grown (Gr.alloc (Gr.drew (Gr.refl _)) _ _) c0, cell_grown (Gr.alloc (Gr.drew (Gr.refl _)) _ _) c1, cell_grown (Gr.alloc (Gr.drew (Gr.refl _)) _ _) c2⟩ | go_keep)
            (first
              | (go_at_call 9; refine (HE.out.new K H S s _ (List.replicate k 0) _ HS.out (by exact HBZ.out _) HM.out (by rw [List.length_replicate, HQ.out]) HRT.out).mono ?_; rintro e v1 ⟨y4, F4, M4, rfl, hmid, hat, hgn, _⟩; obtain ⟨p4, rfl⟩ := HE.out.ptr hat; have hg1 := Gr.trans (Gr.alloc (Gr.drew (Gr.refl _)) cur2 5) hgn; have k10 := cell_grown hg1 (by exact c0); have k11 := cell_grown hg1 (by exact c1); have k12 := cell_grown hg1 (by exact c2); have V1 : Hid (Gr wn3 v1) := Lib.hid (by exact hg1); have HI4 := Lib.hid hmid; have HA4 := Lib.hid hat; clear hmid hat hgn))
          obtain rfl : M4 = List.replicate (K + H) (List.replicate S 0) := HI4.out.unique HRT.out (by have := mid_noughts (seed := s) HM.out; rwa [HQ.out] at this)
          have HA1d := Lib.hid (HE.out.grown HA1c.out V1.out)
          have HA2d := Lib.hid (HE.out.grown HA2c.out V1.out)
          have HA3d := Lib.hid (HE.out.grown HA3.out V1.out)
          have HP4 := Lib.hid (HP3'.out.grown V1.out)
          have HG4 := Lib.hid (Gr.trans HG3'.out V1.out)
          clear HA1c HA2c HA3 HP3' HG3' V1 c0 c1 c2 k10 k11 k12 hmk HBZ HCU2
          obtain ⟨i1, hi1, hi2⟩ : ∃ q : Nat, id % 65536 = q ∧ q < 65536 := ⟨(id % 65536).toNat, by omega, by omega⟩
          have HI : Hid (MayI (i1 : Int)) := Lib.hid (by unfold MayI; omega)
          have HI1' := Lib.hid hi1
          clear hi1
          have HW3 := Lib.hid (sumM_wide HI1.out.wide HI2.out.wide)
          have HL3 : Hid ((sumM M1 M2).length = K + H) := Lib.hid (by unfold sumM; rw [List.length_zipWith, HI1.out.len, HI2.out.len, Nat.min_self])
          have hss := sym_sum (seed := s) HM.out HI1.out.wide HI2.out.wide HI1.out.len HI2.out.len HI.out
          obtain ⟨l1, b1, _⟩ := sym_is (seed := s) HM.out HI1.out.wide HI1.out.len HI.out
          obtain ⟨l2, b2, _⟩ := sym_is (seed := s) HM.out HI2.out.wide HI2.out.len HI.out
          obtain ⟨Z1, hZ1⟩ : ∃ Z, symP K H S s M1 i1 = Z := ⟨_, rfl⟩
          obtain ⟨Z2, hZ2⟩ : ∃ Z, symP K H S s M2 i1 = Z := ⟨_, rfl⟩
          rw [hZ1, hZ2] at hss
          rw [hZ1] at l1 b1
          rw [hZ2] at l2 b2
          have HZ1 := Lib.hid hZ1
          have HZ2 := Lib.hid hZ2
          have HSS := Lib.hid hss
          have HL1 := Lib.hid l1
          have HL2 := Lib.hid l2
          have HB1 := Lib.hid b1
          have HB2 := Lib.hid b2
          have HSN := Lib.hid (sym_noughts (s := s) HM.out HI.out)
          have hii : I64 (i1 : Int) := ⟨by omega, by omega⟩
          have HII := Lib.hid hii
          clear hss l1 b1 l2 b2 hZ1 hZ2 hii
          go_wp2_with fail
          refine (within_any id 65536 (by omega) (by omega) _).mono ?_
          rintro e w' ⟨rfl, rfl⟩
          rw [HI1'.out]
          go_wp2_with fail
          refine (HE.out.symbol _ F1 K H S s M1 i1 _ HM.out HS.out HA1d.out HI1.out.wide HI1.out.len HII.out).mono ?_
          rw [HZ1.out]
          rintro e wa ⟨va, rfl, hna⟩
          have hba := New.bs hna
          obtain ⟨oa, ca, rfl⟩ := Bs.form hba
          rw [HL1.out] at hba ⊢
          obtain ⟨aa, rfl⟩ := Bs.addr hba (by omega)
          have HBA := Lib.hid hba
          have HA2e := Lib.hid (HE.out.grown HA2d.out hna.1)
          have HA3e := Lib.hid (HE.out.grown HA3d.out hna.1)
          have HA4e := Lib.hid (HE.out.grown HA4.out hna.1)
          have HP5 := Lib.hid (HP4.out.grown hna.1)
          have HG5 := Lib.hid (Gr.trans HG4.out hna.1)
          clear hna hba HA1d HA2d HA3d HA4 HP4 HG4
          go_wp2_with fail
          refine (HE.out.symbol _ F2 K H S s M2 i1 _ HM.out HS.out HA2e.out HI2.out.wide HI2.out.len HII.out).mono ?_
          rw [HZ2.out]
          rintro e wb ⟨vb, rfl, hnb⟩
          have hbb := New.bs hnb
          obtain ⟨ob, cb, rfl⟩ := Bs.form hbb
          rw [HL2.out] at hbb ⊢
          obtain ⟨ab, rfl⟩ := Bs.addr hbb (by omega)
          have HBB := Lib.hid hbb
          have HBA2 := Lib.hid (Bs.grown HBA.out hnb.1)
          have HA3f := Lib.hid (HE.out.grown HA3e.out hnb.1)
          have HA4f := Lib.hid (HE.out.grown HA4e.out hnb.1)
          have HP6 := Lib.hid (HP5.out.grown hnb.1)
          have HG6 := Lib.hid (Gr.trans HG5.out hnb.1)
          clear hnb hbb HBA HA2e HA3e HA4e HP5 HG5
          go_wp2_with fail
          refine (HE.out.symbol _ F3 K H S s (sumM M1 M2) i1 _ HM.out HS.out HA3f.out HW3.out HL3.out HII.out).mono ?_
          rw [HSS.out]
          rintro e wd' ⟨vc, rfl, hnc⟩
          have hbc := New.bs hnc
          obtain ⟨oc, cc, rfl⟩ := Bs.form hbc
          rw [sumL_length, HL1.out] at hbc ⊢
          obtain ⟨ac, rfl⟩ := Bs.addr hbc (by omega)
          have HBC := Lib.hid hbc
          have HBA3 := Lib.hid (Bs.grown HBA2.out hnc.1)
          have HBB3 := Lib.hid (Bs.grown HBB.out hnc.1)
          have HA4g := Lib.hid (HE.out.grown HA4f.out hnc.1)
          have HP7 := Lib.hid (HP6.out.grown hnc.1)
          have HG7 := Lib.hid (Gr.trans HG6.out hnc.1)
          clear hnc hbc HBA2 HBB HA3f HA4f HP6 HG6
          have c0 := HP7.out.cell0
          have c1 := HP7.out.cell1
          have c2 := HP7.out.cell2
          go_wp2_with fail
          clear c0 c1 c2
          go_loopw [178] (fun iv W => ∃ n : Nat, n ≤ S ∧ iv = .int .i64 n ∧ Gr wd' W) (fun iv _ => S - (intOf iv).toNat)
          case atStart => exact ⟨0, by omega, rfl, Gr.refl _⟩
          case round =>
            obtain ⟨wo, hwo⟩ : ∃ x, x = wr := ⟨_, rfl⟩
            subst hwo
            obtain ⟨n, hn, rfl, hg⟩ := hrel
            by_cases hlt : n < S
            · have q1 := Bs.cellAt (Bs.grown HBA3.out hg) hlt
              have q2 := Bs.cellAt (Bs.grown HBB3.out hg) hlt
              have q3 := Bs.cellAt (Bs.grown HBC.out hg) hlt
              rw [sumL_getD _ _ _ (by rw [HL1.out]; exact hlt)] at q3
              have E := xorZ _ _ (getD_byt HB1.out n) (getD_byt HB2.out n)
              obtain ⟨x1, hx1⟩ : ∃ x, Z1.getD n 0 = x := ⟨_, rfl⟩
              obtain ⟨x2, hx2⟩ : ∃ x, Z2.getD n 0 = x := ⟨_, rfl⟩
              rw [hx1, hx2] at E q3
              rw [hx1] at q1
              rw [hx2] at q2
              obtain ⟨x3, hx3⟩ : ∃ x, addZ x1 x2 = x := ⟨_, rfl⟩
              rw [hx3] at E q3
              have HGO := Lib.hid hg
              have b1 : (n : Int) < S := by omega
              clear hg hx1 hx2 hx3
              go_wp2_with fail
              go_region_held3 (fun W => W.cell? (aa.add n) = some (.int .u8 x1) ∧ W.cell? (ab.add n) = some (.int .u8 x2) ∧ W.cell? (ac.add n) = some (.int .u8 x3)) (first | exact ⟨q1, q2, q3⟩ | go_keep) (first | fail)
              go_wp2_with fail
              exact ⟨⟨n + 1, by omega, by go_num, HGO.out⟩, by simp [intOf]; omega⟩
            · obtain rfl : n = S := by omega
              have HPZ := Lib.hid (HP7.out.grown hg)
              have HGZ := Lib.hid (Gr.trans HG7.out hg)
              have HAZ := Lib.hid (HE.out.grown HA4g.out hg)
              have c0 := HPZ.out.cell0
              have c1 := HPZ.out.cell1
              have c2 := HPZ.out.cell2
              have hmk := make22 n n (by omega) (by omega)
              obtain ⟨cur3, hcur⟩ : ∃ cur, cur = rowB (List.replicate n 0) := ⟨_, rfl⟩
              rw [← hcur] at hmk
              have HBZ : Hid (∀ W W' : World, Gr (W.alloc (.cells cur3 5)) W' → Bs W' (.slice (some ⟨W.heap.size, 0, none⟩) n n) (List.replicate n 0)) := Lib.hid fun W W' hW => by
                have := Blk.bs (w := W') (g := W.heap.size) (L := List.replicate n 0) (keptRow hW (by rw [hcur]; exact heap_alloc_new _ _)) (List.replicate n 0) n (Nat.le_refl _) (by simp) (by omega) (replicate_byt n) fun _ _ => rfl
                simpa using this
              have HWZ : Hid (Wide n (List.replicate (K + H) (List.replicate n (0 : Int)))) := Lib.hid fun r hr => by rw [List.eq_of_mem_replicate hr]; exact ⟨by simp, replicate_byt n⟩
              clear hcur hg
              go_wp2_with fail
              go_region_held3 (fun W => W.cell? ⟨gp, 0, none⟩ = some (.int .i64 (K : Int)) ∧ W.cell? ⟨gp, 1, none⟩ = some (.int .i64 (H : Int)) ∧ W.cell? ⟨gp, 2, none⟩ = some (.int .i64 (n : Int)))
                (first | exact ⟨k30, k31, k32⟩ | exact ⟨k20, k21, k22⟩ | exact ⟨k10, k11, k12⟩ | exact ⟨cell_grown (Gr.alloc (Gr.refl _) _ _) k10, cell_grown (Gr.alloc (Gr.refl _) _ _) k11, cell_grown (Gr.alloc (Gr.refl _) _ _) k12⟩ | exact ⟨cell_grown (Gr.alloc (Gr.drew (Gr.refl _)) _ _) c0, cell_grown (Gr.alloc (Gr.drew (Gr.refl _)) _ _) c1, cell_grown (Gr.alloc (Gr.drew (Gr.refl _)) _ _) c2⟩ | go_keep)
                (first
                  | (go_at_call 11; refine (encWakes_any HE.out _).mono ?_; rintro e v3 ⟨rfl, hg3⟩; have k30 := cell_grown hg3 (by exact k20); have k31 := cell_grown hg3 (by exact k21); have k32 := cell_grown hg3 (by exact k22); have V3 : Hid (Gr v2 v3) := Lib.hid hg3)
                  | (go_at_call 13; refine (same_any _ _ (List.replicate n 0) (List.replicate n 0) _ (by first | exact B1.out | exact Bs.grown B1.out (Gr.alloc (Gr.refl _) _ _)) (by first | exact HBZ.out _ _ (Gr.refl _) | exact HBZ.out wo _ V1n.out)).mono ?_; rw [beq_self_eq_true]; rintro e v2 ⟨rfl, hg2⟩; have k20 := cell_grown hg2 (by first | exact k10 | exact cell_grown (Gr.alloc (Gr.refl _) _ _) k10); have k21 := cell_grown hg2 (by first | exact k11 | exact cell_grown (Gr.alloc (Gr.refl _) _ _) k11); have k22 := cell_grown hg2 (by first | exact k12 | exact cell_grown (Gr.alloc (Gr.refl _) _ _) k12); have V2 : Hid (Gr v1 v2) := Lib.hid (Gr.trans (by first | exact Gr.refl _ | exact Gr.alloc (Gr.refl _) _ _) hg2))
                  | (go_at_call 14; refine (HE.out.symbol _ F4 K H n s _ i1 _ HM.out HS.out (HE.out.grown HAZ.out (by first | exact Gr.drew (Gr.refl _) | exact Gr.alloc (Gr.drew (Gr.refl _)) _ _)) HWZ.out (by simp) HII.out).mono ?_; rw [HSN.out]; rintro e v1 ⟨y1, rfl, hn1⟩; have V1n := Lib.hid hn1.1; have hg1 : Gr wo v1 := Gr.trans (by first | exact Gr.drew (Gr.refl _) | exact Gr.alloc (Gr.drew (Gr.refl _)) _ _) hn1.1; have k10 := cell_grown hg1 c0; have k11 := cell_grown hg1 c1; have k12 := cell_grown hg1 c2; obtain ⟨o1', m1', d1', rfl⟩ := Bs.form4 (New.bs hn1); have B1 := Lib.hid (New.bs hn1); have V1 : Hid (Gr wo v1) := Lib.hid hg1; clear hn1))
              all_goals
                have HGY := Lib.hid (Gr.trans HGZ.out (Gr.trans V1.out (Gr.trans V2.out V3.out)))
                go_wp2_with fail
                go_ret
                exact ⟨rfl, HGY.out⟩
  · rw [decide_eq_false hr]
    rintro e w3 ⟨rfl, hg3⟩
    have HG3 := Lib.hid (Gr.trans HG2.out hg3)
    clear hg3 hr c0 c1 c2
    go_wp2_with fail
    refine (encWakes_any HE.out _).mono ?_
    rintro e w6 ⟨rfl, hg6⟩
    have HG6 := Lib.hid (Gr.trans HG3.out hg6)
    clear hg6
    go_wp2_with fail
    go_ret
    exact ⟨rfl, HG6.out⟩
end Go.Proofs.Ytbabecjphmmngaa
