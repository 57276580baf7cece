/-
  Law PreRank, walked: the rank of the rows ahead; each tells what stands in its own column.
-/
import Derived.Test.YtocigdcbfbnfoaaPy
import Derived.Test.YtocigdcbfbnfoaaSt
import Derived.Deep.CutBlock
namespace Go.Proofs.Ytocigdcbfbnfoaa
open Go.RowKit

/-- Source symbols, and behind them what the first n rows ahead tell. -/
def toldL (K H : Nat) (X : List Int) (n : Nat) : List Int := lst (K + H) fun j => if j < K then X.getD j 0 else if j - K < n then dotL (aheadRow K H (j - K)) X K else 0
theorem toldL_length (K H : Nat) (X : List Int) (n : Nat) : (toldL K H X n).length = K + H := lst_length _ _
theorem toldL_byt {K H : Nat} {X : List Int} (hX : ∀ z ∈ X, Byt z) (n : Nat) : ∀ z ∈ toldL K H X n, Byt z := lst_byt fun i _ => by
  show Byt (if i < K then X.getD i 0 else if i - K < n then dotL (aheadRow K H (i - K)) X K else 0)
  split
  · exact getD_byt hX i
  · split
    · exact dotL_byt _ _ _
    · unfold Byt; omega
theorem toldL_getD {K H : Nat} {X : List Int} {n j : Nat} (hj : j < K + H) : (toldL K H X n).getD j 0 = if j < K then X.getD j 0 else if j - K < n then dotL (aheadRow K H (j - K)) X K else 0 := lst_getD _ _ _ hj
theorem told_dot {K H h n : Nat} (hh : h < H) {X : List Int} (hX : ∀ z ∈ X, Byt z) : dotL (aheadRow K H h) (toldL K H X n) (K + H) = if h < n then 0 else dotL (aheadRow K H h) X K := by
  rw [dot_ahead hh (toldL_byt hX n) H (Nat.le_refl _), if_pos hh, toldL_getD (by omega), if_neg (by omega)]
  rw [dotL_congr (y' := X) K fun j hj => by rw [toldL_getD (by omega), if_pos hj]]
  rw [show K + h - K = h from by omega]
  split
  · rw [addZ_self]
  · rw [addZ_zero _ (dotL_byt _ _ _)]
theorem told_next {K H h : Nat} (_ : h < H) {X : List Int} : (toldL K H X h).set (K + h) (dotL (aheadRow K H h) X K) = toldL K H X (h + 1) := by
  unfold toldL
  rw [lst_set]
  apply lst_congr
  intro j hj
  by_cases e : j = K + h
  · subst e
    rw [if_pos rfl, if_neg (by omega), if_pos (by omega), show K + h - K = h from by omega]
  · rw [if_neg e]
    by_cases c : j < K
    · rw [if_pos c, if_pos c]
    · rw [if_neg c, if_neg c]
      by_cases c2 : j - K < h
      · rw [if_pos c2, if_pos (by omega)]
      · rw [if_neg c2, if_neg (by omega)]
theorem told_start {K H : Nat} {X : List Int} (hl : X.length = K + H) (h0 : ∀ j, K ≤ j → X.getD j 0 = 0) : toldL K H X 0 = X := by
  apply ext_getD (by rw [toldL_length, hl])
  intro j hj
  rw [toldL_length] at hj
  rw [toldL_getD hj]
  by_cases c : j < K
  · rw [if_pos c]
  · rw [if_neg c, if_neg (by omega), h0 j (by omega)]
set_option maxRecDepth 100000 in
set_option maxHeartbeats 3200000 in
theorem preRank_walk (R : MatOk) (D : RowOk) (O : PreOk) (a b c : Int) (vd : Value) (dl : List Int) (w : World) (hd : Bs w vd dl) :
    Calls Try.prog 4 #[.int .i64 a, .int .i64 b, .int .i64 c, vd] w fun e w' => e = .returned (.bool true) ∧ Gr w w' := by
  have HO := Lib.hid O
  have HR := Lib.hid R
  have HD := Lib.hid D
  have HB := Lib.hid hd
  obtain ⟨od, cd, rfl⟩ := hd.form
  obtain ⟨m, hm⟩ : ∃ m, dl.length = m := ⟨_, rfl⟩
  rw [hm] at HB hd ⊢
  have HMM := Lib.hid hm
  obtain ⟨x, hx, hx2⟩ : ∃ x : Nat, a % 16 = x ∧ x < 16 := ⟨(a % 16).toNat, by omega, by omega⟩
  obtain ⟨y, hy, hy2⟩ : ∃ x : Nat, b % 4 = x ∧ x < 4 := ⟨(b % 4).toNat, by omega, by omega⟩
  obtain ⟨z, hz, hz2⟩ : ∃ x : Nat, c % 24 = x ∧ x < 24 := ⟨(c % 24).toNat, by omega, by omega⟩
  obtain ⟨K, hK, K1, K2⟩ : ∃ K : Nat, (1 : Int) + x = K ∧ 1 ≤ K ∧ K ≤ 16 := ⟨1 + x, by omega, by omega, by omega⟩
  obtain ⟨H, hH, H1, H2⟩ : ∃ K : Nat, (1 : Int) + y = K ∧ 1 ≤ K ∧ K ≤ 4 := ⟨1 + y, by omega, by omega, by omega⟩
  obtain ⟨S, hS, S1, S2⟩ : ∃ K : Nat, (1 : Int) + z = K ∧ 1 ≤ K ∧ K ≤ 24 := ⟨1 + z, by omega, by omega, by omega⟩
  have HM : Hid (MayP (K : Int) (H : Int) (S : Int)) := Lib.hid (by unfold MayP; omega)
  have HPA : Hid (par (1 + a % 16) (1 + b % 4) (1 + c % 24) = par K H S) := Lib.hid (by rw [hx, hy, hz, hK, hH, hS])
  have HAH : Hid (aheadP (K : Int) (H : Int) (S : Int) = ahead K H) := Lib.hid (aheadP_in HM.out)
  obtain ⟨N, hN⟩ : ∃ N, K + H = N := ⟨_, rfl⟩
  have hN20 : N ≤ 20 := by omega
  have hN' : (K : Int) + (H : Int) = (N : Int) := by omega
  have HN := Lib.hid hN
  have hwN : IntKind.i64.wrap (N : Int) = N := by simp [IntKind.wrap, IntKind.bits, IntKind.signed]; omega
  have HCO : Hid (colsP (K : Int) (H : Int) (S : Int) = N) := Lib.hid (by unfold colsP; rw [if_pos HM.out, hN'])
  have HRK : Hid (rkL (ahead K H) = H) := Lib.hid (ahead_rk K H)
  have HMAY : Hid (mayL (ahead K H) = true) := Lib.hid ((ahead_wide K H).may (by omega))
  clear hN
  clear hx hy hz hK hH hS hd hm O R D
  go_enter Try.func4, Try.ntmps4
  go_wp2_with fail
  refine (params_any a b c _).mono ?_
  rw [HPA.out]
  rintro e w1 ⟨rfl, hg1⟩
  have HP1 : Hid (Par (w1.alloc (.cells #[.int .i64 (K : Int), .int .i64 (H : Int), .int .i64 (S : Int)] 23)) w1.heap.size K H S) := Lib.hid (heap_alloc_new _ _)
  have HG1 : Hid (Gr w (w1.alloc (.cells #[.int .i64 (K : Int), .int .i64 (H : Int), .int .i64 (S : Int)] 23))) := Lib.hid (Gr.alloc hg1 _ _)
  clear hg1
  go_wp2_with fail
  generalize w1.alloc (.cells #[.int .i64 (K : Int), .int .i64 (H : Int), .int .i64 (S : Int)] 23) = W2 at *
  generalize w1.heap.size = gp at *
  refine (HO.out.rows K H S _).mono ?_
  rw [HAH.out]
  rintro e w3 ⟨v, rfl, hr, hg3⟩
  have hbs := hr.bss
  obtain ⟨us, ho, hr⟩ := hr
  rw [ahead_length] at ho hr
  obtain ⟨g, c0, rfl, q1, q2, q3, q4, q5⟩ := ownsRow_cell ho (by omega)
  have HBS := Lib.hid hbs
  have HQ5 := Lib.hid q5
  have HRW : Hid (∀ i, i < H → Bs w3 (us.getD i undef) (aheadRow K H i)) := Lib.hid (fun i hi => by have := (hr i hi).1; rwa [ahead_getD hi] at this)
  have HP3 := Lib.hid (HP1.out.grown hg3)
  have HG3 := Lib.hid (Gr.trans HG1.out hg3)
  clear hbs ho hr q5 hg3 HP1 HG1
  go_wp2_with fail
  refine (new_st _).mono ?_
  rintro e w4 ⟨bf, rfl, hst⟩
  have HST := Lib.hid hst
  have HP4 := Lib.hid (HP3.out.grown hst.1)
  have HG4 := Lib.hid (Gr.trans HG3.out hst.1)
  have HBS4 := Lib.hid (Bss.grown HBS.out hst.1)
  have c0' := HP4.out.cell0
  have c1' := HP4.out.cell1
  have c2' := HP4.out.cell2
  clear hst HP3 HBS
  go_wp2_with fail
  go_region_held3 (fun W => W.cell? ⟨gp, 0, none⟩ = some (.int .i64 (K : Int)) ∧ W.cell? ⟨gp, 1, none⟩ = some (.int .i64 (H : Int)) ∧ W.cell? ⟨gp, 2, none⟩ = some (.int .i64 (S : Int))) (first | exact ⟨k20, k21, k22⟩ | exact ⟨k10, k11, k12⟩ | go_keep)
    (first
      | (go_at_call 10; refine (HO.out.cols K H S _).mono ?_; rw [HCO.out]; rintro e v2 ⟨rfl, hg2⟩; have k20 := cell_grown hg2 (by exact k10); have k21 := cell_grown hg2 (by exact k11); have k22 := cell_grown hg2 (by exact k12); have V2 : Hid (Gr v1 v2) := Lib.hid hg2)
      | (go_at_call 17; refine (HR.out.rank _ _ (ahead K H) _ (by exact HST.out.2) (by exact HBS4.out) (by rw [ahead_length]; omega) HMAY.out).mono ?_; rw [HRK.out]; rintro e v1 ⟨rfl, hg1⟩; have k10 := cell_grown hg1 (by exact c0'); have k11 := cell_grown hg1 (by exact c1'); have k12 := cell_grown hg1 (by exact c2'); have V1 : Hid (Gr w4 v1) := Lib.hid (by exact hg1)))
  have HG2 : Hid (Gr w4 v2) := Lib.hid (Gr.trans V1.out V2.out)
  have HGW : Hid (Gr w v2) := Lib.hid (Gr.trans HG4.out HG2.out)
  have HPV : Hid (Par v2 gp K H S) := Lib.hid (HP4.out.grown HG2.out)
  have HSV : Hid (IsF v2 (.pointer (some ⟨bf, 0, none⟩))) := Lib.hid (IsF.grown HST.out.2 HG2.out)
  have HQV : Hid (∀ i, i < H → v2.cell? ⟨g, i, none⟩ = some (us.getD i undef) ∧ Bs v2 (us.getD i undef) (aheadRow K H i)) := Lib.hid (fun i hi => ⟨cell_grown (Gr.trans HST.out.1 HG2.out) (HQ5.out i hi), Bs.grown (HRW.out i hi) (Gr.trans HST.out.1 HG2.out)⟩)
  have hmk := make22 N N (by omega) (by omega)
  obtain ⟨cur, hcur⟩ : ∃ cur, cur = rowB (List.replicate N 0) := ⟨_, rfl⟩
  rw [← hcur] at hmk
  have HCU := Lib.hid hcur
  have MK : Hid (Making v2 v2.heap.size N (fun i => dl.getD i 0) 0 (v2.alloc (.cells cur 5))) := Lib.hid ⟨Gr.alloc (Gr.refl _) _ _, Nat.le_refl _, by rw [HCU.out, ← part_nil]; exact heap_alloc_new _ _⟩
  clear hcur c0' c1' c2' V1 V2 HG2 HP4 HST HQ5 HRW HBS4 HG4 HG3 k10 k11 k12 k22
  go_upto_block 0 with fail
  clear k20 k21 hmk
  generalize v2.alloc (.cells cur 5) = W5 at *
  generalize hgx : v2.heap.size = gx at *
  go_cut [] (fun wx => ∃ X : List Int, X.length = N ∧ (∀ z ∈ X, Byt z) ∧ (∀ t, K ≤ t → X.getD t 0 = 0) ∧ Blk wx gx X ∧ Gr v2 wx)
  case first =>
    go_wp2_with fail
    go_loopw [13] (fun i wr => ∃ j : Nat, j ≤ K ∧ j ≤ m ∧ i = .int .i64 j ∧ Making v2 gx N (fun i => dl.getD i 0) j wr) (fun i _ => K - (intOf i).toNat)
    case atStart => exact ⟨0, by omega, by omega, rfl, MK.out⟩
    case round =>
      clear MK
      obtain ⟨wo, hwo⟩ : ∃ x, x = wr := ⟨_, rfl⟩
      subst hwo
      obtain ⟨j, hj, hjm, rfl, hm⟩ := hrel
      have HM1 := Lib.hid hm
      have hp := HPV.out.grown hm.1
      have c0' := hp.cell0
      have c1' := hp.cell1
      clear hm hp
      by_cases hlt : j < K ∧ j < m
      · obtain ⟨hl1, hl2⟩ := hlt
        obtain ⟨ad, ca, e1, e2, e3, e4⟩ := Bs.at (Bs.grown HB.out (Gr.trans HGW.out HM1.out.1)) (by rw [HMM.out]; omega)
        rw [HMM.out] at e1 e4
        cases e1
        have q7 := e4 j hl2
        have hKN : K ≤ N := by omega
        have q8 := Blk.cell HM1.out.2.2 j (by rw [lst_length]; omega)
        have q9 := frozen_of_row wo gx j _ _ HM1.out.2.2
        generalize hdv : dl.getD j 0 = dv at *
        have HDV := Lib.hid hdv
        clear hdv e4
        go_wp2_with fail
        have hst := Making.store HM1.out
        rw [HDV.out] at hst
        exact ⟨⟨j + 1, by omega, by omega, by go_num, hst⟩, by simp [intOf]; omega⟩
      · have hend : ∀ t, K ≤ t → (lst N (part (fun i => dl.getD i 0) j)).getD t 0 = 0 := fun t ht => by
          by_cases c : t < N
          · rw [lst_getD _ _ _ c]
            unfold part
            rw [if_neg (by omega)]
          · exact getD_out (by rw [lst_length]; omega)
        have hbyt : ∀ z ∈ lst N (part (fun i => dl.getD i 0) j), Byt z := lst_byt fun i _ => by
          unfold part
          split
          · exact getD_byt HB.out.1 i
          · unfold Byt; omega
        have HE := Lib.hid hend
        have HBY := Lib.hid hbyt
        clear hend hbyt
        by_cases hlK : j < K
        · have hjm2 : ¬ j < m := by omega
          go_wp2_with fail
          go_meet
          exact ⟨_, lst_length _ _, HBY.out, HE.out, HM1.out.2.2, HM1.out.1⟩
        · go_wp2_with fail
          go_meet
          exact ⟨_, lst_length _ _, HBY.out, HE.out, HM1.out.2.2, HM1.out.1⟩
  case rest =>
    obtain ⟨X, hXl, hXb, hX0, hXk, hXg⟩ := hcut
    clear MK
    have HXB := Lib.hid hXb
    have HST0 : Hid (toldL K H X 0 = X) := Lib.hid (told_start (by rw [hXl, HN.out]) hX0)
    have HL2 : Hid (Blk wc gx (toldL K H X 0) ∧ Gr v2 wc) := Lib.hid ⟨by rw [HST0.out]; exact hXk, hXg⟩
    have HTL : Hid (∀ n, (toldL K H X n).length = N) := Lib.hid (fun n => by rw [toldL_length, HN.out])
    clear hXl hXb hX0 hXk hXg
    go_wp2_with fail
    go_loopw [77] (fun i wr => ∃ h : Nat, h ≤ H ∧ i = .int .i64 h ∧ Blk wr gx (toldL K H X h) ∧ Gr v2 wr) (fun i _ => H - (intOf i).toNat)
    case atStart => exact ⟨0, by omega, rfl, HL2.out.1, HL2.out.2⟩
    case round =>
      clear HL2
      obtain ⟨wo, hwo⟩ : ∃ x, x = wr := ⟨_, rfl⟩
      subst hwo
      obtain ⟨h, hh, rfl, hk, hgr⟩ := hrel
      have HK := Lib.hid hk
      have HGR := Lib.hid hgr
      have BX : Hid (Bs wo (.slice (some ⟨gx, 0, none⟩) N N) (toldL K H X h)) := Lib.hid (by
        have := hk.bs (toldL K H X h) N (Nat.le_refl _) (by rw [HTL.out]; omega) (by omega) (toldL_byt HXB.out h) (fun _ _ => rfl)
        rwa [HTL.out] at this)
      by_cases hlt : h < H
      · have hrow := HQV.out h hlt
        have q7 := cell_grown hgr hrow.1
        have BR := Lib.hid (Bs.grown hrow.2 hgr)
        obtain ⟨o9, c9, hf⟩ := hrow.2.form
        rw [aheadRow_length, HN.out] at hf
        rw [hf] at q7
        have BR2 : Hid (Bs wo (.slice o9 N c9) (aheadRow K H h)) := Lib.hid (by rw [← hf]; exact BR.out)
        have hp := HPV.out.grown hgr
        have c0' := hp.cell0
        have c1' := hp.cell1
        have hdot := told_dot (K := K) (n := h) hlt HXB.out
        rw [HN.out, if_neg (by omega)] at hdot
        have HDOT := Lib.hid hdot
        clear hk hgr hrow hf hp hdot BR
        go_wp2_with fail
        refine (HD.out.dot _ _ _ (aheadRow K H h) (toldL K H X h) _ (IsF.grown HSV.out HGR.out) BR2.out BX.out (by rw [aheadRow_length]; omega) (by rw [HTL.out, aheadRow_length, HN.out])).mono ?_
        rw [aheadRow_length, HN.out, HDOT.out]
        rintro e w7 ⟨rfl, hg7⟩
        have hsb := dotL_byt (aheadRow K H h) X K
        have hnx := told_next (K := K) (H := H) hlt (X := X)
        have h00 : (toldL K H X h).getD (K + h) 0 = 0 := by
          have h1 := HN.out
          rw [toldL_getD (by omega), if_neg (by omega), if_neg (by omega)]
        generalize dotL (aheadRow K H h) X K = sv at *
        obtain ⟨q, hq, hqN, hq2⟩ : ∃ q : Nat, (K : Int) + (h : Int) = q ∧ q < N ∧ K + h = q := ⟨K + h, by omega, by have := HN.out; omega, rfl⟩
        rw [hq2] at hnx h00
        have hwq : IntKind.i64.wrap (q : Int) = q := by simp [IntKind.wrap, IntKind.bits, IntKind.signed]; omega
        have hqi : (q : Int) < (N : Int) := by omega
        have HNX := Lib.hid hnx
        have HK7 := Lib.hid (HK.out.grown hg7)
        have q8 := Blk.cell HK7.out q (by rw [HTL.out]; exact hqN)
        rw [h00] at q8
        have q9 := frozen_of_row w7 gx q _ _ HK7.out
        have q10 := cell_grown hg7 q7
        have c0'' := cell_grown hg7 c0'
        have HG7 : Hid (Gr v2 w7) := Lib.hid (Gr.trans HGR.out hg7)
        clear hg7 hnx h00 hq2 q7 c0' c1'
        have HSB := Lib.hid hsb
        have HDN : Hid (Blk (w7.setCell ⟨gx, q, none⟩ (.int .u8 sv)) gx (toldL K H X (h + 1)) ∧ Gr v2 (w7.setCell ⟨gx, q, none⟩ (.int .u8 sv))) := Lib.hid ⟨by
          unfold Blk
          rw [heap_setCell_same _ _ _ _ _ _ HK7.out, rowB_set, HNX.out], Gr.setCell HG7.out (Nat.le_of_eq hgx) _⟩
        have HDD : Hid (Blk (w7.setCell ⟨gx, q, none⟩ (.int .u8 sv)).drew gx (toldL K H X (h + 1)) ∧ Gr v2 (w7.setCell ⟨gx, q, none⟩ (.int .u8 sv)).drew) := Lib.hid ⟨Blk.grown HDN.out.1 (Gr.drew (Gr.refl _)), Gr.drew HDN.out.2⟩
        go_wp2_with fail
        go_region_law (first
          | ((try go_simp); go_at_call 19; refine (add_any _ 0 sv (by unfold Byt; omega) hsb _).mono ?_; rw [show (((0 : Int).toNat ^^^ sv.toNat : Nat) : Int) = sv from addZ_zero_left sv HSB.out]; rintro e w' ⟨rfl, rfl⟩))
        all_goals
          go_wp2_with fail
          exact ⟨⟨h + 1, by omega, by go_num, HDD.out.1, HDD.out.2⟩, by simp [intOf]; omega⟩
      · obtain rfl : h = H := by omega
        have HLX : Hid (Gr w v2) := Lib.hid HGW.out
        clear hk hgr
        go_wp2_with fail
        go_loopw [121] (fun i wr => ∃ t : Nat, t ≤ h ∧ i = .int .i64 t ∧ Gr wo wr) (fun i _ => h - (intOf i).toNat)
        case atStart => exact ⟨0, by omega, rfl, Gr.refl _⟩
        case round =>
          obtain ⟨wi, hwi⟩ : ∃ x, x = wr := ⟨_, rfl⟩
          subst hwi
          obtain ⟨t, ht, rfl, hgi⟩ := hrel
          have HGI := Lib.hid hgi
          by_cases hlt2 : t < h
          · have hrow := HQV.out t hlt2
            have hg2 := Gr.trans HGR.out hgi
            have q7 := cell_grown hg2 hrow.1
            have BR := Bs.grown hrow.2 hg2
            obtain ⟨o9, c9, hf⟩ := hrow.2.form
            rw [aheadRow_length, HN.out] at hf
            rw [hf] at q7 BR
            have BR2 := Lib.hid BR
            have BX2 := Lib.hid (Bs.grown BX.out hgi)
            have HIF := Lib.hid (IsF.grown HSV.out hg2)
            have hdot := told_dot (K := K) (n := h) hlt2 HXB.out
            rw [HN.out, if_pos hlt2] at hdot
            have HDOT := Lib.hid hdot
            clear hgi hrow hf hdot BR hg2
            go_wp2_with fail
            refine (HD.out.dot _ _ _ (aheadRow K h t) (toldL K h X h) _ HIF.out BR2.out BX2.out (by rw [aheadRow_length]; omega) (by rw [HTL.out, aheadRow_length, HN.out])).mono ?_
            rw [aheadRow_length, HN.out, HDOT.out]
            rintro e w7 ⟨rfl, hg7⟩
            have HG7 := Lib.hid (Gr.trans HGI.out hg7)
            clear hg7
            go_wp2_with fail
            exact ⟨⟨t + 1, by omega, by go_num, HG7.out⟩, by simp [intOf]; omega⟩
          · obtain rfl : t = h := by omega
            clear hgi
            go_wp2_with fail
            refine (preWakes_any HO.out _).mono ?_
            rintro e w8 ⟨rfl, hg8⟩
            have HG8 := Lib.hid (Gr.trans HLX.out (Gr.trans HGR.out (Gr.trans HGI.out hg8)))
            clear hg8
            go_wp2_with fail
            go_ret
            exact ⟨rfl, HG8.out⟩
end Go.Proofs.Ytocigdcbfbnfoaa
