/-
  Law MatEven, walked: solutions and reduced rows are the document's own.
-/
import Derived.Test.YtgbdhdjcjilooaaSv
import Derived.Test.YtgbdhdjcjilooaaMr
import Derived.BigRegion
namespace Go.Proofs.Ytgbdhdjcjilooaa
open Go.RowKit

/-- A row of K bytes under way in block g. -/
def Mk' (wo : World) (g K : Nat) (X : List Int) (W : World) : Prop := Gr wo W ∧ wo.heap.size ≤ g ∧ Blk W g X ∧ X.length = K ∧ ∀ x ∈ X, Byt x
theorem Mk'.store {wo W : World} {g K : Nat} {X : List Int} (h : Mk' wo g K X W) (j : Nat) {z : Int} (hz : Byt z) : Mk' wo g K (X.set j z) (W.setCell ⟨g, j, none⟩ (.int .u8 z)) := by
  obtain ⟨h1, h2, h3, h4, h5⟩ := h
  refine ⟨Gr.setCell h1 h2 _, h2, ?_, by rw [List.length_set]; exact h4, fun x hx => ?_⟩
  · unfold Blk at *
    rw [heap_setCell_same _ _ _ _ _ _ h3, rowB_set]
  · rcases List.mem_or_eq_of_mem_set hx with hx | rfl
    · exact h5 x hx
    · exact hz
theorem Mk'.drew {wo W : World} {g K : Nat} {X : List Int} (h : Mk' wo g K X W) : Mk' wo g K X W.drew := h
theorem Mk'.new {wo W : World} {g K : Nat} {X : List Int} (h : Mk' wo g K X W) (hK : K ≤ 1000000) : New wo W (.slice (some ⟨g, 0, none⟩) K K) X := by
  obtain ⟨h1, h2, h3, rfl, h5⟩ := h
  exact ⟨h1, h5, Or.inr ⟨g, X.length, rowB X, rfl, h2, h3, Nat.le_refl _, by omega, fun i hi => rowB_get X i hi⟩⟩
set_option maxRecDepth 100000 in
set_option maxHeartbeats 3200000 in
theorem matEven_walk (R : MatOk) (vl vr : Value) (l r : List Int) (n k : Int) (z : Bool) (w : World) (hl : Bs w vl l) (hr : Bs w vr r) :
    Calls Try.prog 3 #[vl, vr, .int .i64 n, .int .i64 k, .bool z] w fun e w' => e = .returned (.bool true) ∧ Gr w w' := by
  obtain ⟨i0, hi0, hz0, hz1, hz2⟩ := info_parts info22
  have I0 := Lib.hid hi0
  have I1 := Lib.hid hz0
  have I2 := Lib.hid hz1
  have I3 := Lib.hid hz2
  clear hi0 hz0 hz1 hz2
  have H := Lib.hid R
  have HL := Lib.hid hl
  have HR := Lib.hid hr
  clear R hl hr
  obtain ⟨p, hp, hp2⟩ : ∃ p : Nat, n % 12 = p ∧ p < 12 := ⟨(n % 12).toNat, by omega, by omega⟩
  obtain ⟨q, hq, hq2⟩ : ∃ q : Nat, k % 4 = q ∧ q < 4 := ⟨(k % 4).toNat, by omega, by omega⟩
  have HP := Lib.hid hp
  have HQ := Lib.hid hq
  clear hp hq
  go_enter Try.func3, Try.ntmps3
  go_wp2_with fail
  refine (cut_any vl l 140 w HL.out (by omega)).mono ?_
  rintro e w' ⟨v1, rfl, hv1, rfl⟩
  have hlen1 : (l.take 140).length ≤ 140 := by simp; omega
  generalize l.take 140 = l1 at *
  have V1 := Lib.hid hv1
  clear hv1
  go_wp2_with fail
  refine (cut_any vr r 60 _ HR.out (by omega)).mono ?_
  rintro e w' ⟨v2, rfl, hv2, rfl⟩
  have hlen2 : (r.take 60).length ≤ 60 := by simp; omega
  generalize r.take 60 = l2 at *
  have V2 := Lib.hid hv2
  clear hv2 HL HR
  go_wp2_with fail
  refine (within_any n 12 (by omega) (by omega) _).mono ?_
  rintro e w' ⟨rfl, rfl⟩
  rw [HP.out]
  go_wp2_with fail
  obtain ⟨N, hN, hN1, hN2⟩ : ∃ N : Nat, (1 : Int) + p = N ∧ 1 ≤ N ∧ N ≤ 12 := ⟨1 + p, by omega, by omega, by omega⟩
  rw [hN]
  have HN := Lib.hid hN
  clear hN
  refine (even_any v1 N l1 _ V1.out hN1 (by omega) (by omega)).mono ?_
  rintro e w1 ⟨va, rfl, ha, hg1⟩
  have WA := Lib.hid (even_wide (Bs.byt' V1.out) hN1 : Wide N (evenL N l1))
  have hAl : (evenL N l1).length ≤ 14 := by rw [evenL_length]; exact evenN_le _ _
  generalize evenL N l1 = A at *
  have VA := Lib.hid (Rws.bss ha)
  have G1 := Lib.hid hg1
  clear ha hg1
  go_wp2_with fail
  refine (within_any k 4 (by omega) (by omega) _).mono ?_
  rintro e w' ⟨rfl, rfl⟩
  rw [HQ.out]
  obtain ⟨oa, ca, rfl, a1, a2, a3, a4⟩ := VA.out
  obtain ⟨_, or', cr, rfl, r1, r2, r3, r4⟩ := V2.out
  generalize hm : A.length = m at *
  generalize hm2 : l2.length = m2 at *
  have HM := Lib.hid hm
  have HM2 := Lib.hid hm2
  have HRC := Lib.hid r4
  have HRN := Lib.hid r3
  clear a2 a3 a4 r2 r3 r4 hm hm2
  go_wp2_with fail
  obtain ⟨K, hK, hK1, hK2⟩ : ∃ K : Nat, (1 : Int) + q = K ∧ 1 ≤ K ∧ K ≤ 4 := ⟨1 + q, by omega, by omega, by omega⟩
  rw [hK]
  have HK := Lib.hid hK
  clear hK
  have hmk := make22 K K (Nat.le_refl _) (by omega)
  go_loopw [12, 37] (fun t i wr => ∃ (ii : Nat) (L : List (List Int)), ii ≤ m ∧ i = .int .i64 ii ∧ L.length = ii ∧ Wide K L ∧ Rws w1.heap.size wr t L ∧ Gr w1 wr) (fun _ i _ => m - (intOf i).toNat)
  case atStart => exact ⟨0, [], by omega, rfl, rfl, Wide.nil _, Rws.nil _ _, Gr.refl _⟩
  case round =>
    obtain ⟨wo, hwo⟩ : ∃ x, x = wr := ⟨_, rfl⟩
    subst hwo
    obtain ⟨i, L, hi, rfl, hll, hwl, hrs, hg⟩ := hrel
    by_cases hlt : i < m
    · obtain ⟨us, ho, hr⟩ := hrs
      rw [hll] at ho hr
      obtain ⟨oo, co, rfl⟩ := ownsRow_form ho
      have HO := Lib.hid ho
      have HRR := Lib.hid hr
      have HG := Lib.hid hg
      have HLL := Lib.hid hll
      have HWL := Lib.hid hwl
      have HB : Hid (Mk' wo wo.heap.size K (List.replicate K 0) (wo.alloc (.cells (rowB (List.replicate K 0)) 5))) := Lib.hid ⟨Gr.alloc (Gr.refl _) _ _, Nat.le_refl _, heap_alloc_new _ _, by simp, fun x hx => by
        rw [List.eq_of_mem_replicate hx]
        unfold Byt
        omega⟩
      clear ho hr hg hll hwl
      generalize hcur : rowB (List.replicate K 0) = cur at *
      have hiK : i * K ≤ 60 := Nat.le_trans (Nat.mul_le_mul (by omega : i ≤ 14) hK2) (by omega)
      obtain ⟨t, ht⟩ : ∃ t, i * K = t := ⟨_, rfl⟩
      have hmul : (i : Int) * (K : Int) = (t : Int) := by rw [← ht]; push_cast; rfl
      rw [ht] at hiK
      clear ht
      go_wp2
      generalize hW : wo.alloc (.cells cur 5) = W at *
      generalize hG : wo.heap.size = g at *
      go_loopw [44] (fun j wr => ∃ (jj : Nat) (X : List Int), jj ≤ K ∧ j = .int .i64 jj ∧ Mk' wo g K X wr) (fun j _ => K - (intOf j).toNat)
      case atStart => exact ⟨0, _, by omega, rfl, HB.out⟩
      case round =>
        obtain ⟨j, X, hj, rfl, hx⟩ := hrel
        by_cases hlt2 : j < K
        · have HX := Lib.hid hx
          clear hx
          by_cases hc : t + j < m2 ∧ z = false
          · obtain ⟨hc1, rfl⟩ := hc
            obtain ⟨ar, rfl⟩ : ∃ ar, or' = some ar := by
              cases or' with
              | none => exact absurd (HRN.out rfl) (by omega)
              | some ar => exact ⟨ar, rfl⟩
            have q1 := cell_grown (Gr.trans G1.out (Gr.trans HG.out HX.out.1)) (HRC.out ar rfl (t + j) hc1)
            have hbz := Bs.byt V2.out (t + j)
            generalize l2.getD (t + j) 0 = zz at *
            have q3 := Blk.cell HX.out.2.2.1 j (by rw [HX.out.2.2.2.1]; exact hlt2)
            have q4 := frozen_of_row wr g j _ _ HX.out.2.2.1
            generalize X.getD j 0 = old at *
            go_wp2
            exact ⟨⟨j + 1, X.set j zz, by omega, by go_num, HX.out.store j hbz⟩, by simp [intOf]; omega⟩
          · by_cases hc1 : t + j < m2
            · have hz : z = true := by
                cases z with
                | true => rfl
                | false => exact absurd ⟨hc1, rfl⟩ hc
              subst hz
              clear hc
              go_wp2
              exact ⟨⟨j + 1, X, by omega, by go_num, HX.out⟩, by simp [intOf]; omega⟩
            · clear hc
              go_wp2
              exact ⟨⟨j + 1, X, by omega, by go_num, HX.out⟩, by simp [intOf]; omega⟩
        · obtain rfl : K = j := by omega
          have hnw := hx.new (by omega)
          have HNW := Lib.hid hnw
          have HBX := Lib.hid hx.2.2.2
          have GX := Lib.hid hx.1
          clear hnw hx HB
          have hbase : w1.heap.size ≤ wr.heap.size := Nat.le_trans HG.out.size GX.out.size
          go_wp2_with (at_builtin; refine wpList_append_lies _ rfl _ _ _ rfl w1.heap.size 22 i0 _ 1 24 Try.underlying24 I0.out I1.out I2.out I3.out rfl (by omega) (.slice oo i co) i us rfl ((HO.out.of_gr GX.out).alloc _) ⟨wr.heap.size, 0, none⟩ 1 1 [.slice (some ⟨g, 0, none⟩) K K] rfl rfl (World.news_of_block (cs := #[.slice (some ⟨g, 0, none⟩) K K]) (t := 22) (fr := (0, 0)) (heap_alloc_new wr _)) (by simp [Value.oneCell']) (by omega) (by unfold maxLen; omega) (by omega) (by simp; omega) (wr.heap.size + 1) (by simp) ?_; intro gg cap w4 hown1 hgrow hat hlt4)
          obtain ⟨f1, f2⟩ := Rws.more (l := X) HLL.out HO.out HRR.out (New.bs HNW.out) (New.rb HNW.out _) GX.out hown1 hgrow HG.out (Nat.le_refl _)
          exact ⟨⟨i + 1, L ++ [X], by omega, by go_num, by rw [List.length_append, HLL.out]; rfl, HWL.out.append (fun r hr => by rw [List.mem_singleton.1 hr]; exact HBX.out), f1, f2⟩, by simp [intOf]; omega⟩
    · obtain rfl : m = i := by omega
      have VB := Lib.hid hrs.bss
      have HLL := Lib.hid hll
      have HWL := Lib.hid hwl
      have HG := Lib.hid hg
      clear hrs hll hwl hg hmk
      obtain ⟨ob, cb, rfl, b1, b2, b3, b4⟩ := VB.out
      rw [HLL.out] at VB b1 ⊢
      have hMA := Lib.hid (Wide.may WA.out (by omega))
      have hML := Lib.hid (Wide.may HWL.out (by omega))
      have hwd : A ≠ [] → 1 ≤ wd A ∧ 1 ≤ wd L := fun h => by
        have h0 : 0 < A.length := List.length_pos_iff.2 h
        rw [WA.out.wd h0, HWL.out.wd (by rw [HLL.out, ← HM.out]; exact h0)]
        omega
      have HWD := Lib.hid hwd
      clear b2 b3 b4 hwd
      go_wp2_with fail
      refine (new_st _).mono ?_
      rintro e w3 ⟨b, rfl, hs⟩
      have F3 := Lib.hid hs.2
      have G3 := Lib.hid (Gr.trans HG.out hs.1)
      have VL3 := Lib.hid (Bss.grown VB.out hs.1)
      have G13 := Lib.hid (Gr.trans G1.out G3.out)
      clear hs VB HG
      go_wp2_with fail
      refine (H.out.solve _ _ _ A L _ F3.out (Bss.grown VA.out G3.out) VL3.out (by rw [HM.out]; omega) (by rw [HM.out, HLL.out]) hMA.out hML.out HWD.out).mono ?_
      rintro e w4 ⟨v4, n4, S4, rfl, hs4, hg4, hsol4⟩
      have G4 := Lib.hid hg4
      have VS4 := Lib.hid hs4
      have SOL4 := Lib.hid hsol4
      clear hg4 hs4 hsol4
      go_wp2_with fail
      refine (refSolve_any _ _ A L _ (Bss.grown VA.out (Gr.trans G3.out G4.out)) (Bss.grown VL3.out G4.out) (by rw [HM.out]; omega) (by rw [HM.out, HLL.out]) hMA.out hML.out (fun h => (HWD.out h).1)).mono ?_
      rintro e w5 ⟨v5, n5, S5, rfl, hs5, hg5, hsol5⟩
      have G5 := Lib.hid (Gr.trans G4.out hg5)
      have VS5 := Lib.hid hs5
      have VS4' := Lib.hid (Bss.grown VS4.out hg5)
      obtain ⟨e1, e2⟩ := SolSays.unique (Wide.of_bss VA.out hMA.out) SOL4.out hsol5
      rw [← e2] at hs5
      have VS5 := Lib.hid hs5
      rw [← e1]
      clear hg5 hs5 hsol5 e1 e2 SOL4 VS4
      go_wp2_with fail
      refine (rows_any _ _ _ _ _ VS4'.out VS5.out).mono ?_
      rintro e w6 ⟨rfl, hg6⟩
      rw [show (S4 == S4) = true by simp]
      have G6 := Lib.hid (Gr.trans G5.out hg6)
      clear hg6
      go_wp2_with fail
      refine (H.out.reduce _ _ A _ (IsF.grown F3.out G6.out) (Bss.grown VA.out (Gr.trans G3.out G6.out)) (by rw [HM.out]; omega) hMA.out).mono ?_
      rintro e w7 ⟨v7, R7, rfl, hr7, hg7, hred7⟩
      have G7 := Lib.hid (Gr.trans G6.out hg7)
      have VR7 := Lib.hid hr7
      have RED7 := Lib.hid hred7
      clear hg7 hr7 hred7
      go_wp2_with fail
      refine (refReduce_any _ A _ (Bss.grown VA.out (Gr.trans G3.out G7.out)) (by rw [HM.out]; omega) VA.out.byt hMA.out).mono ?_
      rintro e w8 ⟨v8, R8, rfl, hr8, hg8, hred8⟩
      have G8 := Lib.hid (Gr.trans G7.out hg8)
      have e3 := IsRed.unique hred8 RED7.out
      have hr8' := hr8.bss
      rw [e3] at hr8'
      have VR8 := Lib.hid hr8'
      have VR7' := Lib.hid (Bss.grown VR7.out hg8)
      clear hg8 hr8 hr8' hred8 e3
      go_wp2_with fail
      refine (rows_any _ _ _ _ _ VR7'.out VR8.out).mono ?_
      rintro e w9 ⟨rfl, hg9⟩
      rw [show (R7 == R7) = true by simp]
      have G9 := Lib.hid (Gr.trans G8.out hg9)
      clear hg9
      go_wp2_with fail
      refine (matWakes_any H.out _).mono ?_
      rintro e w10 ⟨rfl, hg10⟩
      have G10 := Lib.hid (Gr.trans (Gr.trans G13.out G9.out) hg10)
      clear hg10
      go_wp2_with fail
      go_ret
      exact ⟨rfl, G10.out⟩
end Go.Proofs.Ytgbdhdjcjilooaa
