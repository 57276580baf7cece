/-
  Texts laid behind one another: DecodeClashW DecodeEnoughW Az Ds.
-/
import Derived.Test.YtbbglejdfbkjlaaGreatMbaf
import Derived.Test.YtbbglejdfbkjlaaGreatMbae
import Derived.Test.YtbbglejdfbkjlaaGreatMbad
import Derived.Lib.AppendZerosOnto
import Derived.Test.YtbbglejdfbkjlaaGreatMbab
namespace Go.Proofs.YtbbglejdfbkjlaaGreat
open Go.RowKit
theorem mono_at {B : Nat → Nat} (h : ∀ j, B j ≤ B (j + 1)) : ∀ {i j : Nat}, i ≤ j → B i ≤ B j := fun {i j} hij => by
 induction j with
 | zero => rw [show i = 0 from by omega]; exact Nat.le_refl _
 | succ j ih =>
  by_cases e : i = j + 1
  ·rw [e]; exact Nat.le_refl _
  ·exact Nat.le_trans (ih (by omega)) (h j)
theorem mono_one {B : Nat → Nat} (h : ∀ j, B j ≤ B (j + 1)) {i j b : Nat} (h1 : B i ≤ b ∧ b < B (i + 1)) (h2 : B j ≤ b ∧ b < B (j + 1)) : i = j := by
 rcases Nat.lt_trichotomy i j with hl | hl | hl
 ·have := mono_at h (show i + 1 ≤ j from hl); omega
 ·exact hl
 ·have := mono_at h (show j + 1 ≤ i from hl); omega
theorem set_addZ_ne {l : List Int} (hb : ∀ z ∈ l, Byt z) (hl : 0 < l.length) {x : Int} (hx : Byt x) : l.set 0 (addZ (l.getD 0 0) x) ≠ l ↔ x ≠ 0 := by
 have hz := getD_byt hb 0
 have hiff : addZ (l.getD 0 0) x = l.getD 0 0 ↔ x = 0 := by
  constructor
  ·intro h
   have h2 : addZ (l.getD 0 0) (addZ (l.getD 0 0) x) = addZ (l.getD 0 0) (l.getD 0 0) := by rw [h]
   rw [← addZ_assoc, addZ_self, addZ_zero_left x hx] at h2
   exact h2
  ·rintro rfl
   exact addZ_zero _ hz
 refine not_congr ?_
 constructor
 ·intro h
  refine hiff.1 ?_
  have h2 := congrArg (fun m => m.getD 0 0) h
  simp only [List.getD_eq_getElem?_getD, List.getElem?_set_self hl] at h2
  rw [List.getD_eq_getElem?_getD]
  exact h2
 ·intro h
  rw [hiff.2 h]
  apply List.ext_getElem (by simp)
  intro j h1 h2
  rw [List.getElem_set]
  split
  ·rename_i e
   subst e
   rw [List.getD_eq_getElem?_getD, List.getElem?_eq_getElem hl]
   rfl
  ·rfl
set_option maxRecDepth 100000 in
set_option maxHeartbeats 6400000 in
theorem decodeClash_walk {At : World → Value → (Nat → Prop) → Nat → Nat → Nat → Nat → List (List Int) → Prop} {At' : World → Value → (Nat → Prop) → Nat → Nat → Nat → Nat → List Symb → Prop} (O : SystemOk) (E : EncOk At) (C : DecOk At') (a b c sd : Int) (vd : Value) (D : List Int) (more at_ xx : Int) (w : World) (hd : Bs w vd D) (hx : Byt xx) :
  Calls Tryz.prog 6 #[.int .i64 a, .int .i64 b, .int .i64 c, .int .u64 sd, vd, .int .i64 more, .int .i64 at_, .int .u8 xx] w fun e w' => e = .returned (.bool true) ∧ Gr w w' := by
 have HO := Lib.hid O
 have HE := Lib.hid E
 have HC := Lib.hid C
 have HD := Lib.hid hd
 obtain ⟨od, md, cd, rfl⟩ := Bs.form4 hd
 clear O E C hd
 obtain ⟨K, hK, K1, K2⟩ : ∃ K : Nat, 1 + a % 16 = K ∧ 1 ≤ K ∧ K ≤ 16 := ⟨(1 + a % 16).toNat, by omega, by omega, by omega⟩
 obtain ⟨H, hH, H1, H2⟩ : ∃ K : Nat, 1 + b % 4 = K ∧ 1 ≤ K ∧ K ≤ 4 := ⟨(1 + b % 4).toNat, by omega, by omega, by omega⟩
 obtain ⟨S, hS, S1, S2⟩ : ∃ K : Nat, 1 + c % 24 = K ∧ 1 ≤ K ∧ K ≤ 24 := ⟨(1 + c % 24).toNat, by omega, by omega, by omega⟩
 have hm : MayP K H S := by unfold MayP; omega
 have HM := Lib.hid hm
 obtain ⟨Q, hQ⟩ : ∃ Q, K * S = Q := ⟨_, rfl⟩
 have hQ1 : 1 ≤ Q := by rw [← hQ]; exact Nat.mul_pos K1 S1
 have hQ2 : Q ≤ 384 := by rw [← hQ]; exact Nat.le_trans (Nat.mul_le_mul K2 S2) (by omega)
 have hQi : (K : Int) * (S : Int) = (Q : Int) := by rw [← hQ]; simp
 have hQw : IntKind.i64.wrap (Q : Int) = Q := by simp [IntKind.wrap, IntKind.bits, IntKind.signed]; omega
 have HQ := Lib.hid hQ
 clear hm hQ
 go_enter Tryz.func6, Tryz.ntmps6
 go_wp2_with fail
 refine (params_any a b c _).mono ?_
 rintro e w1 ⟨rfl, hg⟩
 rw [hK, hH, hS]
 clear hK hH hS
 go_wp2_with fail
 have HP : Hid (Par (w1.alloc (.cells #[.int .i64 (K : Int), .int .i64 (H : Int), .int .i64 (S : Int)] 23)) w1.heap.size K H S) := Lib.hid (heap_alloc_new _ _)
 have HG : Hid (Gr w (w1.alloc (.cells #[.int .i64 (K : Int), .int .i64 (H : Int), .int .i64 (S : Int)] 23))) := Lib.hid (Gr.alloc hg _ _)
 clear hg
 generalize w1.alloc (.cells #[.int .i64 (K : Int), .int .i64 (H : Int), .int .i64 (S : Int)] 23) = W0 at *
 generalize w1.heap.size = gp at *
 have c0 := HP.out.cell0
 have c1 := HP.out.cell1
 have c2 := HP.out.cell2
 go_wp2_with fail
 refine (seed_any HO.out K H S sd _).mono ?_
 rintro e w2 ⟨s, rfl, hs, hg2⟩
 have HP2 := Lib.hid (HP.out.grown hg2)
 have HG2 := Lib.hid (Gr.trans HG.out hg2)
 have HS := Lib.hid hs
 clear hg2 HP HG c0 c1 c2 hs
 have c0 := HP2.out.cell0
 have c1 := HP2.out.cell1
 have c2 := HP2.out.cell2
 go_wp2_with fail
 obtain ⟨X, hX⟩ : ∃ X, dataL D Q = X := ⟨_, rfl⟩
 have HX := Lib.hid hX
 have HXB : Hid (∀ z ∈ X, Byt z) := Lib.hid (by rw [← hX]; exact dataL_byt HD.out.1 Q)
 have HXL : Hid (X.length = Q) := Lib.hid (by rw [← hX]; exact dataL_length D Q)
 clear hX
 by_cases hr : RightP K H S s
 ·have HR := Lib.hid hr
  clear hr
  go_region_held3 (fun W => W.cell? ⟨gp, 0, none⟩ = some (.int .i64 (K : Int)) ∧ W.cell? ⟨gp, 1, none⟩ = some (.int .i64 (H : Int)) ∧ W.cell? ⟨gp, 2, none⟩ = some (.int .i64 (S : Int))) (first | exact ⟨k20, k21, k22⟩ | exact ⟨k10, k11, k12⟩ | go_keep)
   (first
     | (go_at_call 12; refine (HE.out.new K H S s _ X _ HS.out B1.out HM.out (by rw [HXL.out, HQ.out]) HR.out).mono ?_; rintro e v2 ⟨y, F, M, rfl, hmid, hat, hg4, hF⟩; obtain ⟨ay, rfl⟩ := HE.out.ptr hat; have k20 := cell_grown hg4 (by exact k10); have k21 := cell_grown hg4 (by exact k11); have k22 := cell_grown hg4 (by exact k12); have HMI := Lib.hid hmid; have HAT := Lib.hid hat; have V2 : Hid (Gr w2 v2) := Lib.hid (Gr.trans V1.out hg4); clear hmid hat hg4 hF)
     | (go_at_call 13; refine (data_any _ D Q _ (Bs.grown HD.out (Gr.trans HG2.out (Gr.drew (Gr.refl _)))) hQ1 (by omega)).mono ?_; rw [HX.out]; rintro e v1 ⟨y1, rfl, hn1⟩; obtain ⟨o1, d1, hf1⟩ := (New.bs hn1).form; rw [HXL.out] at hf1; subst hf1; have B1 := Lib.hid (New.bs hn1); have hg1 := hn1.1; have k10 := cell_grown hg1 (by exact c0); have k11 := cell_grown hg1 (by exact c1); have k12 := cell_grown hg1 (by exact c2); have V1 : Hid (Gr w2 v1) := Lib.hid (by exact hg1); clear hn1 hg1))
  have HP4 := Lib.hid (HP2.out.grown V2.out)
  have HG4 := Lib.hid (Gr.trans HG2.out V2.out)
  clear HP2 HG2 V2 V1 B1 c0 c1 c2 k10 k11 k12 k20 k21 k22
  go_wp2_with fail
  obtain ⟨mr, hmr, hm2⟩ : ∃ x : Nat, more % 8 = (x : Int) ∧ x < 8 := ⟨(more % 8).toNat, by omega, by omega⟩
  have HMR := Lib.hid hmr
  obtain ⟨T, hT⟩ : ∃ T, K + mr = T := ⟨_, rfl⟩
  have hTi : (K : Int) + (mr : Int) = (T : Int) := by omega
  have hTw : IntKind.i64.wrap (T : Int) = T := by simp [IntKind.wrap, IntKind.bits, IntKind.signed]; omega
  have hT64 : T ≤ 24 := by omega
  have hTK : K ≤ T := by omega
  clear hmr hT
  go_loopw [21, 22] (fun lv iv W => ∃ i : Nat, i ≤ T ∧ iv = .int .i64 i ∧ Gr v2 W ∧ ∃ B : Nat → Nat, SymsI (fun j b => B j ≤ b ∧ b < B (j + 1)) v2.heap.size W lv (symY K H S s M (firstI i)) ∧ (∀ j, B j ≤ B (j + 1)) ∧ v2.heap.size ≤ B 0 ∧ B i ≤ W.heap.size) (fun _ iv _ => T - (intOf iv).toNat)
  case atStart => exact ⟨0, by omega, rfl, Gr.refl _, fun _ => v2.heap.size, SymsI.nil _ _, fun _ => Nat.le_refl _, Nat.le_refl _, Nat.le_refl _⟩
  case round =>
   obtain ⟨wo, hwo⟩ : ∃ x, x = wr := ⟨_, rfl⟩
   subst hwo
   obtain ⟨i, hi, rfl, hg, B, hsi, hB, hB0, hBi⟩ := hrel
   have hlen : (symY K H S s M (firstI i)).length = i := by rw [symY_length, firstI_length]
   obtain ⟨oo, co, e0⟩ := hsi.o.form
   rw [hlen] at e0
   subst e0
   have SI := Lib.hid hsi
   have GG := Lib.hid hg
   have HBM := Lib.hid hB
   have HLN := Lib.hid hlen
   have HPW := Lib.hid (HP4.out.grown hg)
   clear hsi hg hB hlen
   have c0 := HPW.out.cell0
   by_cases hlt : i < T
   ·have hlti : (i : Int) < T := by omega
    go_wp2_with fail
    go_region_held3 (fun W => W.cell? ⟨gp, 0, none⟩ = some (.int .i64 (K : Int))) (first | exact k10 | go_keep)
     (first
       | (go_at_call 15; refine (within_any more 8 (by omega) (by omega) _).mono ?_; rw [HMR.out]; rintro e wz ⟨rfl, rfl⟩; have k10 := c0))
    have hgd : Gr wo wo.drew := Gr.drew (Gr.refl _)
    have SD := Lib.hid (SI.out.grown hgd)
    have GD := Lib.hid (Gr.trans GG.out hgd)
    have hBd : B i ≤ wo.drew.heap.size := hBi
    clear SI GG hgd c0 k10
    generalize wo.drew = wd at *
    have hst : symY K H S s M (firstI (i + 1)) = symY K H S s M (firstI i) ++ [⟨(i : Int), symP K H S s M i⟩] := by rw [firstI_succ, symY_snoc]
    have HST := Lib.hid hst
    clear hst
    go_wp2_with fail
    refine (HE.out.symbol _ F K H S s M i _ HM.out HS.out (HE.out.grown HAT.out GD.out) HMI.out.wide HMI.out.len ⟨by omega, by omega⟩).mono ?_
    rintro e w2 ⟨v2', rfl, hn2⟩
    obtain ⟨o2, m2, c2', rfl⟩ := New.form3 hn2
    have N2 := Lib.hid hn2
    have gA : Gr w2 (w2.alloc (.cells #[.int .i64 (i : Int), .slice o2 m2 c2'] 30)) := Gr.alloc (Gr.refl _) _ _
    have GA := Lib.hid gA
    have C0 : Hid ((w2.alloc (.cells #[.int .i64 (i : Int), .slice o2 m2 c2'] 30)).cell? ⟨w2.heap.size, 0, none⟩ = some (.int .i64 (i : Int))) := Lib.hid (by rw [cell_of_row _ _ 0 _ _ _ (heap_alloc_new _ _)]; rfl)
    have C1 : Hid ((w2.alloc (.cells #[.int .i64 (i : Int), .slice o2 m2 c2'] 30)).cell? ⟨w2.heap.size, 1, none⟩ = some (.slice o2 m2 c2')) := Lib.hid (by rw [cell_of_row _ _ 1 _ _ _ (heap_alloc_new _ _)]; rfl)
    obtain ⟨B', hB'⟩ : ∃ B' : Nat → Nat, B' = fun j => if j ≤ i then B j else w2.heap.size := ⟨_, rfl⟩
    have hws := hn2.1.size
    have HB1 : Hid (∀ j, B' j ≤ B' (j + 1)) := Lib.hid (fun j => by
      rw [hB']
      show (if j ≤ i then B j else w2.heap.size) ≤ (if j + 1 ≤ i then B (j + 1) else w2.heap.size)
      by_cases e1 : j + 1 ≤ i
      · rw [if_pos (by omega), if_pos e1]
        exact HBM.out j
      · rw [if_neg e1]
        by_cases e2 : j ≤ i
        · rw [if_pos e2, show j = i from by omega]
          omega
        · rw [if_neg e2]
          exact Nat.le_refl _)
    have HB2 : Hid (v2.heap.size ≤ B' 0 ∧ B' (i + 1) = w2.heap.size) := Lib.hid (by
      rw [hB']
      show v2.heap.size ≤ (if 0 ≤ i then B 0 else w2.heap.size) ∧ (if i + 1 ≤ i then B (i + 1) else w2.heap.size) = w2.heap.size
      rw [if_pos (by omega), if_neg (by omega)]
      exact ⟨hB0, rfl⟩)
    have SA : Hid (SymsI (fun j b => B' j ≤ b ∧ b < B' (j + 1)) v2.heap.size (w2.alloc (.cells #[.int .i64 (i : Int), .slice o2 m2 c2'] 30)) (.slice oo i co) (symY K H S s M (firstI i))) := Lib.hid ((SD.out.grown (Gr.trans hn2.1 gA)).imp fun j b hj hb => by
      rw [HLN.out] at hj
      rw [hB']
      show (if j ≤ i then B j else w2.heap.size) ≤ b ∧ b < (if j + 1 ≤ i then B (j + 1) else w2.heap.size)
      rw [if_pos (by omega), if_pos (by omega)]
      exact hb)
    have HV : Hid (SyVal (fun b => B' (symY K H S s M (firstI i)).length ≤ b ∧ b < B' ((symY K H S s M (firstI i)).length + 1)) v2.heap.size (w2.alloc (.cells #[.int .i64 (i : Int), .slice o2 m2 c2'] 30)) (.int .i64 (i : Int)) (.slice o2 m2 c2') ⟨(i : Int), symP K H S s M i⟩) := Lib.hid (by
      have hb := Rb.gr (New.bs hn2) (New.rb hn2 v2.heap.size) gA
      have hz64 : I64 (i : Int) := ⟨by omega, by omega⟩
      refine ⟨rfl, hz64, hb.1, hb.2, fun a m c e hmm => ?_⟩
      have hlt2 := Bs.block_lt (New.bs hn2) e hmm
      rw [HLN.out, HB2.out.2, hB']
      show (if i ≤ i then B i else w2.heap.size) ≤ a.block ∧ _
      rw [if_pos (Nat.le_refl _)]
      refine ⟨?_, hlt2⟩
      obtain ⟨_, _, ⟨_, oa', c', e2, _⟩ | ⟨g, c', cur, e2, q, _⟩⟩ := hn2
      · rw [e2] at e
        cases e
        omega
      · rw [e2] at e
        cases e
        exact Nat.le_trans hBd q)
    clear gA hn2 hB'
    go_wp2_with (at_builtin; refine wpList_append_syI rfl _ _ rfl v2.heap.size (.slice oo i co) (symY K H S s M (firstI i)) rfl SA.out w2.heap.size (.int .i64 (i : Int)) (.slice o2 m2 c2') ⟨(i : Int), symP K H S s M i⟩ rfl C0.out C1.out HV.out (by rw [HLN.out]; omega) (by have := GD.out.size; simp; omega) ?_; intro v4 w4 h4 hg4 hs4; have S4 := Lib.hid h4; have G4 := Lib.hid (hg4 v2 (Gr.trans GD.out (Gr.trans N2.out.1 GA.out)) (Nat.le_refl _)); have HSZ : Hid (w2.heap.size ≤ w4.heap.size) := Lib.hid (Nat.le_trans GA.out.size hs4); clear h4 hg4 hs4)
    exact ⟨⟨i + 1, by omega, by go_num, G4.out, B', by rw [HST.out]; exact S4.out, HB1.out, HB2.out.1, by rw [HB2.out.2]; exact HSZ.out⟩, by simp [intOf]; omega⟩
   ·obtain rfl : i = T := by omega
    go_wp2_with fail
    go_region_held3 (fun W => W.cell? ⟨gp, 0, none⟩ = some (.int .i64 (K : Int))) (first | exact k10 | go_keep)
     (first
       | (go_at_call 15; refine (within_any more 8 (by omega) (by omega) _).mono ?_; rw [HMR.out]; rintro e wz ⟨rfl, rfl⟩; have k10 := c0))
    have hgd : Gr wo wo.drew := Gr.drew (Gr.refl _)
    have SD := Lib.hid (SI.out.grown hgd)
    have GD := Lib.hid (Gr.trans GG.out hgd)
    have HPD := Lib.hid (HPW.out.grown hgd)
    clear SI GG hgd c0 k10 HPW
    generalize wo.drew = wd at *
    obtain ⟨k, hk, hk2⟩ : ∃ k : Nat, at_ % (i : Int) = (k : Int) ∧ k < i := by
     have h1 := Int.emod_nonneg at_ (by omega : (i : Int) ≠ 0)
     have h2 := Int.emod_lt_of_pos at_ (by omega : 0 < (i : Int))
     exact ⟨(at_ % (i : Int)).toNat, by omega, by omega⟩
    have HK := Lib.hid hk
    clear hk
    go_wp2_with fail
    refine (within_any at_ (i : Int) (by omega) (by omega) _).mono ?_
    rintro e w' ⟨rfl, rfl⟩
    rw [HK.out]
    have c2 := HPD.out.cell2
    rcases SD.out.o.lies with ⟨_, h, _⟩ | ⟨g2, rfl, hc2⟩
    ·omega
    have hki : ((k : Int)) < i := by omega
    have hyk : (symY K H S s M (firstI i)).getD k noY = ⟨(k : Int), symP K H S s M k⟩ := by rw [symY_at (by rw [firstI_length]; exact hk2), firstI_getD hk2]
    have hkm : MayI (k : Int) := may_of_lt (by omega) (show k < i from hk2)
    have hsym := sym_is (seed := s) HM.out HMI.out.wide HMI.out.len hkm
    obtain ⟨bk, ob, mb, cb, q1, q2, q3, q4, q5, q6, q7⟩ := SD.out.turn hk2 (fun i j b _ _ h h' => mono_one HBM.out h h') (fun i b h => Nat.le_trans hB0 (Nat.le_trans (mono_at HBM.out (Nat.zero_le i)) h.1)) (by rw [hyk, hsym.1]; exact S1)
    rw [hyk] at q2 q4 q7
    simp only at q2 q4 q7
    rw [hsym.1] at q2
    rw [q2, Nat.zero_add] at q1
    rw [q2] at q3
    clear q2
    obtain ⟨d0, hd0⟩ : ∃ z, (symP K H S s M k).getD 0 0 = z := ⟨_, rfl⟩
    rw [hd0] at q4
    have b0 : (0 : Int) < S := by omega
    go_wp2_with fail
    go_quiet (fail)
    go_wp2_with fail
    rw [xorZ d0 xx (by rw [← hd0]; exact getD_byt hsym.2.1 0) hx]
    have hzb : Byt (addZ d0 xx) := addZ_byt (by rw [← hd0]; exact getD_byt hsym.2.1 0) hx
    have hys := (q7 (addZ d0 xx) hzb).grown (show Gr (wd.setCell ⟨bk, ob, none⟩ (.int .u8 (addZ d0 xx))) ((wd.drewN nq).setCell ⟨bk, ob, none⟩ (.int .u8 (addZ d0 xx))) from ⟨rfl, rfl, rfl, Nat.le_refl _, fun _ _ => rfl⟩)
    have hge : Gr v2 ((wd.drewN nq).setCell ⟨bk, ob, none⟩ (.int .u8 (addZ d0 xx))) := Gr.setCell (show Gr v2 (wd.drewN nq) from GD.out) q6 _
    rw [← hd0] at hys hge ⊢
    have HSYM := Lib.hid hsym
    have YS := Lib.hid hys
    have GE := Lib.hid hge
    have HPE := Lib.hid (HP4.out.grown hge)
    have HLY : Hid (((symY K H S s M (firstI i)).set k ⟨(k : Int), (symP K H S s M k).set 0 (addZ ((symP K H S s M k).getD 0 0) xx)⟩).length = i) := Lib.hid (by rw [List.length_set]; exact HLN.out)
    clear hys hge hsym hzb q1 q3 q4 q5 q6 q7 hd0 c2 SD GD HPD HAT HP4
    generalize ((wd.drewN nq).setCell ⟨bk, ob, none⟩ (.int .u8 (addZ ((symP K H S s M k).getD 0 0) xx))) = wE at *
    go_loopw [24, 101] (fun hv iv W => ∃ j : Nat, j ≤ i ∧ iv = .int .i64 j ∧ (∃ m, W.ownsRow wE.heap.size 3 1 hv m (((butN k j).map (fun n : Nat => (n : Int))).map (Value.int .i64))) ∧ Gr wE W) (fun _ iv _ => i - (intOf iv).toNat)
    case atStart => exact ⟨0, by omega, rfl, ⟨0, World.ownsRow_nil _ _ _ _⟩, Gr.refl _⟩
    case round =>
     obtain ⟨wi, hwi⟩ : ∃ x, x = wr := ⟨_, rfl⟩
     subst hwi
     obtain ⟨j, hj, rfl, ⟨m, ho⟩, hg⟩ := hrel
     have hbl := butN_le k j
     have hmb : m ≤ 100 := by
      have := ho.1
      simp at this
      omega
     have hmm : (butN k j).length = m := by
      have := ho.1
      simp at this
      omega
     have HMM := Lib.hid hmm
     clear hmm hbl
     obtain ⟨ot, ct, rfl⟩ := ownsRow_form ho
     have OO := Lib.hid ho
     have GG := Lib.hid hg
     clear ho hg
     by_cases hlt : j < i
     ·by_cases hjk : j = k
      ·subst hjk
       have hbk : ((j : Int) != (j : Int)) = false := by simp
       go_wp2_with fail
       exact ⟨⟨j + 1, by omega, by go_num, ⟨m, by rw [butN_succ, if_pos rfl]; exact OO.out⟩, GG.out⟩, by simp [intOf]; omega⟩
      ·have hbk : ((j : Int) != (k : Int)) = true := by simp; omega
       have hst : (butN k (j + 1)).map (fun n : Nat => (n : Int)) = (butN k j).map (fun n : Nat => (n : Int)) ++ [(j : Int)] := by rw [butN_succ, if_neg hjk, List.map_append]; rfl
       have HST := Lib.hid hst
       clear hst
       go_wp2_with (at_builtin; refine wpList_append_int rfl _ _ rfl wE.heap.size (.slice ot m ct) m ((butN k j).map (fun n : Nat => (n : Int))) rfl (OO.out.of_gr (Gr.alloc (Gr.refl _) _ _)) wi.heap.size (j : Int) rfl (by rw [cell_of_row _ _ 0 _ _ _ (heap_alloc_new wi _)]; rfl) (by omega) (by have := GG.out.size; simp; omega) ?_; intro g6 c6 w6 h1 h2 h3; have O6 := Lib.hid h1; have G6 := Lib.hid (gr_by_own (Gr.alloc GG.out _ _) h2 (OO.out.of_gr (Gr.alloc (Gr.refl _) _ _)) (Nat.le_refl _)); clear h1 h2 h3)
       refine ⟨⟨_, _, _, _, _, _, _, _, _, _, _, _, _, ⟨j + 1, by omega, ?_, ⟨m + 1, by rw [HST.out]; exact O6.out⟩, G6.out⟩, rfl⟩, by simp [intOf]; omega⟩
       go_num
     ·obtain rfl : j = i := by omega
      have hzs : Zs wi (.slice ot m ct) ((butN k j).map (fun n : Nat => (n : Int))) := owns_zs OO.out (by rw [List.length_map]; exact HMM.out) fun x hx => may_i64 (firstI_may (show j ≤ 1000 by omega) x (butN_mem.1 hx).1)
      have HZ := Lib.hid hzs
      have YS2 := Lib.hid (YS.out.grown GG.out)
      have HP6 := Lib.hid (HPE.out.grown GG.out)
      have HG6 := Lib.hid (Gr.trans HG4.out (Gr.trans GE.out GG.out))
      have HOL : Hid (((butN k j).map (fun n : Nat => (n : Int))).length ≤ 900) := Lib.hid (by rw [List.length_map, HMM.out]; omega)
      clear hzs OO GG YS HPE GE HG4
      have c0 := HP6.out.cell0
      have c1 := HP6.out.cell1
      have c2 := HP6.out.cell2
      have hsl : ∀ q ∈ (symY K H S s M (firstI j)).set k ⟨(k : Int), (symP K H S s M k).set 0 (addZ ((symP K H S s M k).getD 0 0) xx)⟩, q.d.length ≤ 1000 := fun q hq => by
       rcases List.mem_or_eq_of_mem_set hq with hq | rfl
       ·have h1 := (symY_all (seed := s) HM.out HMI.out.wide HMI.out.len (firstI_may (show j ≤ 1000 by omega))).2 q hq
        omega
       ·show ((symP K H S s M k).set 0 _).length ≤ 1000
        rw [List.length_set, HSYM.out.1]
        omega
      go_wp2_with fail
      refine (HC.out.block K H S s _ _ _ HS.out YS2.out (by rw [HLY.out]; omega) hsl).mono ?_
      rintro e w7 ⟨u, x7, out, rfl, hb7, hg7, hs7⟩
      obtain ⟨hcl, hok⟩ := dec_clash HR.out HMI.out hTK (by omega) hk2 (by rw [List.length_set]; exact HSYM.out.1) (fun z hz => by
        rcases List.mem_or_eq_of_mem_set hz with hz | rfl
        · exact HSYM.out.2.1 z hz
        · exact addZ_byt (getD_byt HSYM.out.2.1 0) hx) (fun x => butN_mem) hs7
      rw [set_addZ_ne HSYM.out.2.1 (by rw [HSYM.out.1]; exact S1) hx] at hcl hok
      obtain ⟨o7, m7, c7, rfl⟩ := Bs.form4 hb7
      have hm7 : m7 = out.length := by
       obtain ⟨o', c', he⟩ := hb7.form
       cases he
       rfl
      have HZ7 := Lib.hid (HZ.out.grown hg7)
      have HP7 := Lib.hid (HP6.out.grown hg7)
      have HG7 := Lib.hid (Gr.trans HG6.out hg7)
      clear hb7 hg7 hs7 hsl HZ HP6 HG6 c0 c1 c2
      have c0 := HP7.out.cell0
      have c1 := HP7.out.cell1
      have c2 := HP7.out.cell2
      by_cases hx0 : xx = 0
      ·obtain ⟨rfl, hol⟩ := hok (fun h => h.1 hx0)
       obtain rfl : m7 = Q := by rw [hm7, hol]; exact HQ.out
       subst hx0
       clear hcl hok hm7 hol
       go_wp2_with fail
       refine (decWakes_any HC.out _).mono ?_
       rintro e wz ⟨rfl, hgz⟩
       have HGZ := Lib.hid (Gr.trans HG7.out hgz)
       clear hgz
       go_wp2_with fail
       go_ret
       exact ⟨rfl, HGZ.out⟩
      ·have hxb : (xx != 0) = true := by simp; exact hx0
       by_cases hful : FullP K H S s ((butN k j).map (fun n : Nat => (n : Int)))
       ·obtain ⟨rfl, rfl⟩ := hcl ⟨hx0, hful⟩
        have HFU := Lib.hid (decide_eq_true hful)
        have hm7' : m7 = 0 := hm7
        subst hm7'
        clear hcl hok hm7 hful
        go_wp2_with fail
        refine (HO.out.full K H S s _ _ _ HS.out HZ7.out HOL.out).mono ?_
        rw [HFU.out]
        rintro e w8 ⟨rfl, hg8⟩
        have HG8 := Lib.hid (Gr.trans HG7.out hg8)
        clear hg8
        go_wp2_with fail
        refine (decWakes_any HC.out _).mono ?_
        rintro e wz ⟨rfl, hgz⟩
        have HGZ := Lib.hid (Gr.trans HG8.out hgz)
        clear hgz
        go_wp2_with fail
        go_ret
        exact ⟨rfl, HGZ.out⟩
       ·obtain ⟨rfl, hol⟩ := hok (fun h => hful h.2)
        have HFU := Lib.hid (decide_eq_false hful)
        obtain rfl : m7 = Q := by rw [hm7, hol]; exact HQ.out
        clear hcl hok hm7 hful hol
        go_wp2_with fail
        refine (HO.out.full K H S s _ _ _ HS.out HZ7.out HOL.out).mono ?_
        rw [HFU.out]
        rintro e w8 ⟨rfl, hg8⟩
        have HP8 := Lib.hid (HP7.out.grown hg8)
        have HG8 := Lib.hid (Gr.trans HG7.out hg8)
        clear hg8 c0 c1 c2
        have c0 := HP8.out.cell0
        have c2 := HP8.out.cell2
        go_wp2_with fail
        refine (decWakes_any HC.out _).mono ?_
        rintro e wz ⟨rfl, hgz⟩
        have HGZ := Lib.hid (Gr.trans HG8.out hgz)
        clear hgz
        go_wp2_with fail
        go_ret
        exact ⟨rfl, HGZ.out⟩
 ·have HR := Lib.hid hr
  clear hr
  go_region_held3 (fun W => W.cell? ⟨gp, 0, none⟩ = some (.int .i64 (K : Int)) ∧ W.cell? ⟨gp, 1, none⟩ = some (.int .i64 (H : Int)) ∧ W.cell? ⟨gp, 2, none⟩ = some (.int .i64 (S : Int))) (first | exact ⟨k20, k21, k22⟩ | exact ⟨k10, k11, k12⟩ | go_keep)
   (first
     | (go_at_call 12; refine (HE.out.newSeed K H S s _ X _ HS.out B1.out HM.out (by rw [HXL.out, HQ.out]) HR.out).mono ?_; rintro e v2 ⟨rfl, hg4⟩; have k20 := cell_grown hg4 (by exact k10); have k21 := cell_grown hg4 (by exact k11); have k22 := cell_grown hg4 (by exact k12); have V2 : Hid (Gr w2 v2) := Lib.hid (Gr.trans V1.out hg4); clear hg4)
     | (go_at_call 13; refine (data_any _ D Q _ (Bs.grown HD.out (Gr.trans HG2.out (Gr.drew (Gr.refl _)))) hQ1 (by omega)).mono ?_; rw [HX.out]; rintro e v1 ⟨y1, rfl, hn1⟩; obtain ⟨o1, d1, hf1⟩ := (New.bs hn1).form; rw [HXL.out] at hf1; subst hf1; have B1 := Lib.hid (New.bs hn1); have hg1 := hn1.1; have k10 := cell_grown hg1 (by exact c0); have k11 := cell_grown hg1 (by exact c1); have k12 := cell_grown hg1 (by exact c2); have V1 : Hid (Gr w2 v1) := Lib.hid (by exact hg1); clear hn1 hg1))
  have HG4 := Lib.hid (Gr.trans HG2.out V2.out)
  go_wp2_with fail
  refine (decWakes_any HC.out _).mono ?_
  rintro e w5 ⟨rfl, hg5⟩
  have HG5 := Lib.hid (Gr.trans HG4.out hg5)
  clear hg5
  go_wp2_with fail
  go_ret
  exact ⟨rfl, HG5.out⟩
end Go.Proofs.YtbbglejdfbkjlaaGreat
namespace Go.Proofs.YtbbglejdfbkjlaaGreat
open Go.RowKit
set_option maxRecDepth 100000 in
set_option maxHeartbeats 6400000 in
theorem decodeEnough_walk {At' : World → Value → (Nat → Prop) → Nat → Nat → Nat → Nat → List Symb → Prop} (O : SystemOk) (C : DecOk At') (a b c sd : Int) (vd : Value) (D : List Int) (gone : Int) (w : World) (hd : Bs w vd D) :
  Calls Tryz.prog 8 #[.int .i64 a, .int .i64 b, .int .i64 c, .int .u64 sd, vd, .int .i64 gone] w fun e w' => e = .returned (.bool true) ∧ Gr w w' := by
 have HO := Lib.hid O
 have HC := Lib.hid C
 have HD := Lib.hid hd
 obtain ⟨od, md, cd, rfl⟩ := Bs.form4 hd
 clear O C hd
 obtain ⟨K, hK, K1, K2⟩ : ∃ K : Nat, 1 + a % 16 = K ∧ 1 ≤ K ∧ K ≤ 16 := ⟨(1 + a % 16).toNat, by omega, by omega, by omega⟩
 obtain ⟨H, hH, H1, H2⟩ : ∃ K : Nat, 1 + b % 4 = K ∧ 1 ≤ K ∧ K ≤ 4 := ⟨(1 + b % 4).toNat, by omega, by omega, by omega⟩
 obtain ⟨S, hS, S1, S2⟩ : ∃ K : Nat, 1 + c % 24 = K ∧ 1 ≤ K ∧ K ≤ 24 := ⟨(1 + c % 24).toNat, by omega, by omega, by omega⟩
 have hm : MayP K H S := by unfold MayP; omega
 have HM := Lib.hid hm
 obtain ⟨Q, hQ⟩ : ∃ Q, K * S = Q := ⟨_, rfl⟩
 have hQ1 : 1 ≤ Q := by rw [← hQ]; exact Nat.mul_pos K1 S1
 have hQ2 : Q ≤ 384 := by rw [← hQ]; exact Nat.le_trans (Nat.mul_le_mul K2 S2) (by omega)
 have hQi : (K : Int) * (S : Int) = (Q : Int) := by rw [← hQ]; simp
 have hQw : IntKind.i64.wrap (Q : Int) = Q := by simp [IntKind.wrap, IntKind.bits, IntKind.signed]; omega
 have HQ := Lib.hid hQ
 clear hm hQ
 go_enter Tryz.func8, Tryz.ntmps8
 go_wp2_with fail
 refine (params_any a b c _).mono ?_
 rintro e w1 ⟨rfl, hg⟩
 rw [hK, hH, hS]
 clear hK hH hS
 go_wp2_with fail
 have HP : Hid (Par (w1.alloc (.cells #[.int .i64 (K : Int), .int .i64 (H : Int), .int .i64 (S : Int)] 23)) w1.heap.size K H S) := Lib.hid (heap_alloc_new _ _)
 have HG : Hid (Gr w (w1.alloc (.cells #[.int .i64 (K : Int), .int .i64 (H : Int), .int .i64 (S : Int)] 23))) := Lib.hid (Gr.alloc hg _ _)
 clear hg
 generalize w1.alloc (.cells #[.int .i64 (K : Int), .int .i64 (H : Int), .int .i64 (S : Int)] 23) = W0 at *
 generalize w1.heap.size = gp at *
 have c0 := HP.out.cell0
 have c1 := HP.out.cell1
 have c2 := HP.out.cell2
 go_wp2_with fail
 refine (seed_any HO.out K H S sd _).mono ?_
 rintro e w2 ⟨s, rfl, hs, hg2⟩
 have HP2 := Lib.hid (HP.out.grown hg2)
 have HG2 := Lib.hid (Gr.trans HG.out hg2)
 have HS := Lib.hid hs
 clear hg2 HP HG c0 c1 c2 hs
 have c0 := HP2.out.cell0
 have c1 := HP2.out.cell1
 have c2 := HP2.out.cell2
 go_wp2_with fail
 refine (data_any _ D Q _ (Bs.grown HD.out HG2.out) hQ1 (by omega)).mono ?_
 rintro e w3 ⟨x, rfl, hn3⟩
 obtain ⟨X, hX⟩ : ∃ X, dataL D Q = X := ⟨_, rfl⟩
 have HXB : Hid (∀ z ∈ X, Byt z) := Lib.hid (by rw [← hX]; exact dataL_byt HD.out.1 Q)
 have HXL : Hid (X.length = Q) := Lib.hid (by rw [← hX]; exact dataL_length D Q)
 rw [hX] at hn3
 obtain ⟨ox, cx, rfl⟩ := (New.bs hn3).form
 have HBX := Lib.hid (New.bs hn3)
 have HP3 := Lib.hid (HP2.out.grown hn3.1)
 have HG3 := Lib.hid (Gr.trans HG2.out hn3.1)
 rw [HXL.out] at HBX ⊢
 clear hn3 hX HP2 HG2 c0 c1 c2
 have c0 := HP3.out.cell0
 have c1 := HP3.out.cell1
 have c2 := HP3.out.cell2
 go_wp2_with fail
 by_cases hr : RightP K H S s
 ·refine (HO.out.right K H S s _ HS.out).mono ?_
  rw [decide_eq_true hr]
  rintro e w4 ⟨rfl, hg4⟩
  have HR := Lib.hid hr
  have HP4 := Lib.hid (HP3.out.grown hg4)
  have HG4 := Lib.hid (Gr.trans HG3.out hg4)
  have HBX4 := Lib.hid (Bs.grown HBX.out hg4)
  clear hr hg4 HP3 HG3 HBX c0 c1 c2
  have c0 := HP4.out.cell0
  have c1 := HP4.out.cell1
  have c2 := HP4.out.cell2
  obtain ⟨k, hk, hk2⟩ : ∃ k : Nat, gone % (K : Int) = (k : Int) ∧ k < K := by
   have h1 := Int.emod_nonneg gone (by omega : (K : Int) ≠ 0)
   have h2 := Int.emod_lt_of_pos gone (by omega : 0 < (K : Int))
   exact ⟨(gone % (K : Int)).toNat, by omega, by omega⟩
  have HK := Lib.hid hk
  clear hk
  go_wp2_with fail
  refine (within_any gone (K : Int) (by omega) (by omega) _).mono ?_
  rintro e w' ⟨rfl, rfl⟩
  rw [HK.out]
  go_wp2_with fail
  obtain ⟨ax, rfl⟩ := Bs.addr HBX4.out (by omega)
  go_loopw [16, 17, 19] (fun av lv iv W => ∃ i : Nat, i ≤ K ∧ iv = .int .i64 i ∧ SymsO (fun _ => True) w4.heap.size W av (srcY S X (List.range i)) ∧ SymsO (fun _ => True) w4.heap.size W lv (srcY S X (butN k i)) ∧ Apart2 av lv ∧ Gr w4 W) (fun _ _ iv _ => K - (intOf iv).toNat)
  case atStart => exact ⟨0, by omega, rfl, SymsO.nil _ _, SymsO.nil _ _, (fun g h => by cases h), Gr.refl _⟩
  case round =>
   obtain ⟨wo, hwo⟩ : ∃ x, x = wr := ⟨_, rfl⟩
   subst hwo
   obtain ⟨i, hi, rfl, ha, hl, hap, hg⟩ := hrel
   obtain ⟨oa, ca, ea⟩ := ha.form
   obtain ⟨ol, cl, el⟩ := hl.form
   have hal : (srcY S X (List.range i)).length = i := by simp [srcY]
   obtain ⟨m, hml⟩ : ∃ m, (srcY S X (butN k i)).length = m := ⟨_, rfl⟩
   have hmi : m ≤ i := by rw [← hml]; simpa [srcY] using butN_le k i
   rw [hal] at ea
   rw [hml] at el
   subst ea el
   have HA := Lib.hid ha
   have HL := Lib.hid hl
   have HAP := Lib.hid hap
   have GG := Lib.hid hg
   have HAL := Lib.hid hal
   have HML := Lib.hid hml
   have HPW := Lib.hid (HP4.out.grown hg)
   have c0 := HPW.out.cell0
   have c1 := HPW.out.cell1
   have c2 := HPW.out.cell2
   clear ha hl hap hg hal hml
   by_cases hlt : i < K
   ·obtain ⟨lo, hlo⟩ : ∃ lo, i * S = lo := ⟨_, rfl⟩
    obtain ⟨hi', hhi⟩ : ∃ hi, (i + 1) * S = hi := ⟨_, rfl⟩
    have hls : lo + S = hi' := by rw [← hlo, ← hhi, Nat.add_mul, Nat.one_mul]
    have hhQ : hi' ≤ Q := by rw [← hhi, ← HQ.out]; exact Nat.mul_le_mul_right S (by omega)
    have e1 : (i : Int) * (S : Int) = (lo : Int) := by rw [← hlo]; simp
    have e2 : ((i : Int) + 1) * (S : Int) = (hi' : Int) := by rw [← hhi]; simp
    have e3 : IntKind.i64.wrap (lo : Int) = lo := by simp [IntKind.wrap, IntKind.bits, IntKind.signed]; omega
    have e4 : IntKind.i64.wrap (hi' : Int) = hi' := by simp [IntKind.wrap, IntKind.bits, IntKind.signed]; omega
    have e5 : IntKind.i64.wrap ((i : Int) + 1) = (i : Int) + 1 := by simp [IntKind.wrap, IntKind.bits, IntKind.signed]; omega
    have hQc : Q ≤ cx := by
     obtain ⟨_, _, _, hf, hl, _⟩ := HBX4.out
     simp at hf
     omega
    have b1 : (lo : Int) ≤ hi' := by omega
    have b2 : (hi' : Int) ≤ cx := by omega
    have b3 : (hi' : Int) ≤ Q := by omega
    have b4 : (lo : Int) ≤ cx := by omega
    have hpart := Bs.part HBX4.out (lo := lo) (hi := hi') (by omega) hhQ
    rw [if_neg (by omega : ¬ cx = lo)] at hpart
    have hsr : srcL S X i = (X.drop lo).take (hi' - lo) := by unfold srcL; rw [hlo, show hi' - lo = S from by omega]
    rw [← hsr] at hpart
    have hod : (if cx = lo then some ax else some (ax.add lo)) = some (ax.add lo) := if_neg (by omega)
    obtain ⟨z2, hz2⟩ : ∃ z, cx - lo = z := ⟨_, rfl⟩
    have hz1 : hi' - lo = S := by omega
    rw [hz1, hz2] at hpart
    have hst : srcY S X (List.range (i + 1)) = srcY S X (List.range i) ++ [⟨(i : Int), srcL S X i⟩] := by rw [List.range_succ, srcY_snoc]
    have HST := Lib.hid hst
    have HPT := Lib.hid hpart
    have HLB : Hid (srcY S X (butN k (i + 1)) = if i = k then srcY S X (butN k i) else srcY S X (butN k i) ++ [⟨(i : Int), srcL S X i⟩]) := Lib.hid (by
      rw [butN_succ]
      split
      · rfl
      · rw [srcY_snoc])
    have hi64 : I64 (i : Int) := ⟨by omega, by omega⟩
    clear hlo hhi hsr hst hpart
    generalize srcL S X i = sr at *
    go_upto_region 12 with fail
    have k0 : (wo.alloc (.cells #[.int .i64 (i : Int), .slice (some (ax.add lo)) S z2] 30)).cell? ⟨wo.heap.size, 0, none⟩ = some (.int .i64 (i : Int)) := by rw [cell_of_row _ _ 0 _ _ _ (heap_alloc_new _ _)]; rfl
    have k1 : (wo.alloc (.cells #[.int .i64 (i : Int), .slice (some (ax.add lo)) S z2] 30)).cell? ⟨wo.heap.size, 1, none⟩ = some (.slice (some (ax.add lo)) S z2) := by rw [cell_of_row _ _ 1 _ _ _ (heap_alloc_new _ _)]; rfl
    have gA : Gr wo (wo.alloc (.cells #[.int .i64 (i : Int), .slice (some (ax.add lo)) S z2] 30)) := Gr.alloc (Gr.refl _) _ _
    have HA2 := Lib.hid (HA.out.grown gA)
    have HL2 := Lib.hid (HL.out.grown gA)
    have GA := Lib.hid (Gr.trans GG.out gA)
    have HOL := Lib.hid HA.out.own_lt
    have HOL2 := Lib.hid HL.out.own_lt
    have HV : Hid (∀ W, Gr w4 W → SyVal (fun _ => True) w4.heap.size W (.int .i64 (i : Int)) (.slice (some (ax.add lo)) S z2) ⟨(i : Int), sr⟩) := Lib.hid (fun W hW => by
      have h := Rb.gr HPT.out (Rb.of_lt HPT.out) hW
      exact ⟨rfl, hi64, h.1, h.2, fun _ _ _ _ _ => trivial⟩)
    clear gA c0 c1 c2 HA HL GG
    generalize hWA : wo.alloc (.cells #[.int .i64 (i : Int), .slice (some (ax.add lo)) S z2] 30) = wA at *
    generalize wo.heap.size = gz at *
    have gB : Gr wA (wA.alloc (.cells #[.int .i64 (i : Int), .slice (some (ax.add lo)) S z2] 30)) := Gr.alloc (Gr.refl _) _ _
    have d0 : (wA.alloc (.cells #[.int .i64 (i : Int), .slice (some (ax.add lo)) S z2] 30)).cell? ⟨wA.heap.size, 0, none⟩ = some (.int .i64 (i : Int)) := by rw [cell_of_row _ _ 0 _ _ _ (heap_alloc_new _ _)]; rfl
    have d1 : (wA.alloc (.cells #[.int .i64 (i : Int), .slice (some (ax.add lo)) S z2] 30)).cell? ⟨wA.heap.size, 1, none⟩ = some (.slice (some (ax.add lo)) S z2) := by rw [cell_of_row _ _ 1 _ _ _ (heap_alloc_new _ _)]; rfl
    have GB := Lib.hid (Gr.trans GA.out gB)
    have HA3 := Lib.hid (HA2.out.grown gB)
    have HL3 := Lib.hid (HL2.out.grown gB)
    have K0 := Lib.hid (cell_grown gB k0)
    have K1 := Lib.hid (cell_grown gB k1)
    have D0 := Lib.hid d0
    have D1 := Lib.hid d1
    clear gB d0 d1 HA2 HL2 hWA
    go_upto_region 13 with (at_builtin; refine wpList_append_syA rfl _ _ rfl w4.heap.size (.slice oa i ca) (srcY S X (List.range i)) rfl HA3.out wA.heap.size (.int .i64 (i : Int)) (.slice (some (ax.add lo)) S z2) ⟨(i : Int), sr⟩ rfl D0.out D1.out (HV.out _ GB.out) (by rw [HAL.out]; omega) (by have := GB.out.size; exact this) ?_; intro g6 c6 w6 h6 hg6 hgr6 hl6 hn6 hb6; rw [HAL.out] at h6 hb6; have A6 := Lib.hid h6; have G6 := Lib.hid (hg6 w4 GB.out (Nat.le_refl _)); have L6 := Lib.hid (hb6 (.slice ol m cl) _ HL3.out HAP.out); have q0 := hgr6.cell K0.out (fun e => by have := HOL.out gz e.symm; omega); have q1 := hgr6.cell K1.out (fun e => by have := HOL.out gz e.symm; omega); rw [HAL.out]; clear h6 hg6 hgr6 hl6 hn6 hb6)
    clear k0 k1
    by_cases hik : i = k
    ·subst hik
     have hbk : ((i : Int) != (i : Int)) = false := by simp
     go_wp2_with fail
     exact ⟨⟨i + 1, by omega, by go_num, by rw [HST.out]; exact A6.out, by rw [HLB.out, if_pos rfl]; exact L6.out.1, L6.out.2, G6.out⟩, by simp [intOf]; omega⟩
    ·have hbk : ((i : Int) != (k : Int)) = true := by simp; omega
     have HGL := Lib.hid G6.out.size
     have gC : Gr w6 (w6.alloc (.cells #[.int .i64 (i : Int), .slice (some (ax.add lo)) S z2] 30)) := Gr.alloc (Gr.refl _) _ _
     have d0 : (w6.alloc (.cells #[.int .i64 (i : Int), .slice (some (ax.add lo)) S z2] 30)).cell? ⟨w6.heap.size, 0, none⟩ = some (.int .i64 (i : Int)) := by rw [cell_of_row _ _ 0 _ _ _ (heap_alloc_new _ _)]; rfl
     have d1 : (w6.alloc (.cells #[.int .i64 (i : Int), .slice (some (ax.add lo)) S z2] 30)).cell? ⟨w6.heap.size, 1, none⟩ = some (.slice (some (ax.add lo)) S z2) := by rw [cell_of_row _ _ 1 _ _ _ (heap_alloc_new _ _)]; rfl
     have F0 := Lib.hid d0
     have F1 := Lib.hid d1
     have GC := Lib.hid (Gr.trans G6.out gC)
     have A7 := Lib.hid (A6.out.grown gC)
     have L7 := Lib.hid (L6.out.1.grown gC)
     have P7 : Hid (Apart2 (.slice ol m cl) (.slice (some ⟨g6, 0, none⟩) (i + 1) c6)) := Lib.hid (fun g e e2 => L6.out.2 g e2 e)
     clear d0 d1 gC
     go_wp2_with (at_builtin; refine wpList_append_syA rfl _ _ rfl w4.heap.size (.slice ol m cl) (srcY S X (butN k i)) rfl L7.out w6.heap.size (.int .i64 (i : Int)) (.slice (some (ax.add lo)) S z2) ⟨(i : Int), sr⟩ rfl F0.out F1.out (HV.out _ GC.out) (by rw [HML.out]; omega) (by have := GC.out.size; exact this) ?_; intro g8 c8 w8 h8 hg8 hgr8 hl8 hn8 hb8; rw [HML.out] at h8 hb8; have L8 := Lib.hid h8; have G8 := Lib.hid (hg8 w4 GC.out (Nat.le_refl _)); have A8 := Lib.hid (hb8 _ _ A7.out P7.out); rw [HML.out]; clear h8 hg8 hgr8 hl8 hn8 hb8)
     exact ⟨⟨i + 1, by omega, by go_num, by rw [HST.out]; exact A8.out.1, by rw [HLB.out, if_neg hik]; exact L8.out, (fun g e e2 => A8.out.2 g e2 e), G8.out⟩, by simp [intOf]; omega⟩
   ·obtain rfl : i = K := by omega
    have HS1 := Lib.hid HA.out.syms
    have HS2 := Lib.hid HL.out.syms
    have HG5 := Lib.hid (Gr.trans HG4.out GG.out)
    have HX5 := Lib.hid (Bs.grown HBX4.out GG.out)
    have hsl : ∀ l : List Nat, (∀ j ∈ l, j < i) → ∀ q ∈ srcY S X l, q.d.length ≤ 1000 := fun l hl q hq => by
     have h1 := (srcY_all HM.out (by rw [HXL.out, HQ.out]) hl).2 q hq
     omega
    have HSL := Lib.hid hsl
    clear hsl HA HL HG4 HBX4 GG HP4
    go_wp2_with fail
    refine (HC.out.block i H S s _ (srcY S X (List.range i)) _ HS.out HS1.out (by rw [HAL.out]; omega) (HSL.out _ fun j hj => List.mem_range.1 hj)).mono ?_
    rintro e w7 ⟨u, x7, out, rfl, hb7, hg7, hs7⟩
    obtain ⟨rfl, ho7⟩ := dec_all HR.out (by rw [HXL.out, HQ.out]) HXB.out hs7
    rw [ho7] at hb7
    obtain ⟨o7, m7, c7, rfl⟩ := Bs.form4 hb7
    have HB7 := Lib.hid hb7
    have HS3 := Lib.hid (HS2.out.grown hg7)
    have HX7 := Lib.hid (Bs.grown HX5.out hg7)
    have HP7 := Lib.hid (HPW.out.grown hg7)
    have HG7 := Lib.hid (Gr.trans HG5.out hg7)
    clear hb7 hg7 hs7 ho7 HS1 HS2 HX5 HPW HG5 c0 c1 c2
    have c0 := HP7.out.cell0
    have c1 := HP7.out.cell1
    have c2 := HP7.out.cell2
    go_wp2_with fail
    refine (HC.out.block i H S s _ (srcY S X (butN k i)) _ HS.out HS3.out (by rw [HML.out]; omega) (HSL.out _ fun j hj => butN_lt j hj)).mono ?_
    rintro e w8 ⟨u, x8, out8, rfl, hb8, hg8, hs8⟩
    obtain ⟨rfl, rfl⟩ := dec_less HM.out (by rw [HXL.out, HQ.out]) (fun j hj => butN_lt j hj) (butN_less hk2) hs8
    obtain ⟨o8, m8, c8, rfl⟩ := Bs.form4 hb8
    obtain rfl : m8 = 0 := by
     obtain ⟨o', c', he⟩ := hb8.form
     cases he
     rfl
    have HB8 := Lib.hid (Bs.grown HB7.out hg8)
    have HX8 := Lib.hid (Bs.grown HX7.out hg8)
    have HG8 := Lib.hid (Gr.trans HG7.out hg8)
    clear hb8 hg8 hs8
    go_wp2_with fail
    refine (same_any _ _ _ _ _ HB8.out HX8.out).mono ?_
    rw [beq_self_eq_true]
    rintro e w9 ⟨rfl, hg9⟩
    have HG9 := Lib.hid (Gr.trans HG8.out hg9)
    clear hg9
    go_wp2_with fail
    refine (decWakes_any HC.out _).mono ?_
    rintro e wz ⟨rfl, hgz⟩
    have HGZ := Lib.hid (Gr.trans HG9.out hgz)
    clear hgz
    go_wp2_with fail
    go_ret
    exact ⟨rfl, HGZ.out⟩
 ·refine (HO.out.right K H S s _ HS.out).mono ?_
  rw [decide_eq_false hr]
  rintro e w4 ⟨rfl, hg4⟩
  have HG4 := Lib.hid (Gr.trans HG3.out hg4)
  clear hg4
  go_wp2_with fail
  refine (decWakes_any HC.out _).mono ?_
  rintro e w5 ⟨rfl, hg5⟩
  have HG5 := Lib.hid (Gr.trans HG4.out hg5)
  clear hg5
  go_wp2_with fail
  go_ret
  exact ⟨rfl, HG5.out⟩
end Go.Proofs.YtbbglejdfbkjlaaGreat
namespace Go.Proofs.YtbbglejdfbkjlaaGreat
open Go.RowKit
theorem bytes_cells {w : World} {o : Option Addr} {l : List Int} {n : Nat} (hl : l.length = n) (h : ∀ a, o = some a → ∀ i, i < n → w.cell? (a.add i) = some (.int .u8 (l.getD i 0))) :
  ∀ ad, o = some ad → ∀ i u, (l.map (Value.int .u8))[i]? = some u → w.cell? (ad.add i) = some u := by
 intro ad ha i u hu
 have hi : i < l.length := by
  have := (List.getElem?_eq_some_iff.1 hu).1
  rwa [List.length_map] at this
 rw [h ad ha i (by omega)]
 rw [List.getElem?_map, List.getElem?_eq_getElem hi] at hu
 rw [List.getD_eq_getElem?_getD, List.getElem?_eq_getElem hi]
 simpa using hu
theorem leadL_nought : ∀ l : List Int, leadL l = -1 → ∀ j, l.getD j 0 = 0
 | [], _, j => by simp
 | a :: l, h, j => by
  have hge := leadL_ge l
  unfold leadL at h
  split at h
  ·rename_i ha
   split at h
   ·rename_i hl
    cases j with
    | zero => simpa using ha
    | succ j => simpa using leadL_nought l hl j
   ·omega
  ·omega
theorem vec_nought {l : List Int} (h : leadL l = -1) : vec l = L.vzero := funext fun j => by
 show fb (l.getD j 0) = L.zero
 rw [leadL_nought l h j, fb_zero]
theorem vec_ne {l : List Int} (hb : ∀ x ∈ l, Byt x) (h : 0 ≤ leadL l) : vec l ≠ L.vzero := fun e => by
 have : leadL l = -1 := leadL_none l fun j _ => by
  have h1 : fb (l.getD j 0) = L.zero := congrFun e j
  exact fb_inj (getD_byt hb j) (by unfold Byt; omega) (by rw [h1, fb_zero])
 omega
theorem Bs.parts {w : World} {oa : Option Addr} {m c : Nat} {l : List Int} (h : Bs w (.slice oa m c) l) : l.length = m ∧ m ≤ c ∧ c ≤ 9223372036854775807 ∧ (oa = none → m = 0 ∧ c = 0) ∧ ∀ ad, oa = some ad → ∀ i u, (l.map (Value.int .u8))[i]? = some u → w.cell? (ad.add i) = some u := by
 obtain ⟨_, oa', c', he, h2, h3, h4, h5⟩ := h
 obtain ⟨rfl, rfl, rfl⟩ : oa = oa' ∧ m = l.length ∧ c = c' := by simpa using he
 exact ⟨rfl, h2, h3, fun e => ⟨by have := h4 e; omega, h4 e⟩, bytes_cells rfl h5⟩
theorem wpList_append_bytes {w : World} {ops : Array Oper} {rest : List Oper} {o : Oper} {a : Act} {Q : Exit → Act → World → Prop} (hgd : o.guard = none) (s x : Operand)
  (ho : o.op = .call { callee := .builtin .append, args := #[s, x], argTypes := #[25, 25] }) (base : Nat) (v : Value) (n : Nat) (l : List Int) (hs : a.eval s = v) (hown : w.ownsRow base 5 1 v n (l.map (Value.int .u8)))
  (oa : Option Addr) (m c : Nat) (l' : List Int) (hx : a.eval x = .slice oa m c) (hL : Bs w (.slice oa m c) l') (hm : n + m ≤ 1000000) (hbase : base ≤ w.heap.size)
  (h : ∀ v' w', w'.ownsRow base 5 1 v' (n + m) ((l ++ l').map (Value.int .u8)) → w.grownBy w' v.ownBlock → wpList Tryz.prog ops Q rest (a.put o.dst v') w') : wpList Tryz.prog ops Q (o :: rest) a w := by
 obtain ⟨i5, hi0, hz0, hz1, hz2⟩ := info_parts infoB
 obtain ⟨p1, p2, p3, p4, p5⟩ := hL.parts
 refine wpList_append_in hgd s x 25 ho base 5 i5 _ 1 Tryz.underlying25 hi0 hz0 hz1 hz2 rfl v n _ hs hown oa m c (l'.map (Value.int .u8)) hx p4 (by rw [List.length_map]; exact p1) p5 (ints_oneCell _ _) (by unfold maxLen; omega) (by omega) hbase ?_
 intro v' w' h1 h2
 exact h v' w' (by rw [List.map_append]; exact h1) h2
theorem step_append_bytes {w : World} {ops : Array Oper} {o : Oper} {a : Act} {K : Act → World → Prop} {Q : Exit → Act → World → Prop} {E : Prop} (hgd : o.guard = none) (s x : Operand)
  (ho : o.op = .call { callee := .builtin .append, args := #[s, x], argTypes := #[25, 25] }) (base : Nat) (v : Value) (n : Nat) (l : List Int) (hs : a.eval s = v) (hown : w.ownsRow base 5 1 v n (l.map (Value.int .u8)))
  (oa : Option Addr) (m c : Nat) (l' : List Int) (hx : a.eval x = .slice oa m c) (hL : Bs w (.slice oa m c) l') (hm : n + m ≤ 1000000) (hbase : base ≤ w.heap.size)
  (h : ∀ v' w', w'.ownsRow base 5 1 v' (n + m) ((l ++ l').map (Value.int .u8)) → w.grownBy w' v.ownBlock → K (a.put o.dst v') w') :
  if Region.wanted o (yielded ops a.tmps) = true then Oper.wp Tryz.prog o a w K Q else E := by
 obtain ⟨i5, hi0, hz0, hz1, hz2⟩ := info_parts infoB
 obtain ⟨p1, p2, p3, p4, p5⟩ := hL.parts
 refine step_append_in hgd s x 25 ho base 5 i5 _ 1 Tryz.underlying25 hi0 hz0 hz1 hz2 rfl v n _ hs hown oa m c (l'.map (Value.int .u8)) hx p4 (by rw [List.length_map]; exact p1) p5 (ints_oneCell _ _) (by unfold maxLen; omega) (by omega) hbase ?_
 intro v' w' h1 h2
 exact h v' w' (by rw [List.map_append]; exact h1) h2
theorem Bs.rb {w : World} {u : Value} {l : List Int} (h : Bs w u l) (w' : World) : Rb w.heap.size w' u := by
 intro a n c e hn
 obtain ⟨_, oa, cc, h1, h2, h3, h4, h5⟩ := h
 rw [h1] at e
 obtain ⟨rfl, rfl, rfl⟩ : oa = some a ∧ l.length = n ∧ cc = c := by simpa using e
 exact .inl (World.block_lt_of_cell? w _ (h5 a rfl 0 hn))
theorem wpList_append_rows {w : World} {ops : Array Oper} {rest : List Oper} {o : Oper} {a : Act} {Q : Exit → Act → World → Prop} (hgd : o.guard = none) (s x : Operand)
  (ho : o.op = .call { callee := .builtin .append, args := #[s, x], argTypes := #[65, 65] }) (hs : a.eval s = .slice none 0 0)
  (oa : Option Addr) (m c : Nat) (L : List (List Int)) (hx : a.eval x = .slice oa m c) (hl : L.length = m) (hL : Bss w (.slice oa m c) L) (hm : m ≤ 1000)
  (h : ∀ v' w' us, w'.ownsRow w.heap.size 25 1 v' m us → Gr w w' → (∀ i, i < m → Bs w' (us.getD i undef) (L.getD i []) ∧ Rb w.heap.size w' (us.getD i undef)) → wpList Tryz.prog ops Q rest (a.put o.dst v') w') : wpList Tryz.prog ops Q (o :: rest) a w := by
 obtain ⟨i0, hi0, hz0, hz1, hz2⟩ := info_parts info22
 obtain ⟨us, hv⟩ := hL.vals
 have hno : oa = none → m = 0 ∧ c = 0 := fun e => by
  obtain ⟨oa', c', he, h1, h2, h3, h4⟩ := hL
  obtain ⟨rfl, h5, rfl⟩ : oa = oa' ∧ m = L.length ∧ c = c' := by simpa using he
  have := h3 e
  omega
 refine wpList_append_in hgd s x 65 ho w.heap.size 25 i0 _ 24 Tryz.underlying65 hi0 hz0 hz1 hz2 rfl (.slice none 0 0) 0 [] hs (World.ownsRow_nil w _ 25 1) oa m c us hx hno (by rw [hv.1, hl]) hv.2.1 hv.2.2.2 (by unfold maxLen; omega) (by omega) (Nat.le_refl _) ?_
 intro v' w' hown hgrow
 rw [Nat.zero_add, List.nil_append] at hown
 have hg : Gr w w' := Gr.append (Gr.refl w) hgrow (fun _ h => by cases h)
 exact h v' w' us hown hg fun i hi => ⟨Bs.grown (hv.2.2.1 i (by omega)) hg, (hv.2.2.1 i (by omega)).rb w'⟩
theorem New.under {w w1 w2 : World} {v : Value} {l : List Int} (hg : Gr w w1) (h : New w1 w2 v l) : New w w2 v l := by
 obtain ⟨h1, h2, h3⟩ := h
 refine ⟨Gr.trans hg h1, h2, ?_⟩
 rcases h3 with h3 | ⟨g, c, cur, e1, e2, e3⟩
 ·exact .inl h3
 ·exact .inr ⟨g, c, cur, e1, Nat.le_trans hg.size e2, e3⟩
theorem zeroB (m : Nat) : Builtin.zeroCells (Value.int .u8 0).cells m = (List.replicate m (Value.int .u8 0)).toArray := by
 apply Array.ext
 ·simp [Builtin.zeroCells, Value.cells]
 intro i h1 h2
 simp [Builtin.zeroCells, Value.cells, Nat.mod_one]
theorem run_append_zeros (w : World) (ty : TypeId) (base : Nat) (v : Value) (n : Nat) (l : List Int) (hown : w.ownsRow base 5 1 v n (l.map (Value.int .u8))) (m : Nat) (hm : n + m ≤ 1000000) (hbase : base ≤ w.heap.size) :
  ∃ v' w', (Builtin.append_ #[25, 3] ty #[v, .int .i64 m]).run Tryz.prog w = .ok v' w' ∧ w'.ownsRow base 5 1 v' (n + m) ((l ++ List.replicate m 0).map (Value.int .u8)) ∧ w.grownBy w' v.ownBlock := by
 obtain ⟨i, hi, hz, hs, hb⟩ := info_parts infoB
 have ht := Tryz.underlying25
 have htn := Tryz.underlying3
 have hlen : ((l ++ List.replicate m 0).map (Value.int .u8)).length = n + m := by
  have := hown.1
  rw [List.length_map] at this
  rw [List.length_map, List.length_append, List.length_replicate]
  omega
 have hmap : (l ++ List.replicate m 0).map (Value.int .u8) = l.map (Value.int .u8) ++ List.replicate m (.int .u8 0) := by rw [List.map_append, List.map_replicate]
 have hln : (l.map (Value.int .u8)).length = n := by have := hown.1; omega
 have grown : ∀ (old : Nat) (row : Option Nat),
   (w.drew.alloc (.cells ((l.map (Value.int .u8)).toArray ++ Builtin.zeroCells (Value.int .u8 0).cells m ++ Builtin.zeroCells (Value.int .u8 0).cells (grownCap w (n + m) old 5 - (n + m))) 5)).ownsRow base 5 1
    (.slice (some ⟨w.heap.size, 0, none⟩) (n + m) (grownCap w (n + m) old 5)) (n + m) ((l ++ List.replicate m 0).map (Value.int .u8)) ∧
   w.grownBy (w.drew.alloc (.cells ((l.map (Value.int .u8)).toArray ++ Builtin.zeroCells (Value.int .u8 0).cells m ++ Builtin.zeroCells (Value.int .u8 0).cells (grownCap w (n + m) old 5 - (n + m))) 5)) row := by
  intro old row
  have hge := grownCap_ge w (n + m) old 5
  have hcm : grownCap w (n + m) old 5 ≤ maxLen := grownCap_le_maxLen w (n + m) old 5 (by unfold maxLen; omega)
  rw [zeroB, zeroB]
  refine ⟨⟨by rw [hlen, Nat.mul_one], .inr ⟨w.heap.size, _, _, rfl, hbase, heap_alloc_new w.drew _, hge, hcm, ?_, ?_⟩⟩, ⟨rfl, rfl, rfl, by simp, fun k hk _ => heap_alloc_old w.drew _ hk⟩⟩
  ·simp only [Array.size_append, List.size_toArray, List.length_replicate, hln]
   omega
  ·rw [hmap]
   simp only [Array.toList_append]
   rw [List.take_left' (by rw [List.length_append, hln, List.length_replicate, Nat.mul_one])]
 by_cases hm0 : m = 0
 ·subst hm0
  rw [List.replicate_zero, List.append_nil] at *
  have hw : IntKind.i64.wrap (0 : Int) = 0 := by rw [IntKind.wrap_i64]; omega
  obtain ⟨_, ⟨rfl, rfl⟩ | ⟨g, cap, cur, rfl, hbg, hg, hnc, hcm, hcs, htake⟩⟩ := id hown
  ·exact ⟨.slice none 0 0, w, by simp [Builtin.append_, run_underlying ht, run_underlying htn, sizeOf, typeInfo, hi, asInt, asIntOf, hw], hown, ⟨rfl, rfl, rfl, Nat.le_refl _, fun _ _ _ => rfl⟩⟩
  ·exact ⟨_, w, by simp [Builtin.append_, run_underlying ht, run_underlying htn, sizeOf, typeInfo, hi, asInt, asIntOf, hw, hnc, storeCells], hown, ⟨rfl, rfl, rfl, Nat.le_refl _, fun _ _ _ => rfl⟩⟩
 ·obtain ⟨_, ⟨rfl, rfl⟩ | ⟨g, cap, cur, rfl, hbg, hg, hnc, hcm, hcs, htake⟩⟩ := id hown
  ·have hl0 : l = [] := by
    rw [List.length_map] at hln
    exact List.eq_nil_of_length_eq_zero hln
   subst hl0
   have hr := Lib.run_append_nil_zeros (P := Tryz.prog) w 25 3 ty 5 i _ .i64 .i64 ht htn hi hz m (by omega) (by rw [hs]; omega) (by omega) (by rw [hb]; omega)
   have hgr := grown 0 (Value.ownBlock (.slice none 0 0))
   simp only [Nat.zero_add, List.map_nil, Array.empty_append] at hgr ⊢
   exact ⟨_, _, hr, hgr.1, hgr.2⟩
  ·by_cases hroom : n + m ≤ cap
   ·have hw : IntKind.i64.wrap (m : Int) = m := by rw [IntKind.wrap_i64]; omega
    have hst := run_storeCells_at Tryz.prog g n 5 (List.replicate m (Value.int .u8 0)) 0 cur w hg (by rw [List.length_replicate]; omega) (by intro u hu; rw [(List.mem_replicate.1 hu).2]; rfl)
    simp only [Nat.add_zero] at hst
    have hneg : ¬ ((m : Int) < 0) := by omega
    have h48i : ¬ (281474976710656 < (m : Int)) := by omega
    refine ⟨.slice (some ⟨g, 0, none⟩) (n + m) cap, w.setRow g (cur.toList.take n ++ List.replicate m (Value.int .u8 0) ++ cur.toList.drop (n + m)).toArray, ?_, ?_, ?_⟩
    ·simp [Builtin.append_, run_underlying ht, run_underlying htn, sizeOf, typeInfo, zeroValue, hi, hz, hs, hb, asInt, asIntOf, hw, hneg, h48i, hm0, hroom, Addr.add_lit, zeroB, hst]
    ·refine ⟨by rw [hlen, Nat.mul_one], .inr ⟨g, cap, _, rfl, hbg, setRow_heap w g cur _ 5 _ hg, hroom, hcm, ?_, ?_⟩⟩
     ·simp only [List.size_toArray, List.length_append, List.length_take, List.length_drop, Array.length_toList, List.length_replicate]
      omega
     ·rw [hmap]
      simp only [List.append_assoc]
      rw [Nat.mul_one] at htake
      rw [htake, ← List.append_assoc, List.take_left' (by rw [List.length_append, hln, List.length_replicate, Nat.mul_one])]
    ·exact ⟨rfl, rfl, rfl, by simp, fun k _ hk => setRow_other w g k _ (fun e => hk (by simp [Value.ownBlock, e]))⟩
   ·have holds : ∀ j u, (l.map (Value.int .u8))[j]? = some u → w.cell? ((⟨g, 0, none⟩ : Addr).add j) = some u := hown.cells (g := g) rfl
    have hf := run_firstCells_some (P := Tryz.prog) w.drew i.size n ⟨g, 0, none⟩ n cap (l.map (Value.int .u8)) (by rw [hs, hln, Nat.mul_one]) (by simpa using holds)
    have hr := Lib.run_append_grow_zeros (P := Tryz.prog) w 25 3 ty 5 i _ .i64 .i64 ht htn hi hz (some ⟨g, 0, none⟩) n cap _ hf m (by omega) (by rw [hs]; omega) (by omega) (by omega) (by rw [hb]; omega) (by rw [hb]; exact growslice_fits (by omega) (by omega))
    have hgr := grown cap (Value.ownBlock (.slice (some ⟨g, 0, none⟩) n cap))
    exact ⟨_, _, hr, hgr.1, hgr.2⟩
theorem want_append_zeros {w : World} {ops : Array Oper} {rest : List Oper} {o : Oper} {a : Act} {Q : Exit → Act → World → Prop} (hw : Region.wanted o (yielded ops a.tmps) = true) (s x : Operand)
  (ho : o.op = .call { callee := .builtin .append, args := #[s, x], argTypes := #[25, 3] }) (base : Nat) (v : Value) (n : Nat) (l : List Int) (hs : a.eval s = v) (hown : w.ownsRow base 5 1 v n (l.map (Value.int .u8)))
  (m : Nat) (hx : a.eval x = .int .i64 m) (hm : n + m ≤ 1000000) (hbase : base ≤ w.heap.size)
  (h : ∀ v' w', w'.ownsRow base 5 1 v' (n + m) ((l ++ List.replicate m 0).map (Value.int .u8)) → w.grownBy w' v.ownBlock → wpList Tryz.prog ops Q rest (a.put o.dst v') w') : wpList Tryz.prog ops Q (o :: rest) a w := by
 refine wpList_step fun K hK => ?_
 rw [if_pos hw]
 obtain ⟨v', w', hr, h2, h3⟩ := run_append_zeros w o.type base v n l hown m hm hbase
 unfold Oper.wp execOp
 simp only [ho, resolve, invoke, builtin, Sem.run_bind, Sem.run_pure, Result.andThen_ok, List.map_toArray, List.map_cons, List.map_nil, hs, hx, hr]
 exact hK _ _ (h v' w' h2 h3)
end Go.Proofs.YtbbglejdfbkjlaaGreat
namespace Go.Proofs.YtbbglejdfbkjlaaGreat
open Go.RowKit
theorem own_front {w : World} {base n : Nat} {v : Value} {us : List Value} {e : TypeId} (h : w.ownsRow base e 1 v n us) : ∃ o c, v = .slice o n c ∧ w.ownsRow base e 1 (.slice o 0 c) 0 [] := by
 obtain ⟨h0, ⟨rfl, rfl⟩ | ⟨g, c, cur, rfl, hb, hg, h1, h2, h3, h4⟩⟩ := h
 ·exact ⟨none, 0, rfl, World.ownsRow_nil _ _ _ _⟩
 ·exact ⟨_, c, rfl, by simp, .inr ⟨g, c, cur, rfl, hb, hg, by omega, h2, h3, by simp⟩⟩
set_option maxRecDepth 100000 in
set_option maxHeartbeats 1600000 in
theorem dgrow_any (n : Nat) (w : World) (hn : n ≤ 100000) :
  Calls Tryz.prog 92 #[.slice none 0 0, .int .i64 (n : Int)] w fun e w' => ∃ v, e = .returned v ∧ w'.ownsRow w.heap.size 5 1 v 0 [] ∧ Gr w w' := by
 by_cases h0 : 0 < n
 ·have hd : decide ((0 : Int) < (n : Int)) = true := by simpa using h0
  go_enter Tryz.func92, Tryz.ntmps92
  go_wp2_with (at_builtin; refine want_append_zeros (by rfl) _ _ rfl w.heap.size (.slice none 0 0) 0 [] rfl (World.ownsRow_nil _ _ _ _) n rfl (by omega) (Nat.le_refl _) ?_; intro v' w' h1 h2; rw [Nat.zero_add] at h1; obtain ⟨o, c, rfl, hf⟩ := own_front h1; have HF := Lib.hid hf; have G := Lib.hid (Gr.append (Gr.refl w) h2 (fun _ h => by cases h)); clear h1 h2 hf)
  go_ret
  exact ⟨_, rfl, HF.out, G.out⟩
 ·obtain rfl : n = 0 := by omega
  go_enter Tryz.func92, Tryz.ntmps92
  go_wp2_with fail
  go_ret
  exact ⟨_, rfl, World.ownsRow_nil _ _ _ _, Gr.refl _⟩
theorem flat_snoc {L : List (List Int)} {i : Nat} (h : i < L.length) : (L.take (i + 1)).flatten = (L.take i).flatten ++ L.getD i [] := by
 rw [List.take_add_one, List.getElem?_eq_getElem h, List.getD_eq_getElem?_getD, List.getElem?_eq_getElem h, List.flatten_append]
 simp
theorem flat_le (L : List (List Int)) (i : Nat) : (L.take i).flatten.length ≤ L.flatten.length := by
 have h : L = L.take i ++ L.drop i := (List.take_append_drop i L).symm
 have h2 : L.flatten = (L.take i).flatten ++ (L.drop i).flatten := by
  conv => lhs; rw [h]
  rw [List.flatten_append]
 rw [h2, List.length_append]
 omega
set_option maxRecDepth 100000 in
set_option maxHeartbeats 3200000 in
theorem dconcat_any (v : Value) (L : List (List Int)) (w : World) (h : Bss w v L) (hl : L.length ≤ 1000) (hf : L.flatten.length ≤ 100000) :
  Calls Tryz.prog 51 #[v] w fun e w' => ∃ u, e = .returned u ∧ New w w' u L.flatten := by
 have HB := Lib.hid h
 obtain ⟨o, c, rfl, h1, h2, h3, h4⟩ := h
 obtain ⟨n, hn⟩ : ∃ n, L.length = n := ⟨_, rfl⟩
 rw [hn] at HB hl ⊢
 have HN := Lib.hid hn
 have HC := Lib.hid h4
 have HO : Hid (o = none → n = 0) := Lib.hid fun e => by have := h3 e; omega
 have HFL := Lib.hid hf
 have HBY : Hid (∀ r ∈ L, ∀ x ∈ r, Byt x) := Lib.hid HB.out.byt
 have ROW : ∀ i, i < n → ∃ a oo m cc, o = some a ∧ w.cell? (a.add i) = some (.slice oo m cc) ∧ Bs w (.slice oo m cc) (L.getD i []) ∧ (L.getD i []).length = m := fun i hi => by
  cases ho : o with
  | none => exact absurd (HO.out ho) (by omega)
  | some a =>
   obtain ⟨u, q1, q2⟩ := HC.out a ho i (by rw [HN.out]; exact hi)
   obtain ⟨oo, cc, rfl⟩ := q2.form
   exact ⟨a, oo, _, cc, rfl, q1, q2, rfl⟩
 have HROW := Lib.hid ROW
 clear h1 h2 h3 h4 hn hf ROW HC HO
 go_enter Tryz.func51, Tryz.ntmps51
 go_wp2_with fail
 go_loopw [3, 11] (fun sv iv W => W = w ∧ ∃ i : Nat, i ≤ n ∧ iv = .int .i64 i ∧ sv = .int .i64 (((L.take i).flatten.length : Nat) : Int)) (fun _ iv _ => n - (intOf iv).toNat)
 case atStart => exact ⟨rfl, 0, by omega, rfl, rfl⟩
 case round =>
  obtain ⟨hw, i, hi, rfl, rfl⟩ := hrel
  subst hw
  obtain ⟨w0, hw0⟩ : ∃ x, x = wr := ⟨_, rfl⟩
  subst hw0
  obtain ⟨s, hs⟩ : ∃ s, (L.take i).flatten.length = s := ⟨_, rfl⟩
  have hs5 : s ≤ 100000 := by rw [← hs]; exact Nat.le_trans (flat_le L i) HFL.out
  rw [hs]
  have HS := Lib.hid hs
  clear hs
  by_cases hlt : i < n
  ·obtain ⟨a, oo, m, cc, rfl, q1, q2, q3⟩ := HROW.out i hlt
   have hst : (L.take (i + 1)).flatten.length = s + m := by rw [flat_snoc (by rw [HN.out]; exact hlt), List.length_append, HS.out, q3]
   have hm5 : s + m ≤ 100000 := by rw [← hst]; exact Nat.le_trans (flat_le L _) HFL.out
   have HST := Lib.hid hst
   clear hst q2 q3
   go_wp2_with fail
   exact ⟨⟨trivial, i + 1, by omega, by go_num, by rw [HST.out]; go_num⟩, by simp [intOf]; omega⟩
  ·obtain rfl : i = n := by omega
   go_wp2_with fail
   refine (dgrow_any s _ hs5).mono ?_
   rintro e w1 ⟨v1, rfl, ho1, hg1⟩
   obtain ⟨o1, c1, rfl⟩ := ownsRow_form'' ho1
   have O1 := Lib.hid ho1
   have G1 := Lib.hid hg1
   clear ho1 hg1
   go_wp2_with fail
   go_loopw [6, 27] (fun sv iv W => ∃ j : Nat, j ≤ i ∧ iv = .int .i64 j ∧ W.ownsRow w0.heap.size 5 1 sv ((L.take j).flatten.length) (((L.take j).flatten).map (Value.int .u8)) ∧ Gr w0 W) (fun _ iv _ => i - (intOf iv).toNat)
   case atStart => exact ⟨0, by omega, rfl, by simpa using O1.out, G1.out⟩
   case round =>
    clear O1 G1
    obtain ⟨wi, hwi⟩ : ∃ x, x = wr := ⟨_, rfl⟩
    subst hwi
    obtain ⟨j, hj, rfl, ho, hg⟩ := hrel
    obtain ⟨t, ht⟩ : ∃ t, (L.take j).flatten.length = t := ⟨_, rfl⟩
    have ht5 : t ≤ 100000 := by rw [← ht]; exact Nat.le_trans (flat_le L j) HFL.out
    rw [ht] at ho
    obtain ⟨o2, c2, rfl⟩ := ownsRow_form'' ho
    have OO := Lib.hid ho
    have GG := Lib.hid hg
    have HT := Lib.hid ht
    clear ho hg ht
    by_cases hlt2 : j < i
    ·obtain ⟨a, oo, m, cc, rfl, q1, q2, q3⟩ := HROW.out j hlt2
     have q1 := cell_gr GG.out q1
     have hst := flat_snoc (L := L) (i := j) (by rw [HN.out]; exact hlt2)
     have hml : t + m ≤ 100000 := by
      have := flat_le L (j + 1)
      rw [hst, List.length_append, HT.out, q3] at this
      exact Nat.le_trans this HFL.out
     have HST := Lib.hid hst
     have Q2 := Lib.hid (q2.grown GG.out)
     have HML : Hid (t + m ≤ 1000000) := Lib.hid (by omega)
     have HLM := Lib.hid q3
     clear hst q2 q3
     go_wp2_with (at_builtin; refine wpList_append_bytes rfl _ _ rfl w0.heap.size (.slice o2 t c2) t ((L.take j).flatten) rfl OO.out oo m cc (L.getD j []) rfl Q2.out HML.out GG.out.size ?_; intro v' w' h1 h2; have O3 := Lib.hid h1; have G3 := Lib.hid (gr_by_own GG.out h2 OO.out (Nat.le_refl _)); clear h1 h2)
     refine ⟨⟨j + 1, by omega, by go_num, ?_, G3.out⟩, by simp [intOf]; omega⟩
     rw [HST.out, List.length_append, HT.out, HLM.out]
     exact O3.out
    ·obtain rfl : j = i := by omega
     go_wp2_with fail
     go_ret
     refine ⟨.slice o2 t c2, rfl, ?_⟩
     have e : L.take j = L := List.take_of_length_le (by rw [HN.out]; exact Nat.le_refl _)
     have h5 := OO.out
     have e2 : t = L.flatten.length := by rw [← HT.out, e]
     rw [e] at h5
     rw [e2] at h5 ⊢
     exact New.of_row GG.out (fun x hx => by
       obtain ⟨r, hr, hxr⟩ := List.mem_flatten.1 hx
       exact HBY.out r hr x hxr) h5
end Go.Proofs.YtbbglejdfbkjlaaGreat
