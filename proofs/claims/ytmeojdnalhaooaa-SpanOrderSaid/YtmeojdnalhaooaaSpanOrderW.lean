/-
  Law SpanOrder, walked: rows in whatever order.
-/
import Derived.Test.YtmeojdnalhaooaaSn
import Derived.BigQuiet
namespace Go.Proofs.Ytmeojdnalhaooaa
open Go.RowKit

/-- LL is what was added: the rows of A, some more than once. -/
def Added (LL A : List (List Int)) : Prop := ∀ x, x ∈ LL ↔ x ∈ A
theorem Added.same {LL A : List (List Int)} (h : Added LL A) : L.Same (LL.map vec) (A.map vec) := L.Same.of_mem fun x => by
  constructor
  · intro hx
    obtain ⟨r, hr, rfl⟩ := List.mem_map.1 hx
    exact List.mem_map.2 ⟨r, (h r).1 hr, rfl⟩
  · intro hx
    obtain ⟨r, hr, rfl⟩ := List.mem_map.1 hx
    exact List.mem_map.2 ⟨r, (h r).2 hr, rfl⟩
theorem rk_snoc {N : Nat} {A : List (List Int)} {x : List Int} (hA : Wide N A) (hx : x.length = N) : (L.Sp (A.map vec) (vec x) → rkL (A ++ [x]) = rkL A) ∧ (¬ L.Sp (A.map vec) (vec x) → rkL (A ++ [x]) = rkL A + 1) := by
  have hs : L.Same ((A ++ [x]).map vec) (vec x :: A.map vec) := L.Same.of_mem fun y => by
    rw [List.map_append, List.mem_append, List.mem_cons]
    simp only [List.map_cons, List.map_nil, List.mem_singleton]
    exact Or.comm
  have := L.rk_cons hA.supp (vec_supp hx : L.Supp N (vec x))
  unfold rkL
  rw [L.rk_same hs]
  exact this
set_option maxRecDepth 100000 in
set_option maxHeartbeats 3200000 in
theorem spanOrder_walk {At : World → Value → Value → (Nat → Prop) → Nat → List (List Int) → Prop} (R : MatOk) (O : SpanOk At) (vl : Value) (l : List Int) (n turn : Int) (w : World) (hl : Bs w vl l) :
    Calls Try.prog 5 #[vl, .int .i64 n, .int .i64 turn] w fun e w' => e = .returned (.bool true) ∧ Gr w w' := by
  obtain ⟨i0, hi0, hz0, hz1, hz2⟩ := info_parts info22
  have I0 := Lib.hid hi0
  have I1 := Lib.hid hz0
  have I2 := Lib.hid hz1
  have I3 := Lib.hid hz2
  clear hi0 hz0 hz1 hz2
  have H := Lib.hid R
  have HL := Lib.hid hl
  have HS := Lib.hid O
  clear R O hl
  obtain ⟨p, hp, hp2⟩ : ∃ p : Nat, n % 10 = p ∧ p < 10 := ⟨(n % 10).toNat, by omega, by omega⟩
  have HP := Lib.hid hp
  clear hp
  go_enter Try.func5, Try.ntmps5
  go_wp2_with fail
  refine (within_any n 10 (by omega) (by omega) _).mono ?_
  rintro e w' ⟨rfl, rfl⟩
  rw [HP.out]
  go_wp2_with fail
  refine (cut_any vl l 120 w HL.out (by omega)).mono ?_
  rintro e w' ⟨v1, rfl, hv1, rfl⟩
  have hlen1 : (l.take 120).length ≤ 120 := by simp; omega
  generalize l.take 120 = l1 at *
  have V1 := Lib.hid hv1
  clear hv1
  go_wp2_with fail
  obtain ⟨N, hN, hN1, hN2⟩ : ∃ N : Nat, (1 : Int) + p = N ∧ 1 ≤ N ∧ N ≤ 10 := ⟨1 + p, by omega, by omega, by omega⟩
  rw [hN]
  have HN := Lib.hid hN
  clear hN
  refine (even_any v1 N l1 _ V1.out hN1 (by omega) (by omega)).mono ?_
  rintro e w1 ⟨va, rfl, ha, hg1⟩
  have WA := Lib.hid (even_wide (Bs.byt' V1.out) hN1 : Wide N (evenL N l1))
  have hAl : (evenL N l1).length ≤ 14 := by rw [evenL_length]; exact evenN_le _ _
  generalize evenL N l1 = A at *
  have VA := Lib.hid (Rws.bss ha)
  have G1 := Lib.hid hg1
  clear ha hg1
  go_wp2_with fail
  refine (new_st _).mono ?_
  rintro e w3 ⟨b, rfl, hs⟩
  have F3 := Lib.hid hs.2
  have G3 := Lib.hid (Gr.trans G1.out hs.1)
  have VA3 := Lib.hid (Bss.grown VA.out hs.1)
  have hMA := Lib.hid (Wide.may WA.out (by omega))
  clear hs G1 VA V1 HL HP HN
  go_wp2_with fail
  obtain ⟨oa, ca, rfl, a1, a2, a3, a4⟩ := VA3.out
  generalize hm : A.length = m at *
  have HM := Lib.hid hm
  have HA := Lib.hid a4
  have HAN : Hid (oa = none → m = 0 ∧ ca = 0) := Lib.hid (fun h => ⟨by have := a3 h; omega, a3 h⟩)
  clear a2 a3 a4 hm
  refine (HS.out.new _ N _ F3.out (by omega)).mono ?_
  rintro e w4 ⟨s, F, rfl, ha, hg, hF⟩
  obtain ⟨asp, rfl⟩ := HS.out.ptr ha
  have S4 : Hid (Sn At w3 w4 (.pointer (some ⟨b, 0, none⟩)) (.pointer (some asp)) F N []) := Lib.hid ⟨ha, hF, hg, F3.out⟩
  clear ha hg hF
  go_wp2_with fail
  refine (HS.out.new _ N _ S4.out.fld (by omega)).mono ?_
  rintro e w5 ⟨t, F', rfl, ha, hg, hF⟩
  obtain ⟨at', rfl⟩ := HS.out.ptr ha
  have S5 := Lib.hid (S4.out.grown HS.out hg)
  have T5 : Hid (Sn At w3 w5 (.pointer (some ⟨b, 0, none⟩)) (.pointer (some at')) F' N []) := Lib.hid ⟨ha, fun k hk => Nat.le_trans S4.out.2.2.1.size (hF k hk), Gr.trans S4.out.2.2.1 hg, F3.out⟩
  have HFF : Hid (∀ k, F k → ¬ F' k) := Lib.hid (fun k h1 h2 => by
    have := HS.out.lt S4.out.1 k h1
    have := hF k h2
    omega)
  have HTL : Hid (∀ k, F' k → k < w5.heap.size) := Lib.hid (HS.out.lt ha)
  clear ha hg hF S4
  go_wp2_with fail
  refine (within_any turn ((m : Int) + 1) (by omega) (by omega) _).mono ?_
  rintro e w' ⟨rfl, rfl⟩
  obtain ⟨k, hk, hk2⟩ : ∃ k : Nat, turn % ((m : Int) + 1) = k ∧ k ≤ m := ⟨(turn % ((m : Int) + 1)).toNat, by have := Int.emod_nonneg turn (by omega : (m : Int) + 1 ≠ 0); omega, by have := Int.emod_lt_of_pos turn (by omega : 0 < (m : Int) + 1); have := Int.emod_nonneg turn (by omega : (m : Int) + 1 ≠ 0); omega⟩
  rw [hk]
  clear hk
  go_wp2
  go_loopw [12, 44] (fun c i wr => ∃ (ii cnt : Nat) (G : Nat → Prop) (LL : List (List Int)), ii ≤ m ∧ i = .int .i64 ii ∧ c = .int .i64 cnt ∧ cnt = rkL (A.take ii) ∧ LL.length = 2 * ii ∧ Added LL (A.take ii) ∧ Sn At w3 wr (.pointer (some ⟨b, 0, none⟩)) (.pointer (some asp)) G N LL ∧ Sn At w3 wr (.pointer (some ⟨b, 0, none⟩)) (.pointer (some at')) F' N [] ∧ (∀ k, G k → ¬ F' k) ∧ w5.heap.size ≤ wr.heap.size) (fun _ i _ => m - (intOf i).toNat)
  case atStart => exact ⟨0, 0, F, [], by omega, rfl, rfl, rkL_nil.symm, rfl, fun x => Iff.rfl, S5.out, T5.out, HFF.out, Nat.le_refl _⟩
  case round =>
    clear S5 T5 HFF
    obtain ⟨wo, hwo⟩ : ∃ x, x = wr := ⟨_, rfl⟩
    subst hwo
    obtain ⟨ii, cnt, G, LL, hii, rfl, rfl, hcnt, hll, hadd, hs, ht, hdis, hsz⟩ := hrel
    have HSP := Lib.hid hs
    have HTP := Lib.hid ht
    have HCNT := Lib.hid hcnt
    have HLL := Lib.hid hll
    have HADD := Lib.hid hadd
    have HDIS := Lib.hid hdis
    clear hs ht hcnt hll hadd hdis
    by_cases hlt : ii < m
    · obtain ⟨aa, rfl⟩ : ∃ aa, oa = some aa := by
        cases oa with
        | none => exact absurd (HAN.out rfl).1 (by omega)
        | some aa => exact ⟨aa, rfl⟩
      obtain ⟨u, q0, hu⟩ := HA.out aa rfl ii hlt
      have q1 := cell_grown HSP.out.2.2.1 q0
      obtain ⟨wl, wb⟩ := WA.out.at ii (by rw [HM.out]; exact hlt)
      have htk : A.take (ii + 1) = A.take ii ++ [A.getD ii []] := by
        rw [List.take_add_one, List.getD_eq_getElem?_getD, List.getElem?_eq_getElem (by rw [HM.out]; exact hlt)]
        rfl
      have HTK := Lib.hid htk
      have HU := Lib.hid hu
      have HWL := Lib.hid wl
      obtain ⟨ou, cu, rfl⟩ := hu.form
      have HAW := Lib.hid (HSP.out.away hu)
      rw [wl] at q1 HU HAW
      have hrk : (L.Sp (LL.map vec) (vec (A.getD ii [])) → rkL (A.take (ii + 1)) = cnt) ∧ (¬ L.Sp (LL.map vec) (vec (A.getD ii [])) → rkL (A.take (ii + 1)) = cnt + 1) := by
        have h1 := rk_snoc (WA.out.take ii) wl
        have h2 := HADD.out.same (vec (A.getD ii []))
        rw [← htk, ← HCNT.out] at h1
        exact ⟨fun h => h1.1 (h2.1 h), fun h => h1.2 (fun c => h (h2.2 c))⟩
      have HRK := Lib.hid hrk
      have HADD2 : Hid (Added (LL ++ [A.getD ii []] ++ [A.getD ii []]) (A.take (ii + 1))) := Lib.hid (fun x => by
        rw [htk]
        simp only [List.mem_append, List.mem_singleton]
        rw [HADD.out x]
        constructor
        · rintro ((h | h) | h)
          · exact .inl h
          · exact .inr h
          · exact .inr h
        · rintro (h | h)
          · exact .inl (.inl h)
          · exact .inr h)
      clear wl wb q0 hu htk hrk
      generalize A.getD ii [] = x at *
      go_wp2_with fail
      refine (HS.out.add _ _ _ G N LL x _ HSP.out.fld HSP.out.1 (by rw [HLL.out]; omega) (Bs.grown HU.out HSP.out.2.2.1) HAW.out HWL.out).mono ?_
      rintro e w6 ⟨b1, G6, rfl, hb1, ha, hkp, hG6⟩
      have S6 := Lib.hid (HSP.out.step ha hkp hG6)
      have T6 := Lib.hid (HTP.out.other HS.out hkp HSP.out.2.1 (fun k h1 h2 => HDIS.out k h2 h1))
      have HD6 : Hid (∀ k, G6 k → ¬ F' k) := Lib.hid (fun k h1 h2 => by
        rcases hG6 k h1 with c | c
        · exact HDIS.out k c h2
        · have := HTL.out k h2
          omega)
      have hsz6 : w5.heap.size ≤ w6.heap.size := Nat.le_trans hsz hkp.size
      have HAW6 : Hid (Away G6 (.slice ou N cu)) := Lib.hid (S6.out.away HU.out)
      have HC1 : Hid (rkL (A.take (ii + 1)) = cnt + (if b1 then 1 else 0)) := Lib.hid (by
        cases b1 with
        | true => exact HRK.out.2 (hb1.1 rfl)
        | false => exact HRK.out.1 (Classical.byContradiction fun c => by
            have := hb1.2 c
            cases this))
      clear ha hkp hG6 hb1
      have HRL : Hid (rkL (LL ++ [x] ++ [x]) = rkL (A.take (ii + 1))) := Lib.hid (L.rk_same HADD2.out.same)
      have hcm : cnt ≤ 14 := by
        have h1 := rkL_le_rows (WA.out.take ii)
        rw [← HCNT.out, List.length_take, HM.out] at h1
        omega
      cases b1 with
      | true =>
        have hv : rkL (LL ++ [x] ++ [x]) = cnt + 1 := by rw [HRL.out, HC1.out]; rfl
        have hv2 : cnt + 1 = rkL (A.take (ii + 1)) := by rw [HC1.out]; rfl
        have HV2 := Lib.hid hv2
        have HV := Lib.hid hv
        clear hv hv2 HC1
        go_wp2_with fail
        refine (HS.out.add _ _ _ G6 N (LL ++ [x]) x _ S6.out.fld S6.out.1 (by rw [List.length_append, HLL.out]; simp; omega) (Bs.grown HU.out S6.out.2.2.1) HAW6.out HWL.out).mono ?_
        rintro e w7 ⟨b2, G7, rfl, hb2, ha, hkp, hG7⟩
        have hb3 : b2 = false := by
          cases b2 with
          | false => rfl
          | true => exact absurd (L.Sp.mem (by simp)) (hb2.1 rfl)
        rw [hb3]
        have S7 := Lib.hid (S6.out.step ha hkp hG7)
        have T7 := Lib.hid (T6.out.other HS.out hkp S6.out.2.1 (fun k h1 h2 => HD6.out k h2 h1))
        have HD7 : Hid (∀ k, G7 k → ¬ F' k) := Lib.hid (fun k h1 h2 => by
          rcases hG7 k h1 with c | c
          · exact HD6.out k c h2
          · have := HTL.out k h2
            omega)
        have hsz7 : w5.heap.size ≤ w7.heap.size := Nat.le_trans hsz6 hkp.size
        clear ha hkp hG7 hb2 hb3
        go_wp2_with fail
        refine (HS.out.rank _ _ G7 N (LL ++ [x] ++ [x]) _ S7.out.fld S7.out.1 (by simp [HLL.out]; omega)).mono ?_
        rintro e w8 ⟨rfl, hg8⟩
        rw [HV.out]
        have S8 := Lib.hid (S7.out.grown HS.out hg8)
        have T8 := Lib.hid (T7.out.grown HS.out hg8)
        have hsz8 : w5.heap.size ≤ w8.heap.size := Nat.le_trans hsz7 hg8.size
        clear hg8
        go_wp2
        exact ⟨⟨ii + 1, cnt + 1, G7, LL ++ [x] ++ [x], by omega, by go_num, by go_num, HV2.out, by simp [HLL.out]; omega, HADD2.out, S8.out, T8.out, HD7.out, hsz8⟩, by simp [intOf]; omega⟩
      | false =>
        have hv : rkL (LL ++ [x] ++ [x]) = cnt := by rw [HRL.out, HC1.out]; rfl
        have hv2 : cnt = rkL (A.take (ii + 1)) := by rw [HC1.out]; rfl
        have HV2 := Lib.hid hv2
        have HV := Lib.hid hv
        clear hv hv2 HC1
        go_wp2_with fail
        refine (HS.out.add _ _ _ G6 N (LL ++ [x]) x _ S6.out.fld S6.out.1 (by rw [List.length_append, HLL.out]; simp; omega) (Bs.grown HU.out S6.out.2.2.1) HAW6.out HWL.out).mono ?_
        rintro e w7 ⟨b2, G7, rfl, hb2, ha, hkp, hG7⟩
        have hb3 : b2 = false := by
          cases b2 with
          | false => rfl
          | true => exact absurd (L.Sp.mem (by simp)) (hb2.1 rfl)
        rw [hb3]
        have S7 := Lib.hid (S6.out.step ha hkp hG7)
        have T7 := Lib.hid (T6.out.other HS.out hkp S6.out.2.1 (fun k h1 h2 => HD6.out k h2 h1))
        have HD7 : Hid (∀ k, G7 k → ¬ F' k) := Lib.hid (fun k h1 h2 => by
          rcases hG7 k h1 with c | c
          · exact HD6.out k c h2
          · have := HTL.out k h2
            omega)
        have hsz7 : w5.heap.size ≤ w7.heap.size := Nat.le_trans hsz6 hkp.size
        clear ha hkp hG7 hb2 hb3
        go_wp2_with fail
        refine (HS.out.rank _ _ G7 N (LL ++ [x] ++ [x]) _ S7.out.fld S7.out.1 (by simp [HLL.out]; omega)).mono ?_
        rintro e w8 ⟨rfl, hg8⟩
        rw [HV.out]
        have S8 := Lib.hid (S7.out.grown HS.out hg8)
        have T8 := Lib.hid (T7.out.grown HS.out hg8)
        have hsz8 : w5.heap.size ≤ w8.heap.size := Nat.le_trans hsz7 hg8.size
        clear hg8
        go_wp2
        exact ⟨⟨ii + 1, cnt, G7, LL ++ [x] ++ [x], by omega, by go_num, rfl, HV2.out, by simp [HLL.out]; omega, HADD2.out, S8.out, T8.out, HD7.out, hsz8⟩, by simp [intOf]; omega⟩
    · obtain rfl : m = ii := by omega
      rw [List.take_of_length_le (by rw [HM.out]; omega)] at HADD HCNT
      rcases oa with _ | aa
      · have HLA : Hid (A.length ≤ 1000) := Lib.hid (by rw [HM.out]; omega)
        obtain ⟨rfl, rfl⟩ := HAN.out rfl
        obtain rfl : k = 0 := by omega
        have hA0 : A = [] := List.eq_nil_of_length_eq_zero HM.out
        have HUSE := Lib.hid trivial
        go_wp2_with (first
          | (at_builtin; refine wpList_append_in rfl _ _ _ rfl wo.heap.size 23 i0 _ 24 Try.underlying22 I0.out I1.out I2.out I3.out rfl (.slice none 0 0) 0 [] rfl (World.ownsRow_nil _ _ _ _) none 0 0 [] rfl (fun _ => ⟨rfl, rfl⟩) rfl (fun _ h => by cases h) (by simp) (by unfold maxLen; omega) (by omega) (Nat.le_refl _) ?_; intro v5 w5' hown5 hgrow5)
          | (at_builtin; refine wpList_append_in rfl _ _ _ rfl wo.heap.size 23 i0 _ 24 Try.underlying22 I0.out I1.out I2.out I3.out rfl v5 (0 + 0) ([] ++ []) rfl hown5 none 0 0 [] rfl (fun _ => ⟨rfl, rfl⟩) rfl (fun _ h => by cases h) (by simp) (by unfold maxLen; omega) (by omega) hgrow5.size ?_; intro v6 w6 hown6 hgrow6; obtain ⟨o6, c6, rfl⟩ := ownsRow_form hown6))
        obtain ⟨B, hB⟩ : ∃ B : List (List Int), B = [] := ⟨_, rfl⟩
        have HBL : Hid (B.length = 0) := Lib.hid (by rw [hB]; rfl)
        have HBA : Hid (Added B A) := Lib.hid (fun x => by rw [hB, hA0])
        have WB : Hid (Wide N B) := Lib.hid (by rw [hB]; exact Wide.nil _)
        have HBR : Hid (∀ i, i < B.length → Bs w3 (([] : List Value).getD i undef) (B.getD i [])) := Lib.hid (fun i hi => by rw [hB] at hi; simp at hi)
        have hnb : 0 ≤ 28 := by omega
        clear hB hA0
        rw [List.nil_append, List.nil_append] at hown6
        have hg5 : Gr wo w5' := Gr.append (Gr.refl wo) hgrow5 (fun _ h => by cases h)
        have hg6 : Gr wo w6 := Gr.append hg5 hgrow6 (ownsRow_base hown5)
        have S6 := Lib.hid (HSP.out.grown HS.out hg6)
        have T6 := Lib.hid (HTP.out.grown HS.out hg6)
        have HNF : Hid (∀ g, (Value.slice o6 0 c6).ownBlock = some g → ¬ F' g) := Lib.hid (fun g hg e => by
          have h1 := ownsRow_base hown6 g hg
          have h2 := HTL.out g e
          omega)
        have HO6 := Lib.hid hown6
        have HGL : Hid (∀ k, G k → k < w6.heap.size) := Lib.hid (HS.out.lt S6.out.1)
        have HOL : Hid (∀ g, (Value.slice o6 0 c6).ownBlock = some g → g < w6.heap.size) := Lib.hid (ownsRow_lt hown6)
        clear hg5 hg6 hown5 hown6 hgrow5 hgrow6 HSP HTP HUSE
        go_loopw [70] (fun i wr => ∃ (jj : Nat) (F2 : Nat → Prop) (L2 : List (List Int)), jj ≤ 0 ∧ i = .int .i64 jj ∧ L2.length = jj ∧ Added L2 (B.take jj) ∧ Sn At w3 wr (.pointer (some ⟨b, 0, none⟩)) (.pointer (some at')) F2 N L2 ∧ Sn At w3 wr (.pointer (some ⟨b, 0, none⟩)) (.pointer (some asp)) G N LL ∧ (∀ k, G k → ¬ F2 k) ∧ (∀ g, (Value.slice o6 0 c6).ownBlock = some g → ¬ F2 g) ∧ wr.ownsRow wo.heap.size 23 1 (.slice o6 0 c6) 0 [] ∧ w6.heap.size ≤ wr.heap.size) (fun i _ => 0 - (intOf i).toNat)
        case atStart => exact ⟨0, F', [], by omega, rfl, rfl, fun x => Iff.rfl, T6.out, S6.out, HDIS.out, HNF.out, HO6.out, Nat.le_refl _⟩
        case round =>
          clear S6 T6 HDIS HNF HO6
          obtain ⟨jj, F2, L2, hjj, rfl, hl2, had2, ht, hs, hdis, hnf, hown, hsz2⟩ := hrel
          have HT := Lib.hid ht
          have HSS := Lib.hid hs
          have HL2 := Lib.hid hl2
          have HAD2 := Lib.hid had2
          have HDI := Lib.hid hdis
          have HNF := Lib.hid hnf
          have HOW := Lib.hid hown
          clear ht hs hl2 had2 hdis hnf hown
          by_cases hlt2 : jj < 0
          · exact absurd hlt2 (by omega)
          · obtain rfl : 0 = jj := by omega
            rw [List.take_of_length_le (by rw [HBL.out]; omega)] at HAD2
            have hlen1 : LL.length ≤ 1000 := by rw [HLL.out]; omega
            have hlen2 : L2.length ≤ 1000 := by rw [HL2.out]; omega
            go_wp2_with fail
            refine (HS.out.rows _ _ G N LL _ HSS.out.fld HSS.out.1 hlen1).mono ?_
            rintro e w8 ⟨v8, R8, rfl, hr8, hred8, hg8⟩
            have VR8 := Lib.hid hr8.bss
            have S8 := Lib.hid (HSS.out.grown HS.out hg8)
            have T8 := Lib.hid (HT.out.grown HS.out hg8)
            have RA : Hid (IsRed N A R8) := Lib.hid (hred8.same HADD.out.same)
            clear hr8 hred8 hg8
            go_wp2_with fail
            refine (HS.out.rows _ _ F2 N L2 _ T8.out.fld T8.out.1 hlen2).mono ?_
            rintro e w9 ⟨v9, R9, rfl, hr9, hred9, hg9⟩
            have e9 : R9 = R8 := IsRed.unique ((hred9.same HAD2.out.same).same HBA.out.same) RA.out
            rw [e9] at hr9
            have VR9 := Lib.hid hr9.bss
            have VR8' := Lib.hid (Bss.grown VR8.out hg9)
            have S9 := Lib.hid (S8.out.grown HS.out hg9)
            clear hr9 hred9 hg9 e9
            go_wp2_with fail
            refine (rows_any _ _ _ _ _ VR8'.out VR9.out).mono ?_
            rintro e w10 ⟨rfl, hg10⟩
            rw [show (R8 == R8) = true by simp]
            have S10 := Lib.hid (S9.out.grown HS.out hg10)
            clear hg10
            go_wp2_with fail
            refine (HS.out.rows _ _ G N LL _ S10.out.fld S10.out.1 hlen1).mono ?_
            rintro e w11 ⟨v11, R11, rfl, hr11, hred11, hg11⟩
            have e11 : R11 = R8 := IsRed.unique (hred11.same HADD.out.same) RA.out
            rw [e11] at hr11
            have VR11 := Lib.hid hr11.bss
            have S11 := Lib.hid (S10.out.grown HS.out hg11)
            clear hr11 hred11 hg11 e11
            go_wp2_with fail
            refine (H.out.reduce _ _ A _ S11.out.fld (Bss.grown VA3.out S11.out.2.2.1) HLA.out hMA.out).mono ?_
            rintro e w12 ⟨v12, R12, rfl, hr12, hg12, hred12⟩
            have e12 : R12 = R8 := IsRed.at_width WA.out RA.out hred12
            rw [e12] at hr12
            have VR12 := Lib.hid hr12
            have VR11' := Lib.hid (Bss.grown VR11.out hg12)
            have G12 := Lib.hid (Gr.trans S11.out.2.2.1 hg12)
            clear hr12 hred12 hg12 e12
            go_wp2_with fail
            refine (rows_any _ _ _ _ _ VR11'.out VR12.out).mono ?_
            rintro e w13 ⟨rfl, hg13⟩
            rw [show (R8 == R8) = true by simp]
            have G13 := Lib.hid (Gr.trans G12.out hg13)
            clear hg13
            go_wp2_with fail
            refine (spanWakes_any HS.out _).mono ?_
            rintro e w14 ⟨rfl, hg14⟩
            have G14 := Lib.hid (Gr.trans (Gr.trans G3.out G13.out) hg14)
            clear hg14
            go_wp2_with fail
            go_ret
            exact ⟨rfl, G14.out⟩
      · have HLA : Hid (A.length ≤ 1000) := Lib.hid (by rw [HM.out]; omega)
        have HV3 := VA3.out.vals
        obtain ⟨ua, hua⟩ := HV3
        have HUA := Lib.hid hua
        have HUW := Lib.hid (hua.grown HSP.out.2.2.1)
        have HUD := Lib.hid ((hua.grown HSP.out.2.2.1).drop (k := k) (ca := ca) (by rw [HM.out]; omega) (by rw [HM.out]; omega))
        have HUD3 := Lib.hid (hua.drop (k := k) (ca := ca) (by rw [HM.out]; omega) (by rw [HM.out]; omega))
        have hkca : k ≤ ca := by omega
        have hdl : (A.drop k).length = m - k := by rw [List.length_drop, HM.out]
        have HDL := Lib.hid hdl
        have HUSE := Lib.hid trivial
        clear hua hdl
        go_wp2_with (first
          | (at_builtin; refine wpList_append_in rfl _ _ _ rfl wo.heap.size 23 i0 _ 24 Try.underlying22 I0.out I1.out I2.out I3.out rfl (.slice none 0 0) 0 [] rfl (World.ownsRow_nil _ _ _ _) (if ca = k then some aa else some (aa.add k)) (m - k) (ca - k) (ua.drop k) rfl (fun h => by split at h <;> cases h) (by rw [HUD.out.1, HDL.out]) HUD.out.2.1 HUD.out.2.2.2 (by unfold maxLen; omega) (by omega) (Nat.le_refl _) ?_; intro v5 w5' hown5 hgrow5; rw [Nat.zero_add, List.nil_append] at hown5)
          | (at_builtin; refine wpList_append_in rfl _ _ _ rfl wo.heap.size 23 i0 _ 24 Try.underlying22 I0.out I1.out I2.out I3.out rfl v5 (m - k) (ua.drop k) rfl hown5 (some aa) m ca ua rfl (fun h => by cases h) (by rw [HUW.out.1, HM.out]) ((HUW.out.grown (Gr.append (Gr.refl wo) hgrow5 (fun _ h => by cases h))).2.1) HUW.out.2.2.2 (by unfold maxLen; omega) (by omega) hgrow5.size ?_; intro v6 w6 hown6 hgrow6; obtain ⟨o6, c6, rfl⟩ := ownsRow_form hown6; have HBR : Hid (∀ i, i < (A.drop k ++ A).length → Bs w3 ((ua.drop k ++ ua).getD i undef) ((A.drop k ++ A).getD i [])) := Lib.hid (Vals.append HUD3.out HUA.out).2; clear HUD HUD3; generalize (if ca = k then some aa else some (aa.add k)) = od at *))
        have HBL : Hid ((A.drop k ++ A).length = m - k + m) := Lib.hid (by rw [List.length_append, HDL.out, HM.out])
        have HBA : Hid (Added (A.drop k ++ A) A) := Lib.hid (fun x => by
          rw [List.mem_append]
          exact ⟨fun h => h.elim (fun h => List.mem_of_mem_drop h) id, .inr⟩)
        have WB : Hid (Wide N (A.drop k ++ A)) := Lib.hid ((WA.out.drop k).append WA.out)
        have hnb : m - k + m ≤ 28 := by omega
        clear HUA HUW HDL
        rw [show ((m - k : Nat) : Int) + (m : Int) = ((m - k + m : Nat) : Int) by push_cast; rfl]
        generalize A.drop k ++ A = B at *
        generalize ua.drop k ++ ua = usb at *
        generalize m - k + m = nb at *
        have hg5 : Gr wo w5' := Gr.append (Gr.refl wo) hgrow5 (fun _ h => by cases h)
        have hg6 : Gr wo w6 := Gr.append hg5 hgrow6 (ownsRow_base hown5)
        have S6 := Lib.hid (HSP.out.grown HS.out hg6)
        have T6 := Lib.hid (HTP.out.grown HS.out hg6)
        have HNF : Hid (∀ g, (Value.slice o6 nb c6).ownBlock = some g → ¬ F' g) := Lib.hid (fun g hg e => by
          have h1 := ownsRow_base hown6 g hg
          have h2 := HTL.out g e
          omega)
        have HO6 := Lib.hid hown6
        have HGL : Hid (∀ k, G k → k < w6.heap.size) := Lib.hid (HS.out.lt S6.out.1)
        have HOL : Hid (∀ g, (Value.slice o6 nb c6).ownBlock = some g → g < w6.heap.size) := Lib.hid (ownsRow_lt hown6)
        clear hg5 hg6 hown5 hown6 hgrow5 hgrow6 HSP HTP HUSE
        go_loopw [70] (fun i wr => ∃ (jj : Nat) (F2 : Nat → Prop) (L2 : List (List Int)), jj ≤ nb ∧ i = .int .i64 jj ∧ L2.length = jj ∧ Added L2 (B.take jj) ∧ Sn At w3 wr (.pointer (some ⟨b, 0, none⟩)) (.pointer (some at')) F2 N L2 ∧ Sn At w3 wr (.pointer (some ⟨b, 0, none⟩)) (.pointer (some asp)) G N LL ∧ (∀ k, G k → ¬ F2 k) ∧ (∀ g, (Value.slice o6 nb c6).ownBlock = some g → ¬ F2 g) ∧ wr.ownsRow wo.heap.size 23 1 (.slice o6 nb c6) nb usb ∧ w6.heap.size ≤ wr.heap.size) (fun i _ => nb - (intOf i).toNat)
        case atStart => exact ⟨0, F', [], by omega, rfl, rfl, fun x => Iff.rfl, T6.out, S6.out, HDIS.out, HNF.out, HO6.out, Nat.le_refl _⟩
        case round =>
          clear S6 T6 HDIS HNF HO6
          obtain ⟨jj, F2, L2, hjj, rfl, hl2, had2, ht, hs, hdis, hnf, hown, hsz2⟩ := hrel
          have HT := Lib.hid ht
          have HSS := Lib.hid hs
          have HL2 := Lib.hid hl2
          have HAD2 := Lib.hid had2
          have HDI := Lib.hid hdis
          have HNF := Lib.hid hnf
          have HOW := Lib.hid hown
          clear ht hs hl2 had2 hdis hnf hown
          by_cases hlt2 : jj < nb
          · obtain ⟨g6, cc, he, hc1, hc2, hc3, hc4, hc5⟩ := ownsRow_cell HOW.out (by omega)
            cases he
            have hu := HBR.out jj (by rw [HBL.out]; exact hlt2)
            obtain ⟨wl, wb⟩ := WB.out.at jj (by rw [HBL.out]; exact hlt2)
            have q1 := hc5 jj hlt2
            have htk : B.take (jj + 1) = B.take jj ++ [B.getD jj []] := by
              rw [List.take_add_one, List.getD_eq_getElem?_getD, List.getElem?_eq_getElem (by rw [HBL.out]; exact hlt2)]
              rfl
            have HADJ : Hid (Added (L2 ++ [B.getD jj []]) (B.take (jj + 1))) := Lib.hid (fun x => by
              rw [htk, List.mem_append, List.mem_append, HAD2.out x])
            obtain ⟨ou, cu, hform⟩ := hu.form
            rw [hform] at hu q1
            have HAW := Lib.hid (HT.out.away hu)
            rw [wl] at q1 hu HAW
            have HU := Lib.hid hu
            have HWL := Lib.hid wl
            clear hu wl wb htk hform hc1 hc2 hc3 hc4 hc5
            generalize B.getD jj [] = x at *
            go_wp2_with fail
            refine (HS.out.add _ _ _ F2 N L2 x _ HT.out.fld HT.out.1 (by rw [HL2.out]; omega) (Bs.grown HU.out HT.out.2.2.1) HAW.out HWL.out).mono ?_
            rintro e w7 ⟨b2, F7, rfl, hb2, ha, hkp, hF7⟩
            have T7 := Lib.hid (HT.out.step ha hkp hF7)
            have S7 := Lib.hid (HSS.out.other HS.out hkp HT.out.2.1 HDI.out)
            have HD7 : Hid (∀ k, G k → ¬ F7 k) := Lib.hid (fun k h1 h2 => by
              rcases hF7 k h2 with c | c
              · exact HDI.out k h1 c
              · have := HGL.out k h1
                omega)
            have HN7 : Hid (∀ g, (Value.slice (some ⟨g6, 0, none⟩) nb c6).ownBlock = some g → ¬ F7 g) := Lib.hid (fun g h1 h2 => by
              rcases hF7 g h2 with c | c
              · exact HNF.out g h1 c
              · have := HOL.out g h1
                omega)
            have HO7 := Lib.hid (ownsRow_kn HOW.out hkp HNF.out)
            have hsz7 : w6.heap.size ≤ w7.heap.size := Nat.le_trans hsz2 hkp.size
            clear ha hkp hF7 hb2
            go_wp2
            exact ⟨⟨jj + 1, F7, L2 ++ [x], by omega, by go_num, by rw [List.length_append, HL2.out]; rfl, HADJ.out, T7.out, S7.out, HD7.out, HN7.out, HO7.out, hsz7⟩, by simp [intOf]; omega⟩
          · obtain rfl : nb = jj := by omega
            rw [List.take_of_length_le (by rw [HBL.out]; omega)] at HAD2
            have hlen1 : LL.length ≤ 1000 := by rw [HLL.out]; omega
            have hlen2 : L2.length ≤ 1000 := by rw [HL2.out]; omega
            go_wp2_with fail
            refine (HS.out.rows _ _ G N LL _ HSS.out.fld HSS.out.1 hlen1).mono ?_
            rintro e w8 ⟨v8, R8, rfl, hr8, hred8, hg8⟩
            have VR8 := Lib.hid hr8.bss
            have S8 := Lib.hid (HSS.out.grown HS.out hg8)
            have T8 := Lib.hid (HT.out.grown HS.out hg8)
            have RA : Hid (IsRed N A R8) := Lib.hid (hred8.same HADD.out.same)
            clear hr8 hred8 hg8
            go_wp2_with fail
            refine (HS.out.rows _ _ F2 N L2 _ T8.out.fld T8.out.1 hlen2).mono ?_
            rintro e w9 ⟨v9, R9, rfl, hr9, hred9, hg9⟩
            have e9 : R9 = R8 := IsRed.unique ((hred9.same HAD2.out.same).same HBA.out.same) RA.out
            rw [e9] at hr9
            have VR9 := Lib.hid hr9.bss
            have VR8' := Lib.hid (Bss.grown VR8.out hg9)
            have S9 := Lib.hid (S8.out.grown HS.out hg9)
            clear hr9 hred9 hg9 e9
            go_wp2_with fail
            refine (rows_any _ _ _ _ _ VR8'.out VR9.out).mono ?_
            rintro e w10 ⟨rfl, hg10⟩
            rw [show (R8 == R8) = true by simp]
            have S10 := Lib.hid (S9.out.grown HS.out hg10)
            clear hg10
            go_wp2_with fail
            refine (HS.out.rows _ _ G N LL _ S10.out.fld S10.out.1 hlen1).mono ?_
            rintro e w11 ⟨v11, R11, rfl, hr11, hred11, hg11⟩
            have e11 : R11 = R8 := IsRed.unique (hred11.same HADD.out.same) RA.out
            rw [e11] at hr11
            have VR11 := Lib.hid hr11.bss
            have S11 := Lib.hid (S10.out.grown HS.out hg11)
            clear hr11 hred11 hg11 e11
            go_wp2_with fail
            refine (H.out.reduce _ _ A _ S11.out.fld (Bss.grown VA3.out S11.out.2.2.1) HLA.out hMA.out).mono ?_
            rintro e w12 ⟨v12, R12, rfl, hr12, hg12, hred12⟩
            have e12 : R12 = R8 := IsRed.at_width WA.out RA.out hred12
            rw [e12] at hr12
            have VR12 := Lib.hid hr12
            have VR11' := Lib.hid (Bss.grown VR11.out hg12)
            have G12 := Lib.hid (Gr.trans S11.out.2.2.1 hg12)
            clear hr12 hred12 hg12 e12
            go_wp2_with fail
            refine (rows_any _ _ _ _ _ VR11'.out VR12.out).mono ?_
            rintro e w13 ⟨rfl, hg13⟩
            rw [show (R8 == R8) = true by simp]
            have G13 := Lib.hid (Gr.trans G12.out hg13)
            clear hg13
            go_wp2_with fail
            refine (spanWakes_any HS.out _).mono ?_
            rintro e w14 ⟨rfl, hg14⟩
            have G14 := Lib.hid (Gr.trans (Gr.trans G3.out G13.out) hg14)
            clear hg14
            go_wp2_with fail
            go_ret
            exact ⟨rfl, G14.out⟩
end Go.Proofs.Ytmeojdnalhaooaa
