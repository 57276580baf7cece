/-
  Texts laid behind one another: Sv.
-/
import Derived.Test.YtbbglejdfbkjlaaGreatMpag
import Derived.Test.YtbbglejdfbkjlaaGreatMpae
import Derived.Test.YtbbglejdfbkjlaaGreatMpah
import Derived.Test.YtbbglejdfbkjlaaGreatMpaf
import Derived.BigRegion
import Derived.Deep.RegionLaw
import Derived.Deep.DeepCutAuto
import Derived.Deep.RegionHeld3
namespace Go.Proofs.YtbbglejdfbkjlaaGreat
open Go.RowKit
set_option maxRecDepth 100000 in
set_option maxHeartbeats 6400000 in
theorem refSolve_any (va vb : Value) (A B : List (List Int)) (w : World) (ha : Bss w va A) (hb : Bss w vb B) (hl : A.length ≤ 1000) (hlb : B.length = A.length) (hma : mayL A = true) (hmb : mayL B = true) (hn1 : A ≠ [] → 1 ≤ wd A) :
  Calls Tryz.prog 41 #[va, vb] w fun e w' => ∃ v n S, e = .returned (.tuple #[v, .int .i64 n]) ∧ Bss w' v S ∧ Gr w w' ∧ SolSays A B n S := by
 have WA := Lib.hid (Wide.of_bss ha hma)
 have WB := Lib.hid (Wide.of_bss hb hmb)
 have HS := Lib.hid ha
 have HSB := Lib.hid hb
 have HMA := Lib.hid hma
 have HMB := Lib.hid hmb
 obtain ⟨oa, ca, rfl, a1, a2, a3, a4⟩ := ha
 obtain ⟨ob, cb, rfl, b1, b2, b3, b4⟩ := hb
 rw [hlb] at HSB b1 b4 ⊢
 have HLB := Lib.hid hlb
 have HA := Lib.hid a4
 have HB := Lib.hid b4
 clear a4 b4 hma hmb hlb
 by_cases h0 : A = []
 ·subst h0
  have e0 : ([] : List (List Int)).length = 0 := rfl
  rw [e0] at HSB a1 b1 HS ⊢
  clear HA HB hn1
  go_enter Tryz.func41, Tryz.ntmps41
  go_wp2_with fail
  refine (mayMat_any _ [] w HS.out (by simp)).mono ?_
  rintro e w1 ⟨rfl, hg1⟩
  rw [show mayL [] = true from rfl]
  have G1 := Lib.hid hg1
  clear hg1
  go_wp2_with fail
  refine (mayMat_any _ B w1 (Bss.grown HSB.out G1.out) (by rw [HLB.out]; simp)).mono ?_
  rintro e w2 ⟨rfl, hg2⟩
  rw [HMB.out]
  have G2 := Lib.hid hg2
  clear hg2
  go_wp2_with fail
  go_ret2
  exact ⟨_, _, [], rfl, Bss.nil _, Gr.trans G1.out G2.out, .inl ⟨rfl, rfl, rfl⟩⟩
 ·have hk1 := hn1 h0
  have hlp : 0 < A.length := List.length_pos_iff.2 h0
  have hkl : wd A ≤ 64 := (mayL_at HMA.out 0 hlp).2
  have HA0 := Lib.hid h0
  generalize hk : wd A = k at *
  have HK := Lib.hid hk
  generalize hm : wd B = m at *
  have HMW := Lib.hid hm
  have hml : m ≤ 64 := by rw [← hm]; exact (mayL_at HMB.out 0 (by rw [HLB.out]; exact hlp)).2
  generalize hn : A.length = n at *
  have HN := Lib.hid hn
  obtain ⟨aa, rfl⟩ : ∃ aa, oa = some aa := by
   cases oa with
   | none => exact absurd (a3 rfl) (by omega)
   | some aa => exact ⟨aa, rfl⟩
  obtain ⟨ab, rfl⟩ : ∃ ab, ob = some ab := by
   cases ob with
   | none => exact absurd (b3 rfl) (by omega)
   | some ab => exact ⟨ab, rfl⟩
  have hc0 : ((n : Int) == 0) = false := by simp; omega
  obtain ⟨i0, hi0, hz0, hz1, hz2⟩ := info_parts info22
  have I0 := Lib.hid hi0
  have I1 := Lib.hid hz0
  have I2 := Lib.hid hz1
  have I3 := Lib.hid hz2
  clear hi0 hz0 hz1 hz2
  obtain ⟨i5, hi0, hz0, hz1, hz2⟩ := info_parts infoB
  have J0 := Lib.hid hi0
  have J1 := Lib.hid hz0
  have J2 := Lib.hid hz1
  have J3 := Lib.hid hz2
  clear hi0 hz0 hz1 hz2
  clear h0 hn1 a3 b3 hk hm hn
  go_enter Tryz.func41, Tryz.ntmps41
  go_wp2_with fail
  refine (mayMat_any _ A w HS.out (by rw [HN.out]; omega)).mono ?_
  rintro e w1 ⟨rfl, hg1⟩
  rw [HMA.out]
  have G1 := Lib.hid hg1
  clear hg1
  go_wp2_with fail
  refine (mayMat_any _ B w1 (Bss.grown HSB.out G1.out) (by rw [HLB.out]; omega)).mono ?_
  rintro e w2 ⟨rfl, hg2⟩
  rw [HMB.out]
  have G2 := Lib.hid (Gr.trans G1.out hg2)
  clear hg2
  obtain ⟨u0, q0, hu0⟩ := HA.out aa rfl 0 hlp
  have q1 := cell_grown G2.out q0
  obtain ⟨ou0, cu0, rfl⟩ := hu0.form
  rw [(WA.out.at 0 (by rw [HN.out]; exact hlp)).1] at q1
  have q1 : w2.cell? aa = some (.slice ou0 k cu0) := by rw [add_nought] at q1; exact q1
  clear q0 hu0
  go_wp2_with fail
  refine (refRank_any _ A w2 (Bss.grown HS.out G2.out) (by rw [HN.out]; exact hl) HMA.out).mono ?_
  rintro e w3 ⟨rfl, hg3⟩
  have G3 := Lib.hid (Gr.trans G2.out hg3)
  have hrle : rkL A ≤ k := L.rk_le_cols WA.out.supp
  generalize hρ : rkL A = ρ at *
  have HRK := Lib.hid hρ
  clear hg3 q1 hρ
  by_cases hlow : ρ < k
  ·go_wp2_with fail
   go_ret2
   exact ⟨_, _, [], rfl, Bss.nil _, G3.out, .inr (.inl ⟨HA0.out, by rw [HRK.out, HK.out]; exact hlow, rfl, rfl⟩)⟩
  ·obtain rfl : k = ρ := by omega
   go_wp2
   go_loopw [7, 8, 46] (fun x y i wr => ∃ j : Nat, j ≤ n ∧ i = .int .i64 j ∧ Rws w.heap.size wr x (A.take j) ∧ Rws w.heap.size wr y (B.take j) ∧ Apart2 x y ∧ Gr w wr) (fun _ _ i _ => n - (intOf i).toNat)
   case atStart => exact ⟨0, by omega, rfl, Rws.nil _ _, Rws.nil _ _, (fun g h => by cases h), G3.out⟩
   case round =>
    obtain ⟨j, hj, rfl, hrx, hry, hap, hg⟩ := hrel
    by_cases hlt : j < n
    ·obtain ⟨ua, pa, hua⟩ := HA.out aa rfl j hlt
     obtain ⟨ub, pb, hub⟩ := HB.out ab rfl j hlt
     obtain ⟨wla, wba⟩ := WA.out.at j (by rw [HN.out]; exact hlt)
     obtain ⟨wlb, wbb⟩ := WB.out.at j (by rw [HLB.out]; exact hlt)
     have hlx : (A.take j).length = j := by rw [List.length_take, HN.out]; omega
     have hly : (B.take j).length = j := by rw [List.length_take, HLB.out]; omega
     obtain ⟨us, hox, hrwx⟩ := hrx
     obtain ⟨vs, hoy, hrwy⟩ := hry
     rw [hlx] at hox hrwx
     rw [hly] at hoy hrwy
     obtain ⟨ox, cx, rfl⟩ := ownsRow_form hox
     obtain ⟨oy, cy, rfl⟩ := ownsRow_form hoy
     obtain ⟨_, oua, cua, rfl, ma1, ma2, ma3, ma4⟩ := hua
     obtain ⟨_, oub, cub, rfl, mb1, mb2, mb3, mb4⟩ := hub
     rw [wla] at pa ma1 ma4
     rw [wlb] at pb mb1 mb4
     have NCA : Hid (∀ ad, oua = some ad → ∀ i u, ((A.getD j []).map (Value.int .u8))[i]? = some u → w.cell? (ad.add i) = some u) := Lib.hid (bytes_cells wla ma4)
     have NCB : Hid (∀ ad, oub = some ad → ∀ i u, ((B.getD j []).map (Value.int .u8))[i]? = some u → w.cell? (ad.add i) = some u) := Lib.hid (bytes_cells wlb mb4)
     have NLA : Hid (((A.getD j []).map (Value.int .u8)).length = k) := Lib.hid (by rw [List.length_map, wla])
     have NLB : Hid (((B.getD j []).map (Value.int .u8)).length = m) := Lib.hid (by rw [List.length_map, wlb])
     have N1A : Hid (∀ u ∈ (A.getD j []).map (Value.int .u8), u.oneCell' = true) := Lib.hid (ints_oneCell _ _)
     have N1B : Hid (∀ u ∈ (B.getD j []).map (Value.int .u8), u.oneCell' = true) := Lib.hid (ints_oneCell _ _)
     have NNA : Hid (oua = none → k = 0 ∧ cua = 0) := Lib.hid (fun h => by have := ma3 h; omega)
     have NNB : Hid (oub = none → m = 0 ∧ cub = 0) := Lib.hid (fun h => by have := mb3 h; omega)
     have NWA : Hid (∀ (W0 : World) (v1 : Value) (w1 : World), w1.ownsRow W0.heap.size 5 1 v1 k ((A.getD j []).map (Value.int .u8)) → Gr W0 w1 → New W0 w1 v1 (A.getD j [])) := Lib.hid (fun W0 v1 w1 h1 h2 => New.of_row h2 wba (by rw [wla]; exact h1))
     have NWB : Hid (∀ (W0 : World) (v1 : Value) (w1 : World), w1.ownsRow W0.heap.size 5 1 v1 m ((B.getD j []).map (Value.int .u8)) → Gr W0 w1 → New W0 w1 v1 (B.getD j [])) := Lib.hid (fun W0 v1 w1 h1 h2 => New.of_row h2 wbb (by rw [wlb]; exact h1))
     have HOX := Lib.hid hox
     have HOY := Lib.hid hoy
     have HRX := Lib.hid hrwx
     have HRY := Lib.hid hrwy
     have HAP := Lib.hid hap
     have HG := Lib.hid hg
     have HLX := Lib.hid hlx
     have HLY := Lib.hid hly
     have q1 := cell_grown hg pa
     have q2 := cell_grown hg pb
     clear hox hoy hrwx hrwy hap hg hlx hly wla wba wlb wbb ma3 ma4 mb3 mb4
     generalize (A.getD j []).map (Value.int .u8) = csa at *
     generalize (B.getD j []).map (Value.int .u8) = csb at *
     go_wp2
     go_region_held3 (fun W => W.cell? (aa.add j) = some (.slice oua k cua) ∧ W.cell? (ab.add j) = some (.slice oub m cub) ∧ Hid (Gr w W)) (first | exact Tri.of pa pb HG.out | exact Tri.of pa pb GG1.out | exact Tri.of pa pb (Gr.alloc GG1.out _ _) | exact Tri.of pa pb GG4.out | exact Tri.of pa pb GG5.out | exact Tri.of pa pb (Gr.alloc GG5.out _ _) | exact Tri.of pa pb GG6.out | go_keep) (first
       | (refine step_append_in rfl _ _ _ rfl wr.heap.size 5 i5 _ 1 Tryz.underlying25 J0.out J1.out J2.out J3.out rfl (.slice none 0 0) 0 [] (by rfl) (World.ownsRow_nil _ _ _ _) oua k cua csa (by rfl) NNA.out NLA.out (fun ad ha i u hu => by exact cell_grown HG.out (NCA.out ad ha i u hu)) N1A.out (by unfold maxLen; omega) (by omega) (by exact Nat.le_refl _) ?_; intro v1 w1 ho hgr; rw [Nat.zero_add, List.nil_append] at ho; obtain ⟨o1, c1, rfl⟩ := ownsRow_form ho; have HW1 := Lib.hid ho; have GR1 : Hid (Gr wr w1) := Lib.hid (Gr.append (Gr.drew (Gr.refl wr)) hgr (fun _ h => by cases h)); have GG1 : Hid (Gr w w1) := Lib.hid (Gr.trans HG.out GR1.out); clear ho hgr)
       | (refine step_append_lies _ (by rfl) _ _ _ (by rfl) w.heap.size 25 i0 _ 1 24 Tryz.underlying65 I0.out I1.out I2.out I3.out rfl (by omega) (.slice ox j cx) j us (by rfl) (by exact ((HOX.out.of_gr GR1.out).alloc _)) ⟨w1.heap.size, 0, none⟩ 1 1 [.slice o1 k c1] (by rfl) (by rfl) (World.news_of_block (cs := #[.slice o1 k c1]) (t := 25) (fr := (0, 0)) (heap_alloc_new w1 _)) (by simp [Value.oneCell']) (by omega) (by unfold maxLen; omega) (by omega) (by have := GG1.out.size; simp; omega) (w1.heap.size + 1) (by simp) ?_; intro gx capx w4 ho hgr hatx hltx; have HOX4 := Lib.hid ho; have HGX := Lib.hid hgr; have GG4 : Hid (Gr w w4) := Lib.hid (Gr.append (Gr.alloc GG1.out _ _) hgr (ownsRow_base HOX.out)); clear ho hgr; have HNE : Hid ((Value.slice oy j cy).ownBlock = none ∨ (Value.slice oy j cy).ownBlock ≠ (Value.slice ox j cx).ownBlock) := Lib.hid (Apart2.ne HAP.out); have HOY4 := Lib.hid (ownsRow_through ((HOY.out.of_gr GR1.out).alloc _) HGX.out HNE.out))
       | (refine step_append_in rfl _ _ _ rfl w4.heap.size 5 i5 _ 1 Tryz.underlying25 J0.out J1.out J2.out J3.out rfl (.slice none 0 0) 0 [] (by rfl) (World.ownsRow_nil _ _ _ _) oub m cub csb (by rfl) NNB.out NLB.out (fun ad ha i u hu => by exact cell_grown GG4.out (NCB.out ad ha i u hu)) N1B.out (by unfold maxLen; omega) (by omega) (by exact Nat.le_refl _) ?_; intro v5 w5 ho hgr; rw [Nat.zero_add, List.nil_append] at ho; obtain ⟨o5, c5, rfl⟩ := ownsRow_form ho; have HW5 := Lib.hid ho; have GR5 : Hid (Gr w4 w5) := Lib.hid (Gr.append (Gr.refl w4) hgr (fun _ h => by cases h)); have GG5 : Hid (Gr w w5) := Lib.hid (Gr.trans GG4.out GR5.out); clear ho hgr)
       | (refine step_append_lies _ (by rfl) _ _ _ (by rfl) w.heap.size 25 i0 _ 1 24 Tryz.underlying65 I0.out I1.out I2.out I3.out rfl (by omega) (.slice oy j cy) j vs (by rfl) (by exact ((HOY4.out.of_gr GR5.out).alloc _)) ⟨w5.heap.size, 0, none⟩ 1 1 [.slice o5 m c5] (by rfl) (by rfl) (World.news_of_block (cs := #[.slice o5 m c5]) (t := 25) (fr := (0, 0)) (heap_alloc_new w5 _)) (by simp [Value.oneCell']) (by omega) (by unfold maxLen; omega) (by omega) (by have := GG5.out.size; simp; omega) (w5.heap.size + 1) (by simp) ?_; intro gy capy w6 ho hgr haty hlty; have HOY6 := Lib.hid ho; have HGY := Lib.hid hgr; have GG6 : Hid (Gr w w6) := Lib.hid (Gr.append (Gr.alloc GG5.out _ _) hgr (ownsRow_base HOY.out)); clear ho hgr))
     have hnwA := NWA.out wr _ w1 HW1.out GR1.out
     have hnwB := NWB.out w4 _ w5 HW5.out GR5.out
     obtain ⟨f1, _⟩ := Rws.more HLX.out HOX.out HRX.out (New.bs hnwA) (New.rb hnwA _) GR1.out HOX4.out HGX.out HG.out (Nat.le_refl _)
     have hgx1 : Gr wr (w1.alloc (.cells #[.slice o1 k c1] 25)) := Gr.alloc GR1.out _ _
     have hry4 : ∀ i, i < j → Bs w4 (vs.getD i undef) ((B.take j).getD i []) ∧ Rb w.heap.size w4 (vs.getD i undef) := fun i hi => by
      have h1 := Rb.gr (HRY.out i hi).1 (HRY.out i hi).2 hgx1
      exact Rb.kept h1.1 h1.2 HGX.out.block (ownsRow_not_bytes ((HOX.out.of_gr GR1.out).alloc _))
     obtain ⟨f2, _⟩ := Rws.more HLY.out HOY4.out hry4 (New.bs hnwB) (New.rb hnwB _) GR5.out HOY6.out HGY.out GG4.out (Nat.le_refl _)
     have hyx : (Value.slice oy j cy).ownBlock ≠ some gx := fun e => by
      rcases hatx with h | h
      ·exact HAP.out gx h e
      ·have h1 := ownsRow_lt HOY.out gx e
       have h2 := GR1.out.size
       omega
     have f1' : Rws w.heap.size w6 (.slice (some ⟨gx, 0, none⟩) (j + 1) capx) (A.take j ++ [A.getD j []]) :=
      Rws.through (Rws.gr f1 (Gr.alloc GR5.out _ _)) HGY.out (.inr fun e => hyx (by rw [← e]; rfl)) (ownsRow_not_bytes ((HOY4.out.of_gr GR5.out).alloc _))
     have hap6 : Apart2 (.slice (some ⟨gx, 0, none⟩) (j + 1) capx) (.slice (some ⟨gy, 0, none⟩) (j + 1) capy) := fun g h1 h2 => by
      have e1 : g = gx := by simpa [Value.ownBlock] using h1.symm
      have e2 : g = gy := by simpa [Value.ownBlock] using h2.symm
      rcases haty with h | h
      ·exact hyx (by rw [h, ← e2, e1])
      ·have h2 := GR5.out.size
       omega
     have tka : A.take j ++ [A.getD j []] = A.take (j + 1) := by
      rw [List.take_add_one, List.getD_eq_getElem?_getD, List.getElem?_eq_getElem (by rw [HN.out]; exact hlt)]
      rfl
     have tkb : B.take j ++ [B.getD j []] = B.take (j + 1) := by
      rw [List.take_add_one, List.getD_eq_getElem?_getD, List.getElem?_eq_getElem (by rw [HLB.out]; exact hlt)]
      rfl
     rw [tka] at f1'
     rw [tkb] at f2
     have F1 := Lib.hid f1'
     have F2 := Lib.hid f2
     have F3 := Lib.hid hap6
     clear f1 f1' f2 hap6 hyx hry4 hgx1 hnwA hnwB tka tkb
     go_wp2
     exact ⟨⟨j + 1, by omega, by go_num, F1.out, F2.out, F3.out, GG6.out⟩, by simp [intOf]; omega⟩
    ·obtain rfl : n = j := by omega
     rw [List.take_of_length_le (by rw [HN.out]; omega)] at hrx
     rw [List.take_of_length_le (by rw [HLB.out]; omega)] at hry
     obtain ⟨us, hox, hrwx⟩ := hrx
     obtain ⟨vs, hoy, hrwy⟩ := hry
     rw [HN.out] at hox hrwx
     rw [HLB.out] at hoy hrwy
     obtain ⟨gx, cx, rfl, cx1, cx2, _, _, _⟩ := ownsRow_cell hox hlp
     obtain ⟨gy, cy, rfl, cy1, cy2, _, _, _⟩ := ownsRow_cell hoy hlp
     have hxy : gx ≠ gy := fun e => hap gx rfl (by rw [e]; rfl)
     have hp : Pr w wr gx cx gy cy n k m A B A B 0 us vs := Pr.start ⟨hox, hrwx, HN.out, WA.out⟩ ⟨hoy, hrwy, HLB.out, WB.out⟩ hxy hg
     have HPR := Lib.hid hp
     unfold maxLen at cx2 cy2
     clear hp hox hrwx hoy hrwy hap hg HA HB HS HSB
     go_wp2
     go_loopw [10] (fun cc W => ∃ (cl : Nat) (X Y : List (List Int)) (us vs : List Value), cl ≤ k ∧ cc = .int .i64 cl ∧ Pr w W gx cx gy cy n k m A B X Y cl us vs) (fun cc _ => k - (intOf cc).toNat)
     case atStart => exact ⟨0, A, B, us, vs, by omega, rfl, HPR.out⟩
     case round =>
      clear HPR
      obtain ⟨wo, hwo⟩ : ∃ x, x = wr := ⟨_, rfl⟩
      subst hwo
      obtain ⟨cl, X, Y, us, vs, hcl, rfl, hp⟩ := hrel
      by_cases hend : cl < k
      ·obtain ⟨s0, hs1, hs2, hs3⟩ := hp.pivot WA.out rfl HRK.out.symm hend
       have HP := Lib.hid hp
       have H3 := Lib.hid hs3
       clear hp hs3
       go_wp2
       go_loop [11] (fun a => ∃ t : Nat, cl ≤ t ∧ t ≤ s0 ∧ a = .int .i64 t) (fun a => n - (intOf a).toNat)
       case atStart => exact ⟨cl, Nat.le_refl _, hs1, rfl⟩
       case round =>
        obtain ⟨t, ht1, ht2, rfl⟩ := hrel
        have htn : t < n := by omega
        obtain ⟨ot, ct, et, qt, rt⟩ := HP.out.x.cell t htn
        obtain ⟨bt, rfl, rqt⟩ := rt cl hend
        by_cases hz : (X.getD t []).getD cl 0 = 0
        ·have hne : t ≠ s0 := fun e => H3.out (by rw [← e]; exact hz)
         rw [hz] at rqt
         clear et rt hz
         go_wp2
         exact ⟨⟨t + 1, by omega, by omega, by go_num⟩, by simp [intOf]; omega⟩
        ·have HZ := Lib.hid hz
         have hzb : ((X.getD t []).getD cl 0 == 0) = false := by simpa using hz
         have HET := Lib.hid et
         clear hz et rt
         generalize hzz : (X.getD t []).getD cl 0 = z at *
         have HZZ := Lib.hid hzz
         clear hzz
         have hcn : cl < n := by omega
         obtain ⟨oc, cc1, ec, qc, _⟩ := HP.out.x.cell cl hcn
         obtain ⟨oyt, cyt, eyt, qyt, _⟩ := HP.out.y.cell t htn
         obtain ⟨oyc, cyc, eyc, qyc, _⟩ := HP.out.y.cell cl hcn
         have fx1 := HP.out.x.frozen t
         have fx2 := HP.out.x.frozen cl
         have fy1 := HP.out.y.frozen t
         have fy2 := HP.out.y.frozen cl
         have hsw := HP.out.swap t cl ht1 htn (Nat.le_refl _) hcn
         rw [HET.out, ec, eyt, eyc] at hsw
         have HSW := Lib.hid hsw
         have hyx : gy ≠ gx := fun e => hxy e.symm
         obtain ⟨y1, hy1⟩ := HP.out.x.some_cell t cl (.slice oc k cc1) hcn
         obtain ⟨y2, hy2⟩ : ∃ y, (((wo.setCell ⟨gx, t, none⟩ (.slice oc k cc1)).setCell ⟨gx, cl, none⟩ (.slice (some bt) k ct)).setCell ⟨gy, t, none⟩ (.slice oyc m cyc)).cell? ⟨gy, cl, none⟩ = some y := by
          have far1 := HP.out.x.put (u := .slice oc k cc1) (l := X.getD cl []) t htn (by rw [← ec]; exact (HP.out.x.row cl hcn).1) (by rw [← ec]; exact (HP.out.x.row cl hcn).2) (HP.out.x.wide.at cl (by rw [HP.out.x.len]; exact hcn)).1
          exact ((HP.out.y.far (i := t) (u := .slice oc k cc1) hyx HP.out.x.blk).far (i := cl) (u := .slice (some bt) k ct) hyx far1.blk).some_cell t cl _ hcn
         clear hsw ec eyt eyc
         go_wp2
         go_region
         have hz1 : (((X.set t (X.getD cl [])).set cl (X.getD t [])).getD cl []).getD cl 0 = z := by
          rw [getD_set_self _ _ _ (by rw [List.length_set, HP.out.x.len]; exact hcn)]
          exact HZZ.out
         have HZ1 := Lib.hid hz1
         have HW1 := Lib.hid (HSW.out.grow (Gr.drew (Gr.refl _)))
         have hbz : Byt z := by rw [← HZZ.out]; exact HP.out.x.wide.byt t cl
         clear hz1 hy1 hy2 fx1 fx2 fy1 fy2 qc qyt qyc qt rqt HET HSW HP H3 HZZ
         generalize ((((wo.setCell ⟨gx, t, none⟩ (.slice oc k cc1)).setCell ⟨gx, cl, none⟩ (.slice (some bt) k ct)).setCell ⟨gy, t, none⟩ (.slice oyc m cyc)).setCell ⟨gy, cl, none⟩ (.slice oyt m cyt)).drew = W1 at *
         generalize (us.set t (.slice oc k cc1)).set cl (.slice (some bt) k ct) = us1 at *
         generalize (vs.set t (.slice oyc m cyc)).set cl (.slice oyt m cyt) = vs1 at *
         generalize (X.set t (X.getD cl [])).set cl (X.getD t []) = X1 at *
         generalize (Y.set t (Y.getD cl [])).set cl (Y.getD t []) = Y1 at *
         obtain ⟨ox1, cx1', ex1, qx1, rx1⟩ := HW1.out.x.cell cl hcn
         obtain ⟨bx1, rfl, rqx1⟩ := rx1 cl hend
         obtain ⟨oy1, cy1', ey1, qy1, _⟩ := HW1.out.y.cell cl hcn
         rw [HZ1.out] at rqx1
         have HEX1 := Lib.hid ex1
         have HEY1 := Lib.hid ey1
         clear rx1 ex1 ey1
         go_wp2_with (first | (go_at_call 72; refine (refInv_any z hbz _).mono ?_; rintro e w' ⟨rfl, rfl⟩))
         have hrx := (HW1.out.x.row cl hcn).1
         have hry := (HW1.out.y.row cl hcn).1
         rw [HEX1.out] at hrx
         rw [HEY1.out] at hry
         have RX := Lib.hid hrx
         have RY := Lib.hid hry
         have LX : Hid ((X1.getD cl []).length = k) := Lib.hid (HW1.out.x.wide.at cl (by rw [HW1.out.x.len]; exact hcn)).1
         have LY : Hid ((Y1.getD cl []).length = m) := Lib.hid (HW1.out.y.wide.at cl (by rw [HW1.out.y.len]; exact hcn)).1
         have fx := HW1.out.x.frozen cl
         have fy := HW1.out.y.frozen cl
         have hz0 : z ≠ 0 := HZ.out
         have HZ0 := Lib.hid hz0
         clear hrx hry hz0 rqx1
         go_cut [] (fun wx => ∃ X2 Y2 us2 vs2, Pr w wx gx cx gy cy n k m A B X2 Y2 cl us2 vs2 ∧ (X2.getD cl []).getD cl 0 = 1)
         case first =>
          go_region_law (first
            | (have hHNW := HNW; clear hHNW; (try go_simp); go_at_call 73; refine (refScale_new (invZ z) _ (Y1.getD cl []) _ (invZ_byt z) (Bs.grown RY.out (Gr.trans (Gr.drew (Gr.refl _)) HNW.out.1)) (by rw [LY.out]; omega)).mono ?_; rintro e w3 ⟨v3, rfl, hnw⟩; obtain ⟨o3, m3, c3', rfl⟩ := New.form3 hnw; have hcx3 := cell_grown hnw.1 hcx2; have hfx3 := frozen_grown hnw.1 hcx2 hfx2; have hcy3 := cell_grown hnw.1 hcy2; have hfy3 := frozen_grown hnw.1 hcy2 hfy2; have HNW3 := Lib.hid hnw; clear hnw)
            | ((try go_simp); go_at_call 73; refine (refScale_new (invZ z) _ (X1.getD cl []) _ (invZ_byt z) (Bs.grown RX.out (Gr.drew (Gr.refl _))) (by rw [LX.out]; omega)).mono ?_; rintro e w2 ⟨v2, rfl, hnw⟩; obtain ⟨o2, m2, c2', rfl⟩ := New.form3 hnw; have hcx2 := cell_grown hnw.1 qx1; have hfx2 := frozen_grown hnw.1 qx1 fx; have hcy2 := cell_grown hnw.1 qy1; have hfy2 := frozen_grown hnw.1 qy1 fy; have HNW := Lib.hid hnw; clear hnw))
          all_goals
           go_wp2_with fail
           go_meet
           have hb2 := Rb.gr (New.bs HNW.out) (New.rb HNW.out w.heap.size) HNW3.out.1
           refine ⟨_, _, _, _, (HW1.out.grow (Gr.trans (Gr.trans (Gr.drew (Gr.refl _)) HNW.out.1) HNW3.out.1)).scaled cl (Nat.le_refl _) hcn (invZ_byt z) (invZ_ne hbz HZ0.out) hb2.1 hb2.2 (New.bs HNW3.out) (New.rb HNW3.out _), ?_⟩
           rw [getD_set_self _ _ _ (by rw [HW1.out.x.len]; exact hcn), scaleL_getD _ _ _ (by rw [LX.out]; exact hend), HZ1.out, inv_mulZ hbz HZ0.out]
         case rest =>
          clear HW1 HZ1 qx1 qy1 fx fy HEX1 HEY1 RX RY LX LY HZ0 HZ
          obtain ⟨X2, Y2, us2, vs2, hx2, hone⟩ := hcut
          have H2 := Lib.hid hx2
          have HONE := Lib.hid hone
          clear hx2 hone
          go_wp2
          go_loopw [138] (fun i W => ∃ (j : Nat) (X3 Y3 : List (List Int)) (us3 vs3 : List Value), j ≤ n ∧ i = .int .i64 j ∧ Pr w W gx cx gy cy n k m A B X3 Y3 cl us3 vs3 ∧ (X3.getD cl []).getD cl 0 = 1 ∧ ∀ s, s < j → s ≠ cl → (X3.getD s []).getD cl 0 = 0) (fun i _ => n - (intOf i).toNat)
          case atStart => exact ⟨0, X2, Y2, us2, vs2, by omega, rfl, H2.out, HONE.out, by omega⟩
          case round =>
           clear H2 HONE
           obtain ⟨j, X3, Y3, us3, vs3, hj, rfl, hx3, hone, hzs⟩ := hrel
           have H3 := Lib.hid hx3
           have HONE := Lib.hid hone
           have HZS := Lib.hid hzs
           clear hx3 hone hzs
           by_cases hlt : j < n
           ·obtain ⟨oj, cj, ej, qj, rj⟩ := H3.out.x.cell j hlt
            obtain ⟨bj, rfl, rqj⟩ := rj cl hend
            have hbj := H3.out.x.wide.byt j cl
            have HEJ := Lib.hid ej
            clear rj ej
            generalize hzz : (X3.getD j []).getD cl 0 = zj at *
            have HZZ := Lib.hid hzz
            clear hzz
            by_cases hjd : j = cl
            ·obtain rfl : cl = j := hjd.symm
             clear hjd
             have hjc : ((cl : Int) != cl) = false := by simp
             go_wp2
             refine ⟨⟨cl + 1, X3, Y3, us3, vs3, by omega, by go_num, H3.out, HONE.out, fun s s1 s2 => HZS.out s (by omega) s2⟩, by simp [intOf]; omega⟩
            ·have hjd' : ((j : Int) != cl) = true := by simp; omega
             have HJD := Lib.hid hjd
             clear hjd
             by_cases hz0 : zj = 0
             ·subst hz0
              go_wp2
              refine ⟨⟨j + 1, X3, Y3, us3, vs3, by omega, by go_num, H3.out, HONE.out, fun s s1 s2 => ?_⟩, by simp [intOf]; omega⟩
              by_cases e : s = j
              ·rw [e, HZZ.out]
              ·exact HZS.out s (by omega) s2
             ·have hzb : (zj != 0) = true := by simpa using hz0
              obtain ⟨od, cd, ed, qd, _⟩ := H3.out.x.cell cl hcn
              obtain ⟨oyj, cyj, eyj, qyj, _⟩ := H3.out.y.cell j hlt
              obtain ⟨oyd, cyd, eyd, qyd, _⟩ := H3.out.y.cell cl hcn
              have fxj := H3.out.x.frozen j
              have fyj := H3.out.y.frozen j
              have r1 := (H3.out.x.row j hlt).1
              have r2 := (H3.out.x.row cl hcn).1
              have r3 := (H3.out.y.row j hlt).1
              have r4 := (H3.out.y.row cl hcn).1
              rw [HEJ.out] at r1
              rw [ed] at r2
              rw [eyj] at r3
              rw [eyd] at r4
              have RXJ := Lib.hid r1
              have RXD := Lib.hid r2
              have RYJ := Lib.hid r3
              have RYD := Lib.hid r4
              have LXJ : Hid ((X3.getD j []).length = k) := Lib.hid (H3.out.x.wide.at j (by rw [H3.out.x.len]; exact hlt)).1
              have LXD : Hid ((X3.getD cl []).length = k) := Lib.hid (H3.out.x.wide.at cl (by rw [H3.out.x.len]; exact hcn)).1
              have LYJ : Hid ((Y3.getD j []).length = m) := Lib.hid (H3.out.y.wide.at j (by rw [H3.out.y.len]; exact hlt)).1
              have LYD : Hid ((Y3.getD cl []).length = m) := Lib.hid (H3.out.y.wide.at cl (by rw [H3.out.y.len]; exact hcn)).1
              clear r1 r2 r3 r4 ed eyj eyd hz0
              go_wp2
              clear rqj
              have n1 : (⟨gx, cl, none⟩ : Addr) ≠ ⟨gx, j, none⟩ := fun e => HJD.out (by cases e; rfl)
              have n2 : (⟨gy, cl, none⟩ : Addr) ≠ ⟨gx, j, none⟩ := fun e => hxy (by cases e; rfl)
              have n3 : (⟨gx, cl, none⟩ : Addr) ≠ ⟨gy, j, none⟩ := fun e => hxy (by cases e; rfl)
              have n4 : (⟨gy, cl, none⟩ : Addr) ≠ ⟨gy, j, none⟩ := fun e => HJD.out (by cases e; rfl)
              have hyx : gy ≠ gx := fun e => hxy e.symm
              refine wp_region_noPanic ?_
              refine wp_region_held_drew (S := fun W => W.cell? ⟨gx, cl, none⟩ = some (.slice od k cd) ∧ W.cell? ⟨gy, cl, none⟩ = some (.slice oyd m cyd)) (by kernel_rfl) (by exact ⟨qd, qyd⟩) (fun hHeld => ?_)
              refine wpAnyH_take (i := 0) (v := .slice (some ⟨gx, 0, none⟩) n cx) rfl (by kernel_rfl) (by kernel_rfl) (by kernel_rfl) (fun _ _ _ h => h) (Or.inl ⟨by rfl, fun W hW => by first | (go_simp; done) | (go_simp; with_reducible rfl)⟩) (by assumption) ?_
              simp only [Act.put, List.setIfInBounds_toArray]
              refine wpAnyH_take (i := 1) (v := .int .i64 j) rfl (by kernel_rfl) (by kernel_rfl) (by kernel_rfl) (fun _ _ _ h => h) (Or.inl ⟨by rfl, fun W hW => by first | (go_simp; done) | (go_simp; with_reducible rfl)⟩) (by assumption) ?_
              simp only [Act.put]
              refine wpAnyH_take (i := 2) (v := .slice (some ⟨gy, 0, none⟩) n cy) rfl (by kernel_rfl) (by kernel_rfl) (by kernel_rfl) (fun _ _ _ h => h) (Or.inl ⟨by rfl, fun W hW => by first | (go_simp; done) | (go_simp; with_reducible rfl)⟩) (by assumption) ?_
              simp only [Act.put]
              refine wpAnyH_take (i := 3) (v := .int .i64 j) rfl (by kernel_rfl) (by kernel_rfl) (by kernel_rfl) (fun _ _ _ h => h) (Or.inl ⟨by rfl, fun W hW => by first | (go_simp; done) | (go_simp; with_reducible rfl)⟩) (by assumption) ?_
              simp only [Act.put]
              refine wpAnyH_take (i := 4) (v := .int .u8 zj) rfl (by kernel_rfl) (by kernel_rfl) (by kernel_rfl) (fun _ _ _ h => h) (Or.inl ⟨by rfl, fun W hW => by first | (go_simp; done) | (go_simp; with_reducible rfl)⟩) (by assumption) ?_
              simp only [Act.put]
              refine wpAnyH_take (i := 5) (v := .slice (some ⟨gx, 0, none⟩) n cx) rfl (by kernel_rfl) (by kernel_rfl) (by kernel_rfl) (fun _ _ _ h => h) (Or.inl ⟨by rfl, fun W hW => by first | (go_simp; done) | (go_simp; with_reducible rfl)⟩) (by assumption) ?_
              simp only [Act.put]
              refine wpAnyH_take (i := 6) (v := .int .i64 cl) rfl (by kernel_rfl) (by kernel_rfl) (by kernel_rfl) (fun _ _ _ h => h) (Or.inl ⟨by rfl, fun W hW => by first | (go_simp; done) | (go_simp; with_reducible rfl)⟩) (by assumption) ?_
              simp only [Act.put]
              refine wpAnyH_take (i := 7) (v := .pointer (some ⟨gx, cl, none⟩)) rfl (by kernel_rfl) (by kernel_rfl) (by kernel_rfl) (fun _ _ _ h => h) (Or.inl ⟨by rfl, fun W hW => by first | (go_simp; done) | (go_simp; with_reducible rfl)⟩) (by assumption) ?_
              simp only [Act.put]
              refine wpAnyH_take (i := 8) (v := .slice od k cd) rfl (by kernel_rfl) (by kernel_rfl) (by kernel_rfl) (fun _ _ _ h => h) (Or.inl ⟨by rfl, fun W hW => by first | (go_simp; done) | (go_simp; with_reducible rfl)⟩) (by assumption) ?_
              simp only [Act.put]
              refine wpAnyH_take (i := 9) (v := .slice (some ⟨gx, 0, none⟩) n cx) rfl (by kernel_rfl) (by kernel_rfl) (by kernel_rfl) (fun _ _ _ h => h) (Or.inl ⟨by rfl, fun W hW => by first | (go_simp; done) | (go_simp; with_reducible rfl)⟩) (by assumption) ?_
              simp only [Act.put]
              refine wpAnyH_take (i := 10) (v := .int .i64 j) rfl (by kernel_rfl) (by kernel_rfl) (by kernel_rfl) (fun _ _ _ h => h) (Or.inl ⟨by rfl, fun W hW => by first | (go_simp; done) | (go_simp; with_reducible rfl)⟩) (by assumption) ?_
              simp only [Act.put]
              refine wpAnyH_take (i := 11) (v := .pointer (some ⟨gx, j, none⟩)) rfl (by kernel_rfl) (by kernel_rfl) (by kernel_rfl) (fun _ _ _ h => h) (Or.inl ⟨by rfl, fun W hW => by first | (go_simp; done) | (go_simp; with_reducible rfl)⟩) (by assumption) ?_
              simp only [Act.put]
              refine wpAnyH_take (i := 14) (v := .int .u8 zj) rfl (by kernel_rfl) (by kernel_rfl) (by kernel_rfl) (fun _ _ _ h => h) (Or.inl ⟨by rfl, fun W hW => by first | (go_simp; done) | (go_simp; with_reducible rfl)⟩) (by assumption) ?_
              simp only [Act.put]
              refine wpAnyH_take (i := 15) (v := .slice (some ⟨gy, 0, none⟩) n cy) rfl (by kernel_rfl) (by kernel_rfl) (by kernel_rfl) (fun _ _ _ h => h) (Or.inl ⟨by rfl, fun W hW => by first | (go_simp; done) | (go_simp; with_reducible rfl)⟩) (by assumption) ?_
              simp only [Act.put]
              refine wpAnyH_take (i := 16) (v := .int .i64 cl) rfl (by kernel_rfl) (by kernel_rfl) (by kernel_rfl) (fun _ _ _ h => h) (Or.inl ⟨by rfl, fun W hW => by first | (go_simp; done) | (go_simp; with_reducible rfl)⟩) (by assumption) ?_
              simp only [Act.put]
              refine wpAnyH_take (i := 17) (v := .pointer (some ⟨gy, cl, none⟩)) rfl (by kernel_rfl) (by kernel_rfl) (by kernel_rfl) (fun _ _ _ h => h) (Or.inl ⟨by rfl, fun W hW => by first | (go_simp; done) | (go_simp; with_reducible rfl)⟩) (by assumption) ?_
              simp only [Act.put]
              refine wpAnyH_take (i := 18) (v := .slice oyd m cyd) rfl (by kernel_rfl) (by kernel_rfl) (by kernel_rfl) (fun _ _ _ h => h) (Or.inl ⟨by rfl, fun W hW => by first | (go_simp; done) | (go_simp; with_reducible rfl)⟩) (by assumption) ?_
              simp only [Act.put]
              refine wpAnyH_take (i := 19) (v := .slice (some ⟨gy, 0, none⟩) n cy) rfl (by kernel_rfl) (by kernel_rfl) (by kernel_rfl) (fun _ _ _ h => h) (Or.inl ⟨by rfl, fun W hW => by first | (go_simp; done) | (go_simp; with_reducible rfl)⟩) (by assumption) ?_
              simp only [Act.put]
              refine wpAnyH_take (i := 20) (v := .int .i64 j) rfl (by kernel_rfl) (by kernel_rfl) (by kernel_rfl) (fun _ _ _ h => h) (Or.inl ⟨by rfl, fun W hW => by first | (go_simp; done) | (go_simp; with_reducible rfl)⟩) (by assumption) ?_
              simp only [Act.put]
              refine wpAnyH_take (i := 21) (v := .pointer (some ⟨gy, j, none⟩)) rfl (by kernel_rfl) (by kernel_rfl) (by kernel_rfl) (fun _ _ _ h => h) (Or.inl ⟨by rfl, fun W hW => by first | (go_simp; done) | (go_simp; with_reducible rfl)⟩) (by assumption) ?_
              simp only [Act.put]
              refine wpAnyH_ready (rs := [12, 22]) (by kernel_rfl) (by simp) ?_
              refine AllReadyH.cons rfl (fun K' hK => ?_) ?_
              ·go_simp
               refine hK.out _ _ ⟨qd, qyd⟩ (fun hHeld => ?_)
               clear hK K'
               (try simp only [Act.put, List.setIfInBounds_toArray, List.set_cons_zero, List.set_cons_succ])
               refine wpAnyH_ready (rs := [13, 22]) (by kernel_rfl) (by simp) ?_
               refine AllReadyH.cons rfl (fun K' hK => ?_) ?_
               ·(try go_simp)
                go_at_call 74
                refine (refAxpy_new zj _ _ (X3.getD cl []) (X3.getD j []) _ hbj (Bs.grown RXD.out (Gr.drew (Gr.refl _))) (Bs.grown RXJ.out (Gr.drew (Gr.refl _))) (by rw [LXJ.out, LXD.out]) (by rw [LXD.out]; omega)).mono ?_
                rintro e w2 ⟨v2, rfl, hnw⟩
                obtain ⟨o2, m2, c2', rfl⟩ := New.form3 hnw
                have hcx2 := cell_grown hnw.1 qj
                have hfx2 := frozen_grown hnw.1 qj fxj
                have hcy2 := cell_grown hnw.1 qyj
                have hfy2 := frozen_grown hnw.1 qyj fyj
                have kd2 := cell_grown hnw.1 qd
                have kyd2 := cell_grown hnw.1 qyd
                have HNW := Lib.hid hnw
                clear hnw
                refine hK.out _ _ ⟨kd2, kyd2⟩ (fun hHeld => ?_)
                clear hK K'
                (try simp only [Act.put, List.setIfInBounds_toArray, List.set_cons_zero, List.set_cons_succ])
                refine wpAnyH_ready (rs := [22]) (by kernel_rfl) (by simp) ?_
                refine AllReadyH.cons rfl (fun K' hK => ?_) AllReadyH.nil
                go_simp
                refine hK.out _ _ ⟨kd2, kyd2⟩ (fun hHeld => ?_)
                clear hK K'
                (try simp only [Act.put, List.setIfInBounds_toArray, List.set_cons_zero, List.set_cons_succ])
                refine wpAnyH_ready (rs := [23]) (by kernel_rfl) (by simp) ?_
                refine AllReadyH.cons rfl (fun K' hK => ?_) AllReadyH.nil
                (try go_simp)
                go_at_call 74
                refine (refAxpy_new zj _ _ (Y3.getD cl []) (Y3.getD j []) _ hbj (Bs.grown RYD.out (Gr.trans (Gr.drew (Gr.refl _)) HNW.out.1)) (Bs.grown RYJ.out (Gr.trans (Gr.drew (Gr.refl _)) HNW.out.1)) (by rw [LYJ.out, LYD.out]) (by rw [LYD.out]; omega)).mono ?_
                rintro e w3 ⟨v3, rfl, hnw⟩
                obtain ⟨o3, m3, c3', rfl⟩ := New.form3 hnw
                have hcx3 := cell_grown hnw.1 hcx2
                have hfx3 := frozen_grown hnw.1 hcx2 hfx2
                have hcy3 := cell_grown hnw.1 hcy2
                have hfy3 := frozen_grown hnw.1 hcy2 hfy2
                have kd3 := cell_grown hnw.1 kd2
                have kyd3 := cell_grown hnw.1 kyd2
                have HNW3 := Lib.hid hnw
                clear hnw
                refine hK.out _ _ ⟨kd3, kyd3⟩ (fun hHeld => ?_)
                clear hK K'
                (try simp only [Act.put, List.setIfInBounds_toArray, List.set_cons_zero, List.set_cons_succ])
                refine wpAnyH_take (i := 24) (v := .pointer (some ⟨gx, j, none⟩)) rfl (by kernel_rfl) (by kernel_rfl) (by kernel_rfl) (fun _ _ _ h => h) (Or.inl ⟨by rfl, fun W hW => by first | (go_simp; done) | (go_simp; with_reducible rfl)⟩) (by assumption) ?_
                simp only [Act.put, List.setIfInBounds_toArray]
                refine wpAnyH_ready (rs := [25]) (by kernel_rfl) (by simp) ?_
                refine AllReadyH.cons rfl (fun K' hK => ?_) AllReadyH.nil
                go_simp
                refine hK.out _ _ ⟨cell_set_far kd3 n1, cell_set_far kyd3 n2⟩ (fun hHeld => ?_)
                clear hK K'
                (try simp only [Act.put, List.setIfInBounds_toArray, List.set_cons_zero, List.set_cons_succ])
                refine wpAnyH_take (i := 26) (v := .pointer (some ⟨gy, j, none⟩)) rfl (by kernel_rfl) (by kernel_rfl) (by kernel_rfl) (fun _ _ _ h => h) (Or.inl ⟨by rfl, fun W hW => by first | (go_simp; done) | (go_simp; with_reducible rfl)⟩) (by assumption) ?_
                simp only [Act.put, List.setIfInBounds_toArray]
                refine wpAnyH_ready (rs := [27]) (by kernel_rfl) (by simp) ?_
                refine AllReadyH.cons rfl (fun K' hK => ?_) AllReadyH.nil
                go_simp
                refine hK.out _ _ ⟨cell_set_far (cell_set_far kd3 n1) n3, cell_set_far (cell_set_far kyd3 n2) n4⟩ (fun hHeld => ?_)
                clear hK K'
                (try simp only [Act.put, List.setIfInBounds_toArray, List.set_cons_zero, List.set_cons_succ])
                refine wpAnyH_done (by kernel_rfl) ?_ _
                refine NoPanic.normal ?_
                go_wp2_with fail
                have hb2 := Rb.gr (New.bs HNW.out) (New.rb HNW.out w.heap.size) HNW3.out.1
                refine ⟨⟨j + 1, _, _, _, _, by omega, by go_num, (H3.out.grow (Gr.trans (Gr.trans (Gr.drew (Gr.refl _)) HNW.out.1) HNW3.out.1)).added j cl (Nat.le_refl _) hcn hlt HJD.out hbj hb2.1 hb2.2 (New.bs HNW3.out) (New.rb HNW3.out _), ?_, fun s s1 s2 => ?_⟩, by simp [intOf]; omega⟩
                ·rw [getD_set_ne _ _ _ _ HJD.out, HONE.out]
                ·by_cases e : s = j
                 ·rw [e, getD_set_self _ _ _ (by rw [H3.out.x.len]; exact hlt), axL_getD _ _ _ _ (by rw [LXD.out]; exact hend), HONE.out, HZZ.out, mulZ_one zj hbj, addZ_self]
                 ·rw [getD_set_ne _ _ _ _ (fun c => e c.symm)]
                  exact HZS.out s (by omega) s2
               ·refine AllReadyH.cons rfl (fun K' hK => ?_) AllReadyH.nil
                go_simp
                refine hK.out _ _ ⟨qd, qyd⟩ (fun hHeld => ?_)
                clear hK K'
                (try simp only [Act.put, List.setIfInBounds_toArray, List.set_cons_zero, List.set_cons_succ])
                refine wpAnyH_ready (rs := [13]) (by kernel_rfl) (by simp) ?_
                refine AllReadyH.cons rfl (fun K' hK => ?_) AllReadyH.nil
                (try go_simp)
                go_at_call 74
                refine (refAxpy_new zj _ _ (X3.getD cl []) (X3.getD j []) _ hbj (Bs.grown RXD.out (Gr.drew (Gr.refl _))) (Bs.grown RXJ.out (Gr.drew (Gr.refl _))) (by rw [LXJ.out, LXD.out]) (by rw [LXD.out]; omega)).mono ?_
                rintro e w2 ⟨v2, rfl, hnw⟩
                obtain ⟨o2, m2, c2', rfl⟩ := New.form3 hnw
                have hcx2 := cell_grown hnw.1 qj
                have hfx2 := frozen_grown hnw.1 qj fxj
                have hcy2 := cell_grown hnw.1 qyj
                have hfy2 := frozen_grown hnw.1 qyj fyj
                have kd2 := cell_grown hnw.1 qd
                have kyd2 := cell_grown hnw.1 qyd
                have HNW := Lib.hid hnw
                clear hnw
                refine hK.out _ _ ⟨kd2, kyd2⟩ (fun hHeld => ?_)
                clear hK K'
                (try simp only [Act.put, List.setIfInBounds_toArray, List.set_cons_zero, List.set_cons_succ])
                refine wpAnyH_ready (rs := [23]) (by kernel_rfl) (by simp) ?_
                refine AllReadyH.cons rfl (fun K' hK => ?_) AllReadyH.nil
                (try go_simp)
                go_at_call 74
                refine (refAxpy_new zj _ _ (Y3.getD cl []) (Y3.getD j []) _ hbj (Bs.grown RYD.out (Gr.trans (Gr.drew (Gr.refl _)) HNW.out.1)) (Bs.grown RYJ.out (Gr.trans (Gr.drew (Gr.refl _)) HNW.out.1)) (by rw [LYJ.out, LYD.out]) (by rw [LYD.out]; omega)).mono ?_
                rintro e w3 ⟨v3, rfl, hnw⟩
                obtain ⟨o3, m3, c3', rfl⟩ := New.form3 hnw
                have hcx3 := cell_grown hnw.1 hcx2
                have hfx3 := frozen_grown hnw.1 hcx2 hfx2
                have hcy3 := cell_grown hnw.1 hcy2
                have hfy3 := frozen_grown hnw.1 hcy2 hfy2
                have kd3 := cell_grown hnw.1 kd2
                have kyd3 := cell_grown hnw.1 kyd2
                have HNW3 := Lib.hid hnw
                clear hnw
                refine hK.out _ _ ⟨kd3, kyd3⟩ (fun hHeld => ?_)
                clear hK K'
                (try simp only [Act.put, List.setIfInBounds_toArray, List.set_cons_zero, List.set_cons_succ])
                refine wpAnyH_take (i := 24) (v := .pointer (some ⟨gx, j, none⟩)) rfl (by kernel_rfl) (by kernel_rfl) (by kernel_rfl) (fun _ _ _ h => h) (Or.inl ⟨by rfl, fun W hW => by first | (go_simp; done) | (go_simp; with_reducible rfl)⟩) (by assumption) ?_
                simp only [Act.put, List.setIfInBounds_toArray]
                refine wpAnyH_ready (rs := [25]) (by kernel_rfl) (by simp) ?_
                refine AllReadyH.cons rfl (fun K' hK => ?_) AllReadyH.nil
                go_simp
                refine hK.out _ _ ⟨cell_set_far kd3 n1, cell_set_far kyd3 n2⟩ (fun hHeld => ?_)
                clear hK K'
                (try simp only [Act.put, List.setIfInBounds_toArray, List.set_cons_zero, List.set_cons_succ])
                refine wpAnyH_take (i := 26) (v := .pointer (some ⟨gy, j, none⟩)) rfl (by kernel_rfl) (by kernel_rfl) (by kernel_rfl) (fun _ _ _ h => h) (Or.inl ⟨by rfl, fun W hW => by first | (go_simp; done) | (go_simp; with_reducible rfl)⟩) (by assumption) ?_
                simp only [Act.put, List.setIfInBounds_toArray]
                refine wpAnyH_ready (rs := [27]) (by kernel_rfl) (by simp) ?_
                refine AllReadyH.cons rfl (fun K' hK => ?_) AllReadyH.nil
                go_simp
                refine hK.out _ _ ⟨cell_set_far (cell_set_far kd3 n1) n3, cell_set_far (cell_set_far kyd3 n2) n4⟩ (fun hHeld => ?_)
                clear hK K'
                (try simp only [Act.put, List.setIfInBounds_toArray, List.set_cons_zero, List.set_cons_succ])
                refine wpAnyH_done (by kernel_rfl) ?_ _
                refine NoPanic.normal ?_
                go_wp2_with fail
                have hb2 := Rb.gr (New.bs HNW.out) (New.rb HNW.out w.heap.size) HNW3.out.1
                refine ⟨⟨j + 1, _, _, _, _, by omega, by go_num, (H3.out.grow (Gr.trans (Gr.trans (Gr.drew (Gr.refl _)) HNW.out.1) HNW3.out.1)).added j cl (Nat.le_refl _) hcn hlt HJD.out hbj hb2.1 hb2.2 (New.bs HNW3.out) (New.rb HNW3.out _), ?_, fun s s1 s2 => ?_⟩, by simp [intOf]; omega⟩
                ·rw [getD_set_ne _ _ _ _ HJD.out, HONE.out]
                ·by_cases e : s = j
                 ·rw [e, getD_set_self _ _ _ (by rw [H3.out.x.len]; exact hlt), axL_getD _ _ _ _ (by rw [LXD.out]; exact hend), HONE.out, HZZ.out, mulZ_one zj hbj, addZ_self]
                 ·rw [getD_set_ne _ _ _ _ (fun c => e c.symm)]
                  exact HZS.out s (by omega) s2
              ·refine AllReadyH.cons rfl (fun K' hK => ?_) AllReadyH.nil
               go_simp
               refine hK.out _ _ ⟨qd, qyd⟩ (fun hHeld => ?_)
               clear hK K'
               (try simp only [Act.put, List.setIfInBounds_toArray, List.set_cons_zero, List.set_cons_succ])
               refine wpAnyH_ready (rs := [12]) (by kernel_rfl) (by simp) ?_
               refine AllReadyH.cons rfl (fun K' hK => ?_) AllReadyH.nil
               go_simp
               refine hK.out _ _ ⟨qd, qyd⟩ (fun hHeld => ?_)
               clear hK K'
               (try simp only [Act.put, List.setIfInBounds_toArray, List.set_cons_zero, List.set_cons_succ])
               refine wpAnyH_ready (rs := [13]) (by kernel_rfl) (by simp) ?_
               refine AllReadyH.cons rfl (fun K' hK => ?_) AllReadyH.nil
               (try go_simp)
               go_at_call 74
               refine (refAxpy_new zj _ _ (X3.getD cl []) (X3.getD j []) _ hbj (Bs.grown RXD.out (Gr.drew (Gr.refl _))) (Bs.grown RXJ.out (Gr.drew (Gr.refl _))) (by rw [LXJ.out, LXD.out]) (by rw [LXD.out]; omega)).mono ?_
               rintro e w2 ⟨v2, rfl, hnw⟩
               obtain ⟨o2, m2, c2', rfl⟩ := New.form3 hnw
               have hcx2 := cell_grown hnw.1 qj
               have hfx2 := frozen_grown hnw.1 qj fxj
               have hcy2 := cell_grown hnw.1 qyj
               have hfy2 := frozen_grown hnw.1 qyj fyj
               have kd2 := cell_grown hnw.1 qd
               have kyd2 := cell_grown hnw.1 qyd
               have HNW := Lib.hid hnw
               clear hnw
               refine hK.out _ _ ⟨kd2, kyd2⟩ (fun hHeld => ?_)
               clear hK K'
               (try simp only [Act.put, List.setIfInBounds_toArray, List.set_cons_zero, List.set_cons_succ])
               refine wpAnyH_ready (rs := [23]) (by kernel_rfl) (by simp) ?_
               refine AllReadyH.cons rfl (fun K' hK => ?_) AllReadyH.nil
               (try go_simp)
               go_at_call 74
               refine (refAxpy_new zj _ _ (Y3.getD cl []) (Y3.getD j []) _ hbj (Bs.grown RYD.out (Gr.trans (Gr.drew (Gr.refl _)) HNW.out.1)) (Bs.grown RYJ.out (Gr.trans (Gr.drew (Gr.refl _)) HNW.out.1)) (by rw [LYJ.out, LYD.out]) (by rw [LYD.out]; omega)).mono ?_
               rintro e w3 ⟨v3, rfl, hnw⟩
               obtain ⟨o3, m3, c3', rfl⟩ := New.form3 hnw
               have hcx3 := cell_grown hnw.1 hcx2
               have hfx3 := frozen_grown hnw.1 hcx2 hfx2
               have hcy3 := cell_grown hnw.1 hcy2
               have hfy3 := frozen_grown hnw.1 hcy2 hfy2
               have kd3 := cell_grown hnw.1 kd2
               have kyd3 := cell_grown hnw.1 kyd2
               have HNW3 := Lib.hid hnw
               clear hnw
               refine hK.out _ _ ⟨kd3, kyd3⟩ (fun hHeld => ?_)
               clear hK K'
               (try simp only [Act.put, List.setIfInBounds_toArray, List.set_cons_zero, List.set_cons_succ])
               refine wpAnyH_take (i := 24) (v := .pointer (some ⟨gx, j, none⟩)) rfl (by kernel_rfl) (by kernel_rfl) (by kernel_rfl) (fun _ _ _ h => h) (Or.inl ⟨by rfl, fun W hW => by first | (go_simp; done) | (go_simp; with_reducible rfl)⟩) (by assumption) ?_
               simp only [Act.put, List.setIfInBounds_toArray]
               refine wpAnyH_ready (rs := [25]) (by kernel_rfl) (by simp) ?_
               refine AllReadyH.cons rfl (fun K' hK => ?_) AllReadyH.nil
               go_simp
               refine hK.out _ _ ⟨cell_set_far kd3 n1, cell_set_far kyd3 n2⟩ (fun hHeld => ?_)
               clear hK K'
               (try simp only [Act.put, List.setIfInBounds_toArray, List.set_cons_zero, List.set_cons_succ])
               refine wpAnyH_take (i := 26) (v := .pointer (some ⟨gy, j, none⟩)) rfl (by kernel_rfl) (by kernel_rfl) (by kernel_rfl) (fun _ _ _ h => h) (Or.inl ⟨by rfl, fun W hW => by first | (go_simp; done) | (go_simp; with_reducible rfl)⟩) (by assumption) ?_
               simp only [Act.put, List.setIfInBounds_toArray]
               refine wpAnyH_ready (rs := [27]) (by kernel_rfl) (by simp) ?_
               refine AllReadyH.cons rfl (fun K' hK => ?_) AllReadyH.nil
               go_simp
               refine hK.out _ _ ⟨cell_set_far (cell_set_far kd3 n1) n3, cell_set_far (cell_set_far kyd3 n2) n4⟩ (fun hHeld => ?_)
               clear hK K'
               (try simp only [Act.put, List.setIfInBounds_toArray, List.set_cons_zero, List.set_cons_succ])
               refine wpAnyH_done (by kernel_rfl) ?_ _
               refine NoPanic.normal ?_
               go_wp2_with fail
               have hb2 := Rb.gr (New.bs HNW.out) (New.rb HNW.out w.heap.size) HNW3.out.1
               refine ⟨⟨j + 1, _, _, _, _, by omega, by go_num, (H3.out.grow (Gr.trans (Gr.trans (Gr.drew (Gr.refl _)) HNW.out.1) HNW3.out.1)).added j cl (Nat.le_refl _) hcn hlt HJD.out hbj hb2.1 hb2.2 (New.bs HNW3.out) (New.rb HNW3.out _), ?_, fun s s1 s2 => ?_⟩, by simp [intOf]; omega⟩
               ·rw [getD_set_ne _ _ _ _ HJD.out, HONE.out]
               ·by_cases e : s = j
                ·rw [e, getD_set_self _ _ _ (by rw [H3.out.x.len]; exact hlt), axL_getD _ _ _ _ (by rw [LXD.out]; exact hend), HONE.out, HZZ.out, mulZ_one zj hbj, addZ_self]
                ·rw [getD_set_ne _ _ _ _ (fun c => e c.symm)]
                 exact HZS.out s (by omega) s2
           ·obtain rfl : n = j := by omega
            go_wp2
            exact ⟨⟨cl + 1, X3, Y3, us3, vs3, by omega, by go_num, H3.out.next hcn HONE.out HZS.out⟩, by simp [intOf]; omega⟩
      ·obtain rfl : k = cl := by omega
       have HP := Lib.hid hp
       have hkn : k ≤ n := by
        have := hp.ech.le
        rw [List.length_map, hp.x.len] at this
        simpa using this
       have DONE : Hid (∀ M : List L.V, M.length = k → (L.mulM (A.map vec) M = B.map vec ↔ M = (Y.map vec).take k ∧ ∀ i, k ≤ i → i < (Y.map vec).length → L.rowAt (Y.map vec) i = L.vzero)) := Lib.hid (fun M hM => by
         rw [L.Sat.of_mul (by simp [HN.out, HLB.out]), ← hp.sat M]
         exact L.Sat.done hp.ech hp.x.wide.supp (by simp [hp.x.len, hp.y.len]) hM)
       clear hp
       go_wp2
       go_loopw [15] (fun i W => ∃ t : Nat, k ≤ t ∧ t ≤ n ∧ i = .int .i64 t ∧ Gr wo W ∧ ∀ s, k ≤ s → s < t → leadL (Y.getD s []) = -1) (fun i _ => n - (intOf i).toNat)
       case atStart => exact ⟨k, Nat.le_refl _, hkn, rfl, Gr.refl _, by omega⟩
       case round =>
        obtain ⟨t, ht1, ht2, rfl, hgt, hzs⟩ := hrel
        have GT := Lib.hid hgt
        have HZS := Lib.hid hzs
        clear hgt hzs
        by_cases hlt : t < n
        ·obtain ⟨oyt, cyt, eyt, qyt, _⟩ := (HP.out.y.grow GT.out).cell t hlt
         have hrow := ((HP.out.y.grow GT.out).row t hlt).1
         rw [eyt] at hrow
         have HROW := Lib.hid hrow
         have LY : Hid ((Y.getD t []).length = m) := Lib.hid (HP.out.y.wide.at t (by rw [HP.out.y.len]; exact hlt)).1
         have BY := Lib.hid (HP.out.y.wide.at t (by rw [HP.out.y.len]; exact hlt)).2
         clear hrow eyt
         go_wp2_with fail
         refine (refLead_any _ (Y.getD t []) _ HROW.out (by rw [LY.out]; omega)).mono ?_
         rintro e w5 ⟨rfl, hg5⟩
         have GT5 := Lib.hid (Gr.trans GT.out hg5)
         have hge := leadL_ge (Y.getD t [])
         clear hg5
         by_cases hneg : leadL (Y.getD t []) = -1
         ·have HNEG := Lib.hid hneg
          rw [hneg]
          clear hneg hge
          go_wp2
          refine ⟨⟨t + 1, by omega, by omega, by go_num, GT5.out, fun s s1 s2 => ?_⟩, by simp [intOf]; omega⟩
          by_cases e : s = t
          ·rw [e, HNEG.out]
          ·exact HZS.out s s1 (by omega)
         ·have hpos : 0 ≤ leadL (Y.getD t []) := by omega
          have HPOS := Lib.hid (vec_ne BY.out hpos)
          clear hneg hge
          generalize leadL (Y.getD t []) = lz at *
          go_wp2
          go_ret2
          refine ⟨_, _, [], rfl, Bss.nil _, Gr.trans HP.out.gr GT5.out, .inr (.inr (.inr ⟨HA0.out, by rw [HRK.out, HK.out], rfl, rfl, fun M hM _ hmul => ?_⟩))⟩
          rw [HK.out] at hM
          have := ((DONE.out M hM).1 hmul).2 t ht1 (by rw [List.length_map, HP.out.y.len]; exact hlt)
          rw [rowAt_vec] at this
          exact HPOS.out this
        ·obtain rfl : n = t := by omega
         have hys := HP.out.y.grow GT.out
         have hbs : Bss wr (.slice (some ⟨gy, 0, none⟩) n cy) Y := Rws.bss ⟨vs, by rw [hys.len]; exact hys.own, fun i hi => hys.row i (by rwa [hys.len] at hi)⟩
         have HBS := Lib.hid (hbs.take hys.len k hkn)
         clear hys hbs
         go_wp2
         go_ret2
         have hml2 : (L.mulM (A.map vec) ((Y.take k).map vec)) = B.map vec := by
          rw [List.map_take]
          refine (DONE.out _ (by rw [List.length_take, List.length_map, HP.out.y.len]; omega)).2 ⟨rfl, fun i i1 i2 => ?_⟩
          rw [rowAt_vec]
          exact vec_nought (HZS.out i i1 (by rw [List.length_map, HP.out.y.len] at i2; exact i2))
         refine ⟨_, _, Y.take k, rfl, HBS.out, Gr.trans HP.out.gr GT.out, .inr (.inr (.inl ⟨HA0.out, by rw [HRK.out, HK.out], rfl, by rw [HK.out, List.length_take, HP.out.y.len]; omega, ⟨by rw [HMW.out]; exact WB.out, hml2.symm⟩, by rw [HMW.out]; exact HP.out.y.wide.take k⟩))⟩
end Go.Proofs.YtbbglejdfbkjlaaGreat
