/-
  Texts laid behind one another: Md Me Mf Bc Rm Mg Pd.
-/
import Derived.Test.YtbabecjphmmngaaGreatMgj
import Derived.Test.YtbabecjphmmngaaGreatMgf
import Derived.BigRegion
import Derived.Deep.RegionLaw
import Derived.Deep.DeepCutAuto
import Derived.Deep.RegionHeld3
import Derived.Test.YtbabecjphmmngaaGreatMgi
import Derived.Lib.SliceRun
import Derived.Test.YtbabecjphmmngaaGreatMgd
import Derived.Test.YtbabecjphmmngaaGreatMgg
namespace Go.Proofs.YtbabecjphmmngaaGreat
open Go.RowKit

set_option maxHeartbeats 400000 in
theorem columns_any (v : Value) (A : List (List Int)) (w : World) (h : Bss w v A) :
    Calls Tryz.prog 39 #[v] w fun e w' => e = .returned (.int .i64 (wd A)) ∧ Gr w w' := by
  by_cases h0 : 0 < A.length
  · obtain ⟨a, c, rfl, h1, h2, h3⟩ := Bss.at h h0
    obtain ⟨u, q, hu⟩ := h3 0 h0
    rw [show a.add 0 = a from by simp [Addr.add]] at q
    obtain ⟨ou, cu, rfl⟩ := hu.form
    have e : (A.getD 0 []).length = wd A := rfl
    rw [e] at q
    clear h h3 hu e
    generalize wd A = k at *
    generalize A.length = n at *
    have hb : ((n : Int) == 0) = false := by simp; omega
    go_enter Tryz.func39, Tryz.ntmps39
    go_wp2
    go_ret
    exact ⟨rfl, Gr.refl _⟩
  · obtain rfl : A = [] := List.eq_nil_of_length_eq_zero (by omega)
    obtain ⟨oa, c, rfl, _, _, _, _⟩ := h
    rw [wd_nil]
    go_enter Tryz.func39, Tryz.ntmps39
    go_wp2
    go_ret
    exact ⟨rfl, Gr.refl _⟩
theorem mayL_iff {A : List (List Int)} (h : ∀ j, j < A.length → (A.getD j []).length = wd A) : mayL A = decide (wd A ≤ 64) := by
  by_cases h0 : 0 < A.length
  · by_cases h1 : wd A ≤ 64
    · rw [decide_eq_true h1]
      exact mayL_true fun i hi => ⟨h i hi, by rw [h i hi]; exact h1⟩
    · rw [decide_eq_false h1]
      exact mayL_false 0 h0 fun c => h1 c.2
  · obtain rfl : A = [] := List.eq_nil_of_length_eq_zero (by omega)
    rfl
set_option maxHeartbeats 400000 in
theorem may_core (a : Addr) (n c : Nat) (L : List (List Int)) (w : World) (hn : L.length = n) (hnb : n ≤ 1000000) (hs : Bss w (.slice (some a) n c) L)
    (hc : ∀ i, i < n → ∃ u, w.cell? (a.add i) = some u ∧ Bs w u (L.getD i [])) :
    Calls Tryz.prog 38 #[.slice (some a) n c] w fun e w' => e = .returned (.bool (mayL L)) ∧ Gr w w' := by
  have HC := Lib.hid hc
  have HN := Lib.hid hn
  have HS := Lib.hid hs
  clear hc hn hs
  go_enter Tryz.func38, Tryz.ntmps38
  go_wp2_with (first | (go_at_call 39; refine (columns_any _ L _ HS.out).mono ?_; rintro e w1 ⟨rfl, hg1⟩; have G1 := Lib.hid hg1; clear hg1))
  have HW : Hid (wd L = wd L) := Lib.hid rfl
  obtain ⟨q, hq⟩ : ∃ q, wd L = q := ⟨_, rfl⟩
  have HQ := Lib.hid hq
  rw [hq]
  clear hq HW
  go_loopw [10] (fun i wr => ∃ k : Nat, k ≤ n ∧ i = .int .i64 k ∧ Gr w wr ∧ ∀ j, j < k → (L.getD j []).length = wd L) (fun i _ => n - (intOf i).toNat)
  case atStart => exact ⟨0, by omega, rfl, G1.out, by omega⟩
  case round =>
    obtain ⟨k, hk, rfl, hg, hs⟩ := hrel
    have HJ := Lib.hid hs
    have G := Lib.hid hg
    clear hs hg
    by_cases hlt : k < n
    · obtain ⟨u, h1, hu⟩ := HC.out k hlt
      have q1 := cell_grown G.out h1
      obtain ⟨ou, cu, rfl⟩ := hu.form
      obtain ⟨p, hp⟩ : ∃ p, (L.getD k []).length = p := ⟨_, rfl⟩
      rw [hp] at q1
      have HP := Lib.hid hp
      clear hp h1 hu
      by_cases e1 : p = q
      · subst e1
        go_wp2
        refine ⟨⟨k + 1, by omega, by go_num, G.out, fun j hj => ?_⟩, by simp [intOf]; omega⟩
        by_cases e : j = k
        · rw [e, HP.out, HQ.out]
        · exact HJ.out j (by omega)
      · have hne : ((p : Int) != q) = true := by simp; omega
        go_wp2
        go_ret
        exact ⟨by rw [mayL_false k (by rw [HN.out]; exact hlt) (fun c => e1 (by rw [← HP.out, ← HQ.out]; exact c.1))]; rfl, G.out⟩
    · obtain rfl : k = n := by omega
      have E : Hid (mayL L = decide (q ≤ 64)) := Lib.hid (by rw [← HQ.out]; exact mayL_iff (fun i hi => HJ.out i (by rw [HN.out] at hi; exact hi)))
      have hd : decide ((q : Int) ≤ 64) = decide (q ≤ 64) := decide_eq_decide.2 (by omega)
      have HD := Lib.hid hd
      clear hd
      go_wp2
      go_ret
      exact ⟨by rw [E.out, ← HD.out]; rfl, G.out⟩
set_option maxHeartbeats 400000 in
theorem may_nil (oa : Option Addr) (c : Nat) (w : World) (h : Bss w (.slice oa 0 c) []) :
    Calls Tryz.prog 38 #[.slice oa 0 c] w fun e w' => e = .returned (.bool true) ∧ Gr w w' := by
  have HS := Lib.hid h
  clear h
  go_enter Tryz.func38, Tryz.ntmps38
  go_wp2_with (first | (go_at_call 39; refine (columns_any _ [] _ HS.out).mono ?_; rw [wd_nil]; rintro e w1 ⟨rfl, hg1⟩; have G1 := Lib.hid hg1; clear hg1))
  go_loopw [10] (fun i wr => i = .int .i64 0 ∧ wr = w1) (fun _ _ => 0)
  case atStart => exact ⟨rfl, rfl⟩
  case round =>
    obtain ⟨rfl, rfl⟩ := hrel
    go_wp2
    go_ret
    exact ⟨rfl, G1.out⟩
theorem may_any (v : Value) (L : List (List Int)) (w : World) (h : Bss w v L) (hn : L.length ≤ 1000000) :
    Calls Tryz.prog 38 #[v] w fun e w' => e = .returned (.bool (mayL L)) ∧ Gr w w' := by
  by_cases h0 : 0 < L.length
  · have hs := h
    obtain ⟨a, c, rfl, _, _, h3⟩ := Bss.at h h0
    exact may_core a L.length c L w rfl hn hs h3
  · obtain rfl : L = [] := List.eq_nil_of_length_eq_zero (by omega)
    have hs := h
    obtain ⟨oa, c, rfl, _, _, _, _⟩ := h
    exact may_nil oa c w hs
set_option maxHeartbeats 400000 in
theorem mtabled_any (f : Value) (w : World) (h : IsF w f) :
    Calls Tryz.prog 42 #[f] w fun e w' => ∃ b, e = .returned (.pointer (some ⟨b, 0, none⟩)) ∧ FieldAt w' b ∧ Gr w w' := by
  rcases h with rfl | ⟨b, rfl, hb⟩
  · go_enter Tryz.func42, Tryz.ntmps42
    go_wp2_with (go_at_call 71; refine (new_any _).mono ?_; rintro e w' ⟨b, rfl, hf, hg⟩; have HF := Lib.hid hf; clear hf; have HG := Lib.hid hg; clear hg)
    go_ret
    exact ⟨_, rfl, HF.out, HG.out⟩
  · have HF := Lib.hid hb
    clear hb
    go_enter Tryz.func42, Tryz.ntmps42
    go_wp2_with fail
    go_ret
    exact ⟨_, rfl, HF.out, Gr.refl _⟩
set_option maxHeartbeats 400000 in
/-- With tables at hand an inverse leaves the world as it is (but for draws). -/
theorem inv_field (t : Nat) (a : Int) (ha : Byt a) (w : World) (hf : FieldAt w t) :
    Calls Tryz.prog 69 #[.pointer (some ⟨t, 0, none⟩), .int .u8 a] w fun e w' => e = .returned (.int .u8 (invZ a)) ∧ ∃ d, w' = w.drewN d := by
  obtain ⟨a0, a1⟩ := ha
  by_cases az : a = 0
  · subst az
    go_enter Tryz.func69, Tryz.ntmps69
    go_wp2_with fail
    go_ret
    exact ⟨rfl, 0, rfl⟩
  · have HF := Lib.hid hf
    clear hf
    have ea : (a == 0) = false := by simpa using az
    obtain ⟨x, rfl⟩ := Int.eq_ofNat_of_zero_le a0
    have hx : x < 256 := by omega
    have l1 := (M.ex_lg x hx (by simpa using az)).2
    clear az
    go_enter Tryz.func69, Tryz.ntmps69
    go_wp2_with (go_at_call 87; refine (made_field t _ HF.out).mono ?_; rintro e w' ⟨rfl, rfl⟩)
    have c1 := FieldAt.lg HF.out x hx
    have hi : (255 - M.lgN x) % 255 < 255 := Nat.mod_lt _ (by omega)
    have c3 := FieldAt.ex HF.out _ hi
    have E : Hid (invZ x = ((M.exN ((255 - M.lgN x) % 255) : Nat) : Int)) := Lib.hid (by
      unfold invZ M.invN
      rw [if_neg (by simp at ea; simpa using ea)]
      rfl)
    generalize M.lgN x = p at *
    rw [show (255 - p) % 255 = (-(p : Int) % 255).toNat from by omega] at c3 E
    clear hi
    go_quiet (fail)
    go_wp2
    go_ret
    exact ⟨ret_int E.out.symm, _, rfl⟩
section
variable {w0 : World} {g n c k : Nat} {A Lm : List (List Int)} {ps : List Nat} {col : Nat} {us : List Value}
set_option maxHeartbeats 800000 in
theorem beginning_any (w : World) (h : Mx w0 w g n c k A Lm ps col us) (st cl : Nat) (hst : st ≤ n) (hcl : cl < k) (hn : n ≤ 1000) :
    Calls Tryz.prog 67 #[.slice (some ⟨g, 0, none⟩) n c, .int .i64 st, .int .i64 cl] w fun e w' => Gr w w' ∧
      ((e = .returned (.int .i64 (-1)) ∧ ∀ s, st ≤ s → s < n → (Lm.getD s []).getD cl 0 = 0) ∨ ∃ t : Nat, e = .returned (.int .i64 t) ∧ st ≤ t ∧ t < n ∧ (Lm.getD t []).getD cl 0 ≠ 0) := by
  have HX := Lib.hid h
  clear h
  go_enter Tryz.func67, Tryz.ntmps67
  go_wp2
  refine wp_scope_jumps 0 (fun a' w' => ∃ (t : Nat) (u0 u1 u2 u3 u4 u5 u6 u8 u9 u10 u11 u12 u13 u14 u15 u16 u17 u18 u19 u20 u21 u22 u23 : Value), st ≤ t ∧ t < n ∧ (Lm.getD t []).getD cl 0 ≠ 0 ∧ w' = w ∧ a' = { tmps := #[u0, u1, u2, u3, u4, u5, u6, .int .i64 t, u8, u9, u10, u11, u12, u13, u14, u15, u16, u17, u18, u19, u20, u21, u22, u23], defers := [] }) (fun _ _ => 0) rfl ?_ ?_
  rotate_left
  · rintro a' w' ⟨t, u0, u1, u2, u3, u4, u5, u6, u8, u9, u10, u11, u12, u13, u14, u15, u16, u17, u18, u19, u20, u21, u22, u23, h1, h2, h3, rfl, rfl⟩
    have H3 := Lib.hid h3
    clear h3
    go_wp2
    simp only [Exit.jump]
    go_ret
    exact ⟨Gr.refl _, .inr ⟨t, rfl, h1, h2, H3.out⟩⟩
  go_wp2
  go_loopw [7] (fun i wr => wr = w ∧ ∃ ii : Nat, ii ≤ n ∧ st ≤ ii ∧ i = .int .i64 ii ∧ ∀ s, st ≤ s → s < ii → (Lm.getD s []).getD cl 0 = 0) (fun i _ => n - (intOf i).toNat)
  case atStart => exact ⟨rfl, st, hst, Nat.le_refl _, rfl, by omega⟩
  case round =>
    obtain ⟨rfl, ii, hii, hdi, rfl, ht⟩ := hrel
    have HT := Lib.hid ht
    clear ht
    by_cases hlt : ii < n
    · obtain ⟨oi, ci, _, e1, e2⟩ := HX.out.cell ii hlt
      obtain ⟨b, rfl, e3⟩ := e2 cl hcl
      have hbb := HX.out.wide.byt ii cl
      clear e2
      obtain ⟨z, hz⟩ : ∃ z, (Lm.getD ii []).getD cl 0 = z := ⟨_, rfl⟩
      rw [hz] at e3 hbb
      have HZ := Lib.hid hz
      clear hz
      by_cases hz0 : z = 0
      · subst hz0
        go_wp2
        refine ⟨⟨trivial, ii + 1, by omega, by omega, by go_num, fun s s1 s2 => ?_⟩, by simp [intOf]; omega⟩
        by_cases e : s = ii
        · rw [e, HZ.out]
        · exact HT.out s s1 (by omega)
      · have hzb : (z != 0) = true := by simpa using hz0
        go_wp2
        go_step3
        exact ⟨rfl, ii, _, _, _, _, _, _, _, _, _, _, _, _, _, _, _, _, _, _, _, _, _, _, _, hdi, hlt, by rw [HZ.out]; exact hz0, rfl, rfl⟩
    · obtain rfl : n = ii := by omega
      go_wp2
      simp only [Exit.jump]
      go_ret
      exact ⟨Gr.refl _, .inl ⟨rfl, HT.out⟩⟩
end
end Go.Proofs.YtbabecjphmmngaaGreat
namespace Go.Proofs.YtbabecjphmmngaaGreat
open Go.RowKit

theorem gr_drew {W w2 : World} (h : Gr W.drew w2) : Gr W w2 := h
theorem gr_drewN {W w2 : World} {d : Nat} (h : Gr (W.drewN d) w2) : Gr W w2 := h
section
variable {w0 : World} {g n c k : Nat} {A Lm : List (List Int)} {ps : List Nat} {col : Nat} {us : List Value}
set_option maxRecDepth 100000 in
set_option maxHeartbeats 1600000 in
theorem sweep_any (w : World) (h : Mx w0 w g n c k A Lm ps col us) (ft : Nat) (hf : FieldAt w ft) (hfg : ft ≠ g) (d cl : Nat) (hd : ps.length ≤ d) (hd2 : d < n) (hcl : cl < k) (hone : (Lm.getD d []).getD cl 0 = 1) (hn : n ≤ 1000) (hk : k ≤ 1000) (hnc : n ≤ c) (hc : c ≤ 9223372036854775807) :
    Calls Tryz.prog 70 #[.pointer (some ⟨ft, 0, none⟩), .slice (some ⟨g, 0, none⟩) n c, .int .i64 d, .int .i64 cl] w fun e w' => e = .returned (.tuple #[]) ∧ FieldAt w' ft ∧
      ∃ L3 us3, Mx w0 w' g n c k A L3 ps col us3 ∧ (L3.getD d []).getD cl 0 = 1 ∧ ∀ s, s < n → s ≠ d → (L3.getD s []).getD cl 0 = 0 := by
  have HX := Lib.hid h
  have HF0 := Lib.hid hf
  have HO := Lib.hid hone
  have HFG := Lib.hid hfg
  clear h hf hone hfg
  go_enter Tryz.func70, Tryz.ntmps70
  go_wp2
  go_loopw [12] (fun i W => ∃ (j : Nat) (L3 : List (List Int)) (us3 : List Value), j ≤ n ∧ i = .int .i64 j ∧ Mx w0 W g n c k A L3 ps col us3 ∧ FieldAt W ft ∧ (L3.getD d []).getD cl 0 = 1 ∧ ∀ s, s < j → s ≠ d → (L3.getD s []).getD cl 0 = 0) (fun i _ => n - (intOf i).toNat)
  case atStart => exact ⟨0, Lm, us, by omega, rfl, HX.out, HF0.out, HO.out, by omega⟩
  case round =>
    clear HX HO HF0
    obtain ⟨j, L3, us3, hj, rfl, hx3, hft, hone, hzs⟩ := hrel
    have H3 := Lib.hid hx3
    have HF := Lib.hid hft
    have HONE := Lib.hid hone
    have HZS := Lib.hid hzs
    clear hx3 hone hzs hft
    by_cases hlt : j < n
    · obtain ⟨oj, cj, ej, qj, rj⟩ := H3.out.cell j hlt
      obtain ⟨bj, rfl, rqj⟩ := rj cl hcl
      clear rj
      by_cases hjd : j = d
      · subst hjd
        clear ej
        go_wp2
        refine ⟨⟨j + 1, L3, us3, by omega, by go_num, H3.out, HF.out, HONE.out, fun s s1 s2 => HZS.out s (by omega) s2⟩, by simp [intOf]; omega⟩
      · have hjd' : ((j : Int) != d) = true := by simp; omega
        have hbz := H3.out.wide.byt j cl
        generalize hzz : (L3.getD j []).getD cl 0 = z at *
        have HZZ := Lib.hid hzz
        have HEJ := Lib.hid ej
        have HJD := Lib.hid hjd
        clear hzz ej hjd
        by_cases hz0 : z = 0
        · subst hz0
          go_wp2
          refine ⟨⟨j + 1, L3, us3, by omega, by go_num, H3.out, HF.out, HONE.out, fun s s1 s2 => ?_⟩, by simp [intOf]; omega⟩
          by_cases e : s = j
          · rw [e, HZZ.out]
          · exact HZS.out s (by omega) s2
        · have hzb : (z != 0) = true := by simpa using hz0
          obtain ⟨od, cd, ed, qd, _⟩ := H3.out.cell d hd2
          have fj := H3.out.frozen j
          have hrj := (H3.out.row j hlt).1
          have hrd := (H3.out.row d hd2).1
          rw [HEJ.out] at hrj
          rw [ed] at hrd
          have RJ := Lib.hid hrj
          have RD := Lib.hid hrd
          have WJ : Hid ((L3.getD j []).length = k) := Lib.hid (H3.out.wide.at j (by rw [H3.out.len]; exact hlt)).1
          have WD : Hid ((L3.getD d []).length = k) := Lib.hid (H3.out.wide.at d (by rw [H3.out.len]; exact hd2)).1
          clear hrj hrd ed hz0
          go_wp2
          go_region_law (first
            | ((try go_simp); go_at_call 81; refine (ok_axpy _ _ _ z (L3.getD d []) (L3.getD j []) _ (Or.inr ⟨ft, rfl, by exact HF.out⟩) hbz (Bs.grown RD.out (Gr.drew (Gr.refl _))) (Bs.grown RJ.out (Gr.drew (Gr.refl _))) (by rw [WD.out]; omega) (by rw [WJ.out, WD.out])).mono ?_; rintro e w2 ⟨v2, rfl, hnw⟩; obtain ⟨o2, m2, c2', rfl⟩ := New.form3 hnw; have hc2 := cell_grown hnw.1 qj; have hf2 := frozen_grown hnw.1 qj fj; have HNW := Lib.hid hnw; clear hnw))
          all_goals
            go_wp2_with fail
            refine ⟨⟨j + 1, _, _, by omega, by go_num, (H3.out.grow (Gr.trans (Gr.drew (Gr.refl _)) HNW.out.1)).added j d hd hd2 hlt HJD.out hbz (New.bs HNW.out) (New.rb HNW.out _), FieldAt.put (FieldAt.grown HF.out (gr_drew HNW.out.1)) HFG.out, ?_, fun s s1 s2 => ?_⟩, by simp [intOf]; omega⟩
            · rw [getD_set_ne _ _ _ _ HJD.out, HONE.out]
            · by_cases e : s = j
              · rw [e, getD_set_self _ _ _ (by rw [H3.out.len]; exact hlt), axL_getD _ _ _ _ (by rw [WD.out]; exact hcl), HONE.out, HZZ.out, mulZ_one z hbz, addZ_self]
              · rw [getD_set_ne _ _ _ _ (fun c => e c.symm)]
                exact HZS.out s (by omega) s2
    · obtain rfl : j = n := by omega
      go_wp2
      go_end0
      exact ⟨rfl, HF.out, L3, us3, H3.out, HONE.out, fun s s1 s2 => HZS.out s s1 s2⟩
set_option maxRecDepth 100000 in
set_option maxHeartbeats 3200000 in
theorem eliminate_any (w : World) (h : Mx w0 w g n c k A A [] 0 us) (ft : Nat) (hf : FieldAt w ft) (hfg : ft ≠ g) (cols : Nat) (hcols : cols ≤ k) (hn : n ≤ 1000) (hk : k ≤ 1000) (hnc : n ≤ c) (hc : c ≤ 9223372036854775807) :
    Calls Tryz.prog 41 #[.pointer (some ⟨ft, 0, none⟩), .slice (some ⟨g, 0, none⟩) n c, .int .i64 cols] w fun e w' => ∃ (ps : List Nat) (Lm : List (List Int)) (us' : List Value), e = .returned (.int .i64 (ps.length : Nat)) ∧ Mx w0 w' g n c k A Lm ps cols us' := by
  have HX0 := Lib.hid h
  have HF0 := Lib.hid hf
  have HFG := Lib.hid hfg
  clear h hf hfg
  go_enter Tryz.func41, Tryz.ntmps41
  go_wp2
  go_loopw [7, 11] (fun dd cc W => ∃ (cl : Nat) (Lm : List (List Int)) (ps : List Nat) (us : List Value), cl ≤ cols ∧ cc = .int .i64 cl ∧ dd = .int .i64 (ps.length : Nat) ∧ FieldAt W ft ∧ Mx w0 W g n c k A Lm ps cl us) (fun _ cc _ => cols - (intOf cc).toNat)
  case atStart => exact ⟨0, A, [], us, by omega, rfl, rfl, HF0.out, HX0.out⟩
  case round =>
    clear HX0 HF0
    obtain ⟨cl, Lm, ps, us, hcl, rfl, rfl, hff, hx⟩ := hrel
    have HX := Lib.hid hx
    have HF := Lib.hid hff
    have hdn : ps.length ≤ n := by have := hx.ech.le; rw [List.length_map, hx.len] at this; exact this
    generalize hd : ps.length = d at *
    have HD := Lib.hid hd
    clear hx hd hff
    by_cases hend : cl < cols
    · have hck : cl < k := by omega
      go_wp2_with fail
      refine (beginning_any _ HX.out d cl hdn hck hn).mono ?_
      rintro e w1 ⟨hg1, ⟨rfl, h0⟩ | ⟨t, rfl, t1, t2, t3⟩⟩
      · have HX1 := Lib.hid (HX.out.grow hg1)
        have HF1 := Lib.hid (FieldAt.grown HF.out hg1)
        have H0 := Lib.hid h0
        clear HX h0 hg1
        go_wp2
        refine ⟨⟨cl + 1, Lm, ps, us, by omega, by go_num, by rw [HD.out], HF1.out, HX1.out.to (HX1.out.ech.skip fun s hs => ?_)⟩, by simp [intOf]; omega⟩
        rw [at_vec]
        by_cases e : s < n
        · rw [H0.out s (by rw [← HD.out]; exact hs) e, fb_zero]
        · have hnil : Lm.getD s [] = [] := by
            rw [List.getD_eq_getElem?_getD, List.getElem?_eq_none (by rw [HX1.out.len]; omega)]
            rfl
          rw [hnil]
          rfl
      · have HX1 := Lib.hid (HX.out.grow hg1)
        have HF1 := Lib.hid (FieldAt.grown HF.out hg1)
        have H0 := Lib.hid t3
        clear HX t3 hg1 HF
        have hd1 : d < n := by omega
        obtain ⟨oa1, ca1, ea, qa, _⟩ := HX1.out.cell t t2
        obtain ⟨od1, cd1, ed, qd, _⟩ := HX1.out.cell d hd1
        have ft1 := HX1.out.frozen t
        have fd1 := HX1.out.frozen d
        have HEA := Lib.hid ea
        have HED := Lib.hid ed
        clear ea ed
        obtain ⟨y, hy⟩ : ∃ y, (w1.setCell ⟨g, d, none⟩ (.slice oa1 k ca1)).cell? ⟨g, t, none⟩ = some y := by
          obtain ⟨_, ⟨he, _⟩ | ⟨g', c', cur, he, _, hg, hh1, hh2, hh3, _⟩⟩ := HX1.out.own
          · cases he
          · cases he
            have h2 := heap_setCell_same w1 g d cur _ (.slice oa1 k ca1) hg
            rw [cell_of_row _ g t _ _ _ h2]
            have : t < (cur.setIfInBounds d (.slice oa1 k ca1)).size := by simp; omega
            exact ⟨_, by rw [Array.getElem?_eq_getElem this]⟩
        go_wp2
        go_region
        have hsw := (HX1.out.swap d t (by rw [HD.out]; exact Nat.le_refl _) hd1 (by rw [HD.out]; exact t1) t2).grow (Gr.drew (Gr.refl _))
        rw [HEA.out, HED.out] at hsw
        have hz1 : (((Lm.set d (Lm.getD t [])).set t (Lm.getD d [])).getD d []).getD cl 0 ≠ 0 := by
          by_cases e : t = d
          · subst e
            rw [getD_set_self _ _ _ (by rw [List.length_set, HX1.out.len]; exact hd1)]
            exact H0.out
          · rw [getD_set_ne _ _ _ _ e, getD_set_self _ _ _ (by rw [HX1.out.len]; exact hd1)]
            exact H0.out
        have H1 := Lib.hid hsw
        have HZ1 := Lib.hid hz1
        have HF2 : Hid (FieldAt ((w1.setCell ⟨g, d, none⟩ (.slice oa1 k ca1)).setCell ⟨g, t, none⟩ (.slice od1 k cd1)).drew ft) := Lib.hid (FieldAt.grown (FieldAt.put (FieldAt.put HF1.out HFG.out) HFG.out) (Gr.drew (Gr.refl _)))
        clear hsw hz1 hy ft1 fd1 qa qd HEA HED H0 HX1 HF1
        generalize ((w1.setCell ⟨g, d, none⟩ (.slice oa1 k ca1)).setCell ⟨g, t, none⟩ (.slice od1 k cd1)).drew = W1 at *
        generalize (us.set d (.slice oa1 k ca1)).set t (.slice od1 k cd1) = us1 at *
        generalize (Lm.set d (Lm.getD t [])).set t (Lm.getD d []) = L1 at *
        obtain ⟨ob1, cb1, eb1, qb1, rb1⟩ := H1.out.cell d hd1
        obtain ⟨b1, rfl, rq1⟩ := rb1 cl hck
        have fr1 := H1.out.frozen d
        have hbz := H1.out.wide.byt d cl
        have hrow := (H1.out.row d hd1).1
        rw [eb1] at hrow
        have HROW := Lib.hid hrow
        have HLK : Hid ((L1.getD d []).length = k) := Lib.hid (H1.out.wide.at d (by rw [H1.out.len]; exact hd1)).1
        clear rb1 hrow eb1
        generalize hzz : (L1.getD d []).getD cl 0 = z at *
        have HZZ := Lib.hid hzz
        clear hzz
        go_upto_region 8 with fail
        go_cut [] (fun wx => ∃ L2 us2, Mx w0 wx g n c k A L2 ps cl us2 ∧ (L2.getD d []).getD cl 0 = 1 ∧ FieldAt wx ft)
        case first =>
          go_region_law (first
            | ((try go_simp); go_at_call 69; refine (inv_field ft z hbz _ (by exact HF2.out)).mono ?_; rintro e w' ⟨rfl, nd, rfl⟩)
            | ((try go_simp); go_at_call 68; refine (ok_scale _ _ (invZ z) (L1.getD d []) _ (Or.inr ⟨ft, rfl, by exact HF2.out⟩) (invZ_byt z) (by exact HROW.out) (by rw [HLK.out]; omega)).mono ?_; rintro e w2 ⟨v2, rfl, hnw⟩; obtain ⟨o2, m2, c2', rfl⟩ := New.form3 hnw; have hc2 := cell_grown hnw.1 (by exact qb1); have hf2 := frozen_grown hnw.1 (by exact qb1) (by exact fr1); have HG2 := Lib.hid (show Gr W1 _ from hnw.1); have HNW := Lib.hid hnw; clear hnw))
          all_goals
            go_wp2_with fail
            go_meet
            refine ⟨_, _, (H1.out.grow HG2.out).scaled d (by rw [HD.out]; exact Nat.le_refl _) hd1 (invZ_byt z) (invZ_ne hbz HZ1.out) (New.bs HNW.out) ?_, ?_, FieldAt.put (FieldAt.grown HF2.out HG2.out) HFG.out⟩
            · exact New.rb HNW.out _
            · rw [getD_set_self _ _ _ (by rw [H1.out.len]; exact hd1), scaleL_getD _ _ _ (by rw [HLK.out]; exact hck), HZZ.out, inv_mulZ hbz HZ1.out]
        case rest =>
          clear H1 HZ1 qb1 rq1 fr1 hbz HROW HLK HZZ HF2
          obtain ⟨L2, us2, hx2, hone, hf2⟩ := hcut
          have H2 := Lib.hid hx2
          have HONE := Lib.hid hone
          have HF3 := Lib.hid hf2
          clear hx2 hone hf2
          go_wp2_with fail
          refine (sweep_any _ H2.out ft HF3.out HFG.out d cl (by rw [HD.out]; exact Nat.le_refl _) hd1 hck HONE.out hn hk hnc hc).mono ?_
          rintro e w3 ⟨rfl, hf3, L3, us3, hx3, hone3, hzs⟩
          have H3 := Lib.hid hx3
          have HF4 := Lib.hid hf3
          have HONE3 := Lib.hid hone3
          have HZS := Lib.hid hzs
          clear hx3 hf3 hone3 hzs H2 HONE HF3
          go_wp2
          refine ⟨⟨cl + 1, L3, ps ++ [cl], us3, by omega, by go_num, by rw [List.length_append, HD.out]; go_num, HF4.out, H3.out.to (H3.out.ech.next ?_ ?_ fun s hs => ?_)⟩, by simp [intOf]; omega⟩
          · rw [List.length_map, H3.out.len, HD.out]; exact hd1
          · rw [at_vec, HD.out, HONE3.out, fb_one]
          · rw [at_vec]
            by_cases e : s < n
            · rw [HZS.out s e (by rw [← HD.out]; exact hs), fb_zero]
            · have hnil : L3.getD s [] = [] := by
                rw [List.getD_eq_getElem?_getD, List.getElem?_eq_none (by rw [H3.out.len]; omega)]
                rfl
              rw [hnil]
              rfl
    · obtain rfl : cl = cols := by omega
      go_wp2
      go_ret
      exact ⟨ps, Lm, us, by rw [HD.out]; rfl, HX.out⟩
end
set_option maxHeartbeats 400000 in
/-- Without columns there is nothing to do. -/
theorem eliminate_none (f v : Value) (w : World) :
    Calls Tryz.prog 41 #[f, v, .int .i64 0] w fun e w' => e = .returned (.int .i64 0) ∧ Gr w w' := by
  go_enter Tryz.func41, Tryz.ntmps41
  go_wp2
  go_loopw [7, 11] (fun dd cc W => dd = .int .i64 0 ∧ cc = .int .i64 0 ∧ W = w) (fun _ _ _ => 0)
  case atStart => exact ⟨rfl, rfl, rfl⟩
  case round =>
    obtain ⟨rfl, rfl, rfl⟩ := hrel
    go_wp2
    go_ret
    exact ⟨rfl, Gr.refl _⟩
end Go.Proofs.YtbabecjphmmngaaGreat
namespace Go.Proofs.YtbabecjphmmngaaGreat
open Go.RowKit

set_option maxRecDepth 100000 in
set_option maxHeartbeats 800000 in
theorem reduce_nil (f : Value) (oa : Option Addr) (c : Nat) (w : World) (hf : IsF w f) (h : Bss w (.slice oa 0 c) []) :
    Calls Tryz.prog 104 #[f, .slice oa 0 c] w fun e w' => ∃ v R, e = .returned v ∧ Bss w' v R ∧ Gr w w' ∧ IsRed (wd []) [] R := by
  have HS := Lib.hid h
  have HF := Lib.hid hf
  clear h hf
  go_enter Tryz.func104, Tryz.ntmps104
  go_wp2_with fail
  refine (may_any _ [] w HS.out (by simp)).mono ?_
  rintro e w1 ⟨rfl, hg1⟩
  rw [show mayL [] = true from rfl]
  have G1 := Lib.hid hg1
  clear hg1
  go_wp2_with (first
    | (at_builtin; refine wpList_append_rows rfl _ _ rfl rfl oa 0 c [] rfl rfl (Bss.grown HS.out G1.out) (by omega) ?_; intro v2 w2 us hown hg2 hrow; obtain ⟨o2, c2, rfl⟩ := ownsRow_form hown; have HO := Lib.hid hown; have G2 := Lib.hid hg2; clear hown hg2 hrow)
    | (go_at_call 42; refine (mtabled_any f _ (IsF.grown HF.out (Gr.trans G1.out G2.out))).mono ?_; rintro e w3 ⟨b, rfl, hfb, hg3⟩; clear hfb; have G3 := Lib.hid hg3; clear hg3)
    | (go_at_call 39; refine (columns_any _ [] _ (Bss.grown HS.out (Gr.trans G1.out (Gr.trans G2.out G3.out)))).mono ?_; rw [wd_nil]; rintro e w4 ⟨rfl, hg4⟩; have G4 := Lib.hid hg4; clear hg4))
  refine (eliminate_none _ _ _).mono ?_
  rintro e w5 ⟨rfl, hg5⟩
  have GG := Lib.hid (Gr.trans G1.out (Gr.trans G2.out (Gr.trans G3.out (Gr.trans G4.out hg5))))
  have H5 := Lib.hid (Bss.grown (owns_bss (L := []) HO.out rfl (fun i hi => by simp at hi)) (Gr.trans G3.out (Gr.trans G4.out hg5)))
  have hc2 : c2 ≤ maxLen := by
    obtain ⟨_, ⟨he, _⟩ | ⟨g, c', cur, he, _, _, _, h2, _⟩⟩ := HO.out
    · cases he; omega
    · cases he; exact h2
  unfold maxLen at hc2
  clear G1 G2 G3 G4 hg5 HO HS
  go_wp2_with (first
    | (at_builtin; refine wpList_append_rows rfl _ _ rfl rfl o2 0 c2 [] rfl rfl H5.out (by omega) ?_; intro v6 w6 us6 hown hg6 hrow; obtain ⟨o6, c6, rfl⟩ := ownsRow_form hown; have HO6 := Lib.hid hown; have G6 := Lib.hid hg6; clear hown hg6 hrow))
  go_ret
  exact ⟨_, [], rfl, owns_bss HO6.out rfl (fun i hi => by simp at hi), Gr.trans GG.out G6.out, (by intro r hr; cases hr), [], rfl, L.Rref.nil, L.Same.refl _⟩
theorem field_block {w w' : World} {b g base n c : Nat} {us : List Value} {l : List Int} (h : FieldAt w b) (ho : w.ownsRow base 25 1 (.slice (some ⟨g, 0, none⟩) n c) n us) (h0 : 0 < n) (hb : Bs w' (us.getD 0 undef) l) : b ≠ g := by
  intro e
  subst e
  obtain ⟨g', c', he, _, _, _, _, hc⟩ := ownsRow_cell ho h0
  cases he
  have h1 := hc 0 h0
  rw [FieldAt.ex h 0 (by omega)] at h1
  obtain ⟨o, c2, hf⟩ := hb.form
  rw [hf] at h1
  cases h1
set_option maxRecDepth 100000 in
set_option maxHeartbeats 1600000 in
theorem reduce_pos (f va : Value) (A : List (List Int)) (w : World) (hf : IsF w f) (h : Bss w va A) (hl : A.length ≤ 1000) (hmay : mayL A = true) (h0 : 0 < A.length) :
    Calls Tryz.prog 104 #[f, va] w fun e w' => ∃ v R, e = .returned v ∧ Bss w' v R ∧ Gr w w' ∧ IsRed (wd A) A R := by
  have HW := Lib.hid (Wide.of_may hmay h.byt)
  have hk64 : wd A ≤ 64 := (mayL_at hmay 0 h0).2
  have HS := Lib.hid h
  have HF := Lib.hid hf
  have HM := Lib.hid hmay
  obtain ⟨oa, c0, rfl, h1, h2, _, _⟩ := h
  obtain ⟨n, hn⟩ : ∃ n, A.length = n := ⟨_, rfl⟩
  rw [hn] at HS h1 hl h0 ⊢
  obtain ⟨k, hk⟩ : ∃ k, wd A = k := ⟨_, rfl⟩
  have HN := Lib.hid hn
  have HK := Lib.hid hk
  rw [show (A.getD 0 []).length = wd A from rfl] at HW
  rw [hk] at hk64 HW ⊢
  clear hf hmay hn hk
  go_enter Tryz.func104, Tryz.ntmps104
  go_wp2_with fail
  refine (may_any _ A w HS.out (by rw [HN.out]; omega)).mono ?_
  rintro e w1 ⟨rfl, hg1⟩
  rw [HM.out]
  have G1 := Lib.hid hg1
  clear hg1
  go_wp2_with (first
    | (at_builtin; refine wpList_append_rows rfl _ _ rfl rfl oa n c0 A rfl HN.out (Bss.grown HS.out G1.out) hl ?_; intro v2 w2 us hown hg2 hrow; have HO := Lib.hid hown; obtain ⟨g, c, rfl, hc1, hc2, _, _, _⟩ := ownsRow_cell hown h0; have G2 := Lib.hid hg2; have HR := Lib.hid hrow; clear hown hg2 hrow)
    | (go_at_call 42; refine (mtabled_any f _ (IsF.grown HF.out (Gr.trans G1.out G2.out))).mono ?_; rintro e w3 ⟨b, rfl, hfb, hg3⟩; have HFB := Lib.hid hfb; clear hfb; have G3 := Lib.hid hg3; clear hg3)
    | (go_at_call 39; refine (columns_any _ A _ (Bss.grown HS.out (Gr.trans G1.out (Gr.trans G2.out G3.out)))).mono ?_; rw [HK.out]; rintro e w4 ⟨rfl, hg4⟩; have G4 := Lib.hid hg4; clear hg4))
  unfold maxLen at hc2
  have hx : Mx w1 w2 g n c k A A [] 0 us := ⟨HO.out, HR.out, HN.out, HW.out, L.Ech.start _, G2.out⟩
  have hx4 := hx.grow (Gr.trans G3.out G4.out)
  have hfg : b ≠ g := field_block HFB.out (HO.out.of_gr G3.out) h0 (HR.out 0 h0).1
  refine (eliminate_any _ hx4 b (FieldAt.grown HFB.out G4.out) hfg k (Nat.le_refl _) hl (by omega) hc1 hc2).mono ?_
  rintro e w5 ⟨ps, Lm, us5, rfl, hx5⟩
  obtain ⟨hrw, hgr, hred⟩ := hx5.out
  have hdn : ps.length ≤ n := by have := hx5.ech.le; rw [List.length_map, hx5.len] at this; exact this
  have hlt : (Lm.take ps.length).length = ps.length := by rw [List.length_take, hx5.len]; omega
  have HB5 := Lib.hid hrw.bss
  have GG := Lib.hid (Gr.trans G1.out hgr)
  have HRED := Lib.hid hred
  have HLT := Lib.hid hlt
  clear hx hx4 hfg hx5 hrw hgr hred hlt G2 G3 G4 HO HR HFB
  generalize Lm.take ps.length = R at *
  generalize ps.length = d at *
  go_wp2_with (first
    | (at_builtin; refine wpList_append_rows rfl _ _ rfl rfl (some ⟨g, 0, none⟩) d c R rfl HLT.out HB5.out (by omega) ?_; intro v6 w6 us6 hown hg6 hrow; obtain ⟨o6, c6, rfl⟩ := ownsRow_form hown; have HO6 := Lib.hid hown; have G6 := Lib.hid hg6; have HR6 := Lib.hid hrow; clear hown hg6 hrow))
  go_ret
  exact ⟨_, R, rfl, owns_bss HO6.out HLT.out (fun i hi => (HR6.out i (by rw [HLT.out] at hi; exact hi)).1), Gr.trans GG.out G6.out, HRED.out⟩
theorem ok_reduce : ∀ (f va : Value) (A : List (List Int)) (w : World), IsF w f → Bss w va A → A.length ≤ 1000 → mayL A = true →
    Calls Tryz.prog 104 #[f, va] w fun e w' => ∃ v R, e = .returned v ∧ Bss w' v R ∧ Gr w w' ∧ IsRed (wd A) A R :=
  fun f va A w hf ha hl hm => by
    by_cases h0 : 0 < A.length
    · exact reduce_pos f va A w hf ha hl hm h0
    · obtain rfl : A = [] := List.eq_nil_of_length_eq_zero (by omega)
      have hs := ha
      obtain ⟨oa, c, rfl, _, _, _, _⟩ := ha
      exact reduce_nil f oa c w hf hs
set_option maxHeartbeats 400000 in
theorem ok_rank : ∀ (f va : Value) (A : List (List Int)) (w : World), IsF w f → Bss w va A → A.length ≤ 1000 → mayL A = true →
    Calls Tryz.prog 84 #[f, va] w fun e w' => e = .returned (.int .i64 (rkL A)) ∧ Gr w w' := by
  intro f va A w hf ha hl hm
  have HS := Lib.hid ha
  have HF := Lib.hid hf
  have HM := Lib.hid hm
  clear ha hf hm
  go_enter Tryz.func84, Tryz.ntmps84
  go_wp2_with fail
  refine (ok_reduce f va A w HF.out HS.out hl HM.out).mono ?_
  rintro e w1 ⟨v, R, rfl, hv, hg, hred⟩
  have hrk : rkL A = R.length := hred.rank
  obtain ⟨o, c, rfl, h1, h2, _, _⟩ := hv
  have HG := Lib.hid hg
  have HRK := Lib.hid hrk
  clear hred hrk hg
  generalize R.length = s at *
  go_wp2_with fail
  go_ret
  exact ⟨by rw [HRK.out]; rfl, HG.out⟩
end Go.Proofs.YtbabecjphmmngaaGreat
namespace Go.Proofs.YtbabecjphmmngaaGreat
open Go.RowKit

/-- A block's cells that are nil rows. -/
def nils (n : Nat) : Array Value := (List.replicate n (Value.slice none 0 0)).toArray
theorem nils_made (n : Nat) : madeCells #[.slice none 0 0] n = nils n := by
  apply Array.ext'
  rw [toList_madeCells_one]
  simp [nils]
theorem make24 (l c : Nat) (h : l ≤ c) (hc : c ≤ 1000000) (w : World) :
    (Instr.makeSlice 44 (.int .i64 (l : Int)) (.int .i64 (c : Int))).run Tryz.prog w = .ok (.slice (some ⟨w.heap.size, 0, none⟩) l c) (w.alloc (.cells (nils c) 25)) := by
  obtain ⟨i, hi, hzz⟩ := Option.map_eq_some_iff.1 info22
  simp only [Prod.mk.injEq] at hzz
  obtain ⟨hz, hs, hb⟩ := hzz
  have hr := run_make (P := Tryz.prog) w 44 25 i _ Tryz.underlying44 hi hz .i64 .i64 l c (by omega) (by omega) (by rw [hb]; omega) (by omega)
  rw [Int.toNat_natCast, Int.toNat_natCast, hs, Nat.mul_one] at hr
  rw [hr, ← nils_made]
  rfl
set_option maxHeartbeats 400000 in
theorem clone_any (v : Value) (l : List Int) (w : World) (h : Bs w v l) (hl : l.length ≤ 1000000) :
    Calls Tryz.prog 30 #[v] w fun e w' => ∃ v', e = .returned v' ∧ w'.ownsRow w.heap.size 5 1 v' l.length (l.map (Value.int .u8)) ∧ Gr w w' := by
  have HS := Lib.hid h
  obtain ⟨_, oa, c, rfl, h1, h2, h3, _⟩ := h
  obtain ⟨n, hn⟩ : ∃ n, l.length = n := ⟨_, rfl⟩
  rw [hn] at HS h1 hl ⊢
  have HN := Lib.hid hn
  clear hn
  have hnil : ∀ (W : World) (x : Option Addr) (p q : Nat), (binOp .eql 25 (.slice x p q) (.slice none 0 0)).run Tryz.prog W = .ok (.bool x.isNone) W := fun W x p q => Lib.run_eql_slice_nil W _ _ x p q 0 0 Tryz.underlying25
  cases oa with
  | none =>
    obtain rfl : c = 0 := h3 rfl
    obtain rfl : n = 0 := by omega
    obtain rfl : l = [] := List.eq_nil_of_length_eq_zero HN.out
    clear HS h3
    go_enter Tryz.func30, Tryz.ntmps30
    go_wp2
    go_ret
    exact ⟨_, rfl, World.ownsRow_nil _ _ _ _, Gr.refl _⟩
  | some a =>
    clear h3
    have hown : Hid ((w.alloc (.cells #[] 5)).ownsRow w.heap.size 5 1 (.slice (some ⟨w.heap.size, 0, none⟩) 0 0) 0 (([] : List Int).map (Value.int .u8))) := Lib.hid ⟨rfl, .inr ⟨w.heap.size, 0, #[], rfl, Nat.le_refl _, heap_alloc_new _ _, Nat.le_refl _, by unfold maxLen; omega, rfl, rfl⟩⟩
    have hg : Hid (Gr w (w.alloc (.cells #[] 5))) := Lib.hid (Gr.alloc (Gr.refl _) _ _)
    go_enter Tryz.func30, Tryz.ntmps30
    go_wp2_with (first
      | (at_builtin; refine wpList_append_bytes rfl _ _ rfl w.heap.size _ 0 [] rfl (by exact hown.out) (some a) n c l rfl (Bs.grown HS.out hg.out) (by omega) (by exact hg.out.size) ?_; intro v2 w2 hown2 hgrow2; rw [Nat.zero_add, List.nil_append] at hown2; obtain ⟨o2, c2, rfl⟩ := ownsRow_form hown2; have H2 := Lib.hid hown2; have G2 := Lib.hid (Gr.append hg.out hgrow2 (ownsRow_base hown.out)); clear hown2 hgrow2))
    go_ret
    exact ⟨_, rfl, H2.out, G2.out⟩
theorem clone_new (v : Value) (l : List Int) (w : World) (h : Bs w v l) (hl : l.length ≤ 1000000) :
    Calls Tryz.prog 30 #[v] w fun e w' => ∃ v', e = .returned v' ∧ New w w' v' l := by
  have hb := h.1
  refine (clone_any v l w h hl).mono ?_
  rintro e w' ⟨v', rfl, h1, h2⟩
  exact ⟨v', rfl, New.of_row h2 hb h1⟩
set_option maxHeartbeats 400000 in
theorem clone_nil (w : World) :
    Calls Tryz.prog 30 #[.slice none 0 0] w fun e w' => e = .returned (.slice none 0 0) ∧ w = w' := by
  have hnil : ∀ (W : World) (x : Option Addr) (p q : Nat), (binOp .eql 25 (.slice x p q) (.slice none 0 0)).run Tryz.prog W = .ok (.bool x.isNone) W := fun W x p q => Lib.run_eql_slice_nil W _ _ x p q 0 0 Tryz.underlying25
  go_enter Tryz.func30, Tryz.ntmps30
  go_wp2
  go_ret
  exact ⟨rfl, rfl⟩
end Go.Proofs.YtbabecjphmmngaaGreat
namespace Go.Proofs.YtbabecjphmmngaaGreat
open Go.RowKit

theorem Rn.keptM {base : Nat} {w w' : World} {u : Value} {row : Option Nat} (hr : Rn base w u)
    (hk : ∀ k, k < w.heap.size → some k ≠ row → w'.heap[k]? = w.heap[k]?) (hrow : ∀ g, row = some g → ∀ cur, w.heap[g]? ≠ some (.cells cur 5 (0, 0))) : Rn base w' u := fun a n c hu hn => by
  obtain ⟨h1, cur, h2⟩ := hr a n c hu hn
  refine ⟨h1, cur, ?_⟩
  rw [hk _ (Array.getElem?_eq_some_iff.1 h2).1 (fun e => hrow a.block e.symm cur h2)]
  exact h2
theorem Rn.rbM {base base' : Nat} {w : World} {u : Value} (h : Rn base w u) : Rb base' w u := fun a n c e hn => .inr (h a n c e hn).2
theorem Rn.grM {base : Nat} {w w' : World} {u : Value} (hr : Rn base w u) (hg : Gr w w') : Rn base w' u :=
  Rn.keptM (row := none) hr (fun k hk _ => hg.2.2.2.2 k hk) (fun g h => by cases h)
theorem Rn.lowM {base base' : Nat} {w : World} {u : Value} (hr : Rn base' w u) (hb : base ≤ base') : Rn base w u := fun a n c e hn => ⟨Nat.le_trans hb (hr a n c e hn).1, (hr a n c e hn).2⟩
theorem Rn.setM {base base' n c : Nat} {w : World} {u : Value} {us : List Value} {g : Nat} (hr : Rn base w u) (ho : w.ownsRow base' 25 1 (.slice (some ⟨g, 0, none⟩) n c) n us) (i : Nat) (x : Value) : Rn base (w.setCell ⟨g, i, none⟩ x) u :=
  hr.keptM (row := some g) (fun k _ hk => Below.heap_setCell _ _ _ k (fun e => hk (by rw [e]))) (fun g' e cur => by cases e; exact (ownsRow_not_bytes ho g rfl).2 cur)
theorem New.rnM {w w' : World} {v : Value} {l : List Int} {base : Nat} (h : New w w' v l) (hb : base ≤ w.heap.size) : Rn base w' v := by
  intro a n c hv hn
  obtain ⟨_, _, ⟨rfl, oa, c', rfl, _⟩ | ⟨g, c', cur, rfl, q, h2, _⟩⟩ := h
  · cases hv
    omega
  · cases hv
    exact ⟨Nat.le_trans hb q, cur, h2⟩
theorem ownsRow_lowM {base base' : Nat} {w : World} {e : TypeId} {size k : Nat} {v : Value} {xs : List Value} (h : w.ownsRow base' e size v k xs) (hb : base ≤ base') : w.ownsRow base e size v k xs := by
  obtain ⟨h1, h2 | ⟨g, c, cur, q1, q2, q3⟩⟩ := h
  · exact ⟨h1, .inl h2⟩
  · exact ⟨h1, .inr ⟨g, c, cur, q1, Nat.le_trans hb q2, q3⟩⟩
theorem RwsN.lowM {base base' : Nat} {w : World} {v : Value} {L : List (List Int)} (h : RwsN base' w v L) (hb : base ≤ base') : RwsN base w v L := by
  obtain ⟨us, h1, h2⟩ := h
  exact ⟨us, ownsRow_lowM h1 hb, fun i hi => ⟨(h2 i hi).1, (h2 i hi).2.lowM hb⟩⟩
theorem RwsN.nilM (base : Nat) (w : World) : RwsN base w (.slice none 0 0) [] := ⟨[], World.ownsRow_nil w base 25 1, fun i hi => absurd hi (by simp)⟩
theorem RwsN.grM {base : Nat} {w w' : World} {v : Value} {L : List (List Int)} (h : RwsN base w v L) (hg : Gr w w') : RwsN base w' v L := by
  obtain ⟨us, h1, h2⟩ := h
  exact ⟨us, h1.of_gr hg, fun i hi => ⟨Bs.grown (h2 i hi).1 hg, (h2 i hi).2.grM hg⟩⟩
/-- The row v lies in memory of its own, from base on (New without the world ahead). -/
def Nr (base : Nat) (w : World) (v : Value) (l : List Int) : Prop :=
  (∀ x ∈ l, Byt x) ∧ ((l = [] ∧ ∃ oa c, v = .slice oa 0 c ∧ (oa = none → c = 0) ∧ c ≤ 9223372036854775807) ∨
    ∃ g c cur, v = .slice (some ⟨g, 0, none⟩) l.length c ∧ base ≤ g ∧ w.heap[g]? = some (.cells cur 5 (0, 0)) ∧ l.length ≤ c ∧ c ≤ 9223372036854775807 ∧ ∀ i, i < l.length → cur[i]? = some (.int .u8 (l.getD i 0)))
theorem New.nr {w w' : World} {v : Value} {l : List Int} (h : New w w' v l) : Nr w.heap.size w' v l := h.2
theorem Nr.new {w w' : World} {v : Value} {l : List Int} (h : Nr w.heap.size w' v l) (hg : Gr w w') : New w w' v l := ⟨hg, h⟩
theorem Nr.low {base base' : Nat} {w : World} {v : Value} {l : List Int} (h : Nr base' w v l) (hb : base ≤ base') : Nr base w v l := by
  obtain ⟨h1, h2 | ⟨g, c, cur, e, h2, h3⟩⟩ := h
  · exact ⟨h1, .inl h2⟩
  · exact ⟨h1, .inr ⟨g, c, cur, e, Nat.le_trans hb h2, h3⟩⟩
theorem Nr.keptM {base : Nat} {w w' : World} {v : Value} {l : List Int} {row : Option Nat} (h : Nr base w v l)
    (hk : ∀ k, k < w.heap.size → some k ≠ row → w'.heap[k]? = w.heap[k]?) (hrow : ∀ g, row = some g → ∀ cur, w.heap[g]? ≠ some (.cells cur 5 (0, 0))) : Nr base w' v l := by
  obtain ⟨h1, h2 | ⟨g, c, cur, e, h2, h3, h4⟩⟩ := h
  · exact ⟨h1, .inl h2⟩
  · refine ⟨h1, .inr ⟨g, c, cur, e, h2, ?_, h4⟩⟩
    rw [hk _ (Array.getElem?_eq_some_iff.1 h3).1 (fun e => hrow g e.symm cur h3)]
    exact h3
theorem Nr.grM {base : Nat} {w w' : World} {v : Value} {l : List Int} (h : Nr base w v l) (hg : Gr w w') : Nr base w' v l :=
  Nr.keptM (row := none) h (fun k hk _ => hg.2.2.2.2 k hk) (fun g h => by cases h)
theorem Nr.setM {base base' n c : Nat} {w : World} {u : Value} {l : List Int} {us : List Value} {g : Nat} (hr : Nr base w u l) (ho : w.ownsRow base' 25 1 (.slice (some ⟨g, 0, none⟩) n c) n us) (i : Nat) (x : Value) : Nr base (w.setCell ⟨g, i, none⟩ x) u l :=
  hr.keptM (row := some g) (fun k _ hk => Below.heap_setCell _ _ _ k (fun e => hk (by rw [e]))) (fun g' e cur => by cases e; exact (ownsRow_not_bytes ho g rfl).2 cur)
end Go.Proofs.YtbabecjphmmngaaGreat
namespace Go.Proofs.YtbabecjphmmngaaGreat
open Go.RowKit

/-- Since w0, block g holds n rows, of which the first j are as P says. -/
structure Fill (w0 W : World) (g n : Nat) (P : Nat → List Int → Prop) (j : Nat) (us : List Value) (L : List (List Int)) : Prop where
  own : W.ownsRow w0.heap.size 25 1 (.slice (some ⟨g, 0, none⟩) n n) n us
  row : ∀ i, i < n → Bs W (us.getD i undef) (L.getD i []) ∧ Rb w0.heap.size W (us.getD i undef)
  len : L.length = n
  is : ∀ i, i < j → P i (L.getD i [])
  gr : Gr w0 W
section
variable {w0 W : World} {g n : Nat} {P : Nat → List Int → Prop} {j : Nat} {us : List Value} {L : List (List Int)}
theorem Fill.start (w : World) (n : Nat) (hn : n ≤ 1000000) (P : Nat → List Int → Prop) : Fill w (w.alloc (.cells (nils n) 25)) w.heap.size n P 0 (List.replicate n (.slice none 0 0)) (List.replicate n []) := by
  refine ⟨⟨by simp, .inr ⟨w.heap.size, n, nils n, rfl, Nat.le_refl _, heap_alloc_new _ _, Nat.le_refl _, by unfold maxLen; omega, by simp [nils], by simp [nils]⟩⟩, fun i hi => ?_, by simp, by omega, Gr.alloc (Gr.refl _) _ _⟩
  have e1 : (List.replicate n (Value.slice none 0 0)).getD i undef = .slice none 0 0 := by rw [List.getD_eq_getElem?_getD, List.getElem?_replicate, if_pos hi]; rfl
  have e2 : (List.replicate n ([] : List Int)).getD i [] = [] := by rw [List.getD_eq_getElem?_getD, List.getElem?_replicate, if_pos hi]; rfl
  rw [e1, e2]
  exact ⟨Bs.nil _, fun a n c e _ => by cases e⟩
theorem Fill.cell (h : Fill w0 W g n P j us L) (i : Nat) (hi : i < n) : W.cell? ⟨g, i, none⟩ = some (us.getD i undef) := by
  obtain ⟨g', c', he, _, _, _, _, hc⟩ := ownsRow_cell h.own (by omega)
  cases he
  exact hc i hi
theorem Fill.frozen (h : Fill w0 W g n P j us L) (i : Nat) : W.frozen? ⟨g, i, none⟩ = false := by
  obtain ⟨_, ⟨he, _⟩ | ⟨g', c', cur, he, _, hg, _⟩⟩ := h.own
  · cases he
  · cases he
    exact frozen_of_row W g i _ _ hg
theorem Fill.base (h : Fill w0 W g n P j us L) : w0.heap.size ≤ g := (ownsRow_not_bytes h.own g rfl).1
theorem Fill.grow {W' : World} (h : Fill w0 W g n P j us L) (hg : Gr W W') : Fill w0 W' g n P j us L :=
  ⟨h.own.of_gr hg, fun i hi => Rb.gr (h.row i hi).1 (h.row i hi).2 hg, h.len, h.is, Gr.trans h.gr hg⟩
theorem Fill.put {u : Value} {l : List Int} (h : Fill w0 W g n P j us L) (hj : j < n) (hb : Bs W u l) (hrb : Rb w0.heap.size W u) (hp : P j l) :
    Fill w0 (W.setCell ⟨g, j, none⟩ u) g n P (j + 1) (us.set j u) (L.set j l) := by
  obtain ⟨h1, h2⟩ := Rws.set h.own h.len h.row j hj hb hrb
  refine ⟨h1, h2, by rw [List.length_set]; exact h.len, fun i hi => ?_, Gr.setCell h.gr h.base u⟩
  by_cases e : i = j
  · subst e
    rw [getD_set_self _ _ _ (by rw [h.len]; exact hj)]
    exact hp
  · rw [getD_set_ne _ _ _ _ (fun c => e c.symm)]
    exact h.is i (by omega)
theorem Fill.bss (h : Fill w0 W g n P j us L) : Bss W (.slice (some ⟨g, 0, none⟩) n n) L := owns_bss h.own h.len fun i hi => (h.row i (by rw [← h.len]; exact hi)).1
end
theorem L.lc_snoc : ∀ (X : List L.V) (c y : L.V), L.lc c (X ++ [y]) = L.vadd (L.lc c X) (L.smul (c X.length) y)
  | [], c, y => by
    show L.vadd (L.smul (c 0) y) L.vzero = L.vadd L.vzero (L.smul (c 0) y)
    rw [L.vadd_zero, L.vzero_add]
  | x :: X, c, y => by
    show L.vadd (L.smul (c 0) x) (L.lc (fun i => c (i + 1)) (X ++ [y])) = L.vadd (L.vadd (L.smul (c 0) x) (L.lc (fun i => c (i + 1)) X)) (L.smul (c (X.length + 1)) y)
    rw [L.lc_snoc X, L.vadd_assoc]
theorem axL_byt {c : Int} {x y : List Int} (hy : ∀ z ∈ y, Byt z) : ∀ z ∈ axL c x y, Byt z := by
  rw [← lst_eq_ax]
  exact axF_byt fun i => getD_byt hy i
/-- l is the sum of the first rows of X, each times the element of r with its index. -/
def IsW (m : Nat) (r : List Int) (X : List (List Int)) (l : List Int) : Prop := l.length = m ∧ (∀ x ∈ l, Byt x) ∧ vec l = L.lc (vec r) (X.map vec)
theorem IsW.start (m : Nat) (r : List Int) : IsW m r [] (List.replicate m 0) := by
  refine ⟨by simp, fun x hx => ?_, ?_⟩
  · rw [(List.mem_replicate.1 hx).2]
    unfold Byt
    omega
  · funext i
    show fb ((List.replicate m 0).getD i 0) = L.zero
    rw [replicate_getD, fb_zero]
theorem IsW.next {m j : Nat} {r l : List Int} {X : List (List Int)} (h : IsW m r (X.take j) l) (hr : ∀ x ∈ r, Byt x) (hX : Wide m X) (hj : j < X.length) : IsW m r (X.take (j + 1)) (axL (r.getD j 0) (X.getD j []) l) := by
  obtain ⟨h1, h2, h3⟩ := h
  have hx := hX.at j hj
  have hlen : ((X.take j).map vec).length = j := by rw [List.length_map, List.length_take]; omega
  refine ⟨by rw [axL_length]; exact hx.1, axL_byt h2, ?_⟩
  rw [vec_ax (getD_byt hr j) hx.2 h2 (by rw [hx.1, h1]), h3, List.take_add_one, List.getElem?_eq_getElem hj]
  show _ = L.lc (vec r) ((X.take j ++ [X[j]]).map vec)
  rw [List.map_append, List.map_singleton, L.lc_snoc, hlen, List.getD_eq_getElem?_getD (l := X), List.getElem?_eq_getElem hj]
  rfl
set_option maxRecDepth 100000 in
set_option maxHeartbeats 800000 in
theorem weighted_any (f vr vx : Value) (r : List Int) (X : List (List Int)) (w : World) (hf : IsF w f) (hr : Bs w vr r) (hx : Bss w vx X) (hl : X.length ≤ 1000) (hrl : r.length = X.length) (hX : Wide (wd X) X) (hm : wd X ≤ 64) :
    Calls Tryz.prog 60 #[f, vr, vx] w fun e w' => ∃ v l, e = .returned v ∧ New w w' v l ∧ IsW (wd X) r X l := by
  have HS := Lib.hid hx
  have HF := Lib.hid hf
  have HRB := Lib.hid hr.1
  have HXW := Lib.hid hX
  obtain ⟨_, oar, cr, rfl, r1, r2, r3, r4⟩ := hr
  obtain ⟨oa, c0, rfl, h1, h2, h3, h4⟩ := hx
  obtain ⟨n, hn⟩ : ∃ n, X.length = n := ⟨_, rfl⟩
  obtain ⟨m, hmm⟩ : ∃ m, wd X = m := ⟨_, rfl⟩
  rw [hrl] at r1 r4 ⊢
  rw [hn] at HS h1 h4 hl r1 r4 hrl ⊢
  rw [hmm] at HXW hm ⊢
  have HA := Lib.hid h4
  have HR := Lib.hid r4
  have HN := Lib.hid hn
  have HMM := Lib.hid hmm
  have hoa : n = 0 ∨ ∃ a, oa = some a := by
    cases oa with
    | none => exact .inl (by have := h3 rfl; omega)
    | some a => exact .inr ⟨a, rfl⟩
  have hor : n = 0 ∨ ∃ a, oar = some a := by
    cases oar with
    | none => exact .inl (by have := r3 rfl; omega)
    | some a => exact .inr ⟨a, rfl⟩
  have hmk := make22 m m (by omega) (by omega)
  have hR : ∃ cur, cur = rowB (List.replicate m 0) := ⟨_, rfl⟩
  obtain ⟨cur, hcur⟩ := hR
  rw [← hcur] at hmk
  have HC := Lib.hid hcur
  have HRL := Lib.hid hrl
  clear hf hX hn hmm h3 h4 r3 r4 hcur hrl
  go_enter Tryz.func60, Tryz.ntmps60
  go_wp2_with (first | (go_at_call 39; refine (columns_any _ X _ HS.out).mono ?_; rw [HMM.out]; rintro e w1 ⟨rfl, hg1⟩; have G1 := Lib.hid hg1; clear hg1))
  clear hmk
  have HB : Hid (New w (w1.alloc (.cells cur 5)) (.slice (some ⟨w1.heap.size, 0, none⟩) m m) (List.replicate m 0)) := Lib.hid (New.of_blk (Gr.alloc G1.out _ _) (IsW.start m r).2.1 G1.out.size (by rw [HC.out]; exact heap_alloc_new _ _) (by simp) (by omega))
  clear HC
  generalize hW : w1.alloc (.cells cur 5) = W at *
  generalize hG : w1.heap.size = g at *
  go_loopw [7, 15] (fun sv i wr => ∃ (j : Nat) (l : List Int), j ≤ n ∧ i = .int .i64 j ∧ New w wr sv l ∧ IsW m r (X.take j) l) (fun _ i _ => n - (intOf i).toNat)
  case atStart => exact ⟨0, _, by omega, rfl, HB.out, by rw [List.take_zero]; exact IsW.start m r⟩
  case round =>
    clear HB
    obtain ⟨j, l, hj, rfl, hnw, hw⟩ := hrel
    obtain ⟨o2, m2, c2, rfl⟩ := New.form3 hnw
    by_cases hlt : j < n
    · obtain ⟨a, rfl⟩ : ∃ a, oa = some a := by
        rcases hoa with c1 | c1
        · omega
        · exact c1
      obtain ⟨ar, rfl⟩ : ∃ a, oar = some a := by
        rcases hor with c1 | c1
        · omega
        · exact c1
      obtain ⟨u, q0, hu⟩ := HA.out a rfl j hlt
      have q1 := cell_grown hnw.1 q0
      have q2 := cell_grown hnw.1 (HR.out ar rfl j hlt)
      have hzb := getD_byt HRB.out j
      have HU := Lib.hid (Bs.grown hu hnw.1)
      obtain ⟨ou, cu, rfl⟩ := hu.form
      have hxw := HXW.out.at j (by rw [HN.out]; exact hlt)
      have HW := Lib.hid hw
      have HNW := Lib.hid hnw
      have HXL := Lib.hid hxw.1
      obtain ⟨z, hz⟩ : ∃ z, r.getD j 0 = z := ⟨_, rfl⟩
      rw [hz] at q2 hzb
      have HZ := Lib.hid hz
      rw [hxw.1] at HU q1
      clear hz q0 hu hxw hw hnw
      go_wp2_with (first | (go_at_call 81; refine (ok_axpy f _ _ z (X.getD j []) l _ (IsF.grown HF.out HNW.out.1) hzb HU.out HNW.out.bs (by rw [HXL.out]; omega) (by rw [HXL.out]; exact HW.out.1)).mono ?_; rintro e w2 ⟨v2, rfl, hnw2⟩; have HN2 := Lib.hid hnw2; clear hnw2))
      refine ⟨⟨j + 1, _, by omega, by go_num, New.under HNW.out.1 HN2.out, ?_⟩, by simp [intOf]; omega⟩
      rw [← HZ.out]
      exact HW.out.next HRB.out HXW.out (by rw [HN.out]; exact hlt)
    · obtain rfl : j = n := by omega
      rw [List.take_of_length_le (by rw [HN.out]; omega)] at hw
      have HW := Lib.hid hw
      have HNW := Lib.hid hnw
      clear hw hnw
      go_wp2
      go_ret
      exact ⟨_, l, rfl, HNW.out, HW.out⟩
theorem isMul_of {m : Nat} {A X o : List (List Int)} (hl : o.length = A.length) (h : ∀ i, i < A.length → IsW m (A.getD i []) X (o.getD i [])) : IsMul m A X o := by
  refine ⟨fun r hr => ?_, ?_⟩
  · obtain ⟨i, hi, rfl⟩ := List.getElem_of_mem hr
    have := h i (by omega)
    rw [List.getD_eq_getElem?_getD (l := o), List.getElem?_eq_getElem hi] at this
    exact ⟨this.1, this.2.1⟩
  · apply List.ext_getElem
    · simp [L.mulM, hl]
    intro i h1 h2
    rw [List.length_map] at h1
    have := (h i (by omega)).2.2
    rw [List.getD_eq_getElem?_getD (l := o), List.getElem?_eq_getElem h1, List.getD_eq_getElem?_getD (l := A), List.getElem?_eq_getElem (by omega)] at this
    simpa [L.mulM] using this
set_option maxRecDepth 100000 in
set_option maxHeartbeats 1600000 in
theorem mul_pos (f va vx : Value) (A X : List (List Int)) (w : World) (hf : IsF w f) (ha : Bss w va A) (hx : Bss w vx X) (hl : A.length ≤ 1000) (hlx : X.length ≤ 1000) (hma : mayL A = true) (hmx : mayL X = true) (h0 : 0 < A.length) (he : wd A = X.length) :
    Calls Tryz.prog 32 #[f, va, vx] w fun e w' => ∃ v out, e = .returned (.tuple #[v, .bool true]) ∧ Bss w' v out ∧ Gr w w' ∧ IsMul (wd X) A X out ∧ ∃ (g : Nat) (us : List Value), v = .slice (some ⟨g, 0, none⟩) A.length A.length ∧ ∀ i, i < A.length → w'.cell? ⟨g, i, none⟩ = some (us.getD i undef) ∧ Nr w.heap.size w' (us.getD i undef) (out.getD i []) := by
  have WA := Lib.hid (Wide.of_bss ha hma)
  have WX := Lib.hid (Wide.of_bss hx hmx)
  have HM := Lib.hid hma
  have HMX := Lib.hid hmx
  have HS := Lib.hid ha
  have HSX := Lib.hid hx
  have HF := Lib.hid hf
  have hm64 : wd X ≤ 64 := by
    by_cases hx0 : 0 < X.length
    · exact (mayL_at hmx 0 hx0).2
    · have : X = [] := List.eq_nil_of_length_eq_zero (by omega)
      subst this
      exact Nat.zero_le _
  have HM64 := Lib.hid hm64
  obtain ⟨a, c0, rfl, h1, h2, h3⟩ := Bss.at ha h0
  obtain ⟨ox, cx, rfl, x1, x2, x3, x4⟩ := hx
  have HA := Lib.hid h3
  obtain ⟨n, hn⟩ : ∃ n, A.length = n := ⟨_, rfl⟩
  obtain ⟨p, hp⟩ : ∃ p, X.length = p := ⟨_, rfl⟩
  rw [hn] at HS h1 hl h0 HA ⊢
  rw [hp] at HSX x1 hlx he ⊢
  have HN := Lib.hid hn
  have HP := Lib.hid hp
  have HE := Lib.hid he
  have hmk := make24 n n (by omega) (by omega)
  have hR : ∃ cur, cur = nils n := ⟨_, rfl⟩
  obtain ⟨cur, hcur⟩ := hR
  rw [← hcur] at hmk
  have HC := Lib.hid hcur
  clear hf ha hma hmx hm64 h3 x3 x4 hn hp he hcur
  go_enter Tryz.func32, Tryz.ntmps32
  go_wp2_with fail
  refine (may_any _ A w HS.out (by rw [HN.out]; omega)).mono ?_
  rintro e w1 ⟨rfl, hg1⟩
  rw [HM.out]
  have G1 := Lib.hid hg1
  clear hg1
  go_wp2_with fail
  refine (may_any _ X w1 (Bss.grown HSX.out G1.out) (by rw [HP.out]; omega)).mono ?_
  rintro e w2 ⟨rfl, hg2⟩
  rw [HMX.out]
  have G2 := Lib.hid (Gr.trans G1.out hg2)
  clear hg2
  go_wp2_with fail
  refine (columns_any _ A w2 (Bss.grown HS.out G2.out)).mono ?_
  rw [HE.out]
  rintro e w3 ⟨rfl, hg3⟩
  have G3 := Lib.hid (Gr.trans G2.out hg3)
  clear hg3
  go_wp2_with fail
  refine (mtabled_any f _ (IsF.grown HF.out G3.out)).mono ?_
  rintro e w4 ⟨b, rfl, hfb, hg4⟩
  have HFB := Lib.hid hfb
  have G4 := Lib.hid (Gr.trans G3.out hg4)
  clear hfb hg4
  go_wp2_with fail
  have HB : Hid (Fill w4 (w4.alloc (.cells cur 25)) w4.heap.size n (fun i l => IsW (wd X) (A.getD i []) X l) 0 (List.replicate n (.slice none 0 0)) (List.replicate n [])) := Lib.hid (by rw [HC.out]; exact Fill.start w4 n (by omega) _)
  clear HC hmk
  generalize hW : w4.alloc (.cells cur 25) = W at *
  generalize hG : w4.heap.size = g at *
  go_loopw [38] (fun i wr => ∃ (j : Nat) (us : List Value) (L : List (List Int)), j ≤ n ∧ i = .int .i64 j ∧ Fill w4 wr g n (fun i l => IsW (wd X) (A.getD i []) X l) j us L ∧ ∀ t, t < j → Nr w.heap.size wr (us.getD t undef) (L.getD t [])) (fun i _ => n - (intOf i).toNat)
  case atStart => exact ⟨0, _, _, by omega, rfl, HB.out, fun t ht => by omega⟩
  case round =>
    clear HB
    obtain ⟨j, us, Lx, hj, rfl, hfl, hnr⟩ := hrel
    have FL := Lib.hid hfl
    have NR := Lib.hid hnr
    clear hfl hnr
    by_cases hlt : j < n
    · obtain ⟨u, q0, hu⟩ := HA.out j hlt
      have q1 := cell_grown (Gr.trans G4.out FL.out.gr) q0
      have HU := Lib.hid (Bs.grown hu (Gr.trans G4.out FL.out.gr))
      obtain ⟨ou, cu, rfl⟩ := hu.form
      have qc := FL.out.cell j hlt
      have qf := FL.out.frozen j
      have HAL := Lib.hid (WA.out.at j (by rw [HN.out]; exact hlt)).1
      rw [HAL.out, HE.out] at q1 HU
      clear q0 hu
      go_wp2_with (first | (go_at_call 60; refine (weighted_any _ _ _ (A.getD j []) X _ (Or.inr ⟨b, rfl, FieldAt.grown HFB.out FL.out.gr⟩) HU.out (Bss.grown HSX.out (Gr.trans G4.out FL.out.gr)) (by rw [HP.out]; exact hlx) (by rw [HAL.out, HE.out, HP.out]) WX.out HM64.out).mono ?_; rintro e w5 ⟨v5, l5, rfl, hnw, hw5⟩; obtain ⟨o5, m5, c5, rfl⟩ := New.form3 hnw; have hc5 := cell_grown hnw.1 qc; have hf5 := frozen_grown hnw.1 qc qf; have HN5 := Lib.hid hnw; have HW5 := Lib.hid hw5; clear hnw hw5))
      have hgs : w.heap.size ≤ wr.heap.size := (Gr.trans G4.out FL.out.gr).size
      have hus : us.length = n := by have := FL.out.own.1; omega
      refine ⟨⟨j + 1, _, _, by omega, by go_num, (FL.out.grow HN5.out.1).put hlt (New.bs HN5.out) (New.rb HN5.out _) HW5.out, fun t ht => ?_⟩, by simp [intOf]; omega⟩
      by_cases e : t = j
      · subst e
        rw [List.getD_eq_getElem?_getD, List.getElem?_set_self (by omega), getD_set_self _ _ _ (by rw [FL.out.len]; exact hlt)]
        exact (HN5.out.nr.low hgs).setM (FL.out.own.of_gr HN5.out.1) _ _
      · rw [List.getD_eq_getElem?_getD, List.getElem?_set_ne (fun c => e c.symm), ← List.getD_eq_getElem?_getD, getD_set_ne _ _ _ _ (fun c => e c.symm)]
        exact ((NR.out t (by omega)).grM HN5.out.1).setM (FL.out.own.of_gr HN5.out.1) _ _
    · obtain rfl : j = n := by omega
      go_wp2
      go_ret2
      exact ⟨_, Lx, rfl, FL.out.bss, Gr.trans G4.out FL.out.gr, isMul_of (by rw [FL.out.len, HN.out]) (fun i hi => FL.out.is i (by rw [← HN.out]; exact hi)), g, us, rfl, fun i hi => ⟨FL.out.cell i hi, NR.out i hi⟩⟩
set_option maxRecDepth 100000 in
set_option maxHeartbeats 1600000 in
theorem mul_none (f vx : Value) (oa : Option Addr) (ca : Nat) (X : List (List Int)) (w : World) (hf : IsF w f) (ha : Bss w (.slice oa 0 ca) []) (hx : Bss w vx X) (hlx : X.length ≤ 1000) (hmx : mayL X = true) :
    Calls Tryz.prog 32 #[f, .slice oa 0 ca, vx] w fun e w' => ∃ v out, e = .returned (.tuple #[v, .bool true]) ∧ Bss w' v out ∧ Gr w w' ∧ IsMul (wd X) [] X out := by
  have HMX := Lib.hid hmx
  have HS := Lib.hid ha
  have HSX := Lib.hid hx
  have HF := Lib.hid hf
  have hmk : ∀ w, (Instr.makeSlice 44 (.int .i64 0) (.int .i64 0)).run Tryz.prog w = .ok (.slice (some ⟨w.heap.size, 0, none⟩) 0 0) (w.alloc (.cells (nils 0) 25)) := fun w => make24 0 0 (by omega) (by omega) w
  have hR : ∃ cur, cur = nils 0 := ⟨_, rfl⟩
  obtain ⟨cur, hcur⟩ := hR
  rw [← hcur] at hmk
  have HC := Lib.hid hcur
  clear hf ha hx hmx hcur
  go_enter Tryz.func32, Tryz.ntmps32
  go_wp2_with fail
  refine (may_any _ [] w HS.out (by simp)).mono ?_
  rintro e w1 ⟨rfl, hg1⟩
  rw [show mayL [] = true from rfl]
  have G1 := Lib.hid hg1
  clear hg1
  go_wp2_with fail
  refine (may_any _ X w1 (Bss.grown HSX.out G1.out) (by omega)).mono ?_
  rintro e w2 ⟨rfl, hg2⟩
  rw [HMX.out]
  have G2 := Lib.hid (Gr.trans G1.out hg2)
  clear hg2
  go_wp2_with fail
  refine (mtabled_any f _ (IsF.grown HF.out G2.out)).mono ?_
  rintro e w4 ⟨b, rfl, hfb, hg4⟩
  have G4 := Lib.hid (Gr.trans G2.out hg4)
  clear hfb hg4
  go_wp2_with fail
  have HB : Hid (Fill w4 (w4.alloc (.cells cur 25)) w4.heap.size 0 (fun _ _ => True) 0 (List.replicate 0 (.slice none 0 0)) (List.replicate 0 [])) := Lib.hid (by rw [HC.out]; exact Fill.start w4 0 (by omega) _)
  clear HC hmk
  generalize hW : w4.alloc (.cells cur 25) = W at *
  generalize hG : w4.heap.size = g at *
  go_loopw [38] (fun i wr => i = .int .i64 0 ∧ wr = W) (fun _ _ => 0)
  case atStart => exact ⟨rfl, rfl⟩
  case round =>
    obtain ⟨rfl, rfl⟩ := hrel
    go_wp2
    go_ret2
    exact ⟨_, [], rfl, HB.out.bss, Gr.trans G4.out HB.out.gr, isMul_of rfl (fun i hi => by simp at hi)⟩
set_option maxRecDepth 100000 in
set_option maxHeartbeats 1600000 in
theorem ok_mulNe : ∀ (f va vx : Value) (A X : List (List Int)) (w : World), IsF w f → Bss w va A → Bss w vx X → A.length ≤ 1000 → X.length ≤ 1000 → mayL A = true → mayL X = true → A ≠ [] → wd A ≠ X.length →
    Calls Tryz.prog 32 #[f, va, vx] w fun e w' => ∃ v, e = .returned (.tuple #[v, .bool false]) ∧ Bss w' v [] ∧ Gr w w' := by
  intro f va vx A X w _ ha hx hl hlx hma hmx hne he
  have h0 : 0 < A.length := List.length_pos_iff.2 hne
  have HM := Lib.hid hma
  have HMX := Lib.hid hmx
  have HS := Lib.hid ha
  have HSX := Lib.hid hx
  obtain ⟨a, c0, rfl, h1, h2, h3⟩ := Bss.at ha h0
  obtain ⟨ox, cx, rfl, x1, x2, x3, x4⟩ := hx
  obtain ⟨n, hn⟩ : ∃ n, A.length = n := ⟨_, rfl⟩
  obtain ⟨p, hp⟩ : ∃ p, X.length = p := ⟨_, rfl⟩
  obtain ⟨k, hk⟩ : ∃ k, wd A = k := ⟨_, rfl⟩
  rw [hn] at HS h1 hl h0 ⊢
  rw [hp] at HSX x1 hlx he ⊢
  rw [hk] at he
  have HN := Lib.hid hn
  have HP := Lib.hid hp
  have HK := Lib.hid hk
  have hb : ((k : Int) != (p : Int)) = true := by simp; omega
  clear ha hma hmx hne h3 x3 x4 hn hp hk he
  go_enter Tryz.func32, Tryz.ntmps32
  go_wp2_with fail
  refine (may_any _ A w HS.out (by rw [HN.out]; omega)).mono ?_
  rintro e w1 ⟨rfl, hg1⟩
  rw [HM.out]
  have G1 := Lib.hid hg1
  clear hg1
  go_wp2_with fail
  refine (may_any _ X w1 (Bss.grown HSX.out G1.out) (by rw [HP.out]; omega)).mono ?_
  rintro e w2 ⟨rfl, hg2⟩
  rw [HMX.out]
  have G2 := Lib.hid (Gr.trans G1.out hg2)
  clear hg2
  go_wp2_with fail
  refine (columns_any _ A w2 (Bss.grown HS.out G2.out)).mono ?_
  rw [HK.out]
  rintro e w3 ⟨rfl, hg3⟩
  have G3 := Lib.hid (Gr.trans G2.out hg3)
  clear hg3
  go_wp2
  go_ret2
  exact ⟨_, rfl, Bss.nil _, G3.out⟩
theorem ok_mul : ∀ (f va vx : Value) (A X : List (List Int)) (w : World), IsF w f → Bss w va A → Bss w vx X → A.length ≤ 1000 → X.length ≤ 1000 → mayL A = true → mayL X = true → (A = [] ∨ wd A = X.length) →
    Calls Tryz.prog 32 #[f, va, vx] w fun e w' => ∃ v out, e = .returned (.tuple #[v, .bool true]) ∧ Bss w' v out ∧ Gr w w' ∧ IsMul (wd X) A X out :=
  fun f va vx A X w hf ha hx hl hlx hma hmx he => by
    by_cases h0 : 0 < A.length
    · refine (mul_pos f va vx A X w hf ha hx hl hlx hma hmx h0 ?_).mono fun _ _ ⟨v, o, h1, h2, h3, h4, _⟩ => ⟨v, o, h1, h2, h3, h4⟩
      rcases he with rfl | he
      · simp at h0
      · exact he
    · obtain rfl : A = [] := List.eq_nil_of_length_eq_zero (by omega)
      have hs := ha
      obtain ⟨oa, c, rfl, _, _, _, _⟩ := ha
      exact mul_none f vx oa c X w hf hs hx hlx hmx
end Go.Proofs.YtbabecjphmmngaaGreat
namespace Go.Proofs.YtbabecjphmmngaaGreat
open Go.RowKit

/-- Row h while it is being written: the first j of the source symbols are there. -/
def midF (K h j : Nat) : Nat → Int := fun i => if i < K ∧ j ≤ i then 0 else aheadF K h i
theorem midF_zero (K H h : Nat) : lst (K + H) (midF K h 0) = unitL (K + H) (K + h) := by
  apply lst_congr
  intro i _
  unfold midF aheadF
  by_cases c : i < K
  · rw [if_pos ⟨c, by omega⟩, if_neg (by omega)]
  · rw [if_neg (by omega), if_neg c]
theorem midF_all (K H h : Nat) : lst (K + H) (midF K h K) = aheadRow K H h := by
  apply lst_congr
  intro i _
  unfold midF
  rw [if_neg (by omega)]
theorem midF_set {K h j : Nat} (N : Nat) (hj : j < K) : (lst N (midF K h j)).set j (aheadF K h j) = lst N (midF K h (j + 1)) := by
  rw [lst_set]
  apply lst_congr
  intro i _
  unfold midF
  by_cases e : i = j
  · subst e
    rw [if_pos rfl, if_neg (by omega)]
  · rw [if_neg e]
    by_cases c : i < K ∧ j ≤ i
    · rw [if_pos c, if_pos (by omega)]
    · rw [if_neg c, if_neg (by omega)]
theorem midF_byt (K h j i : Nat) : Byt (midF K h j i) := by
  unfold midF
  split
  · unfold Byt
    omega
  · exact aheadF_byt K h i
/-- The row in block g, of which the first j elements are written. -/
structure Mid (w W : World) (g N c : Nat) (K h j : Nat) : Prop where
  gr : Gr w W
  le : w.heap.size ≤ g
  cap : N ≤ c ∧ c ≤ 9223372036854775807
  blk : ∃ cur, W.heap[g]? = some (.cells cur 5 (0, 0)) ∧ ∀ i, i < N → cur[i]? = some (.int .u8 (midF K h j i))
theorem Mid.frozen {w W : World} {g N c K h j : Nat} (m : Mid w W g N c K h j) (i : Nat) : W.frozen? ⟨g, i, none⟩ = false := by
  obtain ⟨cur, h1, _⟩ := m.blk
  exact frozen_of_row W g i _ _ h1
theorem Mid.cell {w W : World} {g N c K h j : Nat} (m : Mid w W g N c K h j) (i : Nat) (hi : i < N) : W.cell? ⟨g, i, none⟩ = some (.int .u8 (midF K h j i)) := by
  obtain ⟨cur, h1, h2⟩ := m.blk
  rw [cell_of_row W g i _ _ _ h1, h2 i hi]
theorem Mid.more {w W W' : World} {g N c K h j : Nat} (m : Mid w W g N c K h j) (hg : Gr W W') : Mid w W' g N c K h j := by
  obtain ⟨cur, h1, h2⟩ := m.blk
  exact ⟨Gr.trans m.gr hg, m.le, m.cap, cur, keptRow hg h1, h2⟩
theorem Mid.put {w W : World} {g N c K h j : Nat} (m : Mid w W g N c K h j) (hj : j < K) (hN : K ≤ N) : Mid w (W.setCell ⟨g, j, none⟩ (.int .u8 (aheadF K h j))) g N c K h (j + 1) := by
  obtain ⟨cur, h1, h2⟩ := m.blk
  refine ⟨Gr.setCell m.gr m.le _, m.le, m.cap, _, heap_setCell_same _ _ _ _ _ _ h1, fun i hi => ?_⟩
  rw [Array.getElem?_setIfInBounds]
  have hs : j < cur.size := (Array.getElem?_eq_some_iff.1 (h2 j (by omega))).1
  unfold midF
  by_cases e : j = i
  · subst e
    rw [if_pos rfl, if_pos hs, if_neg (by omega)]
  · rw [if_neg e, h2 i hi]
    unfold midF
    by_cases c : i < K ∧ j ≤ i
    · rw [if_pos c, if_pos (by omega)]
    · rw [if_neg c, if_neg (by omega)]
theorem Mid.start {w W : World} {K H h : Nat} {v : Value} (hn : New w W v (unitL (K + H) (K + h))) (h0 : 0 < K + H) : ∃ g c, v = .slice (some ⟨g, 0, none⟩) ((K + H : Nat) : Nat) c ∧ Mid w W g (K + H) c K h 0 := by
  have hl : (unitL (K + H) (K + h)).length = K + H := lst_length _ _
  obtain ⟨hg, _, ⟨h1, _⟩ | ⟨g, c, cur, rfl, q1, q2, q3, q4, q5⟩⟩ := hn
  · rw [h1] at hl
    simp at hl
    omega
  · rw [hl] at q3 q5
    refine ⟨g, c, by rw [hl], hg, q1, ⟨q3, q4⟩, cur, q2, fun i hi => ?_⟩
    rw [q5 i hi, ← midF_zero, lst_getD _ _ _ hi]
theorem Mid.done {w W : World} {g N c K H h : Nat} (m : Mid w W g N c K h K) (hN : K + H = N) : New w W (.slice (some ⟨g, 0, none⟩) N c) (aheadRow K H h) := by
  subst hN
  obtain ⟨cur, h1, h2⟩ := m.blk
  refine ⟨m.gr, lst_byt fun i _ => aheadF_byt K h i, .inr ⟨g, c, cur, by rw [aheadRow_length], m.le, h1, by rw [aheadRow_length]; exact m.cap.1, m.cap.2, fun i hi => ?_⟩⟩
  rw [aheadRow_length] at hi
  rw [h2 i hi, ← midF_all, lst_getD _ _ _ hi]
set_option maxRecDepth 100000 in
set_option maxHeartbeats 800000 in
theorem precode_any (f : Value) (K H h : Nat) (S : Int) (w : World) (hf : IsF w f) (hm : MayP K H S) (hh : h < H) :
    Calls Tryz.prog 72 #[f, par K H S, .int .i64 (h : Int)] w fun e w' => ∃ v, e = .returned v ∧ New w w' v (aheadRow K H h) := by
  have HF := Lib.hid hf
  have hc : colsP K H S = ((K + H : Nat) : Int) := by unfold colsP; rw [if_pos hm]; omega
  have HC := Lib.hid hc
  obtain ⟨b1, b2, b3, b4, _, _⟩ := hm
  clear hf hc
  obtain ⟨N, hN⟩ : ∃ N, K + H = N := ⟨_, rfl⟩
  have hN64 : N ≤ 20 := by omega
  have HN := Lib.hid hN
  obtain ⟨q, hq⟩ : ∃ q : Nat, K + h = q := ⟨_, rfl⟩
  have hq' : (K : Int) + (h : Int) = (q : Int) := by omega
  have hwq : IntKind.i64.wrap (q : Int) = (q : Int) := by simp [IntKind.wrap, IntKind.bits, IntKind.signed]; omega
  have HQ := Lib.hid hq
  have P0 : Hid (Par (w.alloc (.cells #[.int .i64 (K : Int), .int .i64 (H : Int), .int .i64 S] 23)) w.heap.size K H S) := Lib.hid (heap_alloc_new _ _)
  have HG0 : Hid (Gr w (w.alloc (.cells #[.int .i64 (K : Int), .int .i64 (H : Int), .int .i64 S] 23))) := Lib.hid (Gr.alloc (Gr.refl _) _ _)
  go_enter Tryz.func72, Tryz.ntmps72
  go_wp2_with fail
  generalize w.alloc (.cells #[.int .i64 (K : Int), .int .i64 (H : Int), .int .i64 S] 23) = W0 at *
  generalize w.heap.size = gp at *
  have c0 := P0.out.cell0
  have c1 := P0.out.cell1
  have c2 := P0.out.cell2
  go_region_held3 (fun W => W.cell? ⟨gp, 0, none⟩ = some (.int .i64 (K : Int)) ∧ W.cell? ⟨gp, 1, none⟩ = some (.int .i64 (H : Int)) ∧ W.cell? ⟨gp, 2, none⟩ = some (.int .i64 S)) (first | exact ⟨k20, k21, k22⟩ | exact ⟨k10, k11, k12⟩ | go_keep)
    (first
      | (go_at_call 90; refine (ok_unit N q _ (by omega) (by omega) (by omega)).mono ?_; rintro e v2 ⟨y2, rfl, hn2⟩; have k20 := cell_grown hn2.1 (by exact k10); have k21 := cell_grown hn2.1 (by exact k11); have k22 := cell_grown hn2.1 (by exact k12); have N2 := Lib.hid hn2; clear hn2)
      | (go_at_call 46; refine (cols_pre K H S _).mono ?_; rw [HC.out, HN.out]; rintro e v1 ⟨rfl, hg1⟩; have k10 := cell_grown hg1 (by exact c0); have k11 := cell_grown hg1 (by exact c1); have k12 := cell_grown hg1 (by exact c2); have V1 : Hid (Gr W0 v1) := Lib.hid (by exact hg1); clear hg1))
  have P1 := Lib.hid (P0.out.grown V1.out)
  have G1 := Lib.hid (Gr.trans HG0.out V1.out)
  have hn : New v1 v2 y2 (unitL N q) := N2.out
  rw [← HN.out, ← HQ.out] at hn
  obtain ⟨g, c, rfl, hmid⟩ := Mid.start hn (by omega)
  rw [HN.out] at hmid ⊢
  have MK := Lib.hid hmid
  have P2 := Lib.hid (P1.out.grown hmid.gr)
  have c0 := P2.out.cell0
  clear hn hmid
  go_wp2_with fail
  go_loopw [18] (fun i W => ∃ j : Nat, j ≤ K ∧ i = .int .i64 j ∧ Mid v1 W g N c K h j) (fun i _ => K - (intOf i).toNat)
  case atStart => exact ⟨0, by omega, rfl, MK.out⟩
  case round =>
    clear MK P2
    obtain ⟨j, hj, rfl, hmm⟩ := hrel
    have HM := Lib.hid hmm
    have P3 := P1.out.grown hmm.gr
    have c0 := P3.cell0
    clear hmm P3
    by_cases hlj : j < K
    · have q3 := HM.out.cell j (by omega)
      have q4 := HM.out.frozen j
      have hE : ((h : Int) + 1) * ((j : Int) + 1) = (((h + 1) * (j + 1) : Nat) : Int) := by simp
      have hF : expZ (((h + 1) * (j + 1) : Nat) : Int) = aheadF K h j := by unfold aheadF; rw [if_pos hlj]
      have hle : (h + 1) * (j + 1) ≤ 64 := Nat.le_trans (Nat.mul_le_mul (by omega : h + 1 ≤ 4) (by omega : j + 1 ≤ 16)) (by omega)
      have hjN : (j : Int) < N := by omega
      obtain ⟨e, he⟩ : ∃ e : Nat, (h + 1) * (j + 1) = e := ⟨_, rfl⟩
      rw [he] at hE hF hle
      clear he
      go_wp2_with (first | (go_at_call 91; refine (exp_any f (e : Int) _ (IsF.grown HF.out (Gr.trans G1.out HM.out.gr))).mono ?_; rw [hF]; rintro e' w5 ⟨rfl, hg5⟩; have q3 := cell_grown hg5 q3; have q4 := (HM.out.more hg5).frozen j; have H5 := Lib.hid hg5; clear hg5))
      exact ⟨⟨j + 1, by omega, by go_num, (HM.out.more H5.out).put hlj (by omega)⟩, by simp [intOf]; omega⟩
    · obtain rfl : j = K := by omega
      go_wp2_with fail
      go_ret
      exact ⟨_, rfl, New.under G1.out (HM.out.done HN.out)⟩
theorem own_base8 {w : World} {base base' : Nat} {e : TypeId} {size : Nat} {v : Value} {n : Nat} {us : List Value} (h : w.ownsRow base' e size v n us) (hb : base ≤ base') : w.ownsRow base e size v n us := by
  obtain ⟨h0, h | ⟨g, c, cur, hv, h1, h2⟩⟩ := h
  · exact ⟨h0, .inl h⟩
  · exact ⟨h0, .inr ⟨g, c, cur, hv, Nat.le_trans hb h1, h2⟩⟩
/-- Since w0, block g holds H rows, of which the first j are rows ahead, in memory of their own. -/
structure FillN (w0 W : World) (g n K j : Nat) (us : List Value) (L : List (List Int)) : Prop where
  own : W.ownsRow w0.heap.size 25 1 (.slice (some ⟨g, 0, none⟩) n n) n us
  row : ∀ i, i < n → Bs W (us.getD i undef) (L.getD i []) ∧ Rn w0.heap.size W (us.getD i undef)
  len : L.length = n
  is : ∀ i, i < j → L.getD i [] = aheadRow K n i
  gr : Gr w0 W
theorem Rn.stay8 {base : Nat} {w w' : World} {u : Value} {row : Option Nat} (hr : Rn base w u)
    (hk : ∀ k, k < w.heap.size → some k ≠ row → w'.heap[k]? = w.heap[k]?) (hrow : ∀ g, row = some g → base ≤ g ∧ ∀ cur, w.heap[g]? ≠ some (.cells cur 5 (0, 0))) : Rn base w' u := fun a n c hu hn => by
  obtain ⟨h1, cur, h2⟩ := hr a n c hu hn
  refine ⟨h1, cur, ?_⟩
  rw [hk _ (Array.getElem?_eq_some_iff.1 h2).1 (fun e => (hrow a.block e.symm).2 cur h2)]
  exact h2
theorem Rn.rb8 {base : Nat} {w : World} {u : Value} (h : Rn base w u) : Rb base w u := fun a n c e hn => .inr (h a n c e hn).2
theorem Rn.gr8 {base : Nat} {w w' : World} {u : Value} (hr : Rn base w u) (hg : Gr w w') : Rn base w' u :=
  Rn.stay8 (row := none) hr (fun k hk _ => hg.2.2.2.2 k hk) (fun g h => by cases h)
theorem New.rn8 {w w' : World} {v : Value} {l : List Int} {base : Nat} (h : New w w' v l) (hb : base ≤ w.heap.size) : Rn base w' v := by
  intro a n c hv hn
  obtain ⟨_, _, ⟨rfl, oa, c', rfl, _⟩ | ⟨g, c', cur, rfl, q, h2, _⟩⟩ := h
  · cases hv
    omega
  · cases hv
    exact ⟨Nat.le_trans hb q, cur, h2⟩
section
variable {w0 W : World} {g n K j : Nat} {us : List Value} {L : List (List Int)}
theorem FillN.start (w : World) (n K : Nat) (hn : n ≤ 1000000) : FillN w (w.alloc (.cells (nils n) 25)) w.heap.size n K 0 (List.replicate n (.slice none 0 0)) (List.replicate n []) := by
  obtain ⟨h1, h2, h3, h4, h5⟩ := Fill.start w n hn (fun _ _ => True)
  refine ⟨h1, fun i hi => ⟨(h2 i hi).1, ?_⟩, h3, by omega, h5⟩
  have e1 : (List.replicate n (Value.slice none 0 0)).getD i undef = .slice none 0 0 := by rw [List.getD_eq_getElem?_getD, List.getElem?_replicate, if_pos hi]; rfl
  rw [e1]
  intro a n c e _
  cases e
theorem FillN.fill (h : FillN w0 W g n K j us L) : Fill w0 W g n (fun _ _ => True) j us L := ⟨h.own, fun i hi => ⟨(h.row i hi).1, (h.row i hi).2.rb8⟩, h.len, fun _ _ => trivial, h.gr⟩
theorem FillN.grow {W' : World} (h : FillN w0 W g n K j us L) (hg : Gr W W') : FillN w0 W' g n K j us L :=
  ⟨h.own.of_gr hg, fun i hi => ⟨Bs.grown (h.row i hi).1 hg, (h.row i hi).2.gr8 hg⟩, h.len, h.is, Gr.trans h.gr hg⟩
theorem FillN.put {u : Value} {l : List Int} (h : FillN w0 W g n K j us L) (hj : j < n) (hb : Bs W u l) (hrb : Rn w0.heap.size W u) (hp : l = aheadRow K n j) :
    FillN w0 (W.setCell ⟨g, j, none⟩ u) g n K (j + 1) (us.set j u) (L.set j l) := by
  obtain ⟨h1, h2⟩ := Rws.set h.own h.len (fun i hi => ⟨(h.row i hi).1, (h.row i hi).2.rb8⟩) j hj hb hrb.rb8
  have hrow := ownsRow_not_bytes h.own
  have hk : ∀ k, k < W.heap.size → some k ≠ (Value.slice (some ⟨g, 0, none⟩) n n).ownBlock → (W.setCell ⟨g, j, none⟩ u).heap[k]? = W.heap[k]? := by
    intro k _ hne
    have hne' : k ≠ g := fun e => hne (by rw [e]; rfl)
    exact heap_setCell_other _ _ _ _ hne'
  have hus : us.length = n := by have := h.own.1; omega
  refine ⟨h1, fun i hi => ⟨(h2 i hi).1, ?_⟩, by rw [List.length_set]; exact h.len, fun i hi => ?_, Gr.setCell h.gr h.fill.base u⟩
  · by_cases e : i = j
    · subst e
      rw [List.getD_eq_getElem?_getD, List.getElem?_set_self (by omega)]
      exact hrb.stay8 hk hrow
    · rw [List.getD_eq_getElem?_getD, List.getElem?_set_ne (fun c => e c.symm), ← List.getD_eq_getElem?_getD]
      exact (h.row i hi).2.stay8 hk hrow
  · by_cases e : i = j
    · subst e
      rw [getD_set_self _ _ _ (by rw [h.len]; exact hj)]
      exact hp
    · rw [getD_set_ne _ _ _ _ (fun c => e c.symm)]
      exact h.is i (by omega)
theorem FillN.done (h : FillN w0 W g n K n us L) (base : Nat) (hb : base ≤ w0.heap.size) : RwsN base W (.slice (some ⟨g, 0, none⟩) n n) (ahead K n) := by
  have e : L = ahead K n := by
    apply List.ext_getElem
    · rw [h.len]
      simp [ahead]
    intro i h1 h2
    have h3 := h.is i (by rw [← h.len]; exact h1)
    rw [List.getD_eq_getElem?_getD, List.getElem?_eq_getElem h1] at h3
    simpa [ahead] using h3
  have hl : (ahead K n).length = n := by simp [ahead]
  refine ⟨us, by rw [hl]; exact own_base8 h.own hb, fun i hi => ?_⟩
  rw [hl] at hi
  rw [← e]
  refine ⟨(h.row i hi).1, fun a m c ha hm => ?_⟩
  obtain ⟨q1, q2⟩ := (h.row i hi).2 a m c ha hm
  exact ⟨Nat.le_trans hb q1, q2⟩
end
set_option maxRecDepth 100000 in
set_option maxHeartbeats 800000 in
theorem rows_in (K H : Nat) (S : Int) (w : World) (hm : MayP K H S) :
    Calls Tryz.prog 45 #[par K H S] w fun e w' => ∃ v, e = .returned v ∧ RwsN w.heap.size w' v (ahead K H) ∧ Gr w w' := by
  have hd := decide_eq_true hm
  have HM := Lib.hid hm
  obtain ⟨b1, b2, b3, b4, _, _⟩ := hm
  have hmk := make24 H H (by omega) (by omega)
  have hR : ∃ cur, cur = nils H := ⟨_, rfl⟩
  obtain ⟨cur, hcur⟩ := hR
  rw [← hcur] at hmk
  have HC := Lib.hid hcur
  clear hcur
  have P0 : Hid (Par (w.alloc (.cells #[.int .i64 (K : Int), .int .i64 (H : Int), .int .i64 S] 23)) w.heap.size K H S) := Lib.hid (heap_alloc_new _ _)
  have HG0 : Hid (Gr w (w.alloc (.cells #[.int .i64 (K : Int), .int .i64 (H : Int), .int .i64 S] 23))) := Lib.hid (Gr.alloc (Gr.refl _) _ _)
  go_enter Tryz.func45, Tryz.ntmps45
  go_wp2_with fail
  generalize w.alloc (.cells #[.int .i64 (K : Int), .int .i64 (H : Int), .int .i64 S] 23) = W0 at *
  generalize hgp : w.heap.size = gp at *
  refine (may_pre K H S _).mono ?_
  rw [hd]
  rintro e w1 ⟨rfl, hg1⟩
  have P1 := Lib.hid (P0.out.grown hg1)
  have G1 := Lib.hid (Gr.trans HG0.out hg1)
  clear hg1 P0 HG0
  go_wp2_with fail
  refine (new_any _).mono ?_
  rintro e w2 ⟨b, rfl, hfb, hg2⟩
  have P2 := Lib.hid (P1.out.grown hg2)
  have G2 := Lib.hid (Gr.trans G1.out hg2)
  have HF : Hid (IsF w2 (.pointer (some ⟨b, 0, none⟩))) := Lib.hid (Or.inr ⟨b, rfl, hfb⟩)
  have c1 := P2.out.cell1
  clear hg2 hfb P1 G1
  go_wp2_with fail
  have FL : Hid (FillN w2 (w2.alloc (.cells cur 25)) w2.heap.size H K 0 (List.replicate H (.slice none 0 0)) (List.replicate H [])) := Lib.hid (by rw [HC.out]; exact FillN.start w2 H K (by omega))
  clear HC hmk c1
  generalize w2.alloc (.cells cur 25) = W3 at *
  generalize hgr : w2.heap.size = gr at *
  go_loopw [15] (fun i W => ∃ (j : Nat) (us : List Value) (L : List (List Int)), j ≤ H ∧ i = .int .i64 j ∧ FillN w2 W gr H K j us L) (fun i _ => H - (intOf i).toNat)
  case atStart => exact ⟨0, _, _, by omega, rfl, FL.out⟩
  case round =>
    clear FL
    obtain ⟨j, us, L, hj, rfl, hfl⟩ := hrel
    have HL := Lib.hid hfl
    clear hfl
    have P3 := P2.out.grown HL.out.gr
    have c0 := P3.cell0
    have c1 := P3.cell1
    have c2 := P3.cell2
    by_cases hlt : j < H
    · have q3 := HL.out.fill.cell j hlt
      have q4 := HL.out.fill.frozen j
      go_wp2_with fail
      refine (precode_any _ K H j S _ (IsF.grown HF.out HL.out.gr) HM.out hlt).mono ?_
      rintro e w5 ⟨v5, rfl, hn5⟩
      have q3 := cell_grown hn5.1 q3
      have q4 := (HL.out.fill.grow hn5.1).frozen j
      have N5 := Lib.hid hn5
      obtain ⟨o5, m5, c5, rfl⟩ := New.form3 hn5
      clear hn5
      go_wp2_with fail
      exact ⟨⟨j + 1, _, _, by omega, by go_num, (HL.out.grow N5.out.1).put hlt (New.bs N5.out) (New.rn8 N5.out HL.out.gr.size) rfl⟩, by simp [intOf]; omega⟩
    · obtain rfl : j = H := by omega
      go_wp2_with fail
      go_ret
      exact ⟨_, rfl, by rw [hgp]; exact HL.out.done gp (by rw [← hgp]; exact G2.out.size), Gr.trans G2.out HL.out.gr⟩
set_option maxHeartbeats 400000 in
theorem rows_ne (K H S : Int) (w : World) (hm : ¬ MayP K H S) :
    Calls Tryz.prog 45 #[par K H S] w fun e w' => e = .returned (.slice none 0 0) ∧ Gr w w' := by
  have hd := decide_eq_false hm
  clear hm
  have HG0 : Hid (Gr w (w.alloc (.cells #[.int .i64 K, .int .i64 H, .int .i64 S] 23))) := Lib.hid (Gr.alloc (Gr.refl _) _ _)
  go_enter Tryz.func45, Tryz.ntmps45
  go_wp2_with fail
  refine (may_pre K H S _).mono ?_
  rw [hd]
  rintro e w1 ⟨rfl, hg1⟩
  have G1 := Lib.hid (Gr.trans HG0.out hg1)
  clear hg1
  go_wp2_with fail
  go_ret
  exact ⟨rfl, G1.out⟩
theorem rows_pre (K H S : Int) (w : World) :
    Calls Tryz.prog 45 #[par K H S] w fun e w' => ∃ v, e = .returned v ∧ RwsN w.heap.size w' v (aheadP K H S) ∧ Gr w w' := by
  unfold aheadP
  by_cases hm : MayP K H S
  · rw [if_pos hm]
    obtain ⟨k, hk⟩ : ∃ k : Nat, K = k := ⟨K.toNat, by have := hm.1; omega⟩
    obtain ⟨h, hh⟩ : ∃ h : Nat, H = h := ⟨H.toNat, by have := hm.2.2.1; omega⟩
    subst hk hh
    rw [Int.toNat_natCast, Int.toNat_natCast]
    exact rows_in k h S w hm
  · rw [if_neg hm]
    refine (rows_ne K H S w hm).mono ?_
    rintro e w' ⟨rfl, hg⟩
    exact ⟨_, rfl, ⟨[], World.ownsRow_nil w' _ 25 1, fun i hi => absurd hi (by simp)⟩, hg⟩
theorem pre_ok : PreOk := ⟨may_pre, cols_pre, rows_pre⟩
end Go.Proofs.YtbabecjphmmngaaGreat
