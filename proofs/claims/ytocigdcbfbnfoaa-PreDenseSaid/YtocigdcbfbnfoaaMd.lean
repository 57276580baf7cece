/-
  Package mat as it was written: whether rows may be a matrix, how many columns, where a column begins, what makes it 0.
-/
import Derived.Test.YtocigdcbfbnfoaaRo
import Derived.Test.YtocigdcbfbnfoaaMk
import Derived.Test.YtocigdcbfbnfoaaMx
import Derived.BigRegion
import Derived.Deep.RegionLaw
import Derived.Deep.DeepCutAuto
import Derived.Deep.RegionHeld3
namespace Go.Proofs.Ytocigdcbfbnfoaa
open Go.RowKit

set_option maxHeartbeats 400000 in
theorem columns_any (v : Value) (A : List (List Int)) (w : World) (h : Bss w v A) :
    Calls Try.prog 37 #[v] w fun e w' => e = .returned (.int .i64 (wd A)) ∧ Gr w w' := by
  by_cases h0 : 0 < A.length
  · obtain ⟨a, c, rfl, h1, h2, h3⟩ := Bss.at h h0
    obtain ⟨u, q, hu⟩ := h3 0 h0
    rw [show a.add 0 = a from by simp [Addr.add]] at q
    obtain ⟨ou, cu, rfl⟩ := hu.form
    have e : (A.getD 0 []).length = wd A := rfl
    rw [e] at q
    clear h h3 hu e
    generalize wd A = k at *
    generalize A.length = n at *
    have hb : ((n : Int) == 0) = false := by simp; omega
    go_enter Try.func37, Try.ntmps37
    go_wp2
    go_ret
    exact ⟨rfl, Gr.refl _⟩
  · obtain rfl : A = [] := List.eq_nil_of_length_eq_zero (by omega)
    obtain ⟨oa, c, rfl, _, _, _, _⟩ := h
    rw [wd_nil]
    go_enter Try.func37, Try.ntmps37
    go_wp2
    go_ret
    exact ⟨rfl, Gr.refl _⟩
theorem mayL_iff {A : List (List Int)} (h : ∀ j, j < A.length → (A.getD j []).length = wd A) : mayL A = decide (wd A ≤ 64) := by
  by_cases h0 : 0 < A.length
  · by_cases h1 : wd A ≤ 64
    · rw [decide_eq_true h1]
      exact mayL_true fun i hi => ⟨h i hi, by rw [h i hi]; exact h1⟩
    · rw [decide_eq_false h1]
      exact mayL_false 0 h0 fun c => h1 c.2
  · obtain rfl : A = [] := List.eq_nil_of_length_eq_zero (by omega)
    rfl
set_option maxHeartbeats 400000 in
theorem may_core (a : Addr) (n c : Nat) (L : List (List Int)) (w : World) (hn : L.length = n) (hnb : n ≤ 1000000) (hs : Bss w (.slice (some a) n c) L)
    (hc : ∀ i, i < n → ∃ u, w.cell? (a.add i) = some u ∧ Bs w u (L.getD i [])) :
    Calls Try.prog 34 #[.slice (some a) n c] w fun e w' => e = .returned (.bool (mayL L)) ∧ Gr w w' := by
  have HC := Lib.hid hc
  have HN := Lib.hid hn
  have HS := Lib.hid hs
  clear hc hn hs
  go_enter Try.func34, Try.ntmps34
  go_wp2_with (first | (go_at_call 37; refine (columns_any _ L _ HS.out).mono ?_; rintro e w1 ⟨rfl, hg1⟩; have G1 := Lib.hid hg1; clear hg1))
  have HW : Hid (wd L = wd L) := Lib.hid rfl
  obtain ⟨q, hq⟩ : ∃ q, wd L = q := ⟨_, rfl⟩
  have HQ := Lib.hid hq
  rw [hq]
  clear hq HW
  go_loopw [10] (fun i wr => ∃ k : Nat, k ≤ n ∧ i = .int .i64 k ∧ Gr w wr ∧ ∀ j, j < k → (L.getD j []).length = wd L) (fun i _ => n - (intOf i).toNat)
  case atStart => exact ⟨0, by omega, rfl, G1.out, by omega⟩
  case round =>
    obtain ⟨k, hk, rfl, hg, hs⟩ := hrel
    have HJ := Lib.hid hs
    have G := Lib.hid hg
    clear hs hg
    by_cases hlt : k < n
    · obtain ⟨u, h1, hu⟩ := HC.out k hlt
      have q1 := cell_grown G.out h1
      obtain ⟨ou, cu, rfl⟩ := hu.form
      obtain ⟨p, hp⟩ : ∃ p, (L.getD k []).length = p := ⟨_, rfl⟩
      rw [hp] at q1
      have HP := Lib.hid hp
      clear hp h1 hu
      by_cases e1 : p = q
      · subst e1
        go_wp2
        refine ⟨⟨k + 1, by omega, by go_num, G.out, fun j hj => ?_⟩, by simp [intOf]; omega⟩
        by_cases e : j = k
        · rw [e, HP.out, HQ.out]
        · exact HJ.out j (by omega)
      · have hne : ((p : Int) != q) = true := by simp; omega
        go_wp2
        go_ret
        exact ⟨by rw [mayL_false k (by rw [HN.out]; exact hlt) (fun c => e1 (by rw [← HP.out, ← HQ.out]; exact c.1))]; rfl, G.out⟩
    · obtain rfl : k = n := by omega
      have E : Hid (mayL L = decide (q ≤ 64)) := Lib.hid (by rw [← HQ.out]; exact mayL_iff (fun i hi => HJ.out i (by rw [HN.out] at hi; exact hi)))
      have hd : decide ((q : Int) ≤ 64) = decide (q ≤ 64) := decide_eq_decide.2 (by omega)
      have HD := Lib.hid hd
      clear hd
      go_wp2
      go_ret
      exact ⟨by rw [E.out, ← HD.out]; rfl, G.out⟩
set_option maxHeartbeats 400000 in
theorem may_nil (oa : Option Addr) (c : Nat) (w : World) (h : Bss w (.slice oa 0 c) []) :
    Calls Try.prog 34 #[.slice oa 0 c] w fun e w' => e = .returned (.bool true) ∧ Gr w w' := by
  have HS := Lib.hid h
  clear h
  go_enter Try.func34, Try.ntmps34
  go_wp2_with (first | (go_at_call 37; refine (columns_any _ [] _ HS.out).mono ?_; rw [wd_nil]; rintro e w1 ⟨rfl, hg1⟩; have G1 := Lib.hid hg1; clear hg1))
  go_loopw [10] (fun i wr => i = .int .i64 0 ∧ wr = w1) (fun _ _ => 0)
  case atStart => exact ⟨rfl, rfl⟩
  case round =>
    obtain ⟨rfl, rfl⟩ := hrel
    go_wp2
    go_ret
    exact ⟨rfl, G1.out⟩
theorem may_any (v : Value) (L : List (List Int)) (w : World) (h : Bss w v L) (hn : L.length ≤ 1000000) :
    Calls Try.prog 34 #[v] w fun e w' => e = .returned (.bool (mayL L)) ∧ Gr w w' := by
  by_cases h0 : 0 < L.length
  · have hs := h
    obtain ⟨a, c, rfl, _, _, h3⟩ := Bss.at h h0
    exact may_core a L.length c L w rfl hn hs h3
  · obtain rfl : L = [] := List.eq_nil_of_length_eq_zero (by omega)
    have hs := h
    obtain ⟨oa, c, rfl, _, _, _, _⟩ := h
    exact may_nil oa c w hs
set_option maxHeartbeats 400000 in
theorem mtabled_any (f : Value) (w : World) (h : IsF w f) :
    Calls Try.prog 36 #[f] w fun e w' => ∃ b, e = .returned (.pointer (some ⟨b, 0, none⟩)) ∧ FieldAt w' b ∧ Gr w w' := by
  rcases h with rfl | ⟨b, rfl, hb⟩
  · go_enter Try.func36, Try.ntmps36
    go_wp2_with (go_at_call 16; refine (new_any _).mono ?_; rintro e w' ⟨b, rfl, hf, hg⟩; have HF := Lib.hid hf; clear hf; have HG := Lib.hid hg; clear hg)
    go_ret
    exact ⟨_, rfl, HF.out, HG.out⟩
  · have HF := Lib.hid hb
    clear hb
    go_enter Try.func36, Try.ntmps36
    go_wp2_with fail
    go_ret
    exact ⟨_, rfl, HF.out, Gr.refl _⟩
set_option maxHeartbeats 400000 in
/-- With tables at hand an inverse leaves the world as it is (but for draws). -/
theorem inv_field (t : Nat) (a : Int) (ha : Byt a) (w : World) (hf : FieldAt w t) :
    Calls Try.prog 41 #[.pointer (some ⟨t, 0, none⟩), .int .u8 a] w fun e w' => e = .returned (.int .u8 (invZ a)) ∧ ∃ d, w' = w.drewN d := by
  obtain ⟨a0, a1⟩ := ha
  by_cases az : a = 0
  · subst az
    go_enter Try.func41, Try.ntmps41
    go_wp2_with fail
    go_ret
    exact ⟨rfl, 0, rfl⟩
  · have HF := Lib.hid hf
    clear hf
    have ea : (a == 0) = false := by simpa using az
    obtain ⟨x, rfl⟩ := Int.eq_ofNat_of_zero_le a0
    have hx : x < 256 := by omega
    have l1 := (M.ex_lg x hx (by simpa using az)).2
    clear az
    go_enter Try.func41, Try.ntmps41
    go_wp2_with (go_at_call 38; refine (made_field t _ HF.out).mono ?_; rintro e w' ⟨rfl, rfl⟩)
    have c1 := FieldAt.lg HF.out x hx
    have hi : (255 - M.lgN x) % 255 < 255 := Nat.mod_lt _ (by omega)
    have c3 := FieldAt.ex HF.out _ hi
    have E : Hid (invZ x = ((M.exN ((255 - M.lgN x) % 255) : Nat) : Int)) := Lib.hid (by
      unfold invZ M.invN
      rw [if_neg (by simp at ea; simpa using ea)]
      rfl)
    generalize M.lgN x = p at *
    rw [show (255 - p) % 255 = (-(p : Int) % 255).toNat from by omega] at c3 E
    clear hi
    go_quiet (fail)
    go_wp2
    go_ret
    exact ⟨ret_int E.out.symm, _, rfl⟩
section
variable {w0 : World} {g n c k : Nat} {A Lm : List (List Int)} {ps : List Nat} {col : Nat} {us : List Value}
set_option maxHeartbeats 800000 in
theorem beginning_any (w : World) (h : Mx w0 w g n c k A Lm ps col us) (st cl : Nat) (hst : st ≤ n) (hcl : cl < k) (hn : n ≤ 1000) :
    Calls Try.prog 39 #[.slice (some ⟨g, 0, none⟩) n c, .int .i64 st, .int .i64 cl] w fun e w' => Gr w w' ∧
      ((e = .returned (.int .i64 (-1)) ∧ ∀ s, st ≤ s → s < n → (Lm.getD s []).getD cl 0 = 0) ∨ ∃ t : Nat, e = .returned (.int .i64 t) ∧ st ≤ t ∧ t < n ∧ (Lm.getD t []).getD cl 0 ≠ 0) := by
  have HX := Lib.hid h
  clear h
  go_enter Try.func39, Try.ntmps39
  go_wp2
  refine wp_scope_jumps 0 (fun a' w' => ∃ (t : Nat) (u0 u1 u2 u3 u4 u5 u6 u8 u9 u10 u11 u12 u13 u14 u15 u16 u17 u18 u19 u20 u21 u22 u23 : Value), st ≤ t ∧ t < n ∧ (Lm.getD t []).getD cl 0 ≠ 0 ∧ w' = w ∧ a' = { tmps := #[u0, u1, u2, u3, u4, u5, u6, .int .i64 t, u8, u9, u10, u11, u12, u13, u14, u15, u16, u17, u18, u19, u20, u21, u22, u23], defers := [] }) (fun _ _ => 0) rfl ?_ ?_
  rotate_left
  · rintro a' w' ⟨t, u0, u1, u2, u3, u4, u5, u6, u8, u9, u10, u11, u12, u13, u14, u15, u16, u17, u18, u19, u20, u21, u22, u23, h1, h2, h3, rfl, rfl⟩
    have H3 := Lib.hid h3
    clear h3
    go_wp2
    simp only [Exit.jump]
    go_ret
    exact ⟨Gr.refl _, .inr ⟨t, rfl, h1, h2, H3.out⟩⟩
  go_wp2
  go_loopw [7] (fun i wr => wr = w ∧ ∃ ii : Nat, ii ≤ n ∧ st ≤ ii ∧ i = .int .i64 ii ∧ ∀ s, st ≤ s → s < ii → (Lm.getD s []).getD cl 0 = 0) (fun i _ => n - (intOf i).toNat)
  case atStart => exact ⟨rfl, st, hst, Nat.le_refl _, rfl, by omega⟩
  case round =>
    obtain ⟨rfl, ii, hii, hdi, rfl, ht⟩ := hrel
    have HT := Lib.hid ht
    clear ht
    by_cases hlt : ii < n
    · obtain ⟨oi, ci, _, e1, e2⟩ := HX.out.cell ii hlt
      obtain ⟨b, rfl, e3⟩ := e2 cl hcl
      have hbb := HX.out.wide.byt ii cl
      clear e2
      obtain ⟨z, hz⟩ : ∃ z, (Lm.getD ii []).getD cl 0 = z := ⟨_, rfl⟩
      rw [hz] at e3 hbb
      have HZ := Lib.hid hz
      clear hz
      by_cases hz0 : z = 0
      · subst hz0
        go_wp2
        refine ⟨⟨trivial, ii + 1, by omega, by omega, by go_num, fun s s1 s2 => ?_⟩, by simp [intOf]; omega⟩
        by_cases e : s = ii
        · rw [e, HZ.out]
        · exact HT.out s s1 (by omega)
      · have hzb : (z != 0) = true := by simpa using hz0
        go_wp2
        go_step3
        exact ⟨rfl, ii, _, _, _, _, _, _, _, _, _, _, _, _, _, _, _, _, _, _, _, _, _, _, _, hdi, hlt, by rw [HZ.out]; exact hz0, rfl, rfl⟩
    · obtain rfl : n = ii := by omega
      go_wp2
      simp only [Exit.jump]
      go_ret
      exact ⟨Gr.refl _, .inl ⟨rfl, HT.out⟩⟩
end
end Go.Proofs.Ytocigdcbfbnfoaa
