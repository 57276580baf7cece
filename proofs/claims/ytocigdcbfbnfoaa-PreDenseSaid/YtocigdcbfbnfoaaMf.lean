/-
  Package mat as it was written: Reduce, Rank, Mul.
-/
import Derived.Test.YtocigdcbfbnfoaaMe
import Derived.Test.YtocigdcbfbnfoaaAz
namespace Go.Proofs.Ytocigdcbfbnfoaa
open Go.RowKit

set_option maxRecDepth 100000 in
set_option maxHeartbeats 800000 in
theorem reduce_nil (f : Value) (oa : Option Addr) (c : Nat) (w : World) (hf : IsF w f) (h : Bss w (.slice oa 0 c) []) :
    Calls Try.prog 27 #[f, .slice oa 0 c] w fun e w' => ∃ v R, e = .returned v ∧ Bss w' v R ∧ Gr w w' ∧ IsRed (wd []) [] R := by
  have HS := Lib.hid h
  have HF := Lib.hid hf
  clear h hf
  go_enter Try.func27, Try.ntmps27
  go_wp2_with fail
  refine (may_any _ [] w HS.out (by simp)).mono ?_
  rintro e w1 ⟨rfl, hg1⟩
  rw [show mayL [] = true from rfl]
  have G1 := Lib.hid hg1
  clear hg1
  go_wp2_with (first
    | (at_builtin; refine wpList_append_rows rfl _ _ rfl rfl oa 0 c [] rfl rfl (Bss.grown HS.out G1.out) (by omega) ?_; intro v2 w2 us hown hg2 hrow; obtain ⟨o2, c2, rfl⟩ := ownsRow_form hown; have HO := Lib.hid hown; have G2 := Lib.hid hg2; clear hown hg2 hrow)
    | (go_at_call 36; refine (mtabled_any f _ (IsF.grown HF.out (Gr.trans G1.out G2.out))).mono ?_; rintro e w3 ⟨b, rfl, hfb, hg3⟩; clear hfb; have G3 := Lib.hid hg3; clear hg3)
    | (go_at_call 37; refine (columns_any _ [] _ (Bss.grown HS.out (Gr.trans G1.out (Gr.trans G2.out G3.out)))).mono ?_; rw [wd_nil]; rintro e w4 ⟨rfl, hg4⟩; have G4 := Lib.hid hg4; clear hg4))
  refine (eliminate_none _ _ _).mono ?_
  rintro e w5 ⟨rfl, hg5⟩
  have GG := Lib.hid (Gr.trans G1.out (Gr.trans G2.out (Gr.trans G3.out (Gr.trans G4.out hg5))))
  have H5 := Lib.hid (Bss.grown (owns_bss (L := []) HO.out rfl (fun i hi => by simp at hi)) (Gr.trans G3.out (Gr.trans G4.out hg5)))
  have hc2 : c2 ≤ maxLen := by
    obtain ⟨_, ⟨he, _⟩ | ⟨g, c', cur, he, _, _, _, h2, _⟩⟩ := HO.out
    · cases he; omega
    · cases he; exact h2
  unfold maxLen at hc2
  clear G1 G2 G3 G4 hg5 HO HS
  go_wp2_with (first
    | (at_builtin; refine wpList_append_rows rfl _ _ rfl rfl o2 0 c2 [] rfl rfl H5.out (by omega) ?_; intro v6 w6 us6 hown hg6 hrow; obtain ⟨o6, c6, rfl⟩ := ownsRow_form hown; have HO6 := Lib.hid hown; have G6 := Lib.hid hg6; clear hown hg6 hrow))
  go_ret
  exact ⟨_, [], rfl, owns_bss HO6.out rfl (fun i hi => by simp at hi), Gr.trans GG.out G6.out, (by intro r hr; cases hr), [], rfl, L.Rref.nil, L.Same.refl _⟩
theorem field_block {w w' : World} {b g base n c : Nat} {us : List Value} {l : List Int} (h : FieldAt w b) (ho : w.ownsRow base 33 1 (.slice (some ⟨g, 0, none⟩) n c) n us) (h0 : 0 < n) (hb : Bs w' (us.getD 0 undef) l) : b ≠ g := by
  intro e
  subst e
  obtain ⟨g', c', he, _, _, _, _, hc⟩ := ownsRow_cell ho h0
  cases he
  have h1 := hc 0 h0
  rw [FieldAt.ex h 0 (by omega)] at h1
  obtain ⟨o, c2, hf⟩ := hb.form
  rw [hf] at h1
  cases h1
set_option maxRecDepth 100000 in
set_option maxHeartbeats 1600000 in
theorem reduce_pos (f va : Value) (A : List (List Int)) (w : World) (hf : IsF w f) (h : Bss w va A) (hl : A.length ≤ 1000) (hmay : mayL A = true) (h0 : 0 < A.length) :
    Calls Try.prog 27 #[f, va] w fun e w' => ∃ v R, e = .returned v ∧ Bss w' v R ∧ Gr w w' ∧ IsRed (wd A) A R := by
  have HW := Lib.hid (Wide.of_may hmay h.byt)
  have hk64 : wd A ≤ 64 := (mayL_at hmay 0 h0).2
  have HS := Lib.hid h
  have HF := Lib.hid hf
  have HM := Lib.hid hmay
  obtain ⟨oa, c0, rfl, h1, h2, _, _⟩ := h
  obtain ⟨n, hn⟩ : ∃ n, A.length = n := ⟨_, rfl⟩
  rw [hn] at HS h1 hl h0 ⊢
  obtain ⟨k, hk⟩ : ∃ k, wd A = k := ⟨_, rfl⟩
  have HN := Lib.hid hn
  have HK := Lib.hid hk
  rw [show (A.getD 0 []).length = wd A from rfl] at HW
  rw [hk] at hk64 HW ⊢
  clear hf hmay hn hk
  go_enter Try.func27, Try.ntmps27
  go_wp2_with fail
  refine (may_any _ A w HS.out (by rw [HN.out]; omega)).mono ?_
  rintro e w1 ⟨rfl, hg1⟩
  rw [HM.out]
  have G1 := Lib.hid hg1
  clear hg1
  go_wp2_with (first
    | (at_builtin; refine wpList_append_rows rfl _ _ rfl rfl oa n c0 A rfl HN.out (Bss.grown HS.out G1.out) hl ?_; intro v2 w2 us hown hg2 hrow; have HO := Lib.hid hown; obtain ⟨g, c, rfl, hc1, hc2, _, _, _⟩ := ownsRow_cell hown h0; have G2 := Lib.hid hg2; have HR := Lib.hid hrow; clear hown hg2 hrow)
    | (go_at_call 36; refine (mtabled_any f _ (IsF.grown HF.out (Gr.trans G1.out G2.out))).mono ?_; rintro e w3 ⟨b, rfl, hfb, hg3⟩; have HFB := Lib.hid hfb; clear hfb; have G3 := Lib.hid hg3; clear hg3)
    | (go_at_call 37; refine (columns_any _ A _ (Bss.grown HS.out (Gr.trans G1.out (Gr.trans G2.out G3.out)))).mono ?_; rw [HK.out]; rintro e w4 ⟨rfl, hg4⟩; have G4 := Lib.hid hg4; clear hg4))
  unfold maxLen at hc2
  have hx : Mx w1 w2 g n c k A A [] 0 us := ⟨HO.out, HR.out, HN.out, HW.out, L.Ech.start _, G2.out⟩
  have hx4 := hx.grow (Gr.trans G3.out G4.out)
  have hfg : b ≠ g := field_block HFB.out (HO.out.of_gr G3.out) h0 (HR.out 0 h0).1
  refine (eliminate_any _ hx4 b (FieldAt.grown HFB.out G4.out) hfg k (Nat.le_refl _) hl (by omega) hc1 hc2).mono ?_
  rintro e w5 ⟨ps, Lm, us5, rfl, hx5⟩
  obtain ⟨hrw, hgr, hred⟩ := hx5.out
  have hdn : ps.length ≤ n := by have := hx5.ech.le; rw [List.length_map, hx5.len] at this; exact this
  have hlt : (Lm.take ps.length).length = ps.length := by rw [List.length_take, hx5.len]; omega
  have HB5 := Lib.hid hrw.bss
  have GG := Lib.hid (Gr.trans G1.out hgr)
  have HRED := Lib.hid hred
  have HLT := Lib.hid hlt
  clear hx hx4 hfg hx5 hrw hgr hred hlt G2 G3 G4 HO HR HFB
  generalize Lm.take ps.length = R at *
  generalize ps.length = d at *
  go_wp2_with (first
    | (at_builtin; refine wpList_append_rows rfl _ _ rfl rfl (some ⟨g, 0, none⟩) d c R rfl HLT.out HB5.out (by omega) ?_; intro v6 w6 us6 hown hg6 hrow; obtain ⟨o6, c6, rfl⟩ := ownsRow_form hown; have HO6 := Lib.hid hown; have G6 := Lib.hid hg6; have HR6 := Lib.hid hrow; clear hown hg6 hrow))
  go_ret
  exact ⟨_, R, rfl, owns_bss HO6.out HLT.out (fun i hi => (HR6.out i (by rw [HLT.out] at hi; exact hi)).1), Gr.trans GG.out G6.out, HRED.out⟩
theorem ok_reduce : ∀ (f va : Value) (A : List (List Int)) (w : World), IsF w f → Bss w va A → A.length ≤ 1000 → mayL A = true →
    Calls Try.prog 27 #[f, va] w fun e w' => ∃ v R, e = .returned v ∧ Bss w' v R ∧ Gr w w' ∧ IsRed (wd A) A R :=
  fun f va A w hf ha hl hm => by
    by_cases h0 : 0 < A.length
    · exact reduce_pos f va A w hf ha hl hm h0
    · obtain rfl : A = [] := List.eq_nil_of_length_eq_zero (by omega)
      have hs := ha
      obtain ⟨oa, c, rfl, _, _, _, _⟩ := ha
      exact reduce_nil f oa c w hf hs
set_option maxHeartbeats 400000 in
theorem ok_rank : ∀ (f va : Value) (A : List (List Int)) (w : World), IsF w f → Bss w va A → A.length ≤ 1000 → mayL A = true →
    Calls Try.prog 17 #[f, va] w fun e w' => e = .returned (.int .i64 (rkL A)) ∧ Gr w w' := by
  intro f va A w hf ha hl hm
  have HS := Lib.hid ha
  have HF := Lib.hid hf
  have HM := Lib.hid hm
  clear ha hf hm
  go_enter Try.func17, Try.ntmps17
  go_wp2_with fail
  refine (ok_reduce f va A w HF.out HS.out hl HM.out).mono ?_
  rintro e w1 ⟨v, R, rfl, hv, hg, hred⟩
  have hrk : rkL A = R.length := hred.rank
  obtain ⟨o, c, rfl, h1, h2, _, _⟩ := hv
  have HG := Lib.hid hg
  have HRK := Lib.hid hrk
  clear hred hrk hg
  generalize R.length = s at *
  go_wp2_with fail
  go_ret
  exact ⟨by rw [HRK.out]; rfl, HG.out⟩
end Go.Proofs.Ytocigdcbfbnfoaa
