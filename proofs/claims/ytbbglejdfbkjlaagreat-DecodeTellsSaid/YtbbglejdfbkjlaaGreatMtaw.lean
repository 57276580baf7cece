/-
  Texts laid behind one another: Df Dp Dq De Du.
-/
import Derived.Test.YtbbglejdfbkjlaaGreatMtav
import Derived.Test.YtbbglejdfbkjlaaGreatMtar
import Derived.Deep.DeepCutAuto
import Derived.Test.YtbbglejdfbkjlaaGreatMtaq
import Derived.ScopeJumps
namespace Go.Proofs.YtbbglejdfbkjlaaGreat
open Go.RowKit
set_option maxRecDepth 100000 in
set_option maxHeartbeats 1600000 in
theorem mcut_zero (oa : Option Addr) (d c : Nat) (w : World) (hd : d = 0) :
  Calls Tryz.prog 61 #[.slice oa d c, .int .i64 d] w fun e w' => ∃ v, e = .returned v ∧ RwsN w.heap.size w' v [] ∧ Gr w w' := by
 have hmk := make24 d d (Nat.le_refl _) (by omega)
 have HF0 : Hid (Fill w (w.alloc (.cells (nils d) 25)) w.heap.size d (fun _ l => l = []) 0 (List.replicate d (.slice none 0 0)) (List.replicate d [])) := Lib.hid (Fill.start w d (by omega) _)
 have HD := Lib.hid hd
 clear hd
 go_enter Tryz.func61, Tryz.ntmps61
 go_wp2
 clear hmk
 generalize hW : w.alloc (.cells (nils d) 25) = W at *
 generalize hG : w.heap.size = g2 at *
 go_loopw [13] (fun i wr => ∃ j : Nat, j ≤ d ∧ i = .int .i64 j ∧ wr = W) (fun i _ => d - (intOf i).toNat)
 case atStart => exact ⟨0, by omega, rfl, rfl⟩
 case round =>
  obtain ⟨j, hj, rfl, rfl⟩ := hrel
  by_cases hlt : j < d
  ·have := HD.out
   omega
  ·obtain rfl : j = d := by omega
   go_wp2
   go_ret
   have h0 := HF0.out.own
   refine ⟨.slice (some ⟨g2, 0, none⟩) j j, rfl, ⟨[], ?_, fun i hi => by simp at hi⟩, HF0.out.gr⟩
   rw [HD.out] at h0 ⊢
   exact h0
set_option maxRecDepth 100000 in
set_option maxHeartbeats 3200000 in
theorem solve_flat (f va vb : Value) (A B : List (List Int)) (w : World) (hf : IsF w f) (ha : Bss w va A) (hb : Bss w vb B) (hl : A.length ≤ 1000) (hlb : B.length = A.length) (hma : mayL A = true) (hmb : mayL B = true) (h0 : 0 < A.length) (hk1 : wd A = 0) (hm1 : 1 ≤ wd B) :
  Calls Tryz.prog 31 #[f, va, vb] w fun e w' => ∃ v n S, e = .returned (.tuple #[v, .int .i64 n]) ∧ RwsN w.heap.size w' v S ∧ Gr w w' ∧ SolSays A B n S := by
 have WA := Lib.hid (Wide.of_bss ha hma)
 have WB := Lib.hid (Wide.of_bss hb hmb)
 have HS := Lib.hid ha
 have HSB := Lib.hid hb
 have HF := Lib.hid hf
 have HMA := Lib.hid hma
 have HMB := Lib.hid hmb
 have hk64 : wd A ≤ 64 := (mayL_at hma 0 h0).2
 have hm64 : wd B ≤ 64 := (mayL_at hmb 0 (by omega)).2
 have HA0 : Hid (A ≠ []) := Lib.hid (List.length_pos_iff.1 h0)
 obtain ⟨oa, ca, rfl, a1, a2, _, _⟩ := ha
 obtain ⟨ob, cb, rfl, b1, b2, _, _⟩ := hb
 rw [hlb] at HSB b1 ⊢
 have HLB0 := Lib.hid hlb
 obtain ⟨n, hn⟩ : ∃ n, A.length = n := ⟨_, rfl⟩
 obtain ⟨k, hk⟩ : ∃ k, wd A = k := ⟨_, rfl⟩
 obtain ⟨m, hm⟩ : ∃ m, wd B = m := ⟨_, rfl⟩
 rw [hn] at HS HSB a1 b1 hl h0 ⊢
 rw [hk] at hk64 hk1 WA
 rw [hm] at hm64 hm1 WB
 have HN := Lib.hid hn
 have HLB : Hid (B.length = n) := Lib.hid (by rw [hlb, hn])
 have HK := Lib.hid hk
 have HMW := Lib.hid hm
 have hc0 : ((n : Int) == 0) = false := by simp; omega
 have HK0 : Hid (k = 0) := Lib.hid hk1
 clear hk1
 clear hf hma hmb hn hk hm hlb
 go_enter Tryz.func31, Tryz.ntmps31
 go_wp2_with fail
 refine (may_any _ A w HS.out (by rw [HN.out]; omega)).mono ?_
 rintro e w1 ⟨rfl, hg1⟩
 rw [HMA.out]
 have G1 := Lib.hid hg1
 clear hg1
 go_wp2_with fail
 refine (may_any _ B w1 (Bss.grown HSB.out G1.out) (by rw [HLB.out]; omega)).mono ?_
 rintro e w2 ⟨rfl, hg2⟩
 rw [HMB.out]
 have G2 := Lib.hid (Gr.trans G1.out hg2)
 clear hg2
 go_wp2_with fail
 refine (columns_any _ A w2 (Bss.grown HS.out G2.out)).mono ?_
 rw [HK.out]
 rintro e w3 ⟨rfl, hg3⟩
 have G3 := Lib.hid (Gr.trans G2.out hg3)
 clear hg3
 go_wp2_with fail
 refine (joined_any _ _ A B k m w3 (Bss.grown HS.out G3.out) (Bss.grown HSB.out G3.out) (by rw [HN.out]; exact hl) HLB0.out (by rw [HN.out]; exact h0) WA.out WB.out hk64 hm64).mono ?_
 rw [HN.out]
 rintro e w4 ⟨g, us, J, rfl, hfl⟩
 have HJ : Hid (Side k m n A B J) := Lib.hid ⟨WA.out, WB.out, HN.out, HLB.out, hfl.len, hfl.is⟩
 have hx : Mx w3 w4 g n n (k + m) J J [] 0 us := ⟨hfl.own, hfl.row, hfl.len, HJ.out.wide, L.Ech.start _, hfl.gr⟩
 have HX := Lib.hid hx
 have HOWN := Lib.hid hfl.own
 have HROW0 := Lib.hid (hfl.row 0 (by omega)).1
 have G4 := Lib.hid (Gr.trans G3.out hfl.gr)
 clear hx hfl
 go_wp2_with fail
 refine (mtabled_any f _ (IsF.grown HF.out G4.out)).mono ?_
 rintro e w5 ⟨b, rfl, hfb, hg5⟩
 have HFB := Lib.hid hfb
 have HX5 := Lib.hid (HX.out.grow hg5)
 have HNE : Hid (b ≠ g) := Lib.hid (field_block hfb (HOWN.out.of_gr hg5) h0 HROW0.out)
 clear hfb hg5 HX HOWN
 go_wp2_with fail
 refine (eliminate_any _ HX5.out b HFB.out HNE.out k (by omega) hl (by omega) (Nat.le_refl _) (by omega)).mono ?_
 rintro e w6 ⟨ps, Lm, us6, rfl, hx6⟩
 have hrk := HJ.out.rank hx6.ech
 have hdk : ps.length ≤ k := by rw [← hrk]; exact L.rk_le_cols WA.out.supp
 have hdn : ps.length ≤ n := by have := hx6.ech.le; rw [List.length_map, hx6.len] at this; exact this
 have HX6 := Lib.hid hx6
 have G6 := Lib.hid (Gr.trans G3.out hx6.gr)
 generalize hd : ps.length = d at *
 have HD := Lib.hid hd
 have HRK := Lib.hid hrk
 clear hx6 HX5 HFB HNE hd hrk
 by_cases hlow : d < k
 ·go_wp2
  go_ret2
  exact ⟨_, _, [], rfl, RwsN.nilM _ _, G6.out, .inr (.inl ⟨HA0.out, by rw [HRK.out, HK.out]; exact hlow, rfl, rfl⟩)⟩
 ·obtain rfl : d = k := by omega
  have HB6 : Hid (Bss w6 (.slice (some ⟨g, 0, none⟩) d n) (Lm.take d)) := Lib.hid (Bss.take (owns_bss HX6.out.own HX6.out.len fun i hi => (HX6.out.row i (by rw [← HX6.out.len]; exact hi)).1) HX6.out.len d hdn)
  have HLEN : Hid ((Lm.take d).length = d) := Lib.hid (by rw [List.length_take, HX6.out.len]; omega)
  have done : ∀ wr, Gr w6 wr → (∀ t, d ≤ t → t < n → leadL (Lm.getD t []) = -1) → ∀ v S w7, RwsN wr.heap.size w7 v S → Gr wr w7 → S.length = d → (∀ i, i < d → S.getD i [] = ((Lm.take d).getD i []).drop d) → RwsN w.heap.size w7 v S ∧ Gr w w7 ∧ SolSays A B 0 S := by
   intro wr hgr hz v S w7 hb hg hsl hsi
   have := HJ.out.solved HX6.out.ech HD.out (fun i h1 h2 => hz i h1 (by rw [← HX6.out.len]; exact h2)) HX6.out.wide hsl (fun i hi => by
     rw [hsi i hi, List.getD_eq_getElem?_getD, List.getElem?_take_of_lt hi, ← List.getD_eq_getElem?_getD])
   exact ⟨hb.lowM (Gr.trans G6.out hgr).size, Gr.trans G6.out (Gr.trans hgr hg), .inr (.inr (.inl ⟨HA0.out, by rw [HRK.out, HK.out], rfl, by rw [HK.out]; exact hsl, by rw [HMW.out]; exact this.1, by rw [HMW.out]; exact this.2⟩))⟩
  have DONE := Lib.hid done
  clear done
  by_cases hnd : d = n
  ·have := HK0.out
   omega
  ·have hlt : d < n := by omega
   have hnd' : n ≠ d := by omega
   go_wp2
   go_loopw [50] (fun i wr => ∃ s : Nat, s ≤ n - d ∧ i = .int .i64 s ∧ Gr w6 wr ∧ ∀ t, d ≤ t → t < d + s → leadL (Lm.getD t []) = -1) (fun i _ => n - d - (intOf i).toNat)
   case atStart => exact ⟨0, by omega, rfl, Gr.refl _, by omega⟩
   case round =>
    obtain ⟨s, hs, rfl, hg, hz⟩ := hrel
    have G := Lib.hid hg
    have HZ := Lib.hid hz
    clear hg hz
    by_cases hlts : s < n - d
    ·obtain ⟨oi, ci, ei, q0, _⟩ := HX6.out.cell (d + s) (by omega)
     have q1 := cell_grown G.out q0
     have hrow := (HX6.out.row (d + s) (by omega)).1
     rw [ei] at hrow
     have HR := Lib.hid (Bs.grown hrow G.out)
     have HWR := Lib.hid (HX6.out.wide.at (d + s) (by rw [HX6.out.len]; omega)).1
     clear q0 hrow ei
     go_wp2_with fail
     refine (ok_lead _ (Lm.getD (d + s) []) _ HR.out (by rw [HWR.out]; omega)).mono ?_
     rintro e w7 ⟨rfl, hg7⟩
     have hge := leadL_ge (Lm.getD (d + s) [])
     obtain ⟨z, hz⟩ : ∃ z, leadL (Lm.getD (d + s) []) = z := ⟨_, rfl⟩
     rw [hz] at hge ⊢
     have HZZ := Lib.hid hz
     have G7 := Lib.hid (Gr.trans G.out hg7)
     clear hz hg7
     by_cases hz0 : 0 ≤ z
     ·go_wp2
      go_ret2
      exact ⟨_, _, [], rfl, RwsN.nilM _ _, Gr.trans G6.out G7.out, .inr (.inr (.inr ⟨HA0.out, by rw [HRK.out, HK.out], rfl, rfl, fun M hM _ => HJ.out.clash HX6.out.ech HD.out HX6.out.wide (d + s) (by omega) (by rw [HX6.out.len]; omega) (by rw [HZZ.out]; exact hz0) M (by rw [hM, HK.out])⟩))⟩
     ·go_wp2
      refine ⟨⟨s + 1, by omega, by go_num, G7.out, fun t h1 h2 => ?_⟩, by simp [intOf]; omega⟩
      by_cases e : t = d + s
      ·rw [e, HZZ.out]; omega
      ·exact HZ.out t h1 (by omega)
    ·obtain rfl : s = n - d := by omega
     go_wp2_with fail
     refine (mcut_zero _ d n _ HK0.out).mono ?_
     rintro e w7 ⟨v7, rfl, hb7, hg7⟩
     have H7 := Lib.hid (DONE.out _ G.out (fun t h1 h2 => HZ.out t h1 (by omega)) v7 [] w7 hb7 hg7 HK0.out.symm (fun i hi => by have := HK0.out; omega))
     clear hb7 hg7
     go_wp2
     go_ret2
     exact ⟨_, _, [], rfl, H7.out⟩
theorem solve_all (f va vb : Value) (A B : List (List Int)) (w : World) (hf : IsF w f) (ha : Bss w va A) (hb : Bss w vb B) (hl : A.length ≤ 1000) (hlb : B.length = A.length) (hma : mayL A = true) (hmb : mayL B = true) (h0 : 0 < A.length) (hm1 : 1 ≤ wd B) :
  Calls Tryz.prog 31 #[f, va, vb] w fun e w' => ∃ v n S, e = .returned (.tuple #[v, .int .i64 n]) ∧ RwsN w.heap.size w' v S ∧ Gr w w' ∧ SolSays A B n S := by
 by_cases h1 : 1 ≤ wd A
 ·exact solve_pos f va vb A B w hf ha hb hl hlb hma hmb h0 h1 hm1
 ·exact solve_flat f va vb A B w hf ha hb hl hlb hma hmb h0 (by omega) hm1
end Go.Proofs.YtbbglejdfbkjlaaGreat
namespace Go.Proofs.YtbbglejdfbkjlaaGreat
open Go.RowKit
theorem Bs.headAt {w : World} {b : Addr} {p c k : Nat} {l : List Int} (h : Bs w (.slice (some b) p c) l) (hk : k ≤ p) : Bs w (.slice (some b) k c) (l.take k) := by
 obtain ⟨h0, oa, c', he, h2, h3, h4, h5⟩ := h
 cases he
 have hl : (l.take k).length = k := by rw [List.length_take]; omega
 refine ⟨fun x hx => h0 x (List.mem_of_mem_take hx), some b, c, by rw [hl], by rw [hl]; omega, h3, h4, fun a ha i hi => ?_⟩
 rw [hl] at hi
 rw [h5 a ha i (by omega), List.getD_eq_getElem?_getD, List.getD_eq_getElem?_getD, List.getElem?_take_of_lt hi]
theorem append_dense {w0 w w' : World} {g n m : Nat} {us vs : List Value} {A B : List (List Int)} {v' : Value} (hw : Gr w0 w) (hg0 : w0.heap.size ≤ g) (ho : w.ownsRow w0.heap.size 25 1 (.slice (some ⟨g, 0, none⟩) n n) n us) (hA : ∀ i, i < n → Nr w0.heap.size w (us.getD i undef) (A.getD i [])) (hAl : A.length = n)
  (hBm : B.length = m) (hvs : ∀ i, i < m → Bs w0 (vs.getD i undef) (B.getD i [])) (h1 : w'.ownsRow w0.heap.size 25 1 v' (n + m) (us ++ vs)) (h2 : w.grownBy w' (some g)) : Bss w' v' (A ++ B) ∧ Gr w0 w' := by
 have hgr : Gr w0 w' := hw.append h2 fun k e => by cases e; exact hg0
 have hul : us.length = n := by have := ho.1; omega
 have hgg : ∃ cur, w.heap[g]? = some (.cells cur 25 (0, 0)) := by
  obtain ⟨_, ⟨he, _⟩ | ⟨g', c', cur, he, _, h3, _⟩⟩ := ho
  ·cases he
  ·cases he
   exact ⟨cur, h3⟩
 refine ⟨owns_bss h1 (by rw [List.length_append, hAl, hBm]) fun i hi => ?_, hgr⟩
 rw [List.length_append, hAl, hBm] at hi
 by_cases hin : i < n
 ·rw [List.getD_eq_getElem?_getD, List.getElem?_append_left (by omega), ← List.getD_eq_getElem?_getD, List.getD_eq_getElem?_getD (l := A ++ B), List.getElem?_append_left (by omega), ← List.getD_eq_getElem?_getD]
  obtain ⟨hb, h3⟩ := hA i hin
  rcases h3 with ⟨h4, oa, c', h5, h6, h7⟩ | ⟨g', c', cur, h5, h6, h7, h8, h9, h10⟩
  ·rw [h4, h5]
   exact ⟨by simp, oa, c', rfl, by simp, h7, h6, fun a ha j hj => by simp at hj⟩
  ·rw [h5]
   refine ⟨hb, some ⟨g', 0, none⟩, c', rfl, h8, h9, (fun e => by cases e), fun a ha j hj => ?_⟩
   cases ha
   have hne : g' ≠ g := fun e => by
    obtain ⟨cur2, h11⟩ := hgg
    rw [e, h11] at h7
    simp at h7
   have hlt := (Array.getElem?_eq_some_iff.1 h7).1
   have h12 : w'.heap[g']? = some (.cells cur 5 (0, 0)) := by
    rw [h2.block g' hlt (fun e => hne (by simpa using e))]
    exact h7
   rw [Addr.add_mid, Nat.zero_add, cell_of_row _ _ _ _ _ _ h12, h10 j hj]
 ·rw [List.getD_eq_getElem?_getD, List.getElem?_append_right (by omega), ← List.getD_eq_getElem?_getD, List.getD_eq_getElem?_getD (l := A ++ B), List.getElem?_append_right (by omega), ← List.getD_eq_getElem?_getD, hul, hAl]
  exact Bs.grown (hvs (i - n) (by omega)) hgr
def Twin (w0 w : World) (N : Nat) (s t : Value) : Prop := ∃ g1 g2 us, s = .slice (some ⟨g1, 0, none⟩) N N ∧ t = .slice (some ⟨g2, 0, none⟩) N N ∧ us.length = N ∧ Rw w g1 25 us ∧ Rw w g2 25 us ∧ g1 ≠ g2 ∧ w0.heap.size ≤ g1 ∧ w0.heap.size ≤ g2 ∧ Gr w0 w
theorem nils_rw (w : World) (N : Nat) : Rw (w.alloc (.cells (nils N) 25)) w.heap.size 25 (List.replicate N (.slice none 0 0)) := heap_alloc_new _ _
theorem twin_one (w : World) (N : Nat) {cur : Array Value} (hc : cur = nils N) : Twin w (((w.alloc (.cells cur 25)).alloc (.cells cur 25)).drew) N (.slice (some ⟨w.heap.size, 0, none⟩) N N) (.slice (some ⟨w.heap.size + 1, 0, none⟩) N N) := by
 subst hc
 have e : w.heap.size + 1 = (w.alloc (.cells (nils N) 25)).heap.size := by simp
 have h1 : Rw ((w.alloc (.cells (nils N) 25)).alloc (.cells (nils N) 25)) (w.heap.size + 1) 25 (List.replicate N (.slice none 0 0)) := by
  rw [e]
  exact nils_rw _ N
 exact ⟨_, _, List.replicate N (.slice none 0 0), rfl, rfl, by simp, (nils_rw w N).grown (Gr.drew (Gr.alloc (Gr.refl _) _ _)), h1, by omega, by omega, by omega, Gr.drew (Gr.alloc (Gr.alloc (Gr.refl _) _ _) _ _)⟩
theorem Twin.swap {w0 w : World} {N : Nat} {s t : Value} (h : Twin w0 w N s t) : Twin w0 w N t s := by
 obtain ⟨g1, g2, us, h1, h2, h3, h4, h5, h6, h7, h8, h9⟩ := h
 exact ⟨g2, g1, us, h2, h1, h3, h5, h4, fun e => h6 e.symm, h8, h7, h9⟩
theorem par_grown {w w' : World} {g gd : Nat} {K H S : Int} (h : Par w g K H S) (hg : w.grownBy w' (some gd)) (hne : g ≠ gd) : Par w' g K H S := by
 unfold Par at *
 rw [hg.block g (Array.getElem?_eq_some_iff.1 h).1 (fun e => hne (by simpa using e))]
 exact h
set_option maxRecDepth 100000 in
set_option maxHeartbeats 6400000 in
theorem solvedD_any (K H S d : Nat) (f vf vz : Value) (F Z : List (List Int)) (w : World) (hf : IsF w f) (hm : MayP K H S) (hF : Bss w vf F) (hW : Wide (d + S) F) (hl : F.length = K + H) (hZ : Bss w vz Z) (hZW : Wide (d + S) Z) (hzl : Z.length ≤ 800) (hd : d ≤ 20) :
  Calls Tryz.prog 68 #[f, par K H S, vf, vz] w fun e w' => ∃ v x T D0, e = .returned (.tuple #[v, .int .i64 x]) ∧ Bss w' v T ∧ Gr w w' ∧ IsMul (d + S) (ahead K H) F D0 ∧ SolSays ((D0 ++ Z).map (·.take d)) ((D0 ++ Z).map (·.drop d)) x T := by
 have hb : 1 ≤ K ∧ K ≤ 16 ∧ 1 ≤ H ∧ H ≤ 4 ∧ 1 ≤ S ∧ S ≤ 24 := by unfold MayP at hm; omega
 obtain ⟨hb1, hb2, hb3, hb4, hb5, hb6⟩ := hb
 have HM := Lib.hid hm
 obtain ⟨m, hmm⟩ : ∃ m, d + S = m := ⟨_, rfl⟩
 rw [hmm] at hW hZW ⊢
 have hm44 : m ≤ 44 := by omega
 have HF := Lib.hid hf
 have HFB := Lib.hid hF
 have HFW := Lib.hid hW
 have HFL := Lib.hid hl
 have HZB := Lib.hid hZ
 have HZW := Lib.hid hZW
 have HMM := Lib.hid hmm
 obtain ⟨of, cf, rfl, _⟩ := hF
 obtain ⟨oz, cz, rfl, _⟩ := hZ
 obtain ⟨nz, hnz⟩ : ∃ n, Z.length = n := ⟨_, rfl⟩
 obtain ⟨n, hn⟩ : ∃ n, F.length = n := ⟨_, rfl⟩
 rw [hnz] at HZB hzl ⊢
 rw [hn] at HFB ⊢
 have HNZ := Lib.hid hnz
 have HN := Lib.hid hn
 have P0 : Hid (Par (w.alloc (.cells #[.int .i64 (K : Int), .int .i64 (H : Int), .int .i64 (S : Int)] 23)) w.heap.size K H S) := Lib.hid (heap_alloc_new _ _)
 have HG0 : Hid (Gr w (w.alloc (.cells #[.int .i64 (K : Int), .int .i64 (H : Int), .int .i64 (S : Int)] 23))) := Lib.hid (Gr.alloc (Gr.refl _) _ _)
 clear hf hm hW hl hZW hmm hnz hn
 go_enter Tryz.func68, Tryz.ntmps68
 go_upto_region 1 with fail
 generalize w.alloc (.cells #[.int .i64 (K : Int), .int .i64 (H : Int), .int .i64 (S : Int)] 23) = W0 at *
 generalize w.heap.size = gb at *
 have p0 := P0.out.cell0
 have p1 := P0.out.cell1
 have p2 := P0.out.cell2
 go_wp2_with fail
 refine (rows_pre K H S _).mono ?_
 rw [aheadP_in HM.out]
 rintro e w1 ⟨va, rfl, hra, hg1⟩
 have RA : Hid (Bss w1 va (ahead K H)) := Lib.hid hra.rws.bss
 obtain ⟨oa, ma, ca, rfl⟩ := hra.rws.form4
 have P1 := Lib.hid (P0.out.grown hg1)
 have HGB : Hid (gb < w1.heap.size) := Lib.hid (Array.getElem?_eq_some_iff.1 P1.out).1
 have G1 := Lib.hid (Gr.trans HG0.out hg1)
 clear hra hg1 P0 HG0 p0 p1 p2
 have HAM : Hid (mayL (ahead K H) = true ∧ mayL F = true) := Lib.hid ⟨(ahead_wide K H).may (by omega), HFW.out.may (by omega)⟩
 have HWD : Hid (wd (ahead K H) = F.length ∧ wd F = m) := Lib.hid ⟨by rw [(ahead_wide K H).wd (by rw [ahead_length]; omega), HFL.out], HFW.out.wd (by rw [HFL.out]; omega)⟩
 go_wp2_with fail
 refine (mul_own f _ _ (ahead K H) F _ (IsF.grown HF.out G1.out) RA.out (Bss.grown HFB.out G1.out) (by rw [ahead_length]; omega) (by rw [HFL.out]; omega) HAM.out.1 HAM.out.2 (by rw [ahead_length]; omega) HWD.out.1).mono ?_
 rintro e w2 ⟨vd, D0, rfl, hdb, hg2, hmul, gd, us, rfl, hcells, hown⟩
 rw [HWD.out.2] at hmul
 rw [ahead_length] at hcells hown ⊢
 have HMUL := Lib.hid hmul
 have HOWN := Lib.hid hown
 have HNR : Hid (∀ i, i < H → Nr w1.heap.size w2 (us.getD i undef) (D0.getD i [])) := Lib.hid fun i hi => (hcells i hi).2
 have G12 := Lib.hid hg2
 have HDL : Hid (D0.length = H) := Lib.hid (by rw [hmul.length, ahead_length])
 have HGD : Hid (w1.heap.size ≤ gd) := Lib.hid (ownsRow_base hown gd rfl)
 have P2 := Lib.hid (P1.out.grown hg2)
 have G2 := Lib.hid (Gr.trans G1.out hg2)
 clear hdb hg2 hmul hcells hown P1 RA
 obtain ⟨vs, hvals⟩ := (Bss.grown HZB.out G1.out).vals
 have HV := Lib.hid (hvals.grown G12.out)
 have HV1 : Hid (∀ i, i < nz → Bs w1 (vs.getD i undef) (Z.getD i [])) := Lib.hid fun i hi => hvals.2.2.1 i (by rw [HNZ.out]; exact hi)
 have HZNO : Hid (oz = none → nz = 0 ∧ cz = 0) := Lib.hid fun e => by
  obtain ⟨oa', c', he, h1, h2, h3, h4⟩ := HZB.out
  cases he
  have := h3 e
  have := HNZ.out
  omega
 obtain ⟨i0, hi0, hz0, hz1, hz2⟩ := info_parts info22
 have HVL : Hid (vs.length = nz) := Lib.hid (by rw [HV.out.1, HNZ.out])
 have HNE : Hid (gb ≠ gd) := Lib.hid (by have := HGD.out; have := HGB.out; omega)
 have HMX : Hid (H + nz ≤ maxLen ∧ (H + nz) * 24 ≤ 140737488355328) := Lib.hid ⟨by unfold maxLen; omega, by omega⟩
 clear hvals
 go_wp2_with (at_builtin; refine wpList_append_in rfl _ _ 65 rfl w1.heap.size 25 i0 _ 24 Tryz.underlying65 hi0 hz0 hz1 hz2 rfl (.slice (some ⟨gd, 0, none⟩) H H) H us rfl HOWN.out oz nz cz vs rfl HZNO.out HVL.out HV.out.2.1 HV.out.2.2.2 HMX.out.1 HMX.out.2 G12.out.size ?_; intro v3 w3 h3 hg3; have A3 := Lib.hid (append_dense G12.out HGD.out HOWN.out HNR.out HDL.out HNZ.out HV1.out h3 hg3); obtain ⟨o3, c3, rfl⟩ := ownsRow_form'' h3; have P3 := Lib.hid (par_grown P2.out hg3 HNE.out); clear h3 hg3)
 obtain ⟨N, hN⟩ : ∃ N, H + nz = N := ⟨_, rfl⟩
 rw [hN] at A3 ⊢
 have HNN := Lib.hid hN
 have hN8 : N ≤ 1000 := by omega
 have hN1 : 1 ≤ N := by omega
 have HDDL : Hid ((D0 ++ Z).length = N) := Lib.hid (by rw [List.length_append, HDL.out, HNZ.out]; exact hN)
 have HDDW : Hid (Wide m (D0 ++ Z)) := Lib.hid fun r hr => by
  rcases List.mem_append.1 hr with h | h
  ·exact HMUL.out.1 r h
  ·exact HZW.out r h
 have B3 : Hid (Bss w3 (.slice o3 N c3) (D0 ++ Z)) := Lib.hid A3.out.1
 have G3 : Hid (Gr w w3) := Lib.hid (Gr.trans G1.out A3.out.2)
 generalize hDD : D0 ++ Z = DD at *
 have HDD := Lib.hid hDD
 clear hN A3 HOWN HNR HV HV1 HZNO HVL HNE HMX hDD hi0 hz0 hz1 hz2
 have hR : ∃ cur, cur = nils N := ⟨_, rfl⟩
 obtain ⟨cur, hcur⟩ := hR
 have hmk : ∀ W, (Instr.makeSlice 65 (.int .i64 (N : Int)) (.int .i64 (N : Int))).run Tryz.prog W = .ok (.slice (some ⟨W.heap.size, 0, none⟩) N N) (W.alloc (.cells cur 25)) := fun W => by rw [hcur]; exact make24 N N (Nat.le_refl _) (by omega) W
 have HCU := Lib.hid hcur
 clear hcur
 go_cut [12, 13] (fun s t wx => Twin w3 wx N s t)
 case first =>
  go_region_held3 (fun _ => True) (first | trivial | go_keep) (fail)
  all_goals (go_wp2_with fail; go_meet)
  all_goals
   first
    | exact twin_one _ N HCU.out
    | exact (twin_one _ N HCU.out).swap
 case rest =>
  clear hmk
  obtain ⟨g1, g2, us0, rfl, rfl, hul0, hr1, hr2, hne12, hge1, hge2, hgr⟩ := hcut
  have HUL := Lib.hid hul0
  have HNE := Lib.hid hne12
  have HGE : Hid (w3.heap.size ≤ g1 ∧ w3.heap.size ≤ g2) := Lib.hid ⟨hge1, hge2⟩
  have HGB3 : Hid (gb < w3.heap.size) := Lib.hid (Array.getElem?_eq_some_iff.1 P3.out).1
  have hne : ∀ c, m ≤ c → c ≠ d := fun c h => by have := HMM.out; omega
  have hsub : (m : Int) - (S : Int) = (d : Int) := by have := HMM.out; omega
  have hsub2 : m - d = S := by have := HMM.out; omega
  have hle : d ≤ m := by have := HMM.out; omega
  clear hul0 hne12 hge1 hge2 HNZ HZB HFB HCU G12
  go_wp2_with fail
  go_loopw [36] (fun iv W => ∃ (i : Nat) (us1 us2 : List Value), i ≤ N ∧ iv = .int .i64 i ∧ us1.length = N ∧ us2.length = N ∧ Rw W g1 25 us1 ∧ Rw W g2 25 us2 ∧ Gr w3 W ∧ ∀ j, j < i → Bs w3 (us1.getD j undef) ((DD.getD j []).take d) ∧ Bs w3 (us2.getD j undef) ((DD.getD j []).drop d)) (fun iv _ => N - (intOf iv).toNat)
  case atStart => exact ⟨0, us0, us0, by omega, rfl, HUL.out, HUL.out, hr1, hr2, hgr, fun j hj => by omega⟩
  case round =>
   clear hr1 hr2 hgr
   obtain ⟨wo, hwo⟩ : ∃ x, x = wr := ⟨_, rfl⟩
   subst hwo
   obtain ⟨i, us1, us2, hi, rfl, hu1, hu2, hr1, hr2, hgr, hs⟩ := hrel
   have U1 := Lib.hid hu1
   have U2 := Lib.hid hu2
   have R1 := Lib.hid hr1
   have R2 := Lib.hid hr2
   have GG := Lib.hid hgr
   have HS := Lib.hid hs
   clear hu1 hu2 hr1 hr2 hgr hs
   by_cases hlt : i < N
   ·obtain ⟨a3, c3', he, _, _, h3⟩ := Bss.at B3.out (by rw [HDDL.out]; omega)
    obtain ⟨rfl, rfl⟩ : o3 = some a3 ∧ c3 = c3' := by
     rw [HDDL.out] at he
     simpa using he
    obtain ⟨u, q0, hu⟩ := h3 i (by rw [HDDL.out]; exact hlt)
    have hwl := (HDDW.out.at i (by rw [HDDL.out]; exact hlt)).1
    obtain ⟨ar, cr, rfl, hcr, _, _⟩ := Bs.at hu (by omega)
    rw [hwl] at q0 hu hcr
    have q1 := cell_gr GG.out q0
    have p2 := (P3.out.grown GG.out).cell2
    have T1 := Lib.hid (hu.headAt hle)
    have T2 : Hid (Bs w3 (.slice (some (ar.add d)) S (cr - d)) ((DD.getD i []).drop d)) := Lib.hid (by have := hu.dropAt hle; rwa [hsub2] at this)
    have hcne := hne cr hcr
    clear q0 hu h3 hwl he
    go_upto_region 8 with fail
    have e1 := R1.out.cell i (by rw [U1.out]; exact hlt)
    have f1 := R1.out.frz i
    have e2 := R2.out.cell i (by rw [U2.out]; exact hlt)
    have f2 := R2.out.frz i
    have hdc : (d : Int) ≤ (cr : Int) := by omega
    have hdc2 : d ≤ cr := by omega
    have n1 : g1 ≠ g2 := HNE.out
    have n2 : g2 ≠ g1 := fun e => HNE.out e.symm
    have b1 : ((wo.drew).setCell ⟨g1, i, none⟩ (.slice (some ar) d cr)).cell? ⟨g2, i, none⟩ = some (us2.getD i undef) := ((Kp.set wo.drew g1 i _).cell (by exact e2) n2)
    have b2 : ((wo.drew).setCell ⟨g2, i, none⟩ (.slice (some (ar.add d)) S (cr - d))).cell? ⟨g1, i, none⟩ = some (us1.getD i undef) := ((Kp.set wo.drew g2 i _).cell (by exact e1) n1)
    have b3 : ((wo.drew).setCell ⟨g1, i, none⟩ (.slice (some ar) d cr)).frozen? ⟨g2, i, none⟩ = false := (R2.out.kp (W' := (wo.drew).setCell ⟨g1, i, none⟩ (.slice (some ar) d cr)) (Kp.set wo.drew g1 i _) n2).frz i
    have b4 : ((wo.drew).setCell ⟨g2, i, none⟩ (.slice (some (ar.add d)) S (cr - d))).frozen? ⟨g1, i, none⟩ = false := (R1.out.kp (W' := (wo.drew).setCell ⟨g2, i, none⟩ (.slice (some (ar.add d)) S (cr - d))) (Kp.set wo.drew g2 i _) n1).frz i
    go_region_held3 (fun _ => True) (first | trivial | go_keep) (fail)
    have k1 : Rw ((wo.setCell ⟨g1, i, none⟩ (.slice (some ar) d cr)).setCell ⟨g2, i, none⟩ (.slice (some (ar.add d)) S (cr - d))) g1 25 (us1.set i (.slice (some ar) d cr)) := (R1.out.set i _).kp (Kp.set _ g2 i _) n1
    have k2 : Rw ((wo.setCell ⟨g1, i, none⟩ (.slice (some ar) d cr)).setCell ⟨g2, i, none⟩ (.slice (some (ar.add d)) S (cr - d))) g2 25 (us2.set i (.slice (some (ar.add d)) S (cr - d))) := (R2.out.kp (Kp.set _ g1 i _) n2).set i _
    have k3 : Gr w3 ((wo.setCell ⟨g1, i, none⟩ (.slice (some ar) d cr)).setCell ⟨g2, i, none⟩ (.slice (some (ar.add d)) S (cr - d))) := Gr.setCell (Gr.setCell GG.out HGE.out.1 _) HGE.out.2 _
    have K1 := Lib.hid k1
    have K2 := Lib.hid k2
    have K3 := Lib.hid k3
    clear k1 k2 k3 b1 b2 b3 b4 e1 e2 f1 f2
    all_goals
     go_wp2_with fail
     refine ⟨⟨i + 1, _, _, by omega, by go_num, ?_, ?_, K1.out, K2.out, K3.out, fun j hj => ?_⟩, by simp [intOf]; omega⟩
     ·rw [List.length_set]; exact U1.out
     ·rw [List.length_set]; exact U2.out
     ·by_cases e : j = i
      ·subst e
       rw [getD_selfV (by rw [U1.out]; exact hlt), getD_selfV (by rw [U2.out]; exact hlt)]
       exact ⟨T1.out, T2.out⟩
      ·rw [getD_neV (fun c => e c.symm), getD_neV (fun c => e c.symm)]
       exact HS.out j (by omega)
   ·obtain rfl : i = N := by omega
    have BA : ∀ (g : Nat) (us : List Value) (f : List Int → List Int), Rw wo g 25 us → us.length = i → (∀ j, j < i → Bs w3 (us.getD j undef) (f (DD.getD j []))) → Bss wo (.slice (some ⟨g, 0, none⟩) i i) (DD.map f) := fun g us f h1 h2 h3 => by
     refine ⟨some ⟨g, 0, none⟩, i, by rw [List.length_map, HDDL.out], by rw [List.length_map, HDDL.out]; omega, by omega, (fun h => by cases h), fun a ha j hj => ?_⟩
     cases ha
     rw [List.length_map, HDDL.out] at hj
     refine ⟨us.getD j undef, by rw [Addr.add_mid, Nat.zero_add, h1.cell j (by rw [h2]; exact hj)], ?_⟩
     rw [DC.getD_mapL (e := []) (by rw [HDDL.out]; exact hj)]
     exact Bs.grown (h3 j hj) GG.out
    have W1 := Lib.hid (BA g1 us1 (fun l => l.take d) R1.out U1.out fun j hj => (HS.out j hj).1)
    have W2 := Lib.hid (BA g2 us2 (fun l => l.drop d) R2.out U2.out fun j hj => (HS.out j hj).2)
    have Y1 : Hid (Wide d (DD.map fun l => l.take d)) := Lib.hid fun r hr => by
     obtain ⟨x, hx, rfl⟩ := List.mem_map.1 hr
     exact ⟨by rw [List.length_take, (HDDW.out x hx).1]; omega, fun z hz => (HDDW.out x hx).2 z (List.mem_of_mem_take hz)⟩
    have Y2 : Hid (Wide S (DD.map fun l => l.drop d)) := Lib.hid fun r hr => by
     obtain ⟨x, hx, rfl⟩ := List.mem_map.1 hr
     exact ⟨by rw [List.length_drop, (HDDW.out x hx).1]; exact hsub2, fun z hz => (HDDW.out x hx).2 z (List.mem_of_mem_drop hz)⟩
    have Y3 : Hid (mayL (DD.map fun l => l.take d) = true ∧ mayL (DD.map fun l => l.drop d) = true) := Lib.hid ⟨Y1.out.may (by omega), Y2.out.may (by omega)⟩
    have Y4 : Hid (0 < (DD.map fun l => l.take d).length ∧ (DD.map fun l => l.take d).length ≤ 1000 ∧ (DD.map fun l => l.drop d).length = (DD.map fun l => l.take d).length) := Lib.hid (by rw [List.length_map, List.length_map, HDDL.out]; omega)
    have Y5 : Hid (1 ≤ wd (DD.map fun l => l.drop d)) := Lib.hid (by rw [Y2.out.wd (by rw [Y4.out.2.2]; exact Y4.out.1)]; exact hb5)
    clear BA hne hsub hsub2
    go_wp2_with fail
    refine (solve_all f _ _ (DD.map fun l => l.take d) (DD.map fun l => l.drop d) _ (IsF.grown HF.out (Gr.trans G3.out GG.out)) W1.out W2.out Y4.out.2.1 Y4.out.2.2 Y3.out.1 Y3.out.2 Y4.out.1 Y5.out).mono ?_
    rintro e w9 ⟨v9, x9, T, rfl, hr9, hg9, hs9⟩
    have B9 := Lib.hid hr9.rws.bss
    have G9 := Lib.hid (Gr.trans G3.out (Gr.trans GG.out hg9))
    have S9 := Lib.hid hs9
    obtain ⟨o9, m9, c9, rfl⟩ := hr9.rws.form4
    clear hr9 hg9 hs9
    go_wp2_with fail
    go_ret2
    exact ⟨_, _, T, D0, rfl, B9.out, G9.out, HMUL.out, by rw [HDD.out]; exact S9.out⟩
end Go.Proofs.YtbbglejdfbkjlaaGreat
namespace Go.Proofs.YtbbglejdfbkjlaaGreat
open Go.RowKit
theorem Bs.byteAt {w : World} {a : Addr} {m c : Nat} {l : List Int} (h : Bs w (.slice (some a) m c) l) {i : Nat} (hi : i < m) : w.cell? (a.add i) = some (.int .u8 (l.getD i 0)) := by
 obtain ⟨_, oa, c', he, _, _, _, h5⟩ := h
 cases he
 exact h5 a rfl i hi
theorem Rws.rowAtD {base g n c : Nat} {w : World} {L : List (List Int)} (h : Rws base w (.slice (some ⟨g, 0, none⟩) n c) L) (hL : L.length = n) {i : Nat} (hi : i < n) : ∃ o m c', w.cell? ⟨g, i, none⟩ = some (.slice o m c') ∧ Bs w (.slice o m c') (L.getD i []) ∧ w.frozen? ⟨g, i, none⟩ = false ∧ base ≤ g := by
 obtain ⟨_, h2, h3, _⟩ := h.store hL hi
 obtain ⟨us, ho, hr⟩ := h
 rw [hL] at ho hr
 obtain ⟨g', c', he, _, _, _, _, h7⟩ := ownsRow_cell ho (by omega)
 cases he
 have h8 := h7 i hi
 have h9 := (hr i hi).1
 obtain ⟨o, m, c2, e⟩ := h9.form4
 rw [e] at h8 h9
 exact ⟨o, m, c2, h8, h9, h2, h3⟩
set_option maxRecDepth 100000 in
set_option maxHeartbeats 6400000 in
theorem putBack_any (n d S : Nat) (f vf vt : Value) (F T : List (List Int)) (w : World) (hf : IsF w f) (hF : Bss w vf F) (hW : Wide (d + S) F) (hl : F.length = n) (hn : n ≤ 64) (hT : Bss w vt T) (hTW : Wide S T) (hTl : T.length = d) (hd : d ≤ 20) (hS : 1 ≤ S) (hS2 : S ≤ 24) :
  Calls Tryz.prog 69 #[f, vf, vt] w fun e w' => ∃ v, e = .returned v ∧ Bss w' v (F.map fun x => DC.putV T x d) ∧ Gr w w' := by
 obtain ⟨m, hmm⟩ : ∃ m, d + S = m := ⟨_, rfl⟩
 have HF := Lib.hid hf
 have HFB := Lib.hid hF
 have HFW := Lib.hid hW
 have HFL := Lib.hid hl
 have HTB := Lib.hid hT
 have HTW := Lib.hid hTW
 have HTL := Lib.hid hTl
 have HMM := Lib.hid hmm
 rw [hmm] at HFW
 obtain ⟨of, cf, rfl, _⟩ := hF
 obtain ⟨ot, ct, rfl, _⟩ := hT
 rw [hTl] at HTB ⊢
 rw [hl] at HFB ⊢
 have hmk : ∀ W, (Instr.makeSlice 65 (.int .i64 (n : Int)) (.int .i64 (n : Int))).run Tryz.prog W = .ok (.slice (some ⟨W.heap.size, 0, none⟩) n n) (W.alloc (.cells (nils n) 25)) := fun W => make24 n n (Nat.le_refl _) (by omega) W
 have HPV : Hid (∀ c, c < n → ∀ i, i ≤ d → (DC.putV T (F.getD c []) i).length = S) := Lib.hid fun c hc i hi => by
  have hw := HFW.out.at c (by rw [HFL.out]; exact hc)
  exact (DC.putV_is HTW.out HTL.out (by rw [hw.1]; exact HMM.out.symm) hw.2 i hi).1
 have h0 := Fill.start w n (by omega) (fun _ _ => True)
 have R0 : Hid (Rws w.heap.size (w.alloc (.cells (nils n) 25)) (.slice (some ⟨w.heap.size, 0, none⟩) n n) (List.replicate n [])) := Lib.hid ⟨_, by rw [List.length_replicate]; exact h0.own, by rw [List.length_replicate]; exact h0.row⟩
 have G0 := Lib.hid h0.gr
 have hne : ∀ c, m ≤ c → c ≠ d := fun c h => by omega
 have hsub2 : m - d = S := by omega
 have hle : d ≤ m := by omega
 clear hf hW hl hTW hTl hmm h0
 go_enter Tryz.func69, Tryz.ntmps69
 go_wp2_with fail
 clear hmk
 generalize w.alloc (.cells (nils n) 25) = W0 at *
 generalize hgp : w.heap.size = gp at *
 have HGP := Lib.hid hgp
 go_loopw [17] (fun iv W => ∃ (c : Nat) (M : List (List Int)), c ≤ n ∧ iv = .int .i64 c ∧ Rws gp W (.slice (some ⟨gp, 0, none⟩) n n) M ∧ M.length = n ∧ Gr w W ∧ ∀ j, j < c → M.getD j [] = DC.putV T (F.getD j []) d) (fun iv _ => n - (intOf iv).toNat)
 case atStart => exact ⟨0, _, by omega, rfl, R0.out, by simp, G0.out, fun j hj => by omega⟩
 case round =>
  clear R0 G0 hgp
  obtain ⟨wo, hwo⟩ : ∃ x, x = wr := ⟨_, rfl⟩
  subst hwo
  obtain ⟨c, M, hc, rfl, hr, hml, hg, hs⟩ := hrel
  have RR := Lib.hid hr
  have ML := Lib.hid hml
  have GG := Lib.hid hg
  have HS := Lib.hid hs
  clear hr hml hg hs
  by_cases hlt : c < n
  ·obtain ⟨a3, c3', he, _, _, h3⟩ := Bss.at HFB.out (by rw [HFL.out]; omega)
   obtain ⟨rfl, rfl⟩ : of = some a3 ∧ cf = c3' := by
    rw [HFL.out] at he
    simpa using he
   obtain ⟨u, q0, hu⟩ := h3 c (by rw [HFL.out]; exact hlt)
   have hwl := HFW.out.at c (by rw [HFL.out]; exact hlt)
   obtain ⟨ar, cr, rfl, hcr, _, _⟩ := Bs.at hu (by rw [hwl.1]; omega)
   rw [hwl.1] at q0 hu hcr
   have q1 := cell_gr GG.out q0
   have HU := Lib.hid hu
   have hu2 := hu.dropAt hle
   rw [hsub2] at hu2
   have U2 := Lib.hid hu2
   have RB2 : Hid (Rb gp w (.slice (some (ar.add d)) S (cr - d))) := Lib.hid (by rw [← HGP.out]; exact Rb.of_lt hu2)
   have hcne := hne cr hcr
   obtain ⟨⟨u9, e1⟩, f1, _⟩ := RR.out.store ML.out hlt
   have HWB : Hid (∀ z ∈ F.getD c [], Byt z) := Lib.hid hwl.2
   have hp0 : DC.putV T (F.getD c []) 0 = (F.getD c []).drop d := by
    show (F.getD c []).drop T.length = _
    rw [HTL.out]
   have HP0 := Lib.hid hp0
   clear q0 hu hu2 h3 hwl he hp0
   go_upto_region 6 with fail
   have hb2 := Rb.gr U2.out RB2.out GG.out
   have R1 := Lib.hid (RR.out.put1 ML.out hlt hb2.1 hb2.2)
   have G1 : Hid (Gr w (wo.setCell ⟨gp, c, none⟩ (.slice (some (ar.add d)) S (cr - d)))) := Lib.hid (Gr.setCell GG.out (by rw [HGP.out]; exact Nat.le_refl _) _)
   clear hb2 e1 f1 q1
   generalize wo.setCell ⟨gp, c, none⟩ (.slice (some (ar.add d)) S (cr - d)) = w1 at *
   go_wp2_with fail
   go_loopw [31] (fun iv W => ∃ (i : Nat) (M2 : List (List Int)), i ≤ d ∧ iv = .int .i64 i ∧ Rws gp W (.slice (some ⟨gp, 0, none⟩) n n) M2 ∧ M2.length = n ∧ Gr w W ∧ M2.getD c [] = DC.putV T (F.getD c []) i ∧ ∀ j, j < c → M2.getD j [] = DC.putV T (F.getD j []) d) (fun iv _ => d - (intOf iv).toNat)
   case atStart =>
    refine ⟨0, _, by omega, rfl, R1.out, by rw [List.length_set]; exact ML.out, G1.out, ?_, fun j hj => ?_⟩
    ·rw [DC.getD_set_selfL (by rw [ML.out]; exact hlt), HP0.out]
    ·rw [DC.getD_set_neL (by omega)]
     exact HS.out j hj
   case round =>
    clear R1 G1
    obtain ⟨wi, hwi⟩ : ∃ x, x = wr := ⟨_, rfl⟩
    subst hwi
    obtain ⟨i, M2, hi, rfl, hr, hml, hg, hm2, hs⟩ := hrel
    have RI := Lib.hid hr
    have ML2 := Lib.hid hml
    have GI := Lib.hid hg
    have HM2 := Lib.hid hm2
    have HS2 := Lib.hid hs
    clear hr hml hg hm2 hs
    by_cases hlt2 : i < d
    ·obtain ⟨at', ct', he, _, _, h3⟩ := Bss.at HTB.out (by rw [HTL.out]; omega)
     obtain ⟨rfl, rfl⟩ : ot = some at' ∧ ct = ct' := by
      rw [HTL.out] at he
      simpa using he
     obtain ⟨ut, qt, ht⟩ := h3 i (by rw [HTL.out]; exact hlt2)
     obtain ⟨o1, m1, c1, rfl⟩ := ht.form4
     have qt := cell_gr GI.out qt
     have HT1 := Lib.hid (ht.grown GI.out)
     have HTI : Hid ((T.getD i []).length = S) := Lib.hid (HTW.out.at i (by rw [HTL.out]; exact hlt2)).1
     obtain ⟨o2, m2, c2, e1, hb2, f1, _⟩ := RI.out.rowAtD ML2.out hlt
     rw [HM2.out] at hb2
     have HB2 := Lib.hid hb2
     have HL2 : Hid ((DC.putV T (F.getD c []) i).length = S) := Lib.hid (HPV.out c hlt i hi)
     have him : i < m := by omega
     have qf := cell_gr GI.out (HU.out.byteAt him)
     obtain ⟨z, hz⟩ : ∃ z, (F.getD c []).getD i 0 = z := ⟨_, rfl⟩
     rw [hz] at qf
     have hzb : Byt z := by rw [← hz]; exact getD_byt HWB.out i
     have HZB := Lib.hid hzb
     have hst : DC.putV T (F.getD c []) (i + 1) = axL z (T.getD i []) (DC.putV T (F.getD c []) i) := by rw [← hz]; rfl
     have HST := Lib.hid hst
     have F1 := Lib.hid (IsF.grown HF.out GI.out)
     clear ht hb2 hz hst h3 he hzb
     go_wp2_with fail
     go_region_law (first
       | ((try go_simp); go_at_call 107; refine (ok_axpy f _ _ z (T.getD i []) (DC.putV T (F.getD c []) i) _ (IsF.grown F1.out (Gr.drew (Gr.refl _))) HZB.out (HT1.out.grown (Gr.drew (Gr.refl _))) (HB2.out.grown (Gr.drew (Gr.refl _))) (by rw [HTI.out]; omega) (by rw [HL2.out, HTI.out])).mono ?_; rintro e w2 ⟨v2, rfl, hnw⟩; obtain ⟨o5, m5, c5, rfl⟩ := New.form3 hnw; have hc2 := cell_grown hnw.1 e1; have hf2 := frozen_grown hnw.1 e1 f1; have HNW := Lib.hid hnw; clear hnw))
     all_goals
      go_wp2_with fail
      refine ⟨⟨i + 1, _, by omega, by go_num, (RI.out.grown (gr_drew HNW.out.1)).put1 ML2.out hlt (New.bs HNW.out) (New.rb HNW.out _), by rw [List.length_set]; exact ML2.out, Gr.setCell (Gr.trans GI.out (gr_drew HNW.out.1)) (by rw [HGP.out]; exact Nat.le_refl _) _, ?_, fun j hj => ?_⟩, by simp [intOf]; omega⟩
      ·rw [DC.getD_set_selfL (by rw [ML2.out]; exact hlt), HST.out]
      ·rw [DC.getD_set_neL (by omega)]
       exact HS2.out j hj
    ·obtain rfl : i = d := by omega
     go_wp2_with fail
     refine ⟨⟨c + 1, M2, by omega, by go_num, RI.out, ML2.out, GI.out, fun j hj => ?_⟩, by simp [intOf]; omega⟩
     by_cases e : j = c
     ·rw [e]; exact HM2.out
     ·exact HS2.out j (by omega)
  ·obtain rfl : c = n := by omega
   go_wp2_with fail
   go_ret
   have hM : M = F.map fun x => DC.putV T x d := by
    apply List.ext_getElem (by rw [List.length_map, ML.out, HFL.out])
    intro j j1 j2
    have := HS.out j (by rw [← ML.out]; exact j1)
    rw [List.getD_eq_getElem?_getD, List.getElem?_eq_getElem j1, List.getD_eq_getElem?_getD, List.getElem?_eq_getElem (by rw [List.length_map] at j2; exact j2)] at this
    rw [List.getElem_map]
    exact this
   refine ⟨_, rfl, ?_, GG.out⟩
   rw [← hM]
   exact RR.out.bss
end Go.Proofs.YtbbglejdfbkjlaaGreat
namespace Go.Proofs.YtbbglejdfbkjlaaGreat
open Go.RowKit
namespace DC
section
variable {K H S seed d : Nat} {Y : List Symb} {kn : List Bool} {vs : List (List Int)} {rs : List Eqn} {late : List Int} {st : List (Int × Int)} {de le : List Int}
theorem zeros_wide {F : List (List Int)} {n : Nat} (h : Plan n S kn rs late st de le) (hl : F.length = n) (hF : Wide (d + S) F) : Wide (d + S) (zerosL d F rs le) := fun r hr => by
 obtain ⟨x, hx, rfl⟩ := List.mem_map.1 hr
 have e3 : le = PN.leftTo (PN.run n (rs.map (·.c)) n).us (rs.map (·.c)).length := h.hle
 rw [e3] at hx
 obtain ⟨i, hi, _, rfl⟩ := (PN.leftTo_mem _ _ _).1 hx
 rw [List.length_map] at hi
 obtain ⟨m1, m2, m3, _⟩ := h.row _ (mem_getD hi noE)
 rw [Int.toNat_natCast]
 have := totL_is hF (q := rs.getD i noE) (fun x hx => by have := h.cols hi x hx; rw [hl]; omega) m2 m3
 exact ⟨this.1, this.2.1⟩
theorem dec_done {F D0 T : List (List Int)} {e : Int} (hA : AllY K H S Y) (hf : FullP K H S seed (idsY Y)) (hbY : ∀ q ∈ Y, ∀ z ∈ q.d, Byt z)
  (hp : PeelOkIs (K + H) S ((eqsY K H S seed Y).map toE) kn vs) (hP : Plan (K + H) S kn (leftE kn vs (eqsY K H S seed Y)) late st de le) (hd : late.length = d)
  (hF : F = runF d (leftE kn vs (eqsY K H S seed Y)) st (bgs d S vs late d) st.length) (hD : IsMul (d + S) (ahead K H) F D0)
  (hs : SolSays ((D0 ++ zerosL d F (leftE kn vs (eqsY K H S seed Y)) le).map (·.take d)) ((D0 ++ zerosL d F (leftE kn vs (eqsY K H S seed Y)) le).map (·.drop d)) e T) :
  (e = 10 ∧ T = [] ∧ ¬ ∃ M, IsMidY K H S seed Y M) ∨ (e = 0 ∧ T.length = d ∧ Wide S T ∧ IsMidY K H S seed Y (F.map fun f => putV T f d)) := by
 have hm := hA.1
 have hH : 1 ≤ H := by unfold MayP at hm; omega
 have hQ := eqs_row (seed := seed) hA
 have hbQ : ∀ q ∈ eqsY K H S seed Y, ∀ z ∈ q.d, Byt z := fun q hq => by
  obtain ⟨y, hy, rfl⟩ := List.mem_map.1 hq
  exact hbY y hy
 have hb := bgs_begun hp.val (by rw [hp.val.1, hp.len]) hp.no hd hP.lates.1 hP.lates.2 d (Nat.le_refl _)
 have hr := run_ran hP hb hp.no hd st.length (Nat.le_refl _)
 rw [← hF] at hr
 have hE := left_eq hp.val hQ hbQ
 have hfm := ran_formed hP hr hd hE
 have hZw := zeros_wide hP hr.len hr.wide
 have hDl : D0.length = H := by rw [hD.length, ahead_length]
 generalize hZ : zerosL d F (leftE kn vs (eqsY K H S seed Y)) le = Z at *
 have hDZ : Wide (d + S) (D0 ++ Z) := fun r hr' => by
  rcases List.mem_append.1 hr' with h1 | h1
  ·exact hD.1 r h1
  ·exact hZw r h1
 generalize hDD : D0 ++ Z = DD at *
 have hDDl : 0 < DD.length := by rw [← hDD, List.length_append]; omega
 have hWw : Wide d (DD.map (·.take d)) := fun r hr' => by
  obtain ⟨x, hx, rfl⟩ := List.mem_map.1 hr'
  exact ⟨by rw [List.length_take, (hDZ x hx).1]; omega, fun z hz => (hDZ x hx).2 z (List.mem_of_mem_take hz)⟩
 have hBw : Wide S (DD.map (·.drop d)) := fun r hr' => by
  obtain ⟨x, hx, rfl⟩ := List.mem_map.1 hr'
  exact ⟨by rw [List.length_drop, (hDZ x hx).1]; omega, fun z hz => (hDZ x hx).2 z (List.mem_of_mem_drop hz)⟩
 have hWl : 0 < (DD.map (·.take d)).length := by rw [List.length_map]; exact hDDl
 have hWne : DD.map (·.take d) ≠ [] := fun h => by rw [h] at hWl; simp at hWl
 have hwdW : wd (DD.map (·.take d)) = d := hWw.wd hWl
 have hwdB : wd (DD.map (·.drop d)) = S := hBw.wd (by rw [List.length_map]; exact hDDl)
 rw [← hwdW] at hWw
 have eW : (DD.map (·.take d)).map vec = (DD.map vec).map (L.cutV d) := by
  rw [List.map_map, List.map_map]
  exact List.map_congr_left fun l _ => vec_takeL l d
 have eB : (DD.map (·.drop d)).map vec = (DD.map vec).map (L.shV d) := by
  rw [List.map_map, List.map_map]
  exact List.map_congr_left fun l _ => vec_dropL l d
 have hDm : ∀ v ∈ DD.map vec, (∃ a ∈ (ahead K H).map vec, v = L.lc a (F.map vec)) ∨ v ∈ Z.map vec := fun v hv => by
  rw [← hDD, List.map_append, hD.2] at hv
  rcases List.mem_append.1 hv with h1 | h1
  ·obtain ⟨a, ha, rfl⟩ := List.mem_map.1 h1
   exact .inl ⟨a, ha, rfl⟩
  ·exact .inr h1
 have hDa : ∀ a ∈ (ahead K H).map vec, L.lc a (F.map vec) ∈ DD.map vec := fun a ha => by
  rw [← hDD, List.map_append, hD.2]
  exact List.mem_append.2 (.inl (List.mem_map.2 ⟨a, ha, rfl⟩))
 have hDz : ∀ z ∈ Z.map vec, z ∈ DD.map vec := fun z hz => by
  rw [← hDD, List.map_append]
  exact List.mem_append.2 (.inr hz)
 have hnd : ∀ q ∈ (eqsY K H S seed Y).map toE, q.cols.Nodup := fun q hq => by
  obtain ⟨q0, hq0, rfl⟩ := List.mem_map.1 hq
  exact mayRow_nodup (hQ q0 hq0).1
 have hlt : ∀ q ∈ (eqsY K H S seed Y).map toE, ∀ c ∈ q.cols, c < K + H := fun q hq c hc => by
  obtain ⟨q0, hq0, rfl⟩ := List.mem_map.1 hq
  obtain ⟨x, hx, rfl⟩ := List.mem_map.1 hc
  have := (hQ q0 hq0).1.1 x hx
  omega
 have hsupp : ∀ a ∈ (ahead K H).map vec, L.Supp (K + H) a := (ahead_wide K H).supp
 have hrk : rkL (DD.map (·.take d)) = d := by
  unfold rkL
  rw [eW]
  refine hfm.rank hlt hsupp (fun a ha => ?_) ?_ (X := F.map vec) (fun c _ => FV_row F c) (fun a ha => List.mem_map.2 ⟨_, hDa a ha, rfl⟩) fun z hz => List.mem_map.2 ⟨z, hDz z hz, rfl⟩
  ·obtain ⟨v, _, rfl⟩ := List.mem_map.1 ha
   exact L.cutV_supp d v
  ·rw [← fullP_rk hf]
   unfold rkL
   refine L.rk_same (L.Same.of_mem fun x => ?_)
   rw [List.mem_append, List.mem_map (f := vec) (l := matP K H S seed (idsY Y))]
   constructor
   ·rintro (h1 | h1)
    ·obtain ⟨r, hr', rfl⟩ := List.mem_map.1 h1
     exact ⟨r, (matP_mem hm).2 (.inl hr'), rfl⟩
    ·obtain ⟨q, hq, rfl⟩ := List.mem_map.1 h1
     obtain ⟨q0, hq0, rfl⟩ := List.mem_map.1 hq
     obtain ⟨y, hy, rfl⟩ := List.mem_map.1 hq0
     exact ⟨_, (matP_mem hm).2 (.inr ⟨y.i, List.mem_map.2 ⟨y, hy, rfl⟩, (hA.2 y hy).1, rfl⟩), row_tot hm (hA.2 y hy).1⟩
   ·rintro ⟨r, hr', rfl⟩
    rcases (matP_mem hm).1 hr' with h1 | ⟨i, hi, hmi, rfl⟩
    ·exact .inl (List.mem_map.2 ⟨r, h1, rfl⟩)
    ·obtain ⟨y, hy, rfl⟩ := List.mem_map.1 hi
     exact .inr (List.mem_map.2 ⟨_, List.mem_map.2 ⟨_, List.mem_map.2 ⟨y, hy, rfl⟩, rfl⟩, (row_tot hm hmi).symm⟩)
 rcases hs with ⟨h0, _⟩ | ⟨_, h1, _⟩ | ⟨_, h1, h2, h3, h4, h5⟩ | ⟨_, h1, h2, h3, h4⟩
 ·exact absurd h0 hWne
 ·omega
 ·right
  rw [hwdW] at h3
  rw [hwdB] at h4 h5
  have hTl : (T.map vec).length = d := by rw [List.length_map, h3]
  have hans : ∀ v ∈ DD.map vec, ev d (T.map vec) v = L.vzero := fun v hv => by
   rw [ev_zero_iff]
   unfold L.Ans
   have h6 := h4.2
   rw [eB, eW] at h6
   have h6' : (DD.map vec).map (L.shV d) = (DD.map vec).map fun v => L.lc (L.cutV d v) (T.map vec) := by
    rw [h6]
    unfold L.mulM
    rw [List.map_map]
    rfl
   have h7 : ∀ v ∈ DD.map vec, L.shV d v = L.lc (L.cutV d v) (T.map vec) := List.map_inj_left.1 h6'
   rw [h7 v hv]
   exact L.lc_congr _ _ _ fun j hj => (L.cutV_lt v (by omega)).symm
  have hsat := hfm.sat hp.der hp.holds hlt hTl fun z hz => hans z (hDz z hz)
  have hput : ∀ f ∈ F, (putV T f d).length = S ∧ (∀ z ∈ putV T f d, Byt z) ∧ vec (putV T f d) = ev d (T.map vec) (vec f) := fun f hf' => by
   have := putV_is h5 h3 (hr.wide f hf').1 (hr.wide f hf').2 d (Nat.le_refl _)
   rw [List.take_of_length_le (by omega)] at this
   exact this
  have hmv : (F.map fun f => putV T f d).map vec = (F.map vec).map (ev d (T.map vec)) := by
   rw [List.map_map, List.map_map]
   exact List.map_congr_left fun f hf' => (hput f hf').2.2
  refine ⟨h2, h3, h5, by rw [List.length_map, hr.len], fun r hr' => ?_, fun r hr' => ?_, fun q hq => ?_⟩
  ·obtain ⟨f, hf', rfl⟩ := List.mem_map.1 hr'
   exact ⟨(hput f hf').1, (hput f hf').2.1⟩
  ·rw [hmv, ← lin_lc (ev_lin d _)]
   exact hans _ (hDa _ (List.mem_map.2 ⟨r, hr', rfl⟩))
  ·rw [hmv, row_tot hm (hA.2 q hq).1, tot_units]
   have h8 := hsat _ (List.mem_map.2 ⟨_, List.mem_map.2 ⟨q, hq, rfl⟩, rfl⟩)
   have h9 : PL.tot VT (fun c => ev d (T.map vec) (FV F c)) ((atP K H S seed q.i).map Int.toNat) = vec q.d := h8
   rw [← h9]
   refine PL.tot_congr VT fun c _ => ?_
   rw [← FV_row]
   unfold L.rowAt
   rw [List.getElem?_map, List.getElem?_map]
   cases F[c]? with
   | none => exact (ev_lin d _).zero.symm
   | some f => rfl
 ·left
  refine ⟨h2, h3, fun ⟨M, hM⟩ => ?_⟩
  rw [hwdW, hwdB] at h4
  obtain ⟨g1, g2⟩ := hfm.of hp.der hp.holds hnd hlt (midY_sat hA hM)
  have hxl : ((late.map Int.toNat).map (FV M)).length = d := by rw [List.length_map, List.length_map, hd]
  have hMv : M.map vec = (F.map vec).map (ev d ((late.map Int.toNat).map (FV M))) := by
   apply List.ext_getElem (by simp [hM.len, hr.len])
   intro i i1 i2
   rw [List.length_map] at i1
   have := g1 i (by have := hM.len; omega)
   unfold FV at this
   rw [List.getD_eq_getElem?_getD, List.getElem?_eq_getElem i1, List.getD_eq_getElem?_getD, List.getElem?_eq_getElem (by rw [hr.len]; have := hM.len; omega)] at this
   rw [List.getElem_map, List.getElem_map, List.getElem_map]
   exact this
  refine h4 ((late.map Int.toNat).map (FV M)) hxl (fun x hx => ?_) ?_
  ·obtain ⟨c, hc, rfl⟩ := List.mem_map.1 hx
   obtain ⟨c0, hc0, rfl⟩ := List.mem_map.1 hc
   have := hP.lates.2 c0 hc0
   exact hM.wide.supp _ (List.mem_map.2 ⟨_, mem_getD (by rw [hM.len]; omega) [], rfl⟩)
  ·rw [eW, eB]
   unfold L.mulM
   rw [List.map_map]
   refine List.map_congr_left fun v hv => ?_
   have hz : ev d ((late.map Int.toNat).map (FV M)) v = L.vzero := by
    rcases hDm v hv with ⟨a, ha, rfl⟩ | h5
    ·rw [lin_lc (ev_lin d _), ← hMv]
     obtain ⟨r, hr', rfl⟩ := List.mem_map.1 ha
     exact hM.ahead r hr'
    ·exact g2 v h5
   rw [ev_zero_iff] at hz
   rw [← hz]
   exact L.lc_congr _ _ _ fun j hj => L.cutV_lt v (by omega)
end
end DC
end Go.Proofs.YtbbglejdfbkjlaaGreat
namespace Go.Proofs.YtbbglejdfbkjlaaGreat
open Go.RowKit
theorem wp_scope_two {P : Program} {a : Act} {w : World} {Q : Exit → Act → World → Prop} {c r0 r1 : Code} (hf0 : findLabel c 0 = some r0) (hf1 : findLabel c 1 = some r1) (J0 J1 : Act → World → Prop)
  (first : c.wp P (Exit.jump 0 J0 Q) a w) (pass0 : ∀ a w, J0 a w → r0.wp P (Exit.jump 1 J1 Q) a w) (pass1 : ∀ a w, J1 a w → r1.wp P (Exit.noGoto Q) a w) : (Code.scope c).wp P Q a w := by
 intro b k cs
 have g0 : gotoIn 0 (.inScope c :: k) = some (.code r0 :: .inScope c :: k) := by simp [gotoIn, hf0]
 have g1 : gotoIn 1 (.inScope c :: k) = some (.code r1 :: .inScope c :: k) := by simp [gotoIn, hf1]
 have key1 : ∀ a w, J1 a w → ∃ e a' w', Q e a' w' ∧ Arrives P (lone (b.at a (.code r1 :: .inScope c :: k)) cs w) b k cs e a' w' := by
  intro a w hJ
  obtain ⟨e, a₁, w₁, hq, harr⟩ := pass1 a w hJ b (.inScope c :: k) cs
  cases e with
  | normal => exact ⟨.normal, a₁, w₁, hq, Steps.trans harr (.one step_inScope)⟩
  | exit id => exact ⟨.exit id, a₁, w₁, hq, fun k' hk => harr k' (by simp [exitTo, hk])⟩
  | goto l' => exact hq.elim
  | ret => exact ⟨_, a₁, w₁, hq, harr⟩
  | panic ch => exact ⟨_, a₁, w₁, hq, harr⟩
  | outgrown => exact ⟨_, a₁, w₁, hq, harr⟩
 have key0 : ∀ a w, J0 a w → ∃ e a' w', Q e a' w' ∧ Arrives P (lone (b.at a (.code r0 :: .inScope c :: k)) cs w) b k cs e a' w' := by
  intro a w hJ
  obtain ⟨e, a₁, w₁, hq, harr⟩ := pass0 a w hJ b (.inScope c :: k) cs
  cases e with
  | normal => exact ⟨.normal, a₁, w₁, hq, Steps.trans harr (.one step_inScope)⟩
  | exit id => exact ⟨.exit id, a₁, w₁, hq, fun k' hk => harr k' (by simp [exitTo, hk])⟩
  | goto l' =>
   obtain ⟨rfl, hJ'⟩ := hq
   obtain ⟨e₂, a₂, w₂, hq₂, harr₂⟩ := key1 a₁ w₁ hJ'
   exact ⟨e₂, a₂, w₂, hq₂, .of_steps (harr _ g1) harr₂⟩
  | ret => exact ⟨_, a₁, w₁, hq, harr⟩
  | panic ch => exact ⟨_, a₁, w₁, hq, harr⟩
  | outgrown => exact ⟨_, a₁, w₁, hq, harr⟩
 obtain ⟨e, a₁, w₁, hq, harr⟩ := first b (.inScope c :: k) cs
 cases e with
 | normal => exact ⟨.normal, a₁, w₁, hq, .head step_scope (Steps.trans harr (.one step_inScope))⟩
 | exit id => exact ⟨.exit id, a₁, w₁, hq, fun k' hk => .head step_scope (harr k' (by simp [exitTo, hk]))⟩
 | goto l' =>
  obtain ⟨rfl, hJ'⟩ := hq
  obtain ⟨e₂, a₂, w₂, hq₂, harr₂⟩ := key0 a₁ w₁ hJ'
  exact ⟨e₂, a₂, w₂, hq₂, .of_steps (.head step_scope (harr _ g0)) harr₂⟩
 | ret => exact ⟨_, a₁, w₁, hq, .of_steps (.one step_scope) harr⟩
 | panic ch => exact ⟨_, a₁, w₁, hq, .of_steps (.one step_scope) harr⟩
 | outgrown => exact ⟨_, a₁, w₁, hq, .of_steps (.one step_scope) harr⟩
theorem PeeledOk.facts {n S : Nat} {Q : List Eqn} {w' : World} {vf vz : Value} {F Z : List (List Int)} {kn : List Bool} {vs : List (List Int)} {late : List Int} {st : List (Int × Int)} {de le : List Int} {d : Nat} (h : PeeledOk n S Q w' vf vz F Z kn vs late st de le d) (hQ : Q.length ≤ 800) :
  Wide (d + S) F ∧ F.length = n ∧ Wide (d + S) Z ∧ Z.length ≤ 800 ∧ d ≤ n := by
 have hb := DC.bgs_begun (n := n) h.is.val (by rw [h.is.val.1, h.is.len]) h.is.no h.dl h.pl.lates.1 h.pl.lates.2 d (Nat.le_refl _)
 have hr := DC.run_ran h.pl hb h.is.no h.dl st.length (Nat.le_refl _)
 rw [← h.forms] at hr
 have hR : ∀ c ∈ (leftE kn vs Q).map (·.c), MayRow n c := fun c hc => by
  obtain ⟨q, hq, rfl⟩ := List.mem_map.1 hc
  exact (h.pl.row q hq).1
 refine ⟨hr.wide, hr.len, by rw [h.zeros]; exact DC.zeros_wide h.pl hr.len hr.wide, ?_, ?_⟩
 ·rw [h.zeros]
  unfold DC.zerosL
  rw [List.length_map, h.pl.hle]
  exact Nat.le_trans (PN.leftTo_le _ _) (by rw [List.length_map]; exact Nat.le_trans (leftE_le kn vs Q) hQ)
 ·have hc := (PN.run_inv hR n (Nat.le_refl _)).cnt
  rw [← h.dl, h.pl.hlate]
  refine Nat.le_trans (List.length_filter_le _ _) ?_
  rw [h.pl.hde]
  exact Nat.le_trans (Nat.le_add_left _ _) (Nat.le_of_eq hc)
def MJ0 (K H S seed : Nat) (Y : List Symb) (w : World) (a : Act) (w' : World) : Prop :=
 ∃ (gb : Nat) (fv vf vz : Value) (F Z : List (List Int)) (kn : List Bool) (vs : List (List Int)) (late : List Int) (st : List (Int × Int)) (de le : List Int) (d : Nat) (u0 u2 u4 u5 u6 u7 u13 u14 u15 u16 u17 u18 u19 u20 u21 u22 u23 u24 u25 u26 u27 u28 u29 u30 u31 u32 u33 u34 u35 u36 u37 u38 u39 u40 u41 : Value),
  PeeledOk (K + H) S (DC.eqsY K H S seed Y) w' vf vz F Z kn vs late st de le d ∧ Par w' gb K H S ∧ IsF w' fv ∧ Gr w w' ∧ a = { tmps := #[u0, .int .u32 (seed : Int), u2, .pointer (some ⟨gb, 0, none⟩), u4, u5, u6, u7, fv, .slice none 0 0, vf, vz, .int .i64 0, u13, u14, u15, u16, u17, u18, u19, u20, u21, u22, u23, u24, u25, u26, u27, u28, u29, u30, u31, u32, u33, u34, u35, u36, u37, u38, u39, u40, u41], defers := [] }
def MJ1 (K H S seed : Nat) (Y : List Symb) (w : World) (a : Act) (w' : World) : Prop :=
 ∃ (fv vf vt : Value) (F T : List (List Int)) (d : Nat) (u0 u1 u2 u3 u4 u5 u6 u7 u11 u13 u14 u15 u16 u17 u18 u19 u20 u21 u22 u23 u24 u25 u26 u27 u28 u29 u30 u31 u32 u33 u34 u35 u36 u37 u38 u39 u40 u41 : Value),
  Bss w' vf F ∧ Wide (d + S) F ∧ F.length = K + H ∧ d ≤ 20 ∧ Bss w' vt T ∧ Wide S T ∧ T.length = d ∧ IsMidY K H S seed Y (F.map fun f => DC.putV T f d) ∧ IsF w' fv ∧ Gr w w' ∧ a = { tmps := #[u0, u1, u2, u3, u4, u5, u6, u7, fv, vt, vf, u11, .int .i64 0, u13, u14, u15, u16, u17, u18, u19, u20, u21, u22, u23, u24, u25, u26, u27, u28, u29, u30, u31, u32, u33, u34, u35, u36, u37, u38, u39, u40, u41], defers := [] }
def MidOut (K H S seed : Nat) (Y : List Symb) (w : World) (e : Ending) (w' : World) : Prop := Gr w w' ∧ ∃ u x, e = .returned (.tuple #[u, .int .i64 x]) ∧
 ((x = 10 ∧ u = .slice none 0 0 ∧ ¬ ∃ M, IsMidY K H S seed Y M) ∨ (x = 0 ∧ ∃ M, Bss w' u M ∧ IsMidY K H S seed Y M))
theorem holds_mid {K H S seed : Nat} {Y : List Symb} (hA : AllY K H S Y) (h : ¬ ∃ v, PL.Holds VT ((DC.eqsY K H S seed Y).map toE) v) : ¬ ∃ M, IsMidY K H S seed Y M := fun ⟨_, hM⟩ => h ⟨_, PL.Holds.of_all VT (DC.midY_sat hA hM)⟩
set_option maxRecDepth 100000 in
set_option maxHeartbeats 6400000 in
theorem middle_any (K H S seed : Nat) (v : Value) (Y : List Symb) (w : World) (hA : AllY K H S Y) (hf : FullP K H S seed (idsY Y)) (hs : seed < 4294967296) (hy : Syms w v Y) (hl : Y.length ≤ 800) :
  Calls Tryz.prog 37 #[par K H S, .int .u32 (seed : Int), v] w (MidOut K H S seed Y w) := by
 have hm := hA.1
 have hb : 1 ≤ K ∧ K ≤ 16 ∧ 1 ≤ H ∧ H ≤ 4 ∧ 1 ≤ S ∧ S ≤ 24 := by unfold MayP at hm; omega
 obtain ⟨hb1, hb2, hb3, hb4, hb5, hb6⟩ := hb
 have HA := Lib.hid hA
 have HFU := Lib.hid hf
 have HSD := Lib.hid hs
 have HY := Lib.hid hy
 have HM := Lib.hid hm
 have HBY : Hid (∀ q ∈ Y, ∀ z ∈ q.d, Byt z) := Lib.hid hy.byt
 have HYN : Hid (Y ≠ []) := Lib.hid fun e => by
  subst e
  have h1 := fullP_rk hf
  have h2 : rkL (matP K H S seed (idsY [])) ≤ (matP K H S seed (idsY [])).length := by
   have h3 := L.rk_le_len (matP_wide hf.1 seed (idsY [])).supp
   rw [List.length_map] at h3
   exact h3
  rw [matP_in hm] at h2
  simp [idsY, ahead_length] at h2
  rw [matP_in hm] at h1
  simp [idsY] at h1
  omega
 have HQ : Hid (∀ q ∈ DC.eqsY K H S seed Y, MayRow (K + H : Nat) q.c ∧ q.d.length = S) := Lib.hid (DC.eqs_row hA)
 have HQL : Hid ((DC.eqsY K H S seed Y).length ≤ 800 ∧ DC.eqsY K H S seed Y ≠ []) := Lib.hid ⟨by unfold DC.eqsY; rw [List.length_map]; exact hl, fun e => by
   unfold DC.eqsY at e
   rw [List.map_eq_nil_iff] at e
   exact HYN.out e⟩
 obtain ⟨oy, cy, rfl⟩ := hy.form
 obtain ⟨my, hmy⟩ : ∃ m, Y.length = m := ⟨_, rfl⟩
 rw [hmy] at HY hl ⊢
 have HMY := Lib.hid hmy
 clear hA hf hs hy hm hmy
 go_enter Tryz.func37, Tryz.ntmps37
 go_wp2_with fail
 refine wp_scope_two rfl rfl (MJ0 K H S seed Y w) (MJ1 K H S seed Y w) ?_ ?_ ?_
 rotate_left
 ·rintro a0 w0 ⟨gb, fv, vf, vz, F, Z, kn, vs, late, st, de, le, d, u0, u2, u4, u5, u6, u7, u13, u14, u15, u16, u17, u18, u19, u20, u21, u22, u23, u24, u25, u26, u27, u28, u29, u30, u31, u32, u33, u34, u35, u36, u37, u38, u39, u40, u41, hpo, hp, hfv, hg, rfl⟩
  obtain ⟨h1, h2, h3, h4, h5⟩ := hpo.facts HQL.out.1
  have HPO := Lib.hid hpo
  have PP := Lib.hid hp
  have FV := Lib.hid hfv
  have GG := Lib.hid hg
  have H1 := Lib.hid h1
  have H2 := Lib.hid h2
  have H3 := Lib.hid h3
  have H4 := Lib.hid h4
  have hd20 : d ≤ 20 := by omega
  have p0 := hp.cell0
  have p1 := hp.cell1
  have p2 := hp.cell2
  have BF := Lib.hid hpo.inF
  have BZ := Lib.hid hpo.inZ
  clear hpo hp hfv hg h1 h2 h3 h4 h5
  go_wp2_with fail
  refine (solvedD_any K H S d fv vf vz F Z _ FV.out HM.out BF.out H1.out H2.out BZ.out H3.out H4.out hd20).mono ?_
  rintro e w1 ⟨vt, x, T, D0, rfl, hbt, hg1, hmul, hsol⟩
  rw [HPO.out.zeros] at hsol
  have hdone := DC.dec_done HA.out HFU.out HBY.out HPO.out.is HPO.out.pl HPO.out.dl HPO.out.forms hmul hsol
  have BT := Lib.hid hbt
  have G1 := Lib.hid (Gr.trans GG.out hg1)
  have G01 := Lib.hid hg1
  rcases hdone with ⟨rfl, rfl, hno⟩ | ⟨rfl, hT1, hT2, hT3⟩
  ·have HNO := Lib.hid hno
   clear hmul hsol hbt hg1 hno p0 p1 p2
   go_wp2_with fail
   simp only [Exit.jump]
   go_ret2
   exact ⟨G1.out, _, _, rfl, .inl ⟨rfl, rfl, HNO.out⟩⟩
  ·have HT1 := Lib.hid hT1
   have HT2 := Lib.hid hT2
   have HT3 := Lib.hid hT3
   have BF1 := Lib.hid (Bss.grown BF.out G01.out)
   have FV1 := Lib.hid (IsF.grown FV.out G01.out)
   clear hmul hsol hbt hg1 hT1 hT2 hT3 p0 p1 p2
   go_wp2_with fail
   go_step3
   exact ⟨rfl, fv, vf, vt, F, T, d, _, _, _, _, _, _, _, _, _, _, _, _, _, _, _, _, _, _, _, _, _, _, _, _, _, _, _, _, _, _, _, _, _, _, _, _, _, _, BF1.out, H1.out, H2.out, hd20, BT.out, HT2.out, HT1.out, HT3.out, FV1.out, G1.out, rfl⟩
 ·rintro a0 w0 ⟨fv, vf, vt, F, T, d, u0, u1, u2, u3, u4, u5, u6, u7, u11, u13, u14, u15, u16, u17, u18, u19, u20, u21, u22, u23, u24, u25, u26, u27, u28, u29, u30, u31, u32, u33, u34, u35, u36, u37, u38, u39, u40, u41, h1, h2, h3, h4, h5, h6, h7, h8, h9, hg, rfl⟩
  have H1 := Lib.hid h1
  have H2 := Lib.hid h2
  have H3 := Lib.hid h3
  have H5 := Lib.hid h5
  have H6 := Lib.hid h6
  have H7 := Lib.hid h7
  have H8 := Lib.hid h8
  have H9 := Lib.hid h9
  have GG := Lib.hid hg
  clear h1 h2 h3 h5 h6 h7 h8 h9 hg
  go_wp2_with fail
  refine (putBack_any (K + H) d S fv vf vt F T _ H9.out H1.out H2.out H3.out (by omega) H5.out H6.out H7.out h4 hb5 hb6).mono ?_
  rintro e w1 ⟨u, rfl, hbu, hg1⟩
  have BU := Lib.hid hbu
  have G1 := Lib.hid (Gr.trans GG.out hg1)
  clear hbu hg1
  go_wp2_with fail
  simp only [Exit.noGoto]
  go_ret2
  exact ⟨G1.out, _, _, rfl, .inr ⟨rfl, _, BU.out, H8.out⟩⟩
 have P0 : Hid (Par (w.alloc (.cells #[.int .i64 (K : Int), .int .i64 (H : Int), .int .i64 (S : Int)] 23)) w.heap.size K H S) := Lib.hid (heap_alloc_new _ _)
 have HG0 : Hid (Gr w (w.alloc (.cells #[.int .i64 (K : Int), .int .i64 (H : Int), .int .i64 (S : Int)] 23))) := Lib.hid (Gr.alloc (Gr.refl _) _ _)
 go_upto_region 1 with fail
 generalize w.alloc (.cells #[.int .i64 (K : Int), .int .i64 (H : Int), .int .i64 (S : Int)] 23) = W0 at *
 generalize w.heap.size = gb at *
 go_wp2_with fail
 refine (new_st _).mono ?_
 rintro e w1 ⟨bf, rfl, hs1⟩
 have P1 := Lib.hid (P0.out.grown hs1.1)
 have G1 := Lib.hid (Gr.trans HG0.out hs1.1)
 have FV := Lib.hid hs1.2
 have Y1 := Lib.hid (HY.out.grown G1.out)
 have p0 := P1.out.cell0
 have p1 := P1.out.cell1
 have p2 := P1.out.cell2
 clear hs1 P0 HG0
 go_upto_region 3 with fail
 go_region_held3 (fun W => W.cell? ⟨gb, 0, none⟩ = some (.int .i64 (K : Int)) ∧ W.cell? ⟨gb, 1, none⟩ = some (.int .i64 (H : Int)) ∧ W.cell? ⟨gb, 2, none⟩ = some (.int .i64 (S : Int))) (first | exact ⟨y0, y1, y2⟩ | exact ⟨t0, t1, t2⟩ | go_keep)
  (first
    | (go_at_call 66; have hx := E2; refine (peeled_any K H S _ (DC.eqsY K H S seed Y) _ HM.out (by exact E2.out) HQL.out.1 HQ.out HQL.out.2).mono ?_; rintro e w3 ⟨hg3, vf, vz, x, rfl, hpo⟩; have y0 := cell_gr hg3 (by exact t0); have y1 := cell_gr hg3 (by exact t1); have y2 := cell_gr hg3 (by exact t2); have HPO := Lib.hid hpo; have G3 : Hid (Gr w1 w3) := Lib.hid (Gr.trans G2.out hg3); clear hpo hg3)
    | (go_at_call 67; refine (deqs_any K H S seed _ Y _ HSD.out (Y1.out.grown (Gr.drew (Gr.refl _))) (by rw [HMY.out]; omega)).mono ?_; rintro e w2 ⟨v2, rfl, he2, hg2⟩; obtain ⟨o2, c2, rfl⟩ := he2.form; have t0 := cell_gr hg2 (by exact p0); have t1 := cell_gr hg2 (by exact p1); have t2 := cell_gr hg2 (by exact p2); have E2 := Lib.hid he2; have G2 : Hid (Gr w1 w2) := Lib.hid (by exact hg2); clear he2 hg2))
 all_goals
  have P3 := Lib.hid (P1.out.grown G3.out)
  have FV3 := Lib.hid (IsF.grown FV.out G3.out)
  have G03 := Lib.hid (Gr.trans G1.out G3.out)
  rcases HPO.out with ⟨rfl, hno, rfl, rfl⟩ | ⟨rfl, F, Z, kn, vs, late, st, de, le, d, hok⟩
  ·have HNO := Lib.hid (holds_mid HA.out hno)
   clear hno HPO
   go_wp2_with fail
   simp only [Exit.jump]
   go_ret2
   exact ⟨G03.out, _, _, rfl, .inl ⟨rfl, rfl, HNO.out⟩⟩
  ·have HOK := Lib.hid hok
   clear hok HPO
   go_wp2_with fail
   go_step3
   exact ⟨rfl, gb, _, vf, vz, F, Z, kn, vs, late, st, de, le, d, _, _, _, _, _, _, _, _, _, _, _, _, _, _, _, _, _, _, _, _, _, _, _, _, _, _, _, _, _, _, _, _, _, _, _, HOK.out, P3.out, FV3.out, G03.out, rfl⟩
end Go.Proofs.YtbbglejdfbkjlaaGreat
