/-
  Texts laid behind one another: Dn Mh Mi Dt.
-/
import Derived.Test.YtbbglejdfbkjlaaGreatMtar
import Derived.Test.YtbbglejdfbkjlaaGreatMtat
import Derived.Test.YtbbglejdfbkjlaaGreatMtau
import Derived.Deep.DeepCutAuto
import Derived.Test.YtbbglejdfbkjlaaGreatMtam
import Derived.Test.YtbbglejdfbkjlaaGreatMtai
import Derived.Lib.SliceRun
import Derived.Test.YtbbglejdfbkjlaaGreatMtap
import Derived.Test.YtbbglejdfbkjlaaGreatMtak
namespace Go.Proofs.YtbbglejdfbkjlaaGreat
open Go.RowKit
structure PeeledOk (n S : Nat) (Q : List Eqn) (w' : World) (vf vz : Value) (F Z : List (List Int)) (kn : List Bool) (vs : List (List Int)) (late : List Int) (st : List (Int × Int)) (de le : List Int) (d : Nat) : Prop where
 is : PeelOkIs n S (Q.map toE) kn vs
 pl : DC.Plan n S kn (leftE kn vs Q) late st de le
 dl : late.length = d
 forms : F = DC.runF d (leftE kn vs Q) st (DC.bgs d S vs late d) st.length
 zeros : Z = DC.zerosL d F (leftE kn vs Q) le
 inF : Bss w' vf F
 inZ : Bss w' vz Z
def PeeledOut (n S : Nat) (Q : List Eqn) (w : World) (e : Ending) (w' : World) : Prop := Gr w w' ∧ ∃ vf vz x, e = .returned (.tuple #[vf, vz, .int .i64 x]) ∧
 ((x = 10 ∧ (¬ ∃ v, PL.Holds VT (Q.map toE) v) ∧ vf = .slice none 0 0 ∧ vz = .slice none 0 0) ∨ (x = 0 ∧ ∃ F Z kn vs late st de le d, PeeledOk n S Q w' vf vz F Z kn vs late st de le d))
theorem mayRow_len {n : Nat} {c : List Int} (h : MayRow n c) : c.length ≤ n := by
 have key : ∀ i, i < c.length → (i : Int) ≤ c.getD i 0 := by
  intro i
  induction i with
  | zero => intro hi; have := h.1 _ (DC.mem_getD hi 0); omega
  | succ i ih => intro hi; have h1 := ih (by omega); have h2 := h.2 i hi; omega
 by_cases h0 : 0 < c.length
 ·have h1 := key (c.length - 1) (by omega)
  have h2 := h.1 _ (DC.mem_getD (l := c) (i := c.length - 1) (by omega) 0)
  omega
 ·omega
theorem own_kp {w w' : World} {F : Nat → Prop} {base n : Nat} {e : TypeId} {size : Nat} {v : Value} {us : List Value} (h : w.ownsRow base e size v n us) (hk : Kp F w w') (hn : ∀ g, v.ownBlock = some g → ¬ F g) : w'.ownsRow base e size v n us := by
 obtain ⟨h0, h1 | ⟨g, c, cur, rfl, h2, h3, h4⟩⟩ := h
 ·exact ⟨h0, .inl h1⟩
 ·exact ⟨h0, .inr ⟨g, c, cur, rfl, h2, hk.block h3 (hn g rfl), h4⟩⟩
theorem Fms.rws {w0 W : World} {g n m : Nat} {us : List Value} {b : Nat → Nat} {L : List (List Int)} (h : Fms w0 W g n m n us b L) (hL : L.length = n) (hn : n ≤ 1000000) (hm : m ≤ 1000000) : Rws w0.heap.size W (.slice (some ⟨g, 0, none⟩) n n) L := by
 refine ⟨us, ?_, fun i hi => ?_⟩
 ·rw [hL]
  exact ⟨by rw [h.len, Nat.mul_one], .inr ⟨g, n, us.toArray, rfl, h.low, h.row, Nat.le_refl _, by unfold maxLen; omega, by simp [h.len], by rw [Nat.mul_one]; exact List.take_of_length_le (Nat.le_of_eq h.len)⟩⟩
 ·rw [hL] at hi
  obtain ⟨h1, h2, h3⟩ := h.blk i hi
  rw [h.val i hi]
  have := Blk.bs h1 (L.getD i []) m (Nat.le_refl _) (by omega) (by omega) h3 fun _ _ => rfl
  rw [h2] at this
  exact ⟨this, fun a k c e _ => by
    cases e
    exact .inr ⟨_, h1⟩⟩
theorem Rws.store {base g n c : Nat} {w : World} {L : List (List Int)} (h : Rws base w (.slice (some ⟨g, 0, none⟩) n c) L) (hL : L.length = n) {i : Nat} (hi : i < n) : (∃ u, w.cell? ⟨g, i, none⟩ = some u) ∧ w.frozen? ⟨g, i, none⟩ = false ∧ base ≤ g ∧ g < w.heap.size := by
 obtain ⟨us, ho, _⟩ := h
 rw [hL] at ho
 obtain ⟨g', c', he, _, _, h1, h2, h3⟩ := ownsRow_cell ho (by omega)
 cases he
 refine ⟨⟨_, h3 i hi⟩, ?_, h1, own_low ho rfl⟩
 obtain ⟨_, ⟨he, _⟩ | ⟨g', c', cur, he, _, hg, _⟩⟩ := ho
 ·cases he
 ·cases he
  exact frozen_of_row w g i _ _ hg
theorem Rws.put1 {base g n c : Nat} {w : World} {L : List (List Int)} (h : Rws base w (.slice (some ⟨g, 0, none⟩) n c) L) (hL : L.length = n) {i : Nat} (hi : i < n) {u : Value} {l : List Int} (hb : Bs w u l) (hrb : Rb base w u) : Rws base (w.setCell ⟨g, i, none⟩ u) (.slice (some ⟨g, 0, none⟩) n c) (L.set i l) := by
 obtain ⟨us, ho, hr⟩ := h
 rw [hL] at ho hr
 obtain ⟨h1, h2⟩ := Rws.set ho hL hr i hi hb hrb
 refine ⟨us.set i u, ?_, ?_⟩
 ·rw [List.length_set, hL]
  exact h1
 ·rw [List.length_set, hL]
  exact h2
theorem zerosL_snoc (d : Nat) (F : List (List Int)) (rs : List Eqn) (a : List Int) (x : Int) : DC.zerosL d F rs (a ++ [x]) = DC.zerosL d F rs a ++ [DC.totL d F (rs.getD x.toNat noE)] := by
 unfold DC.zerosL
 rw [List.map_append]
 rfl
theorem own_unlike {w : World} {base base' n n' : Nat} {e e' : TypeId} {size size' : Nat} {v v' : Value} {us us' : List Value} (h : w.ownsRow base e size v n us) (h' : w.ownsRow base' e' size' v' n' us') (hne : e ≠ e') : ∀ g, v.ownBlock = some g → ¬ v'.ownBlock = some g := fun g h1 h2 => by
 obtain ⟨_, ⟨rfl, _⟩ | ⟨g1, c, cur, rfl, _, h3, _⟩⟩ := h
 ·simp [Value.ownBlock] at h1
 ·obtain ⟨_, ⟨rfl, _⟩ | ⟨g2, c', cur', rfl, _, h4, _⟩⟩ := h'
  ·simp [Value.ownBlock] at h2
  ·obtain rfl : g1 = g := by simpa [Value.ownBlock] using h1
   obtain rfl : g2 = g1 := by simpa [Value.ownBlock] using h2
   rw [h3] at h4
   simp at h4
   exact hne h4.2
set_option maxRecDepth 100000 in
set_option maxHeartbeats 6400000 in
theorem peeled_any (K H S : Nat) (v : Value) (Q : List Eqn) (w : World) (hm : MayP K H S) (hq : Eqs w v Q) (hl : Q.length ≤ 800) (hQ : ∀ q ∈ Q, MayRow (K + H : Nat) q.c ∧ q.d.length = S) (hne : Q ≠ []) :
  Calls Tryz.prog 66 #[par K H S, v] w (PeeledOut (K + H) S Q w) := by
 have hb : 1 ≤ K ∧ K ≤ 16 ∧ 1 ≤ H ∧ H ≤ 4 ∧ 1 ≤ S ∧ S ≤ 24 := by unfold MayP at hm; omega
 obtain ⟨hb1, hb2, hb3, hb4, hb5, hb6⟩ := hb
 obtain ⟨n, hn⟩ : ∃ n, K + H = n := ⟨_, rfl⟩
 have hn20 : n ≤ 20 := by omega
 have hn2 : 2 ≤ n := by omega
 have hcols : colsP K H S = (n : Int) := by unfold colsP; rw [if_pos hm]; omega
 rw [hn] at hQ ⊢
 have HQM := Lib.hid hQ
 have HQE := Lib.hid hq
 have HDL : Hid (dlen Q = S) := Lib.hid (by
   cases Q with
   | nil => exact absurd rfl hne
   | cons q Q => exact (hQ q (by simp)).2)
 have HME : Hid (MayEqs n Q) := Lib.hid ⟨by omega, by omega, fun q hqm => by rw [HDL.out]; exact hQ q hqm⟩
 have HLC : Hid (∀ q ∈ Q, q.c.length ≤ 1000 ∧ q.d.length ≤ 1000) := Lib.hid fun q hqm => by
  obtain ⟨h1, h2⟩ := hQ q hqm
  have h3 := mayRow_len h1
  exact ⟨by omega, by omega⟩
 have HBQ : Hid (∀ q ∈ Q, ∀ z ∈ q.d, Byt z) := Lib.hid hq.byt
 obtain ⟨oq, cq, rfl⟩ := hq.form
 obtain ⟨mq, hmq⟩ : ∃ m, Q.length = m := ⟨_, rfl⟩
 rw [hmq] at HQE hl ⊢
 have HMQ := Lib.hid hmq
 have HC := Lib.hid hcols
 have P0 : Hid (Par (w.alloc (.cells #[.int .i64 (K : Int), .int .i64 (H : Int), .int .i64 (S : Int)] 23)) w.heap.size K H S) := Lib.hid (heap_alloc_new _ _)
 have HG0 : Hid (Gr w (w.alloc (.cells #[.int .i64 (K : Int), .int .i64 (H : Int), .int .i64 (S : Int)] 23))) := Lib.hid (Gr.alloc (Gr.refl _) _ _)
 clear hm hq hQ hne hmq hcols hn
 go_enter Tryz.func66, Tryz.ntmps66
 go_upto_region 1 with fail
 generalize w.alloc (.cells #[.int .i64 (K : Int), .int .i64 (H : Int), .int .i64 (S : Int)] 23) = W0 at *
 generalize w.heap.size = gb at *
 have p0 := P0.out.cell0
 have p1 := P0.out.cell1
 have p2 := P0.out.cell2
 go_wp2_with fail
 refine (cols_pre K H S _).mono ?_
 rw [HC.out]
 rintro e w1 ⟨rfl, hg1⟩
 have P1 := Lib.hid (P0.out.grown hg1)
 have G1 := Lib.hid (Gr.trans HG0.out hg1)
 clear hg1 p0 p1 p2 P0 HG0
 go_wp2_with fail
 refine (peel_ok.peel n _ Q _ ⟨by omega, by omega⟩ (HQE.out.grown G1.out) (by rw [HMQ.out]; omega) HLC.out).mono ?_
 rintro e w2 ⟨vk, vv, vr, x, kn, vs, rs, rfl, hk, hvs, hrs, hg2, hsay⟩
 obtain ⟨ok, ck, rfl⟩ := hk.form3
 obtain ⟨ov, cv, rfl, hv1, hv2, hv3, hv4⟩ := hvs
 obtain ⟨or, cr, rfl⟩ := hrs.form
 have P2 := Lib.hid (P1.out.grown hg2)
 have G2 := Lib.hid (Gr.trans G1.out hg2)
 rcases hsay with ⟨h1, _⟩ | ⟨_, h1, h2, h3, h4, h5⟩ | ⟨_, h2, h3, h4⟩
 ·exact absurd HME.out h1
 ·subst h2
  have HH := Lib.hid h1
  have G3 : Hid (Gr w (w2.alloc (.cells #[.slice ok kn.length ck] 144))) := Lib.hid (Gr.alloc G2.out _ _)
  clear hk hrs h1 h3 h4 h5 hv4 hv3 P1 P2 HQE
  go_wp2_with fail
  go_ret3
  exact ⟨G3.out, _, _, _, rfl, .inl ⟨rfl, HH.out, rfl, rfl⟩⟩
 ·subst h2
  rw [Int.toNat_natCast, HDL.out] at h3
  have hvs2 : Bss w2 (.slice ov vs.length cv) vs := ⟨ov, cv, rfl, hv1, hv2, hv3, hv4⟩
  have hrl := leftE_le kn vs Q
  rw [HMQ.out, ← h4] at hrl
  have HRW : Hid (∀ q ∈ rs, MayRow n q.c ∧ q.d.length = S ∧ (∀ z ∈ q.d, Byt z) ∧ ∀ y ∈ q.c, kn.getD y.toNat false = false) := Lib.hid (by rw [h4]; exact DC.left_rows h3.val HQM.out HBQ.out)
  have HIS := Lib.hid h3
  have HRS := Lib.hid h4
  have hknl : kn.length = n := h3.len
  have hvsl : vs.length = n := by rw [h3.val.1, h3.len]
  rw [hvsl] at hvs2 ⊢
  rw [hknl] at hk ⊢
  obtain ⟨mr, hmr⟩ : ∃ m, rs.length = m := ⟨_, rfl⟩
  rw [hmr] at hrs hrl ⊢
  have HMR := Lib.hid hmr
  have HKL := Lib.hid hknl
  have HVL := Lib.hid hvsl
  have BX : Hid ((w2.alloc (.cells #[.slice ok n ck] 144)).heap[w2.heap.size]? = some (.cells #[.slice ok n ck] 144 (0, 0))) := Lib.hid (heap_alloc_new _ _)
  have gA : Gr w2 (w2.alloc (.cells #[.slice ok n ck] 144)) := Gr.alloc (Gr.refl _) _ _
  have G3 := Lib.hid (Gr.trans G2.out gA)
  have P3 := Lib.hid (P2.out.grown gA)
  have K3 := Lib.hid (hk.grown gA)
  have V3 := Lib.hid (hvs2.grown gA)
  have E3 := Lib.hid (hrs.grown gA)
  have HLT3 : Hid (w2.heap.size < (w2.alloc (.cells #[.slice ok n ck] 144)).heap.size ∧ ∀ a m c, Value.slice ok n ck = .slice (some a) m c → a.block < w2.heap.size) := Lib.hid ⟨by simp, fun a m c e => by
    cases e
    have := hk.cellAt (i := 0) (by omega)
    have := block_lt_of_cell this
    rwa [add_blk] at this⟩
  clear hk hrs h3 h4 hv4 hv3 hv1 hv2 hvs2 hmr hknl hvsl P1 P2 G1 G2 HQE hg2 gA
  go_upto_region 5 with fail
  generalize w2.alloc (.cells #[.slice ok n ck] 144) = w3 at *
  generalize w2.heap.size = gk at *
  go_wp2_with fail
  refine (dcolumns_any _ rs _ E3.out (by rw [HMR.out]; omega)).mono ?_
  rintro e w4 ⟨vc, rfl, hzc, hg4⟩
  obtain ⟨oc, cc, rfl⟩ := hzc.form
  obtain ⟨mc, hmc⟩ : ∃ m, (rs.map (·.c)).length = m := ⟨_, rfl⟩
  rw [hmc] at hzc ⊢
  have hmcr : mc = mr := by rw [← hmc, List.length_map]; exact HMR.out
  have ZC := Lib.hid hzc
  have HMC := Lib.hid hmc
  have HMCR := Lib.hid hmcr
  have G4 := Lib.hid hg4
  clear hzc hmc hmcr hg4
  have HRC : Hid (∀ c ∈ rs.map (·.c), MayRow n c) := Lib.hid fun c hc => by
   obtain ⟨q, hq, rfl⟩ := List.mem_map.1 hc
   exact (HRW.out q hq).1
  go_wp2_with fail
  refine (plan_new n _ (rs.map (·.c)) _ ⟨by omega, by omega⟩ ZC.out (by rw [HMC.out, HMCR.out]; omega) (fun c hc => by have := mayRow_len (HRC.out c hc); omega)).mono ?_
  rintro e w5 ⟨sv, dv, lv, st, de, le, okp, rfl, hst, hde, hle, hsep, hg5, hsay⟩
  have hsay2 : okp = true ∧ st = PN.steps n (rs.map (·.c)) ∧ de = PN.dead n (rs.map (·.c)) ∧ le = PN.left n (rs.map (·.c)) := by
   rcases hsay with ⟨h, _⟩ | ⟨_, h⟩
   ·exact absurd ⟨by omega, by omega, HRC.out⟩ h
   ·rwa [Int.toNat_natCast] at h
  obtain ⟨rfl, hs1, hs2, hs3⟩ := hsay2
  obtain ⟨os, cs, rfl⟩ := hst.form
  obtain ⟨od, cd, rfl⟩ := ownsRow_form'' hde
  obtain ⟨ol, cl, rfl⟩ := ownsRow_form'' hle
  have HSTEPS := Lib.hid hs1
  have HDEAD := Lib.hid hs2
  have HLEFT := Lib.hid hs3
  have hrng := PN.run_rng HRC.out n (Nat.le_refl _)
  have hrd : ∀ c ∈ de, 0 ≤ c ∧ c < (n : Int) := by rw [hs2]; exact hrng.1
  have hrs2 : ∀ p ∈ st, 0 ≤ p.1 ∧ p.1 < (mr : Int) ∧ 0 ≤ p.2 ∧ p.2 < (n : Int) := by
   rw [hs1]
   intro p hp
   have := hrng.2 p hp
   rw [HMC.out, HMCR.out] at this
   exact this
  have hrl2 : ∀ y ∈ le, 0 ≤ y ∧ y < (mr : Int) := fun y hy => by
   rw [hs3] at hy
   obtain ⟨i, h5, _, rfl⟩ := (PN.leftTo_mem _ _ _).1 hy
   rw [HMC.out, HMCR.out] at h5
   omega
  have hcnt := (PN.run_inv HRC.out n (Nat.le_refl _)).cnt
  have hdel : de.length ≤ n := by rw [hs2]; exact Nat.le_trans (Nat.le_add_left _ _) (Nat.le_of_eq hcnt)
  have hstl : st.length ≤ n := by rw [hs1]; exact Nat.le_trans (Nat.le_add_right _ _) (Nat.le_of_eq hcnt)
  have hlel : le.length ≤ mr := by rw [hs3, ← HMCR.out, ← HMC.out]; exact PN.leftTo_le _ _
  have HRD := Lib.hid hrd
  have HRS2 := Lib.hid hrs2
  have HRL2 := Lib.hid hrl2
  have HDEL := Lib.hid hdel
  obtain ⟨ns, hns⟩ : ∃ m, st.length = m := ⟨_, rfl⟩
  obtain ⟨nd, hnd⟩ : ∃ m, de.length = m := ⟨_, rfl⟩
  obtain ⟨nl, hnl⟩ : ∃ m, le.length = m := ⟨_, rfl⟩
  rw [hns] at hst hstl ⊢
  rw [hnd] at hde hsep ⊢
  rw [hnl] at hle hsep hlel ⊢
  have HNS := Lib.hid hns
  have HND := Lib.hid hnd
  have HNL := Lib.hid hnl
  -- the plan, in a variable
  have gB : Gr w5 (w5.alloc (.cells #[.slice os ns cs, .slice od nd cd, .slice ol nl cl] 149)) := Gr.alloc (Gr.refl _) _ _
  have BP : Hid ((w5.alloc (.cells #[.slice os ns cs, .slice od nd cd, .slice ol nl cl] 149)).heap[w5.heap.size]? = some (.cells #[.slice os ns cs, .slice od nd cd, .slice ol nl cl] 149 (0, 0))) := Lib.hid (heap_alloc_new _ _)
  have ST6 := Lib.hid (hst.of_gr gB)
  have DE6 := Lib.hid (hde.of_gr gB)
  have LE6 := Lib.hid (hle.of_gr gB)
  have HSEP := Lib.hid hsep
  have DLOW : Hid (∀ g, (Value.slice od nd cd).ownBlock = some g → g < w5.heap.size) := Lib.hid fun g h => own_low hde h
  have G46 := Lib.hid (Gr.trans hg5 gB)
  have G34 := Lib.hid (G4.out)
  have K6 := Lib.hid (K3.out.grown (Gr.trans G4.out G46.out))
  have B6 := Lib.hid (keptRow (Gr.trans G4.out G46.out) BX.out)
  clear hst hde hle hsep hrd hrs2 hrl2 hrng hcnt hdel hs1 hs2 hs3 hns hnd hnl gB hg5 hsay
  go_upto_region 6 with fail
  generalize w5.alloc (.cells #[.slice os ns cs, .slice od nd cd, .slice ol nl cl] 149) = w6 at *
  generalize w5.heap.size = gp at *
  have c1 : w6.cell? ⟨gp, 1, none⟩ = some (.slice od nd cd) := by rw [cell_of_row _ _ _ _ _ _ BP.out]; rfl
  have c9 : w6.cell? ⟨gk, 0, none⟩ = some (.slice ok n ck) := by rw [cell_of_row _ _ _ _ _ _ B6.out]; rfl
  have HB4 : Hid (∀ g, (Value.slice od nd cd).ownBlock = some g → w4.heap.size ≤ g) := Lib.hid fun g h => ownsRow_base DE6.out g h
  have HL34 : Hid (w3.heap.size ≤ w4.heap.size) := Lib.hid G4.out.size
  go_wp2_with fail
  refine (ddel_any w4.heap.size _ _ de kn gk _ (by rw [HND.out]; exact DE6.out) (by have := HDEL.out; omega) c9 K6.out (by rw [HKL.out]; exact HRD.out) (fun h => by have h5 := HB4.out _ h; have h6 := HLT3.out.1; have := HL34.out; omega) (fun a m c e h => by have h5 := HB4.out _ h; have h6 := HLT3.out.2 a m c e; have h7 := HLT3.out.1; have := HL34.out; omega)).mono ?_
  rintro e w7 ⟨vl, rfl, hzl, hk7⟩
  obtain ⟨oL, cL, rfl⟩ := hzl.form
  obtain ⟨d, hd⟩ : ∃ m, (openL kn de).length = m := ⟨_, rfl⟩
  have hdn : d ≤ n := by rw [← hd]; exact Nat.le_trans (List.length_filter_le _ _) HDEL.out
  rw [hd] at hzl ⊢
  have ZL := Lib.hid hzl
  have HD := Lib.hid hd
  have G47 : Hid (Gr w4 w7) := Lib.hid (hk7.gr G46.out fun k e => HB4.out k e)
  have P7 := Lib.hid (P3.out.grown (Gr.trans G4.out G47.out))
  have V7 := Lib.hid (Bss.grown V3.out (Gr.trans G4.out G47.out))
  have E7 := Lib.hid (E3.out.grown (Gr.trans G4.out G47.out))
  have BP7 := Lib.hid (hk7.block BP.out (fun h => by have := DLOW.out gp h; omega))
  have ST7 := Lib.hid (own_kp ST6.out hk7 (own_unlike ST6.out DE6.out (by decide)))
  have LE7 := Lib.hid (own_kp LE6.out hk7 (fun g h1 h2 => HSEP.out g h2 h1))
  have G7 := Lib.hid (Gr.trans G3.out (Gr.trans G4.out G47.out))
  clear hzl hd hk7 ST6 DE6 LE6 BP K6 B6 c1 c9 HB4 HL34 DLOW HSEP G46 G34 G47 K3 V3 E3 BX HLT3 P3 G3 G4 ZC
  go_upto_region 7 with fail
  have p0 := P7.out.cell0
  have p1 := P7.out.cell1
  have p2 := P7.out.cell2
  have HLL : Hid (∀ c ∈ openL kn de, 0 ≤ c ∧ c < (n : Int)) := Lib.hid fun c hc => HRD.out c (List.mem_filter.1 hc).1
  have HVS : Hid (∀ c, (vs.getD c []).length ≤ S) := Lib.hid fun c => by
   cases hk : kn.getD c false with
   | true => exact Nat.le_of_eq (HIS.out.val.2 c hk).1
   | false => rw [HIS.out.no c hk]; simp
  go_wp2_with fail
  refine (begun_any K H S n d _ _ vs (openL kn de) _ hb5 hb6 HVL.out (by omega) HD.out (by omega) V7.out HVS.out ZL.out HLL.out).mono ?_
  rintro e w8 ⟨g, us, b, rfl, hf⟩
  have HPLAN : Hid (DC.Plan n S kn rs (openL kn de) st de le) := Lib.hid ⟨HRW.out, HSTEPS.out, HDEAD.out, HLEFT.out, rfl⟩
  have HRAN : Hid (∀ k, k ≤ ns → DC.Ran n d S kn vs rs (openL kn de) st k (DC.runF d rs st (DC.bgs d S vs (openL kn de) d) k)) := Lib.hid fun k hk => by
   have hbg := DC.bgs_begun (n := n) HIS.out.val HVL.out HIS.out.no HD.out HPLAN.out.lates.1 HPLAN.out.lates.2 d (Nat.le_refl _)
   exact DC.run_ran HPLAN.out hbg HIS.out.no HD.out k (by rw [HNS.out]; exact hk)
  have R8 := Lib.hid (hf.rws (by rw [bgs_length, HVL.out]) (by omega) (by omega))
  have G78 := Lib.hid hf.gr
  have ST8 := Lib.hid (StepsO.stp (by rw [← HNS.out] at ST7; exact ST7.out))
  have LE8 := Lib.hid (owns_zs LE7.out HNL.out (fun y hy => by have := HRL2.out y hy; exact ⟨by omega, by omega⟩))
  have BP8 := Lib.hid (keptRow hf.gr BP7.out)
  rw [HNS.out] at ST8
  generalize hF0e : DC.bgs d S vs (openL kn de) d = F0 at *
  have HF0E := Lib.hid hF0e
  clear hF0e
  clear hf p0 p1 p2 ST7 LE7 P7 V7 ZL HLL HVS us b
  have c0 : w8.cell? ⟨gp, 0, none⟩ = some (.slice os ns cs) := by rw [cell_of_row _ _ _ _ _ _ BP8.out]; rfl
  go_wp2_with fail
  go_loopw [49] (fun iv W => ∃ i : Nat, i ≤ ns ∧ iv = .int .i64 i ∧ Rws w7.heap.size W (.slice (some ⟨g, 0, none⟩) n n) (DC.runF d rs st F0 i) ∧ Gr w7 W) (fun iv _ => ns - (intOf iv).toNat)
  case atStart => exact ⟨0, by omega, rfl, R8.out, G78.out⟩
  case round =>
   clear R8 G78 BP8 c0
   obtain ⟨wo, hwo⟩ : ∃ x, x = wr := ⟨_, rfl⟩
   subst hwo
   obtain ⟨i, hi, rfl, hR, hg⟩ := hrel
   have RR := Lib.hid hR
   have GG := Lib.hid hg
   clear hR hg
   have HW : Hid (Wide (d + S) (DC.runF d rs st F0 i) ∧ (DC.runF d rs st F0 i).length = n) := Lib.hid ⟨(HRAN.out i hi).wide, (HRAN.out i hi).len⟩
   by_cases hlt : i < ns
   ·obtain ⟨bs1, os1, rfl⟩ := ST8.out.lay (by omega)
    obtain ⟨s1, s2⟩ := ST8.out.at hlt
    have s1 := cell_gr GG.out s1
    have s2 := cell_gr GG.out s2
    have hmem := DC.mem_getD (l := st) (i := i) (by rw [HNS.out]; exact hlt) (0, 0)
    obtain ⟨r1, r2, r3, r4⟩ := HRS2.out _ hmem
    obtain ⟨r, hr⟩ : ∃ r : Nat, (st.getD i (0, 0)).1 = (r : Int) := ⟨_, (Int.toNat_of_nonneg r1).symm⟩
    obtain ⟨c, hc⟩ : ∃ c : Nat, (st.getD i (0, 0)).2 = (c : Int) := ⟨_, (Int.toNat_of_nonneg r3).symm⟩
    rw [hr] at s1 r2
    rw [hc] at s2 r4
    have hrm : r < mr := by omega
    have hcn : c < n := by omega
    have hnx : DC.runF d rs st F0 (i + 1) = (DC.runF d rs st F0 i).set c (DC.totL d (DC.runF d rs st F0 i) (rs.getD r noE)) := by
     show (DC.runF d rs st F0 i).set (st.getD i (0, 0)).2.toNat (DC.totL d (DC.runF d rs st F0 i) (rs.getD (st.getD i (0, 0)).1.toNat DC.noE)) = _
     rw [hr, hc, Int.toNat_natCast, Int.toNat_natCast]
     rfl
    have HNX := Lib.hid hnx
    obtain ⟨be, oe, rfl, _⟩ := E7.out.lay (by omega)
    obtain ⟨oc1, nc1, cc1, od1, nd1, cd1, e1, e2, z1, z2⟩ := E7.out.at hrm
    have e1 := cell_gr GG.out e1
    have e2 := cell_gr GG.out e2
    have z1 := z1.grown GG.out
    have z2 := z2.grown GG.out
    have hqm := HRW.out _ (DC.mem_getD (l := rs) (i := r) (by rw [HMR.out]; exact hrm) noE)
    generalize rs.getD r noE = q at *
    have HQM2 := Lib.hid hqm
    generalize DC.runF d rs st F0 i = F at *
    clear hmem r1 r2 r3 r4 hr hc hnx hqm
    have gA : Gr wo (wo.alloc (.cells #[.int .i64 (r : Int), .int .i64 (c : Int)] 157)) := Gr.alloc (Gr.refl _) _ _
    have k0 : (wo.alloc (.cells #[.int .i64 (r : Int), .int .i64 (c : Int)] 157)).cell? ⟨wo.heap.size, 0, none⟩ = some (.int .i64 (r : Int)) := by rw [cell_of_row _ _ 0 _ _ _ (heap_alloc_new _ _)]; rfl
    have k1 : (wo.alloc (.cells #[.int .i64 (r : Int), .int .i64 (c : Int)] 157)).cell? ⟨wo.heap.size, 1, none⟩ = some (.int .i64 (c : Int)) := by rw [cell_of_row _ _ 1 _ _ _ (heap_alloc_new _ _)]; rfl
    have e1 := cell_gr gA e1
    have e2 := cell_gr gA e2
    have Z1 := Lib.hid (z1.grown gA)
    have Z2 := Lib.hid (z2.grown gA)
    have RA := Lib.hid (RR.out.grown gA)
    have GA := Lib.hid (GG.out.trans gA)
    have HGZ : Hid (g < wo.heap.size ∧ be < w7.heap.size) := Lib.hid ⟨(RR.out.store HW.out.2 hcn).2.2.2, by
      obtain ⟨_, _, _, _, _, _, e10, _⟩ := E7.out.at hrm
      exact block_lt_of_cell e10⟩
    clear z1 z2 gA RR GG
    go_upto_region 11 with fail
    generalize wo.alloc (.cells #[.int .i64 (r : Int), .int .i64 (c : Int)] 157) = wA at *
    generalize wo.heap.size = gz at *
    clear s1 s2
    have hF0 : Hid (Bss wA (.slice (some ⟨g, 0, none⟩) n n) F) := Lib.hid RA.out.bss
    have HGF : Hid (w7.heap.size ≤ g ∧ g < wA.heap.size ∧ ¬ gz = g ∧ ¬ be = g) := Lib.hid (by
      obtain ⟨_, _, h5, h6⟩ := RA.out.store HW.out.2 hcn
      have := HGZ.out
      exact ⟨h5, h6, by omega, by omega⟩)
    have LEN : Hid (q.c.length ≤ 1000) := Lib.hid (by have := mayRow_len HQM2.out.1; omega)
    go_region_held3 (fun W => W.cell? ⟨gz, 0, none⟩ = some (.int .i64 (r : Int)) ∧ W.cell? ⟨gz, 1, none⟩ = some (.int .i64 (c : Int)) ∧ W.cell? ⟨be, oe + r * 2, none⟩ = some (.slice oc1 nc1 cc1) ∧ W.cell? ⟨be, oe + r * 2 + 1, none⟩ = some (.slice od1 nd1 cd1)) (first | exact ⟨y0, y1, y2, y3⟩ | exact ⟨t0, t1, t2, t3⟩ | go_keep)
     (first
       | (go_at_call 106; refine (total_any n d S ⟨g, 0, none⟩ n _ _ F q _ (Bss.grown hF0.out (Gr.drew (Gr.refl _))) HW.out.1 HW.out.2 (by omega) (by omega) hb5 hb6 (Z1.out.grown (Gr.drew (Gr.refl _))) LEN.out HQM2.out.1.1 (Z2.out.grown (Gr.drew (Gr.refl _))) HQM2.out.2.1).mono ?_; rintro e w2 ⟨v2, rfl, hn2⟩; obtain ⟨o2, m2, c2, rfl⟩ := New.form3 hn2; have G2 : Hid (Gr wA w2) := Lib.hid (by exact hn2.1); have N2 := Lib.hid hn2; have t0 := cell_gr G2.out k0; have t1 := cell_gr G2.out k1; have t2 := cell_gr G2.out e1; have t3 := cell_gr G2.out e2; have R2 := Lib.hid (RA.out.grown G2.out); have KS : Hid (Kp (fun k => k = g) w2 (w2.setCell ⟨g, c, none⟩ (.slice o2 m2 c2))) := Lib.hid (Kp.set _ _ _ _); have y0 := KS.out.cell t0 HGF.out.2.2.1; have y1 := KS.out.cell t1 HGF.out.2.2.1; have y2 := KS.out.cell t2 HGF.out.2.2.2; have y3 := KS.out.cell t3 HGF.out.2.2.2; obtain ⟨⟨u9, f1⟩, f2, _⟩ := R2.out.store HW.out.2 hcn; clear hn2))
    all_goals
     have hgr := KS.out.gr (GA.out.trans G2.out) (fun k e => by rw [e]; exact HGF.out.1)
     go_wp2_with fail
     exact ⟨⟨i + 1, by omega, by go_num, by rw [HNX.out]; exact R2.out.put1 HW.out.2 hcn (New.bs N2.out) (New.rb N2.out _), hgr⟩, by simp [intOf]; omega⟩
   ·obtain rfl : i = ns := by omega
    have bp := keptRow GG.out BP7.out
    have c2 : wo.cell? ⟨gp, 2, none⟩ = some (.slice ol nl cl) := by rw [cell_of_row _ _ _ _ _ _ bp]; rfl
    have hfr : ∃ F, DC.runF d rs st F0 i = F := ⟨_, rfl⟩
    obtain ⟨F, hF⟩ := hfr
    rw [hF] at RR HW
    have HFF := Lib.hid hF
    have FB : Hid (Bss wo (.slice (some ⟨g, 0, none⟩) n n) F) := Lib.hid RR.out.bss
    clear bp hF
    go_wp2_with fail
    go_loopw [5, 68] (fun zv iv W => ∃ j : Nat, j ≤ nl ∧ iv = .int .i64 j ∧ Rws wo.heap.size W zv (DC.zerosL d F rs (le.take j)) ∧ Gr wo W ∧ wo.heap.size ≤ W.heap.size) (fun _ iv _ => nl - (intOf iv).toNat)
    case atStart => exact ⟨0, by omega, rfl, Rws.nil _ _, Gr.refl _, Nat.le_refl _⟩
    case round =>
     obtain ⟨wi, hwi⟩ : ∃ x, x = wr := ⟨_, rfl⟩
     subst hwi
     obtain ⟨j, hj, rfl, hR, hg, hsz⟩ := hrel
     obtain ⟨oz, mz, cz, rfl⟩ := hR.form4
     have RI := Lib.hid hR
     have GI := Lib.hid hg
     have HSZ := Lib.hid hsz
     clear hR hg hsz c2
     by_cases hlt2 : j < nl
     ·obtain ⟨al, rfl⟩ := LE8.out.addr (by omega)
      have q0 := cell_gr GI.out (cell_gr GG.out (LE8.out.cellAt hlt2))
      obtain ⟨r1, r2⟩ := HRL2.out _ (DC.mem_getD (l := le) (i := j) (by rw [HNL.out]; exact hlt2) 0)
      obtain ⟨r, hr⟩ : ∃ r : Nat, le.getD j 0 = (r : Int) := ⟨_, (Int.toNat_of_nonneg r1).symm⟩
      rw [hr] at q0 r2
      have hrm : r < mr := by omega
      have htk : DC.zerosL d F rs (le.take (j + 1)) = DC.zerosL d F rs (le.take j) ++ [DC.totL d F (rs.getD r noE)] := by
       rw [take_snoc le j 0 (by rw [HNL.out]; exact hlt2), zerosL_snoc, hr, Int.toNat_natCast]
      have HTK := Lib.hid htk
      obtain ⟨be, oe, rfl, _⟩ := E7.out.lay (by omega)
      obtain ⟨oc1, nc1, cc1, od1, nd1, cd1, e1, e2, z1, z2⟩ := E7.out.at hrm
      have e1 := cell_gr GI.out (cell_gr GG.out e1)
      have e2 := cell_gr GI.out (cell_gr GG.out e2)
      have Z1 := Lib.hid ((z1.grown GG.out).grown GI.out)
      have Z2 := Lib.hid ((z2.grown GG.out).grown GI.out)
      have hqm := HRW.out _ (DC.mem_getD (l := rs) (i := r) (by rw [HMR.out]; exact hrm) noE)
      have HLZ : Hid ((DC.zerosL d F rs (le.take j)).length ≤ 100000) := Lib.hid (by unfold DC.zerosL; rw [List.length_map, List.length_take]; omega)
      generalize rs.getD r noE = q at *
      have HQM2 := Lib.hid hqm
      have LEN : Hid (q.c.length ≤ 1000) := Lib.hid (by have := mayRow_len HQM2.out.1; omega)
      clear r1 r2 hr htk z1 z2 hqm
      go_wp2_with fail
      refine (total_any n d S ⟨g, 0, none⟩ n _ _ F q _ (Bss.grown FB.out GI.out) HW.out.1 HW.out.2 (by omega) (by omega) hb5 hb6 Z1.out LEN.out HQM2.out.1.1 Z2.out HQM2.out.2.1).mono ?_
      rintro e w2 ⟨v2, rfl, hn2⟩
      obtain ⟨o2, m2, c2, rfl⟩ := New.form3 hn2
      have gB : Gr w2 (w2.alloc (.cells #[.slice o2 m2 c2] 25)) := Gr.alloc (Gr.refl _) _ _
      have CE : Hid ((w2.alloc (.cells #[.slice o2 m2 c2] 25)).cell? ⟨w2.heap.size, 0, none⟩ = some (.slice o2 m2 c2)) := Lib.hid (by rw [cell_of_row _ _ 0 _ _ _ (heap_alloc_new _ _)]; rfl)
      have R2 := Lib.hid (RI.out.grown (Gr.trans hn2.1 gB))
      have NB := Lib.hid (Rb.gr (New.bs hn2) (New.rb hn2 wo.heap.size) gB)
      have G2 := Lib.hid (Gr.trans GI.out (Gr.trans hn2.1 gB))
      have HS2 : Hid (wo.heap.size ≤ (w2.alloc (.cells #[.slice o2 m2 c2] 25)).heap.size) := Lib.hid G2.out.size
      clear hn2 gB
      go_wp2_with (at_builtin; refine wpList_append_row rfl _ _ rfl wo.heap.size (.slice oz mz cz) (DC.zerosL d F rs (le.take j)) rfl R2.out w2.heap.size (.slice o2 m2 c2) (DC.totL d F q) rfl CE.out NB.out.1 NB.out.2 HLZ.out HS2.out ?_; intro v4 w4x h4 hg4 _; have O4 := Lib.hid h4; have G4 := Lib.hid (hg4 wo G2.out (Nat.le_refl _)); clear h4 hg4)
      exact ⟨⟨j + 1, by omega, by go_num, by rw [HTK.out]; exact O4.out, G4.out, G4.out.size⟩, by simp [intOf]; omega⟩
     ·obtain rfl : j = nl := by omega
      have hzz : DC.zerosL d F rs (le.take j) = DC.zerosL d F rs le := by rw [List.take_of_length_le (by rw [HNL.out]; exact Nat.le_refl _)]
      have HZZ := Lib.hid hzz
      clear hzz
      go_wp2_with fail
      go_ret3
      refine ⟨Gr.trans G7.out (Gr.trans GG.out GI.out), _, _, _, rfl, .inr ⟨rfl, F, DC.zerosL d F rs le, kn, vs, openL kn de, st, de, le, d, ⟨HIS.out, ?_, HD.out, ?_, ?_, Bss.grown FB.out GI.out, ?_⟩⟩⟩
      ·rw [← HRS.out]
       exact HPLAN.out
      ·rw [← HRS.out, HF0E.out, HNS.out]
       exact HFF.out.symm
      ·rw [← HRS.out]
      ·rw [← HZZ.out]
       exact RI.out.bss
end Go.Proofs.YtbbglejdfbkjlaaGreat
namespace Go.Proofs.YtbbglejdfbkjlaaGreat
open Go.RowKit
theorem ownsRow_gr {w w1 w2 : World} {v : Value} {n : Nat} {us : List Value} (h : w1.ownsRow w.heap.size 5 1 v n us) (hg : Gr w w1) (h2 : w1.grownBy w2 v.ownBlock) : Gr w w2 := Gr.append hg h2 (ownsRow_base h)
set_option maxRecDepth 100000 in
set_option maxHeartbeats 1600000 in
theorem joined_any (va vb : Value) (A B : List (List Int)) (k m : Nat) (w : World) (ha : Bss w va A) (hb : Bss w vb B) (hl : A.length ≤ 1000) (hlb : B.length = A.length) (h0 : 0 < A.length) (hA : Wide k A) (hB : Wide m B) (hk : k ≤ 64) (hm : m ≤ 64) :
  Calls Tryz.prog 57 #[va, vb] w fun e w' => ∃ g us L, e = .returned (.slice (some ⟨g, 0, none⟩) A.length A.length) ∧ Fill w w' g A.length (fun i l => l = A.getD i [] ++ B.getD i []) A.length us L := by
 obtain ⟨a, c0, rfl, h1, h2, h3⟩ := Bss.at ha h0
 obtain ⟨b, cb, rfl, b1, b2, b3⟩ := Bss.at hb (by omega)
 rw [hlb] at b1 b3 ⊢
 obtain ⟨n, hn⟩ : ∃ n, A.length = n := ⟨_, rfl⟩
 have HN := Lib.hid hn
 have HNB : Hid (B.length = n) := Lib.hid (by rw [hlb, hn])
 rw [hn] at h1 h3 b1 b3 hl h0 ⊢
 have HA := Lib.hid h3
 have HB := Lib.hid b3
 have WA := Lib.hid hA
 have WB := Lib.hid hB
 have hmk := make24 n n (by omega) (by omega)
 have hR : ∃ cur, cur = nils n := ⟨_, rfl⟩
 obtain ⟨cur, hcur⟩ := hR
 rw [← hcur] at hmk
 have HF0 : Hid (Fill w (w.alloc (.cells cur 25)) w.heap.size n (fun i l => l = A.getD i [] ++ B.getD i []) 0 (List.replicate n (.slice none 0 0)) (List.replicate n [])) := Lib.hid (by rw [hcur]; exact Fill.start w n (by omega) _)
 clear ha hb hlb hn h3 b3 hA hB hcur
 go_enter Tryz.func57, Tryz.ntmps57
 go_wp2
 clear hmk
 generalize hW : w.alloc (.cells cur 25) = W at *
 generalize hG : w.heap.size = g at *
 go_loopw [12] (fun i wr => ∃ (j : Nat) (us : List Value) (L : List (List Int)), j ≤ n ∧ i = .int .i64 j ∧ Fill w wr g n (fun i l => l = A.getD i [] ++ B.getD i []) j us L) (fun i _ => n - (intOf i).toNat)
 case atStart => exact ⟨0, _, _, by omega, rfl, HF0.out⟩
 case round =>
  clear HF0
  obtain ⟨j, us, Lx, hj, rfl, hfl⟩ := hrel
  have FL := Lib.hid hfl
  clear hfl
  by_cases hlt : j < n
  ·obtain ⟨u, q0, hu⟩ := HA.out j hlt
   obtain ⟨u', q0', hu'⟩ := HB.out j hlt
   have q1 := cell_grown FL.out.gr q0
   have q2 := cell_grown FL.out.gr q0'
   have hu1 := Bs.grown hu FL.out.gr
   have hu2 := Bs.grown hu' FL.out.gr
   obtain ⟨ou, cu, rfl⟩ := hu.form
   obtain ⟨ou', cu', rfl⟩ := hu'.form
   have hwa := WA.out.at j (by rw [HN.out]; exact hlt)
   have hwb := WB.out.at j (by rw [HNB.out]; exact hlt)
   rw [hwa.1] at q1 hu1
   rw [hwb.1] at q2 hu2
   have HU1 := Lib.hid hu1
   have HU2 := Lib.hid hu2
   have HWA := Lib.hid hwa
   have HWB := Lib.hid hwb
   have qc := FL.out.cell j hlt
   have qf := FL.out.frozen j
   clear q0 q0' hu hu' hu1 hu2 hwa hwb
   go_wp2
   go_region_law (first
     | ((try go_simp); go_at_call 52; refine (clone_any _ (A.getD j []) _ (by exact HU1.out) (by rw [HWA.out.1]; omega)).mono ?_; rintro e w2 ⟨v2, rfl, hown2, hg2⟩; rw [HWA.out.1] at hown2; obtain ⟨o2, c2, rfl⟩ := ownsRow_form hown2; have hq2 := cell_grown hg2 (by exact q2); have HO2 := Lib.hid hown2; have HG2 : Hid (Gr wr w2) := Lib.hid (by exact hg2); clear hown2 hg2)
     | (refine step_append_bytes rfl _ _ rfl wr.heap.size (.slice o2 k c2) k (A.getD j []) (by rfl) (by exact HO2.out) ou' m cu' (B.getD j []) (by rfl) (by exact Bs.grown HU2.out HG2.out) (by omega) (by exact HG2.out.size) ?_; intro v3 w3 hown3 hgrow3; obtain ⟨o3, c3, rfl⟩ := ownsRow_form hown3; have HO3 := Lib.hid hown3; have HG3 : Hid (Gr wr w3) := Lib.hid (ownsRow_gr (by exact HO2.out) HG2.out (by exact hgrow3)); have hc3 := cell_grown HG3.out qc; have hf3 := frozen_grown HG3.out qc qf; clear hown3 hgrow3))
   all_goals
    have hlen : (A.getD j [] ++ B.getD j []).length = k + m := by rw [List.length_append, HWA.out.1, HWB.out.1]
    have NW : Hid (New wr w3 (.slice o3 (k + m) c3) (A.getD j [] ++ B.getD j [])) := Lib.hid (New.of_row HG3.out (fun x hx => by
      rcases List.mem_append.1 hx with hx | hx
      · exact HWA.out.2 x hx
      · exact HWB.out.2 x hx) (by rw [hlen]; exact HO3.out))
    go_wp2_with fail
    exact ⟨⟨j + 1, _, _, by omega, by go_num, (FL.out.grow HG3.out).put hlt (New.bs NW.out) (New.rb NW.out _) rfl⟩, by simp [intOf]; omega⟩
  ·obtain rfl : j = n := by omega
   go_wp2
   go_ret
   exact ⟨g, us, Lx, rfl, FL.out⟩
end Go.Proofs.YtbbglejdfbkjlaaGreat
namespace Go.Proofs.YtbbglejdfbkjlaaGreat
open Go.RowKit
theorem vec_app_lt {a b : List Int} {j : Nat} (h : j < a.length) : vec (a ++ b) j = vec a j := by
 show fb ((a ++ b).getD j 0) = fb (a.getD j 0)
 rw [List.getD_eq_getElem?_getD, List.getElem?_append_left h, ← List.getD_eq_getElem?_getD]
theorem vec_app_ge {a b : List Int} (j : Nat) : vec (a ++ b) (a.length + j) = vec b j := by
 show fb ((a ++ b).getD (a.length + j) 0) = fb (b.getD j 0)
 rw [List.getD_eq_getElem?_getD, List.getElem?_append_right (by omega), Nat.add_sub_cancel_left, ← List.getD_eq_getElem?_getD]
theorem vec_drop (l : List Int) (k : Nat) : vec (l.drop k) = L.shV k (vec l) := by
 funext j
 show fb ((l.drop k).getD j 0) = fb (l.getD (k + j) 0)
 rw [List.getD_eq_getElem?_getD, List.getElem?_drop, ← List.getD_eq_getElem?_getD]
structure Side (k m n : Nat) (A B J : List (List Int)) : Prop where
 wa : Wide k A
 wb : Wide m B
 la : A.length = n
 lb : B.length = n
 lj : J.length = n
 is : ∀ i, i < n → J.getD i [] = A.getD i [] ++ B.getD i []
section
variable {k m n : Nat} {A B J : List (List Int)}
theorem Side.wide (h : Side k m n A B J) : Wide (k + m) J := by
 intro r hr
 obtain ⟨i, hi, rfl⟩ := List.getElem_of_mem hr
 have e := h.is i (by rw [← h.lj]; exact hi)
 rw [List.getD_eq_getElem?_getD, List.getElem?_eq_getElem hi] at e
 have h1 := h.wa.at i (by rw [h.la, ← h.lj]; exact hi)
 have h2 := h.wb.at i (by rw [h.lb, ← h.lj]; exact hi)
 rw [show J[i] = A.getD i [] ++ B.getD i [] from e]
 refine ⟨by rw [List.length_append, h1.1, h2.1], fun x hx => ?_⟩
 rcases List.mem_append.1 hx with hx | hx
 ·exact h1.2 x hx
 ·exact h2.2 x hx
theorem Side.cut (h : Side k m n A B J) : (J.map vec).map (L.cutV k) = A.map vec := by
 apply List.ext_getElem
 ·simp [h.la, h.lj]
 intro i h1 h2
 rw [List.length_map] at h2
 have hi : i < J.length := by rw [h.lj, ← h.la]; exact h2
 have e := h.is i (by rw [← h.la]; exact h2)
 have hw := (h.wa.at i h2).1
 rw [List.getD_eq_getElem?_getD, List.getElem?_eq_getElem hi] at e
 rw [List.getElem_map, List.getElem_map, List.getElem_map, show J[i] = A.getD i [] ++ B.getD i [] from e]
 rw [show A[i] = A.getD i [] by rw [List.getD_eq_getElem?_getD, List.getElem?_eq_getElem h2]; rfl]
 funext j
 by_cases hj : j < k
 ·rw [L.cutV_lt _ hj, vec_app_lt (by rw [hw]; exact hj)]
 ·rw [show L.cutV k (vec (A.getD i [] ++ B.getD i [])) j = L.zero from if_neg hj]
  exact (vec_supp hw j (by omega)).symm
theorem Side.ans (h : Side k m n A B J) {M : List L.V} (hM : M.length = k) : L.mulM (A.map vec) M = B.map vec ↔ ∀ a ∈ J.map vec, L.Ans k M a := by
 have key : ∀ i, i < n → (L.lc (L.rowAt (A.map vec) i) M = L.rowAt (B.map vec) i ↔ L.Ans k M (L.rowAt (J.map vec) i)) := by
  intro i hi
  have hw := (h.wa.at i (by rw [h.la]; exact hi)).1
  rw [rowAt_vec, rowAt_vec, rowAt_vec, h.is i hi]
  unfold L.Ans
  have e1 : L.lc (vec (A.getD i [] ++ B.getD i [])) M = L.lc (vec (A.getD i [])) M := L.lc_congr M _ _ fun j hj => vec_app_lt (by rw [hw, ← hM]; exact hj)
  have e2 : L.shV k (vec (A.getD i [] ++ B.getD i [])) = vec (B.getD i []) := funext fun j => by
   show vec (A.getD i [] ++ B.getD i []) (k + j) = _
   rw [← hw, vec_app_ge]
  rw [e1, e2]
 rw [L.Sat.of_mul (by simp [h.la, h.lb]), L.mem_iff_rowAt]
 unfold L.Sat
 rw [List.length_map, List.length_map, h.la, h.lj]
 exact ⟨fun g i hi => (key i hi).1 (g i hi), fun g i hi => (key i hi).2 (g i hi)⟩
theorem Side.rank {X : List (List Int)} {ps : List Nat} (h : Side k m n A B J) (he : L.Ech (J.map vec) (X.map vec) ps k) : rkL A = ps.length := by
 unfold rkL
 rw [← h.cut]
 exact he.rank
theorem Side.clash {X : List (List Int)} {ps : List Nat} (h : Side k m n A B J) (he : L.Ech (J.map vec) (X.map vec) ps k) (hk : ps.length = k) (hX : Wide (k + m) X) (i : Nat) (h1 : k ≤ i) (h2 : i < X.length) (h3 : 0 ≤ leadL (X.getD i [])) :
  ∀ M : List L.V, M.length = k → L.mulM (A.map vec) M ≠ B.map vec := by
 intro M hM e
 have := ((he.answers hk hM).1 ((h.ans hM).1 e)).2 i h1 (by rw [List.length_map]; exact h2)
 rw [rowAt_vec] at this
 exact vec_ne (hX.at i h2).2 h3 this
theorem Side.solved {X S : List (List Int)} {ps : List Nat} (h : Side k m n A B J) (he : L.Ech (J.map vec) (X.map vec) ps k) (hk : ps.length = k) (h0 : ∀ i, k ≤ i → i < X.length → leadL (X.getD i []) = -1) (hX : Wide (k + m) X)
  (hS : S.length = k) (hi : ∀ i, i < k → S.getD i [] = (X.getD i []).drop k) : IsMul m A S B ∧ Wide m S := by
 have hle : k ≤ X.length := by have := he.le; rw [List.length_map] at this; omega
 refine ⟨⟨h.wb, ?_⟩, fun r hr => ?_⟩
 ·refine ((h.ans (by rw [List.length_map]; exact hS)).2 ((he.answers hk (by rw [List.length_map]; exact hS)).2 ⟨fun i h1 => ?_, fun i h1 h2 => ?_⟩)).symm
  ·rw [rowAt_vec, rowAt_vec, hi i h1, vec_drop]
  ·rw [List.length_map] at h2
   rw [rowAt_vec]
   exact vec_nought (h0 i h1 h2)
 ·obtain ⟨i, h1, rfl⟩ := List.getElem_of_mem hr
  have e := hi i (by omega)
  rw [List.getD_eq_getElem?_getD, List.getElem?_eq_getElem h1] at e
  have hw := hX.at i (by omega)
  rw [show S[i] = (X.getD i []).drop k from e]
  exact ⟨by rw [List.length_drop, hw.1]; omega, fun x hx => hw.2 x (List.mem_of_mem_drop hx)⟩
end
theorem Bs.dropAt {w : World} {b : Addr} {p c k : Nat} {l : List Int} (h : Bs w (.slice (some b) p c) l) (hk : k ≤ p) : Bs w (.slice (some (b.add k)) (p - k) (c - k)) (l.drop k) := by
 obtain ⟨h0, oa, c', he, h2, h3, h4, h5⟩ := h
 obtain ⟨rfl, rfl, rfl⟩ : some b = oa ∧ p = l.length ∧ c = c' := by simpa using he
 have hl : (l.drop k).length = l.length - k := List.length_drop
 refine ⟨fun x hx => h0 x (List.mem_of_mem_drop hx), some (b.add k), c - k, by rw [hl], by rw [hl]; omega, by omega, (fun h => by cases h), fun a ha i hi => ?_⟩
 cases ha
 rw [hl] at hi
 rw [Addr.add_add', h5 b rfl (k + i) (by omega), List.getD_eq_getElem?_getD, List.getD_eq_getElem?_getD, List.getElem?_drop]
set_option maxRecDepth 100000 in
set_option maxHeartbeats 1600000 in
theorem mcut_any (g d c k m : Nat) (R : List (List Int)) (w : World) (hb : Bss w (.slice (some ⟨g, 0, none⟩) d c) R) (hl : R.length = d) (h0 : 0 < d) (hd : d ≤ 1000) (hW : Wide (k + m) R) (hk : k ≤ 64) (hm : m ≤ 64) (hm1 : 1 ≤ m) :
  Calls Tryz.prog 61 #[.slice (some ⟨g, 0, none⟩) d c, .int .i64 k] w fun e w' => ∃ v S, e = .returned v ∧ RwsN w.heap.size w' v S ∧ Gr w w' ∧ S.length = d ∧ ∀ i, i < d → S.getD i [] = (R.getD i []).drop k := by
 have HW := Lib.hid hW
 have HL := Lib.hid hl
 obtain ⟨a, c', he, h1, h2, h3⟩ := Bss.at hb (by omega)
 rw [hl] at he h1 h3
 obtain ⟨rfl, rfl⟩ : (⟨g, 0, none⟩ : Addr) = a ∧ c = c' := by simpa using he
 have HA := Lib.hid h3
 obtain ⟨p, hp⟩ : ∃ p, k + m = p := ⟨_, rfl⟩
 rw [hp] at HW
 have hkp : k < p := by omega
 have hp2 : p ≤ 128 := by omega
 have hmk := make24 d d (by omega) (by omega)
 have hR : ∃ cur, cur = nils d := ⟨_, rfl⟩
 obtain ⟨cur, hcur⟩ := hR
 rw [← hcur] at hmk
 have HF0 : Hid (Fill w (w.alloc (.cells cur 25)) w.heap.size d (fun i l => l = (R.getD i []).drop k) 0 (List.replicate d (.slice none 0 0)) (List.replicate d [])) := Lib.hid (by rw [hcur]; exact Fill.start w d (by omega) _)
 clear hb hl hW he h3 hp hm hm1 hcur
 go_enter Tryz.func61, Tryz.ntmps61
 go_wp2
 clear hmk
 generalize hW : w.alloc (.cells cur 25) = W at *
 generalize hG : w.heap.size = g2 at *
 go_loopw [13] (fun i wr => ∃ (j : Nat) (us : List Value) (L : List (List Int)), j ≤ d ∧ i = .int .i64 j ∧ Fill w wr g2 d (fun i l => l = (R.getD i []).drop k) j us L ∧ ∀ t, t < j → Rn w.heap.size wr (us.getD t undef)) (fun i _ => d - (intOf i).toNat)
 case atStart => exact ⟨0, _, _, by omega, rfl, HF0.out, fun t ht => by omega⟩
 case round =>
  clear HF0
  obtain ⟨j, us, Lx, hj, rfl, hfl, hrn⟩ := hrel
  have FL := Lib.hid hfl
  have RN := Lib.hid hrn
  clear hfl hrn
  by_cases hlt : j < d
  ·obtain ⟨u, q0, hu⟩ := HA.out j hlt
   have q1 := cell_grown FL.out.gr q0
   rw [Addr.add_mid, Nat.zero_add] at q1
   have hu1 := Bs.grown hu FL.out.gr
   have hwr := HW.out.at j (by rw [HL.out]; exact hlt)
   obtain ⟨b, cu, rfl, u1, u2, _⟩ := Bs.at hu1 (by rw [hwr.1]; omega)
   rw [hwr.1] at q1 hu1 u1
   have HD := Lib.hid (hu1.dropAt (k := k) (by omega))
   have hne : cu ≠ k := by omega
   have HLL : Hid (((R.getD j []).drop k).length = p - k) := Lib.hid (by rw [List.length_drop, hwr.1])
   have HLD : Hid (((R.getD j []).drop k).length ≤ 1000000) := Lib.hid (by rw [HLL.out]; omega)
   have qc := FL.out.cell j hlt
   have qf := FL.out.frozen j
   clear q0 hu hu1 hwr
   go_wp2_with (first | (go_at_call 52; refine (clone_any _ ((R.getD j []).drop k) _ (by exact HD.out) HLD.out).mono ?_; rintro e w2 ⟨v2, rfl, hown2, hg2⟩; have NW := Lib.hid (New.of_row hg2 HD.out.1 hown2); rw [HLL.out] at hown2; obtain ⟨o2, c2, rfl⟩ := ownsRow_form hown2; have hc2 := cell_grown hg2 qc; have hf2 := frozen_grown hg2 qc qf; clear hown2 hg2))
   have hgs : w.heap.size ≤ wr.heap.size := FL.out.gr.size
   have hus : us.length = d := by have := FL.out.own.1; omega
   refine ⟨⟨j + 1, _, _, by omega, by go_num, (FL.out.grow NW.out.1).put hlt (New.bs NW.out) (New.rb NW.out _) rfl, fun t ht => ?_⟩, by simp [intOf]; omega⟩
   by_cases e : t = j
   ·subst e
    rw [List.getD_eq_getElem?_getD, List.getElem?_set_self (by omega)]
    exact (New.rnM NW.out hgs).setM (FL.out.own.of_gr NW.out.1) _ _
   ·rw [List.getD_eq_getElem?_getD, List.getElem?_set_ne (fun c => e c.symm), ← List.getD_eq_getElem?_getD]
    exact ((RN.out t (by omega)).grM NW.out.1).setM (FL.out.own.of_gr NW.out.1) _ _
  ·obtain rfl : j = d := by omega
   go_wp2
   go_ret
   exact ⟨_, Lx, rfl, ⟨us, by rw [FL.out.len]; exact FL.out.own, fun i hi => ⟨(FL.out.row i (by rw [← FL.out.len]; exact hi)).1, RN.out i (by rw [← FL.out.len]; exact hi)⟩⟩, FL.out.gr, FL.out.len, FL.out.is⟩
set_option maxRecDepth 100000 in
set_option maxHeartbeats 1600000 in
theorem solve_nil (f vb : Value) (oa : Option Addr) (ca : Nat) (B : List (List Int)) (w : World) (ha : Bss w (.slice oa 0 ca) []) (hb : Bss w vb B) (hlb : B.length = 0) (hmb : mayL B = true) :
  Calls Tryz.prog 31 #[f, .slice oa 0 ca, vb] w fun e w' => ∃ v n S, e = .returned (.tuple #[v, .int .i64 n]) ∧ RwsN w.heap.size w' v S ∧ Gr w w' ∧ SolSays [] B n S := by
 have HS := Lib.hid ha
 have HSB := Lib.hid hb
 have HMB := Lib.hid hmb
 have HLB := Lib.hid hlb
 obtain ⟨ob, cb, rfl, _, _, _, _⟩ := hb
 rw [hlb] at HSB ⊢
 clear ha hmb hlb
 go_enter Tryz.func31, Tryz.ntmps31
 go_wp2_with fail
 refine (may_any _ [] w HS.out (by simp)).mono ?_
 rintro e w1 ⟨rfl, hg1⟩
 rw [show mayL [] = true from rfl]
 have G1 := Lib.hid hg1
 clear hg1
 go_wp2_with fail
 refine (may_any _ B w1 (Bss.grown HSB.out G1.out) (by rw [HLB.out]; omega)).mono ?_
 rintro e w2 ⟨rfl, hg2⟩
 rw [HMB.out]
 have G2 := Lib.hid (Gr.trans G1.out hg2)
 clear hg2
 go_wp2
 go_ret2
 exact ⟨_, _, [], rfl, RwsN.nilM _ _, G2.out, .inl ⟨rfl, rfl, rfl⟩⟩
set_option maxRecDepth 100000 in
set_option maxHeartbeats 3200000 in
theorem solve_pos (f va vb : Value) (A B : List (List Int)) (w : World) (hf : IsF w f) (ha : Bss w va A) (hb : Bss w vb B) (hl : A.length ≤ 1000) (hlb : B.length = A.length) (hma : mayL A = true) (hmb : mayL B = true) (h0 : 0 < A.length) (hk1 : 1 ≤ wd A) (hm1 : 1 ≤ wd B) :
  Calls Tryz.prog 31 #[f, va, vb] w fun e w' => ∃ v n S, e = .returned (.tuple #[v, .int .i64 n]) ∧ RwsN w.heap.size w' v S ∧ Gr w w' ∧ SolSays A B n S := by
 have WA := Lib.hid (Wide.of_bss ha hma)
 have WB := Lib.hid (Wide.of_bss hb hmb)
 have HS := Lib.hid ha
 have HSB := Lib.hid hb
 have HF := Lib.hid hf
 have HMA := Lib.hid hma
 have HMB := Lib.hid hmb
 have hk64 : wd A ≤ 64 := (mayL_at hma 0 h0).2
 have hm64 : wd B ≤ 64 := (mayL_at hmb 0 (by omega)).2
 have HA0 : Hid (A ≠ []) := Lib.hid (List.length_pos_iff.1 h0)
 obtain ⟨oa, ca, rfl, a1, a2, _, _⟩ := ha
 obtain ⟨ob, cb, rfl, b1, b2, _, _⟩ := hb
 rw [hlb] at HSB b1 ⊢
 have HLB0 := Lib.hid hlb
 obtain ⟨n, hn⟩ : ∃ n, A.length = n := ⟨_, rfl⟩
 obtain ⟨k, hk⟩ : ∃ k, wd A = k := ⟨_, rfl⟩
 obtain ⟨m, hm⟩ : ∃ m, wd B = m := ⟨_, rfl⟩
 rw [hn] at HS HSB a1 b1 hl h0 ⊢
 rw [hk] at hk64 hk1 WA
 rw [hm] at hm64 hm1 WB
 have HN := Lib.hid hn
 have HLB : Hid (B.length = n) := Lib.hid (by rw [hlb, hn])
 have HK := Lib.hid hk
 have HMW := Lib.hid hm
 have hc0 : ((n : Int) == 0) = false := by simp; omega
 clear hf hma hmb hn hk hm hlb
 go_enter Tryz.func31, Tryz.ntmps31
 go_wp2_with fail
 refine (may_any _ A w HS.out (by rw [HN.out]; omega)).mono ?_
 rintro e w1 ⟨rfl, hg1⟩
 rw [HMA.out]
 have G1 := Lib.hid hg1
 clear hg1
 go_wp2_with fail
 refine (may_any _ B w1 (Bss.grown HSB.out G1.out) (by rw [HLB.out]; omega)).mono ?_
 rintro e w2 ⟨rfl, hg2⟩
 rw [HMB.out]
 have G2 := Lib.hid (Gr.trans G1.out hg2)
 clear hg2
 go_wp2_with fail
 refine (columns_any _ A w2 (Bss.grown HS.out G2.out)).mono ?_
 rw [HK.out]
 rintro e w3 ⟨rfl, hg3⟩
 have G3 := Lib.hid (Gr.trans G2.out hg3)
 clear hg3
 go_wp2_with fail
 refine (joined_any _ _ A B k m w3 (Bss.grown HS.out G3.out) (Bss.grown HSB.out G3.out) (by rw [HN.out]; exact hl) HLB0.out (by rw [HN.out]; exact h0) WA.out WB.out hk64 hm64).mono ?_
 rw [HN.out]
 rintro e w4 ⟨g, us, J, rfl, hfl⟩
 have HJ : Hid (Side k m n A B J) := Lib.hid ⟨WA.out, WB.out, HN.out, HLB.out, hfl.len, hfl.is⟩
 have hx : Mx w3 w4 g n n (k + m) J J [] 0 us := ⟨hfl.own, hfl.row, hfl.len, HJ.out.wide, L.Ech.start _, hfl.gr⟩
 have HX := Lib.hid hx
 have HOWN := Lib.hid hfl.own
 have HROW0 := Lib.hid (hfl.row 0 (by omega)).1
 have G4 := Lib.hid (Gr.trans G3.out hfl.gr)
 clear hx hfl
 go_wp2_with fail
 refine (mtabled_any f _ (IsF.grown HF.out G4.out)).mono ?_
 rintro e w5 ⟨b, rfl, hfb, hg5⟩
 have HFB := Lib.hid hfb
 have HX5 := Lib.hid (HX.out.grow hg5)
 have HNE : Hid (b ≠ g) := Lib.hid (field_block hfb (HOWN.out.of_gr hg5) h0 HROW0.out)
 clear hfb hg5 HX HOWN
 go_wp2_with fail
 refine (eliminate_any _ HX5.out b HFB.out HNE.out k (by omega) hl (by omega) (Nat.le_refl _) (by omega)).mono ?_
 rintro e w6 ⟨ps, Lm, us6, rfl, hx6⟩
 have hrk := HJ.out.rank hx6.ech
 have hdk : ps.length ≤ k := by rw [← hrk]; exact L.rk_le_cols WA.out.supp
 have hdn : ps.length ≤ n := by have := hx6.ech.le; rw [List.length_map, hx6.len] at this; exact this
 have HX6 := Lib.hid hx6
 have G6 := Lib.hid (Gr.trans G3.out hx6.gr)
 generalize hd : ps.length = d at *
 have HD := Lib.hid hd
 have HRK := Lib.hid hrk
 clear hx6 HX5 HFB HNE hd hrk
 by_cases hlow : d < k
 ·go_wp2
  go_ret2
  exact ⟨_, _, [], rfl, RwsN.nilM _ _, G6.out, .inr (.inl ⟨HA0.out, by rw [HRK.out, HK.out]; exact hlow, rfl, rfl⟩)⟩
 ·obtain rfl : d = k := by omega
  have HB6 : Hid (Bss w6 (.slice (some ⟨g, 0, none⟩) d n) (Lm.take d)) := Lib.hid (Bss.take (owns_bss HX6.out.own HX6.out.len fun i hi => (HX6.out.row i (by rw [← HX6.out.len]; exact hi)).1) HX6.out.len d hdn)
  have HLEN : Hid ((Lm.take d).length = d) := Lib.hid (by rw [List.length_take, HX6.out.len]; omega)
  have done : ∀ wr, Gr w6 wr → (∀ t, d ≤ t → t < n → leadL (Lm.getD t []) = -1) → ∀ v S w7, RwsN wr.heap.size w7 v S → Gr wr w7 → S.length = d → (∀ i, i < d → S.getD i [] = ((Lm.take d).getD i []).drop d) → RwsN w.heap.size w7 v S ∧ Gr w w7 ∧ SolSays A B 0 S := by
   intro wr hgr hz v S w7 hb hg hsl hsi
   have := HJ.out.solved HX6.out.ech HD.out (fun i h1 h2 => hz i h1 (by rw [← HX6.out.len]; exact h2)) HX6.out.wide hsl (fun i hi => by
     rw [hsi i hi, List.getD_eq_getElem?_getD, List.getElem?_take_of_lt hi, ← List.getD_eq_getElem?_getD])
   exact ⟨hb.lowM (Gr.trans G6.out hgr).size, Gr.trans G6.out (Gr.trans hgr hg), .inr (.inr (.inl ⟨HA0.out, by rw [HRK.out, HK.out], rfl, by rw [HK.out]; exact hsl, by rw [HMW.out]; exact this.1, by rw [HMW.out]; exact this.2⟩))⟩
  have DONE := Lib.hid done
  clear done
  by_cases hnd : d = n
  ·subst hnd
   go_wp2
   go_loopw [50] (fun i wr => i = .int .i64 0 ∧ wr = w6) (fun _ _ => 0)
   case atStart => exact ⟨rfl, rfl⟩
   case round =>
    obtain ⟨rfl, rfl⟩ := hrel
    go_wp2_with fail
    refine (mcut_any g d d d m (Lm.take d) _ HB6.out HLEN.out (by omega) hl (HX6.out.wide.take d) hk64 hm64 hm1).mono ?_
    rintro e w7 ⟨v7, S, rfl, hb7, hg7, hs7, hi7⟩
    have H7 := Lib.hid (DONE.out _ (Gr.refl _) (fun t h1 h2 => by omega) v7 S w7 hb7 hg7 hs7 hi7)
    clear hb7 hg7 hs7 hi7
    go_wp2
    go_ret2
    exact ⟨_, _, S, rfl, H7.out⟩
  ·have hlt : d < n := by omega
   have hnd' : n ≠ d := by omega
   go_wp2
   go_loopw [50] (fun i wr => ∃ s : Nat, s ≤ n - d ∧ i = .int .i64 s ∧ Gr w6 wr ∧ ∀ t, d ≤ t → t < d + s → leadL (Lm.getD t []) = -1) (fun i _ => n - d - (intOf i).toNat)
   case atStart => exact ⟨0, by omega, rfl, Gr.refl _, by omega⟩
   case round =>
    obtain ⟨s, hs, rfl, hg, hz⟩ := hrel
    have G := Lib.hid hg
    have HZ := Lib.hid hz
    clear hg hz
    by_cases hlts : s < n - d
    ·obtain ⟨oi, ci, ei, q0, _⟩ := HX6.out.cell (d + s) (by omega)
     have q1 := cell_grown G.out q0
     have hrow := (HX6.out.row (d + s) (by omega)).1
     rw [ei] at hrow
     have HR := Lib.hid (Bs.grown hrow G.out)
     have HWR := Lib.hid (HX6.out.wide.at (d + s) (by rw [HX6.out.len]; omega)).1
     clear q0 hrow ei
     go_wp2_with fail
     refine (ok_lead _ (Lm.getD (d + s) []) _ HR.out (by rw [HWR.out]; omega)).mono ?_
     rintro e w7 ⟨rfl, hg7⟩
     have hge := leadL_ge (Lm.getD (d + s) [])
     obtain ⟨z, hz⟩ : ∃ z, leadL (Lm.getD (d + s) []) = z := ⟨_, rfl⟩
     rw [hz] at hge ⊢
     have HZZ := Lib.hid hz
     have G7 := Lib.hid (Gr.trans G.out hg7)
     clear hz hg7
     by_cases hz0 : 0 ≤ z
     ·go_wp2
      go_ret2
      exact ⟨_, _, [], rfl, RwsN.nilM _ _, Gr.trans G6.out G7.out, .inr (.inr (.inr ⟨HA0.out, by rw [HRK.out, HK.out], rfl, rfl, fun M hM _ => HJ.out.clash HX6.out.ech HD.out HX6.out.wide (d + s) (by omega) (by rw [HX6.out.len]; omega) (by rw [HZZ.out]; exact hz0) M (by rw [hM, HK.out])⟩))⟩
     ·go_wp2
      refine ⟨⟨s + 1, by omega, by go_num, G7.out, fun t h1 h2 => ?_⟩, by simp [intOf]; omega⟩
      by_cases e : t = d + s
      ·rw [e, HZZ.out]; omega
      ·exact HZ.out t h1 (by omega)
    ·obtain rfl : s = n - d := by omega
     go_wp2_with fail
     refine (mcut_any g d n d m (Lm.take d) _ (Bss.grown HB6.out G.out) HLEN.out (by omega) (by omega) (HX6.out.wide.take d) hk64 hm64 hm1).mono ?_
     rintro e w7 ⟨v7, S, rfl, hb7, hg7, hs7, hi7⟩
     have H7 := Lib.hid (DONE.out _ G.out (fun t h1 h2 => HZ.out t h1 (by omega)) v7 S w7 hb7 hg7 hs7 hi7)
     clear hb7 hg7 hs7 hi7
     go_wp2
     go_ret2
     exact ⟨_, _, S, rfl, H7.out⟩
theorem solve_new : ∀ (f va vb : Value) (A B : List (List Int)) (w : World), IsF w f → Bss w va A → Bss w vb B → A.length ≤ 1000 → B.length = A.length → mayL A = true → mayL B = true → (A ≠ [] → 1 ≤ wd A ∧ 1 ≤ wd B) →
  Calls Tryz.prog 31 #[f, va, vb] w fun e w' => ∃ v n S, e = .returned (.tuple #[v, .int .i64 n]) ∧ RwsN w.heap.size w' v S ∧ Gr w w' ∧ SolSays A B n S :=
 fun f va vb A B w hf ha hb hl hlb hma hmb h1 => by
  by_cases h0 : 0 < A.length
  ·have := h1 (List.length_pos_iff.1 h0)
   exact solve_pos f va vb A B w hf ha hb hl hlb hma hmb h0 this.1 this.2
  ·obtain rfl : A = [] := List.eq_nil_of_length_eq_zero (by omega)
   have hs := ha
   obtain ⟨oa, c, rfl, _, _, _, _⟩ := ha
   exact solve_nil f vb oa c B w hs hb hlb hmb
end Go.Proofs.YtbbglejdfbkjlaaGreat
namespace Go.Proofs.YtbbglejdfbkjlaaGreat
open Go.RowKit
theorem outY_flat {K H S seed : Nat} {M : List (List Int)} : outY K H S seed M = ((List.range K).map fun i : Nat => symP K H S seed M (i : Int)).flatten := by
 unfold outY
 rw [List.flatMap_def]
theorem mul_out {K H S seed : Nat} {M out : List (List Int)} (hm : MayP K H S) (hM : Wide S M) (hl : M.length = K + H) (h : IsMul S ((List.range K).map fun i : Nat => rowP K H S seed (i : Int)) M out) : out = (List.range K).map fun i : Nat => symP K H S seed M (i : Int) := by
 have hK : K ≤ 1000 := by unfold MayP at hm; omega
 refine map_vec_inj h.1 (fun r hr => ?_) ?_
 ·obtain ⟨i, hi, rfl⟩ := List.mem_map.1 hr
  have := sym_is (seed := seed) hm hM hl (may_of_lt hK (List.mem_range.1 hi))
  exact ⟨this.1, this.2.1⟩
 ·rw [h.2]
  unfold L.mulM
  rw [List.map_map, List.map_map, List.map_map]
  refine List.map_congr_left fun i hi => ?_
  exact (sym_is (seed := seed) hm hM hl (may_of_lt hK (List.mem_range.1 hi))).2.2.symm
set_option maxRecDepth 100000 in
set_option maxHeartbeats 3200000 in
theorem source_any (K H S seed : Nat) (vm : Value) (M : List (List Int)) (w : World) (hm : MayP K H S) (hs : seed < 4294967296) (hM : Bss w vm M) (hW : Wide S M) (hl : M.length = K + H) :
  Calls Tryz.prog 38 #[par K H S, .int .u32 (seed : Int), vm] w fun e w' => ∃ u, e = .returned u ∧ New w w' u (outY K H S seed M) := by
 have hb : 1 ≤ K ∧ K ≤ 16 ∧ 1 ≤ H ∧ H ≤ 4 ∧ 1 ≤ S ∧ S ≤ 24 := by unfold MayP at hm; omega
 obtain ⟨hb1, hb2, hb3, hb4, hb5, hb6⟩ := hb
 have HM := Lib.hid hm
 have HSD := Lib.hid hs
 have HMB := Lib.hid hM
 have HMW := Lib.hid hW
 have HML := Lib.hid hl
 obtain ⟨om, cm, rfl, _⟩ := hM
 obtain ⟨n, hn⟩ : ∃ n, M.length = n := ⟨_, rfl⟩
 rw [hn] at HMB ⊢
 have HN := Lib.hid hn
 have hmk : ∀ W, (Instr.makeSlice 65 (.int .i64 (K : Int)) (.int .i64 (K : Int))).run Tryz.prog W = .ok (.slice (some ⟨W.heap.size, 0, none⟩) K K) (W.alloc (.cells (nils K) 25)) := fun W => make24 K K (Nat.le_refl _) (by omega) W
 have P0 : Hid (Par (w.alloc (.cells #[.int .i64 (K : Int), .int .i64 (H : Int), .int .i64 (S : Int)] 23)) w.heap.size K H S) := Lib.hid (heap_alloc_new _ _)
 have HG0 : Hid (Gr w (w.alloc (.cells #[.int .i64 (K : Int), .int .i64 (H : Int), .int .i64 (S : Int)] 23))) := Lib.hid (Gr.alloc (Gr.refl _) _ _)
 clear hm hs hW hl hn
 go_enter Tryz.func38, Tryz.ntmps38
 go_upto_region 1 with fail
 generalize w.alloc (.cells #[.int .i64 (K : Int), .int .i64 (H : Int), .int .i64 (S : Int)] 23) = W0 at *
 generalize hgb : w.heap.size = gb at *
 have HGBE := Lib.hid hgb
 have p0 := P0.out.cell0
 have h0 := Fill.start W0 K (by omega) (fun _ _ => True)
 have R0 : Hid (Rws W0.heap.size (W0.alloc (.cells (nils K) 25)) (.slice (some ⟨W0.heap.size, 0, none⟩) K K) (List.replicate K [])) := Lib.hid ⟨_, by rw [List.length_replicate]; exact h0.own, by rw [List.length_replicate]; exact h0.row⟩
 have P1 := Lib.hid (P0.out.grown h0.gr)
 have G1 := Lib.hid (Gr.trans HG0.out h0.gr)
 have HGP : Hid (gb < W0.heap.size) := Lib.hid (Array.getElem?_eq_some_iff.1 P0.out).1
 clear hgb h0 P0 HG0
 go_wp2_with fail
 clear hmk p0
 generalize W0.alloc (.cells (nils K) 25) = W1 at *
 generalize W0.heap.size = gp at *
 go_loopw [16] (fun iv W => ∃ (i : Nat) (A : List (List Int)), i ≤ K ∧ iv = .int .i64 i ∧ Rws gp W (.slice (some ⟨gp, 0, none⟩) K K) A ∧ A.length = K ∧ Par W gb K H S ∧ Gr w W ∧ ∀ j, j < i → A.getD j [] = rowP K H S seed (j : Int)) (fun iv _ => K - (intOf iv).toNat)
 case atStart => exact ⟨0, _, by omega, rfl, R0.out, by simp, P1.out, G1.out, fun j hj => by omega⟩
 case round =>
  clear R0 P1 G1
  obtain ⟨wo, hwo⟩ : ∃ x, x = wr := ⟨_, rfl⟩
  subst hwo
  obtain ⟨i, A, hi, rfl, hr, hal, hp, hg, hs⟩ := hrel
  have RR := Lib.hid hr
  have AL := Lib.hid hal
  have PP := Lib.hid hp
  have GG := Lib.hid hg
  have HS := Lib.hid hs
  clear hr hal hp hg hs
  by_cases hlt : i < K
  ·have p0 := PP.out.cell0
   have p1 := PP.out.cell1
   have p2 := PP.out.cell2
   go_wp2_with fail
   refine (row_lt K H S seed (i : Int) _ HSD.out).mono ?_
   rintro e w2 ⟨v2, rfl, hn2⟩
   obtain ⟨o2, m2, c2, rfl⟩ := New.form3 hn2
   have N2 := Lib.hid hn2
   have R2 := Lib.hid (RR.out.grown hn2.1)
   have P2 := Lib.hid (PP.out.grown hn2.1)
   have G2 := Lib.hid (Gr.trans GG.out hn2.1)
   obtain ⟨⟨u9, e1⟩, f1, _⟩ := R2.out.store AL.out hlt
   clear hn2 p0 p1 p2
   go_wp2_with fail
   refine ⟨⟨i + 1, _, by omega, by go_num, R2.out.put1 AL.out hlt (New.bs N2.out) (New.rb N2.out _), by rw [List.length_set]; exact AL.out, (Kp.set _ gp i _).block P2.out (by have := HGP.out; omega), Gr.setCell G2.out (by rw [HGBE.out]; have := HGP.out; show gb ≤ gp; omega) _, fun j hj => ?_⟩, by simp [intOf]; omega⟩
   by_cases e : j = i
   ·rw [e, DC.getD_set_selfL (by rw [AL.out]; exact hlt)]
   ·rw [DC.getD_set_neL (fun c => e c.symm)]
    exact HS.out j (by omega)
  ·obtain rfl : i = K := by omega
   have hA : A = (List.range i).map fun j : Nat => rowP i H S seed (j : Int) := by
    apply List.ext_getElem (by simp [AL.out])
    intro j j1 j2
    have := HS.out j (by rw [← AL.out]; exact j1)
    rw [List.getD_eq_getElem?_getD, List.getElem?_eq_getElem j1] at this
    rw [List.getElem_map, List.getElem_range]
    exact this
   have hAW : Wide (i + H) A := fun r hr => by
    rw [hA] at hr
    obtain ⟨j, hj, rfl⟩ := List.mem_map.1 hr
    rw [rowP_in HM.out (may_of_lt (by omega) (List.mem_range.1 hj))]
    exact ⟨onesL_length _ _, onesL_byt _ _⟩
   have BA := Lib.hid RR.out.bss
   have HA := Lib.hid hA
   have HAW := Lib.hid hAW
   have Y1 : Hid (mayL A = true ∧ mayL M = true) := Lib.hid ⟨HAW.out.may (by omega), HMW.out.may (by omega)⟩
   have Y2 : Hid (A = [] ∨ wd A = M.length) := Lib.hid (.inr (by rw [HAW.out.wd (by rw [AL.out]; omega), HML.out]))
   have Y3 : Hid (wd M = S) := Lib.hid (HMW.out.wd (by rw [HML.out]; omega))
   have BM := Lib.hid (Bss.grown HMB.out GG.out)
   clear hA hAW
   go_wp2_with fail
   refine (ok_mul _ _ _ A M _ (.inl rfl) BA.out BM.out (by rw [AL.out]; omega) (by rw [HML.out]; omega) Y1.out.1 Y1.out.2 Y2.out).mono ?_
   rintro e w3 ⟨v3, out, rfl, hb3, hg3, hmul⟩
   rw [Y3.out, HA.out] at hmul
   have ho := mul_out HM.out HMW.out HML.out hmul
   have HB3 := Lib.hid hb3
   have HO := Lib.hid ho
   have G3 := Lib.hid (Gr.trans GG.out hg3)
   obtain ⟨o3, c3, rfl, _⟩ := hb3
   obtain ⟨m3, hm3⟩ : ∃ m, out.length = m := ⟨_, rfl⟩
   rw [hm3] at HB3 ⊢
   have HM3 : Hid (out.length ≤ 1000 ∧ out.flatten.length ≤ 100000) := Lib.hid (by
     have h1 := outY_length (seed := seed) HM.out HMW.out HML.out
     rw [outY_flat, ← ho] at h1
     have h2 : i * S ≤ 16 * 24 := Nat.mul_le_mul (by omega) (by omega)
     refine ⟨by rw [ho]; simp; omega, by omega⟩)
   clear hmul ho hg3 hm3
   go_wp2_with fail
   refine (dconcat_any _ out _ HB3.out HM3.out.1 HM3.out.2).mono ?_
   rintro e w4 ⟨v4, rfl, hn4⟩
   obtain ⟨o4, m4, c4, rfl⟩ := New.form3 hn4
   have N4 := Lib.hid (New.under G3.out hn4)
   clear hn4
   go_wp2_with fail
   go_ret
   refine ⟨_, rfl, ?_⟩
   rw [outY_flat, ← HO.out]
   exact N4.out
end Go.Proofs.YtbbglejdfbkjlaaGreat
