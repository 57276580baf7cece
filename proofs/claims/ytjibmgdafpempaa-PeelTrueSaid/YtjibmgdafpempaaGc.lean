/-
  Package peel as it was written: round by round, by a goto back, till no equation has one column alone that is not known.
-/
import Derived.Test.YtjibmgdafpempaaGb
namespace Go.Proofs.Ytjibmgdafpempaa
open Go.RowKit

/-- A scope in which the run jumps back to one label, at which it also arrives by itself. -/
theorem wp_scope_back {P : Program} {a : Act} {w : World} {Q : Exit → Act → World → Prop} {c R : Code} (l : Nat) (J : Act → World → Prop) (μ : Act → World → Nat) (hf : findLabel c l = some (.seq .skip R))
    (pass : ∀ a w, J a w → R.wp P (Exit.jump l (fun a' w' => J a' w' ∧ μ a' w' < μ a w) Q) a w)
    (first : (∀ a w, J a w → R.wp P (Exit.jump l J Q) a w) → c.wp P (Exit.jump l J Q) a w) : (Code.scope c).wp P Q a w := by
  refine wp_scope_jumps l J μ hf (first fun a w h => wp_mono (pass a w h) fun e a' w' hq => ?_) fun a w h => wp_seq (wp_skip (pass a w h))
  cases e
  case goto l' => exact ⟨hq.1, hq.2.1⟩
  all_goals exact hq
theorem EqVal.any {w : World} {uc ud : Value} {q : Eqn} (h : EqVal 0 w uc ud q) (base : Nat) : EqVal base w uc ud q :=
  ⟨h.1, fun a n c e h0 => (h.2.1 a n c e h0).elim (fun hlt => absurd hlt (Nat.not_lt_zero _)) .inr, h.2.2.1, fun a n c e h0 => (h.2.2.2 a n c e h0).elim (fun hlt => absurd hlt (Nat.not_lt_zero _)) .inr⟩
/-- How many are not known, read off the frame. -/
noncomputable def unkA (N : Nat) (a : Act) (w : World) : Nat := match a.tmps.getD 4 undef with
  | .slice (some ad) _ _ => unkW w ad.block N
  | _ => 0
/-- What holds whenever the run comes to the label. -/
def SJ (w0 : World) (N S : Nat) (L : List Eqn) (vl : Value) (a : Act) (w : World) : Prop :=
  ∃ (gk gv : Nat) (kn : List Bool) (vs : List (List Int)) (us : List Value) (u2 u3 u6 u7 u8 u9 u10 u11 u12 u13 u14 u15 u16 u17 u18 u19 u20 u21 u22 u23 u24 u25 u26 u27 u28 u29 u30 u31 u32 u33 u34 u35 u36 u37 u38 u39 u40 : Value),
    KV w0 w gk gv N kn vs us ∧ PeelInv N S (L.map toE) kn vs ∧
    a = { tmps := #[.int .i64 N, vl, u2, u3, .slice (some ⟨gk, 0, none⟩) N N, .slice (some ⟨gv, 0, none⟩) N N, u6, u7, u8, u9, u10, u11, u12, u13, u14, u15, u16, u17, u18, u19, u20, u21, u22, u23, u24, u25, u26, u27, u28, u29, u30, u31, u32, u33, u34, u35, u36, u37, u38, u39, u40], defers := [] }
theorem oneL_one {kn : List Bool} {c : List Int} {x : Int} (h : openL kn c = [x]) : oneL kn c = x := by
  unfold oneL
  rw [h]
theorem oneL_none {kn : List Bool} {c : List Int} (h : (openL kn c).length ≠ 1) : oneL kn c = -1 := by
  unfold oneL
  split
  · rename_i x hx
    rw [hx] at h
    exact absurd rfl h
  · rfl
set_option maxRecDepth 100000 in
set_option maxHeartbeats 3200000 in
theorem solved_any (N : Nat) (v : Value) (L : List Eqn) (w : World) (h : Eqs w v L) (hl : L.length ≤ 1000) (hc : ∀ q ∈ L, q.c.length ≤ 1000 ∧ q.d.length ≤ 1000) (hm : MayEqs N L) :
    Calls Try.prog 22 #[.int .i64 N, v] w fun e w' => ∃ gk gv kn vs us, e = .returned (.tuple #[.slice (some ⟨gk, 0, none⟩) N N, .slice (some ⟨gv, 0, none⟩) N N]) ∧ KV w w' gk gv N kn vs us ∧ PeelInv N (dlen L) (L.map toE) kn vs ∧ ∀ q ∈ L, (openL kn q.c).length ≠ 1 := by
  have HE := Lib.hid h
  have HCL := Lib.hid hc
  have HBY := Lib.hid h.byt
  have HMY := Lib.hid hm
  have hn2 : N ≤ 64 := by have := hm.2.1; omega
  obtain ⟨oa, ca, rfl⟩ := h.form
  obtain ⟨m, hmm⟩ : ∃ m, L.length = m := ⟨_, rfl⟩
  rw [hmm] at HE hl ⊢
  have HM := Lib.hid hmm
  clear h hc hmm hm
  have hfd : ∀ (x y : Value) (W : World), (Instr.field 27 (.agg #[x, y]) 1).run Try.prog W = .ok y W := fun _ _ _ => rfl
  have hmT := makeT N (by omega)
  have hmV := fun W => make24 N N (by omega) (by omega) W
  go_enter Try.func22, Try.ntmps22
  go_wp2_with fail
  refine wp_scope_back 0 (SJ w N (dlen L) L (.slice oa m ca)) (unkA N) rfl ?_ ?_
  rotate_left
  · intro hp
    have HP := Lib.hid hp
    clear hp
    go_wp2_with fail
    go_region
    all_goals
      go_wp2_with fail
      go_step3
      rename_i hk
      refine hk _ _ (HP.out _ _ ?_)
      first
        | exact ⟨_, _, _, _, _, _, _, _, _, _, _, _, _, _, _, _, _, _, _, _, _, _, _, _, _, _, _, _, _, _, _, _, _, _, _, _, _, _, _, _, _, _, (KV.start N (by omega) (Gr.refl _)).grow (Gr.drew (Gr.refl _)), PeelInv.start _ _ _, rfl⟩
        | exact ⟨_, _, _, _, _, _, _, _, _, _, _, _, _, _, _, _, _, _, _, _, _, _, _, _, _, _, _, _, _, _, _, _, _, _, _, _, _, _, _, _, _, _, (KV.start' N (by omega) (Gr.refl _)).grow (Gr.drew (Gr.refl _)), PeelInv.start _ _ _, rfl⟩
  · rintro a' w' ⟨gk, gv, kn, vs, us, u2, u3, u6, u7, u8, u9, u10, u11, u12, u13, u14, u15, u16, u17, u18, u19, u20, u21, u22, u23, u24, u25, u26, u27, u28, u29, u30, u31, u32, u33, u34, u35, u36, u37, u38, u39, u40, hkv, hin, rfl⟩
    have hmu : unkA N { tmps := #[.int .i64 N, .slice oa m ca, u2, u3, .slice (some ⟨gk, 0, none⟩) N N, .slice (some ⟨gv, 0, none⟩) N N, u6, u7, u8, u9, u10, u11, u12, u13, u14, u15, u16, u17, u18, u19, u20, u21, u22, u23, u24, u25, u26, u27, u28, u29, u30, u31, u32, u33, u34, u35, u36, u37, u38, u39, u40], defers := [] } w' = unk kn N := hkv.unkW
    rw [hmu]
    have HKV := Lib.hid hkv
    have HIN := Lib.hid hin
    clear hkv hin hmu hmT hmV
    go_wp2_with fail
    go_loopw [6, 16] (fun av iv W => ∃ i : Nat, i ≤ m ∧ iv = .int .i64 i ∧ ∃ bg kn' vs' us', av = .bool bg ∧ KV w W gk gv N kn' vs' us' ∧ PeelInv N (dlen L) (L.map toE) kn' vs' ∧ (bg = false → kn' = kn ∧ ∀ j, j < i → (openL kn (L.getD j noE).c).length ≠ 1) ∧ (bg = true → unk kn' N < unk kn N)) (fun _ iv _ => m - (intOf iv).toNat)
    case atStart => exact ⟨0, by omega, rfl, false, kn, vs, us, rfl, HKV.out, HIN.out, fun _ => ⟨rfl, by omega⟩, fun e => by cases e⟩
    case round =>
      obtain ⟨wo, hwo⟩ : ∃ x, x = wr := ⟨_, rfl⟩
      subst hwo
      obtain ⟨i, hi, rfl, bg, kn', vs', us', rfl, hkv, hin, hf, ht⟩ := hrel
      have HKO := Lib.hid hkv
      have HIO := Lib.hid hin
      have HF := Lib.hid hf
      have HT := Lib.hid ht
      clear hkv hin hf ht
      by_cases hlt : i < m
      · obtain ⟨b, o, rfl, _⟩ := HE.out.lay (by omega)
        obtain ⟨oc, nc, cc, od, nd, cd, q1, q2, zc, zd⟩ := (HE.out.grown HKO.out.gr).at hlt
        have hqm := getD_memE (L := L) (i := i) (by rw [HM.out]; exact hlt)
        have hcl := HCL.out _ hqm
        have hmr := HMY.out.2.2 _ hqm
        have HQM := Lib.hid hqm
        have HQL := Lib.hid hcl
        have HMR := Lib.hid hmr
        have ZC := Lib.hid zc
        have ZD := Lib.hid zd
        clear zc zd hqm hcl hmr
        obtain ⟨qe, hqe⟩ : ∃ q, L.getD i noE = q := ⟨_, rfl⟩
        rw [hqe] at HQM HQL HMR ZC ZD
        have HQE := Lib.hid hqe
        clear hqe
        go_upto_region 6 with fail
        have hga : Gr wo (wo.alloc (.cells #[.slice oc nc cc, .slice od nd cd] 27)) := Gr.alloc (Gr.refl _) _ _
        have c0 : (wo.alloc (.cells #[.slice oc nc cc, .slice od nd cd] 27)).cell? ⟨wo.heap.size, 0, none⟩ = some (.slice oc nc cc) := by rw [cell_of_row _ _ 0 _ _ _ (heap_alloc_new _ _)]; rfl
        have c1 : (wo.alloc (.cells #[.slice oc nc cc, .slice od nd cd] 27)).cell? ⟨wo.heap.size, 1, none⟩ = some (.slice od nd cd) := by rw [cell_of_row _ _ 1 _ _ _ (heap_alloc_new _ _)]; rfl
        have HK1 := Lib.hid (HKO.out.grow hga)
        have Z1 := Lib.hid (ZC.out.grown hga)
        have D1 := Lib.hid (ZD.out.grown hga)
        clear hga q1 q2 ZC ZD HKO
        generalize wo.alloc (.cells #[.slice oc nc cc, .slice od nd cd] 27) = W1 at *
        generalize wo.heap.size = gq at *
        go_wp2_with fail
        refine (alone_any _ _ qe.c kn' _ Z1.out (HK1.out.bl (by omega)) (by rw [HIO.out.len]; exact HMR.out.1.1) HQL.out.1 (by rw [HIO.out.len]; omega)).mono ?_
        rintro e w2 ⟨rfl, rfl⟩
        by_cases h1 : (openL kn' qe.c).length = 1
        · obtain ⟨y, hy⟩ : ∃ y, openL kn' qe.c = [y] := List.length_eq_one_iff.1 h1
          rw [oneL_one hy]
          have hyc := (openL_mem.1 (show y ∈ openL kn' qe.c by rw [hy]; simp)).1
          have hyr := HMR.out.1.1 y hyc
          obtain ⟨x, rfl⟩ : ∃ x : Nat, y = (x : Int) := ⟨y.toNat, by omega⟩
          have hxN : x < N := by omega
          have hko := (openL_mem.1 (show (x : Int) ∈ openL kn' qe.c by rw [hy]; simp)).2
          rw [Int.toNat_natCast] at hko
          have hstep := PeelInv.step (fun q hq => ⟨(HMY.out.2.2 q hq).1, (HMY.out.2.2 q hq).2, HBY.out q hq⟩) HIO.out HQM.out hy
          have HST := Lib.hid hstep
          have HKO := Lib.hid hko
          clear h1 hy hyc hyr hko hstep
          have hx0 : (0 : Int) ≤ (x : Int) := by omega
          go_upto_region 8 with fail
          go_wp2_with (first
            | (go_at_call 31; refine (reduced_any _ _ _ _ qe.c qe.d kn' vs' (dlen L) _ Z1.out D1.out (HK1.out.bl (by omega)) HK1.out.bss (by rw [HIO.out.len]; exact HMR.out.1.1) HQL.out.1 (by rw [HIO.out.len]; omega) HMR.out.2 (by have := HQL.out.2; have := HMR.out.2; omega) HIO.out.val).mono ?_; rintro e w3 ⟨uc, ud, rfl, hev, hg3⟩; obtain ⟨od3, nd3, cd3, rfl⟩ := hev.2.2.1.form4; obtain ⟨oc3, cc3, rfl⟩ := hev.1.form; have K1 := Lib.hid (HK1.out.grow hg3); have k1 := K1.out.cellV x hxN; have k2 := K1.out.frozenV x; have K2 := Lib.hid (K1.out.putV hxN hev.2.2.1 (hev.any w.heap.size).2.2.2); have k3 := K2.out.cellK x hxN; have k4 := K2.out.k.frozen x; clear hev hg3))
          have hlt2 : unk (kn'.set x true) N < unk kn N := by
            have h1 := unk_set HIO.out.len hxN HKO.out
            cases bg with
            | false => rw [(HF.out rfl).1] at h1 ⊢; exact h1
            | true => have := HT.out rfl; omega
          have HLT := Lib.hid hlt2
          have K3 := Lib.hid (K2.out.putK x true)
          clear hlt2 k1 k2 k3 k4 c0 c1
          exact ⟨⟨i + 1, by omega, by go_num, true, _, _, _, rfl, K3.out, HST.out, fun e => (by cases e), fun _ => HLT.out⟩, by simp [intOf]; omega⟩
        · rw [oneL_none h1]
          go_wp2_with fail
          refine ⟨⟨i + 1, by omega, by go_num, bg, kn', vs', us', rfl, HK1.out, HIO.out, fun e => ?_, HT.out⟩, by simp [intOf]; omega⟩
          obtain ⟨h2, h3⟩ := HF.out e
          refine ⟨h2, fun j hj => ?_⟩
          by_cases ej : j = i
          · rw [ej, HQE.out, ← h2]
            exact h1
          · exact h3 j (by omega)
      · obtain rfl : m = i := by omega
        cases bg with
        | true =>
          go_wp2_with fail
          go_step3
          refine ⟨rfl, ⟨_, _, _, _, _, _, _, _, _, _, _, _, _, _, _, _, _, _, _, _, _, _, _, _, _, _, _, _, _, _, _, _, _, _, _, _, _, _, _, _, _, _, HKO.out, HIO.out, rfl⟩, ?_⟩
          exact Nat.lt_of_le_of_lt (Nat.le_of_eq HKO.out.unkW) (HT.out trivial)
        | false =>
          go_wp2_with fail
          simp only [Exit.jump]
          go_ret2
          refine ⟨_, _, _, _, _, rfl, HKO.out, HIO.out, fun q hq => ?_⟩
          obtain ⟨h2, h3⟩ := HF.out trivial
          obtain ⟨j, hj, rfl⟩ := List.getElem_of_mem hq
          have := h3 j (by rw [HM.out] at hj; exact hj)
          rw [List.getD_eq_getElem?_getD, List.getElem?_eq_getElem hj] at this
          rw [h2]
          exact this
end Go.Proofs.Ytjibmgdafpempaa
