/-
  Law ChunkBack, walked: an object cut in blocks and put together is as it was.
-/
import Derived.Test.YtmbikmlknbinpaaChunkCountsW
import Derived.Deep.DeepCutAuto
namespace Go.Proofs.Ytmbikmlknbinpaa
open Go.RowKit

theorem Bs.none5w {w : World} {m c : Nat} {l : List Int} (h : Bs w (.slice none m c) l) : m = 0 ∧ c = 0 := by
  obtain ⟨h0, oa, c', he, h2, h3, h4, h5⟩ := h
  simp only [Value.slice.injEq] at he
  obtain ⟨rfl, h6, rfl⟩ := he
  have := h4 rfl
  omega
set_option maxRecDepth 100000 in
set_option maxHeartbeats 3200000 in
theorem chunkBack_walk (O : ChunkOk) (a b' c' : Int) (v : Value) (l0 : List Int) (w : World) (h : Bs w v l0) :
    Calls Try.prog 4 #[.int .i64 a, .int .i64 b', .int .i64 c', v] w fun e w' => e = .returned (.bool true) ∧ Gr w w' := by
  have HO := Lib.hid O
  have HB0 := Lib.hid h
  have hmp : MayP (1 + a % 16) (1 + b' % 4) (1 + c' % 24) := by unfold MayP; omega
  obtain ⟨K, hK⟩ : ∃ K, 1 + a % 16 = K := ⟨_, rfl⟩
  obtain ⟨H, hH⟩ : ∃ K, 1 + b' % 4 = K := ⟨_, rfl⟩
  obtain ⟨S, hS⟩ : ∃ K, 1 + c' % 24 = K := ⟨_, rfl⟩
  have HPK : Hid (1 + a % 16 = K ∧ 1 + b' % 4 = H ∧ 1 + c' % 24 = S) := Lib.hid ⟨hK, hH, hS⟩
  rw [hK, hH, hS] at hmp
  have HM := Lib.hid hmp
  obtain ⟨hw1, hw2, hw3⟩ := Ck.wdt_in hmp
  obtain ⟨W, hW⟩ : ∃ W, Ck.wdt K S = W := ⟨_, rfl⟩
  rw [hW] at hw1 hw2 hw3
  have HW := Lib.hid hW
  have HKS := Lib.hid hw3.symm
  have hwr : IntKind.i64.wrap (K * S) = (W : Int) := by rw [HKS.out]; simp [IntKind.wrap, IntKind.bits, IntKind.signed]; omega
  have P0 : Hid (∀ w1 : World, Par (w1.alloc (.cells #[.int .i64 K, .int .i64 H, .int .i64 S] 23)) w1.heap.size K H S) := Lib.hid fun w1 => heap_alloc_new _ _
  obtain ⟨ov, nv, cv, rfl⟩ : ∃ o m c, v = .slice o m c := by
    obtain ⟨o, c, e⟩ := h.form
    exact ⟨o, _, c, e⟩
  clear O h hmp hK hH hS hW hw3
  go_enter Try.func4, Try.ntmps4
  go_wp2_with fail
  refine (cut_any _ l0 600 _ HB0.out (by omega)).mono ?_
  rintro e w' ⟨v1, rfl, hb1, rfl⟩
  obtain ⟨b, hb⟩ : ∃ L, l0.take 600 = L := ⟨_, rfl⟩
  have HBL : Hid (b.length ≤ 600) := Lib.hid (by rw [← hb, List.length_take]; omega)
  rw [hb] at hb1
  obtain ⟨n, hn⟩ : ∃ n, b.length = n := ⟨_, rfl⟩
  have HN := Lib.hid hn
  obtain ⟨o, c, e1⟩ := hb1.form
  rw [hn] at e1
  subst e1
  have B1 := Lib.hid hb1
  have hn6 : n ≤ 600 := by rw [← hn]; exact HBL.out
  clear hb hb1 HB0 hn
  go_wp2_with fail
  refine (params_any a b' c' _).mono ?_
  rw [HPK.out.1, HPK.out.2.1, HPK.out.2.2]
  rintro e w1 ⟨rfl, hg1⟩
  have P1 := Lib.hid (P0.out w1)
  have G1 : Hid (Gr w (w1.alloc (.cells #[.int .i64 K, .int .i64 H, .int .i64 S] 23))) := Lib.hid (Gr.alloc hg1 _ _)
  clear hg1 P0
  go_upto_region 3 with fail
  generalize w1.alloc (.cells #[.int .i64 K, .int .i64 H, .int .i64 S] 23) = W1 at *
  generalize w1.heap.size = gp at *
  have B2 := Lib.hid (B1.out.grown G1.out)
  have c0 := P1.out.cell0
  have c1 := P1.out.cell1
  have c2 := P1.out.cell2
  go_wp2_with fail
  refine (HO.out.split K H S _ b _ (by have := HBL.out; omega) B2.out).mono ?_
  rintro e w2 ⟨u2, rfl, hr2, hg2⟩
  obtain ⟨L, hL⟩ : ∃ L, Ck.blocksP K H S b = L := ⟨_, rfl⟩
  have HLB : Hid (L = Ck.blocks W b) := Lib.hid (by rw [← hL]; unfold Ck.blocksP; rw [if_pos HM.out, HW.out])
  have HJB : Hid (Ck.JoinOk K H S L b.length ∧ Ck.joinP K H S L b.length = b) := Lib.hid (by rw [← hL]; exact Ck.join_blocks HM.out)
  rw [hL] at hr2
  obtain ⟨q, hq⟩ : ∃ q, L.length = q := ⟨_, rfl⟩
  have HQ := Lib.hid hq
  have HQC : Hid (Ck.countP K H S (n : Int) = (q : Int)) := Lib.hid (by
    unfold Ck.countP
    rw [if_pos ⟨HM.out, by omega⟩, HW.out, Int.toNat_natCast, ← hq, HLB.out, Ck.blocks_length, HN.out])
  obtain ⟨o2, cc2, e2⟩ := hr2.form5
  rw [hq] at e2
  subst e2
  have hq6 : q ≤ 600 := by
    rw [← hq, HLB.out, Ck.blocks_length]
    exact Nat.le_trans (Ck.cnt_le hw1) HBL.out
  have HR2 := Lib.hid hr2.bss
  have P2 := Lib.hid (P1.out.grown hg2)
  have G2 := Lib.hid (Gr.trans G1.out hg2)
  have B3 := Lib.hid (B2.out.grown hg2)
  clear hr2 hg2 hL hq P1 G1 B1 B2 c0 c1 c2
  have c0 := P2.out.cell0
  have c1 := P2.out.cell1
  have c2 := P2.out.cell2
  have hqq : ((q : Int) != (q : Int)) = false := by simp
  go_wp2_with fail
  refine (HO.out.count K H S n _ ⟨by omega, by omega⟩).mono ?_
  rw [HQC.out]
  rintro e w3 ⟨rfl, hg3⟩
  have P3 := Lib.hid (P2.out.grown hg3)
  have G3 := Lib.hid (Gr.trans G2.out hg3)
  have B4 := Lib.hid (B3.out.grown hg3)
  have HR3 := Lib.hid (HR2.out.grown hg3)
  have HWI : Hid (∀ x ∈ L, x.length = W) := Lib.hid (by rw [HLB.out]; exact Ck.blocks_wide)
  clear hg3 P2 G2 B3 HR2 c0 c1 c2
  go_wp2_with fail
  go_loopw [11, 35] (fun av iv X => ∃ (i : Nat) (oo : Option Addr) (co : Nat), i ≤ q ∧ iv = .int .i64 i ∧ av = .slice oo (i * W) co ∧ X.ownsRow w3.heap.size 5 1 (.slice oo (i * W) co) (i * W) ((L.take i).flatten.map (Value.int .u8)) ∧ Gr w3 X) (fun _ iv _ => q - (intOf iv).toNat)
  case atStart => exact ⟨0, none, 0, by omega, rfl, by rw [Nat.zero_mul], by rw [Nat.zero_mul]; exact World.ownsRow_nil _ _ _ _, Gr.refl _⟩
  case round =>
    obtain ⟨wi, hwi⟩ : ∃ x, x = wr := ⟨_, rfl⟩
    subst hwi
    obtain ⟨i, oo, co, hi, rfl, rfl, ho, hg⟩ := hrel
    obtain ⟨iw, hiw⟩ : ∃ iw, i * W = iw := ⟨_, rfl⟩
    have HIW := Lib.hid hiw
    rw [hiw] at ho ⊢
    have HOW := Lib.hid ho
    have HG := Lib.hid hg
    have PP := Lib.hid (P3.out.grown hg)
    clear ho hg hiw
    by_cases hlt : i < q
    · have k0 := PP.out.cell0
      have k2 := PP.out.cell2
      obtain ⟨ad, c3, he, hrow⟩ : ∃ a c', (.slice o2 q cc2 : Value) = .slice (some a) q c' ∧ ∃ u, w3.cell? (a.add i) = some u ∧ Bs w3 u (L.getD i []) := by
        obtain ⟨oa, c', he, h2, h3, h4, h5⟩ := HR3.out
        simp only [Value.slice.injEq] at he
        obtain ⟨rfl, -, rfl⟩ := he
        cases o2 with
        | none => have := h4 rfl; rw [HQ.out] at h2; omega
        | some a => exact ⟨a, cc2, rfl, h5 a rfl i (by rw [HQ.out]; exact hlt)⟩
      simp only [Value.slice.injEq] at he
      obtain ⟨rfl, -, rfl⟩ := he
      obtain ⟨u, hcu, hbu⟩ := hrow
      obtain ⟨oi, ci, rfl⟩ := hbu.form
      have HME : Hid (L.getD i [] ∈ L) := Lib.hid (by
        rw [List.getD_eq_getElem?_getD, List.getElem?_eq_getElem (by rw [HQ.out]; exact hlt)]
        exact List.getElem_mem _)
      have hrw : (L.getD i []).length = W := HWI.out _ HME.out
      rw [hrw] at hcu hbu
      have q1 := cell_grown HG.out hcu
      have HBU := Lib.hid (hbu.grown HG.out)
      have HTS : Hid (L.take (i + 1) = L.take i ++ [L.getD i []]) := Lib.hid (by
        rw [List.take_add_one, List.getD_eq_getElem?_getD, List.getElem?_eq_getElem (by rw [HQ.out]; exact hlt)]
        rfl)
      have hWW : ((W : Int) != (W : Int)) = false := by simp
      have hiwb : iw + W ≤ 300000 := by
        have h1 : i * W ≤ 600 * 384 := Nat.mul_le_mul (by omega) hw2
        have := HIW.out
        omega
      clear hcu hbu hrw
      go_wp2_with fail
      go_quiet (fail)
      obtain ⟨wd, hwd⟩ : ∃ x, x = wi.drewN nq := ⟨_, rfl⟩
      have OD : Hid (wd.ownsRow w3.heap.size 5 1 (.slice oo iw co) iw ((L.take i).flatten.map (Value.int .u8))) := Lib.hid (by rw [hwd]; exact HOW.out)
      have BD : Hid (Bs wd (.slice oi W ci) (L.getD i [])) := Lib.hid (by rw [hwd]; exact HBU.out)
      have GD : Hid (Gr w3 wd) := Lib.hid (by rw [hwd]; exact HG.out)
      have q2 : wd.cell? (ad.add i) = some (.slice oi W ci) := by rw [hwd]; exact q1
      rw [← hwd]
      clear hwd HOW HBU HG PP q1 k0 k2
      go_wp2_with (at_builtin; refine wpList_append_bytes rfl _ _ rfl w3.heap.size (.slice oo iw co) iw (L.take i).flatten rfl OD.out oi W ci (L.getD i []) rfl BD.out (by omega) GD.out.size ?_; intro v6 w6 ho6 hg6; obtain ⟨o6, c6, rfl⟩ := ownsRow_form ho6; have O6 := Lib.hid ho6; have G6 : Hid (Gr w3 w6) := Lib.hid (Gr.append GD.out hg6 (ownsRow_base OD.out)); clear ho6 hg6)
      have hri : (i + 1) * W = iw + W := by
        rw [Nat.add_mul, Nat.one_mul, HIW.out]
      refine ⟨⟨i + 1, o6, c6, by omega, by go_num, by rw [hri], ?_, G6.out⟩, by simp [intOf]; omega⟩
      rw [HTS.out, List.flatten_append, List.flatten_singleton, hri]
      exact O6.out
    · obtain rfl : i = q := by omega
      have hall : L.take i = L := List.take_of_length_le (by rw [HQ.out]; exact Nat.le_refl _)
      rw [hall] at HOW
      obtain ⟨z, hz⟩ : ∃ z, iw - n = z := ⟨_, rfl⟩
      have hcn := Ck.cnt_pos (n := n) hw1
      have hci : Ck.cnt W n = i := by
        have := HQ.out
        rw [HLB.out, Ck.blocks_length, HN.out] at this
        exact this
      rw [hci, HIW.out] at hcn
      have hiz : iw = n + z := by omega
      have hzW : z < W := by omega
      have HFL : Hid (L.flatten = b ++ List.replicate z 0) := Lib.hid (by
        rw [HLB.out, Ck.flat_blocks hw1, HN.out, hci, HIW.out, hz])
      have HAB : Hid (New w3 wi (.slice oo iw co) (b ++ List.replicate z 0)) := Lib.hid (by
        have h := HOW.out
        rw [HFL.out] at h
        refine New.of_row HG.out (fun x hx => ?_) ?_
        · rcases List.mem_append.1 hx with h1 | h1
          · exact B4.out.1 x h1
          · obtain ⟨_, rfl⟩ := List.mem_replicate.1 h1
            exact ⟨by decide, by decide⟩
        · rw [List.length_append, List.length_replicate, HN.out, ← hiz]
          exact h)
      subst hiz
      have HBA := Lib.hid (New.bs HAB.out)
      have hcap : n + z ≤ co := by
        obtain ⟨_, oa', c', he, h2, _⟩ := HBA.out
        simp only [Value.slice.injEq] at he
        obtain ⟨_, h6, rfl⟩ := he
        omega
      have k0 := PP.out.cell0
      have k1 := PP.out.cell1
      have k2 := PP.out.cell2
      clear hall HOW hz hcn hci
      have d1 : decide (((n : Int) + (z : Int)) < (n : Int)) = false := decide_eq_false (by omega)
      have d2 : ((n : Int) + (z : Int)) - (n : Int) = (z : Int) := by omega
      have d3 : (decide ((W : Int) ≤ (z : Int))) = false := decide_eq_false (by omega)
      go_upto_region 16 with fail
      go_cut [77, 78, 79] (fun s77 s78 s79 wx => wi = wx ∧ s78 = .int .i64 (z : Int) ∧ s79 = .int .i64 0 ∧ ∃ od cd, s77 = .slice od z cd ∧ Bs wi (.slice od z cd) (List.replicate z 0))
      case first =>
        have hfr := Bs.from5 HBA.out n (by rw [List.length_append, List.length_replicate, HN.out]; omega) _ _ _ rfl
        rw [List.drop_left' HN.out, show n + z - n = z from by omega] at hfr
        have HFR := Lib.hid hfr
        clear hfr
        cases oo with
        | none =>
          have h0 := HBA.out.none5w
          obtain ⟨rfl, rfl, rfl⟩ : n = 0 ∧ z = 0 ∧ co = 0 := by omega
          go_wp2_with fail
          go_meet
          exact ⟨rfl, rfl, rfl, none, 0, rfl, HFR.out⟩
        | some ad =>
          by_cases hcn : co = n
          · obtain rfl : z = 0 := by omega
            subst hcn
            go_wp2_with fail
            go_meet
            exact ⟨rfl, rfl, rfl, some ad, 0, rfl, (fun x hx => by cases hx), some ad, 0, rfl, Nat.le_refl _, by omega, (fun e => by cases e), fun a ha i hi => by simp at hi⟩
          · rw [if_neg hcn] at HFR
            go_wp2_with fail
            go_meet
            exact ⟨rfl, rfl, rfl, _, _, rfl, HFR.out⟩
      case rest =>
        obtain ⟨rfl, rfl, rfl, od, cd, rfl, hbz⟩ := hcut
        have HBZ := Lib.hid hbz
        clear hbz
        go_wp2_with fail
        go_loopw [79] (fun tv X => ∃ t : Nat, t ≤ z ∧ tv = .int .i64 t ∧ wi = X) (fun tv _ => z - (intOf tv).toNat)
        case atStart => exact ⟨0, by omega, rfl, rfl⟩
        case round =>
          obtain ⟨t, ht, rfl, rfl⟩ := hrel
          by_cases htz : t < z
          · obtain ⟨ad, c9, he9, _, _, hcell⟩ := Bs.at HBZ.out (by rw [List.length_replicate]; omega)
            simp only [Value.slice.injEq] at he9
            obtain ⟨rfl, -, rfl⟩ := he9
            have q9 := hcell t (by rw [List.length_replicate]; exact htz)
            rw [List.getD_eq_getElem?_getD, List.getElem?_replicate, if_pos htz, Option.getD_some] at q9
            clear hcell
            go_wp2_with fail
            exact ⟨⟨t + 1, by omega, by go_num, trivial⟩, by simp [intOf]; omega⟩
          · obtain rfl : t = z := by omega
            have HRI := Lib.hid (HR3.out.grown HG.out)
            have BDI := Lib.hid (B4.out.grown HG.out)
            have k0 := PP.out.cell0
            have k1 := PP.out.cell1
            have k2 := PP.out.cell2
            go_wp2_with fail
            refine (HO.out.join K H S _ L n _ ⟨by omega, by omega⟩ (by rw [HQ.out]; omega) (fun x hx => by rw [HWI.out x hx]; omega) HRI.out).mono ?_
            rw [← HN.out, HJB.out.2, decide_eq_true HJB.out.1, HN.out]
            rintro e w7 ⟨u7, rfl, hn7⟩
            obtain ⟨o7, c7, e7⟩ := (New.bs hn7).form
            rw [HN.out] at e7
            subst e7
            have X7 := Lib.hid (New.bs hn7)
            have B7 := Lib.hid (BDI.out.grown hn7.1)
            have A7 := Lib.hid (HBA.out.grown hn7.1)
            have G7 := Lib.hid (Gr.trans G3.out (Gr.trans HG.out hn7.1))
            clear hn7
            go_wp2_with fail
            refine (same_any _ _ b b _ X7.out B7.out).mono ?_
            rw [beq_self_eq_true]
            rintro e w8 ⟨rfl, hg8⟩
            have A8 : Hid (Bs w8 (.slice oo n co) b) := Lib.hid (by
              have h := A7.out.grown hg8
              obtain ⟨h0, oa, c', he, h2, h3, h4, h5⟩ := h
              simp only [Value.slice.injEq] at he
              obtain ⟨rfl, h6, rfl⟩ := he
              refine ⟨fun x hx => h0 x (by simp [hx]), _, _, by rw [HN.out], by rw [HN.out]; omega, h3, h4, fun ad ha k hk => ?_⟩
              rw [h5 ad ha k (by rw [List.length_append]; omega), List.getD_eq_getElem?_getD, List.getD_eq_getElem?_getD, List.getElem?_append_left hk])
            have B8 := Lib.hid (B7.out.grown hg8)
            have G8 := Lib.hid (Gr.trans G7.out hg8)
            have hnc : (n : Int) ≤ (co : Int) := by omega
            clear hg8 A7 B7 G7
            go_wp2_with fail
            refine (same_any _ _ b b _ A8.out B8.out).mono ?_
            rw [beq_self_eq_true]
            rintro e w9 ⟨rfl, hg9⟩
            have G9 := Lib.hid (Gr.trans G8.out hg9)
            clear hg9
            go_wp2_with fail
            refine (chunkWakes_any HO.out _).mono ?_
            rintro e w10 ⟨rfl, hg10⟩
            have G10 := Lib.hid (Gr.trans G9.out hg10)
            clear hg10
            go_wp2_with fail
            go_ret
            exact ⟨rfl, G10.out⟩
end Go.Proofs.Ytmbikmlknbinpaa
