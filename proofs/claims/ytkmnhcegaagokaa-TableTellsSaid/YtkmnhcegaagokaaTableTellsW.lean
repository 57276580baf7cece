/-
  Law TableTells, walked: the table, the degree, and what is drawn are the document's own.
-/
import Derived.Test.YtkmnhcegaagokaaTl
import Derived.Deep.DeepCutAuto
namespace Go.Proofs.Ytkmnhcegaagokaa
open Go.RowKit

theorem tab_length_le (l : Int) : (T.tab l).length ≤ 64 := by
  by_cases h : 1 ≤ l ∧ l ≤ 64
  · obtain ⟨N, rfl⟩ : ∃ N : Nat, l = N := ⟨l.toNat, by omega⟩
    rw [T.tab_in (by omega) (by omega), T.tabZ_length]
    omega
  · rw [T.tab_out h]
    simp
theorem drawS_lt {t : List Int} {s : Nat} (h : s < 18446744073709551616) : drawS t s < 18446744073709551616 := by
  unfold drawS
  split
  · exact h
  · exact belowS_lt h _
theorem Blz.kept {F : Nat → Prop} {w w' : World} {g : Nat} {L : List Int} (h : Blz w g L) (hk : Kp F w w') (hn : ¬ F g) : Blz w' g L := hk.block h hn
set_option maxRecDepth 100000 in
set_option maxHeartbeats 3200000 in
theorem tableTells_walk {At : World → Value → (Nat → Prop) → Nat → Prop} (D : DrawOk At) (O : SolOk At) (l x sd n : Int) (w : World) (hl : I64 l) (hx : I64 x) (_ : 0 ≤ sd) (_ : sd < 18446744073709551616) :
    Calls Try.prog 3 #[.int .i64 l, .int .i64 x, .int .u64 sd, .int .i64 n] w fun e w' => e = .returned (.bool true) ∧ Gr w w' := by
  have H := Lib.hid O
  have HD := Lib.hid D
  have HLI := Lib.hid hl
  have HXI := Lib.hid hx
  clear O D hl hx
  obtain ⟨pw, hp, hp2⟩ : ∃ p : Nat, l % 64 = p ∧ p < 64 := ⟨(l % 64).toNat, by omega, by omega⟩
  obtain ⟨q, hq, hq2⟩ : ∃ q : Nat, n % 30 = q ∧ q < 30 := ⟨(n % 30).toNat, by omega, by omega⟩
  obtain ⟨s0, hs0, hs1⟩ : ∃ s : Nat, sd % 4294967296 = s ∧ s < 4294967296 := ⟨(sd % 4294967296).toNat, by omega, by omega⟩
  have HP := Lib.hid hp
  have HQ := Lib.hid hq
  clear hp hq
  go_enter Try.func3, Try.ntmps3
  go_wp2_with fail
  refine (within_any l 64 (by omega) (by omega) _).mono ?_
  rintro e w' ⟨rfl, rfl⟩
  rw [HP.out]
  obtain ⟨N, hN, hN1, hN2⟩ : ∃ N : Nat, (1 : Int) + pw = N ∧ 1 ≤ N ∧ N ≤ 64 := ⟨1 + pw, by omega, by omega, by omega⟩
  have HNI : Hid (I64 (N : Int)) := Lib.hid (i64_tab ⟨by omega, by omega⟩)
  go_wp2
  have G1 : Hid (Gr w (w.alloc (.cells #[.int .i64 l, .int .i64 (N : Int)] 3))) := Lib.hid (Gr.alloc (Gr.refl _) _ _)
  have HCELL : Hid (∀ t : Nat, t < 2 → ∃ kv, (w.alloc (.cells #[.int .i64 l, .int .i64 (N : Int)] 3)).cell? ⟨w.heap.size, t, none⟩ = some (.int .i64 kv) ∧ I64 kv) := Lib.hid (fun t ht => by
    rw [cell_of_row _ _ t _ _ _ (heap_alloc_new _ _)]
    have : t = 0 ∨ t = 1 := by omega
    rcases this with rfl | rfl
    · exact ⟨l, rfl, HLI.out⟩
    · exact ⟨N, rfl, HNI.out⟩)
  clear hN
  generalize hW0 : w.alloc (.cells #[.int .i64 l, .int .i64 (N : Int)] 3) = W0 at *
  generalize hg0 : w.heap.size = g0 at *
  go_loopw [23] (fun i wr => ∃ t : Nat, t ≤ 2 ∧ i = .int .i64 t ∧ Gr W0 wr) (fun i _ => 2 - (intOf i).toNat)
  case atStart => exact ⟨0, by omega, rfl, Gr.refl _⟩
  case round =>
    obtain ⟨wo, hwo⟩ : ∃ x, x = wr := ⟨_, rfl⟩
    subst hwo
    obtain ⟨t, ht, rfl, hg⟩ := hrel
    have HG := Lib.hid hg
    clear hg
    by_cases hlt : t < 2
    · obtain ⟨kv, q0, hkv⟩ := HCELL.out t hlt
      have q1 := cell_gr HG.out q0
      have HKV := Lib.hid hkv
      have htl := tab_length_le kv
      clear q0 hkv
      go_wp2_with fail
      refine (H.out.table kv _ HKV.out).mono ?_
      rintro e w1 ⟨v1, rfl, hz1, hg1⟩
      obtain ⟨o1, c1, rfl⟩ := hz1.form
      have Z1 := Lib.hid hz1
      have G2 := Lib.hid (Gr.trans HG.out hg1)
      clear hz1 hg1 q1
      go_wp2_with fail
      refine (refTable_any kv _).mono ?_
      rintro e w2 ⟨v2, rfl, hz2, hg2⟩
      obtain ⟨o2, c2, rfl⟩ := hz2.form
      have Z2 := Lib.hid hz2
      have Z1' := Lib.hid (Z1.out.grown hg2)
      have G3 := Lib.hid (Gr.trans G2.out hg2)
      clear hz2 hg2 Z1 G2
      obtain ⟨m, hm⟩ : ∃ m, (T.tab kv).length = m := ⟨_, rfl⟩
      rw [hm] at Z1' Z2 htl ⊢
      have HM := Lib.hid hm
      clear hm
      go_wp2_with fail
      refine (sameZ_any _ _ (T.tab kv) (T.tab kv) _ Z1'.out Z2.out).mono ?_
      rw [beq_self_eq_true]
      rintro e w3 ⟨rfl, hg3⟩
      have Z1 := Lib.hid (Z1'.out.grown hg3)
      have Z2' := Lib.hid (Z2.out.grown hg3)
      have G4 := Lib.hid (Gr.trans G3.out hg3)
      clear hg3 Z1' Z2 G3
      go_wp2_with fail
      refine (HD.out.new s0 _ hs1).mono ?_
      rintro e w4 ⟨d, F, rfl, ha, hg4, hF⟩
      obtain ⟨ad, rfl⟩ := HD.out.ptr ha
      have D4 : Hid (Dr At w3 w4 (.pointer (some ad)) F s0) := Lib.hid ⟨ha, hF, hg4, by omega⟩
      have AW2 : Hid (AwayZ F (.slice o2 m c2)) := Lib.hid (Z2'.out.away hF)
      have Z1' := Lib.hid (Z1.out.grown hg4)
      have Z2 := Lib.hid (Z2'.out.grown hg4)
      clear ha hg4 hF Z1 Z2'
      go_upto_region 8 with fail
      have HR : Hid (RAt (w4.alloc (.cells #[.int .u64 (s0 : Int)] 33)) w4.heap.size s0) := Lib.hid (heap_alloc_new _ _)
      have HNF : Hid (¬ F w4.heap.size) := Lib.hid (fun e => by have := HD.out.lt D4.out.1 _ e; omega)
      have HGR : Hid (w3.heap.size ≤ w4.heap.size) := Lib.hid D4.out.2.2.1.size
      have hga : Gr w4 (w4.alloc (.cells #[.int .u64 (s0 : Int)] 33)) := Gr.alloc (Gr.refl _) _ _
      have D5 : Hid (Dr At w3 (w4.alloc (.cells #[.int .u64 (s0 : Int)] 33)) (.pointer (some ad)) F s0) := Lib.hid (D4.out.grown HD.out hga)
      have Z1 := Lib.hid (Z1'.out.grown hga)
      have Z2' := Lib.hid (Z2.out.grown hga)
      have HGS : Hid (w4.heap.size < (w4.alloc (.cells #[.int .u64 (s0 : Int)] 33)).heap.size) := Lib.hid (by simp)
      clear D4 hga Z1' Z2
      generalize w4.alloc (.cells #[.int .u64 (s0 : Int)] 33) = W5 at *
      generalize w4.heap.size = gr at *
      go_wp2_with fail
      refine (H.out.degree _ kv x _ HKV.out HXI.out Z1.out).mono ?_
      rintro e w6 ⟨rfl, hg6⟩
      have D6 := Lib.hid (D5.out.grown HD.out hg6)
      have R6 := Lib.hid (HR.out.kept (hg6.kp fun _ => False) (fun e => e))
      have Z2 := Lib.hid (Z2'.out.grown hg6)
      have HGS6 : Hid (gr < w6.heap.size) := Lib.hid (Nat.lt_of_lt_of_le HGS.out hg6.size)
      clear hg6 D5 HR Z2' Z1 HGS
      go_wp2_with fail
      refine (refDegree_any _ (T.tab kv) x _ Z2.out (by rw [HM.out]; omega)).mono ?_
      rintro e w7 ⟨rfl, hg7⟩
      have D7 := Lib.hid (D6.out.grown HD.out hg7)
      have R7 := Lib.hid (R6.out.kept (hg7.kp fun _ => False) (fun e => e))
      have Z7 := Lib.hid (Z2.out.grown hg7)
      have HGS7 : Hid (gr < w7.heap.size) := Lib.hid (Nat.lt_of_lt_of_le HGS6.out hg7.size)
      clear hg7 D6 R6 Z2 HGS6
      generalize T.deg (T.tab kv) x = dg at *
      go_wp2_with fail
      have hsp := spareZ_any (.slice o2 m c2) (T.tab kv) 71 w7 Z7.out (by rw [HM.out]; omega)
      rw [HM.out] at hsp
      refine hsp.mono ?_
      rintro e w8 ⟨gi, rfl, hge, hblk, hg8⟩
      have D8 := Lib.hid (D7.out.grown HD.out hg8)
      have R8 := Lib.hid (R7.out.kept (hg8.kp fun _ => False) (fun e => e))
      have Z8 := Lib.hid (Z7.out.grown hg8)
      have B8 := Lib.hid hblk
      have HNI2 : Hid (¬ F gi) := Lib.hid (fun e => by have := HD.out.lt D7.out.1 _ e; omega)
      have HGI : Hid (gi ≠ gr) := Lib.hid (by have := HGS7.out; omega)
      have TB : Hid (∀ z ∈ T.tab kv, I64 z) := Lib.hid Z7.out.1
      clear hsp hge hblk hg8 D7 R7 Z7 HGS7
      go_wp2
      go_loopw [16] (fun i wr => ∃ (ii s : Nat), ii ≤ q ∧ i = .int .i64 ii ∧ Dr At w3 wr (.pointer (some ad)) F s ∧ RAt wr gr s ∧ Blz wr gi (T.tab kv ++ [71, 71]) ∧ Zs wr (.slice o2 m c2) (T.tab kv)) (fun i _ => q - (intOf i).toNat)
      case atStart => exact ⟨0, s0, by omega, rfl, D8.out, R8.out, B8.out, Z8.out⟩
      case round =>
        clear D8 R8 B8 Z8
        obtain ⟨wi, hwi⟩ : ∃ x, x = wr := ⟨_, rfl⟩
        subst hwi
        obtain ⟨ii, s, hii, rfl, hd, hr, hb, hz⟩ := hrel
        have DD := Lib.hid hd
        have RR := Lib.hid hr
        have BB := Lib.hid hb
        have ZZ := Lib.hid hz
        clear hd hr hb hz
        go_wp2_with fail
        refine (within_any n 30 (by omega) (by omega) _).mono ?_
        rintro e w' ⟨rfl, rfl⟩
        rw [HQ.out]
        have ZIN : Hid (Zs wi (.slice (some ⟨gi, 0, none⟩) m (m + 2)) (T.tab kv)) := Lib.hid (by
          have := Blz.zs_pre BB.out TB.out (by rw [List.length_append, HM.out]; simp; omega)
          rw [List.length_append, HM.out] at this
          exact this)
        by_cases hlt2 : ii < q
        · go_wp2_with fail
          refine (H.out.draw _ _ kv F s _ HKV.out DD.out.2.2.2 ZIN.out (fun a m' c' he _ hf => by
            cases he
            exact HNI2.out hf) DD.out.1).mono ?_
          rintro e w9 ⟨rfl, ha, hk⟩
          have D9 := Lib.hid (DD.out.step ha hk (drawS_lt DD.out.2.2.2))
          have R9 := Lib.hid (RR.out.kept hk HNF.out)
          have B9 := Lib.hid (BB.out.kept hk HNI2.out)
          have Z9 := Lib.hid (ZZ.out.kp hk AW2.out)
          clear ha hk RR BB ZZ ZIN
          go_wp2_with fail
          refine (refDrawDegree_any _ (T.tab kv) gr s _ Z9.out (by rw [HM.out]; omega) R9.out).mono ?_
          rintro e w10 ⟨rfl, hr, hk⟩
          have D10 := Lib.hid (D9.out.other HD.out hk (fun k e => by subst e; exact HGR.out) (fun k hF e => HNF.out (by rw [← e]; exact hF)))
          have R10 := Lib.hid hr
          have B10 := Lib.hid (B9.out.kept hk HGI.out)
          have Z10 := Lib.hid (Z9.out.kept R9.out hk)
          clear hr hk D9 R9 B9 Z9
          generalize drawV (T.tab kv) s = dv at *
          go_wp2
          exact ⟨⟨ii + 1, drawS (T.tab kv) s, by omega, by go_num, D10.out, R10.out, B10.out, Z10.out⟩, by simp [intOf]; omega⟩
        · obtain rfl : ii = q := by omega
          clear ZIN
          go_wp2_with fail
          refine (HD.out.next _ F s _ DD.out.2.2.2 DD.out.1).mono ?_
          rintro e w9 ⟨rfl, ha, hk⟩
          have D9 := Lib.hid (DD.out.step ha hk (nextS_lt s))
          have R9 := Lib.hid (RR.out.kept hk HNF.out)
          have B9 := Lib.hid (BB.out.kept hk HNI2.out)
          have Z9 := Lib.hid (ZZ.out.kp hk AW2.out)
          clear ha hk DD RR BB ZZ
          go_wp2_with fail
          refine (refNext_any gr s _ R9.out).mono ?_
          rintro e w10 ⟨rfl, hr, hk⟩
          have D10 := Lib.hid (D9.out.other HD.out hk (fun k e => by subst e; exact HGR.out) (fun k hF e => HNF.out (by rw [← e]; exact hF)))
          have B10 := Lib.hid (B9.out.kept hk HGI.out)
          have Z10 := Lib.hid (Z9.out.kept R9.out hk)
          clear hr hk D9 R9 B9 Z9
          generalize topS (nextS s) = tt at *
          go_wp2_with fail
          have hkp := keptZ_true gi (T.tab kv) (.slice o2 m c2) 71 w10 B10.out TB.out Z10.out (by rw [HM.out]; omega)
          rw [HM.out] at hkp
          refine hkp.mono ?_
          rintro e w11 ⟨rfl, hg11⟩
          have G11 := Lib.hid (Gr.trans G4.out (Gr.trans D10.out.2.2.1 hg11))
          clear hkp hg11 D10 B10 Z10
          go_wp2
          exact ⟨⟨t + 1, by omega, by go_num, G11.out⟩, by simp [intOf]; omega⟩
    · obtain rfl : t = 2 := by omega
      go_wp2_with fail
      refine (tabWakes_any H.out _).mono ?_
      rintro e w12 ⟨rfl, hg12⟩
      have G12 := Lib.hid (Gr.trans G1.out (Gr.trans HG.out hg12))
      clear hg12
      go_wp2
      go_ret
      exact ⟨rfl, G12.out⟩
end Go.Proofs.Ytkmnhcegaagokaa
