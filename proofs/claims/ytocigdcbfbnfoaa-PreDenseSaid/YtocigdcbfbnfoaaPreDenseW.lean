/-
  Law PreDense, walked: no 0 at a source symbol; columns side by side have all the rank.
-/
import Derived.Test.YtocigdcbfbnfoaaPy
import Derived.Test.YtocigdcbfbnfoaaSt
import Derived.Test.YtocigdcbfbnfoaaEv
import Derived.Deep.CutBlock
import Derived.Deep.QuietTactic
import Derived.BigQuiet
namespace Go.Proofs.Ytocigdcbfbnfoaa
open Go.RowKit

set_option maxRecDepth 100000 in
set_option maxHeartbeats 3200000 in
theorem preDense_walk (R : MatOk) (O : PreOk) (a b at' : Int) (w : World) :
    Calls Try.prog 5 #[.int .i64 a, .int .i64 b, .int .i64 at'] w fun e w' => e = .returned (.bool true) ∧ Gr w w' := by
  have HO := Lib.hid O
  have HR := Lib.hid R
  obtain ⟨i0, hi0, hz0, hz1, hz2⟩ := info_parts info22
  have I0 := Lib.hid hi0
  have I1 := Lib.hid hz0
  have I2 := Lib.hid hz1
  have I3 := Lib.hid hz2
  clear O R hi0 hz0 hz1 hz2
  obtain ⟨x, hx, hx2⟩ : ∃ x : Nat, a % 16 = x ∧ x < 16 := ⟨(a % 16).toNat, by omega, by omega⟩
  obtain ⟨y, hy, hy2⟩ : ∃ x : Nat, b % 4 = x ∧ x < 4 := ⟨(b % 4).toNat, by omega, by omega⟩
  obtain ⟨K, hK, K1, K2⟩ : ∃ K : Nat, (1 : Int) + x = K ∧ 1 ≤ K ∧ K ≤ 16 := ⟨1 + x, by omega, by omega, by omega⟩
  obtain ⟨H, hH, H1, H2⟩ : ∃ K : Nat, (1 : Int) + y = K ∧ 1 ≤ K ∧ K ≤ 4 := ⟨1 + y, by omega, by omega, by omega⟩
  have HM : Hid (MayP (K : Int) (H : Int) 1) := Lib.hid (by unfold MayP; omega)
  have HPA : Hid (par (1 + a % 16) (1 + b % 4) (1 + (0 : Int) % 24) = par K H 1) := Lib.hid (by rw [hx, hy, hK, hH]; rfl)
  have HAH : Hid (aheadP (K : Int) (H : Int) 1 = ahead K H) := Lib.hid (aheadP_in HM.out)
  obtain ⟨N, hN⟩ : ∃ N, K + H = N := ⟨_, rfl⟩
  have hN20 : N ≤ 20 := by omega
  have hN' : (K : Int) + (H : Int) = (N : Int) := by omega
  have hwN : IntKind.i64.wrap (N : Int) = N := by simp [IntKind.wrap, IntKind.bits, IntKind.signed]; omega
  have HN := Lib.hid hN
  clear hx hy hK hH hN
  go_enter Try.func5, Try.ntmps5
  go_wp2_with fail
  refine (params_any a b 0 _).mono ?_
  rw [HPA.out]
  rintro e w1 ⟨rfl, hg1⟩
  have HP1 : Hid (Par (w1.alloc (.cells #[.int .i64 (K : Int), .int .i64 (H : Int), .int .i64 1] 23)) w1.heap.size K H 1) := Lib.hid (heap_alloc_new _ _)
  have HG1 : Hid (Gr w (w1.alloc (.cells #[.int .i64 (K : Int), .int .i64 (H : Int), .int .i64 1] 23))) := Lib.hid (Gr.alloc hg1 _ _)
  clear hg1
  go_wp2_with fail
  generalize w1.alloc (.cells #[.int .i64 (K : Int), .int .i64 (H : Int), .int .i64 1] 23) = W2 at *
  generalize w1.heap.size = gp at *
  refine (HO.out.rows K H 1 _).mono ?_
  rw [HAH.out]
  rintro e w3 ⟨v, rfl, hr, hg3⟩
  obtain ⟨us, ho, hr⟩ := hr
  rw [ahead_length] at ho hr
  obtain ⟨g, c0, rfl, q1, q2, q3, q4, q5⟩ := ownsRow_cell ho (by omega)
  have HRW : Hid (∀ i, i < H → w3.cell? ⟨g, i, none⟩ = some (us.getD i undef) ∧ Bs w3 (us.getD i undef) (aheadRow K H i) ∧ Rb w3.heap.size w3 (us.getD i undef)) := Lib.hid (fun i hi => ⟨q5 i hi, by have := (hr i hi).1; rwa [ahead_getD hi] at this, fun a n c e hn => .inr ((hr i hi).2 a n c e hn).2⟩)
  have HP3 := Lib.hid (HP1.out.grown hg3)
  have HG3 := Lib.hid (Gr.trans HG1.out hg3)
  have c0' := HP3.out.cell0
  have c1' := HP3.out.cell1
  clear ho hr q5 hg3 HP1 HG1
  obtain ⟨k, hk, hkH, hkK, hk1⟩ : ∃ k : Nat, min (H : Int) (K : Int) = k ∧ k ≤ H ∧ k ≤ K ∧ 1 ≤ k := ⟨min H K, by omega, by omega, by omega, by omega⟩
  obtain ⟨fs, hfs, hfs2⟩ : ∃ f : Nat, at' % ((K : Int) - k + 1) = f ∧ f + k ≤ K := ⟨(at' % ((K : Int) - k + 1)).toNat, (Int.toNat_of_nonneg (Int.emod_nonneg at' (show (K : Int) - k + 1 ≠ 0 by omega))).symm, by
    have := Int.emod_lt_of_pos at' (show (0 : Int) < (K : Int) - k + 1 by omega)
    have := Int.emod_nonneg at' (show (K : Int) - k + 1 ≠ 0 by omega)
    omega⟩
  have HFS := Lib.hid hfs
  clear hfs
  go_upto_region 5 with fail
  go_cut [9] (fun sx wx => sx = .int .i64 (k : Int) ∧ w3 = wx)
  case first =>
    rcases Int.le_total (H : Int) (K : Int) with hc | hc
    · have hkk : k = H := by omega
      clear hk
      go_wp2_with fail
      all_goals
        go_meet
        exact ⟨congrArg (Value.int .i64) (by omega), rfl⟩
    · have hkk : k = K := by omega
      clear hk
      go_wp2_with fail
      all_goals
        go_meet
        exact ⟨congrArg (Value.int .i64) (by omega), rfl⟩
  case rest =>
    obtain ⟨rfl, rfl⟩ := hcut
    clear hk
    have hkp : (0 : Int) ≤ (K : Int) - k := by omega
    go_wp2_with fail
    refine (within_any at' ((K : Int) - k + 1) (by omega) (by omega) _).mono ?_
    rintro e w' ⟨rfl, rfl⟩
    rw [HFS.out]
    go_wp2_with fail
    clear c0' c1'
    go_loopw [11, 38] (fun o i wr => ∃ t : Nat, t ≤ H ∧ i = .int .i64 t ∧ Rws w3.heap.size wr o ((List.range t).map fun h => sideRow K H h fs k) ∧ Gr w3 wr) (fun _ i _ => H - (intOf i).toNat)
    case atStart => exact ⟨0, by omega, rfl, Rws.nil _ _, Gr.refl _⟩
    case round =>
      obtain ⟨wo, hwo⟩ : ∃ x, x = wr := ⟨_, rfl⟩
      subst hwo
      obtain ⟨t, ht, rfl, hrs, hgr⟩ := hrel
      have HRS := Lib.hid hrs
      have HGR := Lib.hid hgr
      obtain ⟨us2, ho, hr⟩ := hrs
      have hlen : ((List.range t).map fun h => sideRow K H h fs k).length = t := by simp
      rw [hlen] at ho hr
      obtain ⟨oo, co, rfl⟩ := ownsRow_form ho
      have HO2 := Lib.hid ho
      have HR2 := Lib.hid hr
      clear ho hr hlen
      by_cases hlt : t < H
      · have hrow := HRW.out t hlt
        have q7 := cell_grown hgr hrow.1
        obtain ⟨o9, c9, hf⟩ := hrow.2.1.form
        rw [aheadRow_length, HN.out] at hf
        rw [hf] at q7
        have BR2 : Hid (Bs wo (.slice o9 N c9) (aheadRow K H t)) := Lib.hid (by rw [← hf]; exact Bs.grown hrow.2.1 hgr)
        have RB2 : Hid (Rb w3.heap.size wo (.slice o9 N c9)) := Lib.hid (by rw [← hf]; exact (Rb.gr hrow.2.1 hrow.2.2 hgr).2)
        obtain ⟨ad, ca, e1, e2, e3, e4⟩ := Bs.at BR2.out (by rw [aheadRow_length]; omega)
        rw [aheadRow_length, HN.out] at e1 e2 e4
        cases e1
        have HE4 := Lib.hid e4
        have hp := HP3.out.grown hgr
        have c0' := hp.cell0
        have c1' := hp.cell1
        clear hrow hf hp hgr e4
        go_wp2_with fail
        go_quiet (fail)
        have HQ7 := Lib.hid q7
        clear q7 c0' c1'
        go_wp2_with fail
        go_loopw [13] (fun i wr => ∃ j : Nat, j ≤ K ∧ i = .int .i64 j ∧ Gr wo wr) (fun i _ => K - (intOf i).toNat)
        case atStart => exact ⟨0, by omega, rfl, by first | exact Gr.refl _ | exact Gr.drew (Gr.refl _) | exact Gr.of_drewN _ _⟩
        case round =>
          obtain ⟨wi, hwi⟩ : ∃ x, x = wr := ⟨_, rfl⟩
          subst hwi
          obtain ⟨j, hj, rfl, hgi⟩ := hrel
          have HGI := Lib.hid hgi
          have hp := HP3.out.grown (Gr.trans HGR.out hgi)
          have c0' := hp.cell0
          have q7 := cell_grown hgi HQ7.out
          clear hp
          by_cases hlj : j < K
          · have hKN : j < N := by omega
            have q8 := cell_grown hgi (HE4.out j hKN)
            have hv : (aheadRow K H t).getD j 0 ≠ 0 := by
              have h1 := HN.out
              unfold aheadRow
              rw [lst_getD _ _ _ (by omega)]
              unfold aheadF
              rw [if_pos hlj]
              exact expZ_ne _
            generalize (aheadRow K H t).getD j 0 = bv at *
            have hv2 : (bv == 0) = false := by simpa using hv
            clear hv hgi
            go_wp2_with fail
            exact ⟨⟨j + 1, by omega, by go_num, HGI.out⟩, by simp [intOf]; omega⟩
          · obtain rfl : j = K := by omega
            have BR3 := Lib.hid (Bs.grown BR2.out hgi)
            have RB3 := Lib.hid ((Rb.gr BR2.out RB2.out hgi).2)
            have HG3' := Lib.hid (Gr.trans HGR.out hgi)
            have hNc : fs + k ≤ c9 := by omega
            have HO3 := Lib.hid (HO2.out.of_gr hgi)
            have HGB : Hid (w3.heap.size ≤ wi.heap.size) := Lib.hid HG3'.out.size
            clear hgi
            go_wp2_with (first
              | (at_builtin; refine wpList_append_lies _ rfl _ _ _ rfl w3.heap.size 33 i0 _ 1 24 Try.underlying29 I0.out I1.out I2.out I3.out rfl (by omega) (.slice oo t co) t us2 rfl (HO3.out.alloc _) ⟨wi.heap.size, 0, none⟩ 1 1 [.slice (some (ad.add fs)) k (c9 - fs)] rfl rfl (World.news_of_block (cs := #[.slice (some (ad.add fs)) k (c9 - fs)]) (t := 33) (fr := (0, 0)) (heap_alloc_new wi _)) (by simp [Value.oneCell']) (by omega) (by unfold maxLen; omega) (by omega) (by have := HGB.out; simp; omega) (wi.heap.size + 1) (by simp) ?_; intro gg cap w5 hown1 hgrow hat hlt2))
            have hbs := Bs.slice BR3.out (by rw [aheadRow_length, HN.out]) fs (fs + k) (by omega) (by omega)
            rw [if_neg (by omega), Nat.add_sub_cancel_left] at hbs
            have hrb : Rb w3.heap.size wi (.slice (some (ad.add fs)) k (c9 - fs)) := fun a n c e hn => by
              cases e
              have h1 := RB3.out ad N c9 rfl (by omega)
              have hab : (ad.add fs).block = ad.block := by
                unfold Addr.add
                split <;> rfl
              rw [hab]
              exact h1
            have hga : Gr wi (wi.alloc (.cells #[.slice (some (ad.add fs)) k (c9 - fs)] 33)) := Gr.alloc (Gr.refl _) _ _
            have hg5 := Gr.trans HGI.out hga
            have hnb := Rb.gr hbs hrb hga
            have hrow := fun g hg => (ownsRow_not_bytes HO3.out g hg).1
            have hap : Rws w3.heap.size w5 (.slice (some ⟨gg, 0, none⟩) (t + 1) cap) ((List.range (t + 1)).map fun h => sideRow j H h fs k) := by
              rw [List.range_succ, List.map_append, List.map_singleton]
              have hl : ((List.range t).map fun h => sideRow j H h fs k).length = t := by simp
              exact Rws.append (by rw [hl]; exact HO3.out.of_gr hga) (fun i hi => Rb.gr (HR2.out i (by rwa [hl] at hi)).1 (HR2.out i (by rwa [hl] at hi)).2 hg5) hnb.1 hnb.2 (by rw [hl]; exact hown1) hgrow
            exact ⟨⟨t + 1, by omega, by go_num, hap, Gr.append (Gr.trans HG3'.out hga) hgrow hrow⟩, by simp [intOf]; omega⟩
      · obtain rfl : t = H := by omega
        have HGW : Hid (Gr w wo) := Lib.hid (Gr.trans HG3.out hgr)
        have hrk := side_rk (K := K) (H := t) (first := fs) (k := k) hkH hfs2 K2
        have hwd : Wide k ((List.range t).map fun h => sideRow K t h fs k) := fun r hr => by
          obtain ⟨h, _, rfl⟩ := List.mem_map.1 hr
          refine ⟨?_, fun z hz => ?_⟩
          · unfold sideRow
            rw [List.length_take, List.length_drop, aheadRow_length]
            omega
          · exact lst_byt (fun i _ => aheadF_byt K h i) z (List.mem_of_mem_drop (List.mem_of_mem_take hz))
        have HRK := Lib.hid hrk
        have HMY : Hid (mayL ((List.range t).map fun h => sideRow K t h fs k) = true) := Lib.hid (hwd.may (by omega))
        clear hgr hrk hwd
        go_wp2_with fail
        refine (new_st _).mono ?_
        rintro e w4 ⟨bf, rfl, hst⟩
        have HST := Lib.hid hst
        have HB4 := Lib.hid (Bss.grown HRS.out.bss hst.1)
        clear hst
        go_wp2_with fail
        have hrk2 := HR.out.rank (.pointer (some ⟨bf, 0, none⟩)) _ _ w4 HST.out.2 HB4.out (by simp; omega) HMY.out
        rw [HRK.out] at hrk2
        refine hrk2.mono ?_
        rintro e w5 ⟨rfl, hg5⟩
        have HG5 := Lib.hid (Gr.trans HGW.out (Gr.trans HST.out.1 hg5))
        clear hg5 hrk2
        go_wp2_with fail
        refine (preWakes_any HO.out _).mono ?_
        rintro e w8 ⟨rfl, hg8⟩
        have HG8 := Lib.hid (Gr.trans HG5.out hg8)
        clear hg8
        go_wp2_with fail
        go_ret
        exact ⟨rfl, HG8.out⟩
end Go.Proofs.Ytocigdcbfbnfoaa
