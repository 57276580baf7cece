/-
  Law EncodeFirst, walked.
-/
import Derived.Test.YtbabecjphmmngaaMgi
import Derived.Deep.CutBlock
namespace Go.Proofs.Ytbabecjphmmngaa
open Go.RowKit

theorem bss_one {W : World} {u : Value} {r : List Int} (hb : Bs W u r) : Bss (W.alloc (.cells #[u] 23)) (.slice (some ⟨W.heap.size, 0, none⟩) 1 1) [r] :=
  ⟨_, 1, rfl, by simp, by omega, (fun h => by cases h), fun a ha i hi => by
    cases ha
    obtain rfl : i = 0 := by simpa using hi
    exact ⟨u, by rw [Addr.add_mid, cell_of_row _ _ _ _ _ _ (heap_alloc_new W _)]; rfl, Bs.grown hb (Gr.alloc (Gr.refl _) _ _)⟩⟩
theorem addr_zero (a : Addr) : a.add 0 = a := by
  cases a
  unfold Addr.add
  split <;> simp_all
/-- What a symbol's row, as a matrix, is multiplied to. -/
theorem mul_sym {K H S s : Nat} {M O : List (List Int)} (hm : MayP K H S) (hM : Wide S M) (hl : M.length = K + H) {id : Int} (hi : MayI id) (h : IsMul S [rowP K H S s id] M O) : O = [symP K H S s M id] := by
  obtain ⟨h1, h2, h3⟩ := sym_is (seed := s) hm hM hl hi
  refine map_vec_inj h.1 (fun r hr => by obtain rfl : r = _ := by simpa using hr
                                         exact ⟨h1, h2⟩) ?_
  rw [h.2]
  show [L.lc (vec (rowP K H S s id)) (M.map vec)] = [vec (symP K H S s M id)]
  rw [h3]
set_option maxRecDepth 100000 in
set_option maxHeartbeats 6400000 in
theorem encodeFirst_walk {At : World → Value → (Nat → Prop) → Nat → Nat → Nat → Nat → List (List Int) → Prop} (R : MatOk) (P : PreOk) (T : LtOk) (O : SystemOk) (E : EncOk At) (a b c sd : Int) (vd : Value) (D : List Int) (id : Int) (w : World) (hd : Bs w vd D) (hid : I64 id) :
    Calls Try.prog 3 #[.int .i64 a, .int .i64 b, .int .i64 c, .int .u64 sd, vd, .int .i64 id] w fun e w' => e = .returned (.bool true) ∧ Gr w w' := by
  have HO := Lib.hid O
  have HE := Lib.hid E
  have HR := Lib.hid R
  have HPR := Lib.hid P
  have HT := Lib.hid T
  have HD := Lib.hid hd
  have HID := Lib.hid hid
  obtain ⟨od, md, cd, rfl⟩ := Bs.form4 hd
  clear O E R P T hd hid
  obtain ⟨K, hK, K1, K2⟩ : ∃ K : Nat, 1 + a % 16 = K ∧ 1 ≤ K ∧ K ≤ 16 := ⟨(1 + a % 16).toNat, by omega, by omega, by omega⟩
  obtain ⟨H, hH, H1, H2⟩ : ∃ K : Nat, 1 + b % 4 = K ∧ 1 ≤ K ∧ K ≤ 4 := ⟨(1 + b % 4).toNat, by omega, by omega, by omega⟩
  obtain ⟨S, hS, S1, S2⟩ : ∃ K : Nat, 1 + c % 24 = K ∧ 1 ≤ K ∧ K ≤ 24 := ⟨(1 + c % 24).toNat, by omega, by omega, by omega⟩
  have hm : MayP K H S := by unfold MayP; omega
  have HM := Lib.hid hm
  obtain ⟨Q, hQ⟩ : ∃ Q, K * S = Q := ⟨_, rfl⟩
  have hQ1 : 1 ≤ Q := by rw [← hQ]; exact Nat.mul_pos K1 S1
  have hQ2 : Q ≤ 384 := by rw [← hQ]; exact Nat.le_trans (Nat.mul_le_mul K2 S2) (by omega)
  have hQi : (K : Int) * (S : Int) = (Q : Int) := by rw [← hQ]; simp
  have hQw : IntKind.i64.wrap (Q : Int) = Q := by simp [IntKind.wrap, IntKind.bits, IntKind.signed]; omega
  have HQ := Lib.hid hQ
  clear hm hQ
  go_enter Try.func3, Try.ntmps3
  go_wp2_with fail
  refine (params_any a b c _).mono ?_
  rintro e w1 ⟨rfl, hg⟩
  rw [hK, hH, hS]
  clear hK hH hS
  go_wp2_with fail
  have HP : Hid (Par (w1.alloc (.cells #[.int .i64 (K : Int), .int .i64 (H : Int), .int .i64 (S : Int)] 25)) w1.heap.size K H S) := Lib.hid (heap_alloc_new _ _)
  have HG : Hid (Gr w (w1.alloc (.cells #[.int .i64 (K : Int), .int .i64 (H : Int), .int .i64 (S : Int)] 25))) := Lib.hid (Gr.alloc hg _ _)
  clear hg
  generalize w1.alloc (.cells #[.int .i64 (K : Int), .int .i64 (H : Int), .int .i64 (S : Int)] 25) = W0 at *
  generalize w1.heap.size = gp at *
  have c0 := HP.out.cell0
  have c1 := HP.out.cell1
  have c2 := HP.out.cell2
  go_wp2_with fail
  refine (seed_any HO.out K H S sd _).mono ?_
  rintro e w2 ⟨s, rfl, hs, hg2⟩
  have HP2 := Lib.hid (HP.out.grown hg2)
  have HG2 := Lib.hid (Gr.trans HG.out hg2)
  have HS := Lib.hid hs
  clear hg2 HP HG c0 c1 c2 hs
  have c0 := HP2.out.cell0
  have c1 := HP2.out.cell1
  have c2 := HP2.out.cell2
  go_wp2_with fail
  refine (data_any _ D Q _ (Bs.grown HD.out HG2.out) hQ1 (by omega)).mono ?_
  rintro e w3 ⟨x, rfl, hn3⟩
  obtain ⟨X, hX⟩ : ∃ X, dataL D Q = X := ⟨_, rfl⟩
  have HXB : Hid (∀ z ∈ X, Byt z) := Lib.hid (by rw [← hX]; exact dataL_byt HD.out.1 Q)
  have HXL : Hid (X.length = Q) := Lib.hid (by rw [← hX]; exact dataL_length D Q)
  rw [hX] at hn3
  obtain ⟨ox, cx, rfl⟩ := (New.bs hn3).form
  have HBX := Lib.hid (New.bs hn3)
  have HP3 := Lib.hid (HP2.out.grown hn3.1)
  have HG3 := Lib.hid (Gr.trans HG2.out hn3.1)
  rw [HXL.out] at HBX ⊢
  clear hn3 hX HP2 HG2 c0 c1 c2
  have c0 := HP3.out.cell0
  have c1 := HP3.out.cell1
  have c2 := HP3.out.cell2
  go_wp2_with fail
  by_cases hr : RightP K H S s
  · refine (HE.out.new K H S s _ X _ HS.out HBX.out HM.out (by rw [HXL.out, HQ.out]) hr).mono ?_
    rintro e w4 ⟨y, F, M, rfl, hmid, hat, hg4, _⟩
    obtain ⟨ay, rfl⟩ := HE.out.ptr hat
    have HMI := Lib.hid hmid
    have HAT := Lib.hid hat
    have HBX4 := Lib.hid (Bs.grown HBX.out hg4)
    have HP4 := Lib.hid (HP3.out.grown hg4)
    have HG4 := Lib.hid (Gr.trans HG3.out hg4)
    obtain ⟨N, hN⟩ : ∃ N, K + H = N := ⟨_, rfl⟩
    have hNi : (K : Int) + (H : Int) = (N : Int) := by omega
    have hNw : IntKind.i64.wrap (N : Int) = N := by simp [IntKind.wrap, IntKind.bits, IntKind.signed]; omega
    have HML : Hid (M.length = N) := Lib.hid (by rw [HMI.out.len, hN])
    have HN := Lib.hid hN
    clear hmid hat hg4 hN HBX HP3 HG3 c0 c1 c2
    have c0 := HP4.out.cell0
    have c1 := HP4.out.cell1
    have c2 := HP4.out.cell2
    go_wp2_with fail
    go_region_held3 (fun W => W.cell? ⟨gp, 0, none⟩ = some (.int .i64 (K : Int)) ∧ W.cell? ⟨gp, 1, none⟩ = some (.int .i64 (H : Int)) ∧ W.cell? ⟨gp, 2, none⟩ = some (.int .i64 (S : Int))) (first | exact ⟨k10, k11, k12⟩ | go_keep)
      (first
        | (go_at_call 12; refine (HE.out.mid _ F K H S s M _ HM.out HS.out (HE.out.grown HAT.out (Gr.drew (Gr.refl _))) HMI.out.wide HMI.out.len).mono ?_; rintro e v1 ⟨y1, rfl, hr1, hg1⟩; obtain ⟨o1, d1, hf1, _⟩ := hr1.bss; rw [HML.out] at hf1; subst hf1; have k10 := cell_grown hg1 (by exact c0); have k11 := cell_grown hg1 (by exact c1); have k12 := cell_grown hg1 (by exact c2); have V1 : Hid (Gr w4 v1) := Lib.hid (by exact hg1); clear hr1))
    have HP5 := Lib.hid (HP4.out.grown V1.out)
    have HG5 := Lib.hid (Gr.trans HG4.out V1.out)
    have HA5 := Lib.hid (HE.out.grown HAT.out V1.out)
    have HX5 := Lib.hid (Bs.grown HBX4.out V1.out)
    clear HP4 HG4 HAT HBX4 V1 c0 c1 c2 k10 k11 k12
    obtain ⟨ax, rfl⟩ := Bs.addr HX5.out (by omega)
    go_wp2_with fail
    go_loopw [18] (fun iv W => ∃ i : Nat, i ≤ K ∧ iv = .int .i64 i ∧ Gr w W ∧ Par W gp K H S ∧ At W (.pointer (some ay)) F K H S s M ∧ Bs W (.slice (some ax) Q cx) X) (fun iv _ => K - (intOf iv).toNat)
    case atStart => exact ⟨0, by omega, rfl, HG5.out, HP5.out, HA5.out, HX5.out⟩
    case round =>
      clear HG5 HP5 HA5 HX5
      obtain ⟨wo, hwo⟩ : ∃ x, x = wr := ⟨_, rfl⟩
      subst hwo
      obtain ⟨i, hi, rfl, hg, hp, ha, hx⟩ := hrel
      have HGO := Lib.hid hg
      have HPO := Lib.hid hp
      have HAO := Lib.hid ha
      have HXO := Lib.hid hx
      clear hg hp ha hx
      have c0 := HPO.out.cell0
      have c1 := HPO.out.cell1
      have c2 := HPO.out.cell2
      by_cases hlt : i < K
      · obtain ⟨lo, hlo⟩ : ∃ lo, i * S = lo := ⟨_, rfl⟩
        obtain ⟨hi', hhi⟩ : ∃ hi, (i + 1) * S = hi := ⟨_, rfl⟩
        have hls : lo + S = hi' := by rw [← hlo, ← hhi, Nat.add_mul, Nat.one_mul]
        have hhQ : hi' ≤ Q := by rw [← hhi, ← HQ.out]; exact Nat.mul_le_mul_right S (by omega)
        have e1 : (i : Int) * (S : Int) = (lo : Int) := by rw [← hlo]; simp
        have e2 : ((i : Int) + 1) * (S : Int) = (hi' : Int) := by rw [← hhi]; simp
        have e3 : IntKind.i64.wrap (lo : Int) = lo := by simp [IntKind.wrap, IntKind.bits, IntKind.signed]; omega
        have e4 : IntKind.i64.wrap (hi' : Int) = hi' := by simp [IntKind.wrap, IntKind.bits, IntKind.signed]; omega
        have e5 : IntKind.i64.wrap ((i : Int) + 1) = (i : Int) + 1 := by simp [IntKind.wrap, IntKind.bits, IntKind.signed]; omega
        have hQc : Q ≤ cx := by
          obtain ⟨_, _, _, hf, hl, _⟩ := HXO.out
          simp at hf
          omega
        have b1 : (lo : Int) ≤ hi' := by omega
        have b2 : (hi' : Int) ≤ cx := by omega
        have b3 : (hi' : Int) ≤ Q := by omega
        have b4 : (lo : Int) ≤ cx := by omega
        have hpart := Bs.part HXO.out (lo := lo) (hi := hi') (by omega) hhQ
        rw [if_neg (by omega : ¬ cx = lo)] at hpart
        have hsym := HMI.out.first HM.out (by rw [HXL.out, HQ.out]) HXB.out hlt
        have hsr : srcL S X i = (X.drop lo).take (hi' - lo) := by unfold srcL; rw [hlo, show hi' - lo = S from by omega]
        rw [← hsr, ← hsym] at hpart
        have hod : (if cx = lo then some ax else some (ax.add lo)) = some (ax.add lo) := if_neg (by omega)
        obtain ⟨z1, hz1⟩ : ∃ z, hi' - lo = z := ⟨_, rfl⟩
        obtain ⟨z2, hz2⟩ : ∃ z, cx - lo = z := ⟨_, rfl⟩
        rw [hz1, hz2] at hpart
        have HPT := Lib.hid hpart
        have HII : Hid (I64 (i : Int)) := Lib.hid ⟨by omega, by omega⟩
        obtain ⟨Y, hY⟩ : ∃ Y, symP K H S s M i = Y := ⟨_, rfl⟩
        rw [hY] at HPT
        have HY := Lib.hid hY
        clear hpart hsym hsr hlo hhi hY
        go_wp2_with fail
        go_region_held3 (fun W => W.cell? ⟨gp, 0, none⟩ = some (.int .i64 (K : Int)) ∧ W.cell? ⟨gp, 1, none⟩ = some (.int .i64 (H : Int)) ∧ W.cell? ⟨gp, 2, none⟩ = some (.int .i64 (S : Int))) (first | exact ⟨k20, k21, k22⟩ | exact ⟨k10, k11, k12⟩ | go_keep)
          (first
            | (go_at_call 13; refine (same_any _ _ Y Y _ B1.out (by exact Bs.grown HPT.out V1.out)).mono ?_; rw [beq_self_eq_true]; rintro e v2 ⟨rfl, hg2⟩; have k20 := cell_grown hg2 (by exact k10); have k21 := cell_grown hg2 (by exact k11); have k22 := cell_grown hg2 (by exact k12); have V2 : Hid (Gr v1 v2) := Lib.hid hg2)
            | (go_at_call 14; refine (HE.out.symbol _ F K H S s M i _ HM.out HS.out (HE.out.grown HAO.out (Gr.drew (Gr.refl _))) HMI.out.wide HMI.out.len HII.out).mono ?_; rw [HY.out]; rintro e v1 ⟨y1, rfl, hn1⟩; have hg1 := hn1.1; have k10 := cell_grown hg1 (by exact c0); have k11 := cell_grown hg1 (by exact c1); have k12 := cell_grown hg1 (by exact c2); obtain ⟨o1, m1, d1, rfl⟩ := Bs.form4 (New.bs hn1); have B1 := Lib.hid (New.bs hn1); have V1 : Hid (Gr wo v1) := Lib.hid (by exact hg1); clear hn1))
        all_goals
          have HV := Lib.hid (Gr.trans V1.out V2.out)
          have HGZ := Lib.hid (Gr.trans HGO.out HV.out)
          have HPZ := Lib.hid (HPO.out.grown HV.out)
          have HAZ := Lib.hid (HE.out.grown HAO.out HV.out)
          have HXZ := Lib.hid (Bs.grown HXO.out HV.out)
          go_wp2_with fail
          exact ⟨⟨i + 1, by omega, by go_num, HGZ.out, HPZ.out, HAZ.out, HXZ.out⟩, by simp [intOf]; omega⟩
      · obtain rfl : i = K := by omega
        go_wp2_with fail
        refine (new_st _).mono ?_
        rintro e w5 ⟨bf, rfl, hst⟩
        have HST := Lib.hid hst
        have HG6 := Lib.hid (Gr.trans HGO.out hst.1)
        have HP6 := Lib.hid (HPO.out.grown hst.1)
        have HA6 := Lib.hid (HE.out.grown HAO.out hst.1)
        clear hst HGO HPO HAO HXO c0 c1 c2
        have c0 := HP6.out.cell0
        have c1 := HP6.out.cell1
        have c2 := HP6.out.cell2
        go_wp2_with fail
        refine (HPR.out.rows i H S _).mono ?_
        rw [aheadP_in HM.out]
        rintro e w6 ⟨v6, rfl, hr6, hg6⟩
        obtain ⟨o6, m6, c6, rfl⟩ := hr6.bss.form3
        have HB7 := Lib.hid hr6.bss
        have HF7 := Lib.hid (IsF.grown HST.out.2 hg6)
        have HG7 := Lib.hid (Gr.trans HG6.out hg6)
        have HP7 := Lib.hid (HP6.out.grown hg6)
        have HA7 := Lib.hid (HE.out.grown HA6.out hg6)
        clear hr6 hg6 HST HG6 HP6 HA6 c0 c1 c2
        go_wp2_with fail
        refine (HE.out.mid _ F i H S s M _ HM.out HS.out HA7.out HMI.out.wide HMI.out.len).mono ?_
        rintro e w7 ⟨v7, rfl, hr7, hg7⟩
        obtain ⟨o7, m7, c7, rfl⟩ := hr7.bss.form3
        have HM8 := Lib.hid hr7.bss
        have HB8 := Lib.hid (HB7.out.grown hg7)
        have HF8 := Lib.hid (IsF.grown HF7.out hg7)
        have HG8 := Lib.hid (Gr.trans HG7.out hg7)
        have HP8 := Lib.hid (HP7.out.grown hg7)
        have HA8 := Lib.hid (HE.out.grown HA7.out hg7)
        clear hr7 hg7 HB7 HF7 HG7 HP7 HA7
        go_wp2_with fail
        have hwdA : wd (ahead i H) = N := by rw [(ahead_wide i H).wd (by rw [ahead_length]; omega)]; exact HN.out
        have hwdM : wd M = S := HMI.out.wide.wd (by rw [HML.out]; omega)
        have hmM : mayL M = true := HMI.out.wide.may (by omega)
        have HWM := Lib.hid hwdM
        have HMM := Lib.hid hmM
        refine (HR.out.mul _ _ _ (ahead i H) M _ HF8.out HB8.out HM8.out (by rw [ahead_length]; omega) (by rw [HML.out]; omega) ((ahead_wide i H).may (by omega)) hmM (.inr (by rw [hwdA, HML.out]))).mono ?_
        rw [hwdM]
        rintro e w8 ⟨v8, out, rfl, hb8, hg8, hmul⟩
        obtain rfl := HMI.out.ahead HM.out hmul
        have hb9 := hb8
        obtain ⟨o8, c8, hf8, _⟩ := hb9
        rw [List.length_replicate] at hf8
        subst hf8
        have HZ9 := Lib.hid hb8
        have HG9 := Lib.hid (Gr.trans HG8.out hg8)
        have HP9 := Lib.hid (HP8.out.grown hg8)
        have HA9 := Lib.hid (HE.out.grown HA8.out hg8)
        have HF9 := Lib.hid (IsF.grown HF8.out hg8)
        clear hb8 hg8 hmul hwdA hwdM hmM HM8 HB8 HF8 HG8 HP8 HA8
        obtain ⟨az, rfl⟩ := HZ9.out.addr (by omega)
        have c0 := HP9.out.cell0
        have c1 := HP9.out.cell1
        have c2 := HP9.out.cell2
        go_wp2_with fail
        clear c0 c1 c2
        go_loopw [115] (fun iv W => ∃ t : Nat, t ≤ H ∧ iv = .int .i64 t ∧ Gr w W ∧ Par W gp i H S ∧ At W (.pointer (some ay)) F i H S s M ∧ Bss W (.slice (some az) H c8) (List.replicate H (List.replicate S 0)) ∧ IsF W (.pointer (some ⟨bf, 0, none⟩))) (fun iv _ => H - (intOf iv).toNat)
        case atStart => exact ⟨0, by omega, rfl, HG9.out, HP9.out, HA9.out, HZ9.out, HF9.out⟩
        case round =>
          clear HG9 HP9 HA9 HZ9 HF9
          obtain ⟨wo, hwo⟩ : ∃ x, x = wr := ⟨_, rfl⟩
          subst hwo
          obtain ⟨t, ht, rfl, hg, hp, ha, hz, hf⟩ := hrel
          have HGO := Lib.hid hg
          have HPO := Lib.hid hp
          have HAO := Lib.hid ha
          have HZO := Lib.hid hz
          have HFO := Lib.hid hf
          clear hg hp ha hz hf
          have c0 := HPO.out.cell0
          have c1 := HPO.out.cell1
          have c2 := HPO.out.cell2
          by_cases hlt : t < H
          · obtain ⟨u, q1, hbu⟩ := HZO.out.rowAt hlt
            rw [show (List.replicate H (List.replicate S (0 : Int))).getD t [] = List.replicate S 0 from by rw [List.getD_eq_getElem?_getD, List.getElem?_replicate, if_pos hlt]; rfl] at hbu
            obtain ⟨ou, mu, cu, rfl⟩ := Bs.form4 hbu
            have HBU := Lib.hid hbu
            have hmk := make22 S S (by omega) (by omega)
            obtain ⟨cur, hcur⟩ : ∃ cur, cur = rowB (List.replicate S 0) := ⟨_, rfl⟩
            rw [← hcur] at hmk
            have HCU := Lib.hid hcur
            clear hbu hcur
            go_wp2_with fail
            have hnb : Bs (wo.alloc (.cells cur 5)) (.slice (some ⟨wo.heap.size, 0, none⟩) S S) (List.replicate S 0) := by
              have := Blk.bs (w := wo.alloc (.cells cur 5)) (g := wo.heap.size) (L := List.replicate S 0) (by rw [HCU.out]; exact heap_alloc_new _ _) (List.replicate S 0) S (Nat.le_refl _) (by simp) (by omega) (replicate_byt S) fun _ _ => rfl
              simpa using this
            refine (same_any _ _ _ _ _ (Bs.grown HBU.out (Gr.alloc (Gr.refl _) _ _)) hnb).mono ?_
            rw [beq_self_eq_true]
            rintro e w2 ⟨rfl, hg2⟩
            have HV := Lib.hid (Gr.trans (Gr.alloc (Gr.refl wo) cur 5) hg2)
            clear hg2 hnb hmk q1 c0 c1 c2
            have HGZ := Lib.hid (Gr.trans HGO.out HV.out)
            have HPZ := Lib.hid (HPO.out.grown HV.out)
            have HAZ := Lib.hid (HE.out.grown HAO.out HV.out)
            have HZZ := Lib.hid (HZO.out.grown HV.out)
            have HFZ := Lib.hid (IsF.grown HFO.out HV.out)
            go_wp2_with fail
            exact ⟨⟨t + 1, by omega, by go_num, HGZ.out, HPZ.out, HAZ.out, HZZ.out, HFZ.out⟩, by simp [intOf]; omega⟩
          · obtain rfl : t = H := by omega
            obtain ⟨i1, hi1, hi2⟩ : ∃ q : Nat, id % 65536 = q ∧ q < 65536 := ⟨(id % 65536).toNat, by omega, by omega⟩
            have HI : Hid (MayI (i1 : Int)) := Lib.hid (by unfold MayI; omega)
            have hI2 : ¬ MayI (-1 - (i1 : Int)) := by unfold MayI; omega
            have HSN : Hid (symP i t S s M (-1 - (i1 : Int)) = []) := Lib.hid (by unfold symP; rw [if_neg hI2])
            have HI1 := Lib.hid hi1
            clear hi1 hI2 HZO
            go_wp2_with fail
            refine (within_any id 65536 (by omega) (by omega) _).mono ?_
            rintro e w' ⟨rfl, rfl⟩
            rw [HI1.out]
            go_wp2_with fail
            refine (HT.out.row i t S s i1 _ HS.out ⟨by omega, by omega⟩).mono ?_
            rintro e w2 ⟨v2, rfl, hn2⟩
            obtain ⟨o2, m2, c2', rfl⟩ := Bs.form4 (New.bs hn2)
            have NW := Lib.hid hn2
            have HG2 := Lib.hid (Gr.trans HGO.out hn2.1)
            have HP2 := Lib.hid (HPO.out.grown hn2.1)
            have HA2 := Lib.hid (HE.out.grown HAO.out hn2.1)
            have HF2 := Lib.hid (IsF.grown HFO.out hn2.1)
            clear hn2 HGO HPO HAO HFO c0 c1 c2
            go_wp2_with fail
            have hga : Gr w2 (w2.alloc (.cells #[.slice o2 m2 c2'] 23)) := Gr.alloc (Gr.refl _) _ _
            have HB1 := Lib.hid (bss_one (New.bs NW.out))
            have HG3 := Lib.hid (Gr.trans HG2.out hga)
            have HA3 := Lib.hid (HE.out.grown HA2.out hga)
            have HF3 := Lib.hid (IsF.grown HF2.out hga)
            clear hga HG2 HP2 HA2 HF2
            generalize w2.alloc (.cells #[.slice o2 m2 c2'] 23) = W3 at *
            generalize w2.heap.size = gr at *
            refine (HE.out.mid _ F i t S s M _ HM.out HS.out HA3.out HMI.out.wide HMI.out.len).mono ?_
            rintro e w4 ⟨v4, rfl, hr4, hg4⟩
            obtain ⟨o4, m4, c4, rfl⟩ := hr4.bss.form3
            have HM4 := Lib.hid hr4.bss
            have HB4 := Lib.hid (HB1.out.grown hg4)
            have HG4 := Lib.hid (Gr.trans HG3.out hg4)
            have HA4 := Lib.hid (HE.out.grown HA3.out hg4)
            have HF4 := Lib.hid (IsF.grown HF3.out hg4)
            clear hr4 hg4 HB1 HG3 HA3 HF3
            go_wp2_with fail
            have hrw := rowP_wide HM.out HI.out s
            have hwr : Wide N [rowP i t S s i1] := fun r hr => by
              obtain rfl : r = _ := by simpa using hr
              exact ⟨by rw [hrw.1]; exact HN.out, hrw.2⟩
            have hwdA : wd [rowP i t S s i1] = N := hwr.wd (by simp)
            refine (HR.out.mul _ _ _ [rowP i t S s i1] M _ HF4.out HB4.out HM4.out (by simp) (by rw [HML.out]; omega) (hwr.may (by omega)) HMM.out (.inr (by rw [hwdA, HML.out]))).mono ?_
            rw [HWM.out]
            rintro e w5 ⟨v5, out, rfl, hb5, hg5, hmul⟩
            obtain rfl := mul_sym HM.out HMI.out.wide HMI.out.len HI.out hmul
            obtain ⟨Y, hY⟩ : ∃ Y, symP i t S s M i1 = Y := ⟨_, rfl⟩
            have HY := Lib.hid hY
            rw [hY] at hb5
            have hb6 := hb5
            obtain ⟨o5, c5, hf5, _⟩ := hb6
            rw [show ([Y] : List (List Int)).length = 1 from rfl] at hf5
            subst hf5
            have HW5 := Lib.hid hb5
            have HG5 := Lib.hid (Gr.trans HG4.out hg5)
            have HA5 := Lib.hid (HE.out.grown HA4.out hg5)
            clear hb5 hg5 hmul hwdA hwr hrw HM4 HB4 HG4 HA4 HF4 hY
            obtain ⟨aw, rfl⟩ := HW5.out.addr (by omega)
            obtain ⟨uw, q1, hbu⟩ := HW5.out.rowAt (i := 0) (by omega)
            rw [show ([Y] : List (List Int)).getD 0 [] = Y from rfl] at hbu
            rw [addr_zero] at q1
            obtain ⟨ou, mu, cu, rfl⟩ := Bs.form4 hbu
            have HBU := Lib.hid hbu
            have HII : Hid (I64 (i1 : Int)) := Lib.hid ⟨by omega, by omega⟩
            have HIN : Hid (I64 (-1 - (i1 : Int))) := Lib.hid ⟨by omega, by omega⟩
            have hwn : IntKind.i64.wrap (-1 - (i1 : Int)) = -1 - (i1 : Int) := by simp [IntKind.wrap, IntKind.bits, IntKind.signed]; omega
            clear hbu
            go_wp2_with fail
            go_region_held3 (fun W => W.cell? aw = some (.slice ou mu cu)) (first | exact k4 | exact k3 | exact k2 | exact k1 | go_keep)
              (first
                | (go_at_call 11; refine (encWakes_any HE.out _).mono ?_; rintro e v4 ⟨rfl, hg4⟩; have k4 := cell_grown hg4 (by exact k3); have V4 : Hid (Gr v3 v4) := Lib.hid hg4)
                | (go_at_call 14; have h2 := V2; refine (HE.out.symbol _ F i t S s M (-1 - (i1 : Int)) _ HM.out HS.out (HE.out.grown HA5.out (Gr.trans V1.out V2.out)) HMI.out.wide HMI.out.len HIN.out).mono ?_; rw [HSN.out]; rintro e v3 ⟨y3, rfl, hn3⟩; have hg3 := hn3.1; have k3 := cell_grown hg3 (by exact k2); obtain ⟨o3, d3, rfl⟩ := New.empty hn3; have V3 : Hid (Gr v2 v3) := Lib.hid hg3; clear hn3)
                | (go_at_call 13; refine (same_any _ _ Y Y _ (by exact Bs.grown HBU.out V1.out) B1.out).mono ?_; rw [beq_self_eq_true]; rintro e v2 ⟨rfl, hg2⟩; have k2 := cell_grown hg2 (by exact k1); have V2 : Hid (Gr v1 v2) := Lib.hid hg2)
                | (go_at_call 14; refine (HE.out.symbol _ F i t S s M i1 _ HM.out HS.out (HE.out.grown HA5.out (Gr.drew (Gr.refl _))) HMI.out.wide HMI.out.len HII.out).mono ?_; rw [HY.out]; rintro e v1 ⟨y1, rfl, hn1⟩; have hg1 := hn1.1; have k1 := cell_grown hg1 (by exact q1); obtain ⟨o1', m1', d1', rfl⟩ := Bs.form4 (New.bs hn1); have B1 := Lib.hid (New.bs hn1); have V1 : Hid (Gr w5 v1) := Lib.hid (by exact hg1); clear hn1))
            all_goals
              have HGZ := Lib.hid (Gr.trans HG5.out (Gr.trans V1.out (Gr.trans V2.out (Gr.trans V3.out V4.out))))
              go_wp2_with fail
              go_ret
              exact ⟨rfl, HGZ.out⟩
  · refine (HE.out.newSeed K H S s _ X _ HS.out HBX.out HM.out (by rw [HXL.out, HQ.out]) hr).mono ?_
    rintro e w4 ⟨rfl, hg4⟩
    have HP4 := Lib.hid (HP3.out.grown hg4)
    have HG4 := Lib.hid (Gr.trans HG3.out hg4)
    have HRF := Lib.hid (decide_eq_false hr)
    clear hg4 hr HP3 HG3 c0 c1 c2
    have c0 := HP4.out.cell0
    have c1 := HP4.out.cell1
    have c2 := HP4.out.cell2
    go_wp2_with fail
    refine (HO.out.right K H S s _ HS.out).mono ?_
    rw [HRF.out]
    rintro e w5 ⟨rfl, hg5⟩
    have HG5 := Lib.hid (Gr.trans HG4.out hg5)
    clear hg5 c0 c1 c2
    go_wp2_with fail
    refine (encWakes_any HE.out _).mono ?_
    rintro e w6 ⟨rfl, hg6⟩
    have HG6 := Lib.hid (Gr.trans HG5.out hg6)
    clear hg6
    go_wp2_with fail
    go_ret
    exact ⟨rfl, HG6.out⟩
end Go.Proofs.Ytbabecjphmmngaa
