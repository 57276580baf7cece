/-
  Law SystemOrder, walked.
-/
import Derived.Test.YtedobcajbelcpaaSystemGrowsW
import Derived.Deep.CutBlock
namespace Go.Proofs.Ytedobcajbelcpaa
open Go.RowKit

/-- Each ID that may be, and -1 behind it. -/
def othL (X : List Int) : List Int := X.flatMap fun i => if MayI i then [i, -1] else []
theorem othL_snoc (X : List Int) (x : Int) : othL (X ++ [x]) = othL X ++ if MayI x then [x, -1] else [] := by
  unfold othL
  rw [List.flatMap_append]
  simp
theorem othL_mem (X : List Int) {i : Int} (hi : MayI i) : i ∈ othL X ↔ i ∈ X := by
  unfold othL
  rw [List.mem_flatMap]
  constructor
  · rintro ⟨x, hx, h⟩
    by_cases hm : MayI x
    · rw [if_pos hm] at h
      simp at h
      rcases h with h | h
      · rw [h]; exact hx
      · unfold MayI at hi; omega
    · rw [if_neg hm] at h
      cases h
  · intro h
    exact ⟨i, h, by rw [if_pos hi]; simp⟩
theorem othL_length (X : List Int) : (othL X).length ≤ 2 * X.length := by
  induction X with
  | nil => simp [othL]
  | cons x X ih =>
    have : othL (x :: X) = (if MayI x then [x, -1] else []) ++ othL X := by unfold othL; rw [List.flatMap_cons]
    rw [this, List.length_append, List.length_cons]
    split <;> simp <;> omega
theorem othL_i64 {X : List Int} (h : ∀ x ∈ X, I64 x) : ∀ x ∈ othL X, I64 x := fun x hx => by
  obtain ⟨y, hy, h2⟩ := List.mem_flatMap.1 hx
  split at h2
  · simp at h2
    rcases h2 with rfl | rfl
    · exact h _ hy
    · exact ⟨by omega, by omega⟩
  · cases h2
set_option maxRecDepth 100000 in
set_option maxHeartbeats 3200000 in
theorem systemOrder_walk (O : SystemOk) (a b c sd : Int) (vl : Value) (l : List Int) (turn : Int) (w : World) (hz : Zs w vl l) :
    Calls Try.prog 3 #[.int .i64 a, .int .i64 b, .int .i64 c, .int .u64 sd, vl, .int .i64 turn] w fun e w' => e = .returned (.bool true) ∧ Gr w w' := by
  have HO := Lib.hid O
  have HZ := Lib.hid hz
  obtain ⟨ol, ml, cl, rfl⟩ : ∃ o m c, vl = .slice o m c := by
    obtain ⟨o, c, h⟩ := hz.form
    exact ⟨o, _, c, h⟩
  clear O hz
  obtain ⟨s0, hs0, hs1⟩ : ∃ s : Nat, sd % 4294967296 = s ∧ s < 4294967296 := ⟨(sd % 4294967296).toNat, by omega, by omega⟩
  have hw32 : IntKind.u32.wrap sd = (s0 : Int) := by rw [← hs0]; simp [IntKind.wrap, IntKind.bits, IntKind.signed]
  obtain ⟨K, hK, K1, K2⟩ : ∃ K : Nat, 1 + a % 16 = K ∧ 1 ≤ K ∧ K ≤ 16 := ⟨(1 + a % 16).toNat, by omega, by omega, by omega⟩
  obtain ⟨H, hH, H1, H2⟩ : ∃ K : Nat, 1 + b % 4 = K ∧ 1 ≤ K ∧ K ≤ 4 := ⟨(1 + b % 4).toNat, by omega, by omega, by omega⟩
  obtain ⟨S, hS, S1, S2⟩ : ∃ K : Nat, 1 + c % 24 = K ∧ 1 ≤ K ∧ K ≤ 24 := ⟨(1 + c % 24).toNat, by omega, by omega, by omega⟩
  go_enter Try.func3, Try.ntmps3
  go_wp2_with fail
  refine (params_any a b c _).mono ?_
  rintro e w1 ⟨rfl, hg⟩
  rw [hK, hH, hS]
  clear hK hH hS
  go_wp2_with fail
  have HP : Hid (Par (w1.alloc (.cells #[.int .i64 (K : Int), .int .i64 (H : Int), .int .i64 (S : Int)] 25)) w1.heap.size K H S) := Lib.hid (heap_alloc_new _ _)
  have HG : Hid (Gr w (w1.alloc (.cells #[.int .i64 (K : Int), .int .i64 (H : Int), .int .i64 (S : Int)] 25))) := Lib.hid (Gr.alloc hg _ _)
  clear hg
  generalize w1.alloc (.cells #[.int .i64 (K : Int), .int .i64 (H : Int), .int .i64 (S : Int)] 25) = W0 at *
  generalize w1.heap.size = gp at *
  refine (ids_any _ l 24 _ (HZ.out.grown HG.out) (by omega)).mono ?_
  rintro e w3 ⟨u3, rfl, ho3, hg3⟩
  obtain ⟨J, hJ⟩ : ∃ J, idsL l 24 = J := ⟨_, rfl⟩
  have hJ20 : J.length ≤ 24 := by rw [← hJ]; exact idsL_le l 24
  have HJI : Hid (∀ x ∈ J, I64 x) := Lib.hid (by rw [← hJ]; exact idsL_i64 HZ.out.1 24)
  rw [hJ] at ho3
  obtain ⟨n, hn⟩ : ∃ n, J.length = n := ⟨_, rfl⟩
  have HZJ := Lib.hid (owns_zs ho3 rfl HJI.out)
  rw [hn] at ho3 hJ20
  obtain ⟨o3, c3, rfl⟩ := ownsRow_form'' ho3
  have HNN := Lib.hid hn
  have HP3 := Lib.hid (HP.out.grown hg3)
  have HG3 := Lib.hid (Gr.trans HG.out hg3)
  clear hJ ho3 hg3 hn HP HG
  go_wp2_with fail
  refine (within_any turn ((n : Int) + 1) (by omega) (by omega) _).mono ?_
  rintro e w' ⟨rfl, rfl⟩
  obtain ⟨k, hk, hk2⟩ : ∃ k : Nat, turn % ((n : Int) + 1) = k ∧ k ≤ n := ⟨(turn % ((n : Int) + 1)).toNat, by have := Int.emod_nonneg turn (by omega : (n : Int) + 1 ≠ 0); omega, by have := Int.emod_lt_of_pos turn (by omega : 0 < (n : Int) + 1); have := Int.emod_nonneg turn (by omega : (n : Int) + 1 ≠ 0); omega⟩
  rw [hk]
  clear hk
  go_upto_region 5 with fail
  obtain ⟨X, hX⟩ : ∃ X, J.drop k ++ J = X := ⟨_, rfl⟩
  obtain ⟨N, hN⟩ : ∃ N, n - k + n = N := ⟨_, rfl⟩
  have HXL : Hid (X.length = N) := Lib.hid (by rw [← hX, List.length_append, List.length_drop, HNN.out, hN])
  have HXM : Hid (∀ i, MayI i → (i ∈ othL X ↔ i ∈ J)) := Lib.hid (fun i hi => by
    rw [othL_mem X hi, ← hX, List.mem_append]
    exact ⟨fun h => h.elim (fun h => List.mem_of_mem_drop h) id, .inr⟩)
  have HXI : Hid (∀ x ∈ X, I64 x) := Lib.hid (fun x hx => by
    rw [← hX, List.mem_append] at hx
    exact HJI.out x (hx.elim (fun h => List.mem_of_mem_drop h) id))
  have HX := Lib.hid hX
  have HN := Lib.hid hN
  have hN48 : N ≤ 48 := by omega
  clear hX
  go_cut [36, 37, 38] (fun s t u wx => ∃ o c, s = .slice o N c ∧ t = .int .i64 N ∧ u = .int .i64 0 ∧ Zs wx s X ∧ Gr w3 wx)
  case first =>
    have hfin : ∀ (v7 v8 : Value) (w7 w8 : World) (m1 : Nat), m1 + n = N → w7.ownsRow w3.heap.size 3 1 v7 m1 (([] ++ J.drop k).map (Value.int .i64)) → w3.grownBy w7 (Value.slice none 0 0).ownBlock → w8.ownsRow w3.heap.size 3 1 v8 (m1 + n) ((([] ++ J.drop k) ++ J).map (Value.int .i64)) → w7.grownBy w8 v7.ownBlock → Zs w8 v8 X ∧ Gr w3 w8 := fun v7 v8 w7 w8 m1 hm h1 h2 h3 h4 => by
      have g7 : Gr w3 w7 := gr_by_own (Gr.refl _) h2 (World.ownsRow_nil w3 w3.heap.size 3 1) (Nat.le_refl _)
      refine ⟨owns_zs (n := m1 + n) (by rw [List.nil_append, HX.out] at h3; exact h3) (by rw [HXL.out, hm]) HXI.out, gr_by_own g7 h4 h1 (Nat.le_refl _)⟩
    rcases o3 with _ | b3
    · have hn0 := (HZJ.out.parts).2.2.2.1 rfl
      obtain ⟨rfl, rfl⟩ := hn0
      obtain rfl : k = 0 := by omega
      obtain rfl : N = 0 := by omega
      go_wp2_with (first
        | (at_builtin; refine wpList_append_zs rfl _ _ rfl w3.heap.size (.slice none 0 0) 0 [] rfl (World.ownsRow_nil _ _ _ _) none 0 0 (J.drop 0) rfl (by rw [List.drop_zero]; exact HZJ.out) (by omega) (Nat.le_refl _) ?_; intro v7 w7 hown7 hgrow7; obtain ⟨o7, d7, rfl⟩ := ownsRow_form'' hown7; have O7 := Lib.hid hown7; have G7 := Lib.hid hgrow7; clear hown7 hgrow7)
        | (at_builtin; refine wpList_append_zs rfl _ _ rfl w3.heap.size (.slice o7 (0 + 0) d7) (0 + 0) ([] ++ J.drop 0) rfl O7.out none 0 0 J rfl (HZJ.out.grown (gr_by_own (Gr.refl _) G7.out (World.ownsRow_nil w3 w3.heap.size 3 1) (Nat.le_refl _))) (by omega) (G7.out.size) ?_; intro v8 w8 hown8 hgrow8; have F8 := Lib.hid (hfin _ _ _ _ _ rfl O7.out G7.out hown8 hgrow8); obtain ⟨o8, d8, rfl⟩ := ownsRow_form'' hown8; clear hown8 hgrow8))
      go_meet
      exact ⟨o8, d8, by simp, rfl, rfl, F8.out.1, F8.out.2⟩
    · obtain ⟨_, hnc, _, _, _⟩ := HZJ.out.parts
      have b1 : (k : Int) ≤ n := by omega
      have b2 : (n : Int) ≤ c3 := by omega
      have hkc : (k : Int) ≤ c3 := by omega
      obtain ⟨od, hod⟩ : ∃ od, (if c3 = k then some b3 else some (b3.add k)) = some od := ⟨if c3 = k then b3 else b3.add k, by split <;> rfl⟩
      have hzd := HZJ.out.drop hk2
      rw [hod] at hzd
      obtain ⟨y, hy⟩ : ∃ y, n - k = y := ⟨_, rfl⟩
      obtain ⟨z, hz⟩ : ∃ z, c3 - k = z := ⟨_, rfl⟩
      have hyn : y + n = N := by omega
      rw [hy, hz] at hzd
      have HZD := Lib.hid hzd
      clear hzd
      go_wp2_with (first
        | (at_builtin; refine wpList_append_zs rfl _ _ rfl w3.heap.size (.slice none 0 0) 0 [] rfl (World.ownsRow_nil _ _ _ _) (some od) y z (J.drop k) rfl HZD.out (by omega) (Nat.le_refl _) ?_; intro v7 w7 hown7 hgrow7; rw [Nat.zero_add] at hown7; obtain ⟨o7, d7, rfl⟩ := ownsRow_form'' hown7; have O7 := Lib.hid hown7; have G7 := Lib.hid hgrow7; clear hown7 hgrow7)
        | (at_builtin; refine wpList_append_zs rfl _ _ rfl w3.heap.size (.slice o7 y d7) y ([] ++ J.drop k) rfl O7.out (some b3) n c3 J rfl (HZJ.out.grown (gr_by_own (Gr.refl _) G7.out (World.ownsRow_nil w3 w3.heap.size 3 1) (Nat.le_refl _))) (by omega) (G7.out.size) ?_; intro v8 w8 hown8 hgrow8; have F8 := Lib.hid (hfin _ _ _ _ _ (by omega) O7.out G7.out hown8 hgrow8); obtain ⟨o8, d8, rfl⟩ := ownsRow_form'' hown8; clear hown8 hgrow8))
      go_meet
      exact ⟨o8, d8, rfl, rfl, rfl, by have := F8.out.1; rwa [hyn] at this, F8.out.2⟩
  case rest =>
    obtain ⟨oX, cX, rfl, rfl, rfl, hzx, hgx⟩ := hcut
    have HZX := Lib.hid hzx
    have HGX := Lib.hid (Gr.trans HG3.out hgx)
    have HPX := Lib.hid (HP3.out.grown hgx)
    have HZI := Lib.hid (HZJ.out.grown hgx)
    clear hzx hgx HP3 HG3 HZJ hN HN HX
    obtain ⟨fb, hfb⟩ : ∃ fb, decide (FullP K H S s0 J) = fb := ⟨_, rfl⟩
    obtain ⟨r, hr⟩ : ∃ r, rkL (matP K H S s0 J) = r := ⟨_, rfl⟩
    have HFA : Hid (decide (FullP K H S s0 (othL X)) = fb) := Lib.hid (by rw [← hfb]; exact decide_eq_decide.2 (fullP_mem HXM.out))
    have HRA : Hid (rkL (matP K H S s0 (othL X)) = r) := Lib.hid (by rw [← hr]; exact rk_matP_mem HXM.out)
    have HFB := Lib.hid hfb
    have HRB := Lib.hid hr
    clear hfb hr
    go_wp2_with fail
    go_loopw [16, 38] (fun ov iv W => ∃ i : Nat, i ≤ N ∧ iv = .int .i64 i ∧ W.ownsRow wc.heap.size 3 1 ov (othL (X.take i)).length ((othL (X.take i)).map (Value.int .i64)) ∧ Gr wc W) (fun _ iv _ => N - (intOf iv).toNat)
    case atStart => exact ⟨0, by omega, rfl, World.ownsRow_nil _ _ _ _, Gr.refl _⟩
    case round =>
      obtain ⟨wo, hwo⟩ : ∃ x, x = wr := ⟨_, rfl⟩
      subst hwo
      obtain ⟨i, hi, rfl, ho, hg⟩ := hrel
      obtain ⟨m, hm⟩ : ∃ m, (othL (X.take i)).length = m := ⟨_, rfl⟩
      rw [hm] at ho
      obtain ⟨oo, co, rfl⟩ := ownsRow_form'' ho
      have hm96 : m ≤ 96 := by
        rw [← hm]
        have := othL_length (X.take i)
        rw [List.length_take] at this
        omega
      have HM := Lib.hid hm
      have HOW := Lib.hid ho
      have HGO := Lib.hid hg
      clear ho hg hm
      by_cases hlt : i < N
      · obtain ⟨ax, rfl⟩ := HZX.out.addr (by omega)
        have q1 := cell_grown HGO.out (HZX.out.cellAt hlt)
        obtain ⟨x, hx⟩ : ∃ x, X.getD i 0 = x := ⟨_, rfl⟩
        have HXX : Hid (I64 x) := Lib.hid (by rw [← hx]; exact HXI.out _ (by rw [List.getD_eq_getElem?_getD, List.getElem?_eq_getElem (by rw [HXL.out]; exact hlt)]; exact List.getElem_mem _))
        have HS : Hid (othL (X.take (i + 1)) = othL (X.take i) ++ if MayI x then [x, -1] else []) := Lib.hid (by
          rw [← othL_snoc, List.take_add_one, List.getElem?_eq_getElem (by rw [HXL.out]; exact hlt), ← hx, List.getD_eq_getElem?_getD, List.getElem?_eq_getElem (by rw [HXL.out]; exact hlt)]
          rfl)
        rw [hx] at q1
        clear hx
        by_cases h0 : 0 ≤ x
        · by_cases h1 : x ≤ 65535
          · go_wp2_with (at_builtin; refine wpList_append_zs rfl _ _ rfl wc.heap.size (.slice oo m co) m (othL (X.take i)) rfl (HOW.out.of_gr (Gr.alloc (Gr.refl _) _ _)) _ 2 2 [x, -1] rfl (two_zs _ _ HXX.out ⟨by omega, by omega⟩) (by omega) (by have := HGO.out.size; simp; omega) ?_; intro v2 w2 hown hgrow; have O2 := Lib.hid hown; have G2 := Lib.hid (gr_by_own (Gr.alloc HGO.out _ _) hgrow (HOW.out.of_gr (Gr.alloc (Gr.refl _) _ _)) (Nat.le_refl _)); clear hown hgrow)
            refine ⟨⟨i + 1, by omega, by go_num, ?_, G2.out⟩, by simp [intOf]; omega⟩
            rw [HS.out, if_pos ⟨h0, h1⟩, List.length_append, HM.out]
            exact O2.out
          · go_wp2_with fail
            refine ⟨⟨i + 1, by omega, by go_num, ?_, HGO.out⟩, by simp [intOf]; omega⟩
            rw [HS.out, if_neg (fun h => h1 h.2), List.append_nil, HM.out]
            exact HOW.out
        · go_wp2_with fail
          refine ⟨⟨i + 1, by omega, by go_num, ?_, HGO.out⟩, by simp [intOf]; omega⟩
          rw [HS.out, if_neg (fun h => h0 h.1), List.append_nil, HM.out]
          exact HOW.out
      · obtain rfl : i = N := by omega
        have htk : X.take i = X := List.take_of_length_le (by rw [HXL.out]; exact Nat.le_refl _)
        rw [htk] at HM HOW
        have HZO := Lib.hid (owns_zs HOW.out HM.out (othL_i64 HXI.out))
        have HZ2 := Lib.hid (HZI.out.grown HGO.out)
        have HP2 := Lib.hid (HPX.out.grown HGO.out)
        have HG2 := Lib.hid (Gr.trans HGX.out HGO.out)
        have c0 := HP2.out.cell0
        have c1 := HP2.out.cell1
        have c2 := HP2.out.cell2
        clear htk HOW
        go_wp2_with fail
        go_region_held3 (fun W => W.cell? ⟨gp, 0, none⟩ = some (.int .i64 (K : Int)) ∧ W.cell? ⟨gp, 1, none⟩ = some (.int .i64 (H : Int)) ∧ W.cell? ⟨gp, 2, none⟩ = some (.int .i64 (S : Int))) (first | exact ⟨k50, k51, k52⟩ | exact ⟨k40, k41, k42⟩ | exact ⟨k30, k31, k32⟩ | exact ⟨k20, k21, k22⟩ | exact ⟨k10, k11, k12⟩ | go_keep)
          (first
            | (go_at_call 12; refine (sysWakes_any HO.out _).mono ?_; rintro e v5 ⟨rfl, hg5⟩; have k50 := cell_grown hg5 (by exact k40); have k51 := cell_grown hg5 (by exact k41); have k52 := cell_grown hg5 (by exact k42); have V5 : Hid (Gr v4 v5) := Lib.hid hg5)
            | (go_at_call 11; have h3 := V3; refine (HO.out.full K H S s0 _ J _ hs1 (by exact HZ2.out.grown (Gr.trans V1.out (Gr.trans V2.out V3.out))) (by rw [HNN.out]; omega)).mono ?_; rw [HFB.out]; rintro e v4 ⟨rfl, hg4⟩; have k40 := cell_grown hg4 (by exact k30); have k41 := cell_grown hg4 (by exact k31); have k42 := cell_grown hg4 (by exact k32); have V4 : Hid (Gr v3 v4) := Lib.hid hg4)
            | (go_at_call 11; have h2 := V2; refine (HO.out.full K H S s0 _ (othL X) _ hs1 (by exact HZO.out.grown (Gr.trans V1.out V2.out)) (by rw [HM.out]; omega)).mono ?_; rw [HFA.out]; rintro e v3 ⟨rfl, hg3⟩; have k30 := cell_grown hg3 (by exact k20); have k31 := cell_grown hg3 (by exact k21); have k32 := cell_grown hg3 (by exact k22); have V3 : Hid (Gr v2 v3) := Lib.hid hg3)
            | (go_at_call 10; have h1 := V1; refine (HO.out.rank K H S s0 _ J _ hs1 (by exact HZ2.out.grown V1.out) (by rw [HNN.out]; omega)).mono ?_; rw [HRB.out]; rintro e v2 ⟨rfl, hg2⟩; have k20 := cell_grown hg2 (by exact k10); have k21 := cell_grown hg2 (by exact k11); have k22 := cell_grown hg2 (by exact k12); have V2 : Hid (Gr v1 v2) := Lib.hid hg2)
            | (go_at_call 10; refine (HO.out.rank K H S s0 _ (othL X) _ hs1 (by exact HZO.out) (by rw [HM.out]; omega)).mono ?_; rw [HRA.out]; rintro e v1 ⟨rfl, hg1⟩; have k10 := cell_grown hg1 (by exact c0); have k11 := cell_grown hg1 (by exact c1); have k12 := cell_grown hg1 (by exact c2); have V1 : Hid (Gr wo v1) := Lib.hid (by exact hg1)))
        all_goals
          have HGZ := Lib.hid (Gr.trans HG2.out (Gr.trans V1.out (Gr.trans V2.out (Gr.trans V3.out (Gr.trans V4.out V5.out)))))
          go_wp2_with fail
          go_ret
          exact ⟨rfl, HGZ.out⟩
end Go.Proofs.Ytedobcajbelcpaa
