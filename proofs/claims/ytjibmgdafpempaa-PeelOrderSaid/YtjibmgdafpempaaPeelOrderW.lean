/-
  wellspringlaw12.PeelOrder: the walk.
-/
import Derived.Test.YtjibmgdafpempaaMgl
namespace Go.Proofs.Ytjibmgdafpempaa
open Go.RowKit

theorem peelT_order {N S : Nat} {vs : List (List Int)} {Le Lf : List Eqn} {kn kn2 : List Bool} {us us2 : List (List Int)} {rs rs2 : List Eqn} (h : PeelT N S vs Le kn us rs) (h2 : PeelT N S vs Lf kn2 us2 rs2) (hs : ∀ q, q ∈ Le ↔ q ∈ Lf) : kn = kn2 ∧ us = us2 := by
  have hc := PL.Der.congr (L := Le.map toE) (L' := Lf.map toE) (fun q => by
    constructor
    · intro hq
      obtain ⟨r, hr, rfl⟩ := List.mem_map.1 hq
      exact List.mem_map.2 ⟨r, (hs r).1 hr, rfl⟩
    · intro hq
      obtain ⟨r, hr, rfl⟩ := List.mem_map.1 hq
      exact List.mem_map.2 ⟨r, (hs r).2 hr, rfl⟩)
  have e1 : kn = kn2 := eq_of_getDb (by rw [h.len, h2.len]) fun x _ => by
    rw [Bool.eq_iff_iff, h.der, h2.der, hc]
  subst e1
  refine ⟨rfl, ?_⟩
  have hl : us.length = us2.length := by rw [h.ulen, h2.ulen]
  apply List.ext_getElem hl
  intro x h3 h4
  have key : us.getD x [] = us2.getD x [] := by
    cases hk : kn.getD x false with
    | false => rw [h.no x hk, h2.no x hk]
    | true => rw [h.val x hk, h2.val x hk]
  rw [List.getD_eq_getElem?_getD, List.getD_eq_getElem?_getD, List.getElem?_eq_getElem h3, List.getElem?_eq_getElem h4] at key
  exact key
theorem peelT_rest {N S : Nat} {vs : List (List Int)} {Le : List Eqn} {kn kn2 : List Bool} {us us2 : List (List Int)} {rs rs2 : List Eqn} (h : PeelT N S vs Le kn us rs) (h2 : PeelT N S vs rs kn2 us2 rs2) : (∀ c, kn2.getD c false = false) ∧ rs2 = rs := by
  have hn : ∀ c, kn2.getD c false = false := fun c => by
    cases hk : kn2.getD c false with
    | false => rfl
    | true =>
      refine absurd ((h2.der c).1 hk) (PL.none_of_two (fun q hq => ?_) c)
      obtain ⟨r, hr, rfl⟩ := List.mem_map.1 hq
      obtain ⟨h3, h4, _⟩ := h.two r hr
      exact ⟨by rw [show (toE r).cols = r.c.map Int.toNat from rfl, List.length_map]; exact h3, mayRow_nodup h4.1⟩
  refine ⟨hn, ?_⟩
  rw [h2.left]
  have ho : ∀ c, openL kn2 c = c := fun c => by
    unfold openL
    rw [List.filter_eq_self]
    intro x _
    rw [hn]
    rfl
  have hr : ∀ c d, restL kn2 us2 c d = d := fun c => by
    induction c with
    | nil => intro d; rfl
    | cons x c ih =>
      intro d
      show restL kn2 us2 c (if kn2.getD x.toNat false = true then _ else d) = d
      rw [hn, if_neg (by simp), ih]
  unfold leftE
  have hm : ∀ l : List Eqn, (∀ r ∈ l, 2 ≤ r.c.length) → ((l.filter fun q => decide (0 < (openL kn2 q.c).length)).map fun q => (⟨openL kn2 q.c, restL kn2 us2 q.c q.d⟩ : Eqn)) = l := fun l => by
    induction l with
    | nil => intro _; rfl
    | cons r l ih =>
      intro hl
      have h1 := hl r (by simp)
      rw [List.filter_cons_of_pos (by rw [ho]; simp; omega), List.map_cons, ih fun q hq => hl q (by simp [hq]), ho, hr]
  exact hm rs fun r hr => (h.two r hr).1
theorem EqsO.lies {base n c : Nat} {w : World} {o : Option Addr} {L : List Eqn} (h : EqsO base w (.slice o n c) L) : (o = none ∧ n = 0 ∧ c = 0) ∨ ∃ g, o = some ⟨g, 0, none⟩ ∧ n ≤ c := by
  obtain ⟨us, ⟨_, ⟨he, h0⟩ | ⟨g, c', cur, he, h1, h2, h3, _⟩⟩, _⟩ := h
  · cases he
    exact .inl ⟨rfl, rfl, rfl⟩
  · cases he
    exact .inr ⟨g, rfl, h3⟩
set_option maxRecDepth 100000 in
set_option maxHeartbeats 3200000 in
theorem peelOrder_walk (O : PeelOk) (n turn : Int) (vl vb : Value) (l b : List Int) (w : World) (hl : Zs w vl l) (hb : Bs w vb b) (hbl : b.length ≤ 9223372036854775807) :
    Calls Try.prog 5 #[.int .i64 n, vl, vb, .int .i64 turn] w fun e w' => e = .returned (.bool true) ∧ Gr w w' := by
  have HO := Lib.hid O
  have HL := Lib.hid hl
  have HB := Lib.hid hb
  have HBB := Lib.hid (hb.1)
  clear O hl hb
  obtain ⟨N, hN, hN1, hN2⟩ : ∃ N : Nat, 1 + n % 12 = (N : Int) ∧ 0 < N ∧ N ≤ 12 := ⟨(1 + n % 12).toNat, by omega, by omega, by omega⟩
  have HN := Lib.hid hN
  clear hN
  go_enter Try.func5, Try.ntmps5
  go_wp2_with fail
  refine (within_any n 12 (by omega) (by omega) _).mono ?_
  rintro e w' ⟨rfl, rfl⟩
  go_wp2_with fail
  rw [HN.out]
  refine (vals_any _ b N 1 _ HB.out (by omega) (by omega) hbl).mono ?_
  rintro e w1 ⟨v1, rfl, hr1, hg1⟩
  have hw1 := valsL_wide HBB.out N 1
  have hl1 := valsL_length b N 1
  generalize valsL b N 1 = vs at *
  obtain ⟨o1, c1, e1⟩ := hr1.form3
  rw [hl1] at e1
  subst e1
  have B1 := Lib.hid hr1.bss
  have G1 := Lib.hid hg1
  have HW := Lib.hid hw1
  have HVL := Lib.hid hl1
  clear hr1 hg1 hw1 hl1 hbl
  go_wp2_with fail
  refine (eqRows_any _ _ l vs N 1 20 _ (HL.out.grown G1.out) B1.out hN1 (by omega) HVL.out HW.out (by omega) (by omega)).mono ?_
  rintro e w2 ⟨v2, rfl, Le, ho2, hg2, hL1, hL2⟩
  obtain ⟨o2, c2, e2⟩ := ho2.form
  subst e2
  obtain ⟨R, hR⟩ : ∃ R, Le.length = R := ⟨_, rfl⟩
  rw [hR] at ho2 hL1 ⊢
  have E2 := Lib.hid ho2
  have G2 := Lib.hid (Gr.trans G1.out hg2)
  have G12 := Lib.hid hg2
  have HL2 := Lib.hid hL2
  have HRL := Lib.hid hR
  clear ho2 hg2 hL2 B1 G1 hR HL HB HBB
  obtain ⟨k, hk, hk2⟩ : ∃ k : Nat, turn % ((R : Int) + 1) = (k : Int) ∧ k ≤ R := by
    have h1 := Int.emod_nonneg turn (by omega : (R : Int) + 1 ≠ 0)
    have h2 := Int.emod_lt_of_pos turn (by omega : 0 < (R : Int) + 1)
    exact ⟨(turn % ((R : Int) + 1)).toNat, by omega, by omega⟩
  have HK := Lib.hid hk
  clear hk
  go_wp2_with fail
  refine (within_any turn ((R : Int) + 1) (by omega) (by omega) _).mono ?_
  rintro e w' ⟨rfl, rfl⟩
  rw [HK.out]
  go_upto_region 4 with fail
  go_cut [11] (fun ov wx => EqsO w2.heap.size wx ov (Le.drop k ++ Le) ∧ Gr w2 wx)
  case first =>
    rcases E2.out.lies with ⟨rfl, rfl, rfl⟩ | ⟨g2, rfl, hc2⟩
    · obtain rfl : Le = [] := List.eq_nil_of_length_eq_zero HRL.out
      go_wp2_with fail
      go_meet
      exact ⟨by rw [List.append_nil, List.drop_nil]; exact EqsO.nil _ _, Gr.refl _⟩
    · have hle : w1.heap.size ≤ w2.heap.size := G12.out.size
      have hV0 := E2.out.vals.mono hle
      obtain ⟨od, hod, hVd⟩ : ∃ od, (if c2 = k then some (⟨g2, 0, none⟩ : Addr) else some ⟨g2, k * 2, none⟩) = some od ∧ EqsV w2.heap.size w2 (some od) (R - k) (Le.drop k) := by
        by_cases e : c2 = k
        · rw [if_pos e]
          have h1 : R - k = 0 := by omega
          have h2 : Le.drop k = [] := List.drop_eq_nil_of_le (by rw [HRL.out]; omega)
          rw [h1, h2]
          exact ⟨_, rfl, EqsV.nil _ _ _⟩
        · rw [if_neg e]
          refine ⟨_, rfl, ?_⟩
          have h := hV0.drop k
          rw [Addr.add_mid, Nat.zero_add] at h
          exact h
      obtain ⟨y, hy⟩ : ∃ y, R - k = y := ⟨_, rfl⟩
      obtain ⟨z, hz⟩ : ∃ z, c2 - k = z := ⟨_, rfl⟩
      rw [hy] at hVd
      have VD := Lib.hid hVd
      have V0 := Lib.hid hV0
      have hyl : y ≤ 20 := by omega
      have HY : Hid (([] ++ Le.drop k : List Eqn).length = y) := Lib.hid (by rw [List.nil_append, List.length_drop, HRL.out]; exact hy)
      clear hVd hV0 hle
      go_wp2_with (first
        | (at_builtin; have hx5 := L5; refine wpList_append_eqs rfl _ _ rfl w2.heap.size (.slice o5 y c5) ([] ++ Le.drop k) Le rfl L5.out (some ⟨g2, 0, none⟩) R c2 rfl (V0.out.grown G5.out) (fun e => by cases e) (by rw [HY.out]; omega) G5.out.size ?_; intro v6 w6 h6 hg6 hgr6 hn6; have L6 := Lib.hid h6; have G6 := Lib.hid (hg6 w2 G5.out (Nat.le_refl _)); clear h6 hg6 hgr6 hn6)
        | (at_builtin; refine wpList_append_eqs rfl _ _ rfl w2.heap.size (.slice none 0 0) [] (Le.drop k) rfl (EqsO.nil _ _) (some od) y z rfl VD.out (fun e => by cases e) (by simp; omega) (Nat.le_refl _) ?_; intro v5 w5 h5 hg5 hgr5 hn5; have L5 := Lib.hid h5; have G5 := Lib.hid (hg5 w2 (Gr.refl _) (Nat.le_refl _)); clear h5 hg5 hgr5 hn5; obtain ⟨o5, c5, e5⟩ := L5.out.form; rw [HY.out] at e5; subst e5))
      go_meet
      exact ⟨L6.out, G6.out⟩
  case rest =>
    obtain ⟨hoo, hgc⟩ := hcut
    obtain ⟨ot, ct, et⟩ := hoo.form
    obtain ⟨T, hT⟩ : ∃ T, (Le.drop k ++ Le).length = T := ⟨_, rfl⟩
    have hTb : T ≤ 40 := by
      rw [← hT, List.length_append, List.length_drop, HRL.out]
      omega
    rw [hT] at et
    subst et
    have hmem : ∀ q, q ∈ Le ↔ q ∈ Le.drop k ++ Le := fun q => by
      rw [List.mem_append]
      exact ⟨.inr, fun h => h.elim (fun h => List.mem_of_mem_drop h) id⟩
    have hgo : ∀ q ∈ Le.drop k ++ Le, GoodE N 1 vs q := fun q hq => HL2.out q ((hmem q).2 hq)
    have OT := Lib.hid hoo.eqs
    have GC := Lib.hid (Gr.trans G2.out hgc)
    have EC := Lib.hid (E2.out.eqs.grown hgc)
    have HME := Lib.hid hmem
    have HGO := Lib.hid hgo
    have HTL := Lib.hid hT
    clear hoo hgc hmem hgo hT E2 G2 G12
    generalize Le.drop k ++ Le = Lf at *
    have HSM : Hid (∀ (M : List Eqn), (∀ q ∈ M, GoodE N 1 vs q) → ∀ q ∈ M, q.c.length ≤ 1000 ∧ q.d.length ≤ 1000) := Lib.hid fun M hM q hq => ⟨by have h := hM q hq; have := rising_le h.1.2 h.1.1; omega, by rw [(hM q hq).2.1]; omega⟩
    go_wp2_with fail
    refine (HO.out.peel N _ Le _ ⟨by omega, by omega⟩ EC.out (by rw [HRL.out]; omega) (HSM.out _ HL2.out)).mono ?_
    rintro e w3 ⟨vk1, vv1, vr1, x1, kn1, us1, rs1, rfl, hk1, hv1, hr1, hg1, hs1⟩
    obtain ⟨rfl, hT1⟩ := peel_true (by omega) HW.out HVL.out HL2.out hs1
    obtain ⟨ok1, ck1, e1⟩ := hk1.form3
    rw [hT1.len] at e1
    obtain ⟨ov1, nv1, cv1, rfl⟩ := hv1.form3
    obtain ⟨or1, cr1, e3⟩ := hr1.form
    obtain ⟨Q, hQ⟩ : ∃ Q, rs1.length = Q := ⟨_, rfl⟩
    have hQb : Q ≤ 20 := by
      rw [← hQ, hT1.left]
      exact Nat.le_trans (leftE_le _ _ _) (by rw [HRL.out]; exact hL1)
    rw [hQ] at e3
    subst e1 e3
    have K1 := Lib.hid hk1
    have V1 := Lib.hid hv1
    have R1 := Lib.hid hr1
    have T1 := Lib.hid hT1
    have HQL := Lib.hid hQ
    have G3 := Lib.hid hg1
    clear hk1 hv1 hr1 hT1 hQ hg1 hs1
    go_wp2_with fail
    refine (HO.out.peel N _ Lf _ ⟨by omega, by omega⟩ (OT.out.grown G3.out) (by rw [HTL.out]; omega) (HSM.out _ HGO.out)).mono ?_
    rintro e w4 ⟨vk2, vv2, vr2, x2, kn2, us2, rs2, rfl, hk2', hv2, hr2, hg2, hs2⟩
    obtain ⟨rfl, hT2⟩ := peel_true (by omega) HW.out HVL.out HGO.out hs2
    obtain ⟨rfl, rfl⟩ := peelT_order T1.out hT2 HME.out
    obtain ⟨ok2, ck2, e1⟩ := hk2'.form3
    rw [T1.out.len] at e1
    obtain ⟨ov2, nv2, cv2, rfl⟩ := hv2.form3
    obtain ⟨or2, cr2, e3⟩ := hr2.form
    subst e1 e3
    have K2 := Lib.hid hk2'
    have V2 := Lib.hid hv2
    have G4 := Lib.hid hg2
    clear hk2' hv2 hr2 hT2 hg2 hs2
    have hR14 := R1.out.grown G4.out
    have hGR : ∀ q ∈ rs1, GoodE N 1 vs q := fun q hq => (T1.out.two q hq).2.1
    go_wp2_with fail
    refine (HO.out.peel N _ rs1 _ ⟨by omega, by omega⟩ hR14 (by rw [HQL.out]; omega) (HSM.out _ hGR)).mono ?_
    rintro e w5 ⟨vk3, vv3, vr3, x3, kn3, us3, rs3, rfl, hk3, hv3, hr3, hg3, hs3⟩
    obtain ⟨rfl, hT3⟩ := peel_true (by omega) HW.out HVL.out hGR hs3
    obtain ⟨hno, rfl⟩ := peelT_rest T1.out hT3
    obtain ⟨ok3, ck3, e1⟩ := hk3.form3
    rw [hT3.len] at e1
    obtain ⟨ov3, nv3, cv3, rfl⟩ := hv3.form3
    obtain ⟨or3, cr3, e3⟩ := hr3.form
    rw [HQL.out] at e3
    subst e1 e3
    have K3 := Lib.hid hk3
    have R3 := Lib.hid hr3
    have G5 := Lib.hid hg3
    have HNO := Lib.hid hno
    clear hk3 hv3 hr3 hT3 hg3 hs3 hno hR14 hGR HSM
    go_wp2_with fail
    go_loopw [93] (fun iv W => ∃ c : Nat, c ≤ N ∧ iv = .int .i64 c ∧ w5 = W) (fun iv _ => N - (intOf iv).toNat)
    case atStart => exact ⟨0, by omega, rfl, rfl⟩
    case round =>
      obtain ⟨c, hc, rfl, rfl⟩ := hrel
      by_cases hlt : c < N
      · obtain ⟨ak, rfl⟩ := Bl.addr K3.out hN1
        have q1 := Bl.cellAt K3.out hlt
        rw [HNO.out] at q1
        go_wp2_with fail
        exact ⟨⟨c + 1, by omega, by go_num, trivial⟩, by simp [intOf]; omega⟩
      · obtain rfl : c = N := by omega
        go_wp2_with fail
        refine (sameB_any _ _ kn1 kn1 _ (K1.out.grown (Gr.trans G4.out G5.out)) (K2.out.grown G5.out)).mono ?_
        rw [beq_self_eq_true]
        rintro e w6 ⟨rfl, hg6⟩
        have G6 := Lib.hid hg6
        clear hg6
        go_wp2_with fail
        refine (rows_any _ _ us1 us1 _ (V1.out.grown (Gr.trans G4.out (Gr.trans G5.out G6.out))) (V2.out.grown (Gr.trans G5.out G6.out))).mono ?_
        rw [beq_self_eq_true]
        rintro e w7 ⟨rfl, hg7⟩
        have G7 := Lib.hid hg7
        clear hg7
        go_wp2_with fail
        refine (sameEqs_true _ _ rs3 _ (R1.out.grown (Gr.trans G4.out (Gr.trans G5.out (Gr.trans G6.out G7.out)))) (R3.out.grown (Gr.trans G6.out G7.out)) (by rw [HQL.out]; omega)).mono ?_
        rintro e w8 ⟨rfl, hg8⟩
        have G8 := Lib.hid hg8
        clear hg8
        go_wp2_with fail
        refine (peelWakes_any HO.out _).mono ?_
        rintro e w9 ⟨rfl, hg9⟩
        have G9 := Lib.hid (Gr.trans GC.out (Gr.trans G3.out (Gr.trans G4.out (Gr.trans G5.out (Gr.trans G6.out (Gr.trans G7.out (Gr.trans G8.out hg9)))))))
        clear hg9
        go_wp2_with fail
        go_ret
        exact ⟨rfl, G9.out⟩
end Go.Proofs.Ytjibmgdafpempaa
