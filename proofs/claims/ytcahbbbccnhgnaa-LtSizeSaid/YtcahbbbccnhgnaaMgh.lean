/-
  Texts laid behind one another: Se Pc.
-/
import Derived.Test.YtcahbbbccnhgnaaMgg
import Derived.Test.YtcahbbbccnhgnaaMgf
namespace Go.Proofs.Ytcahbbbccnhgnaa
open Go.RowKit

set_option maxHeartbeats 800000 in
theorem draw_deg {At : World → Value → (Nat → Prop) → Nat → Prop} (D : DrawOk At) (v d : Value) (t : List Int) (F : Nat → Prop) (s : Nat) (w : World) (hs : s < 18446744073709551616) (h : Zs w v t) (ht : Top t) (hl : t.length ≤ 1000) (ha : AwayZ F v) (hd : At w d F s) :
    Calls Try.prog 21 #[v, d] w fun e w' => e = .returned (.int .i64 (drawV t s)) ∧ At w' d F (drawS t s) ∧ Kp F w w' := by
  by_cases h0 : t = []
  · subst h0
    obtain ⟨oa, c, rfl⟩ := h.form
    have HD := Lib.hid hd
    clear h hd ht ha
    rw [show drawV [] s = 0 from if_pos rfl, show drawS [] s = s from if_pos rfl]
    go_enter Try.func21, Try.ntmps21
    go_wp2
    go_ret
    exact ⟨rfl, HD.out, Kp.refl _ _⟩
  · have e1 : drawV t s = T.deg t (belowV s (lastZ' t)) := if_neg h0
    have e2 : drawS t s = belowS s (lastZ' t) := if_neg h0
    rw [e1, e2]
    have hn0 : 0 < t.length := List.length_pos_iff.2 h0
    have hrng := h.rng (t.length - 1) (by omega)
    rw [show t.getD (t.length - 1) 0 = lastZ' t from rfl] at hrng
    obtain ⟨oa, c, rfl⟩ := h.form
    have hbz : (((t.length : Nat) : Int) == 0) = false := by simp; exact h0
    obtain ⟨ad, rfl⟩ := D.ptr hd
    have HZ := Lib.hid h
    have HD := Lib.hid hd
    have HL0 := Lib.hid hl
    obtain ⟨y, hy⟩ : ∃ y, lastZ' t = y := ⟨_, rfl⟩
    have HAW := Lib.hid ha
    have HT := Lib.hid ht
    have HOK := Lib.hid D
    have HBV : Hid (I64 (belowV s (lastZ' t))) := Lib.hid (by
      have hr : I64 (lastZ' t) := hrng
      unfold I64 at *
      unfold belowV
      split
      · omega
      · rename_i hp
        have a1 := Int.emod_nonneg ((topS (nextS s) : Nat) : Int) (by omega : lastZ' t ≠ 0)
        have a2 := Int.emod_lt_of_pos ((topS (nextS s) : Nat) : Int) (by omega : 0 < lastZ' t)
        omega)
    rw [hy] at hrng HBV ⊢
    have HY := Lib.hid hy
    unfold I64 at hrng
    clear h hd ha ht hl D e1 e2 h0 hy
    generalize hn : t.length = n at *
    have HL1 : Hid (t.length ≤ 1000) := Lib.hid (by rw [hn]; exact HL0.out)
    clear hn HL0
    go_enter Try.func21, Try.ntmps21
    go_wp2_with fail
    refine (last_any _ t _ HZ.out HL1.out).mono ?_
    rw [HY.out]
    rintro e w1 ⟨rfl, hg1⟩
    have HD1 := Lib.hid (HOK.out.keep HD.out (hg1.kp fun _ => False) fun _ _ e => e)
    have HZ1 := Lib.hid (HZ.out.grown hg1)
    have G1 := Lib.hid hg1
    clear hg1
    go_wp2_with fail
    refine (HOK.out.below _ F s y _ hs hrng.2 hrng.1 HD1.out).mono ?_
    rintro e w2 ⟨rfl, hd2, hk2⟩
    have HD2 := Lib.hid hd2
    have HK2 := Lib.hid (((G1.out.kp F)).trans hk2 fun k e => .inl e)
    have HZ2 := Lib.hid (HZ1.out.kp hk2 HAW.out)
    clear hd2 hk2
    go_wp2_with fail
    refine (degree_any _ t _ _ HZ2.out HT.out HL1.out HBV.out).mono ?_
    rintro e w3 ⟨rfl, hg3⟩
    have HD3 := Lib.hid (HOK.out.keep HD2.out (hg3.kp fun _ => False) fun _ _ e => e)
    have HK3 := Lib.hid (HK2.out.trans (hg3.kp F) fun k e => .inl e)
    clear hg3
    go_wp2
    go_ret
    exact ⟨rfl, HD3.out, HK3.out⟩
/-- The first i numbers, and noughts behind. -/
def partT (N i : Nat) : List Int := tabV N i ++ List.replicate (N - i) 0
theorem partT_zero (N : Nat) : partT N 0 = List.replicate N 0 := by simp [partT, tabV]
theorem partT_all (N : Nat) : partT N N = T.tabZ N := by simp [partT, tabV, T.tabZ]
theorem partT_length {N i : Nat} (h : i ≤ N) : (partT N i).length = N := by
  simp [partT, tabV]
  omega
theorem partT_set {N i : Nat} (h : i < N) : (partT N i).set i ((T.sum N (i + 1) : Nat) : Int) = partT N (i + 1) := by
  unfold partT
  have hl : (tabV N i).length = i := by simp [tabV]
  rw [List.set_append, if_neg (by omega), hl, Nat.sub_self]
  obtain ⟨m, hm⟩ : ∃ m, N - i = m + 1 := ⟨N - i - 1, by omega⟩
  rw [hm, List.replicate_succ, List.set_cons_zero, tabV_succ, show N - (i + 1) = m from by omega, List.append_assoc]
  simp [T.sum]
theorem Blz.set {w : World} {g : Nat} {L : List Int} (h : Blz w g L) (i : Nat) (x : Int) : Blz (w.setCell ⟨g, i, none⟩ (.int .i64 x)) g (L.set i x) := by
  unfold Blz at *
  rw [heap_setCell_same _ _ _ _ _ _ h, rowZ_set]
theorem Blz.frozen {w : World} {g : Nat} {L : List Int} (h : Blz w g L) (i : Nat) : w.frozen? ⟨g, i, none⟩ = false := frozen_of_row w g i _ _ h
set_option maxRecDepth 100000 in
set_option maxHeartbeats 1600000 in
theorem table_in (N : Nat) (w : World) (h1 : 1 ≤ N) (h2 : N ≤ 64) :
    Calls Try.prog 22 #[.int .i64 N] w fun e w' => ∃ v, e = .returned v ∧ Zs w' v (T.tabZ N) ∧ Gr w w' := by
  have hmk := makeZ N N (by omega) (by omega)
  go_enter Try.func22, Try.ntmps22
  go_wp2_with fail
  refine (rootUp_any N _ h1 h2).mono ?_
  rintro e w1 ⟨rfl, hg1⟩
  have G1 := Lib.hid hg1
  clear hg1
  go_wp2_with fail
  obtain ⟨g, hg⟩ : ∃ g, w1.heap.size = g := ⟨_, rfl⟩
  have hgl : w.heap.size ≤ g := by have := G1.out.size; omega
  have B0 : Hid (Blz (w1.alloc (.cells (rowZ (List.replicate N 0)) 3)) g (partT N 0)) := Lib.hid (by
    rw [partT_zero, ← hg]
    exact heap_alloc_new _ _)
  have G2 : Hid (Gr w (w1.alloc (.cells (rowZ (List.replicate N 0)) 3))) := Lib.hid (Gr.alloc G1.out _ _)
  rw [hg]
  generalize w1.alloc (.cells (rowZ (List.replicate N 0)) 3) = w2 at *
  clear hmk hg G1
  go_loopw [5, 19] (fun sv iv W => ∃ i : Nat, i ≤ N ∧ iv = .int .i64 i ∧ sv = .int .i64 ((T.sum N i : Nat) : Int) ∧ Blz W g (partT N i) ∧ Gr w W) (fun _ iv _ => N - (intOf iv).toNat)
  case atStart => exact ⟨0, by omega, rfl, rfl, B0.out, G2.out⟩
  case round =>
    obtain ⟨i, hi, rfl, rfl, hb, hgr⟩ := hrel
    have HB := Lib.hid hb
    have HG := Lib.hid hgr
    clear hb hgr
    have hsle := T.sum_le h1 h2 hi
    by_cases hlt : i < N
    · have hsle2 := T.sum_le h1 h2 (i := i + 1) (by omega)
      have hsw : T.sum N (i + 1) = T.sum N i + (idealP N (i + 1) + robustP N (i + 1)) := by rw [← weight_parts]; rfl
      have HST := Lib.hid (partT_set hlt)
      have HID : Hid (∀ w, Calls Try.prog 38 #[.int .i64 N, .int .i64 ((i : Int) + 1)] w fun e w' => e = .returned (.int .i64 (idealP N (i + 1) : Nat)) ∧ Gr w w') := Lib.hid (fun w => ideal_any N (i + 1) w h1 h2 (by omega) (by omega))
      have HRO : Hid (∀ w, Calls Try.prog 39 #[.int .i64 N, .int .i64 (T.root N : Nat), .int .i64 ((i : Int) + 1)] w fun e w' => e = .returned (.int .i64 (robustP N (i + 1) : Nat)) ∧ Gr w w') := Lib.hid (fun w => robust_any N (i + 1) w h1 h2 (by omega) (by omega))
      rw [hsw] at HST
      obtain ⟨s2, hs2⟩ : ∃ s2, T.sum N i + (idealP N (i + 1) + robustP N (i + 1)) = s2 := ⟨_, rfl⟩
      rw [hs2] at HST hsw
      rw [hsw] at hsle2
      have HS2 := Lib.hid hsw
      clear hsw
      generalize idealP N (i + 1) = x1 at *
      generalize robustP N (i + 1) = x2 at *
      generalize T.sum N i = s1 at *
      have fs : (s1 : Int) + ((x1 : Int) + x2) = s2 := by omega
      go_wp2_with fail
      refine (HID.out _).mono ?_
      rintro e w3 ⟨rfl, hg3⟩
      have HB3 := Lib.hid (HB.out.grown hg3)
      have HG3 := Lib.hid (HG.out.trans hg3)
      clear hg3
      go_wp2_with fail
      refine (HRO.out _).mono ?_
      rintro e w4 ⟨rfl, hg4⟩
      have HB4 := Lib.hid (HB3.out.grown hg4)
      have HG4 := Lib.hid (HG3.out.trans hg4)
      clear hg4
      have q := HB4.out.cell i (by rw [partT_length hi]; exact hlt)
      have qf := HB4.out.frozen i
      generalize (partT N i).getD i 0 = old at *
      clear hs2
      go_wp2
      refine ⟨⟨i + 1, by omega, by go_num, by rw [HS2.out], ?_, ?_⟩, by simp [intOf]; omega⟩
      · have h9 := HB4.out.set i (s2 : Int)
        rw [HST.out] at h9
        first | exact h9 | (rw [← fs] at h9; exact h9)
      · exact HG4.out.setCell hgl _
    · obtain rfl : i = N := by omega
      go_wp2
      go_ret
      have hz := HB.out
      rw [partT_all] at hz
      have := Blz.zs hz (T.tabZ i) i (by omega) (by rw [T.tabZ_length]; omega) (by omega) (fun x hx => by
        have := tabZ_rng h1 h2 x hx
        unfold I64
        omega) (fun _ _ => rfl)
      rw [T.tabZ_length] at this
      exact ⟨_, rfl, this, HG.out⟩
set_option maxHeartbeats 400000 in
theorem table_any (l : Int) (w : World) : Calls Try.prog 22 #[.int .i64 l] w fun e w' => ∃ v, e = .returned v ∧ Zs w' v (T.tab l) ∧ Gr w w' := by
  by_cases hin : 1 ≤ l ∧ l ≤ 64
  · obtain ⟨N, rfl⟩ : ∃ N : Nat, l = N := ⟨l.toNat, by omega⟩
    rw [T.tab_in (by omega) (by omega)]
    exact table_in N w (by omega) (by omega)
  · rw [T.tab_out hin]
    by_cases h1 : l < 1
    · go_enter Try.func22, Try.ntmps22
      go_wp2
      go_ret
      exact ⟨_, rfl, Zs.nil _, Gr.refl _⟩
    · have h2 : 64 < l := by omega
      go_enter Try.func22, Try.ntmps22
      go_wp2
      go_ret
      exact ⟨_, rfl, Zs.nil _, Gr.refl _⟩
/-- Package soliton as it was written keeps its contracts. -/
theorem sol_ok : SolOk DAt where
  table := fun l w _ => table_any l w
  degree := fun v l x w _ hx h => degree_any v _ x w h (tab_top l).1 (by have := (tab_top l).2; omega) hx
  draw := fun v d l F s w _ hs h ha hd => draw_deg draw_ok v d _ F s w hs h (tab_top l).1 (by have := (tab_top l).2; omega) ha hd
end Go.Proofs.Ytcahbbbccnhgnaa
namespace Go.Proofs.Ytcahbbbccnhgnaa
open Go.RowKit

theorem upTo_pre (m n : Int) (w : World) :
    Calls Try.prog 44 #[.int .i64 m, .int .i64 n] w fun e w' => e = .returned (.bool (decide (1 ≤ n ∧ n ≤ m))) ∧ w = w' := by
  by_cases h : 1 ≤ n
  · rw [show decide (1 ≤ n ∧ n ≤ m) = decide (n ≤ m) from by rw [decide_eq_decide]; omega]
    go_enter Try.func44, Try.ntmps44
    go_wp2
    go_ret
    exact ⟨rfl, rfl⟩
  · rw [decide_eq_false (by omega : ¬ (1 ≤ n ∧ n ≤ m))]
    go_enter Try.func44, Try.ntmps44
    go_wp2
    go_ret
    exact ⟨rfl, rfl⟩
set_option maxHeartbeats 800000 in
theorem may_pre (K H S : Int) (w : World) :
    Calls Try.prog 31 #[par K H S] w fun e w' => e = .returned (.bool (decide (MayP K H S))) ∧ Gr w w' := by
  have hd : decide (MayP K H S) = (decide (1 ≤ K ∧ K ≤ 16) && (decide (1 ≤ H ∧ H ≤ 4) && decide (1 ≤ S ∧ S ≤ 24))) := by
    rw [← Bool.decide_and, ← Bool.decide_and, decide_eq_decide]
    unfold MayP
    omega
  rw [hd]
  have b1 : ∀ x : Int, ∃ b : Bool, decide (1 ≤ x ∧ x ≤ 16) = b := fun x => ⟨_, rfl⟩
  obtain ⟨p, hp⟩ := b1 K
  obtain ⟨q, hq⟩ : ∃ b : Bool, decide (1 ≤ H ∧ H ≤ 4) = b := ⟨_, rfl⟩
  obtain ⟨r, hr⟩ : ∃ b : Bool, decide (1 ≤ S ∧ S ≤ 24) = b := ⟨_, rfl⟩
  have HP := Lib.hid hp
  have HQ := Lib.hid hq
  have HR := Lib.hid hr
  rw [hp, hq, hr]
  clear hp hq hr hd b1
  have P0 : Hid (Par (w.alloc (.cells #[.int .i64 K, .int .i64 H, .int .i64 S] 23)) w.heap.size K H S) := Lib.hid (heap_alloc_new _ _)
  have HG0 : Hid (Gr w (w.alloc (.cells #[.int .i64 K, .int .i64 H, .int .i64 S] 23))) := Lib.hid (Gr.alloc (Gr.refl _) _ _)
  go_enter Try.func31, Try.ntmps31
  cases p with
  | false =>
    go_wp2_with fail
    refine (upTo_pre 16 K _).mono ?_
    rw [HP.out]
    rintro e w1 ⟨rfl, rfl⟩
    go_wp2_with fail
    go_ret
    exact ⟨rfl, HG0.out⟩
  | true =>
    have c1 := P0.out.cell1
    have c2 := P0.out.cell2
    cases q with
    | false =>
      go_wp2_with fail
      refine (upTo_pre 16 K _).mono ?_
      rw [HP.out]
      rintro e w1 ⟨rfl, rfl⟩
      go_wp2_with fail
      refine (upTo_pre 4 H _).mono ?_
      rw [HQ.out]
      rintro e w1 ⟨rfl, rfl⟩
      go_wp2_with fail
      go_ret
      exact ⟨rfl, HG0.out⟩
    | true =>
      go_wp2_with fail
      refine (upTo_pre 16 K _).mono ?_
      rw [HP.out]
      rintro e w1 ⟨rfl, rfl⟩
      go_wp2_with fail
      refine (upTo_pre 4 H _).mono ?_
      rw [HQ.out]
      rintro e w1 ⟨rfl, rfl⟩
      go_wp2_with fail
      refine (upTo_pre 24 S _).mono ?_
      rw [HR.out]
      rintro e w1 ⟨rfl, rfl⟩
      go_wp2_with fail
      go_ret
      exact ⟨by simp, HG0.out⟩
set_option maxHeartbeats 400000 in
theorem cols_pre (K H S : Int) (w : World) :
    Calls Try.prog 16 #[par K H S] w fun e w' => e = .returned (.int .i64 (colsP K H S)) ∧ Gr w w' := by
  unfold colsP
  by_cases hm : MayP K H S
  · have hd := decide_eq_true hm
    have HM := Lib.hid hm
    rw [if_pos hm]
    have hk : -9223372036854775808 ≤ K + H ∧ K + H ≤ 9223372036854775807 := by have := hm; unfold MayP at this; omega
    have hwr : IntKind.i64.wrap (K + H) = K + H := by have := hk; simp [IntKind.wrap, IntKind.bits, IntKind.signed]; omega
    clear hm
    go_enter Try.func16, Try.ntmps16
    go_wp2_with fail
    refine (may_pre K H S _).mono ?_
    rw [hd]
    rintro e w1 ⟨rfl, hg⟩
    have P1 : Par w1 w.heap.size K H S := Par.grown (heap_alloc_new w _) hg
    have c0 := P1.cell0
    have c1 := P1.cell1
    have G1 := Lib.hid (Gr.trans (Gr.alloc (Gr.refl w) _ _) hg)
    clear hg P1
    go_wp2_with fail
    go_ret
    exact ⟨rfl, G1.out⟩
  · have hd := decide_eq_false hm
    rw [if_neg hm]
    clear hm
    go_enter Try.func16, Try.ntmps16
    go_wp2_with fail
    refine (may_pre K H S _).mono ?_
    rw [hd]
    rintro e w1 ⟨rfl, hg⟩
    have G1 := Lib.hid (Gr.trans (Gr.alloc (Gr.refl w) _ _) hg)
    clear hg
    go_wp2_with fail
    go_ret
    exact ⟨rfl, G1.out⟩
end Go.Proofs.Ytcahbbbccnhgnaa
