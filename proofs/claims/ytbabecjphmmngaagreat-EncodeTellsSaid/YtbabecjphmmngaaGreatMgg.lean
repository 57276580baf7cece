/-
  Texts laid behind one another: Lb Py Lc Ld Ya Na Nb Ap Yi.
-/
import Derived.Test.YtbabecjphmmngaaGreatMgf
import Derived.Test.YtbabecjphmmngaaGreatMgc
import Derived.Test.YtbabecjphmmngaaGreatMgd
import Derived.Laws.AppendOwnNone
import Derived.Deep.AppendLies
import Derived.Deep.RegionHeld3
import Derived.Test.YtbabecjphmmngaaGreatMgb
namespace Go.Proofs.YtbabecjphmmngaaGreat
open Go.RowKit

theorem someZ_rng (s : Nat) (n k : Int) : ∀ x ∈ C.someZ s n k, 0 ≤ x ∧ x < n := fun x hx => by
  unfold C.someZ at hx
  by_cases h : C.May n k
  · rw [if_pos h] at hx
    obtain ⟨h1, h2, h3, h4⟩ := h
    have := C.some_rng (n := n.toNat) (k := k.toNat) (by omega) hx
    omega
  · rw [if_neg h] at hx
    cases hx
theorem someZ_len (s : Nat) (n k : Int) : (C.someZ s n k).length ≤ 64 := by
  unfold C.someZ
  by_cases h : C.May n k
  · rw [if_pos h]
    obtain ⟨h1, h2, h3, h4⟩ := h
    rw [C.some_length (by omega)]
    omega
  · rw [if_neg h]
    simp
theorem atN_rng (N seed id : Nat) : ∀ x ∈ atN N seed id, 0 ≤ x ∧ x < (N : Int) := someZ_rng _ _ _
/-- A 1 at each place of L. -/
def onesL (N : Nat) (L : List Int) : List Int := lst N fun j => if (j : Int) ∈ L then 1 else 0
def rowP (K H S : Int) (seed : Nat) (id : Int) : List Int := if MayP K H S ∧ MayI id then onesL (K.toNat + H.toNat) (atN (K.toNat + H.toNat) seed id.toNat) else []
theorem onesL_length (N : Nat) (L : List Int) : (onesL N L).length = N := lst_length _ _
theorem onesL_byt (N : Nat) (L : List Int) : ∀ z ∈ onesL N L, Byt z := lst_byt fun i _ => by
  show Byt (if (i : Int) ∈ L then 1 else 0)
  split <;> (unfold Byt; omega)
theorem onesL_nil (N : Nat) : onesL N [] = List.replicate N 0 := by
  rw [part_nil N (fun _ => 0)]
  apply lst_congr
  intro j _
  simp [part]
theorem onesL_next {N : Nat} {L : List Int} {q : Nat} (h : q < N) : (onesL N L).set q 1 = onesL N (L ++ [(q : Int)]) := by
  unfold onesL
  rw [lst_set]
  apply lst_congr
  intro j _
  by_cases e : j = q
  · subst e
    simp
  · rw [if_neg e]
    have e2 : ¬ ((j : Int) = (q : Int)) := by omega
    simp [e2]
set_option maxRecDepth 100000 in
set_option maxHeartbeats 1600000 in
theorem refRow_in (K H : Nat) (S : Int) (seed id : Nat) (w : World) (hm : MayP K H S) (hi : id ≤ 65535) (hs : seed < 4294967296) :
    Calls Tryz.prog 28 #[par K H S, .int .u32 (seed : Int), .int .i64 (id : Int)] w fun e w' => ∃ v, e = .returned v ∧ New w w' v (onesL (K + H) (atN (K + H) seed id)) := by
  have hd := decide_eq_true hm
  have hdi : decide (MayI (id : Int)) = true := decide_eq_true (by unfold MayI; omega)
  obtain ⟨N, hN⟩ : ∃ N, K + H = N := ⟨_, rfl⟩
  have hm' := hm
  obtain ⟨b1, b2, b3, b4, _, _⟩ := hm'
  have hN20 : N ≤ 20 := by omega
  have HCO : Hid (colsP (K : Int) (H : Int) (S : Int) = N) := Lib.hid (by unfold colsP; rw [if_pos hm]; omega)
  have HAT := Lib.hid fun (W : World) => refAt_in K H S seed id W hm hi hs
  have P0 : Hid (Par (w.alloc (.cells #[.int .i64 (K : Int), .int .i64 (H : Int), .int .i64 S] 23)) w.heap.size K H S) := Lib.hid (heap_alloc_new _ _)
  have HG0 : Hid (Gr w (w.alloc (.cells #[.int .i64 (K : Int), .int .i64 (H : Int), .int .i64 S] 23))) := Lib.hid (Gr.alloc (Gr.refl _) _ _)
  have hmk := make22 N N (by omega) (by omega)
  obtain ⟨cur, hcur⟩ : ∃ cur, cur = rowB (List.replicate N 0) := ⟨_, rfl⟩
  rw [← hcur] at hmk
  have HCU := Lib.hid hcur
  rw [hN] at HAT ⊢
  obtain ⟨A, hA⟩ : ∃ A, atN N seed id = A := ⟨_, rfl⟩
  have HAL : Hid (A.length ≤ 64) := Lib.hid (by rw [← hA]; exact someZ_len _ _ _)
  have HAR : Hid (∀ x ∈ A, 0 ≤ x ∧ x < N) := Lib.hid (by rw [← hA]; exact atN_rng N seed id)
  rw [hA] at HAT ⊢
  clear hcur hA hm hN
  go_enter Tryz.func28, Tryz.ntmps28
  go_wp2_with fail
  generalize w.alloc (.cells #[.int .i64 (K : Int), .int .i64 (H : Int), .int .i64 S] 23) = W0 at *
  generalize hgp : w.heap.size = gp at *
  refine (refMay_any K H S _).mono ?_
  rw [hd]
  rintro e w1 ⟨rfl, hg1⟩
  have P1 := Lib.hid (P0.out.grown hg1)
  have HG1 := Lib.hid (Gr.trans HG0.out hg1)
  clear hg1 P0 HG0
  go_wp2_with fail
  refine (refMayID_any id _).mono ?_
  rw [hdi]
  rintro e w' ⟨rfl, rfl⟩
  have c0 := P1.out.cell0
  have c1 := P1.out.cell1
  have c2 := P1.out.cell2
  go_wp2_with fail
  refine (refCols_any K H S _).mono ?_
  rw [HCO.out]
  rintro e w4 ⟨rfl, hg4⟩
  have P4 := Lib.hid (P1.out.grown (Gr.trans hg4 (Gr.alloc (Gr.refl w4) cur 5)))
  have HG4 := Lib.hid (Gr.trans HG1.out hg4)
  clear hg4 P1 HG1 c0 c1 c2
  have B4 : Hid (Blk (w4.alloc (.cells cur 5)) w4.heap.size (onesL N [])) := Lib.hid (by rw [onesL_nil, HCU.out]; exact heap_alloc_new _ _)
  have HG5 : Hid (Gr w (w4.alloc (.cells cur 5))) := Lib.hid (Gr.alloc HG4.out _ _)
  have HGB : Hid (w.heap.size ≤ w4.heap.size) := Lib.hid HG4.out.size
  have c0 := P4.out.cell0
  have c1 := P4.out.cell1
  have c2 := P4.out.cell2
  go_wp2_with fail
  clear c0 c1 c2
  generalize w4.alloc (.cells cur 5) = W5 at *
  generalize w4.heap.size = gx at *
  refine (HAT.out W5).mono ?_
  rintro e w6 ⟨v6, rfl, hz6, hg6⟩
  obtain ⟨m, hm⟩ : ∃ m, A.length = m := ⟨_, rfl⟩
  obtain ⟨hzi, oa, ca, rfl, z2, z3, z4, z5⟩ := hz6
  rw [hm] at z2 z5 ⊢
  have HZ5 := Lib.hid z5
  have HMM := Lib.hid hm
  have B6 := Lib.hid (B4.out.grown hg6)
  have HG6 := Lib.hid (Gr.trans HG5.out hg6)
  have hm64 : m ≤ 64 := by rw [← hm]; exact HAL.out
  clear hg6 hzi z5 hm B4 HG5 HG4
  go_wp2_with fail
  have HZC : Hid (∀ a, oa = some a → ∀ i, i < m → w6.cell? (a.add i) = some (.int .i64 (A.getD i 0))) := Lib.hid HZ5.out
  have HGX : Hid (w.heap.size ≤ gx) := Lib.hid HGB.out
  go_loopw [26] (fun i wr => ∃ t : Nat, t ≤ m ∧ i = .int .i64 t ∧ Blk wr gx (onesL N (A.take t)) ∧ Gr w wr ∧ ∀ a, oa = some a → ∀ i, i < m → wr.cell? (a.add i) = some (.int .i64 (A.getD i 0))) (fun i _ => m - (intOf i).toNat)
  case atStart => exact ⟨0, by omega, rfl, by rw [List.take_zero]; exact B6.out, HG6.out, HZC.out⟩
  case round =>
    clear B6 HG6 HZC
    obtain ⟨wo, hwo⟩ : ∃ x, x = wr := ⟨_, rfl⟩
    subst hwo
    obtain ⟨t, ht, rfl, hb, hg, hc⟩ := hrel
    by_cases hlt : t < m
    · obtain ⟨ad, rfl⟩ : ∃ a, oa = some a := by
        cases oa with
        | some a => exact ⟨a, rfl⟩
        | none => have := z4 rfl; omega
      have q1 := hc ad rfl t hlt
      have hmem : A.getD t 0 ∈ A := by
        have := HMM.out
        rw [List.getD_eq_getElem?_getD, List.getElem?_eq_getElem (by omega)]
        exact List.getElem_mem _
      have hrg := HAR.out _ hmem
      obtain ⟨q, hq⟩ : ∃ q : Nat, A.getD t 0 = q := ⟨(A.getD t 0).toNat, by omega⟩
      have hqN : q < N := by omega
      have hnx := onesL_next (L := A.take t) hqN
      have htk : A.take (t + 1) = A.take t ++ [(q : Int)] := by
        have := HMM.out
        rw [List.take_add_one, List.getElem?_eq_getElem (by omega), ← hq, List.getD_eq_getElem?_getD, List.getElem?_eq_getElem (by omega)]
        rfl
      have q8 := Blk.cell hb q (by rw [onesL_length]; exact hqN)
      have q9 := frozen_of_row wo gx q _ _ hb
      have HB' : Hid (Blk (wo.setCell ⟨gx, q, none⟩ (.int .u8 1)) gx (onesL N (A.take (t + 1)))) := Lib.hid (by
        unfold Blk
        rw [heap_setCell_same _ _ _ _ _ _ hb, rowB_set, hnx, htk])
      have HG' : Hid (Gr w (wo.setCell ⟨gx, q, none⟩ (.int .u8 1))) := Lib.hid (Gr.setCell hg HGX.out _)
      have HC' : Hid (∀ a, some ad = some a → ∀ i, i < m → (wo.setCell ⟨gx, q, none⟩ (.int .u8 1)).cell? (a.add i) = some (.int .i64 (A.getD i 0))) := Lib.hid (fun a ha i hi => by
        rw [World.cell?_setCell_other]
        · exact hc a ha i hi
        · intro e
          have h1 := hc a ha i hi
          rw [← e, q8] at h1
          simp at h1)
      rw [hq] at q1
      clear hb hg hc hmem hrg hnx htk hq
      generalize (onesL N (A.take t)).getD q 0 = old at *
      go_wp2_with fail
      exact ⟨⟨t + 1, by omega, by go_num, HB'.out, HG'.out, HC'.out⟩, by simp [intOf]; omega⟩
    · obtain rfl : t = m := by omega
      have hall : A.take t = A := List.take_of_length_le (by have := HMM.out; omega)
      rw [hall] at hb
      have HB' : Hid (New w wo (.slice (some ⟨gx, 0, none⟩) N N) (onesL N A)) := Lib.hid ⟨hg, onesL_byt N A, .inr ⟨gx, N, _, by rw [onesL_length], HGX.out, hb, by rw [onesL_length]; omega, by omega, fun i hi => rowB_get _ i hi⟩⟩
      clear hb hg hc hall
      go_wp2_with fail
      go_ret
      exact ⟨_, rfl, HB'.out⟩
set_option maxRecDepth 100000 in
set_option maxHeartbeats 800000 in
theorem refRow_ne (K H S : Int) (seed : Nat) (id : Int) (w : World) (hm : ¬ (MayP K H S ∧ MayI id)) :
    Calls Tryz.prog 28 #[par K H S, .int .u32 (seed : Int), .int .i64 id] w fun e w' => e = .returned (.slice none 0 0) ∧ Gr w w' := by
  have HG0 : Hid (Gr w (w.alloc (.cells #[.int .i64 K, .int .i64 H, .int .i64 S] 23))) := Lib.hid (Gr.alloc (Gr.refl _) _ _)
  by_cases hp : MayP K H S
  · have hd := decide_eq_true hp
    have hdi : decide (MayI id) = false := decide_eq_false fun e => hm ⟨hp, e⟩
    clear hm hp
    go_enter Tryz.func28, Tryz.ntmps28
    go_wp2_with fail
    refine (refMay_any K H S _).mono ?_
    rw [hd]
    rintro e w1 ⟨rfl, hg1⟩
    have HG1 := Lib.hid (Gr.trans HG0.out hg1)
    clear hg1
    go_wp2_with fail
    refine (refMayID_any id _).mono ?_
    rw [hdi]
    rintro e w' ⟨rfl, rfl⟩
    go_wp2_with fail
    go_ret
    exact ⟨rfl, HG1.out⟩
  · have hd := decide_eq_false hp
    clear hm hp
    go_enter Tryz.func28, Tryz.ntmps28
    go_wp2_with fail
    refine (refMay_any K H S _).mono ?_
    rw [hd]
    rintro e w1 ⟨rfl, hg1⟩
    have HG1 := Lib.hid (Gr.trans HG0.out hg1)
    clear hg1
    go_wp2_with fail
    go_ret
    exact ⟨rfl, HG1.out⟩
theorem refRow_new (K H S : Int) (seed : Nat) (id : Int) (w : World) (hs : seed < 4294967296) :
    Calls Tryz.prog 28 #[par K H S, .int .u32 (seed : Int), .int .i64 id] w fun e w' => ∃ v, e = .returned v ∧ New w w' v (rowP K H S seed id) := by
  unfold rowP
  by_cases hm : MayP K H S ∧ MayI id
  · rw [if_pos hm]
    obtain ⟨h1, h2⟩ := hm
    obtain ⟨k, hk⟩ : ∃ k : Nat, K = k := ⟨K.toNat, by have := h1.1; omega⟩
    obtain ⟨h, hh⟩ : ∃ h : Nat, H = h := ⟨H.toNat, by have := h1.2.2.1; omega⟩
    obtain ⟨i, hi⟩ : ∃ i : Nat, id = i := ⟨id.toNat, by have := h2.1; omega⟩
    subst hk hh hi
    rw [Int.toNat_natCast, Int.toNat_natCast, Int.toNat_natCast]
    exact refRow_in k h S seed i w h1 (by have := h2.2; omega) hs
  · rw [if_neg hm]
    refine (refRow_ne K H S seed id w hm).mono ?_
    rintro e w' ⟨rfl, hg⟩
    exact ⟨_, rfl, hg, by simp, .inl ⟨rfl, none, 0, rfl, fun _ => rfl, by omega⟩⟩
theorem refRow_any (K H S : Int) (seed : Nat) (id : Int) (w : World) (hs : seed < 4294967296) :
    Calls Tryz.prog 28 #[par K H S, .int .u32 (seed : Int), .int .i64 id] w fun e w' => ∃ v, e = .returned v ∧ Bs w' v (rowP K H S seed id) ∧ Gr w w' :=
  (refRow_new K H S seed id w hs).mono fun _ _ ⟨v, h1, h2⟩ => ⟨v, h1, New.bs h2, h2.1⟩
end Go.Proofs.YtbabecjphmmngaaGreat
namespace Go.Proofs.YtbabecjphmmngaaGreat
open Go.RowKit

set_option maxRecDepth 100000 in
set_option maxHeartbeats 800000 in
theorem refAhead_ne (K H S : Int) (w : World) (hm : ¬ MayP K H S) :
    Calls Tryz.prog 27 #[par K H S] w fun e w' => e = .returned (.slice none 0 0) ∧ Gr w w' := by
  have hd := decide_eq_false hm
  clear hm
  have P0 : Hid (Par (w.alloc (.cells #[.int .i64 K, .int .i64 H, .int .i64 S] 23)) w.heap.size K H S) := Lib.hid (heap_alloc_new _ _)
  have HG0 : Hid (Gr w (w.alloc (.cells #[.int .i64 K, .int .i64 H, .int .i64 S] 23))) := Lib.hid (Gr.alloc (Gr.refl _) _ _)
  go_enter Tryz.func27, Tryz.ntmps27
  go_wp2_with fail
  generalize w.alloc (.cells #[.int .i64 K, .int .i64 H, .int .i64 S] 23) = W0 at *
  generalize w.heap.size = gp at *
  go_loopw [3, 4] (fun o i wr => o = .slice none 0 0 ∧ i = .int .i64 0 ∧ Par wr gp K H S ∧ Gr w wr) (fun _ _ _ => 0)
  case atStart => exact ⟨rfl, rfl, P0.out, HG0.out⟩
  case round =>
    clear P0 HG0
    obtain ⟨rfl, rfl, hp, hg⟩ := hrel
    have c0 := hp.cell0
    have c1 := hp.cell1
    have c2 := hp.cell2
    have HG := Lib.hid hg
    clear hp hg
    by_cases h0 : 0 < H
    · go_wp2_with fail
      refine (refMay_any K H S _).mono ?_
      rw [hd]
      rintro e w1 ⟨rfl, hg1⟩
      have G1 := Lib.hid (Gr.trans HG.out hg1)
      clear hg1
      go_wp2_with fail
      go_ret
      exact ⟨rfl, G1.out⟩
    · go_wp2_with fail
      go_ret
      exact ⟨rfl, HG.out⟩
theorem refAhead_any (K H S : Int) (w : World) :
    Calls Tryz.prog 27 #[par K H S] w fun e w' => ∃ v, e = .returned v ∧ Bss w' v (aheadP K H S) ∧ Gr w w' := by
  unfold aheadP
  by_cases hm : MayP K H S
  · rw [if_pos hm]
    obtain ⟨k, hk⟩ : ∃ k : Nat, K = k := ⟨K.toNat, by have := hm.1; omega⟩
    obtain ⟨h, hh⟩ : ∃ h : Nat, H = h := ⟨H.toNat, by have := hm.2.2.1; omega⟩
    subst hk hh
    rw [Int.toNat_natCast, Int.toNat_natCast]
    refine (refAhead_in k h S w hm).mono ?_
    rintro e w' ⟨v, rfl, h1, h2⟩
    exact ⟨v, rfl, h1.bss, h2⟩
  · rw [if_neg hm]
    refine (refAhead_ne K H S w hm).mono ?_
    rintro e w' ⟨rfl, hg⟩
    exact ⟨_, rfl, Bss.nil _, hg⟩
theorem Bss.form3 {w : World} {v : Value} {L : List (List Int)} (h : Bss w v L) : ∃ o m c, v = .slice o m c := by
  obtain ⟨o, c, h, _⟩ := h
  exact ⟨o, _, c, h⟩
/-- The contracts of package pre. -/
structure PreOk : Prop where
  may : ∀ (K H S : Int) (w : World), Calls Tryz.prog 6 #[par K H S] w fun e w' => e = .returned (.bool (decide (MayP K H S))) ∧ Gr w w'
  cols : ∀ (K H S : Int) (w : World), Calls Tryz.prog 46 #[par K H S] w fun e w' => e = .returned (.int .i64 (colsP K H S)) ∧ Gr w w'
  rows : ∀ (K H S : Int) (w : World), Calls Tryz.prog 45 #[par K H S] w fun e w' => ∃ v, e = .returned v ∧ RwsN w.heap.size w' v (aheadP K H S) ∧ Gr w w'
theorem aheadP_in {K H : Nat} {S : Int} (h : MayP K H S) : aheadP K H S = ahead K H := by
  unfold aheadP
  rw [if_pos h, Int.toNat_natCast, Int.toNat_natCast]
theorem may_params {a b c : Nat} (ha : a < 16) (hb : b < 4) (hc : c < 24) : MayP ((1 + a : Nat) : Int) ((1 + b : Nat) : Int) ((1 + c : Nat) : Int) := by
  unfold MayP
  omega
theorem ahead_one : ahead 1 1 = [[3, 1]] := by
  have h3 : expZ 1 = 3 := by decide +kernel
  simp [ahead, aheadRow, lst, aheadF, List.range_succ, h3]
end Go.Proofs.YtbabecjphmmngaaGreat
namespace Go.Proofs.YtbabecjphmmngaaGreat
open Go.RowKit

/-- The contracts of package lt: what is told is new memory. -/
structure LtOk : Prop where
  cols : ∀ (K H S : Int) (seed : Nat) (id : Int) (w : World), seed < 4294967296 → I64 id →
    Calls Tryz.prog 59 #[par K H S, .int .u32 (seed : Int), .int .i64 id] w fun e w' => ∃ v, e = .returned v ∧ OwnZ w.heap.size w' v (atP K H S seed id) ∧ Gr w w'
  row : ∀ (K H S : Int) (seed : Nat) (id : Int) (w : World), seed < 4294967296 → I64 id →
    Calls Tryz.prog 31 #[par K H S, .int .u32 (seed : Int), .int .i64 id] w fun e w' => ∃ v, e = .returned v ∧ New w w' v (rowP K H S seed id)
theorem atP_i64 (K H S : Int) (seed : Nat) (id : Int) : ∀ x ∈ atP K H S seed id, I64 x := fun x hx => by
  unfold atP at hx
  split at hx
  · rename_i h
    have h1 := atN_rng _ _ _ x hx
    obtain ⟨⟨_, h2, _, h3, _⟩, _⟩ := h
    exact ⟨by omega, by omega⟩
  · cases hx
theorem at_wake : atP 2 1 1 7 3 = [2] := by
  have h : atN 3 7 3 = [2] := by decide +kernel
  unfold atP
  rw [if_pos (by unfold MayP MayI; omega)]
  exact h
theorem row_wake : rowP 2 1 1 7 3 = [0, 0, 1] := by
  have h : onesL 3 (atN 3 7 3) = [0, 0, 1] := by decide +kernel
  unfold rowP
  rw [if_pos (by unfold MayP MayI; omega)]
  exact h
theorem owns_ints {base n : Nat} {w : World} {v : Value} {l : List Int} (ho : w.ownsRow base 3 1 v n (l.map (Value.int .i64))) (hl : l.length = n) (hr : ∀ x ∈ l, I64 x) : Zs w v l := owns_zs ho hl hr
end Go.Proofs.YtbabecjphmmngaaGreat
namespace Go.Proofs.YtbabecjphmmngaaGreat
open Go.RowKit

theorem tab_pos {N : Nat} (h1 : 1 ≤ N) (h2 : N ≤ 64) {j : Nat} (hj : j < N) : 1 ≤ (T.tabZ N).getD j 0 := by
  rw [T.tabZ_at hj]
  have := T.sum_lt h1 h2 (j + 1) 0 (by omega) (by omega)
  omega
theorem someZ_some {s n k : Nat} (h1 : n ≤ 64) (h2 : k ≤ n) : C.someZ s n k = C.some s n k := by
  unfold C.someZ
  rw [if_pos ⟨by omega, by omega, by omega, by omega⟩, Int.toNat_natCast, Int.toNat_natCast]
theorem belowV_lt (s : Nat) {n : Int} (h : 0 < n) : belowV s n < n := by
  unfold belowV
  rw [if_neg (by omega)]
  exact Int.emod_lt_of_pos _ h
theorem drawV_pos {N : Nat} (h1 : 1 ≤ N) (h2 : N ≤ 64) (s : Nat) : 1 ≤ drawV (T.tab N) s := by
  have hl := T.tabZ_length N
  have hne : T.tabZ N ≠ [] := fun e => by rw [e] at hl; simp at hl; omega
  have hp := tab_pos h1 h2 (j := N - 1) (by omega)
  rw [T.tab_in h1 h2]
  unfold drawV
  rw [if_neg hne]
  have hlast : lastZ' (T.tabZ N) = (T.tabZ N).getD (N - 1) 0 := by unfold lastZ'; rw [hl]
  obtain ⟨j, _, h⟩ := T.deg_some (t := T.tabZ N) (x := belowV s (lastZ' (T.tabZ N))) (belowV_rng _ _).1 (by omega) (by
    rw [hl, ← hlast]
    exact belowV_lt _ (by omega))
  rw [h]
  omega
theorem atN_some {N : Nat} (h1 : 1 ≤ N) (h2 : N ≤ 64) (seed id : Nat) : ∃ s k : Nat, 1 ≤ k ∧ k ≤ N ∧ atN N seed id = C.some s N k := by
  have ha := drawV_pos h1 h2 (nextS (mixS seed id))
  have hb := (drawV_le (T.tab N) (nextS (mixS seed id))).2
  rw [T.tab_in h1 h2, T.tabZ_length] at hb
  rw [T.tab_in h1 h2] at ha
  unfold atN
  rw [T.tab_in h1 h2]
  obtain ⟨k, hk⟩ : ∃ k : Nat, drawV (T.tabZ N) (nextS (mixS seed id)) = k := ⟨(drawV (T.tabZ N) (nextS (mixS seed id))).toNat, by omega⟩
  rw [hk] at ha hb ⊢
  exact ⟨_, k, by omega, by omega, someZ_some h2 (by omega)⟩
theorem atN_len {N : Nat} (h1 : 1 ≤ N) (h2 : N ≤ 64) (seed id : Nat) : 1 ≤ (atN N seed id).length ∧ (atN N seed id).length ≤ N := by
  obtain ⟨s, k, ha, hb, h⟩ := atN_some h1 h2 seed id
  rw [h, C.some_length hb]
  exact ⟨ha, hb⟩
theorem atN_rising {N : Nat} (h1 : 1 ≤ N) (h2 : N ≤ 64) (seed id : Nat) : Rising (atN N seed id) := by
  obtain ⟨s, k, _, hb, h⟩ := atN_some h1 h2 seed id
  rw [h]
  exact rising_of (C.some_sorted hb)
end Go.Proofs.YtbabecjphmmngaaGreat
namespace Go.Proofs.YtbabecjphmmngaaGreat
open Go.RowKit

/-- The matrix of symbols. -/
def matP (K H S : Int) (seed : Nat) (ids : List Int) : List (List Int) :=
  if MayP K H S then ahead K.toNat H.toNat ++ (ids.filter fun i => decide (MayI i)).map (rowP K H S seed) else []
/-- 0, 1, .., n - 1. -/
def firstI (n : Nat) : List Int := (List.range n).map fun i : Nat => (i : Int)
theorem firstI_length (n : Nat) : (firstI n).length = n := by simp [firstI]
theorem firstI_succ (n : Nat) : firstI (n + 1) = firstI n ++ [(n : Int)] := by simp [firstI, List.range_succ]
theorem firstI_i64 {n : Nat} (h : n ≤ 1000) : ∀ x ∈ firstI n, I64 x := fun x hx => by
  simp only [firstI, List.mem_map, List.mem_range] at hx
  obtain ⟨a, h1, rfl⟩ := hx
  exact ⟨by omega, by omega⟩
/-- All of the rank. -/
def FullP (K H S : Int) (seed : Nat) (ids : List Int) : Prop := MayP K H S ∧ (rkL (matP K H S seed ids) : Int) = colsP K H S
noncomputable instance (K H S : Int) (seed : Nat) (ids : List Int) : Decidable (FullP K H S seed ids) := by unfold FullP; exact inferInstance
/-- The first symbols do. -/
def RightP (K H S : Int) (seed : Nat) : Prop := FullP K H S seed (firstI K.toNat)
noncomputable instance (K H S : Int) (seed : Nat) : Decidable (RightP K H S seed) := by unfold RightP; exact inferInstance
theorem matP_in {K H : Nat} {S : Int} (hm : MayP K H S) (seed : Nat) (ids : List Int) : matP K H S seed ids = ahead K H ++ (ids.filter fun i => decide (MayI i)).map (rowP K H S seed) := by
  unfold matP
  rw [if_pos hm, Int.toNat_natCast, Int.toNat_natCast]
theorem rowP_in {K H : Nat} {S id : Int} (hm : MayP K H S) (hi : MayI id) (seed : Nat) : rowP K H S seed id = onesL (K + H) (atN (K + H) seed id.toNat) := by
  unfold rowP
  rw [if_pos ⟨hm, hi⟩, Int.toNat_natCast, Int.toNat_natCast]
theorem rowP_wide {K H : Nat} {S id : Int} (hm : MayP K H S) (hi : MayI id) (seed : Nat) : (rowP K H S seed id).length = K + H ∧ ∀ z ∈ rowP K H S seed id, Byt z := by
  rw [rowP_in hm hi]
  exact ⟨onesL_length _ _, onesL_byt _ _⟩
theorem matP_wide {K H : Nat} {S : Int} (hm : MayP K H S) (seed : Nat) (ids : List Int) : Wide (K + H) (matP K H S seed ids) := fun r hr => by
  rw [matP_in hm, List.mem_append] at hr
  rcases hr with hr | hr
  · exact ahead_wide K H r hr
  · obtain ⟨i, hi, rfl⟩ := List.mem_map.1 hr
    exact rowP_wide hm (of_decide_eq_true (List.mem_filter.1 hi).2) seed
theorem matP_may (K H S : Int) (seed : Nat) (ids : List Int) : mayL (matP K H S seed ids) = true := by
  by_cases hm : MayP K H S
  · have h0 := hm
    unfold MayP at h0
    obtain ⟨k, rfl⟩ : ∃ k : Nat, K = k := ⟨K.toNat, by omega⟩
    obtain ⟨h, rfl⟩ : ∃ h : Nat, H = h := ⟨H.toNat, by omega⟩
    exact (matP_wide hm seed ids).may (by omega)
  · unfold matP
    rw [if_neg hm]
    rfl
theorem matP_length (K H S : Int) (seed : Nat) (ids : List Int) : (matP K H S seed ids).length ≤ 4 + ids.length := by
  unfold matP
  split
  · rename_i hm
    unfold MayP at hm
    have := List.length_filter_le (fun i => decide (MayI i)) ids
    rw [List.length_append, ahead_length, List.length_map]
    omega
  · simp
theorem matP_snoc (K H S : Int) (seed : Nat) (ids : List Int) (id : Int) : matP K H S seed (ids ++ [id]) = matP K H S seed ids ++ (if MayP K H S ∧ MayI id then [rowP K H S seed id] else []) := by
  unfold matP
  by_cases hm : MayP K H S
  · rw [if_pos hm, if_pos hm, List.filter_append, List.map_append, ← List.append_assoc]
    by_cases hi : MayI id
    · rw [if_pos ⟨hm, hi⟩]
      simp [hi]
    · rw [if_neg (fun e => hi e.2)]
      simp [hi]
  · rw [if_neg hm, if_neg hm, if_neg (fun e => hm e.1)]
    rfl
theorem matP_nil (K H S : Int) (seed : Nat) : matP K H S seed [] = aheadP K H S := by
  unfold matP aheadP
  simp
theorem matP_ne {K H S : Int} (hm : ¬ MayP K H S) (seed : Nat) (ids : List Int) : matP K H S seed ids = [] := by
  unfold matP
  rw [if_neg hm]
theorem rkL_snoc {n : Nat} {A : List (List Int)} {x : List Int} (hA : Wide n A) (hx : x.length = n) : rkL A ≤ rkL (A ++ [x]) ∧ rkL (A ++ [x]) ≤ rkL A + 1 := by
  have hs : L.Same ((A ++ [x]).map vec) (vec x :: A.map vec) := L.Same.of_mem fun y => by
    simp only [List.map_append, List.mem_append, List.map_cons, List.map_nil, List.mem_cons, List.not_mem_nil, or_false]
    exact Or.comm
  have hv : L.Supp n (vec x) := vec_supp hx
  have h := L.rk_cons hA.supp hv
  unfold rkL
  rw [L.rk_same hs]
  by_cases c : L.Sp (A.map vec) (vec x)
  · rw [h.1 c]; omega
  · rw [h.2 c]; omega
/-- The rank hangs on which IDs there are alone. -/
theorem rk_matP_mem {K H S : Int} {seed : Nat} {l l' : List Int} (h : ∀ i, MayI i → (i ∈ l ↔ i ∈ l')) : rkL (matP K H S seed l) = rkL (matP K H S seed l') := by
  by_cases hm : MayP K H S
  · unfold matP
    rw [if_pos hm, if_pos hm]
    refine L.rk_same (L.Same.of_mem fun x => ?_)
    simp only [List.map_append, List.mem_append, List.map_map, List.mem_map, List.mem_filter, decide_eq_true_eq]
    constructor
    · rintro (h1 | ⟨i, ⟨h1, h2⟩, h3⟩)
      · exact .inl h1
      · exact .inr ⟨i, ⟨(h i h2).1 h1, h2⟩, h3⟩
    · rintro (h1 | ⟨i, ⟨h1, h2⟩, h3⟩)
      · exact .inl h1
      · exact .inr ⟨i, ⟨(h i h2).2 h1, h2⟩, h3⟩
  · rw [matP_ne hm, matP_ne hm]
theorem fullP_mem {K H S : Int} {seed : Nat} {l l' : List Int} (h : ∀ i, MayI i → (i ∈ l ↔ i ∈ l')) : FullP K H S seed l ↔ FullP K H S seed l' := by
  unfold FullP
  rw [rk_matP_mem h]
/-- The IDs of numbers. -/
def idN (x : Int) : Int := if x.tmod 7 = 5 then x.tdiv 7 % 65536 else if x.tmod 7 = 6 then x else x.tdiv 7 % 40
def idsL (l : List Int) (n : Nat) : List Int := (l.take n).map idN
theorem idN_i64 {x : Int} (h : I64 x) : I64 (idN x) := by
  unfold idN
  split
  · exact ⟨by omega, by omega⟩
  · split
    · exact h
    · exact ⟨by omega, by omega⟩
theorem idsL_i64 {l : List Int} (h : ∀ x ∈ l, I64 x) (n : Nat) : ∀ x ∈ idsL l n, I64 x := fun x hx => by
  obtain ⟨y, hy, rfl⟩ := List.mem_map.1 hx
  exact idN_i64 (h y (List.mem_of_mem_take hy))
theorem idsL_length (l : List Int) (n : Nat) : (idsL l n).length = min n l.length := by simp [idsL]
theorem idsL_le (l : List Int) (n : Nat) : (idsL l n).length ≤ n := by rw [idsL_length]; omega
theorem idsL_succ {l : List Int} {n : Nat} (h : n < l.length) : idsL l (n + 1) = idsL l n ++ [idN (l.getD n 0)] := by
  unfold idsL
  rw [List.take_add_one, List.getElem?_eq_getElem h, List.map_append, List.getD_eq_getElem?_getD, List.getElem?_eq_getElem h]
  rfl
end Go.Proofs.YtbabecjphmmngaaGreat
namespace Go.Proofs.YtbabecjphmmngaaGreat
open Go.RowKit

/-- The sum of the middle symbols at places. -/
def addL (S : Nat) (M : List (List Int)) (A : List Int) : List Int := A.foldl (fun s i => sumL (M.getD i.toNat []) s) (List.replicate S 0)
theorem addL_nil (S : Nat) (M : List (List Int)) : addL S M [] = List.replicate S 0 := rfl
theorem addL_snoc (S : Nat) (M : List (List Int)) (A : List Int) (i : Int) : addL S M (A ++ [i]) = sumL (M.getD i.toNat []) (addL S M A) := by
  unfold addL
  rw [List.foldl_append]
  rfl
theorem replicate_byt (S : Nat) : ∀ z ∈ List.replicate S (0 : Int), Byt z := fun z hz => by
  rw [List.eq_of_mem_replicate hz]
  unfold Byt
  omega
theorem sumL_byt {x y : List Int} (hx : ∀ z ∈ x, Byt z) (hy : ∀ z ∈ y, Byt z) : ∀ z ∈ sumL x y, Byt z := lst_byt fun i _ => addZ_byt (getD_byt hx i) (getD_byt hy i)
theorem vec_noughts (S : Nat) : vec (List.replicate S 0) = L.vzero := funext fun j => by
  show fb ((List.replicate S (0 : Int)).getD j 0) = L.zero
  rw [List.getD_eq_getElem?_getD, List.getElem?_replicate]
  split <;> rfl
theorem vec_ones_snoc {N q : Nat} {A : List Int} (hq : q < N) (hn : (q : Int) ∉ A) : vec (onesL N (A ++ [(q : Int)])) = L.vadd (vec (onesL N A)) (L.unit q) := funext fun j => by
  show fb ((onesL N (A ++ [(q : Int)])).getD j 0) = L.add (fb ((onesL N A).getD j 0)) (L.unit q j)
  by_cases hj : j < N
  · unfold onesL
    rw [lst_getD _ _ _ hj, lst_getD _ _ _ hj]
    unfold L.unit
    by_cases e : j = q
    · subst e
      rw [if_pos rfl, if_neg hn, if_pos (by simp), fb_zero, L.zero_add, fb_one]
    · rw [if_neg e, L.add_zero]
      have : ((j : Int) ∈ A ++ [(q : Int)]) = ((j : Int) ∈ A) := by
        simp only [List.mem_append, List.mem_singleton, eq_iff_iff]
        constructor
        · rintro (h | h)
          · exact h
          · omega
        · exact .inl
      simp only [this]
  · rw [getD_out (by rw [onesL_length]; omega), getD_out (by rw [onesL_length]; omega), fb_zero, L.zero_add]
    show L.zero = L.unit q j
    unfold L.unit
    rw [if_neg (by omega)]
/-- What is summed at places is what their row comes to. -/
theorem addL_is {N S : Nat} {M : List (List Int)} (hM : Wide S M) (hl : M.length = N) {A : List Int} (hA : ∀ x ∈ A, 0 ≤ x ∧ x < (N : Int)) (hn : A.Nodup) :
    (addL S M A).length = S ∧ (∀ z ∈ addL S M A, Byt z) ∧ vec (addL S M A) = L.lc (vec (onesL N A)) (M.map vec) := by
  suffices ∀ n, n ≤ A.length → (addL S M (A.take n)).length = S ∧ (∀ z ∈ addL S M (A.take n), Byt z) ∧ vec (addL S M (A.take n)) = L.lc (vec (onesL N (A.take n))) (M.map vec) by
    have := this A.length (Nat.le_refl _)
    rwa [List.take_length] at this
  intro n
  induction n with
  | zero =>
    intro _
    rw [List.take_zero, addL_nil, onesL_nil, vec_noughts, vec_noughts, L.lc_zero]
    exact ⟨by simp, replicate_byt S, rfl⟩
  | succ n ih =>
    intro hle
    obtain ⟨h1, h2, h3⟩ := ih (by omega)
    have hx := hA (A[n]'(by omega)) (List.getElem_mem _)
    obtain ⟨q, hq⟩ : ∃ q : Nat, A[n]'(by omega) = (q : Int) := ⟨(A[n]'(by omega)).toNat, by omega⟩
    have hqN : q < N := by omega
    have htk : A.take (n + 1) = A.take n ++ [(q : Int)] := by
      rw [List.take_add_one, List.getElem?_eq_getElem (by omega), hq]
      rfl
    have hni : (q : Int) ∉ A.take n := by
      intro hm
      rw [List.mem_take_iff_getElem] at hm
      obtain ⟨i, hi, he⟩ := hm
      have := (List.getElem_inj (xs := A) (h₀ := by omega) (h₁ := by omega) hn).1 (he.trans hq.symm)
      omega
    have hmq := hM.at q (by omega)
    rw [htk, addL_snoc, Int.toNat_natCast]
    refine ⟨by rw [sumL_length]; exact hmq.1, sumL_byt hmq.2 h2, ?_⟩
    rw [vec_sum hmq.2 h2 (by rw [hmq.1, h1]), vec_ones_snoc hqN hni, L.lc_add, L.lc_unit, rowAt_vec, ← h3, L.vadd_comm]
/-- The i-th source symbol. -/
def srcL (S : Nat) (D : List Int) (i : Nat) : List Int := (D.drop (i * S)).take S
/-- What the middle symbols come to. -/
def rhsL (K H S : Nat) (D : List Int) : List (List Int) := List.replicate H (List.replicate S 0) ++ (List.range K).map (srcL S D)
theorem srcL_length {K S i : Nat} {D : List Int} (hD : D.length = K * S) (hi : i < K) : (srcL S D i).length = S := by
  unfold srcL
  have : (i + 1) * S ≤ K * S := Nat.mul_le_mul_right S (by omega)
  rw [Nat.add_mul, Nat.one_mul] at this
  rw [List.length_take, List.length_drop, hD]
  omega
theorem srcL_byt {S i : Nat} {D : List Int} (hb : ∀ z ∈ D, Byt z) : ∀ z ∈ srcL S D i, Byt z := fun z hz => hb z (List.mem_of_mem_drop (List.mem_of_mem_take hz))
theorem rhsL_wide {K H S : Nat} {D : List Int} (hD : D.length = K * S) (hb : ∀ z ∈ D, Byt z) : Wide S (rhsL K H S D) := fun r hr => by
  unfold rhsL at hr
  rw [List.mem_append] at hr
  rcases hr with hr | hr
  · rw [List.eq_of_mem_replicate hr]
    exact ⟨by simp, replicate_byt S⟩
  · obtain ⟨i, hi, rfl⟩ := List.mem_map.1 hr
    exact ⟨srcL_length hD (List.mem_range.1 hi), srcL_byt hb⟩
theorem rhsL_length (K H S : Nat) (D : List Int) : (rhsL K H S D).length = H + K := by simp [rhsL]
theorem fb_back (x : L.Fb) : fb (x.n : Int) = x ∧ Byt (x.n : Int) := by
  have := x.lt
  refine ⟨?_, by unfold Byt; omega⟩
  apply L.Fb.ext
  show ((x.n : Int)).toNat % 256 = x.n
  rw [Int.toNat_natCast]
  omega
theorem vec_back {n : Nat} {v : L.V} (h : L.Supp n v) : ∃ l : List Int, l.length = n ∧ (∀ z ∈ l, Byt z) ∧ vec l = v := by
  refine ⟨lst n fun j => ((v j).n : Int), lst_length _ _, lst_byt fun i _ => (fb_back (v i)).2, funext fun j => ?_⟩
  show fb ((lst n fun j => ((v j).n : Int)).getD j 0) = v j
  by_cases hj : j < n
  · rw [lst_getD _ _ _ hj, (fb_back (v j)).1]
  · rw [getD_out (by rw [lst_length]; omega), fb_zero, h j (by omega)]
theorem vecs_back {S : Nat} : ∀ X : List L.V, (∀ x ∈ X, L.Supp S x) → ∃ M : List (List Int), Wide S M ∧ M.map vec = X
  | [], _ => ⟨[], Wide.nil S, rfl⟩
  | x :: X, h => by
    obtain ⟨M, h1, h2⟩ := vecs_back X fun y hy => h y (by simp [hy])
    obtain ⟨l, h3, h4, h5⟩ := vec_back (h x (by simp))
    refine ⟨l :: M, fun r hr => ?_, by rw [List.map_cons, h5, h2]⟩
    rcases List.mem_cons.1 hr with rfl | hr
    · exact ⟨h3, h4⟩
    · exact h1 r hr
/-- M are the middle symbols. -/
structure IsMid (K H S : Nat) (seed : Nat) (D : List Int) (M : List (List Int)) : Prop where
  len : M.length = K + H
  wide : Wide S M
  mul : IsMul S (matP K H S seed (firstI K)) M (rhsL K H S D)
theorem firstI_may {n : Nat} (h : n ≤ 1000) : ∀ x ∈ firstI n, MayI x := fun x hx => by
  simp only [firstI, List.mem_map, List.mem_range] at hx
  obtain ⟨a, h1, rfl⟩ := hx
  unfold MayI
  omega
theorem firstM_is {K H S : Nat} (hm : MayP K H S) (seed : Nat) : matP K H S seed (firstI K) = ahead K H ++ (firstI K).map (rowP K H S seed) := by
  rw [matP_in hm]
  congr 2
  refine List.filter_eq_self.2 fun x hx => decide_eq_true (firstI_may (by have := hm.2.1; omega) x hx)
theorem firstM_length {K H S : Nat} (hm : MayP K H S) (seed : Nat) : (matP K H S seed (firstI K)).length = H + K := by
  rw [firstM_is hm, List.length_append, ahead_length, List.length_map, firstI_length]
theorem right_rk {K H S : Nat} {seed : Nat} (hr : RightP K H S seed) : rkL (matP K H S seed (firstI K)) = K + H := by
  unfold RightP at hr
  rw [Int.toNat_natCast] at hr
  have h := hr.2
  have : colsP K H S = K + H := by unfold colsP; rw [if_pos hr.1]
  omega
theorem mid_exists {K H S seed : Nat} {D : List Int} (hr : RightP K H S seed) (hD : D.length = K * S) (hb : ∀ z ∈ D, Byt z) : ∃ M, IsMid K H S seed D M := by
  have hm := hr.1
  have hw := matP_wide hm seed (firstI K)
  obtain ⟨X, h1, h2, h3⟩ := L.square hw.supp (by rw [List.length_map, firstM_length hm, Nat.add_comm]) (right_rk hr) (C := (rhsL K H S D).map vec) (by rw [List.length_map, rhsL_length, Nat.add_comm]) (rhsL_wide hD hb).supp
  obtain ⟨M, m1, m2⟩ := vecs_back (S := S) X h2
  refine ⟨M, ⟨by rw [← h1, ← m2, List.length_map], m1, rhsL_wide hD hb, ?_⟩⟩
  rw [m2, h3]
theorem IsMid.unique {K H S seed : Nat} {D : List Int} {M M' : List (List Int)} (hr : RightP K H S seed) (h : IsMid K H S seed D M) (h' : IsMid K H S seed D M') : M = M' := by
  have hw := matP_wide hr.1 seed (firstI K)
  refine map_vec_inj h.wide h'.wide (L.mul_unique hw.supp (right_rk hr) (by rw [List.length_map, h.len]) (by rw [List.length_map, h'.len]) ?_)
  rw [← h.mul.2, ← h'.mul.2]
end Go.Proofs.YtbabecjphmmngaaGreat
namespace Go.Proofs.YtbabecjphmmngaaGreat
open Go.RowKit

theorem atN_nodup {N : Nat} (h1 : 1 ≤ N) (h2 : N ≤ 64) (seed id : Nat) : (atN N seed id).Nodup := by
  obtain ⟨s, k, _, hb, h⟩ := atN_some h1 h2 seed id
  rw [h]
  refine List.Pairwise.imp (fun h => ?_) (C.some_sorted hb)
  omega
/-- A symbol of a block. -/
def symP (K H S seed : Nat) (M : List (List Int)) (id : Int) : List Int := if MayI id then addL S M (atN (K + H) seed id.toNat) else []
theorem sym_is {K H S seed : Nat} {M : List (List Int)} (hm : MayP K H S) (hM : Wide S M) (hl : M.length = K + H) {id : Int} (hi : MayI id) :
    (symP K H S seed M id).length = S ∧ (∀ z ∈ symP K H S seed M id, Byt z) ∧ vec (symP K H S seed M id) = L.lc (vec (rowP K H S seed id)) (M.map vec) := by
  have hN : 1 ≤ K + H ∧ K + H ≤ 64 := by unfold MayP at hm; omega
  unfold symP
  rw [if_pos hi, rowP_in hm hi]
  exact addL_is hM hl (atN_rng _ _ _) (atN_nodup hN.1 hN.2 _ _)
theorem sym_byt {K H S seed : Nat} {M : List (List Int)} (hm : MayP K H S) (hM : Wide S M) (hl : M.length = K + H) (id : Int) : ∀ z ∈ symP K H S seed M id, Byt z := by
  by_cases hi : MayI id
  · exact (sym_is hm hM hl hi).2.1
  · unfold symP
    rw [if_neg hi]
    simp
theorem rhsL_src {K H S i : Nat} {D : List Int} (hi : i < K) : (rhsL K H S D).getD (H + i) [] = srcL S D i := by
  unfold rhsL
  rw [List.getD_eq_getElem?_getD, List.getElem?_append_right (by simp), List.length_replicate, Nat.add_sub_cancel_left, List.getElem?_map, List.getElem?_range hi]
  rfl
theorem rhsL_head {K H S i : Nat} {D : List Int} (hi : i < H) : (rhsL K H S D).getD i [] = List.replicate S 0 := by
  unfold rhsL
  rw [List.getD_eq_getElem?_getD, List.getElem?_append_left (by simpa using hi), List.getElem?_replicate, if_pos hi]
  rfl
theorem mul_at {A X O : List (List Int)} {m : Nat} (h : IsMul m A X O) {i : Nat} (hi : i < A.length) : L.lc (vec (A.getD i [])) (X.map vec) = vec (O.getD i []) := by
  have h2 := congrArg (fun l => l[i]?) h.2
  simp only [L.mulM, List.getElem?_map] at h2
  have hO : i < O.length := by rw [h.length]; exact hi
  rw [List.getElem?_eq_getElem hi, List.getElem?_eq_getElem hO] at h2
  rw [List.getD_eq_getElem?_getD, List.getD_eq_getElem?_getD, List.getElem?_eq_getElem hi, List.getElem?_eq_getElem hO]
  simpa using h2.symm
theorem firstI_getD {K i : Nat} (hi : i < K) : (firstI K).getD i 0 = (i : Int) := by
  unfold firstI
  rw [List.getD_eq_getElem?_getD, List.getElem?_map, List.getElem?_range hi]
  rfl
theorem firstM_row {K H S i : Nat} (hm : MayP K H S) (seed : Nat) (hi : i < K) : (matP K H S seed (firstI K)).getD (H + i) [] = rowP K H S seed i := by
  rw [firstM_is hm, List.getD_eq_getElem?_getD, List.getElem?_append_right (by rw [ahead_length]; omega), ahead_length, Nat.add_sub_cancel_left, List.getElem?_map, List.getElem?_eq_getElem (by rw [firstI_length]; exact hi)]
  have := firstI_getD hi
  rw [List.getD_eq_getElem?_getD, List.getElem?_eq_getElem (by rw [firstI_length]; exact hi)] at this
  simp at this
  simp [this]
theorem may_of_lt {K i : Nat} (hK : K ≤ 1000) (hi : i < K) : MayI (i : Int) := by
  unfold MayI
  omega
/-- The first symbols are the data. -/
theorem IsMid.first {K H S seed : Nat} {D : List Int} {M : List (List Int)} (hm : MayP K H S) (h : IsMid K H S seed D M) (hD : D.length = K * S) (hb : ∀ z ∈ D, Byt z) {i : Nat} (hi : i < K) : symP K H S seed M i = srcL S D i := by
  have hi2 : MayI (i : Int) := may_of_lt (by unfold MayP at hm; omega) hi
  obtain ⟨h1, h2, h3⟩ := sym_is (seed := seed) hm h.wide h.len hi2
  refine vec_inj (by rw [h1, srcL_length hD hi]) h2 (srcL_byt hb) ?_
  have := mul_at h.mul (i := H + i) (by rw [firstM_length hm]; omega)
  rw [firstM_row hm seed hi, rhsL_src hi] at this
  rw [h3, this]
/-- The rows ahead come to noughts. -/
theorem IsMid.ahead {K H S seed : Nat} {D : List Int} {M O : List (List Int)} (hm : MayP K H S) (h : IsMid K H S seed D M) (ho : IsMul S (ahead K H) M O) : O = List.replicate H (List.replicate S 0) := by
  refine map_vec_inj ho.1 (fun r hr => by rw [List.eq_of_mem_replicate hr]; exact ⟨by simp, replicate_byt S⟩) ?_
  rw [ho.2]
  have h2 := congrArg (List.take H) h.mul.2
  rw [firstM_is hm] at h2
  unfold rhsL L.mulM at h2
  rw [← List.map_take, ← List.map_take, List.take_left' (by simp)] at h2
  rw [h2, List.map_append, List.take_left' (by simp [ahead_length])]
  rfl
theorem sumL_assoc {S : Nat} {a b c : List Int} (ha : a.length = S) (hb : b.length = S) : sumL (sumL a b) c = sumL a (sumL b c) := by
  apply ext_getD (by rw [sumL_length, sumL_length, sumL_length])
  intro j hj
  rw [sumL_length, sumL_length] at hj
  rw [sumL_getD _ _ _ (by rw [sumL_length]; exact hj), sumL_getD _ _ _ hj, sumL_getD _ _ _ hj, sumL_getD _ _ _ (by omega), addZ_assoc]
/-- The middle symbols of a sum. -/
def sumM (M M' : List (List Int)) : List (List Int) := List.zipWith sumL M M'
theorem zip_vec {S : Nat} : ∀ {M M' : List (List Int)}, Wide S M → Wide S M' → M.length = M'.length → (sumM M M').map vec = List.zipWith L.vadd (M.map vec) (M'.map vec)
  | [], [], _, _, _ => rfl
  | [], _ :: _, _, _, h => by simp at h
  | _ :: _, [], _, _, h => by simp at h
  | r :: M, s :: M', h, h', hl => by
    have hr := h r (by simp)
    have hs := h' s (by simp)
    show vec (sumL r s) :: (sumM M M').map vec = L.vadd (vec r) (vec s) :: List.zipWith L.vadd (M.map vec) (M'.map vec)
    rw [vec_sum hr.2 hs.2 (by rw [hr.1, hs.1]), zip_vec (fun x hx => h x (by simp [hx])) (fun x hx => h' x (by simp [hx])) (by simpa using hl)]
theorem lc_zip (c : L.V) : ∀ (X Y : List L.V), X.length = Y.length → L.lc c (List.zipWith L.vadd X Y) = L.vadd (L.lc c X) (L.lc c Y) := by
  intro X
  induction X generalizing c with
  | nil =>
    intro Y h
    obtain rfl : Y = [] := List.eq_nil_of_length_eq_zero (by simpa using h.symm)
    exact (L.vadd_zero _).symm
  | cons x X ih =>
    intro Y h
    cases Y with
    | nil => simp at h
    | cons y Y =>
      show L.vadd (L.smul (c 0) (L.vadd x y)) (L.lc (fun i => c (i + 1)) (List.zipWith L.vadd X Y)) = L.vadd (L.vadd (L.smul (c 0) x) (L.lc (fun i => c (i + 1)) X)) (L.vadd (L.smul (c 0) y) (L.lc (fun i => c (i + 1)) Y))
      rw [ih _ _ (by simpa using h), L.smul_add, L.vadd_assoc, L.vadd_assoc, L.vadd_left_comm (L.smul (c 0) y)]
theorem sumM_wide {S : Nat} {M M' : List (List Int)} (h : Wide S M) (h' : Wide S M') : Wide S (sumM M M') := fun r hr => by
  unfold sumM at hr
  obtain ⟨i, hi, rfl⟩ := List.getElem_of_mem hr
  rw [List.length_zipWith] at hi
  rw [List.getElem_zipWith]
  have h1 := h (M[i]'(by omega)) (List.getElem_mem _)
  have h2 := h' (M'[i]'(by omega)) (List.getElem_mem _)
  exact ⟨by rw [sumL_length]; exact h1.1, sumL_byt h1.2 h2.2⟩
theorem sum_src {S K i : Nat} {D D' : List Int} (hD : D.length = K * S) (hD' : D'.length = K * S) (hi : i < K) : srcL S (sumL D D') i = sumL (srcL S D i) (srcL S D' i) := by
  have hl := srcL_length hD hi
  have hl' := srcL_length hD' hi
  have hls : (srcL S (sumL D D') i).length = S := srcL_length (by rw [sumL_length, hD]) hi
  apply ext_getD (by rw [sumL_length, hl, hls])
  intro j hj
  rw [hls] at hj
  have hij : i * S + j < K * S := by
    have : (i + 1) * S ≤ K * S := Nat.mul_le_mul_right S (by omega)
    rw [Nat.add_mul, Nat.one_mul] at this
    omega
  rw [sumL_getD _ _ _ (by omega)]
  unfold srcL
  simp only [List.getD_eq_getElem?_getD, List.getElem?_take_of_lt hj, List.getElem?_drop]
  simp only [← List.getD_eq_getElem?_getD]
  rw [sumL_getD _ _ _ (by omega)]
theorem sum_noughts {S : Nat} : sumL (List.replicate S 0) (List.replicate S 0) = List.replicate S 0 := by
  apply ext_getD (by rw [sumL_length])
  intro j hj
  rw [sumL_length, List.length_replicate] at hj
  rw [sumL_getD _ _ _ (by simpa using hj)]
  have : (List.replicate S (0 : Int)).getD j 0 = 0 := by rw [List.getD_eq_getElem?_getD, List.getElem?_replicate]; split <;> rfl
  rw [this, addZ_self]
theorem rhs_sum {K H S : Nat} {D D' : List Int} (hD : D.length = K * S) (hD' : D'.length = K * S) : rhsL K H S (sumL D D') = sumM (rhsL K H S D) (rhsL K H S D') := by
  apply List.ext_getElem?
  intro i
  unfold sumM
  rw [List.getElem?_zipWith]
  by_cases h1 : i < H + K
  · have e : ∀ X : List Int, (rhsL K H S X)[i]? = some ((rhsL K H S X).getD i []) := fun X => by
      rw [List.getD_eq_getElem?_getD, List.getElem?_eq_getElem (by rw [rhsL_length]; exact h1)]
      rfl
    rw [e, e, e]
    show some _ = some _
    congr 1
    by_cases h2 : i < H
    · rw [rhsL_head h2, rhsL_head h2, rhsL_head h2, sum_noughts]
    · obtain ⟨k, rfl⟩ : ∃ k, i = H + k := ⟨i - H, by omega⟩
      rw [rhsL_src (by omega), rhsL_src (by omega), rhsL_src (by omega), sum_src hD hD' (by omega)]
  · have e : ∀ X : List Int, (rhsL K H S X)[i]? = none := fun X => List.getElem?_eq_none (by rw [rhsL_length]; omega)
    rw [e, e, e]
/-- The middle symbols of a sum of blocks are the sums of theirs. -/
theorem IsMid.sum {K H S seed : Nat} {D D' : List Int} {M M' : List (List Int)} (h : IsMid K H S seed D M) (h' : IsMid K H S seed D' M') (hD : D.length = K * S) (hD' : D'.length = K * S) (hb : ∀ z ∈ D, Byt z) (hb' : ∀ z ∈ D', Byt z) : IsMid K H S seed (sumL D D') (sumM M M') := by
  have hl : M.length = M'.length := by rw [h.len, h'.len]
  refine ⟨by unfold sumM; rw [List.length_zipWith, h.len, h'.len, Nat.min_self], sumM_wide h.wide h'.wide, rhsL_wide (by rw [sumL_length, hD]) (sumL_byt hb hb'), ?_⟩
  rw [rhs_sum hD hD', zip_vec (rhsL_wide hD hb) (rhsL_wide hD' hb') (by rw [rhsL_length, rhsL_length]), h.mul.2, h'.mul.2, zip_vec h.wide h'.wide hl]
  unfold L.mulM
  apply List.ext_getElem?
  intro i
  rw [List.getElem?_zipWith, List.getElem?_map, List.getElem?_map, List.getElem?_map, List.getElem?_map, List.getElem?_map, List.getElem?_map]
  cases (matP K H S seed (firstI K))[i]? with
  | none => rfl
  | some r => exact congrArg some (lc_zip (vec r) _ _ (by rw [List.length_map, List.length_map, hl])).symm
/-- The symbols of a sum of blocks. -/
theorem sym_sum {K H S seed : Nat} {M M' : List (List Int)} (hm : MayP K H S) (hM : Wide S M) (hM' : Wide S M') (hl : M.length = K + H) (hl' : M'.length = K + H) {id : Int} (hi : MayI id) : symP K H S seed (sumM M M') id = sumL (symP K H S seed M id) (symP K H S seed M' id) := by
  obtain ⟨a1, a2, a3⟩ := sym_is (seed := seed) hm hM hl hi
  obtain ⟨b1, b2, b3⟩ := sym_is (seed := seed) hm hM' hl' hi
  obtain ⟨c1, c2, c3⟩ := sym_is (seed := seed) hm (sumM_wide hM hM') (by unfold sumM; rw [List.length_zipWith, hl, hl', Nat.min_self]) hi
  refine vec_inj (by rw [c1, sumL_length, a1]) c2 (sumL_byt a2 b2) ?_
  rw [c3, vec_sum a2 b2 (by rw [a1, b1]), a3, b3, zip_vec hM hM' (by rw [hl, hl']), lc_zip _ _ _ (by rw [List.length_map, List.length_map, hl, hl'])]
/-- The block of noughts. -/
theorem mid_noughts {K H S seed : Nat} (hm : MayP K H S) : IsMid K H S seed (List.replicate (K * S) 0) (List.replicate (K + H) (List.replicate S 0)) := by
  have hb := replicate_byt (K * S)
  have hz : (List.replicate (K + H) (List.replicate S (0 : Int))).map vec = List.replicate (K + H) L.vzero := by rw [List.map_replicate, vec_noughts]
  refine ⟨by simp, fun r hr => by rw [List.eq_of_mem_replicate hr]; exact ⟨by simp, replicate_byt S⟩, rhsL_wide (by simp) hb, ?_⟩
  have hlc : ∀ (n : Nat) (c : L.V), L.lc c (List.replicate n L.vzero) = L.vzero := by
    intro n
    induction n with
    | zero => intro c; rfl
    | succ n ih =>
      intro c
      rw [List.replicate_succ]
      show L.vadd (L.smul (c 0) L.vzero) (L.lc (fun i => c (i + 1)) (List.replicate n L.vzero)) = L.vzero
      rw [ih, L.smul_zero, L.vadd_zero]
  rw [hz]
  unfold L.mulM
  apply List.ext_getElem?
  intro i
  rw [List.getElem?_map, List.getElem?_map, List.getElem?_map]
  have hsr : ∀ k, srcL S (List.replicate (K * S) 0) k = List.replicate (min S (K * S - k * S)) 0 := fun k => by
    unfold srcL
    rw [List.drop_replicate, List.take_replicate]
  by_cases h1 : i < H + K
  · rw [List.getElem?_eq_getElem (by rw [rhsL_length]; exact h1), List.getElem?_eq_getElem (by rw [firstM_length hm]; exact h1)]
    show some _ = some _
    congr 1
    show vec _ = L.lc _ (List.replicate (K + H) L.vzero)
    rw [hlc]
    have e : (rhsL K H S (List.replicate (K * S) 0))[i]'(by rw [rhsL_length]; exact h1) = (rhsL K H S (List.replicate (K * S) 0)).getD i [] := by
      rw [List.getD_eq_getElem?_getD, List.getElem?_eq_getElem (by rw [rhsL_length]; exact h1)]
      rfl
    rw [e]
    by_cases h2 : i < H
    · rw [rhsL_head h2, vec_noughts]
    · obtain ⟨k, rfl⟩ : ∃ k, i = H + k := ⟨i - H, by omega⟩
      rw [rhsL_src (by omega), hsr, vec_noughts]
  · rw [List.getElem?_eq_none (by rw [rhsL_length]; omega), List.getElem?_eq_none (by rw [firstM_length hm]; omega)]
    rfl
end Go.Proofs.YtbabecjphmmngaaGreat
namespace Go.Proofs.YtbabecjphmmngaaGreat
open Go.RowKit

theorem run_append_in {P : Program} {w : World} (base : Nat) (t ty e : TypeId) (i : TypeInfo) (z : Value) (bytes : Nat) (ht : P.underlying t = some (.slice e)) (hi : P.info? e = some i) (hz : i.zero = some z)
    (hsize : i.size = 1) (hby : i.bytes = bytes) (hzs : z.cells.size = 1) (v : Value) (n : Nat) (xs : List Value) (hown : w.ownsRow base e 1 v n xs)
    (oa : Option Addr) (m c : Nat) (news : List Value) (hno : oa = none → m = 0 ∧ c = 0) (hl : news.length = m) (hnews : ∀ ad, oa = some ad → ∀ j u, news[j]? = some u → w.cell? (ad.add j) = some u) (h1 : ∀ u ∈ news, u.oneCell' = true)
    (h63 : n + m ≤ maxLen) (hbytes : (n + m) * bytes ≤ 140737488355328) (hbase : base ≤ w.heap.size) :
    ∃ v' w', (Builtin.append_ #[t, t] ty #[v, .slice oa m c]).run P w = .ok v' w' ∧ w'.ownsRow base e 1 v' (n + m) (xs ++ news) ∧ w.grownBy w' v.ownBlock := by
  cases oa with
  | none =>
    obtain ⟨rfl, rfl⟩ := hno rfl
    obtain rfl : news = [] := List.eq_nil_of_length_eq_zero hl
    refine ⟨v, w, run_append_owned_none (P := P) (w := w) base t ty e i 1 ht hi v n xs hown, by rw [List.append_nil]; exact hown, ⟨rfl, rfl, rfl, Nat.le_refl _, fun _ _ _ => rfl⟩⟩
  | some ad =>
    obtain ⟨v', w', hr, h2, h3, _⟩ := run_append_own (P := P) w base t ty e i z 1 bytes ht hi hz hsize hby hzs (by omega) v n xs hown ad m c news (by omega) (hnews ad rfl) h1 h63 hbytes hbase
    exact ⟨v', w', hr, h2, h3⟩
theorem wp_append_in {P : Program} {w : World} {o : Oper} {a : Act} {K : Act → World → Prop} {Q : Exit → Act → World → Prop} (s x : Operand) (t : TypeId)
    (ho : o.op = .call { callee := .builtin .append, args := #[s, x], argTypes := #[t, t] })
    (base : Nat) (e : TypeId) (i : TypeInfo) (z : Value) (bytes : Nat) (ht : P.underlying t = some (.slice e)) (hi : P.info? e = some i) (hz : i.zero = some z)
    (hsize : i.size = 1) (hby : i.bytes = bytes) (hzs : z.cells.size = 1) (v : Value) (n : Nat) (xs : List Value) (hs : a.eval s = v) (hown : w.ownsRow base e 1 v n xs)
    (oa : Option Addr) (m c : Nat) (news : List Value) (hx : a.eval x = .slice oa m c) (hno : oa = none → m = 0 ∧ c = 0) (hl : news.length = m) (hnews : ∀ ad, oa = some ad → ∀ j u, news[j]? = some u → w.cell? (ad.add j) = some u) (h1 : ∀ u ∈ news, u.oneCell' = true)
    (h63 : n + m ≤ maxLen) (hbytes : (n + m) * bytes ≤ 140737488355328) (hbase : base ≤ w.heap.size)
    (h : ∀ v' w', w'.ownsRow base e 1 v' (n + m) (xs ++ news) → w.grownBy w' v.ownBlock → K (a.put o.dst v') w') : o.wp P a w K Q := by
  obtain ⟨v', w', hr, h2, h3⟩ := run_append_in (P := P) (w := w) base t o.type e i z bytes ht hi hz hsize hby hzs v n xs hown oa m c news hno hl hnews h1 h63 hbytes hbase
  unfold Oper.wp execOp
  simp only [ho, resolve, invoke, builtin, Sem.run_bind, Sem.run_pure, Result.andThen_ok, List.map_toArray, List.map_cons, List.map_nil, hs, hx, hr]
  exact h v' w' h2 h3
theorem wpList_append_in {P : Program} {w : World} {ops : Array Oper} {rest : List Oper} {o : Oper} {a : Act} {Q : Exit → Act → World → Prop} (hgd : o.guard = none) (s x : Operand) (t : TypeId)
    (ho : o.op = .call { callee := .builtin .append, args := #[s, x], argTypes := #[t, t] })
    (base : Nat) (e : TypeId) (i : TypeInfo) (z : Value) (bytes : Nat) (ht : P.underlying t = some (.slice e)) (hi : P.info? e = some i) (hz : i.zero = some z)
    (hsize : i.size = 1) (hby : i.bytes = bytes) (hzs : z.cells.size = 1) (v : Value) (n : Nat) (xs : List Value) (hs : a.eval s = v) (hown : w.ownsRow base e 1 v n xs)
    (oa : Option Addr) (m c : Nat) (news : List Value) (hx : a.eval x = .slice oa m c) (hno : oa = none → m = 0 ∧ c = 0) (hl : news.length = m) (hnews : ∀ ad, oa = some ad → ∀ j u, news[j]? = some u → w.cell? (ad.add j) = some u) (h1 : ∀ u ∈ news, u.oneCell' = true)
    (h63 : n + m ≤ maxLen) (hbytes : (n + m) * bytes ≤ 140737488355328) (hbase : base ≤ w.heap.size)
    (h : ∀ v' w', w'.ownsRow base e 1 v' (n + m) (xs ++ news) → w.grownBy w' v.ownBlock → wpList P ops Q rest (a.put o.dst v') w') : wpList P ops Q (o :: rest) a w :=
  wpList_plain hgd fun _ hK => wp_append_in s x t ho base e i z bytes ht hi hz hsize hby hzs v n xs hs hown oa m c news hx hno hl hnews h1 h63 hbytes hbase fun v' w' h2 h3 => hK _ _ (h v' w' h2 h3)
theorem step_append_in {P : Program} {w : World} {ops : Array Oper} {o : Oper} {a : Act} {K : Act → World → Prop} {Q : Exit → Act → World → Prop} {E : Prop} (hgd : o.guard = none) (s x : Operand) (t : TypeId)
    (ho : o.op = .call { callee := .builtin .append, args := #[s, x], argTypes := #[t, t] })
    (base : Nat) (e : TypeId) (i : TypeInfo) (z : Value) (bytes : Nat) (ht : P.underlying t = some (.slice e)) (hi : P.info? e = some i) (hz : i.zero = some z)
    (hsize : i.size = 1) (hby : i.bytes = bytes) (hzs : z.cells.size = 1) (v : Value) (n : Nat) (xs : List Value) (hs : a.eval s = v) (hown : w.ownsRow base e 1 v n xs)
    (oa : Option Addr) (m c : Nat) (news : List Value) (hx : a.eval x = .slice oa m c) (hno : oa = none → m = 0 ∧ c = 0) (hl : news.length = m) (hnews : ∀ ad, oa = some ad → ∀ j u, news[j]? = some u → w.cell? (ad.add j) = some u) (h1 : ∀ u ∈ news, u.oneCell' = true)
    (h63 : n + m ≤ maxLen) (hbytes : (n + m) * bytes ≤ 140737488355328) (hbase : base ≤ w.heap.size)
    (h : ∀ v' w', w'.ownsRow base e 1 v' (n + m) (xs ++ news) → w.grownBy w' v.ownBlock → K (a.put o.dst v') w') :
    if Region.wanted o (yielded ops a.tmps) = true then Oper.wp P o a w K Q else E := by
  have hw : Region.wanted o (yielded ops a.tmps) = true := by simp [Region.wanted, hgd]
  rw [if_pos hw]
  exact wp_append_in s x t ho base e i z bytes ht hi hz hsize hby hzs v n xs hs hown oa m c news hx hno hl hnews h1 h63 hbytes hbase h

/-- The rows of a slice of rows, one by one. -/
def Vals (w : World) (oa : Option Addr) (us : List Value) (L : List (List Int)) : Prop :=
  us.length = L.length ∧ (∀ ad, oa = some ad → ∀ j u, us[j]? = some u → w.cell? (ad.add j) = some u) ∧ (∀ i, i < L.length → Bs w (us.getD i undef) (L.getD i [])) ∧ ∀ u ∈ us, u.oneCell' = true
theorem Vals.grown {w w' : World} {oa : Option Addr} {us : List Value} {L : List (List Int)} (h : Vals w oa us L) (hg : Gr w w') : Vals w' oa us L :=
  ⟨h.1, fun ad ha j u hu => cell_grown hg (h.2.1 ad ha j u hu), fun i hi => Bs.grown (h.2.2.1 i hi) hg, h.2.2.2⟩
theorem Bss.vals {w : World} {oa : Option Addr} {n c : Nat} {L : List (List Int)} (h : Bss w (.slice oa n c) L) : ∃ us, Vals w oa us L := by
  obtain ⟨oa', c', he, h2, h3, h4, h5⟩ := h
  obtain ⟨rfl, rfl, rfl⟩ : oa = oa' ∧ n = L.length ∧ c = c' := by simpa using he
  cases oa with
  | none =>
    have : L = [] := List.eq_nil_of_length_eq_zero (by have := h4 rfl; omega)
    subst this
    exact ⟨[], rfl, (fun ad ha => by cases ha), (fun i hi => by simp at hi), by simp⟩
  | some a =>
    have hex : ∀ i, ∃ u, i < L.length → w.cell? (a.add i) = some u ∧ Bs w u (L.getD i []) := fun i => by
      by_cases hi : i < L.length
      · obtain ⟨u, h⟩ := h5 a rfl i hi
        exact ⟨u, fun _ => h⟩
      · exact ⟨undef, fun h => absurd h hi⟩
    have hf := fun i => Classical.choose_spec (hex i)
    have hget : ∀ i, i < L.length → ((List.range L.length).map fun i => Classical.choose (hex i)).getD i undef = Classical.choose (hex i) := fun i hi => by
      rw [List.getD_eq_getElem?_getD, List.getElem?_map, List.getElem?_range hi]
      rfl
    refine ⟨(List.range L.length).map fun i => Classical.choose (hex i), by simp, fun ad ha j u hu => ?_, fun i hi => ?_, fun u hu => ?_⟩
    · cases ha
      rw [List.getElem?_map] at hu
      by_cases hj : j < L.length
      · rw [List.getElem?_range hj] at hu
        simp at hu
        rw [← hu]
        exact (hf j hj).1
      · rw [List.getElem?_eq_none (by simp; omega)] at hu
        cases hu
    · rw [hget i hi]
      exact (hf i hi).2
    · obtain ⟨i, hi, rfl⟩ := List.mem_map.1 hu
      obtain ⟨o, cc, he⟩ := ((hf i (List.mem_range.1 hi)).2).form
      rw [he]
      rfl
theorem Vals.append {w : World} {us us' : List Value} {L L' : List (List Int)} {oa ob : Option Addr} (h : Vals w oa us L) (h' : Vals w ob us' L') :
    (us ++ us').length = (L ++ L').length ∧ (∀ i, i < (L ++ L').length → Bs w ((us ++ us').getD i undef) ((L ++ L').getD i [])) := by
  refine ⟨by rw [List.length_append, List.length_append, h.1, h'.1], fun i hi => ?_⟩
  rw [List.getD_eq_getElem?_getD, List.getD_eq_getElem?_getD]
  by_cases e : i < L.length
  · rw [List.getElem?_append_left (by rw [h.1]; exact e), List.getElem?_append_left e, ← List.getD_eq_getElem?_getD, ← List.getD_eq_getElem?_getD]
    exact h.2.2.1 i e
  · rw [List.length_append] at hi
    rw [List.getElem?_append_right (by rw [h.1]; omega), List.getElem?_append_right (by omega), h.1, ← List.getD_eq_getElem?_getD, ← List.getD_eq_getElem?_getD]
    exact h'.2.2.1 _ (by omega)
/-- A slice of rows of one's own, whose rows read so. -/
theorem owns_bss {base n : Nat} {w : World} {v : Value} {us : List Value} {L : List (List Int)} (ho : w.ownsRow base 25 1 v n us) (hl : L.length = n) (hr : ∀ i, i < L.length → Bs w (us.getD i undef) (L.getD i [])) : Bss w v L := by
  subst hl
  by_cases h0 : 0 < L.length
  · obtain ⟨g, c, rfl, h1, h2, h3, h4, h5⟩ := ownsRow_cell ho h0
    refine ⟨some ⟨g, 0, none⟩, c, rfl, h1, by unfold maxLen at h2; omega, (fun h => by cases h), fun a ha i hi => ?_⟩
    cases ha
    rw [Addr.add_mid, Nat.zero_add]
    exact ⟨_, h5 i hi, hr i hi⟩
  · have : L = [] := List.eq_nil_of_length_eq_zero (by omega)
    subst this
    obtain ⟨_, ⟨rfl, _⟩ | ⟨g, c, cur, rfl, _, _, _, h2, _⟩⟩ := ho
    · exact Bss.nil w
    · exact ⟨_, c, rfl, by simp, by unfold maxLen at h2; omega, (fun h => by cases h), fun a _ i hi => by simp at hi⟩
theorem Vals.take {w : World} {oa : Option Addr} {us : List Value} {L : List (List Int)} (h : Vals w oa us L) (k : Nat) : Vals w oa (us.take k) (L.take k) := by
  refine ⟨by rw [List.length_take, List.length_take, h.1], fun ad ha j u hu => ?_, fun i hi => ?_, fun u hu => h.2.2.2 u (List.mem_of_mem_take hu)⟩
  · by_cases e : j < k
    · rw [List.getElem?_take_of_lt e] at hu
      exact h.2.1 ad ha j u hu
    · rw [List.getElem?_eq_none (by rw [List.length_take]; omega)] at hu
      cases hu
  · rw [List.length_take] at hi
    rw [List.getD_eq_getElem?_getD, List.getD_eq_getElem?_getD, List.getElem?_take_of_lt (by omega), List.getElem?_take_of_lt (by omega), ← List.getD_eq_getElem?_getD, ← List.getD_eq_getElem?_getD]
    exact h.2.2.1 i (by omega)
theorem Vals.drop {w : World} {b : Addr} {us : List Value} {L : List (List Int)} {k ca : Nat} (h : Vals w (some b) us L) (hm : L.length ≤ ca) (hk : k ≤ L.length) : Vals w (if ca = k then some b else some (b.add k)) (us.drop k) (L.drop k) := by
  refine ⟨by rw [List.length_drop, List.length_drop, h.1], fun ad ha j u hu => ?_, fun i hi => ?_, fun u hu => h.2.2.2 u (List.mem_of_mem_drop hu)⟩
  · rw [List.getElem?_drop] at hu
    have hlt := (List.getElem?_eq_some_iff.1 hu).1
    rw [h.1] at hlt
    rw [if_neg (by omega)] at ha
    cases ha
    rw [Addr.add_add']
    exact h.2.1 b rfl _ u hu
  · rw [List.length_drop] at hi
    rw [List.getD_eq_getElem?_getD, List.getD_eq_getElem?_getD, List.getElem?_drop, List.getElem?_drop, ← List.getD_eq_getElem?_getD, ← List.getD_eq_getElem?_getD]
    exact h.2.2.1 _ (by omega)
end Go.Proofs.YtbabecjphmmngaaGreat
namespace Go.Proofs.YtbabecjphmmngaaGreat
open Go.RowKit

theorem ints_cells {w : World} {o : Option Addr} {l : List Int} {n : Nat} (hl : l.length = n) (h : ∀ a, o = some a → ∀ i, i < n → w.cell? (a.add i) = some (.int .i64 (l.getD i 0))) :
    ∀ ad, o = some ad → ∀ i u, (l.map (Value.int .i64))[i]? = some u → w.cell? (ad.add i) = some u := by
  intro ad ha i u hu
  have hi : i < l.length := by
    have := (List.getElem?_eq_some_iff.1 hu).1
    rwa [List.length_map] at this
  rw [h ad ha i (by omega)]
  rw [List.getElem?_map, List.getElem?_eq_getElem hi] at hu
  rw [List.getD_eq_getElem?_getD, List.getElem?_eq_getElem hi]
  simpa using hu
theorem Zs.parts {w : World} {oa : Option Addr} {m c : Nat} {l : List Int} (h : Zs w (.slice oa m c) l) : l.length = m ∧ m ≤ c ∧ c ≤ 9223372036854775807 ∧ (oa = none → m = 0 ∧ c = 0) ∧ ∀ ad, oa = some ad → ∀ i u, (l.map (Value.int .i64))[i]? = some u → w.cell? (ad.add i) = some u := by
  obtain ⟨_, oa', c', he, h2, h3, h4, h5⟩ := h
  obtain ⟨rfl, rfl, rfl⟩ : oa = oa' ∧ m = l.length ∧ c = c' := by simpa using he
  exact ⟨rfl, h2, h3, fun e => ⟨by have := h4 e; omega, h4 e⟩, ints_cells rfl h5⟩
theorem Zs.cellAt {w : World} {a : Addr} {m c : Nat} {l : List Int} (h : Zs w (.slice (some a) m c) l) {i : Nat} (hi : i < m) : w.cell? (a.add i) = some (.int .i64 (l.getD i 0)) := by
  obtain ⟨_, oa', c', he, h2, h3, h4, h5⟩ := h
  obtain ⟨rfl, rfl, rfl⟩ : some a = oa' ∧ m = l.length ∧ c = c' := by simpa using he
  exact h5 a rfl i hi
theorem Zs.addr {w : World} {oa : Option Addr} {m c : Nat} {l : List Int} (h : Zs w (.slice oa m c) l) (hm : 0 < m) : ∃ a, oa = some a := by
  obtain ⟨p1, _, _, p4, _⟩ := h.parts
  cases oa with
  | none => have := (p4 rfl).1; omega
  | some a => exact ⟨a, rfl⟩
theorem Zs.drop {w : World} {b : Addr} {m c k : Nat} {l : List Int} (h : Zs w (.slice (some b) m c) l) (hk : k ≤ m) : Zs w (.slice (if c = k then some b else some (b.add k)) (m - k) (c - k)) (l.drop k) := by
  obtain ⟨p1, p2, p3, _, _⟩ := h.parts
  have hl : (l.drop k).length = m - k := by rw [List.length_drop]; omega
  refine ⟨fun x hx => h.1 x (List.mem_of_mem_drop hx), _, _, by rw [hl], by rw [hl]; omega, by omega, (fun e => by split at e <;> cases e), fun a ha i hi => ?_⟩
  rw [hl] at hi
  rw [if_neg (by omega)] at ha
  cases ha
  rw [Addr.add_add', h.cellAt (by omega), List.getD_eq_getElem?_getD, List.getD_eq_getElem?_getD, List.getElem?_drop]
theorem Bss.rowAt {w : World} {a : Addr} {m c : Nat} {L : List (List Int)} (h : Bss w (.slice (some a) m c) L) {i : Nat} (hi : i < m) : ∃ u, w.cell? (a.add i) = some u ∧ Bs w u (L.getD i []) := by
  obtain ⟨oa', c', he, h2, h3, h4, h5⟩ := h
  obtain ⟨rfl, rfl, rfl⟩ : some a = oa' ∧ m = L.length ∧ c = c' := by simpa using he
  exact h5 a rfl i hi
theorem Bss.addr {w : World} {oa : Option Addr} {m c : Nat} {L : List (List Int)} (h : Bss w (.slice oa m c) L) (hm : 0 < m) : ∃ a, oa = some a := by
  obtain ⟨oa', c', he, h2, h3, h4, h5⟩ := h
  obtain ⟨rfl, rfl, rfl⟩ : oa = oa' ∧ m = L.length ∧ c = c' := by simpa using he
  cases oa with
  | none => have := h4 rfl; omega
  | some a => exact ⟨a, rfl⟩
theorem Bs.form4 {w : World} {v : Value} {l : List Int} (h : Bs w v l) : ∃ o m c, v = .slice o m c := by
  obtain ⟨o, c, h⟩ := h.form
  exact ⟨o, _, c, h⟩
theorem intsZ_oneCell (l : List Int) : ∀ u ∈ l.map (Value.int .i64), u.oneCell' = true := by
  intro u hu
  obtain ⟨x, _, rfl⟩ := List.mem_map.1 hu
  rfl
theorem wpList_append_zs {w : World} {ops : Array Oper} {rest : List Oper} {o : Oper} {a : Act} {Q : Exit → Act → World → Prop} (hgd : o.guard = none) (s x : Operand)
    (ho : o.op = .call { callee := .builtin .append, args := #[s, x], argTypes := #[26, 26] }) (base : Nat) (v : Value) (n : Nat) (l : List Int) (hs : a.eval s = v) (hown : w.ownsRow base 3 1 v n (l.map (Value.int .i64)))
    (oa : Option Addr) (m c : Nat) (l' : List Int) (hx : a.eval x = .slice oa m c) (hL : Zs w (.slice oa m c) l') (hm : n + m ≤ 1000000) (hbase : base ≤ w.heap.size)
    (h : ∀ v' w', w'.ownsRow base 3 1 v' (n + m) ((l ++ l').map (Value.int .i64)) → w.grownBy w' v.ownBlock → wpList Tryz.prog ops Q rest (a.put o.dst v') w') : wpList Tryz.prog ops Q (o :: rest) a w := by
  obtain ⟨i5, hi0, hz0, hz1, hz2⟩ := info_parts infoZ
  obtain ⟨p1, p2, p3, p4, p5⟩ := hL.parts
  refine wpList_append_in hgd s x 26 ho base 3 i5 _ 8 Tryz.underlying26 hi0 hz0 hz1 hz2 rfl v n _ hs hown oa m c (l'.map (Value.int .i64)) hx p4 (by rw [List.length_map]; exact p1) p5 (intsZ_oneCell _) (by unfold maxLen; omega) (by omega) hbase ?_
  intro v' w' h1 h2
  exact h v' w' (by rw [List.map_append]; exact h1) h2
theorem step_append_zs {w : World} {ops : Array Oper} {o : Oper} {a : Act} {K : Act → World → Prop} {Q : Exit → Act → World → Prop} {E : Prop} (hgd : o.guard = none) (s x : Operand)
    (ho : o.op = .call { callee := .builtin .append, args := #[s, x], argTypes := #[26, 26] }) (base : Nat) (v : Value) (n : Nat) (l : List Int) (hs : a.eval s = v) (hown : w.ownsRow base 3 1 v n (l.map (Value.int .i64)))
    (oa : Option Addr) (m c : Nat) (l' : List Int) (hx : a.eval x = .slice oa m c) (hL : Zs w (.slice oa m c) l') (hm : n + m ≤ 1000000) (hbase : base ≤ w.heap.size)
    (h : ∀ v' w', w'.ownsRow base 3 1 v' (n + m) ((l ++ l').map (Value.int .i64)) → w.grownBy w' v.ownBlock → K (a.put o.dst v') w') :
    if Region.wanted o (yielded ops a.tmps) = true then Oper.wp Tryz.prog o a w K Q else E := by
  obtain ⟨i5, hi0, hz0, hz1, hz2⟩ := info_parts infoZ
  obtain ⟨p1, p2, p3, p4, p5⟩ := hL.parts
  refine step_append_in hgd s x 26 ho base 3 i5 _ 8 Tryz.underlying26 hi0 hz0 hz1 hz2 rfl v n _ hs hown oa m c (l'.map (Value.int .i64)) hx p4 (by rw [List.length_map]; exact p1) p5 (intsZ_oneCell _) (by unfold maxLen; omega) (by omega) hbase ?_
  intro v' w' h1 h2
  exact h v' w' (by rw [List.map_append]; exact h1) h2
/-- Where all but one block is as it was, what was there ahead of that block's making stands. -/
theorem gr_by_own {w0 w w' : World} {base : Nat} {e : TypeId} {v : Value} {n : Nat} {us : List Value} (h : Gr w0 w) (hg : w.grownBy w' v.ownBlock) (ho : w.ownsRow base e 1 v n us) (hb : w0.heap.size ≤ base) : Gr w0 w' :=
  Gr.append h hg fun g hv => by have := ownsRow_base ho g hv; omega
theorem own_in {w : World} {base : Nat} {e : TypeId} {v : Value} {n : Nat} {us : List Value} (h : w.ownsRow base e 1 v n us) {g : Nat} (hg : v.ownBlock = some g) : g < w.heap.size := by
  obtain ⟨_, ⟨rfl, _⟩ | ⟨g', c, cur, rfl, hb, hgg, _⟩⟩ := h
  · cases hg
  · simp [Value.ownBlock] at hg
    subst hg
    exact (Array.getElem?_eq_some_iff.1 hgg).1
theorem own_through {base : Nat} {w w' : World} {e : TypeId} {size : Nat} {v : Value} {n : Nat} {xs : List Value} {row : Option Nat} (h : w.ownsRow base e size v n xs) (hg : w.grownBy w' row) (hne : ∀ g, v.ownBlock = some g → row ≠ some g) : w'.ownsRow base e size v n xs := by
  obtain ⟨h0, h1 | ⟨g, c, cur, rfl, hb, hgg, h2⟩⟩ := h
  · exact ⟨h0, .inl h1⟩
  · refine ⟨h0, .inr ⟨g, c, cur, rfl, hb, ?_, h2⟩⟩
    rw [hg.block g (Array.getElem?_eq_some_iff.1 hgg).1 (fun e => hne g rfl e.symm)]
    exact hgg
/-- Two lists of one's own, of which one grows: the other stays, and they stay apart. -/
theorem own_sep {w w' : World} {base : Nat} {e : TypeId} {v v2 : Value} {n2 g' : Nat} {us2 : List Value} (ho2 : w.ownsRow base e 1 v2 n2 us2) (hs : ∀ g, v2.ownBlock = some g → v.ownBlock ≠ some g) (hg : w.grownBy w' v.ownBlock) (hl : v.ownBlock = some g' ∨ g' = w.heap.size) :
    w'.ownsRow base e 1 v2 n2 us2 ∧ v2.ownBlock ≠ some g' := by
  refine ⟨own_through ho2 hg hs, fun h => ?_⟩
  rcases hl with hl | hl
  · exact hs g' h hl
  · have := own_in ho2 h
    omega
theorem one_zs {w : World} (k : Int) (hk : I64 k) : Zs (w.alloc (.cells #[.int .i64 k] 3)) (.slice (some ⟨w.heap.size, 0, none⟩) 1 1) [k] :=
  Blz.zs (L := [k]) (heap_alloc_new _ _) [k] 1 (Nat.le_refl _) (Nat.le_refl _) (by omega) (by simpa using hk) fun _ _ => rfl
theorem two_zs {w : World} (k k' : Int) (hk : I64 k) (hk' : I64 k') : Zs (w.alloc (.cells #[.int .i64 k, .int .i64 k'] 3)) (.slice (some ⟨w.heap.size, 0, none⟩) 2 2) [k, k'] :=
  Blz.zs (L := [k, k']) (heap_alloc_new _ _) [k, k'] 2 (Nat.le_refl _) (Nat.le_refl _) (by omega) (by simp [hk, hk']) fun _ _ => rfl
/-- append of one int, and where the list lies then. -/
theorem wpList_append_int {w : World} {ops : Array Oper} {rest : List Oper} {o : Oper} {a : Act} {Q : Exit → Act → World → Prop} (hgd : o.guard = none) (s x : Operand)
    (ho : o.op = .call { callee := .builtin .append, args := #[s, x], argTypes := #[26, 26] }) (base : Nat) (v : Value) (n : Nat) (l : List Int) (hs : a.eval s = v) (hown : w.ownsRow base 3 1 v n (l.map (Value.int .i64)))
    (g0 : Nat) (k : Int) (hx : a.eval x = .slice (some ⟨g0, 0, none⟩) 1 1) (hc : w.cell? ⟨g0, 0, none⟩ = some (.int .i64 k)) (hm : n ≤ 1000000) (hbase : base ≤ w.heap.size)
    (h : ∀ g cap w', w'.ownsRow base 3 1 (.slice (some ⟨g, 0, none⟩) (n + 1) cap) (n + 1) ((l ++ [k]).map (Value.int .i64)) → w.grownBy w' v.ownBlock → (v.ownBlock = some g ∨ g = w.heap.size) → wpList Tryz.prog ops Q rest (a.put o.dst (.slice (some ⟨g, 0, none⟩) (n + 1) cap)) w') : wpList Tryz.prog ops Q (o :: rest) a w := by
  obtain ⟨i5, hi0, hz0, hz1, hz2⟩ := info_parts infoZ
  refine wpList_append_lies w hgd s x 26 ho base 3 i5 _ 1 8 Tryz.underlying26 hi0 hz0 hz1 hz2 rfl (by omega) v n _ hs hown ⟨g0, 0, none⟩ 1 1 [.int .i64 k] hx rfl (fun j u hj => by
    cases j with
    | zero =>
      obtain rfl : Value.int .i64 k = u := by simpa using hj
      exact hc
    | succ j => simp at hj) (by simp [Value.oneCell']) (by omega) (by unfold maxLen; omega) (by omega) hbase _ rfl ?_
  intro g cap w' h1 h2 h3 _
  exact h g cap w' (by rw [List.map_append]; exact h1) h2 h3
/-- Memory of other kinds than e stays. -/
def Ke (e : TypeId) (w w' : World) : Prop := w.heap.size ≤ w'.heap.size ∧ ∀ (k : Nat) (c : Array Value) (t : TypeId) (fr : Nat × Nat), w.heap[k]? = some (Obj.cells c t fr) → t ≠ e → w'.heap[k]? = some (Obj.cells c t fr)
theorem Ke.of_own {w w' : World} {base : Nat} {e : TypeId} {v : Value} {n : Nat} {us : List Value} (ho : w.ownsRow base e 1 v n us) (hg : w.grownBy w' v.ownBlock) : Ke e w w' := ⟨hg.size, fun k c t fr hk ht => by
  rw [hg.block k (Array.getElem?_eq_some_iff.1 hk).1 (fun h => ?_)]
  · exact hk
  · obtain ⟨_, ⟨rfl, _⟩ | ⟨g', c', cur, rfl, hb, hgg, _⟩⟩ := ho
    · cases h
    · simp [Value.ownBlock] at h
      subst h
      rw [hk] at hgg
      simp at hgg
      exact ht hgg.2.1⟩
theorem Ke.of_gr {e : TypeId} {w w' : World} (h : Gr w w') : Ke e w w' := ⟨h.size, fun _ _ _ _ hk _ => keptRow h hk⟩
theorem Ke.trans {e : TypeId} {w w1 w2 : World} (h : Ke e w w1) (h' : Ke e w1 w2) : Ke e w w2 := ⟨Nat.le_trans h.1 h'.1, fun k c t fr hk ht => h'.2 k c t fr (h.2 k c t fr hk ht) ht⟩
theorem Rws.grown {base : Nat} {w w' : World} {v : Value} {L : List (List Int)} (h : Rws base w v L) (hg : Gr w w') : Rws base w' v L := by
  obtain ⟨us, ho, hr⟩ := h
  exact ⟨us, ho.of_gr hg, fun i hi => Rb.gr (hr i hi).1 (hr i hi).2 hg⟩
theorem Rws.form3 {base : Nat} {w : World} {v : Value} {L : List (List Int)} (h : Rws base w v L) : ∃ o c, v = .slice o L.length c := by
  obtain ⟨us, ho, hr⟩ := h
  exact ownsRow_form ho
theorem Rws.form4 {base : Nat} {w : World} {v : Value} {L : List (List Int)} (h : Rws base w v L) : ∃ o m c, v = .slice o m c := by
  obtain ⟨o, c, h⟩ := h.form3
  exact ⟨o, _, c, h⟩
/-- append of one row onto rows of one's own. -/
theorem wpList_append_row {w : World} {ops : Array Oper} {rest : List Oper} {o : Oper} {a : Act} {Q : Exit → Act → World → Prop} (hgd : o.guard = none) (s x : Operand)
    (ho : o.op = .call { callee := .builtin .append, args := #[s, x], argTypes := #[44, 44] }) (base : Nat) (v : Value) (L : List (List Int)) (hs : a.eval s = v) (hR : Rws base w v L)
    (g : Nat) (u : Value) (l : List Int) (hx : a.eval x = .slice (some ⟨g, 0, none⟩) 1 1) (hc : w.cell? ⟨g, 0, none⟩ = some u) (hb : Bs w u l) (hrb : Rb base w u) (hm : L.length ≤ 100000) (hbase : base ≤ w.heap.size)
    (h : ∀ v' w', Rws base w' v' (L ++ [l]) → (∀ w0, Gr w0 w → w0.heap.size ≤ base → Gr w0 w') → Ke 25 w w' → wpList Tryz.prog ops Q rest (a.put o.dst v') w') : wpList Tryz.prog ops Q (o :: rest) a w := by
  obtain ⟨i0, hi0, hz0, hz1, hz2⟩ := info_parts info22
  obtain ⟨us, hown, hr⟩ := hR
  obtain ⟨ou, cu, hf⟩ := hb.form
  refine wpList_append_in hgd s x 44 ho base 25 i0 _ 24 Tryz.underlying44 hi0 hz0 hz1 hz2 rfl v L.length us hs hown (some ⟨g, 0, none⟩) 1 1 [u] hx (fun e => by cases e) rfl (fun ad ha j y hj => by
    cases ha
    cases j with
    | zero =>
      obtain rfl : u = y := by simpa using hj
      exact hc
    | succ j => simp at hj) (by intro y hy; obtain rfl : y = u := by simpa using hy
                                rw [hf]; rfl) (by unfold maxLen; omega) (by omega) hbase ?_
  intro v' w' h1 h2
  exact h v' w' (Rws.append hown hr hb hrb h1 h2) (fun w0 hg hb => gr_by_own hg h2 hown hb) (Ke.of_own hown h2)
end Go.Proofs.YtbabecjphmmngaaGreat
