/-
  Texts laid behind one another: Lb Py Lc Ld Do Ly Cj Sd.
-/
import Derived.Test.YtcahbbbccnhgnaaMgf
import Derived.Test.YtcahbbbccnhgnaaMgc
import Derived.Test.YtcahbbbccnhgnaaMgd
import Derived.Test.YtcahbbbccnhgnaaMga
import Derived.Shelf.Sort.Plain
import Derived.Shelf.Slices.In.SortNone
import Derived.Lib.SortBridge
import Derived.Test.YtcahbbbccnhgnaaMgb
import Derived.Deep.CutBlock
import Derived.Lib.BitFns
namespace Go.Proofs.Ytcahbbbccnhgnaa
open Go.RowKit

theorem someZ_rng (s : Nat) (n k : Int) : ∀ x ∈ C.someZ s n k, 0 ≤ x ∧ x < n := fun x hx => by
  unfold C.someZ at hx
  by_cases h : C.May n k
  · rw [if_pos h] at hx
    obtain ⟨h1, h2, h3, h4⟩ := h
    have := C.some_rng (n := n.toNat) (k := k.toNat) (by omega) hx
    omega
  · rw [if_neg h] at hx
    cases hx
theorem someZ_len (s : Nat) (n k : Int) : (C.someZ s n k).length ≤ 64 := by
  unfold C.someZ
  by_cases h : C.May n k
  · rw [if_pos h]
    obtain ⟨h1, h2, h3, h4⟩ := h
    rw [C.some_length (by omega)]
    omega
  · rw [if_neg h]
    simp
theorem atN_rng (N seed id : Nat) : ∀ x ∈ atN N seed id, 0 ≤ x ∧ x < (N : Int) := someZ_rng _ _ _
/-- A 1 at each place of L. -/
def onesL (N : Nat) (L : List Int) : List Int := lst N fun j => if (j : Int) ∈ L then 1 else 0
def rowP (K H S : Int) (seed : Nat) (id : Int) : List Int := if MayP K H S ∧ MayI id then onesL (K.toNat + H.toNat) (atN (K.toNat + H.toNat) seed id.toNat) else []
theorem onesL_length (N : Nat) (L : List Int) : (onesL N L).length = N := lst_length _ _
theorem onesL_byt (N : Nat) (L : List Int) : ∀ z ∈ onesL N L, Byt z := lst_byt fun i _ => by
  show Byt (if (i : Int) ∈ L then 1 else 0)
  split <;> (unfold Byt; omega)
theorem onesL_nil (N : Nat) : onesL N [] = List.replicate N 0 := by
  rw [part_nil N (fun _ => 0)]
  apply lst_congr
  intro j _
  simp [part]
theorem onesL_next {N : Nat} {L : List Int} {q : Nat} (h : q < N) : (onesL N L).set q 1 = onesL N (L ++ [(q : Int)]) := by
  unfold onesL
  rw [lst_set]
  apply lst_congr
  intro j _
  by_cases e : j = q
  · subst e
    simp
  · rw [if_neg e]
    have e2 : ¬ ((j : Int) = (q : Int)) := by omega
    simp [e2]
set_option maxRecDepth 100000 in
set_option maxHeartbeats 1600000 in
theorem refRow_in (K H : Nat) (S : Int) (seed id : Nat) (w : World) (hm : MayP K H S) (hi : id ≤ 65535) (hs : seed < 4294967296) :
    Calls Try.prog 14 #[par K H S, .int .u32 (seed : Int), .int .i64 (id : Int)] w fun e w' => ∃ v, e = .returned v ∧ New w w' v (onesL (K + H) (atN (K + H) seed id)) := by
  have hd := decide_eq_true hm
  have hdi : decide (MayI (id : Int)) = true := decide_eq_true (by unfold MayI; omega)
  obtain ⟨N, hN⟩ : ∃ N, K + H = N := ⟨_, rfl⟩
  have hm' := hm
  obtain ⟨b1, b2, b3, b4, _, _⟩ := hm'
  have hN20 : N ≤ 20 := by omega
  have HCO : Hid (colsP (K : Int) (H : Int) (S : Int) = N) := Lib.hid (by unfold colsP; rw [if_pos hm]; omega)
  have HAT := Lib.hid fun (W : World) => refAt_in K H S seed id W hm hi hs
  have P0 : Hid (Par (w.alloc (.cells #[.int .i64 (K : Int), .int .i64 (H : Int), .int .i64 S] 23)) w.heap.size K H S) := Lib.hid (heap_alloc_new _ _)
  have HG0 : Hid (Gr w (w.alloc (.cells #[.int .i64 (K : Int), .int .i64 (H : Int), .int .i64 S] 23))) := Lib.hid (Gr.alloc (Gr.refl _) _ _)
  have hmk := make22 N N (by omega) (by omega)
  obtain ⟨cur, hcur⟩ : ∃ cur, cur = rowB (List.replicate N 0) := ⟨_, rfl⟩
  rw [← hcur] at hmk
  have HCU := Lib.hid hcur
  rw [hN] at HAT ⊢
  obtain ⟨A, hA⟩ : ∃ A, atN N seed id = A := ⟨_, rfl⟩
  have HAL : Hid (A.length ≤ 64) := Lib.hid (by rw [← hA]; exact someZ_len _ _ _)
  have HAR : Hid (∀ x ∈ A, 0 ≤ x ∧ x < N) := Lib.hid (by rw [← hA]; exact atN_rng N seed id)
  rw [hA] at HAT ⊢
  clear hcur hA hm hN
  go_enter Try.func14, Try.ntmps14
  go_wp2_with fail
  generalize w.alloc (.cells #[.int .i64 (K : Int), .int .i64 (H : Int), .int .i64 S] 23) = W0 at *
  generalize hgp : w.heap.size = gp at *
  refine (refMay_any K H S _).mono ?_
  rw [hd]
  rintro e w1 ⟨rfl, hg1⟩
  have P1 := Lib.hid (P0.out.grown hg1)
  have HG1 := Lib.hid (Gr.trans HG0.out hg1)
  clear hg1 P0 HG0
  go_wp2_with fail
  refine (refMayID_any id _).mono ?_
  rw [hdi]
  rintro e w' ⟨rfl, rfl⟩
  have c0 := P1.out.cell0
  have c1 := P1.out.cell1
  have c2 := P1.out.cell2
  go_wp2_with fail
  refine (refCols_any K H S _).mono ?_
  rw [HCO.out]
  rintro e w4 ⟨rfl, hg4⟩
  have P4 := Lib.hid (P1.out.grown (Gr.trans hg4 (Gr.alloc (Gr.refl w4) cur 5)))
  have HG4 := Lib.hid (Gr.trans HG1.out hg4)
  clear hg4 P1 HG1 c0 c1 c2
  have B4 : Hid (Blk (w4.alloc (.cells cur 5)) w4.heap.size (onesL N [])) := Lib.hid (by rw [onesL_nil, HCU.out]; exact heap_alloc_new _ _)
  have HG5 : Hid (Gr w (w4.alloc (.cells cur 5))) := Lib.hid (Gr.alloc HG4.out _ _)
  have HGB : Hid (w.heap.size ≤ w4.heap.size) := Lib.hid HG4.out.size
  have c0 := P4.out.cell0
  have c1 := P4.out.cell1
  have c2 := P4.out.cell2
  go_wp2_with fail
  clear c0 c1 c2
  generalize w4.alloc (.cells cur 5) = W5 at *
  generalize w4.heap.size = gx at *
  refine (HAT.out W5).mono ?_
  rintro e w6 ⟨v6, rfl, hz6, hg6⟩
  obtain ⟨m, hm⟩ : ∃ m, A.length = m := ⟨_, rfl⟩
  obtain ⟨hzi, oa, ca, rfl, z2, z3, z4, z5⟩ := hz6
  rw [hm] at z2 z5 ⊢
  have HZ5 := Lib.hid z5
  have HMM := Lib.hid hm
  have B6 := Lib.hid (B4.out.grown hg6)
  have HG6 := Lib.hid (Gr.trans HG5.out hg6)
  have hm64 : m ≤ 64 := by rw [← hm]; exact HAL.out
  clear hg6 hzi z5 hm B4 HG5 HG4
  go_wp2_with fail
  have HZC : Hid (∀ a, oa = some a → ∀ i, i < m → w6.cell? (a.add i) = some (.int .i64 (A.getD i 0))) := Lib.hid HZ5.out
  have HGX : Hid (w.heap.size ≤ gx) := Lib.hid HGB.out
  go_loopw [26] (fun i wr => ∃ t : Nat, t ≤ m ∧ i = .int .i64 t ∧ Blk wr gx (onesL N (A.take t)) ∧ Gr w wr ∧ ∀ a, oa = some a → ∀ i, i < m → wr.cell? (a.add i) = some (.int .i64 (A.getD i 0))) (fun i _ => m - (intOf i).toNat)
  case atStart => exact ⟨0, by omega, rfl, by rw [List.take_zero]; exact B6.out, HG6.out, HZC.out⟩
  case round =>
    clear B6 HG6 HZC
    obtain ⟨wo, hwo⟩ : ∃ x, x = wr := ⟨_, rfl⟩
    subst hwo
    obtain ⟨t, ht, rfl, hb, hg, hc⟩ := hrel
    by_cases hlt : t < m
    · obtain ⟨ad, rfl⟩ : ∃ a, oa = some a := by
        cases oa with
        | some a => exact ⟨a, rfl⟩
        | none => have := z4 rfl; omega
      have q1 := hc ad rfl t hlt
      have hmem : A.getD t 0 ∈ A := by
        have := HMM.out
        rw [List.getD_eq_getElem?_getD, List.getElem?_eq_getElem (by omega)]
        exact List.getElem_mem _
      have hrg := HAR.out _ hmem
      obtain ⟨q, hq⟩ : ∃ q : Nat, A.getD t 0 = q := ⟨(A.getD t 0).toNat, by omega⟩
      have hqN : q < N := by omega
      have hnx := onesL_next (L := A.take t) hqN
      have htk : A.take (t + 1) = A.take t ++ [(q : Int)] := by
        have := HMM.out
        rw [List.take_add_one, List.getElem?_eq_getElem (by omega), ← hq, List.getD_eq_getElem?_getD, List.getElem?_eq_getElem (by omega)]
        rfl
      have q8 := Blk.cell hb q (by rw [onesL_length]; exact hqN)
      have q9 := frozen_of_row wo gx q _ _ hb
      have HB' : Hid (Blk (wo.setCell ⟨gx, q, none⟩ (.int .u8 1)) gx (onesL N (A.take (t + 1)))) := Lib.hid (by
        unfold Blk
        rw [heap_setCell_same _ _ _ _ _ _ hb, rowB_set, hnx, htk])
      have HG' : Hid (Gr w (wo.setCell ⟨gx, q, none⟩ (.int .u8 1))) := Lib.hid (Gr.setCell hg HGX.out _)
      have HC' : Hid (∀ a, some ad = some a → ∀ i, i < m → (wo.setCell ⟨gx, q, none⟩ (.int .u8 1)).cell? (a.add i) = some (.int .i64 (A.getD i 0))) := Lib.hid (fun a ha i hi => by
        rw [World.cell?_setCell_other]
        · exact hc a ha i hi
        · intro e
          have h1 := hc a ha i hi
          rw [← e, q8] at h1
          simp at h1)
      rw [hq] at q1
      clear hb hg hc hmem hrg hnx htk hq
      generalize (onesL N (A.take t)).getD q 0 = old at *
      go_wp2_with fail
      exact ⟨⟨t + 1, by omega, by go_num, HB'.out, HG'.out, HC'.out⟩, by simp [intOf]; omega⟩
    · obtain rfl : t = m := by omega
      have hall : A.take t = A := List.take_of_length_le (by have := HMM.out; omega)
      rw [hall] at hb
      have HB' : Hid (New w wo (.slice (some ⟨gx, 0, none⟩) N N) (onesL N A)) := Lib.hid ⟨hg, onesL_byt N A, .inr ⟨gx, N, _, by rw [onesL_length], HGX.out, hb, by rw [onesL_length]; omega, by omega, fun i hi => rowB_get _ i hi⟩⟩
      clear hb hg hc hall
      go_wp2_with fail
      go_ret
      exact ⟨_, rfl, HB'.out⟩
set_option maxRecDepth 100000 in
set_option maxHeartbeats 800000 in
theorem refRow_ne (K H S : Int) (seed : Nat) (id : Int) (w : World) (hm : ¬ (MayP K H S ∧ MayI id)) :
    Calls Try.prog 14 #[par K H S, .int .u32 (seed : Int), .int .i64 id] w fun e w' => e = .returned (.slice none 0 0) ∧ Gr w w' := by
  have HG0 : Hid (Gr w (w.alloc (.cells #[.int .i64 K, .int .i64 H, .int .i64 S] 23))) := Lib.hid (Gr.alloc (Gr.refl _) _ _)
  by_cases hp : MayP K H S
  · have hd := decide_eq_true hp
    have hdi : decide (MayI id) = false := decide_eq_false fun e => hm ⟨hp, e⟩
    clear hm hp
    go_enter Try.func14, Try.ntmps14
    go_wp2_with fail
    refine (refMay_any K H S _).mono ?_
    rw [hd]
    rintro e w1 ⟨rfl, hg1⟩
    have HG1 := Lib.hid (Gr.trans HG0.out hg1)
    clear hg1
    go_wp2_with fail
    refine (refMayID_any id _).mono ?_
    rw [hdi]
    rintro e w' ⟨rfl, rfl⟩
    go_wp2_with fail
    go_ret
    exact ⟨rfl, HG1.out⟩
  · have hd := decide_eq_false hp
    clear hm hp
    go_enter Try.func14, Try.ntmps14
    go_wp2_with fail
    refine (refMay_any K H S _).mono ?_
    rw [hd]
    rintro e w1 ⟨rfl, hg1⟩
    have HG1 := Lib.hid (Gr.trans HG0.out hg1)
    clear hg1
    go_wp2_with fail
    go_ret
    exact ⟨rfl, HG1.out⟩
theorem refRow_new (K H S : Int) (seed : Nat) (id : Int) (w : World) (hs : seed < 4294967296) :
    Calls Try.prog 14 #[par K H S, .int .u32 (seed : Int), .int .i64 id] w fun e w' => ∃ v, e = .returned v ∧ New w w' v (rowP K H S seed id) := by
  unfold rowP
  by_cases hm : MayP K H S ∧ MayI id
  · rw [if_pos hm]
    obtain ⟨h1, h2⟩ := hm
    obtain ⟨k, hk⟩ : ∃ k : Nat, K = k := ⟨K.toNat, by have := h1.1; omega⟩
    obtain ⟨h, hh⟩ : ∃ h : Nat, H = h := ⟨H.toNat, by have := h1.2.2.1; omega⟩
    obtain ⟨i, hi⟩ : ∃ i : Nat, id = i := ⟨id.toNat, by have := h2.1; omega⟩
    subst hk hh hi
    rw [Int.toNat_natCast, Int.toNat_natCast, Int.toNat_natCast]
    exact refRow_in k h S seed i w h1 (by have := h2.2; omega) hs
  · rw [if_neg hm]
    refine (refRow_ne K H S seed id w hm).mono ?_
    rintro e w' ⟨rfl, hg⟩
    exact ⟨_, rfl, hg, by simp, .inl ⟨rfl, none, 0, rfl, fun _ => rfl, by omega⟩⟩
theorem refRow_any (K H S : Int) (seed : Nat) (id : Int) (w : World) (hs : seed < 4294967296) :
    Calls Try.prog 14 #[par K H S, .int .u32 (seed : Int), .int .i64 id] w fun e w' => ∃ v, e = .returned v ∧ Bs w' v (rowP K H S seed id) ∧ Gr w w' :=
  (refRow_new K H S seed id w hs).mono fun _ _ ⟨v, h1, h2⟩ => ⟨v, h1, New.bs h2, h2.1⟩
end Go.Proofs.Ytcahbbbccnhgnaa
namespace Go.Proofs.Ytcahbbbccnhgnaa
open Go.RowKit

theorem Bss.form3 {w : World} {v : Value} {L : List (List Int)} (h : Bss w v L) : ∃ o m c, v = .slice o m c := by
  obtain ⟨o, c, h, _⟩ := h
  exact ⟨o, _, c, h⟩
/-- The contracts of package pre. -/
structure PreOk : Prop where
  may : ∀ (K H S : Int) (w : World), Calls Try.prog 31 #[par K H S] w fun e w' => e = .returned (.bool (decide (MayP K H S))) ∧ Gr w w'
  cols : ∀ (K H S : Int) (w : World), Calls Try.prog 16 #[par K H S] w fun e w' => e = .returned (.int .i64 (colsP K H S)) ∧ Gr w w'
theorem aheadP_in {K H : Nat} {S : Int} (h : MayP K H S) : aheadP K H S = ahead K H := by
  unfold aheadP
  rw [if_pos h, Int.toNat_natCast, Int.toNat_natCast]
theorem may_params {a b c : Nat} (ha : a < 16) (hb : b < 4) (hc : c < 24) : MayP ((1 + a : Nat) : Int) ((1 + b : Nat) : Int) ((1 + c : Nat) : Int) := by
  unfold MayP
  omega
theorem ahead_one : ahead 1 1 = [[3, 1]] := by
  have h3 : expZ 1 = 3 := by decide +kernel
  simp [ahead, aheadRow, lst, aheadF, List.range_succ, h3]
end Go.Proofs.Ytcahbbbccnhgnaa
namespace Go.Proofs.Ytcahbbbccnhgnaa
open Go.RowKit

/-- The contracts of package lt: what is told is new memory. -/
structure LtOk : Prop where
  cols : ∀ (K H S : Int) (seed : Nat) (id : Int) (w : World), seed < 4294967296 → I64 id →
    Calls Try.prog 10 #[par K H S, .int .u32 (seed : Int), .int .i64 id] w fun e w' => ∃ v, e = .returned v ∧ OwnZ w.heap.size w' v (atP K H S seed id) ∧ Gr w w'
  row : ∀ (K H S : Int) (seed : Nat) (id : Int) (w : World), seed < 4294967296 → I64 id →
    Calls Try.prog 13 #[par K H S, .int .u32 (seed : Int), .int .i64 id] w fun e w' => ∃ v, e = .returned v ∧ New w w' v (rowP K H S seed id)
theorem atP_i64 (K H S : Int) (seed : Nat) (id : Int) : ∀ x ∈ atP K H S seed id, I64 x := fun x hx => by
  unfold atP at hx
  split at hx
  · rename_i h
    have h1 := atN_rng _ _ _ x hx
    obtain ⟨⟨_, h2, _, h3, _⟩, _⟩ := h
    exact ⟨by omega, by omega⟩
  · cases hx
theorem at_wake : atP 2 1 1 7 3 = [2] := by
  have h : atN 3 7 3 = [2] := by decide +kernel
  unfold atP
  rw [if_pos (by unfold MayP MayI; omega)]
  exact h
theorem row_wake : rowP 2 1 1 7 3 = [0, 0, 1] := by
  have h : onesL 3 (atN 3 7 3) = [0, 0, 1] := by decide +kernel
  unfold rowP
  rw [if_pos (by unfold MayP MayI; omega)]
  exact h
theorem owns_ints {base n : Nat} {w : World} {v : Value} {l : List Int} (ho : w.ownsRow base 3 1 v n (l.map (Value.int .i64))) (hl : l.length = n) (hr : ∀ x ∈ l, I64 x) : Zs w v l := owns_zs ho hl hr
set_option maxRecDepth 100000 in
set_option maxHeartbeats 800000 in
theorem ltWakes_any (O : LtOk) (w : World) : Calls Try.prog 15 #[] w fun e w' => e = .returned (.bool true) ∧ Gr w w' := by
  have HO := Lib.hid O
  clear O
  go_enter Try.func15, Try.ntmps15
  go_wp2_with fail
  have hrw := HO.out.row 2 1 1 7 3 (w.alloc (.cells #[.int .i64 2, .int .i64 1, .int .i64 1] 23)) (by omega) ⟨by omega, by omega⟩
  rw [row_wake] at hrw
  refine hrw.mono ?_
  rintro e w1 ⟨v, rfl, hnw⟩
  have P1 : Hid (Par w1 w.heap.size 2 1 1) := Lib.hid (Par.grown (heap_alloc_new w _) hnw.1)
  have HG1 : Hid (Gr w w1) := Lib.hid (Gr.trans (Gr.alloc (Gr.refl w) _ _) hnw.1)
  have hb := New.bs hnw
  obtain ⟨a, c, rfl, b2, b3, b4⟩ := Bs.at hb (by simp)
  have q0 := b4 0 (by simp)
  have q1 := b4 1 (by simp)
  have q2 := b4 2 (by simp)
  rw [show ([0, 0, 1] : List Int).getD 0 0 = 0 from rfl] at q0
  rw [show ([0, 0, 1] : List Int).getD 1 0 = 0 from rfl] at q1
  rw [show ([0, 0, 1] : List Int).getD 2 0 = 1 from rfl] at q2
  have HQ : Hid (∀ t : Nat, t < 3 → w1.cell? (a.add t) = some (.int .u8 (if t = 2 then 1 else 0))) := Lib.hid (fun t ht => by
    have : t = 0 ∨ t = 1 ∨ t = 2 := by omega
    rcases this with rfl | rfl | rfl
    · exact q0
    · exact q1
    · exact q2)
  have hl3 : ([0, 0, 1] : List Int).length = 3 := rfl
  rw [hl3] at b2 ⊢
  have c0 := P1.out.cell0
  have c1 := P1.out.cell1
  have c2 := P1.out.cell2
  clear hnw hb b4 q0 q1 q2 hl3 hrw
  generalize w.heap.size = gp at *
  go_wp2_with fail
  go_loopw [2, 9] (fun n i wr => ∃ t : Nat, t ≤ 3 ∧ i = .int .i64 t ∧ n = .int .i64 (if t = 3 then 1 else 0) ∧ w1 = wr) (fun _ i _ => 3 - (intOf i).toNat)
  case atStart => exact ⟨0, by omega, rfl, rfl, rfl⟩
  case round =>
    obtain ⟨t, ht, rfl, rfl, rfl⟩ := hrel
    by_cases hlt : t < 3
    · have hq := HQ.out t hlt
      rw [if_neg (by omega)]
      obtain ⟨xv, hxv, hx0, hx1⟩ : ∃ xv : Int, (if t = 2 then 1 else 0) = xv ∧ 0 ≤ xv ∧ xv ≤ 1 := ⟨_, rfl, by split <;> omega, by split <;> omega⟩
      rw [hxv] at hq
      have HX : Hid ((if t + 1 = 3 then (1 : Int) else 0) = xv) := Lib.hid (by
        rw [← hxv]
        by_cases e : t = 2
        · rw [if_pos e, if_pos (by omega)]
        · rw [if_neg e, if_neg (by omega)])
      clear hxv
      go_wp2_with fail
      exact ⟨⟨t + 1, by omega, by go_num, by rw [HX.out], trivial⟩, by simp [intOf]; omega⟩
    · obtain rfl : t = 3 := by omega
      go_wp2_with fail
      have hcl := HO.out.cols 2 1 1 7 3 w1 (by omega) ⟨by omega, by omega⟩
      rw [at_wake] at hcl
      refine hcl.mono ?_
      rintro e w2 ⟨v2, rfl, ho2, hg2⟩
      obtain ⟨o2, c2', rfl⟩ := ho2.formN (n := 1) rfl
      have HG2 := Lib.hid (Gr.trans HG1.out hg2)
      clear hcl ho2 hg2
      go_wp2_with fail
      go_ret
      exact ⟨rfl, HG2.out⟩
end Go.Proofs.Ytcahbbbccnhgnaa
namespace Go.Proofs.Ytcahbbbccnhgnaa
open Go.RowKit

theorem tab_pos {N : Nat} (h1 : 1 ≤ N) (h2 : N ≤ 64) {j : Nat} (hj : j < N) : 1 ≤ (T.tabZ N).getD j 0 := by
  rw [T.tabZ_at hj]
  have := T.sum_lt h1 h2 (j + 1) 0 (by omega) (by omega)
  omega
theorem someZ_some {s n k : Nat} (h1 : n ≤ 64) (h2 : k ≤ n) : C.someZ s n k = C.some s n k := by
  unfold C.someZ
  rw [if_pos ⟨by omega, by omega, by omega, by omega⟩, Int.toNat_natCast, Int.toNat_natCast]
theorem belowV_lt (s : Nat) {n : Int} (h : 0 < n) : belowV s n < n := by
  unfold belowV
  rw [if_neg (by omega)]
  exact Int.emod_lt_of_pos _ h
theorem drawV_pos {N : Nat} (h1 : 1 ≤ N) (h2 : N ≤ 64) (s : Nat) : 1 ≤ drawV (T.tab N) s := by
  have hl := T.tabZ_length N
  have hne : T.tabZ N ≠ [] := fun e => by rw [e] at hl; simp at hl; omega
  have hp := tab_pos h1 h2 (j := N - 1) (by omega)
  rw [T.tab_in h1 h2]
  unfold drawV
  rw [if_neg hne]
  have hlast : lastZ' (T.tabZ N) = (T.tabZ N).getD (N - 1) 0 := by unfold lastZ'; rw [hl]
  obtain ⟨j, _, h⟩ := T.deg_some (t := T.tabZ N) (x := belowV s (lastZ' (T.tabZ N))) (belowV_rng _ _).1 (by omega) (by
    rw [hl, ← hlast]
    exact belowV_lt _ (by omega))
  rw [h]
  omega
theorem atN_some {N : Nat} (h1 : 1 ≤ N) (h2 : N ≤ 64) (seed id : Nat) : ∃ s k : Nat, 1 ≤ k ∧ k ≤ N ∧ atN N seed id = C.some s N k := by
  have ha := drawV_pos h1 h2 (nextS (mixS seed id))
  have hb := (drawV_le (T.tab N) (nextS (mixS seed id))).2
  rw [T.tab_in h1 h2, T.tabZ_length] at hb
  rw [T.tab_in h1 h2] at ha
  unfold atN
  rw [T.tab_in h1 h2]
  obtain ⟨k, hk⟩ : ∃ k : Nat, drawV (T.tabZ N) (nextS (mixS seed id)) = k := ⟨(drawV (T.tabZ N) (nextS (mixS seed id))).toNat, by omega⟩
  rw [hk] at ha hb ⊢
  exact ⟨_, k, by omega, by omega, someZ_some h2 (by omega)⟩
theorem atN_len {N : Nat} (h1 : 1 ≤ N) (h2 : N ≤ 64) (seed id : Nat) : 1 ≤ (atN N seed id).length ∧ (atN N seed id).length ≤ N := by
  obtain ⟨s, k, ha, hb, h⟩ := atN_some h1 h2 seed id
  rw [h, C.some_length hb]
  exact ⟨ha, hb⟩
theorem atN_rising {N : Nat} (h1 : 1 ≤ N) (h2 : N ≤ 64) (seed id : Nat) : Rising (atN N seed id) := by
  obtain ⟨s, k, _, hb, h⟩ := atN_some h1 h2 seed id
  rw [h]
  exact rising_of (C.some_sorted hb)
set_option maxHeartbeats 400000 in
theorem member_not (v : Value) (l : List Int) (x : Int) (w : World) (h : Zs w v l) (hx : x ∉ l) (h0 : 0 < l.length) (hl : l.length ≤ 1000) :
    Calls Try.prog 18 #[v, .int .i64 x] w fun e w' => e = .returned (.bool false) ∧ Gr w w' := by
  have hno : ∀ k, k < l.length → l.getD k 0 ≠ x := fun k hk e => hx (by
    rw [← e, List.getD_eq_getElem?_getD, List.getElem?_eq_getElem hk]
    exact List.getElem_mem hk)
  obtain ⟨a, c, rfl, h1, h2, h3⟩ := Zs.at h h0
  obtain ⟨n, hn⟩ : ∃ n, l.length = n := ⟨_, rfl⟩
  rw [hn] at h1 h3 hl hno ⊢
  have HC := Lib.hid h3
  have HX := Lib.hid hno
  clear h h3 hn hx hno h0
  go_enter Try.func18, Try.ntmps18
  go_wp2
  go_loopw [8] (fun i wr => wr = w ∧ ∃ k : Nat, k ≤ n ∧ i = .int .i64 k) (fun i _ => n - (intOf i).toNat)
  case atStart => exact ⟨rfl, 0, by omega, rfl⟩
  case round =>
    obtain ⟨rfl, k, hk, rfl⟩ := hrel
    by_cases hlt : k < n
    · have q := HC.out k hlt
      have hxy := HX.out k hlt
      obtain ⟨y, hy⟩ : ∃ y, l.getD k 0 = y := ⟨_, rfl⟩
      rw [hy] at q hxy
      have hb : (y == x) = false := by simpa using hxy
      clear hy
      go_wp2
      exact ⟨⟨trivial, k + 1, by omega, by go_num⟩, by simp [intOf]; omega⟩
    · go_wp2
      go_ret
      exact ⟨rfl, Gr.refl _⟩
theorem memberB_any (v : Value) (l : List Int) (x : Int) (w : World) (h : Zs w v l) (h0 : 0 < l.length) (hl : l.length ≤ 1000) :
    Calls Try.prog 18 #[v, .int .i64 x] w fun e w' => e = .returned (.bool (decide (x ∈ l))) ∧ Gr w w' := by
  by_cases hx : x ∈ l
  · rw [decide_eq_true hx]
    exact member_any v l x w h hx hl
  · rw [decide_eq_false hx]
    exact member_not v l x w h hx h0 hl
end Go.Proofs.Ytcahbbbccnhgnaa
namespace Go.Proofs.Ytcahbbbccnhgnaa
open Go.RowKit

/-- A Draw lies in block g. -/
def DBlk (w : World) (g s : Nat) : Prop := w.heap[g]? = some (.cells #[.int .u64 (s : Int)] 66 (0, 0))
theorem DBlk.cell {w : World} {g s : Nat} (h : DBlk w g s) : w.cell? ⟨g, 0, none⟩ = some (.int .u64 (s : Int)) := by
  rw [cell_of_row w g 0 _ _ _ h]
  rfl
theorem DBlk.frozen {w : World} {g s : Nat} (h : DBlk w g s) : w.frozen? ⟨g, 0, none⟩ = false := frozen_of_row w g 0 _ _ h
theorem DBlk.set {w : World} {g s : Nat} (h : DBlk w g s) (t : Nat) : DBlk (w.setCell ⟨g, 0, none⟩ (.int .u64 (t : Int))) g t := by
  unfold DBlk at *
  rw [heap_setCell_same _ _ _ _ _ _ h]
  rfl
theorem DBlk.lt {w : World} {g s : Nat} (h : DBlk w g s) : g < w.heap.size := (Array.getElem?_eq_some_iff.1 h).1
/-- How a Draw lies in memory, and its state. -/
def DAt (w : World) (d : Value) (F : Nat → Prop) (s : Nat) : Prop := ∃ g, d = .pointer (some ⟨g, 0, none⟩) ∧ DBlk w g s ∧ F = fun k => k = g

set_option maxHeartbeats 400000 in
theorem next_dev (g s : Nat) (w : World) (h : DBlk w g s) :
    Calls Try.prog 33 #[.pointer (some ⟨g, 0, none⟩)] w fun e w' => e = .returned (.int .u32 (topS (nextS s) : Nat)) ∧ DBlk w' g (nextS s) ∧ Kp (fun k => k = g) w w' := by
  have q1 := h.cell
  have q2 := h.frozen
  have H := Lib.hid h
  clear h
  go_enter Try.func33, Try.ntmps33
  go_wp2
  go_ret
  rw [next_wrap]
  refine ⟨?_, H.out.set _, Kp.set _ _ _ _⟩
  rw [← top_wrap s]
  rfl
set_option maxHeartbeats 400000 in
theorem below_dev (g s : Nat) (n : Int) (w : World) (h : DBlk w g s) (hn : n < 9223372036854775808) :
    Calls Try.prog 35 #[.pointer (some ⟨g, 0, none⟩), .int .i64 n] w fun e w' => e = .returned (.int .i64 (belowV s n)) ∧ DBlk w' g (belowS s n) ∧ Kp (fun k => k = g) w w' := by
  have H := Lib.hid h
  clear h
  by_cases h0 : n ≤ 0
  · have e1 : belowV s n = 0 := if_pos h0
    have e2 : belowS s n = s := if_pos h0
    rw [e1, e2]
    clear e1 e2
    go_enter Try.func35, Try.ntmps35
    go_wp2
    go_ret
    exact ⟨rfl, H.out, Kp.refl _ _⟩
  · have e1 : belowV s n = ((topS (nextS s) : Nat) : Int) % n := if_neg h0
    have e2 : belowS s n = nextS s := if_neg h0
    have E1 := Lib.hid e1
    have E2 := Lib.hid e2
    have ht := topS_lt (nextS_lt s)
    have hp : 0 < n := by omega
    clear e1 e2 h0
    go_enter Try.func35, Try.ntmps35
    go_wp2_with fail
    refine (next_dev g s _ H.out).mono ?_
    rintro e w1 ⟨rfl, hr, hk⟩
    have HR := Lib.hid hr
    have HK := Lib.hid hk
    clear hr hk
    generalize topS (nextS s) = tt at *
    have hr1 := Int.emod_nonneg (tt : Int) (by omega : n ≠ 0)
    have hr2 := Int.emod_lt_of_pos (tt : Int) hp
    generalize hrr : (tt : Int) % n = rr at *
    have HRR := Lib.hid hrr
    clear hrr
    go_wp2_with fail
    go_ret
    have hw : wrap64 rr = rr := by unfold wrap64; omega
    refine ⟨by rw [E1.out, HRR.out, hw]; rfl, by rw [E2.out]; exact HR.out, HK.out⟩
set_option maxHeartbeats 400000 in
theorem new_dev (s : Nat) (w : World) (hs : s < 4294967296) :
    Calls Try.prog 32 #[.int .u32 s] w fun e w' => ∃ g, e = .returned (.pointer (some ⟨g, 0, none⟩)) ∧ DBlk w' g s ∧ Gr w w' ∧ w.heap.size ≤ g := by
  go_enter Try.func32, Try.ntmps32
  go_wp2
  go_ret
  exact ⟨_, rfl, heap_alloc_new _ _, Gr.alloc (Gr.refl _) _ _, Nat.le_refl _⟩
theorem nextNil_dev (w : World) : Calls Try.prog 33 #[.pointer none] w fun e w' => e = .returned (.int .u32 0) ∧ Gr w w' := by
  go_enter Try.func33, Try.ntmps33
  go_wp2
  go_ret
  exact ⟨rfl, Gr.refl _⟩
set_option maxHeartbeats 400000 in
theorem belowNil_dev (n : Int) (w : World) (hn : n < 9223372036854775808) (_ : -9223372036854775808 ≤ n) : Calls Try.prog 35 #[.pointer none, .int .i64 n] w fun e w' => e = .returned (.int .i64 0) ∧ Gr w w' := by
  by_cases h0 : n ≤ 0
  · go_enter Try.func35, Try.ntmps35
    go_wp2
    go_ret
    exact ⟨rfl, Gr.refl _⟩
  · have hp : 0 < n := by omega
    clear h0
    go_enter Try.func35, Try.ntmps35
    go_wp2_with fail
    refine (nextNil_dev _).mono ?_
    rintro e w1 ⟨rfl, hg⟩
    have HG := Lib.hid hg
    clear hg
    go_wp2_with fail
    go_ret
    exact ⟨rfl, HG.out⟩
/-- Package draw as it was written keeps its contracts. -/
theorem draw_ok : DrawOk DAt where
  ptr := fun ⟨_, h, _⟩ => ⟨_, h⟩
  lt := by
    rintro w d F s ⟨g, rfl, hb, rfl⟩ k rfl
    exact hb.lt
  keep := by
    rintro w w' d F G s ⟨g, rfl, hb, rfl⟩ hk hd
    exact ⟨g, rfl, hk.block hb (hd g rfl), rfl⟩
  new := fun s w hs => (new_dev s w hs).mono (by
    rintro e w' ⟨g, rfl, hb, hg, hl⟩
    exact ⟨_, _, rfl, ⟨g, rfl, hb, rfl⟩, hg, fun k hk => hk ▸ hl⟩)
  next := by
    rintro d F s w _ ⟨g, rfl, hb, rfl⟩
    refine (next_dev g s w hb).mono ?_
    rintro e w' ⟨rfl, hb', hk⟩
    exact ⟨rfl, ⟨g, rfl, hb', rfl⟩, hk⟩
  below := by
    rintro d F s n w _ hn _ ⟨g, rfl, hb, rfl⟩
    refine (below_dev g s n w hb hn).mono ?_
    rintro e w' ⟨rfl, hb', hk⟩
    exact ⟨rfl, ⟨g, rfl, hb', rfl⟩, hk⟩
  nextNil := nextNil_dev
  belowNil := belowNil_dev
end Go.Proofs.Ytcahbbbccnhgnaa
namespace Go.Proofs.Ytcahbbbccnhgnaa
open Go.Shelf
def lays189_ren : Go.Shelf.Ren := ⟨fun | 189 => 41 | 125 => 47 | 257 => 48 | 128 => 49 | 129 => 50 | 294 => 51 | 295 => 52 | 296 => 53 | 297 => 54 | 298 => 55 | 299 => 56 | 216 => 57 | 300 => 58 | 301 => 59 | 328 => 60 | 329 => 61 | 330 => 62 | 331 => 63 | 332 => 64 | 215 => 65 | 343 => 66 | n => n, fun | 28 => 28 | 3 => 3 | 46 => 24 | 0 => 0 | 51 => 31 | 53 => 52 | 4 => 4 | 183 => 74 | 182 => 73 | 131 => 78 | 5 => 5 | 9 => 9 | 218 => 80 | 222 => 84 | 228 => 86 | 229 => 87 | n => n, fun | n => n⟩
theorem lays189 : Go.Proofs.Lays.n189 Try.prog lays189_ren := {
  mixed := by kernel_rfl
  f125 := Try.func47.trans (congrArg some (by kernel_rfl))
  f128 := Try.func49.trans (congrArg some (by kernel_rfl))
  f129 := Try.func50.trans (congrArg some (by kernel_rfl))
  f189 := Try.func41.trans (congrArg some (by kernel_rfl))
  f215 := Try.func65.trans (congrArg some (by kernel_rfl))
  f216 := Try.func57.trans (congrArg some (by kernel_rfl))
  f257 := Try.func48.trans (congrArg some (by kernel_rfl))
  f294 := Try.func51.trans (congrArg some (by kernel_rfl))
  f295 := Try.func52.trans (congrArg some (by kernel_rfl))
  f296 := Try.func53.trans (congrArg some (by kernel_rfl))
  f297 := Try.func54.trans (congrArg some (by kernel_rfl))
  f298 := Try.func55.trans (congrArg some (by kernel_rfl))
  f299 := Try.func56.trans (congrArg some (by kernel_rfl))
  f300 := Try.func58.trans (congrArg some (by kernel_rfl))
  f301 := Try.func59.trans (congrArg some (by kernel_rfl))
  f328 := Try.func60.trans (congrArg some (by kernel_rfl))
  f329 := Try.func61.trans (congrArg some (by kernel_rfl))
  f330 := Try.func62.trans (congrArg some (by kernel_rfl))
  f331 := Try.func63.trans (congrArg some (by kernel_rfl))
  f332 := Try.func64.trans (congrArg some (by kernel_rfl))
  f343 := Try.func66.trans (congrArg some (by kernel_rfl))
  t0 := Try.underlying0
  a0 := Try.isAgg0
  z0 := Try.sizeOf0
  v0 := Try.zeroValue0
  t3 := Try.underlying3
  a3 := Try.isAgg3
  z3 := Try.sizeOf3
  v3 := Try.zeroValue3
  t4 := Try.underlying4
  a4 := Try.isAgg4
  z4 := Try.sizeOf4
  v4 := Try.zeroValue4
  t5 := Try.underlying5
  a5 := Try.isAgg5
  z5 := Try.sizeOf5
  v5 := Try.zeroValue5
  t9 := Try.underlying9
  a9 := Try.isAgg9
  z9 := Try.sizeOf9
  v9 := Try.zeroValue9
  t28 := Try.underlying28
  a28 := Try.isAgg28
  z28 := Try.sizeOf28
  v28 := Try.zeroValue28
  t46 := Try.underlying24
  a46 := Try.isAgg24
  z46 := Try.sizeOf24
  v46 := Try.zeroValue24
  t51 := Try.underlying31
  a51 := Try.isAgg31
  z51 := Try.sizeOf31
  v51 := Try.zeroValue31
  t53 := Try.underlying52
  a53 := Try.isAgg52
  z53 := Try.sizeOf52
  v53 := Try.zeroValue52
  t131 := Try.underlying78
  a131 := Try.isAgg78
  z131 := Try.sizeOf78
  v131 := Try.zeroValue78
  t182 := Try.underlying73
  a182 := Try.isAgg73
  z182 := Try.sizeOf73
  v182 := Try.zeroValue73
  t183 := Try.underlying74
  a183 := Try.isAgg74
  z183 := Try.sizeOf74
  v183 := Try.zeroValue74
  t218 := Try.underlying80
  a218 := Try.isAgg80
  z218 := Try.sizeOf80
  v218 := Try.zeroValue80
  t222 := Try.underlying84
  a222 := Try.isAgg84
  z222 := Try.sizeOf84
  v222 := Try.zeroValue84
  t228 := Try.underlying86
  a228 := Try.isAgg86
  z228 := Try.sizeOf86
  v228 := Try.zeroValue86
  t229 := Try.underlying87
  a229 := Try.isAgg87
  z229 := Try.sizeOf87
  v229 := Try.zeroValue87 }
open Go.Sort Go.RowKit in
theorem slices_Sort_int (blk off cap : Nat) (zs : List Int) (w : World) (hH : Holds (Value.int .i64) w blk off zs.toArray) (hblk : blk < w.heap.size) (hsz : zs.length < 4611686018427387904) :
    Calls Try.prog 41 #[.slice (some ⟨blk, off, none⟩) zs.length cap] w fun e w' =>
      e = .returned (.tuple #[]) ∧ ∃ n os, w' = grow (putRow (Value.int .i64) (Sort.ahead w n) blk off (zs.mergeSort fun x y => decide (x ≤ y)).toArray) os := Any.slices_Sort_int lays189 blk off cap zs w hH hblk hsz
open Go.RowKit Go.Sort in
/-- .. and plain. (LAID: no walk: one application.) -/
theorem slices_Sort_int_none (p : Option Addr) (cap : Nat) (w : World) :
    Calls Try.prog 41 #[.slice p 0 cap] w fun e w' => e = .returned (.tuple #[]) ∧ w' = w := Any.slices_Sort_int_none lays189 p cap w
end Go.Proofs.Ytcahbbbccnhgnaa
namespace Go.Proofs.Ytcahbbbccnhgnaa
open Go.RowKit

def partU (N i : Nat) : List Int := upTo i ++ List.replicate (N - i) 0
theorem upTo_length (n : Nat) : (upTo n).length = n := by simp [upTo]
theorem partU_zero (N : Nat) : partU N 0 = List.replicate N 0 := by simp [partU, upTo]
theorem partU_all (N : Nat) : partU N N = upTo N := by simp [partU]
theorem partU_set {N i : Nat} (h : i < N) : (partU N i).set i (i : Int) = partU N (i + 1) := by
  unfold partU
  rw [List.set_append, if_neg (by rw [upTo_length]; omega), upTo_length, Nat.sub_self]
  obtain ⟨m, hm⟩ : ∃ m, N - i = m + 1 := ⟨N - i - 1, by omega⟩
  rw [hm, List.replicate_succ, List.set_cons_zero, upTo_succ, show N - (i + 1) = m from by omega, List.append_assoc]
  rfl
theorem BlzC.set {w : World} {g : Nat} {L : List Int} (h : Blz w g L) (i : Nat) (x : Int) : Blz (w.setCell ⟨g, i, none⟩ (.int .i64 x)) g (L.set i x) := by
  unfold Blz at *
  rw [heap_setCell_same _ _ _ _ _ _ h, rowZ_set]
theorem BlzC.frozen {w : World} {g : Nat} {L : List Int} (h : Blz w g L) (i : Nat) : w.frozen? ⟨g, i, none⟩ = false := frozen_of_row w g i _ _ h
theorem BlzC.iz {w : World} {g n : Nat} {L : List Int} (h : Blz w g L) (hl : L.length = n) (hn : n ≤ 9223372036854775807) : Iz w g n n L :=
  ⟨hl, Nat.le_refl _, hn, rowZ L, h, by simp [rowZ, hl], fun i hi => by rw [rowZ_get L i (by omega)]⟩
set_option maxRecDepth 100000 in
set_option maxHeartbeats 800000 in
theorem upTo_dev (N : Nat) (w : World) (hN : N ≤ 64) :
    Calls Try.prog 40 #[.int .i64 (N : Int)] w fun e w' => e = .returned (.slice (some ⟨w.heap.size, 0, none⟩) N N) ∧ Iz w' w.heap.size N N (upTo N) ∧ Gr w w' := by
  have hmk := makeZ N N (by omega) (by omega)
  go_enter Try.func40, Try.ntmps40
  go_wp2_with fail
  obtain ⟨g, hg⟩ : ∃ g, w.heap.size = g := ⟨_, rfl⟩
  have B0 : Hid (Blz (w.alloc (.cells (rowZ (List.replicate N 0)) 3)) g (partU N 0)) := Lib.hid (by
    rw [partU_zero, ← hg]
    exact heap_alloc_new _ _)
  have G2 : Hid (Gr w (w.alloc (.cells (rowZ (List.replicate N 0)) 3))) := Lib.hid (Gr.alloc (Gr.refl _) _ _)
  have HGL : Hid (w.heap.size ≤ g) := Lib.hid (by omega)
  rw [hg]
  generalize w.alloc (.cells (rowZ (List.replicate N 0)) 3) = w2 at *
  have HE := Lib.hid hg
  clear hmk hg
  go_loopw [9] (fun iv W => ∃ i : Nat, i ≤ N ∧ iv = .int .i64 i ∧ Blz W g (partU N i) ∧ Gr w W) (fun iv _ => N - (intOf iv).toNat)
  case atStart => exact ⟨0, by omega, rfl, B0.out, G2.out⟩
  case round =>
    obtain ⟨i, hi, rfl, hb, hgr⟩ := hrel
    have HB := Lib.hid hb
    have HG := Lib.hid hgr
    clear hb hgr B0 G2
    by_cases hlt : i < N
    · have hl : i < (partU N i).length := by simp [partU, upTo_length]; omega
      have q1 := HB.out.cell i hl
      have q2 := BlzC.frozen HB.out i
      have HST := Lib.hid (partU_set hlt)
      clear hl
      go_wp2
      refine ⟨⟨i + 1, by omega, by go_num, ?_, Gr.setCell HG.out HGL.out _⟩, by simp [intOf]; omega⟩
      rw [← HST.out]
      exact BlzC.set HB.out i _
    · obtain rfl : i = N := by omega
      go_wp2
      go_ret
      rw [HE.out]
      exact ⟨rfl, BlzC.iz (by rw [← partU_all]; exact HB.out) (upTo_length i) (by omega), HG.out⟩
/-- The elements from o on, one after another. -/
def setsL : List Int → Nat → List Int → List Int
  | L, _, [] => L
  | L, o, v :: vs => setsL (L.set o v) (o + 1) vs
theorem setsL_get : ∀ (vs L : List Int) (o i : Nat), o + vs.length ≤ L.length → (setsL L o vs).getD i 0 = if o ≤ i ∧ i < o + vs.length then vs.getD (i - o) 0 else L.getD i 0
  | [], L, o, i, _ => by
    rw [if_neg (by rw [List.length_nil]; omega)]
    rfl
  | v :: vs, L, o, i, h => by
    rw [List.length_cons] at h
    show (setsL (L.set o v) (o + 1) vs).getD i 0 = _
    rw [setsL_get vs (L.set o v) (o + 1) i (by rw [List.length_set]; omega), List.length_cons]
    by_cases e : i = o
    · subst e
      rw [if_neg (by omega), if_pos (by omega), Nat.sub_self, List.getD_eq_getElem?_getD, List.getElem?_set_self (by omega)]
      rfl
    · by_cases e2 : o + 1 ≤ i ∧ i < o + 1 + vs.length
      · rw [if_pos e2, if_pos (by omega), show i - o = (i - (o + 1)) + 1 from by omega]
        rfl
      · rw [if_neg e2, if_neg (by omega), List.getD_eq_getElem?_getD, List.getElem?_set_ne (fun c => e c.symm), List.getD_eq_getElem?_getD]
theorem Iz.sets {g c n : Nat} : ∀ (vs : List Int) (W : World) (L : List Int) (o : Nat), Iz W g c n L → o + vs.length ≤ n → Iz (W.setCells g o (vs.map (Value.int .i64))) g c n (setsL L o vs)
  | [], _, _, _, h, _ => h
  | v :: vs, W, L, o, h, hl => by
    rw [List.length_cons] at hl
    exact Iz.sets vs _ _ (o + 1) (h.set o (by omega) v) (by omega)
theorem Kp.sets {g : Nat} : ∀ (vs : List Value) (o : Nat) (W : World), Kp (fun b => b = g) W (W.setCells g o vs)
  | [], _, _ => Kp.refl _ _
  | v :: vs, o, W => (Kp.set W g o v).trans (Kp.sets vs (o + 1) _) fun _ e => .inl e
theorem gr_grow (W : World) (os : Array Obj) : Gr W (Go.Sort.grow W os) :=
  ⟨rfl, rfl, rfl, by simp [Go.Sort.grow], fun _ hk => Go.Sort.heap_grow_old W os hk⟩
theorem isort_merge (l : List Int) (h : l.Nodup) : (l.mergeSort fun x y => decide (x ≤ y)) = C.isort l := by
  have hp := List.mergeSort_perm l (fun x y : Int => decide (x ≤ y))
  have hs : (l.mergeSort fun x y => decide (x ≤ y)).Pairwise (fun a b => decide (a ≤ b) = true) :=
    List.pairwise_mergeSort (fun a b c h1 h2 => by simp at *; omega) (fun a b => by simp; omega) l
  have hn : (l.mergeSort fun x y => decide (x ≤ y)).Nodup := hp.nodup_iff.2 h
  refine C.rise_ext _ _ ?_ (C.isort_sorted l h) fun x => by rw [C.mem_isort, hp.mem_iff]
  rw [List.nodup_iff_pairwise_ne] at hn
  exact (hs.and hn).imp fun {a b} ⟨h1, h2⟩ => by simp at h1; omega
/-- The first k of a row of one's own, sorted by the library. -/
theorem sort_dev (g c n k : Nat) (L : List Int) (W : World) (h : Iz W g c n L) (hk : k ≤ n) (hn : n ≤ 1000) (hd : (L.take k).Nodup) :
    Calls Try.prog 41 #[.slice (some ⟨g, 0, none⟩) k k] W fun e W' => e = .returned (.tuple #[]) ∧ Iz W' g c n (setsL L 0 (C.isort (L.take k))) ∧ Kp (fun b => b = g) W W' := by
  have hl : (L.take k).length = k := by rw [List.length_take, h.1]; omega
  have hH : Go.Sort.Holds (Value.int .i64) W g 0 (L.take k).toArray :=
    Go.Lib.holds_of_ints (by rw [h.1]; exact hk) (fun j hj => by rw [Nat.zero_add, h.cell j (by rw [← h.1]; exact hj)]) (fun j hj => by rw [Nat.zero_add]; exact h.frozen j)
  have hb : g < W.heap.size := by
    obtain ⟨_, _, _, cur, hg, _⟩ := h
    exact (Array.getElem?_eq_some_iff.1 hg).1
  have hc := slices_Sort_int g 0 k (L.take k) W hH hb (by omega)
  rw [hl, isort_merge _ hd] at hc
  refine hc.mono ?_
  rintro e W' ⟨rfl, m, os, rfl⟩
  have hil : (C.isort (L.take k)).length = k := by rw [C.isort_length, hl]
  have hw := Go.Lib.sorted_world (Value.int .i64) W g 0 m (L.take k).toArray (C.isort (L.take k)) os hH (by simp [hil]; rw [h.1]; omega)
  rw [hw]
  have hi : Iz (W.drewN m) g c n L := h.kp (F := fun _ => False) (Kp.refl _ W) (fun e => e)
  have hs := Iz.sets (C.isort (L.take k)) _ _ 0 hi (by omega)
  have hk2 : Kp (fun b => b = g) W ((W.drewN m).setCells g 0 ((C.isort (L.take k)).map (Value.int .i64))) := Kp.sets _ 0 (W.drewN m)
  exact ⟨rfl, hs.kp ((gr_grow _ _).kp fun _ => False) (fun e => e), hk2.trans ((gr_grow _ _).kp fun _ => False) (fun _ e => e.elim)⟩
theorem take_sets (L s : List Int) (h : s.length ≤ L.length) : (setsL L 0 s).length = L.length → (setsL L 0 s).take s.length = s := fun hl => by
  apply List.ext_getElem?
  intro i
  by_cases hi : i < s.length
  · rw [List.getElem?_take_of_lt hi]
    have hg := setsL_get s L 0 i (by omega)
    rw [if_pos (by omega), Nat.sub_zero, List.getD_eq_getElem?_getD, List.getD_eq_getElem?_getD] at hg
    rw [List.getElem?_eq_getElem (by omega), List.getElem?_eq_getElem hi] at hg ⊢
    simpa using hg
  · rw [List.getElem?_eq_none (by rw [List.length_take]; omega), List.getElem?_eq_none (by omega)]
theorem Iz.own {W : World} {g c n base : Nat} {L l : List Int} (h : Iz W g c n L) (k : Nat) (hk : k ≤ n) (hb : ∀ x ∈ l, I64 x) (hl : L.take k = l) (hg : base ≤ g) : OwnZ base W (.slice (some ⟨g, 0, none⟩) k k) l := by
  have hn : n ≤ 9223372036854775807 := by have := h.2.1; have := h.2.2.1; omega
  have hlk : l.length = k := by rw [← hl, List.length_take, h.1]; omega
  obtain ⟨h1, h2, h3, cur, h4, h5, h6⟩ := h
  refine ⟨hb, .inr ⟨g, k, c, by rw [hlk], hg, by omega, by omega, rfl, by omega, h3, cur, h4, h5, fun i hi => ?_⟩⟩
  rw [h6 i (by omega), ← hl, List.getD_eq_getElem?_getD, List.getD_eq_getElem?_getD, List.getElem?_take_of_lt (by omega)]
/-- What one drawing below a bound does to what is kept of a Draw: j numbers are drawn by then. -/
structure Bw (S : World → Nat → Prop) (d : Value) (F : Nat → Prop) (bv : Nat → Int) (N K : Nat) : Prop where
  keep : ∀ W W' j (G : Nat → Prop), S W j → Kp G W W' → (∀ k, F k → ¬ G k) → S W' j
  below : ∀ W j, j < K → S W j → Calls Try.prog 35 #[d, .int .i64 ((N : Int) - j)] W fun e W' => e = .returned (.int .i64 (bv j)) ∧ S W' (j + 1) ∧ Kp F W W'
set_option maxRecDepth 100000 in
set_option maxHeartbeats 1600000 in
theorem some_core (S : World → Nat → Prop) (d : Value) (F : Nat → Prop) (bv : Nat → Int) (q : Nat → Nat) (M : Nat → List Int) (N K : Nat) (w : World) (hN : N ≤ 64) (hK : K ≤ N)
    (B : Bw S d F bv N K) (hq : ∀ j, j < K → (j : Int) + bv j = q j ∧ q j < N ∧ -9223372036854775808 ≤ bv j ∧ bv j < 9223372036854775808) (hM0 : M 0 = upTo N) (hM : ∀ j, j < K → M (j + 1) = C.swap (M j) j (q j)) (hS : S w 0) (hF : ∀ k, F k → k < w.heap.size) (hi : C.Inj N (M K)) :
    Calls Try.prog 23 #[d, .int .i64 (N : Int), .int .i64 (K : Int)] w fun e w' => ∃ v, e = .returned v ∧ OwnZ w.heap.size w' v (C.isort ((M K).take K)) ∧ S w' K ∧ Kp F w w' := by
  have d1 : decide ((N : Int) < 0) = false := decide_eq_false (by omega)
  have d2 : decide ((64 : Int) < N) = false := decide_eq_false (by omega)
  have d3 : decide ((K : Int) < 0) = false := decide_eq_false (by omega)
  have d4 : decide (N < K) = false := decide_eq_false (by omega)
  have d5 : decide ((N : Int) < K) = false := decide_eq_false (by omega)
  have BB := Lib.hid B
  have HQ := Lib.hid hq
  have HM := Lib.hid hM
  have HS := Lib.hid hS
  have HF := Lib.hid hF
  have HI := Lib.hid hi
  clear B hq hM hS hF hi
  go_enter Try.func23, Try.ntmps23
  go_wp2_with fail
  refine (upTo_dev N _ hN).mono ?_
  rintro e w1 ⟨rfl, hz, hg⟩
  obtain ⟨g, hgg⟩ : ∃ g, w.heap.size = g := ⟨_, rfl⟩
  rw [hgg] at hz ⊢
  have HB : Hid (w.heap.size ≤ g) := Lib.hid (by omega)
  have HE := Lib.hid hgg
  have Z0 : Hid (Iz w1 g N N (M 0)) := Lib.hid (by rw [hM0]; exact hz)
  have K0 : Hid (Kp F w w1) := Lib.hid (hg.kp F)
  have S0 : Hid (S w1 0) := Lib.hid (BB.out.keep _ _ _ (fun _ => False) HS.out (hg.kp _) (fun _ _ e => e))
  clear hz hg hgg hM0 HS d1 d2 d3 d4 d5
  go_wp2_with fail
  go_loopw [29] (fun iv W => ∃ j : Nat, j ≤ K ∧ iv = .int .i64 j ∧ Iz W g N N (M j) ∧ S W j ∧ Kp F w W) (fun iv _ => K - (intOf iv).toNat)
  case atStart => exact ⟨0, by omega, rfl, Z0.out, S0.out, K0.out⟩
  case round =>
    clear Z0 S0 K0
    obtain ⟨wi, hwi⟩ : ∃ x, x = wr := ⟨_, rfl⟩
    subst hwi
    obtain ⟨j, hj, rfl, hz, hr, hk⟩ := hrel
    have ZZ := Lib.hid hz
    have RR := Lib.hid hr
    have KK := Lib.hid hk
    clear hz hr hk
    by_cases hlt : j < K
    · obtain ⟨q1, pl2, hb1, hb2⟩ := HQ.out j hlt
      have FG : Hid (∀ k, F k → ¬ k = g) := Lib.hid fun k h e => by have := HF.out k h; have := HE.out; omega
      go_upto_region 8 with fail
      refine (BB.out.below _ j hlt RR.out).mono ?_
      rintro e w1 ⟨rfl, hr1, hk1⟩
      have Z1 := Lib.hid (ZZ.out.kp hk1 (fun e => FG.out g e rfl))
      have K1 := Lib.hid (KK.out.trans hk1 fun k e => .inl e)
      have SH := Lib.hid (HM.out j hlt)
      have R1 := Lib.hid hr1
      clear hr1 hk1 RR KK ZZ
      generalize q j = qq at *
      generalize bv j = bb at *
      have ji : j < N := by omega
      have ZS1 := Lib.hid (Z1.out.swap j qq ji pl2)
      rw [← SH.out] at ZS1
      have c1 := Z1.out.cell j ji
      have c2 := Z1.out.cell qq pl2
      have fr1 := Z1.out.frozen j
      have fr2 := Z1.out.frozen qq
      generalize hx : (M j).getD j 0 = x at *
      generalize hy : (M j).getD qq 0 = y at *
      obtain ⟨y2, hy2⟩ := Z1.out.any j qq y ji pl2
      have G1 : Hid (S ((w1.setCell ⟨g, j, none⟩ (.int .i64 y)).setCell ⟨g, qq, none⟩ (.int .i64 x)) (j + 1) ∧ Kp F w ((w1.setCell ⟨g, j, none⟩ (.int .i64 y)).setCell ⟨g, qq, none⟩ (.int .i64 x))) :=
        Lib.hid ⟨BB.out.keep _ _ _ _ (BB.out.keep _ _ _ _ R1.out (Kp.set _ _ _ _) FG.out) (Kp.set _ _ _ _) FG.out, (K1.out.setNew HB.out _ _).setNew HB.out _ _⟩
      clear R1 K1 hx hy Z1
      go_wp2
      go_region
      go_wp2
      exact ⟨⟨j + 1, by omega, by go_num, ZS1.out.kp ((Kp.refl (fun _ => False) _).drew) (fun e => e), BB.out.keep _ _ _ _ G1.out.1 ((Kp.refl (fun _ => False) _).drew) (fun _ _ e => e), G1.out.2.drew⟩, by simp [intOf]; omega⟩
    · obtain rfl : j = K := by omega
      have hnd : ((M j).take j).Nodup := HI.out.nodup.sublist (List.take_sublist _ _)
      have HND := Lib.hid hnd
      have FG : Hid (∀ k, F k → ¬ k = g) := Lib.hid fun k h e => by have := HF.out k h; have := HE.out; omega
      clear hnd
      go_wp2_with fail
      refine (sort_dev g N N j (M j) _ ZZ.out hK (by omega) HND.out).mono ?_
      rintro e w2 ⟨rfl, hz2, hk2⟩
      have Z2 := Lib.hid hz2
      have K2 := Lib.hid hk2
      clear hz2 hk2
      go_wp2_with fail
      go_ret
      have hlt : ((M j).take j).length = j := by rw [List.length_take, HI.out.len]; omega
      have hil : (C.isort ((M j).take j)).length = j := by rw [C.isort_length, hlt]
      have htk := take_sets (M j) (C.isort ((M j).take j)) (by rw [hil, HI.out.len]; exact hK) (by rw [Z2.out.1, HI.out.len])
      rw [hil] at htk
      refine ⟨_, rfl, Z2.out.own j hK (fun x hx => ?_) htk (by have := HE.out; omega), BB.out.keep _ _ _ _ RR.out K2.out FG.out, KK.out.trans K2.out fun k e => .inr (by have := HE.out; omega)⟩
      have hx2 := List.mem_of_mem_take ((C.mem_isort x _).1 hx)
      obtain ⟨i, hi, rfl⟩ := List.getElem_of_mem hx2
      have := HI.out.rng i (by rw [← HI.out.len]; exact hi)
      rw [List.getD_eq_getElem?_getD, List.getElem?_eq_getElem hi] at this
      simp only [Option.getD_some] at this
      unfold I64
      omega
theorem inj_upTo (N : Nat) : C.Inj N (upTo N) := C.shuf_inj 0 N 0 (Nat.zero_le _)
theorem isort_upTo {N K : Nat} (h : K ≤ N) : C.isort ((upTo N).take K) = upTo K := by
  have ht : (upTo N).take K = upTo K := by
    unfold upTo
    rw [← List.map_take, List.take_range, Nat.min_eq_left h]
  rw [ht]
  refine C.rise_ext _ _ (C.isort_sorted _ (inj_upTo K).nodup) ?_ fun x => C.mem_isort x _
  unfold upTo
  rw [List.pairwise_map]
  exact List.pairwise_lt_range.imp fun h => by omega
theorem swap_self (l : List Int) (i : Nat) (hi : i < l.length) : C.swap l i i = l := by
  apply List.ext_getElem?
  intro k
  unfold C.swap
  by_cases e : k = i
  · subst e
    rw [List.getElem?_set_self (by simpa using hi), List.getD_eq_getElem?_getD, List.getElem?_eq_getElem hi]
    rfl
  · rw [List.getElem?_set_ne (fun c => e c.symm), List.getElem?_set_ne (fun c => e c.symm)]
theorem some_none (d : Value) (n k : Int) (w : World) (hn : I64 n) (hk : I64 k) (hm : ¬ C.May n k) :
    Calls Try.prog 23 #[d, .int .i64 n, .int .i64 k] w fun e w' => e = .returned (.slice none 0 0) ∧ w' = w := by
  unfold I64 at hn hk
  unfold C.May at hm
  by_cases c1 : n < 0
  · go_enter Try.func23, Try.ntmps23
    go_wp2
    go_ret
    exact ⟨rfl, rfl⟩
  · by_cases c2 : 64 < n
    · go_enter Try.func23, Try.ntmps23
      go_wp2
      go_ret
      exact ⟨rfl, rfl⟩
    · by_cases c3 : k < 0
      · go_enter Try.func23, Try.ntmps23
        go_wp2
        go_ret
        exact ⟨rfl, rfl⟩
      · have c4 : n < k := by omega
        go_enter Try.func23, Try.ntmps23
        go_wp2
        go_ret
        exact ⟨rfl, rfl⟩
/-- Package choose as it was written, what is told being memory of its own. -/
theorem choose_own (s : Nat) (d : Value) (F : Nat → Prop) (n k : Int) (w : World) (hn : I64 n) (hk : I64 k) (hs : s < 18446744073709551616) (hd : DAt w d F s) :
    Calls Try.prog 23 #[d, .int .i64 n, .int .i64 k] w fun e w' => ∃ v, e = .returned v ∧ OwnZ w.heap.size w' v (C.someZ s n k) ∧ DAt w' d F (C.someS s n k) ∧ Kp F w w' := by
  by_cases hm : C.May n k
  · have e1 : C.someZ s n k = C.some s n.toNat k.toNat := if_pos hm
    have e2 : C.someS s n k = C.st s k.toNat := if_pos hm
    rw [e1, e2]
    obtain ⟨m1, m2, m3, m4⟩ := hm
    obtain ⟨N, rfl⟩ : ∃ N : Nat, n = N := ⟨n.toNat, by omega⟩
    obtain ⟨K, rfl⟩ : ∃ K : Nat, k = K := ⟨k.toNat, by omega⟩
    rw [Int.toNat_natCast, Int.toNat_natCast]
    refine some_core (fun W j => DAt W d F (C.st s j)) d F (fun j => belowV (C.st s j) ((N : Int) - j)) (C.pick s N) (C.shuf s N) N K w (by omega) (by omega) ⟨fun W W' j G h hkp hG => draw_ok.keep h hkp hG, fun W j hj h => ?_⟩ (fun j hj => ?_) rfl (fun j hj => rfl) hd (draw_ok.lt hd) (C.shuf_inj s N K (by omega))
    · have hb := draw_ok.below d F (C.st s j) ((N : Int) - j) W (C.st_lt hs j) (by omega) (by omega) h
      rw [(C.pick_below (s := s) (show j < N by omega)).2] at hb
      exact hb
    · have hr := belowV_rng (C.st s j) ((N : Int) - j)
      exact ⟨(C.pick_below (by omega)).1, (C.pick_lt (by omega)).2, by omega, by omega⟩
  · have e1 : C.someZ s n k = [] := if_neg hm
    have e2 : C.someS s n k = s := if_neg hm
    rw [e1, e2]
    refine (some_none d n k w hn hk hm).mono ?_
    rintro e w' ⟨rfl, rfl⟩
    exact ⟨_, rfl, ⟨(fun x hx => by cases hx), .inl ⟨rfl, rfl⟩⟩, hd, Kp.refl _ _⟩
theorem choose_ok : ChooseOk DAt where
  some := fun d n k F s w hn hk hs hd => (choose_own s d F n k w hn hk hs hd).mono (by
    rintro e w' ⟨v, rfl, ho, ha, hk⟩
    exact ⟨v, rfl, ho.zs, ho.away (draw_ok.lt hd), ha, hk⟩)
  someNil := by
    intro n k w hn hk hm
    obtain ⟨m1, m2, m3, m4⟩ := hm
    obtain ⟨N, rfl⟩ : ∃ N : Nat, n = N := ⟨n.toNat, by omega⟩
    obtain ⟨K, rfl⟩ : ∃ K : Nat, k = K := ⟨k.toNat, by omega⟩
    rw [Int.toNat_natCast]
    refine (some_core (fun _ _ => True) (.pointer none) (fun _ => False) (fun _ => 0) (fun j => j) (fun _ => upTo N) N K w (by omega) (by omega) ⟨fun _ _ _ _ _ _ _ => trivial, fun W j hj _ => ?_⟩ (fun j hj => ⟨by omega, by omega, by omega, by omega⟩) rfl (fun j hj => (swap_self (upTo N) j (by rw [upTo_length]; omega)).symm) trivial (fun k h => h.elim) (inj_upTo N)).mono ?_
    · refine (belowNil_dev ((N : Int) - j) W (by omega) (by omega)).mono ?_
      rintro e w' ⟨rfl, hg⟩
      exact ⟨rfl, trivial, hg.kp _⟩
    · rintro e w' ⟨v, rfl, ho, _, hk⟩
      rw [isort_upTo (by omega)] at ho
      exact ⟨v, rfl, ho.zs, ho.away (fun _ h => h), hk.gr (Gr.refl w) fun _ h => h.elim⟩
end Go.Proofs.Ytcahbbbccnhgnaa
namespace Go.Proofs.Ytcahbbbccnhgnaa
open Go.RowKit

set_option maxHeartbeats 400000 in
theorem last_any (v : Value) (t : List Int) (w : World) (h : Zs w v t) (hl : t.length ≤ 1000) :
    Calls Try.prog 36 #[v] w fun e w' => e = .returned (.int .i64 (lastZ' t)) ∧ Gr w w' := by
  by_cases h0 : 0 < t.length
  · obtain ⟨a, c, rfl, h1, h2, h3⟩ := Zs.at h h0
    have q := h3 (t.length - 1) (by omega)
    have hrng := h.rng (t.length - 1) (by omega)
    rw [show t.getD (t.length - 1) 0 = lastZ' t from rfl] at q hrng
    generalize lastZ' t = y at *
    obtain ⟨n, hn⟩ : ∃ n, t.length = n := ⟨_, rfl⟩
    rw [hn] at q h1 h0 hl ⊢
    clear h h3 hn
    obtain ⟨m, rfl⟩ : ∃ m, n = m + 1 := ⟨n - 1, by omega⟩
    rw [Nat.add_sub_cancel] at q
    have hb : (((m + 1 : Nat) : Int) == 0) = false := by simp; omega
    go_enter Try.func36, Try.ntmps36
    go_wp2
    go_ret
    exact ⟨rfl, Gr.refl _⟩
  · obtain rfl : t = [] := List.eq_nil_of_length_eq_zero (by omega)
    obtain ⟨oa, c, rfl⟩ := h.form
    clear h
    rw [show lastZ' [] = 0 from rfl]
    go_enter Try.func36, Try.ntmps36
    go_wp2
    go_ret
    exact ⟨rfl, Gr.refl _⟩
set_option maxHeartbeats 400000 in
theorem rootUp_any (N : Nat) (w : World) (h1 : 1 ≤ N) (h2 : N ≤ 64) :
    Calls Try.prog 37 #[.int .i64 N] w fun e w' => e = .returned (.int .i64 (T.root N : Nat)) ∧ Gr w w' := by
  obtain ⟨R, hR⟩ : ∃ R, T.root N = R := ⟨_, rfl⟩
  rw [hR]
  have HR := Lib.hid hR
  clear hR
  go_enter Try.func37, Try.ntmps37
  go_wp2
  go_loopw [3] (fun i wr => w = wr ∧ ∃ r : Nat, r ≤ 8 ∧ 1 ≤ r ∧ i = .int .i64 r ∧ ∀ j, j < r → j * j < N) (fun i _ => 8 - (intOf i).toNat)
  case atStart => exact ⟨rfl, 1, by omega, by omega, rfl, fun j hj => by
    have hj0 : j = 0 := by omega
    rw [hj0]
    omega⟩
  case round =>
    obtain ⟨rfl, r, hr, hr1, rfl, hs⟩ := hrel
    have HS := Lib.hid hs
    obtain ⟨q, hq⟩ : ∃ q, r * r = q := ⟨_, rfl⟩
    have hq2 : (r : Int) * r = q := by rw [← hq, Int.natCast_mul]
    have hq3 : q ≤ 64 := by rw [← hq]; exact Nat.mul_le_mul hr hr
    have HQ := Lib.hid hq
    clear hs hq
    by_cases hlt : q < N
    · have h8 : r ≠ 8 := fun c => by
        rw [c] at HQ
        have := HQ.out
        omega
      go_wp2
      refine ⟨⟨trivial, r + 1, by omega, by omega, by go_num, fun j hj => ?_⟩, ?_⟩
      · by_cases e : j = r
        · rw [e, HQ.out]; exact hlt
        · exact HS.out j (by omega)
      · simp [intOf]
        omega
    · have hroot := T.root_eq h1 h2 (by rw [HQ.out]; omega) HS.out
      rw [HR.out] at hroot
      subst hroot
      go_wp2
      go_ret
      exact ⟨rfl, Gr.refl _⟩
/-- What the weight of k begins with. -/
def idealP (N k : Nat) : Nat := if 1 < k then 1048576 / (k * (k - 1)) else 1048576 / N
set_option maxHeartbeats 400000 in
theorem ideal_any (N k : Nat) (w : World) (h1 : 1 ≤ N) (h2 : N ≤ 64) (k1 : 1 ≤ k) (k2 : k ≤ 64) :
    Calls Try.prog 38 #[.int .i64 N, .int .i64 k] w fun e w' => e = .returned (.int .i64 (idealP N k : Nat)) ∧ Gr w w' := by
  by_cases c : 1 < k
  · have e1 : idealP N k = 1048576 / (k * (k - 1)) := if_pos c
    rw [e1]
    have hk2 : k * (k - 1) ≤ 4032 := Nat.le_trans (Nat.mul_le_mul (by omega : k ≤ 64) (by omega : k - 1 ≤ 63)) (by omega)
    obtain ⟨P, hP⟩ : ∃ P, k * (k - 1) = P := ⟨_, rfl⟩
    have fP : (k : Int) * ((k : Int) - 1) = P := by
      rw [← hP, Int.natCast_mul]
      congr 1
      omega
    have fP1 : 1 ≤ P := by rw [← hP]; exact Nat.mul_pos (by omega) (by omega)
    rw [hP] at hk2 ⊢
    obtain ⟨a2, ha2⟩ : ∃ a2, 1048576 / P = a2 := ⟨_, rfl⟩
    have fa2 : (1048576 : Int) / P = a2 := by rw [← ha2, Int.natCast_ediv]; rfl
    have ba2 : a2 ≤ 1048576 := by rw [← ha2]; exact Nat.div_le_self _ _
    rw [ha2]
    clear hP ha2 e1
    have hb : ((k : Int) == 1) = false := by simp; omega
    go_enter Try.func38, Try.ntmps38
    go_wp2
    go_ret
    exact ⟨by rw [← fa2]; rfl, Gr.refl _⟩
  · obtain rfl : k = 1 := by omega
    rw [show idealP N 1 = 1048576 / N from rfl]
    obtain ⟨a2, ha2⟩ : ∃ a2, 1048576 / N = a2 := ⟨_, rfl⟩
    have fa2 : (1048576 : Int) / N = a2 := by rw [← ha2, Int.natCast_ediv]; rfl
    have ba2 : a2 ≤ 1048576 := by rw [← ha2]; exact Nat.div_le_self _ _
    rw [ha2]
    clear ha2
    go_enter Try.func38, Try.ntmps38
    go_wp2
    go_ret
    exact ⟨by rw [← fa2]; rfl, Gr.refl _⟩
theorem digits_len : ∀ r, r < 9 → Lib.len8 ((r : Nat) : Int) = (T.digits 9 r : Nat) := by decide +kernel
set_option maxRecDepth 100000 in
set_option maxHeartbeats 800000 in
theorem len_any (r : Nat) (w : World) (h1 : 1 ≤ r) (h2 : r ≤ 8) :
    Calls Try.prog 47 #[.int .u64 r] w fun e w' => e = .returned (.int .i64 (T.digits 9 r : Nat)) ∧ Gr w w' := by
  have key : ∀ (x : Int) w, x = r → Calls Try.prog 50 #[.int .u64 x] w fun e w' => e = .returned (.int .i64 (Lib.len8 x)) ∧ Gr w w' := by
    intro x w hx
    have hb := T.digits_le r (by omega)
    have hl : 0 ≤ Lib.len8 x ∧ Lib.len8 x ≤ 4 := by rw [hx, digits_len r (by omega)]; omega
    have hx1 : 1 ≤ x := by omega
    have hx2 : x ≤ 8 := by omega
    clear hb hx h1 h2
    have hsz : x.toNat < Lib.len8tab.size := by rw [Lib.len8tab_size]; omega
    have e : ((Lib.len8tab[x.toNat]'hsz).toNat : Int) = Lib.len8 x := by
      unfold Lib.len8
      rw [getElem?_pos Lib.len8tab x.toNat hsz]
      rfl
    have E := Lib.hid e
    clear e
    go_enter Try.func50, Try.ntmps50
    go_wp2
    go_ret
    refine ⟨congrArg Ending.returned (congrArg (Value.int IntKind.i64) ?_), Gr.refl _⟩
    rw [E.out]
    unfold wrap64
    omega
  rw [← digits_len r (by omega)]
  go_enter Try.func47, Try.ntmps47
  go_wp2_with fail
  refine (key _ _ rfl).mono ?_
  rintro e w' ⟨rfl, hg⟩
  have G := Lib.hid hg
  clear hg
  go_wp2
  go_ret
  exact ⟨rfl, G.out⟩
set_option maxHeartbeats 400000 in
theorem index_any (v : Value) (t : List Int) (x : Int) (B : Nat) (w : World) (h : Zs w v t) (hl : t.length ≤ 1000) (hB : w.cell? ⟨B, 0, none⟩ = some (.int .i64 x)) :
    Calls Try.prog 45 #[v, .func (.func 46) #[] #[.pointer (some ⟨B, 0, none⟩)]] w fun e w' => e = .returned (.int .i64 (T.degA t x 0 - 1)) ∧ Gr w w' := by
  obtain ⟨_, oa, c, rfl, h1, h2, h3, h4⟩ := h
  obtain ⟨n, hn⟩ : ∃ n, t.length = n := ⟨_, rfl⟩
  rw [hn] at h1 h4 hl ⊢
  have HN := Lib.hid hn
  have HC := Lib.hid h4
  have HO : Hid (oa = none → n = 0) := Lib.hid (fun e => by have := h3 e; omega)
  clear h3 h4 hn
  go_enter Try.func45, Try.ntmps45
  go_wp2
  go_loopw [8] (fun i wr => wr = w ∧ ∃ k : Nat, k ≤ n ∧ i = .int .i64 k ∧ ∀ j, j < k → t.getD j 0 ≤ x) (fun i _ => n - (intOf i).toNat)
  case atStart => exact ⟨rfl, 0, by omega, rfl, by omega⟩
  case round =>
    obtain ⟨rfl, k, hk, rfl, hs⟩ := hrel
    have HS := Lib.hid hs
    clear hs
    by_cases hlt : k < n
    · obtain ⟨a, rfl⟩ : ∃ a, oa = some a := by
        cases oa with
        | none => exact absurd (HO.out rfl) (by omega)
        | some a => exact ⟨a, rfl⟩
      have q := HC.out a rfl k hlt
      obtain ⟨y, hy⟩ : ∃ y, t.getD k 0 = y := ⟨_, rfl⟩
      rw [hy] at q
      have HY := Lib.hid hy
      clear hy
      by_cases hxy : x < y
      · go_wp2_with (first | go_in)
        go_ret
        exact ⟨by rw [T.degA_at t x 0 k (by rw [HN.out]; exact hlt) HS.out (by rw [HY.out]; exact hxy)]; simp, Gr.refl _⟩
      · go_wp2_with (first | go_in)
        refine ⟨⟨trivial, k + 1, by omega, by go_num, fun j hj => ?_⟩, by simp [intOf]; omega⟩
        by_cases e : j = k
        · rw [e, HY.out]; omega
        · exact HS.out j (by omega)
    · obtain rfl : k = n := by omega
      go_wp2
      go_ret
      exact ⟨by rw [T.degA_none t x 0 (fun i hi => HS.out i (by rw [HN.out] at hi; exact hi))]; rfl, Gr.refl _⟩
/-- The numbers of t are none above the last one. -/
def Top (t : List Int) : Prop := ∀ i, i < t.length → t.getD i 0 ≤ lastZ' t
theorem tab_top (l : Int) : Top (T.tab l) ∧ (T.tab l).length ≤ 64 := by
  by_cases hin : 1 ≤ l ∧ l ≤ 64
  · obtain ⟨N, rfl⟩ : ∃ N : Nat, l = N := ⟨l.toNat, by omega⟩
    rw [T.tab_in (by omega) (by omega)]
    refine ⟨fun i hi => ?_, by rw [T.tabZ_length]; omega⟩
    rw [T.tabZ_length] at hi
    unfold lastZ'
    rw [T.tabZ_length, T.tabZ_at hi, T.tabZ_at (by omega)]
    by_cases e : i = N - 1
    · rw [e]; omega
    · have := T.sum_lt (l := N) (by omega) (by omega) (N - 1 + 1) (i + 1) (by omega) (by omega)
      omega
  · rw [T.tab_out hin]
    exact ⟨fun i hi => absurd hi (by simp), by simp⟩
set_option maxHeartbeats 400000 in
theorem degree_any (v : Value) (t : List Int) (x : Int) (w : World) (h : Zs w v t) (ht : Top t) (hl : t.length ≤ 1000) (hx : I64 x) :
    Calls Try.prog 34 #[v, .int .i64 x] w fun e w' => e = .returned (.int .i64 (T.deg t x)) ∧ Gr w w' := by
  have H := Lib.hid h
  have HX := Lib.hid hx
  have HB : Hid ((w.alloc (.cells #[.int .i64 x] 3)).cell? ⟨w.heap.size, 0, none⟩ = some (.int .i64 x)) := Lib.hid (by rw [World.cell?_alloc_at _ _ _ _ rfl]; rfl)
  have G0 : Hid (Gr w (w.alloc (.cells #[.int .i64 x] 3))) := Lib.hid (Gr.alloc (Gr.refl _) _ _)
  have hb := HB.out
  have HA := Lib.hid (H.out.grown G0.out)
  have HL := Lib.hid hl
  have hmf : ∀ (fn : Fn) (first cap : Array Value) (w : World), (Instr.makeFunc fn first cap).run Try.prog w = .ok (.func fn first cap) w := fun _ _ _ _ => rfl
  obtain ⟨D, hD⟩ : ∃ D, T.deg t x = D := ⟨_, rfl⟩
  rw [hD]
  have HD := Lib.hid hD
  clear h hx hD
  go_enter Try.func34, Try.ntmps34
  by_cases h0 : x < 0
  · have hd0 : D = 0 := by rw [← HD.out, T.deg_low h0]
    have hbt : decide (x < 0) = true := by simpa using h0
    go_wp2_with fail
    go_quiet (fail)
    go_wp2
    go_ret
    exact ⟨by rw [hd0]; rfl, G0.out⟩
  · have hbb : decide (x < 0) = false := by simpa using h0
    go_wp2_with fail
    go_region_held3 (fun W => W.cell? ⟨w.heap.size, 0, none⟩ = some (.int .i64 x)) (first | exact HB1.out | exact HB.out | go_keep) (first
      | (go_at_call 36; refine (last_any _ t _ (HA.out.grown (Gr.drew (Gr.refl _))) HL.out).mono ?_; rintro e w1 ⟨rfl, hg⟩; have G1 := Lib.hid hg; have hb1 := cell_gr hg HB.out; have HB1 := Lib.hid hb1; have HA1 := Lib.hid (HA.out.grown hg); clear hg))
    by_cases hc : lastZ' t ≤ x
    · have hd0 : D = 0 := by rw [← HD.out, T.deg_none (t := t) (x := x) (fun i hi => by have := ht i hi; omega)]
      go_wp2_with fail
      go_ret
      exact ⟨by rw [hd0]; rfl, Gr.trans G0.out G1.out⟩
    · have hn0 : 0 < t.length := by
        cases t with
        | nil => exact absurd (by simp [lastZ']; omega) hc
        | cons _ _ => simp
      obtain ⟨j, hj, hd⟩ := T.deg_some (t := t) (x := x) (by omega) hn0 (by have : ¬ lastZ' t ≤ x := hc; unfold lastZ' at this; omega)
      have hda : T.degA t x 0 = ((j + 1 : Nat) : Int) := by
        rw [← hd]
        unfold T.deg
        rw [if_neg (by omega)]
      have HDA := Lib.hid hda
      have hdj : D = ((j + 1 : Nat) : Int) := by rw [← HD.out, hd]
      clear hd hda
      go_wp2_with fail
      refine (index_any _ t x w.heap.size _ HA1.out HL.out HB1.out).mono ?_
      rw [HDA.out]
      rintro e w2 ⟨rfl, hg2⟩
      have G2 := Lib.hid (Gr.trans G0.out (Gr.trans G1.out hg2))
      clear hg2 HDA
      go_wp2_with fail
      go_ret
      exact ⟨congrArg Ending.returned (congrArg (Value.int .i64) (by omega)), G2.out⟩
/-- What the weight of k has more. -/
def robustP (N k : Nat) : Nat := (if k < T.peak N then 1048576 * T.root N / (N * k) else 0) + (if k = T.peak N then 1048576 * T.root N * T.digits 9 (T.root N) / N else 0)
theorem weight_parts (N k : Nat) : T.weight N k = idealP N k + robustP N k := by
  unfold T.weight idealP robustP
  omega
set_option maxHeartbeats 400000 in
theorem robust_any (N k : Nat) (w : World) (h1 : 1 ≤ N) (h2 : N ≤ 64) (k1 : 1 ≤ k) (k2 : k ≤ 64) :
    Calls Try.prog 39 #[.int .i64 N, .int .i64 (T.root N : Nat), .int .i64 k] w fun e w' => e = .returned (.int .i64 (robustP N k : Nat)) ∧ Gr w w' := by
  obtain ⟨q1, q2, q3, q4⟩ := T.root_ok N (by omega) h1
  have HP : Hid (T.peak N = N / T.root N) := Lib.hid rfl
  obtain ⟨d, hd⟩ : ∃ d, T.digits 9 (T.root N) = d := ⟨_, rfl⟩
  have hd4 : d ≤ 4 := by rw [← hd]; exact T.digits_le _ (by omega)
  have HLEN : Hid (∀ w, Calls Try.prog 47 #[.int .u64 (T.root N : Nat)] w fun e w' => e = .returned (.int .i64 (d : Nat)) ∧ Gr w w') := Lib.hid (fun w => by rw [← hd]; exact len_any _ w q2 q3)
  unfold robustP
  rw [hd]
  generalize T.root N = r at *
  obtain ⟨p, hp⟩ : ∃ p, N / r = p := ⟨_, rfl⟩
  have hpi : (N : Int) / r = p := by rw [← hp, Int.natCast_ediv]
  have hp64 : p ≤ 64 := by rw [← hp]; exact Nat.le_trans (Nat.div_le_self _ _) h2
  rw [HP.out, hp]
  clear hp HP hd q1 q4
  obtain ⟨R1, hR1⟩ : ∃ R1, 1048576 * r = R1 := ⟨_, rfl⟩
  have fR1 : (1048576 : Int) * r = R1 := by rw [← hR1, Int.natCast_mul]; rfl
  have bR1 : R1 ≤ 8388608 := by omega
  rw [hR1]
  clear hR1
  by_cases c1 : k < p
  · rw [if_pos c1, if_neg (by omega)]
    obtain ⟨Q, hQ⟩ : ∃ Q, N * k = Q := ⟨_, rfl⟩
    have fQ : (N : Int) * k = Q := by rw [← hQ, Int.natCast_mul]
    have bQ : Q ≤ 4096 := by rw [← hQ]; exact Nat.le_trans (Nat.mul_le_mul h2 (by omega : k ≤ 64)) (by omega)
    have fQ1 : 1 ≤ Q := by rw [← hQ]; exact Nat.mul_pos (by omega) (by omega)
    obtain ⟨a3, ha3⟩ : ∃ a3, R1 / Q = a3 := ⟨_, rfl⟩
    have fa3 : (R1 : Int) / Q = a3 := by rw [← ha3, Int.natCast_ediv]
    have ba3 : a3 ≤ 8388608 := by rw [← ha3]; exact Nat.le_trans (Nat.div_le_self _ _) bR1
    rw [hQ, ha3]
    clear hQ ha3
    go_enter Try.func39, Try.ntmps39
    go_wp2_with fail
    go_ret
    exact ⟨congrArg Ending.returned (congrArg (Value.int .i64) (by omega)), Gr.refl _⟩
  · rw [if_neg c1]
    by_cases c2 : k = p
    · rw [if_pos c2]
      obtain ⟨R2, hR2⟩ : ∃ R2, R1 * d = R2 := ⟨_, rfl⟩
      have fR2 : (R1 : Int) * d = R2 := by rw [← hR2, Int.natCast_mul]
      have bR2 : R2 ≤ 8388608 * 4 := by rw [← hR2]; exact Nat.mul_le_mul bR1 hd4
      obtain ⟨a4, ha4⟩ : ∃ a4, R2 / N = a4 := ⟨_, rfl⟩
      have fa4 : (R2 : Int) / N = a4 := by rw [← ha4, Int.natCast_ediv]
      have ba4 : a4 ≤ 8388608 * 4 := by rw [← ha4]; exact Nat.le_trans (Nat.div_le_self _ _) bR2
      rw [hR2, ha4]
      clear hR2 ha4
      have hkp : ((k : Int) == p) = true := by simp; omega
      clear c2
      go_enter Try.func39, Try.ntmps39
      go_wp2_with (first | (go_at_call 47; refine (HLEN.out _).mono ?_; rintro e w1 ⟨rfl, hg1⟩; have G1 := Lib.hid hg1; clear hg1))
      go_ret
      exact ⟨congrArg Ending.returned (congrArg (Value.int .i64) (by omega)), G1.out⟩
    · rw [if_neg c2]
      have hkp : ((k : Int) == p) = false := by simp; omega
      clear c2
      go_enter Try.func39, Try.ntmps39
      go_wp2_with fail
      go_ret
      exact ⟨rfl, Gr.refl _⟩
end Go.Proofs.Ytcahbbbccnhgnaa
