/-
  The document's own degrees: the degree of a number, what is drawn, the table.
-/
import Derived.Test.YtkmnhcegaagokaaZp
import Derived.Test.YtkmnhcegaagokaaTb
import Derived.Deep.AppendLies
import Derived.Deep.DeepCutAuto
namespace Go.Proofs.Ytkmnhcegaagokaa
open Go.RowKit

set_option maxHeartbeats 400000 in
theorem refDegree_any (v : Value) (t : List Int) (x : Int) (w : World) (h : Zs w v t) (hl : t.length ≤ 1000) :
    Calls Try.prog 13 #[v, .int .i64 x] w fun e w' => e = .returned (.int .i64 (T.deg t x)) ∧ Gr w w' := by
  by_cases hx : x < 0
  · rw [T.deg_low hx]
    obtain ⟨oa, c, rfl⟩ := h.form
    clear h
    generalize t.length = n at *
    go_enter Try.func13, Try.ntmps13
    go_wp2
    go_loopw [5] (fun i wr => i = .int .i64 0 ∧ wr = w) (fun _ _ => 0)
    case atStart => exact ⟨rfl, rfl⟩
    case round =>
      obtain ⟨rfl, rfl⟩ := hrel
      by_cases h0 : 0 < n
      · go_wp2
        go_ret
        exact ⟨rfl, Gr.refl _⟩
      · go_wp2
        go_ret
        exact ⟨rfl, Gr.refl _⟩
  · have h5 := h
    obtain ⟨_, oa, c, rfl, h1, h2, h3, h4⟩ := h
    obtain ⟨n, hn⟩ : ∃ n, t.length = n := ⟨_, rfl⟩
    rw [hn] at h1 h4 hl ⊢
    have HN := Lib.hid hn
    have HC := Lib.hid h4
    have HO : Hid (oa = none → n = 0) := Lib.hid (fun e => by have := h3 e; omega)
    clear h3 h4 h5 hn
    go_enter Try.func13, Try.ntmps13
    go_wp2
    go_loopw [5] (fun i wr => wr = w ∧ ∃ k : Nat, k ≤ n ∧ i = .int .i64 k ∧ ∀ j, j < k → t.getD j 0 ≤ x) (fun i _ => n - (intOf i).toNat)
    case atStart => exact ⟨rfl, 0, by omega, rfl, by omega⟩
    case round =>
      obtain ⟨rfl, k, hk, rfl, hs⟩ := hrel
      have HS := Lib.hid hs
      clear hs
      by_cases hlt : k < n
      · obtain ⟨a, rfl⟩ : ∃ a, oa = some a := by
          cases oa with
          | none => exact absurd (HO.out rfl) (by omega)
          | some a => exact ⟨a, rfl⟩
        have q := HC.out a rfl k hlt
        obtain ⟨y, hy⟩ : ∃ y, t.getD k 0 = y := ⟨_, rfl⟩
        rw [hy] at q
        have HY := Lib.hid hy
        clear hy
        by_cases hxy : x < y
        · go_wp2
          go_ret
          exact ⟨by rw [T.deg_at (by omega) (by rw [HN.out]; exact hlt) HS.out (by rw [HY.out]; exact hxy)]; rfl, Gr.refl _⟩
        · go_wp2
          refine ⟨⟨trivial, k + 1, by omega, by go_num, fun j hj => ?_⟩, by simp [intOf]; omega⟩
          by_cases e : j = k
          · rw [e, HY.out]; omega
          · exact HS.out j (by omega)
      · obtain rfl : k = n := by omega
        go_wp2
        go_ret
        exact ⟨by rw [T.deg_none (fun i hi => HS.out i (by rw [HN.out] at hi; exact hi))]; rfl, Gr.refl _⟩
/-- The document's own Draw lies nowhere in a slice of ints. -/
theorem Zs.kept {w w' : World} {v : Value} {l : List Int} {g s : Nat} (h : Zs w v l) (hr : RAt w g s) (hk : Kp (fun k => k = g) w w') : Zs w' v l := by
  obtain ⟨h0, oa, c, h1, h2, h3, h4, h5⟩ := h
  have key : ∀ (ad : Addr) (z : Int), w.cell? ad = some (.int .i64 z) → ad.block ≠ g := by
    rintro ⟨b, o, sp⟩ z q e
    have e' : b = g := e
    subst e'
    have hsp : sp = none := by simpa using World.cell?_spot q
    subst hsp
    unfold RAt at hr
    rw [cell_of_row w _ o _ _ _ hr] at q
    cases o with
    | zero => simp at q
    | succ o => simp at q
  exact ⟨h0, oa, c, h1, h2, h3, h4, fun a ha i hi => hk.cell (h5 a ha i hi) (key _ _ (h5 a ha i hi))⟩
def lastZ' (t : List Int) : Int := t.getD (t.length - 1) 0
def drawV (t : List Int) (s : Nat) : Int := if t = [] then 0 else T.deg t (belowV s (lastZ' t))
def drawS (t : List Int) (s : Nat) : Nat := if t = [] then s else belowS s (lastZ' t)
set_option maxHeartbeats 400000 in
theorem refDrawDegree_any (v : Value) (t : List Int) (g s : Nat) (w : World) (h : Zs w v t) (hl : t.length ≤ 1000) (hr : RAt w g s) :
    Calls Try.prog 16 #[v, .pointer (some ⟨g, 0, none⟩)] w fun e w' => e = .returned (.int .i64 (drawV t s)) ∧ RAt w' g (drawS t s) ∧ Kp (fun k => k = g) w w' := by
  by_cases h0 : 0 < t.length
  · have hne : t ≠ [] := List.length_pos_iff.1 h0
    have e1 : drawV t s = T.deg t (belowV s (lastZ' t)) := if_neg hne
    have e2 : drawS t s = belowS s (lastZ' t) := if_neg hne
    rw [e1, e2]
    have HZ := Lib.hid h
    have HR := Lib.hid hr
    obtain ⟨a, c, rfl, h1, h2, h3⟩ := Zs.at h h0
    have q := h3 (t.length - 1) (by omega)
    have hrng := h.rng (t.length - 1) (by omega)
    have HLL := Lib.hid hl
    rw [show t.getD (t.length - 1) 0 = lastZ' t from rfl] at q hrng
    generalize lastZ' t = y at *
    obtain ⟨n, hn⟩ : ∃ n, t.length = n := ⟨_, rfl⟩
    rw [hn] at HZ q h1 h0 hl ⊢
    clear h hr h3 hne e1 e2 hn
    obtain ⟨m, rfl⟩ : ∃ m, n = m + 1 := ⟨n - 1, by omega⟩
    rw [Nat.add_sub_cancel] at q
    have hb : (((m + 1 : Nat) : Int) == 0) = false := by simp; omega
    unfold I64 at hrng
    go_enter Try.func16, Try.ntmps16
    go_wp2_with fail
    refine (refBelow_any g s y _ HR.out (by omega)).mono ?_
    rintro e w1 ⟨rfl, hr1, hk1⟩
    have HR1 := Lib.hid hr1
    have HK1 := Lib.hid hk1
    have HZ1 := Lib.hid (HZ.out.kept HR.out hk1)
    clear hr1 hk1
    go_wp2_with fail
    refine (refDegree_any _ t _ _ HZ1.out HLL.out).mono ?_
    rintro e w2 ⟨rfl, hg2⟩
    have HR2 := Lib.hid (HR1.out.kept (hg2.kp fun _ => False) (fun e => e))
    have HK2 := Lib.hid (HK1.out.trans (hg2.kp (fun k => k = g)) fun k e => .inl e)
    clear hg2
    go_wp2
    go_ret
    exact ⟨rfl, HR2.out, HK2.out⟩
  · obtain rfl : t = [] := List.eq_nil_of_length_eq_zero (by omega)
    obtain ⟨oa, c, rfl⟩ := h.form
    have HR := Lib.hid hr
    clear h hr
    rw [show drawV [] s = 0 from if_pos rfl, show drawS [] s = s from if_pos rfl]
    go_enter Try.func16, Try.ntmps16
    go_wp2
    go_ret
    exact ⟨rfl, HR.out, Kp.refl _ _⟩
theorem owns_zs {base n : Nat} {w : World} {v : Value} {l : List Int} (ho : w.ownsRow base 3 1 v n (l.map (Value.int .i64))) (hl : l.length = n) (hr : ∀ x ∈ l, I64 x) : Zs w v l := by
  obtain ⟨h0, ⟨rfl, rfl⟩ | ⟨g, c, cur, rfl, hb, hg, h1, h2, h3, h4⟩⟩ := ho
  · obtain rfl : l = [] := List.eq_nil_of_length_eq_zero hl
    exact Zs.nil w
  · unfold maxLen at h2
    refine ⟨hr, some ⟨g, 0, none⟩, c, by rw [hl], by omega, h2, (fun h => by cases h), fun a ha i hi => ?_⟩
    cases ha
    rw [Addr.add_mid, Nat.zero_add, cell_of_row w g i _ _ _ hg]
    have hi2 : i < cur.toList.length := by simp; omega
    have e : (cur.toList.take (n * 1))[i]? = some (.int .i64 (l.getD i 0)) := by
      rw [h4, List.getElem?_map, List.getElem?_eq_getElem hi, List.getD_eq_getElem?_getD, List.getElem?_eq_getElem hi]
      rfl
    rw [List.getElem?_take_of_lt (by omega)] at e
    simpa using e
/-- The first j numbers of the table as values. -/
def tabV (N j : Nat) : List Int := (List.range j).map fun i => ((T.sum N (i + 1) : Nat) : Int)
theorem tabV_succ (N j : Nat) : tabV N (j + 1) = tabV N j ++ [((T.sum N j : Nat) : Int) + (T.weight N (j + 1) : Nat)] := by
  unfold tabV
  rw [List.range_succ, List.map_append]
  rfl
set_option maxRecDepth 100000 in
set_option maxHeartbeats 1600000 in
theorem refTable_in (N : Nat) (w : World) (h1 : 1 ≤ N) (h2 : N ≤ 64) :
    Calls Try.prog 9 #[.int .i64 N] w fun e w' => ∃ v, e = .returned v ∧ Zs w' v (T.tabZ N) ∧ Gr w w' := by
  obtain ⟨i0, hi0, hz0, hz1, hz2⟩ := info_parts infoZ
  have I0 := Lib.hid hi0
  have I1 := Lib.hid hz0
  have I2 := Lib.hid hz1
  have I3 := Lib.hid hz2
  clear hi0 hz0 hz1 hz2
  go_enter Try.func9, Try.ntmps9
  go_wp2
  go_loopw [4] (fun i wr => w = wr ∧ ∃ r : Nat, r ≤ 8 ∧ i = .int .i64 r ∧ ∀ j, j < r → j * j < N) (fun i _ => 8 - (intOf i).toNat)
  case atStart => exact ⟨rfl, 0, by omega, rfl, by omega⟩
  case round =>
    obtain ⟨rfl, r, hr, rfl, hs⟩ := hrel
    have HS := Lib.hid hs
    obtain ⟨q, hq⟩ : ∃ q, r * r = q := ⟨_, rfl⟩
    have hq2 : (r : Int) * r = q := by rw [← hq, Int.natCast_mul]
    have hq3 : q ≤ 64 := by rw [← hq]; exact Nat.mul_le_mul hr hr
    have HQ := Lib.hid hq
    clear hs hq
    by_cases hlt : q < N
    · go_wp2
      refine ⟨⟨trivial, r + 1, ?_, by go_num, fun j hj => ?_⟩, ?_⟩
      · apply Classical.byContradiction
        intro c
        have : r = 8 := by omega
        rw [this] at HQ
        have := HQ.out
        omega
      · by_cases e : j = r
        · rw [e, HQ.out]; exact hlt
        · exact HS.out j (by omega)
      · have : r ≠ 8 := fun c => by
          rw [c] at HQ
          have := HQ.out
          omega
        simp [intOf]
        omega
    · have hroot := T.root_eq h1 h2 (by rw [HQ.out]; omega) HS.out
      obtain ⟨q1, q2, q3, q4⟩ := T.root_ok N (by omega) h1
      rw [← hroot] at q1 q2 q3
      have HROOT := Lib.hid hroot
      clear hroot q4
      obtain ⟨p, hp⟩ : ∃ p, N / r = p := ⟨_, rfl⟩
      have hpi : (N : Int) / r = p := by rw [← hp, Int.natCast_ediv]
      have hp64 : p ≤ 64 := by rw [← hp]; exact Nat.le_trans (Nat.div_le_self _ _) h2
      have HPK : Hid (T.peak N = p) := Lib.hid (by unfold T.peak; rw [← HROOT.out, hp])
      clear hp HQ HS q1
      go_wp2
      clear hq2 hq3 hlt
      go_loopw [6, 7] (fun bv xv W => w = W ∧ ∃ j : Nat, j ≤ 4 ∧ bv = .int .i64 j ∧ xv = .int .i64 ((r / 2 ^ j : Nat) : Int) ∧ ∀ i, i < j → r / 2 ^ i ≠ 0) (fun bv _ _ => 4 - (intOf bv).toNat)
      case atStart => exact ⟨rfl, 0, by omega, rfl, by rw [Nat.pow_zero, Nat.div_one], by omega⟩
      case round =>
        obtain ⟨rfl, j, hj, rfl, rfl, hs⟩ := hrel
        have HS := Lib.hid hs
        obtain ⟨y, hy⟩ : ∃ y, r / 2 ^ j = y := ⟨_, rfl⟩
        have hy8 : y ≤ 8 := by rw [← hy]; exact Nat.le_trans (Nat.div_le_self _ _) q3
        rw [hy]
        have HY := Lib.hid hy
        clear hs hy
        by_cases hy0 : 0 < y
        · have hj4 := T.half_ok r (by omega) j (by omega) (by rw [HY.out]; omega)
          have hnx : r / 2 ^ (j + 1) = y / 2 := by rw [Nat.pow_succ, ← Nat.div_div_eq_div_mul, HY.out]
          have HNX := Lib.hid hnx
          clear hnx
          go_wp2
          refine ⟨⟨trivial, j + 1, by omega, by go_num, ?_, fun i hi => ?_⟩, by simp [intOf]; omega⟩
          · rw [HNX.out]
            exact congrArg (Value.int .i64) (by omega)
          · by_cases e : i = j
            · rw [e, HY.out]; omega
            · exact HS.out i (by omega)
        · have HDG : Hid (T.digits 9 r = j) := Lib.hid (T.digits_ok (by omega) q2 (by omega) (by rw [HY.out]; omega) HS.out)
          obtain rfl : y = 0 := by omega
          rw [show ((0 : Nat) : Int) = 0 from rfl]
          clear HS HY hy8 hy0
          go_wp2
          go_loopw [8, 9, 10] (fun ov sv kv W => ∃ n : Nat, n ≤ N ∧ kv = .int .i64 ((n + 1 : Nat) : Int) ∧ sv = .int .i64 ((T.sum N n : Nat) : Int) ∧ W.ownsRow w.heap.size 3 1 ov n ((tabV N n).map (Value.int .i64)) ∧ Gr w W) (fun _ _ kv _ => N + 1 - (intOf kv).toNat)
          case atStart => exact ⟨0, by omega, rfl, rfl, World.ownsRow_nil _ _ _ _, Gr.refl _⟩
          case round =>
            obtain ⟨wo, hwo⟩ : ∃ x, x = wr := ⟨_, rfl⟩
            subst hwo
            obtain ⟨n, hn, rfl, rfl, ho, hg⟩ := hrel
            have HO := Lib.hid ho
            have HG := Lib.hid hg
            obtain ⟨oo, co, rfl⟩ := ownsRow_form'' ho
            clear ho hg
            obtain ⟨k, hk⟩ : ∃ k, n + 1 = k := ⟨_, rfl⟩
            rw [hk]
            have hsle := T.sum_le h1 h2 hn
            obtain ⟨s, hs⟩ : ∃ s, T.sum N n = s := ⟨_, rfl⟩
            rw [hs] at hsle ⊢
            have HSS := Lib.hid hs
            clear hs
            by_cases hlt2 : n < N
            · have hkN : k ≤ N := by omega
              have hk1 : 1 ≤ k := by omega
              have HK := Lib.hid hk
              have hk2 : k * (k - 1) ≤ 4032 := Nat.le_trans (Nat.mul_le_mul (by omega : k ≤ 64) (by omega : k - 1 ≤ 63)) (by omega)
              obtain ⟨P, hP⟩ : ∃ P, k * (k - 1) = P := ⟨_, rfl⟩
              have fP : (k : Int) * ((k : Int) - 1) = P := by
                rw [← hP, Int.natCast_mul]
                congr 1
                omega
              have fP1 : 1 < k → 1 ≤ P := fun c => by rw [← hP]; exact Nat.mul_pos (by omega) (by omega)
              rw [hP] at hk2
              obtain ⟨a1, ha1⟩ : ∃ a1, 1048576 / N = a1 := ⟨_, rfl⟩
              have fa1 : (1048576 : Int) / N = a1 := by rw [← ha1, Int.natCast_ediv]; rfl
              have ba1 : a1 ≤ 1048576 := by rw [← ha1]; exact Nat.div_le_self _ _
              obtain ⟨a2, ha2⟩ : ∃ a2, 1048576 / P = a2 := ⟨_, rfl⟩
              have fa2 : (1048576 : Int) / P = a2 := by rw [← ha2, Int.natCast_ediv]; rfl
              have ba2 : a2 ≤ 1048576 := by rw [← ha2]; exact Nat.div_le_self _ _
              obtain ⟨Q, hQ⟩ : ∃ Q, N * k = Q := ⟨_, rfl⟩
              have fQ : (N : Int) * k = Q := by rw [← hQ, Int.natCast_mul]
              have bQ : Q ≤ 4096 := by rw [← hQ]; exact Nat.le_trans (Nat.mul_le_mul h2 (by omega : k ≤ 64)) (by omega)
              have fQ1 : 1 ≤ Q := by rw [← hQ]; exact Nat.mul_pos (by omega) (by omega)
              obtain ⟨R1, hR1⟩ : ∃ R1, 1048576 * r = R1 := ⟨_, rfl⟩
              have fR1 : (1048576 : Int) * r = R1 := by rw [← hR1, Int.natCast_mul]; rfl
              have bR1 : R1 ≤ 8388608 := by omega
              obtain ⟨a3, ha3⟩ : ∃ a3, R1 / Q = a3 := ⟨_, rfl⟩
              have fa3 : (R1 : Int) / Q = a3 := by rw [← ha3, Int.natCast_ediv]
              have ba3 : a3 ≤ 8388608 := by rw [← ha3]; exact Nat.le_trans (Nat.div_le_self _ _) bR1
              obtain ⟨R2, hR2⟩ : ∃ R2, R1 * j = R2 := ⟨_, rfl⟩
              have fR2 : (R1 : Int) * j = R2 := by rw [← hR2, Int.natCast_mul]
              have bR2 : R2 ≤ 8388608 * 4 := by rw [← hR2]; exact Nat.mul_le_mul bR1 hj
              obtain ⟨a4, ha4⟩ : ∃ a4, R2 / N = a4 := ⟨_, rfl⟩
              have fa4 : (R2 : Int) / N = a4 := by rw [← ha4, Int.natCast_ediv]
              have ba4 : a4 ≤ 8388608 * 4 := by rw [← ha4]; exact Nat.le_trans (Nat.div_le_self _ _) bR2
              have HWT : Hid (T.weight N k = (if 1 < k then a2 else a1) + (if k < p then a3 else 0) + (if k = p then a4 else 0)) := Lib.hid (by
                unfold T.weight
                rw [HPK.out, ← HROOT.out, HDG.out, hP, ha2, ha1, hR1, hQ, ha3, hR2, ha4])
              clear hP ha1 ha2 hQ hR1 ha3 hR2 ha4
              obtain ⟨A1, hA1⟩ : ∃ A1, (if 1 < k then a2 else a1) = A1 := ⟨_, rfl⟩
              have bA1 : A1 ≤ 1048576 := by rw [← hA1]; split <;> assumption
              obtain ⟨A2, hA2⟩ : ∃ A2, A1 + (if k < p then a3 else 0) = A2 := ⟨_, rfl⟩
              have bA2 : A2 ≤ 1048576 + 8388608 := by rw [← hA2]; split <;> omega
              obtain ⟨A3, hA3⟩ : ∃ A3, A2 + (if k = p then a4 else 0) = A3 := ⟨_, rfl⟩
              have bA3 : A3 ≤ 1048576 + 8388608 + 8388608 * 4 := by rw [← hA3]; split <;> omega
              rw [hA1, hA2, hA3] at HWT
              have HA1 := Lib.hid hA1
              have HA2 := Lib.hid hA2
              have HA3 := Lib.hid hA3
              clear hA1 hA2 hA3
              go_upto_if 44 with fail
              go_cut [11] (fun sx wx => sx = .int .i64 (A1 : Nat) ∧ wo = wx)
              case first =>
                by_cases hk3 : 1 < k
                · have hP1 := fP1 hk3
                  have hA : A1 = a2 := by rw [← HA1.out, if_pos hk3]
                  go_wp2_with fail
                  go_meet
                  exact ⟨congrArg (Value.int .i64) (by omega), rfl⟩
                · have hA : A1 = a1 := by rw [← HA1.out, if_neg hk3]
                  go_wp2_with fail
                  go_meet
                  exact ⟨congrArg (Value.int .i64) (by omega), rfl⟩
              case rest =>
                obtain ⟨rfl, rfl⟩ := hcut
                go_upto_if 53 with fail
                go_cut [11] (fun sx wx => sx = .int .i64 (A2 : Nat) ∧ wo = wx)
                case first =>
                  by_cases hk3 : k < p
                  · have hA : (A2 : Int) = A1 + a3 := by rw [← HA2.out, if_pos hk3]; omega
                    go_wp2_with fail
                    go_meet
                    exact ⟨congrArg (Value.int .i64) (by omega), rfl⟩
                  · have hA : A2 = A1 := by rw [← HA2.out, if_neg hk3]; omega
                    go_wp2_with fail
                    go_meet
                    exact ⟨congrArg (Value.int .i64) (by omega), rfl⟩
                case rest =>
                  obtain ⟨rfl, rfl⟩ := hcut
                  go_upto_if 65 with fail
                  go_cut [11] (fun sx wx => sx = .int .i64 (A3 : Nat) ∧ wo = wx)
                  case first =>
                    by_cases hk3 : k = p
                    · have hA : (A3 : Int) = A2 + a4 := by rw [← HA3.out, if_pos hk3]; omega
                      have hkp : ((k : Int) == p) = true := by simp; omega
                      clear hk3
                      go_wp2_with fail
                      go_meet
                      exact ⟨congrArg (Value.int .i64) (by omega), rfl⟩
                    · have hA : A3 = A2 := by rw [← HA3.out, if_neg hk3]; omega
                      have hkp : ((k : Int) == p) = false := by simp; omega
                      clear hk3
                      go_wp2_with fail
                      go_meet
                      exact ⟨congrArg (Value.int .i64) (by omega), rfl⟩
                  case rest =>
                    obtain ⟨rfl, rfl⟩ := hcut
                    clear HA1 HA2 HA3
                    go_wp2_with (first
                      | (at_builtin; refine wpList_append_lies _ rfl _ _ _ rfl w.heap.size 3 i0 _ 1 8 Try.underlying24 I0.out I1.out I2.out I3.out rfl (by omega) (.slice oo n co) n _ rfl (HO.out.alloc _)
                          ⟨wo.heap.size, 0, none⟩ 1 1 [.int .i64 ((s : Int) + A3)] rfl rfl (World.news_of_block (cs := #[.int .i64 ((s : Int) + A3)]) (t := 3) (fr := (0, 0)) (heap_alloc_new wo _)) (by simp [Value.oneCell'])
                          (by omega) (by unfold maxLen; omega) (by omega) (by have := HG.out.size; simp; omega) (wo.heap.size + 1) (by simp) ?_; intro gg cap w2 hown2 hgrow2 hat2 hlt2; have HO2 := Lib.hid hown2; have HG2 := Lib.hid hgrow2; clear hown2 hgrow2 hat2 hlt2))
                    refine ⟨⟨n + 1, by omega, ?_, ?_, ?_, ?_⟩, by simp [intOf]; omega⟩
                    · rw [HK.out]; go_num
                    · show Value.int .i64 _ = Value.int .i64 ((T.sum N n + T.weight N (n + 1) : Nat) : Int)
                      rw [HSS.out, HK.out, HWT.out]
                      exact congrArg (Value.int .i64) (by omega)
                    · rw [tabV_succ, List.map_append, HSS.out, HK.out, HWT.out]
                      have h9 := HO2.out
                      rw [HK.out] at h9
                      exact h9
                    · exact Gr.append (Gr.alloc HG.out _ _) HG2.out (fun g hg => by
                        obtain ⟨_, ⟨he, _⟩ | ⟨g', c', cur, he, hb, _⟩⟩ := HO.out
                        · rw [he] at hg
                          cases hg
                        · rw [he] at hg
                          cases hg
                          exact hb)
            · obtain rfl : n = N := by omega
              go_wp2
              go_ret
              exact ⟨_, rfl, owns_zs (l := tabV n n) HO.out (by simp [tabV]) (fun x hx => by
                obtain ⟨i, hi, rfl⟩ := List.mem_map.1 hx
                have := T.sum_le h1 h2 (i := i + 1) (by have := List.mem_range.1 hi; omega)
                unfold I64
                omega), HG.out⟩
end Go.Proofs.Ytkmnhcegaagokaa
