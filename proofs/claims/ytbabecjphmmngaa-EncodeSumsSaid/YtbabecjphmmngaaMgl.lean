/-
  Texts laid behind one another: Sd Se Lt Ys Mh.
-/
import Derived.Test.YtbabecjphmmngaaMgb
import Derived.Test.YtbabecjphmmngaaMgk
import Derived.Deep.CutBlock
import Derived.Lib.BitFns
import Derived.Test.YtbabecjphmmngaaMgg
import Derived.Test.YtbabecjphmmngaaMgi
import Derived.Test.YtbabecjphmmngaaMgh
import Derived.Test.YtbabecjphmmngaaMgj
import Derived.Lib.SliceRun
namespace Go.Proofs.Ytbabecjphmmngaa
open Go.RowKit

set_option maxHeartbeats 400000 in
theorem last_any (v : Value) (t : List Int) (w : World) (h : Zs w v t) (hl : t.length ≤ 1000) :
    Calls Try.prog 71 #[v] w fun e w' => e = .returned (.int .i64 (lastZ' t)) ∧ Gr w w' := by
  by_cases h0 : 0 < t.length
  · obtain ⟨a, c, rfl, h1, h2, h3⟩ := Zs.at h h0
    have q := h3 (t.length - 1) (by omega)
    have hrng := h.rng (t.length - 1) (by omega)
    rw [show t.getD (t.length - 1) 0 = lastZ' t from rfl] at q hrng
    generalize lastZ' t = y at *
    obtain ⟨n, hn⟩ : ∃ n, t.length = n := ⟨_, rfl⟩
    rw [hn] at q h1 h0 hl ⊢
    clear h h3 hn
    obtain ⟨m, rfl⟩ : ∃ m, n = m + 1 := ⟨n - 1, by omega⟩
    rw [Nat.add_sub_cancel] at q
    have hb : (((m + 1 : Nat) : Int) == 0) = false := by simp; omega
    go_enter Try.func71, Try.ntmps71
    go_wp2
    go_ret
    exact ⟨rfl, Gr.refl _⟩
  · obtain rfl : t = [] := List.eq_nil_of_length_eq_zero (by omega)
    obtain ⟨oa, c, rfl⟩ := h.form
    clear h
    rw [show lastZ' [] = 0 from rfl]
    go_enter Try.func71, Try.ntmps71
    go_wp2
    go_ret
    exact ⟨rfl, Gr.refl _⟩
set_option maxHeartbeats 400000 in
theorem rootUp_any (N : Nat) (w : World) (h1 : 1 ≤ N) (h2 : N ≤ 64) :
    Calls Try.prog 72 #[.int .i64 N] w fun e w' => e = .returned (.int .i64 (T.root N : Nat)) ∧ Gr w w' := by
  obtain ⟨R, hR⟩ : ∃ R, T.root N = R := ⟨_, rfl⟩
  rw [hR]
  have HR := Lib.hid hR
  clear hR
  go_enter Try.func72, Try.ntmps72
  go_wp2
  go_loopw [3] (fun i wr => w = wr ∧ ∃ r : Nat, r ≤ 8 ∧ 1 ≤ r ∧ i = .int .i64 r ∧ ∀ j, j < r → j * j < N) (fun i _ => 8 - (intOf i).toNat)
  case atStart => exact ⟨rfl, 1, by omega, by omega, rfl, fun j hj => by
    have hj0 : j = 0 := by omega
    rw [hj0]
    omega⟩
  case round =>
    obtain ⟨rfl, r, hr, hr1, rfl, hs⟩ := hrel
    have HS := Lib.hid hs
    obtain ⟨q, hq⟩ : ∃ q, r * r = q := ⟨_, rfl⟩
    have hq2 : (r : Int) * r = q := by rw [← hq, Int.natCast_mul]
    have hq3 : q ≤ 64 := by rw [← hq]; exact Nat.mul_le_mul hr hr
    have HQ := Lib.hid hq
    clear hs hq
    by_cases hlt : q < N
    · have h8 : r ≠ 8 := fun c => by
        rw [c] at HQ
        have := HQ.out
        omega
      go_wp2
      refine ⟨⟨trivial, r + 1, by omega, by omega, by go_num, fun j hj => ?_⟩, ?_⟩
      · by_cases e : j = r
        · rw [e, HQ.out]; exact hlt
        · exact HS.out j (by omega)
      · simp [intOf]
        omega
    · have hroot := T.root_eq h1 h2 (by rw [HQ.out]; omega) HS.out
      rw [HR.out] at hroot
      subst hroot
      go_wp2
      go_ret
      exact ⟨rfl, Gr.refl _⟩
/-- What the weight of k begins with. -/
def idealP (N k : Nat) : Nat := if 1 < k then 1048576 / (k * (k - 1)) else 1048576 / N
set_option maxHeartbeats 400000 in
theorem ideal_any (N k : Nat) (w : World) (h1 : 1 ≤ N) (h2 : N ≤ 64) (k1 : 1 ≤ k) (k2 : k ≤ 64) :
    Calls Try.prog 73 #[.int .i64 N, .int .i64 k] w fun e w' => e = .returned (.int .i64 (idealP N k : Nat)) ∧ Gr w w' := by
  by_cases c : 1 < k
  · have e1 : idealP N k = 1048576 / (k * (k - 1)) := if_pos c
    rw [e1]
    have hk2 : k * (k - 1) ≤ 4032 := Nat.le_trans (Nat.mul_le_mul (by omega : k ≤ 64) (by omega : k - 1 ≤ 63)) (by omega)
    obtain ⟨P, hP⟩ : ∃ P, k * (k - 1) = P := ⟨_, rfl⟩
    have fP : (k : Int) * ((k : Int) - 1) = P := by
      rw [← hP, Int.natCast_mul]
      congr 1
      omega
    have fP1 : 1 ≤ P := by rw [← hP]; exact Nat.mul_pos (by omega) (by omega)
    rw [hP] at hk2 ⊢
    obtain ⟨a2, ha2⟩ : ∃ a2, 1048576 / P = a2 := ⟨_, rfl⟩
    have fa2 : (1048576 : Int) / P = a2 := by rw [← ha2, Int.natCast_ediv]; rfl
    have ba2 : a2 ≤ 1048576 := by rw [← ha2]; exact Nat.div_le_self _ _
    rw [ha2]
    clear hP ha2 e1
    have hb : ((k : Int) == 1) = false := by simp; omega
    go_enter Try.func73, Try.ntmps73
    go_wp2
    go_ret
    exact ⟨by rw [← fa2]; rfl, Gr.refl _⟩
  · obtain rfl : k = 1 := by omega
    rw [show idealP N 1 = 1048576 / N from rfl]
    obtain ⟨a2, ha2⟩ : ∃ a2, 1048576 / N = a2 := ⟨_, rfl⟩
    have fa2 : (1048576 : Int) / N = a2 := by rw [← ha2, Int.natCast_ediv]; rfl
    have ba2 : a2 ≤ 1048576 := by rw [← ha2]; exact Nat.div_le_self _ _
    rw [ha2]
    clear ha2
    go_enter Try.func73, Try.ntmps73
    go_wp2
    go_ret
    exact ⟨by rw [← fa2]; rfl, Gr.refl _⟩
theorem digits_len : ∀ r, r < 9 → Lib.len8 ((r : Nat) : Int) = (T.digits 9 r : Nat) := by decide +kernel
set_option maxRecDepth 100000 in
set_option maxHeartbeats 800000 in
theorem len_any (r : Nat) (w : World) (h1 : 1 ≤ r) (h2 : r ≤ 8) :
    Calls Try.prog 80 #[.int .u64 r] w fun e w' => e = .returned (.int .i64 (T.digits 9 r : Nat)) ∧ Gr w w' := by
  have key : ∀ (x : Int) w, x = r → Calls Try.prog 83 #[.int .u64 x] w fun e w' => e = .returned (.int .i64 (Lib.len8 x)) ∧ Gr w w' := by
    intro x w hx
    have hb := T.digits_le r (by omega)
    have hl : 0 ≤ Lib.len8 x ∧ Lib.len8 x ≤ 4 := by rw [hx, digits_len r (by omega)]; omega
    have hx1 : 1 ≤ x := by omega
    have hx2 : x ≤ 8 := by omega
    clear hb hx h1 h2
    have hsz : x.toNat < Lib.len8tab.size := by rw [Lib.len8tab_size]; omega
    have e : ((Lib.len8tab[x.toNat]'hsz).toNat : Int) = Lib.len8 x := by
      unfold Lib.len8
      rw [getElem?_pos Lib.len8tab x.toNat hsz]
      rfl
    have E := Lib.hid e
    clear e
    go_enter Try.func83, Try.ntmps83
    go_wp2
    go_ret
    refine ⟨congrArg Ending.returned (congrArg (Value.int IntKind.i64) ?_), Gr.refl _⟩
    rw [E.out]
    unfold wrap64
    omega
  rw [← digits_len r (by omega)]
  go_enter Try.func80, Try.ntmps80
  go_wp2_with fail
  refine (key _ _ rfl).mono ?_
  rintro e w' ⟨rfl, hg⟩
  have G := Lib.hid hg
  clear hg
  go_wp2
  go_ret
  exact ⟨rfl, G.out⟩
set_option maxHeartbeats 400000 in
theorem index_any (v : Value) (t : List Int) (x : Int) (B : Nat) (w : World) (h : Zs w v t) (hl : t.length ≤ 1000) (hB : w.cell? ⟨B, 0, none⟩ = some (.int .i64 x)) :
    Calls Try.prog 78 #[v, .func (.func 79) #[] #[.pointer (some ⟨B, 0, none⟩)]] w fun e w' => e = .returned (.int .i64 (T.degA t x 0 - 1)) ∧ Gr w w' := by
  obtain ⟨_, oa, c, rfl, h1, h2, h3, h4⟩ := h
  obtain ⟨n, hn⟩ : ∃ n, t.length = n := ⟨_, rfl⟩
  rw [hn] at h1 h4 hl ⊢
  have HN := Lib.hid hn
  have HC := Lib.hid h4
  have HO : Hid (oa = none → n = 0) := Lib.hid (fun e => by have := h3 e; omega)
  clear h3 h4 hn
  go_enter Try.func78, Try.ntmps78
  go_wp2
  go_loopw [8] (fun i wr => wr = w ∧ ∃ k : Nat, k ≤ n ∧ i = .int .i64 k ∧ ∀ j, j < k → t.getD j 0 ≤ x) (fun i _ => n - (intOf i).toNat)
  case atStart => exact ⟨rfl, 0, by omega, rfl, by omega⟩
  case round =>
    obtain ⟨rfl, k, hk, rfl, hs⟩ := hrel
    have HS := Lib.hid hs
    clear hs
    by_cases hlt : k < n
    · obtain ⟨a, rfl⟩ : ∃ a, oa = some a := by
        cases oa with
        | none => exact absurd (HO.out rfl) (by omega)
        | some a => exact ⟨a, rfl⟩
      have q := HC.out a rfl k hlt
      obtain ⟨y, hy⟩ : ∃ y, t.getD k 0 = y := ⟨_, rfl⟩
      rw [hy] at q
      have HY := Lib.hid hy
      clear hy
      by_cases hxy : x < y
      · go_wp2_with (first | go_in)
        go_ret
        exact ⟨by rw [T.degA_at t x 0 k (by rw [HN.out]; exact hlt) HS.out (by rw [HY.out]; exact hxy)]; simp, Gr.refl _⟩
      · go_wp2_with (first | go_in)
        refine ⟨⟨trivial, k + 1, by omega, by go_num, fun j hj => ?_⟩, by simp [intOf]; omega⟩
        by_cases e : j = k
        · rw [e, HY.out]; omega
        · exact HS.out j (by omega)
    · obtain rfl : k = n := by omega
      go_wp2
      go_ret
      exact ⟨by rw [T.degA_none t x 0 (fun i hi => HS.out i (by rw [HN.out] at hi; exact hi))]; rfl, Gr.refl _⟩
/-- The numbers of t are none above the last one. -/
def Top (t : List Int) : Prop := ∀ i, i < t.length → t.getD i 0 ≤ lastZ' t
theorem tab_top (l : Int) : Top (T.tab l) ∧ (T.tab l).length ≤ 64 := by
  by_cases hin : 1 ≤ l ∧ l ≤ 64
  · obtain ⟨N, rfl⟩ : ∃ N : Nat, l = N := ⟨l.toNat, by omega⟩
    rw [T.tab_in (by omega) (by omega)]
    refine ⟨fun i hi => ?_, by rw [T.tabZ_length]; omega⟩
    rw [T.tabZ_length] at hi
    unfold lastZ'
    rw [T.tabZ_length, T.tabZ_at hi, T.tabZ_at (by omega)]
    by_cases e : i = N - 1
    · rw [e]; omega
    · have := T.sum_lt (l := N) (by omega) (by omega) (N - 1 + 1) (i + 1) (by omega) (by omega)
      omega
  · rw [T.tab_out hin]
    exact ⟨fun i hi => absurd hi (by simp), by simp⟩
set_option maxHeartbeats 400000 in
theorem degree_any (v : Value) (t : List Int) (x : Int) (w : World) (h : Zs w v t) (ht : Top t) (hl : t.length ≤ 1000) (hx : I64 x) :
    Calls Try.prog 69 #[v, .int .i64 x] w fun e w' => e = .returned (.int .i64 (T.deg t x)) ∧ Gr w w' := by
  have H := Lib.hid h
  have HX := Lib.hid hx
  have HB : Hid ((w.alloc (.cells #[.int .i64 x] 3)).cell? ⟨w.heap.size, 0, none⟩ = some (.int .i64 x)) := Lib.hid (by rw [World.cell?_alloc_at _ _ _ _ rfl]; rfl)
  have G0 : Hid (Gr w (w.alloc (.cells #[.int .i64 x] 3))) := Lib.hid (Gr.alloc (Gr.refl _) _ _)
  have hb := HB.out
  have HA := Lib.hid (H.out.grown G0.out)
  have HL := Lib.hid hl
  have hmf : ∀ (fn : Fn) (first cap : Array Value) (w : World), (Instr.makeFunc fn first cap).run Try.prog w = .ok (.func fn first cap) w := fun _ _ _ _ => rfl
  obtain ⟨D, hD⟩ : ∃ D, T.deg t x = D := ⟨_, rfl⟩
  rw [hD]
  have HD := Lib.hid hD
  clear h hx hD
  go_enter Try.func69, Try.ntmps69
  by_cases h0 : x < 0
  · have hd0 : D = 0 := by rw [← HD.out, T.deg_low h0]
    have hbt : decide (x < 0) = true := by simpa using h0
    go_wp2_with fail
    go_quiet (fail)
    go_wp2
    go_ret
    exact ⟨by rw [hd0]; rfl, G0.out⟩
  · have hbb : decide (x < 0) = false := by simpa using h0
    go_wp2_with fail
    go_region_held3 (fun W => W.cell? ⟨w.heap.size, 0, none⟩ = some (.int .i64 x)) (first | exact HB1.out | exact HB.out | go_keep) (first
      | (go_at_call 71; refine (last_any _ t _ (HA.out.grown (Gr.drew (Gr.refl _))) HL.out).mono ?_; rintro e w1 ⟨rfl, hg⟩; have G1 := Lib.hid hg; have hb1 := cell_gr hg HB.out; have HB1 := Lib.hid hb1; have HA1 := Lib.hid (HA.out.grown hg); clear hg))
    by_cases hc : lastZ' t ≤ x
    · have hd0 : D = 0 := by rw [← HD.out, T.deg_none (t := t) (x := x) (fun i hi => by have := ht i hi; omega)]
      go_wp2_with fail
      go_ret
      exact ⟨by rw [hd0]; rfl, Gr.trans G0.out G1.out⟩
    · have hn0 : 0 < t.length := by
        cases t with
        | nil => exact absurd (by simp [lastZ']; omega) hc
        | cons _ _ => simp
      obtain ⟨j, hj, hd⟩ := T.deg_some (t := t) (x := x) (by omega) hn0 (by have : ¬ lastZ' t ≤ x := hc; unfold lastZ' at this; omega)
      have hda : T.degA t x 0 = ((j + 1 : Nat) : Int) := by
        rw [← hd]
        unfold T.deg
        rw [if_neg (by omega)]
      have HDA := Lib.hid hda
      have hdj : D = ((j + 1 : Nat) : Int) := by rw [← HD.out, hd]
      clear hd hda
      go_wp2_with fail
      refine (index_any _ t x w.heap.size _ HA1.out HL.out HB1.out).mono ?_
      rw [HDA.out]
      rintro e w2 ⟨rfl, hg2⟩
      have G2 := Lib.hid (Gr.trans G0.out (Gr.trans G1.out hg2))
      clear hg2 HDA
      go_wp2_with fail
      go_ret
      exact ⟨congrArg Ending.returned (congrArg (Value.int .i64) (by omega)), G2.out⟩
/-- What the weight of k has more. -/
def robustP (N k : Nat) : Nat := (if k < T.peak N then 1048576 * T.root N / (N * k) else 0) + (if k = T.peak N then 1048576 * T.root N * T.digits 9 (T.root N) / N else 0)
theorem weight_parts (N k : Nat) : T.weight N k = idealP N k + robustP N k := by
  unfold T.weight idealP robustP
  omega
set_option maxHeartbeats 400000 in
theorem robust_any (N k : Nat) (w : World) (h1 : 1 ≤ N) (h2 : N ≤ 64) (k1 : 1 ≤ k) (k2 : k ≤ 64) :
    Calls Try.prog 74 #[.int .i64 N, .int .i64 (T.root N : Nat), .int .i64 k] w fun e w' => e = .returned (.int .i64 (robustP N k : Nat)) ∧ Gr w w' := by
  obtain ⟨q1, q2, q3, q4⟩ := T.root_ok N (by omega) h1
  have HP : Hid (T.peak N = N / T.root N) := Lib.hid rfl
  obtain ⟨d, hd⟩ : ∃ d, T.digits 9 (T.root N) = d := ⟨_, rfl⟩
  have hd4 : d ≤ 4 := by rw [← hd]; exact T.digits_le _ (by omega)
  have HLEN : Hid (∀ w, Calls Try.prog 80 #[.int .u64 (T.root N : Nat)] w fun e w' => e = .returned (.int .i64 (d : Nat)) ∧ Gr w w') := Lib.hid (fun w => by rw [← hd]; exact len_any _ w q2 q3)
  unfold robustP
  rw [hd]
  generalize T.root N = r at *
  obtain ⟨p, hp⟩ : ∃ p, N / r = p := ⟨_, rfl⟩
  have hpi : (N : Int) / r = p := by rw [← hp, Int.natCast_ediv]
  have hp64 : p ≤ 64 := by rw [← hp]; exact Nat.le_trans (Nat.div_le_self _ _) h2
  rw [HP.out, hp]
  clear hp HP hd q1 q4
  obtain ⟨R1, hR1⟩ : ∃ R1, 1048576 * r = R1 := ⟨_, rfl⟩
  have fR1 : (1048576 : Int) * r = R1 := by rw [← hR1, Int.natCast_mul]; rfl
  have bR1 : R1 ≤ 8388608 := by omega
  rw [hR1]
  clear hR1
  by_cases c1 : k < p
  · rw [if_pos c1, if_neg (by omega)]
    obtain ⟨Q, hQ⟩ : ∃ Q, N * k = Q := ⟨_, rfl⟩
    have fQ : (N : Int) * k = Q := by rw [← hQ, Int.natCast_mul]
    have bQ : Q ≤ 4096 := by rw [← hQ]; exact Nat.le_trans (Nat.mul_le_mul h2 (by omega : k ≤ 64)) (by omega)
    have fQ1 : 1 ≤ Q := by rw [← hQ]; exact Nat.mul_pos (by omega) (by omega)
    obtain ⟨a3, ha3⟩ : ∃ a3, R1 / Q = a3 := ⟨_, rfl⟩
    have fa3 : (R1 : Int) / Q = a3 := by rw [← ha3, Int.natCast_ediv]
    have ba3 : a3 ≤ 8388608 := by rw [← ha3]; exact Nat.le_trans (Nat.div_le_self _ _) bR1
    rw [hQ, ha3]
    clear hQ ha3
    go_enter Try.func74, Try.ntmps74
    go_wp2_with fail
    go_ret
    exact ⟨congrArg Ending.returned (congrArg (Value.int .i64) (by omega)), Gr.refl _⟩
  · rw [if_neg c1]
    by_cases c2 : k = p
    · rw [if_pos c2]
      obtain ⟨R2, hR2⟩ : ∃ R2, R1 * d = R2 := ⟨_, rfl⟩
      have fR2 : (R1 : Int) * d = R2 := by rw [← hR2, Int.natCast_mul]
      have bR2 : R2 ≤ 8388608 * 4 := by rw [← hR2]; exact Nat.mul_le_mul bR1 hd4
      obtain ⟨a4, ha4⟩ : ∃ a4, R2 / N = a4 := ⟨_, rfl⟩
      have fa4 : (R2 : Int) / N = a4 := by rw [← ha4, Int.natCast_ediv]
      have ba4 : a4 ≤ 8388608 * 4 := by rw [← ha4]; exact Nat.le_trans (Nat.div_le_self _ _) bR2
      rw [hR2, ha4]
      clear hR2 ha4
      have hkp : ((k : Int) == p) = true := by simp; omega
      clear c2
      go_enter Try.func74, Try.ntmps74
      go_wp2_with (first | (go_at_call 80; refine (HLEN.out _).mono ?_; rintro e w1 ⟨rfl, hg1⟩; have G1 := Lib.hid hg1; clear hg1))
      go_ret
      exact ⟨congrArg Ending.returned (congrArg (Value.int .i64) (by omega)), G1.out⟩
    · rw [if_neg c2]
      have hkp : ((k : Int) == p) = false := by simp; omega
      clear c2
      go_enter Try.func74, Try.ntmps74
      go_wp2_with fail
      go_ret
      exact ⟨rfl, Gr.refl _⟩
end Go.Proofs.Ytbabecjphmmngaa
namespace Go.Proofs.Ytbabecjphmmngaa
open Go.RowKit

set_option maxHeartbeats 800000 in
theorem draw_deg {At : World → Value → (Nat → Prop) → Nat → Prop} (D : DrawOk At) (v d : Value) (t : List Int) (F : Nat → Prop) (s : Nat) (w : World) (hs : s < 18446744073709551616) (h : Zs w v t) (ht : Top t) (hl : t.length ≤ 1000) (ha : AwayZ F v) (hd : At w d F s) :
    Calls Try.prog 54 #[v, d] w fun e w' => e = .returned (.int .i64 (drawV t s)) ∧ At w' d F (drawS t s) ∧ Kp F w w' := by
  by_cases h0 : t = []
  · subst h0
    obtain ⟨oa, c, rfl⟩ := h.form
    have HD := Lib.hid hd
    clear h hd ht ha
    rw [show drawV [] s = 0 from if_pos rfl, show drawS [] s = s from if_pos rfl]
    go_enter Try.func54, Try.ntmps54
    go_wp2
    go_ret
    exact ⟨rfl, HD.out, Kp.refl _ _⟩
  · have e1 : drawV t s = T.deg t (belowV s (lastZ' t)) := if_neg h0
    have e2 : drawS t s = belowS s (lastZ' t) := if_neg h0
    rw [e1, e2]
    have hn0 : 0 < t.length := List.length_pos_iff.2 h0
    have hrng := h.rng (t.length - 1) (by omega)
    rw [show t.getD (t.length - 1) 0 = lastZ' t from rfl] at hrng
    obtain ⟨oa, c, rfl⟩ := h.form
    have hbz : (((t.length : Nat) : Int) == 0) = false := by simp; exact h0
    obtain ⟨ad, rfl⟩ := D.ptr hd
    have HZ := Lib.hid h
    have HD := Lib.hid hd
    have HL0 := Lib.hid hl
    obtain ⟨y, hy⟩ : ∃ y, lastZ' t = y := ⟨_, rfl⟩
    have HAW := Lib.hid ha
    have HT := Lib.hid ht
    have HOK := Lib.hid D
    have HBV : Hid (I64 (belowV s (lastZ' t))) := Lib.hid (by
      have hr : I64 (lastZ' t) := hrng
      unfold I64 at *
      unfold belowV
      split
      · omega
      · rename_i hp
        have a1 := Int.emod_nonneg ((topS (nextS s) : Nat) : Int) (by omega : lastZ' t ≠ 0)
        have a2 := Int.emod_lt_of_pos ((topS (nextS s) : Nat) : Int) (by omega : 0 < lastZ' t)
        omega)
    rw [hy] at hrng HBV ⊢
    have HY := Lib.hid hy
    unfold I64 at hrng
    clear h hd ha ht hl D e1 e2 h0 hy
    generalize hn : t.length = n at *
    have HL1 : Hid (t.length ≤ 1000) := Lib.hid (by rw [hn]; exact HL0.out)
    clear hn HL0
    go_enter Try.func54, Try.ntmps54
    go_wp2_with fail
    refine (last_any _ t _ HZ.out HL1.out).mono ?_
    rw [HY.out]
    rintro e w1 ⟨rfl, hg1⟩
    have HD1 := Lib.hid (HOK.out.keep HD.out (hg1.kp fun _ => False) fun _ _ e => e)
    have HZ1 := Lib.hid (HZ.out.grown hg1)
    have G1 := Lib.hid hg1
    clear hg1
    go_wp2_with fail
    refine (HOK.out.below _ F s y _ hs hrng.2 hrng.1 HD1.out).mono ?_
    rintro e w2 ⟨rfl, hd2, hk2⟩
    have HD2 := Lib.hid hd2
    have HK2 := Lib.hid (((G1.out.kp F)).trans hk2 fun k e => .inl e)
    have HZ2 := Lib.hid (HZ1.out.kp hk2 HAW.out)
    clear hd2 hk2
    go_wp2_with fail
    refine (degree_any _ t _ _ HZ2.out HT.out HL1.out HBV.out).mono ?_
    rintro e w3 ⟨rfl, hg3⟩
    have HD3 := Lib.hid (HOK.out.keep HD2.out (hg3.kp fun _ => False) fun _ _ e => e)
    have HK3 := Lib.hid (HK2.out.trans (hg3.kp F) fun k e => .inl e)
    clear hg3
    go_wp2
    go_ret
    exact ⟨rfl, HD3.out, HK3.out⟩
/-- The first i numbers, and noughts behind. -/
def partT (N i : Nat) : List Int := tabV N i ++ List.replicate (N - i) 0
theorem partT_zero (N : Nat) : partT N 0 = List.replicate N 0 := by simp [partT, tabV]
theorem partT_all (N : Nat) : partT N N = T.tabZ N := by simp [partT, tabV, T.tabZ]
theorem partT_length {N i : Nat} (h : i ≤ N) : (partT N i).length = N := by
  simp [partT, tabV]
  omega
theorem partT_set {N i : Nat} (h : i < N) : (partT N i).set i ((T.sum N (i + 1) : Nat) : Int) = partT N (i + 1) := by
  unfold partT
  have hl : (tabV N i).length = i := by simp [tabV]
  rw [List.set_append, if_neg (by omega), hl, Nat.sub_self]
  obtain ⟨m, hm⟩ : ∃ m, N - i = m + 1 := ⟨N - i - 1, by omega⟩
  rw [hm, List.replicate_succ, List.set_cons_zero, tabV_succ, show N - (i + 1) = m from by omega, List.append_assoc]
  simp [T.sum]
theorem Blz.set {w : World} {g : Nat} {L : List Int} (h : Blz w g L) (i : Nat) (x : Int) : Blz (w.setCell ⟨g, i, none⟩ (.int .i64 x)) g (L.set i x) := by
  unfold Blz at *
  rw [heap_setCell_same _ _ _ _ _ _ h, rowZ_set]
theorem Blz.frozen {w : World} {g : Nat} {L : List Int} (h : Blz w g L) (i : Nat) : w.frozen? ⟨g, i, none⟩ = false := frozen_of_row w g i _ _ h
set_option maxRecDepth 100000 in
set_option maxHeartbeats 1600000 in
theorem table_in (N : Nat) (w : World) (h1 : 1 ≤ N) (h2 : N ≤ 64) :
    Calls Try.prog 55 #[.int .i64 N] w fun e w' => ∃ v, e = .returned v ∧ Zs w' v (T.tabZ N) ∧ Gr w w' := by
  have hmk := makeZ N N (by omega) (by omega)
  go_enter Try.func55, Try.ntmps55
  go_wp2_with fail
  refine (rootUp_any N _ h1 h2).mono ?_
  rintro e w1 ⟨rfl, hg1⟩
  have G1 := Lib.hid hg1
  clear hg1
  go_wp2_with fail
  obtain ⟨g, hg⟩ : ∃ g, w1.heap.size = g := ⟨_, rfl⟩
  have hgl : w.heap.size ≤ g := by have := G1.out.size; omega
  have B0 : Hid (Blz (w1.alloc (.cells (rowZ (List.replicate N 0)) 3)) g (partT N 0)) := Lib.hid (by
    rw [partT_zero, ← hg]
    exact heap_alloc_new _ _)
  have G2 : Hid (Gr w (w1.alloc (.cells (rowZ (List.replicate N 0)) 3))) := Lib.hid (Gr.alloc G1.out _ _)
  rw [hg]
  generalize w1.alloc (.cells (rowZ (List.replicate N 0)) 3) = w2 at *
  clear hmk hg G1
  go_loopw [5, 19] (fun sv iv W => ∃ i : Nat, i ≤ N ∧ iv = .int .i64 i ∧ sv = .int .i64 ((T.sum N i : Nat) : Int) ∧ Blz W g (partT N i) ∧ Gr w W) (fun _ iv _ => N - (intOf iv).toNat)
  case atStart => exact ⟨0, by omega, rfl, rfl, B0.out, G2.out⟩
  case round =>
    obtain ⟨i, hi, rfl, rfl, hb, hgr⟩ := hrel
    have HB := Lib.hid hb
    have HG := Lib.hid hgr
    clear hb hgr
    have hsle := T.sum_le h1 h2 hi
    by_cases hlt : i < N
    · have hsle2 := T.sum_le h1 h2 (i := i + 1) (by omega)
      have hsw : T.sum N (i + 1) = T.sum N i + (idealP N (i + 1) + robustP N (i + 1)) := by rw [← weight_parts]; rfl
      have HST := Lib.hid (partT_set hlt)
      have HID : Hid (∀ w, Calls Try.prog 73 #[.int .i64 N, .int .i64 ((i : Int) + 1)] w fun e w' => e = .returned (.int .i64 (idealP N (i + 1) : Nat)) ∧ Gr w w') := Lib.hid (fun w => ideal_any N (i + 1) w h1 h2 (by omega) (by omega))
      have HRO : Hid (∀ w, Calls Try.prog 74 #[.int .i64 N, .int .i64 (T.root N : Nat), .int .i64 ((i : Int) + 1)] w fun e w' => e = .returned (.int .i64 (robustP N (i + 1) : Nat)) ∧ Gr w w') := Lib.hid (fun w => robust_any N (i + 1) w h1 h2 (by omega) (by omega))
      rw [hsw] at HST
      obtain ⟨s2, hs2⟩ : ∃ s2, T.sum N i + (idealP N (i + 1) + robustP N (i + 1)) = s2 := ⟨_, rfl⟩
      rw [hs2] at HST hsw
      rw [hsw] at hsle2
      have HS2 := Lib.hid hsw
      clear hsw
      generalize idealP N (i + 1) = x1 at *
      generalize robustP N (i + 1) = x2 at *
      generalize T.sum N i = s1 at *
      have fs : (s1 : Int) + ((x1 : Int) + x2) = s2 := by omega
      go_wp2_with fail
      refine (HID.out _).mono ?_
      rintro e w3 ⟨rfl, hg3⟩
      have HB3 := Lib.hid (HB.out.grown hg3)
      have HG3 := Lib.hid (HG.out.trans hg3)
      clear hg3
      go_wp2_with fail
      refine (HRO.out _).mono ?_
      rintro e w4 ⟨rfl, hg4⟩
      have HB4 := Lib.hid (HB3.out.grown hg4)
      have HG4 := Lib.hid (HG3.out.trans hg4)
      clear hg4
      have q := HB4.out.cell i (by rw [partT_length hi]; exact hlt)
      have qf := HB4.out.frozen i
      generalize (partT N i).getD i 0 = old at *
      clear hs2
      go_wp2
      refine ⟨⟨i + 1, by omega, by go_num, by rw [HS2.out], ?_, ?_⟩, by simp [intOf]; omega⟩
      · have h9 := HB4.out.set i (s2 : Int)
        rw [HST.out] at h9
        first | exact h9 | (rw [← fs] at h9; exact h9)
      · exact HG4.out.setCell hgl _
    · obtain rfl : i = N := by omega
      go_wp2
      go_ret
      have hz := HB.out
      rw [partT_all] at hz
      have := Blz.zs hz (T.tabZ i) i (by omega) (by rw [T.tabZ_length]; omega) (by omega) (fun x hx => by
        have := tabZ_rng h1 h2 x hx
        unfold I64
        omega) (fun _ _ => rfl)
      rw [T.tabZ_length] at this
      exact ⟨_, rfl, this, HG.out⟩
set_option maxHeartbeats 400000 in
theorem table_any (l : Int) (w : World) : Calls Try.prog 55 #[.int .i64 l] w fun e w' => ∃ v, e = .returned v ∧ Zs w' v (T.tab l) ∧ Gr w w' := by
  by_cases hin : 1 ≤ l ∧ l ≤ 64
  · obtain ⟨N, rfl⟩ : ∃ N : Nat, l = N := ⟨l.toNat, by omega⟩
    rw [T.tab_in (by omega) (by omega)]
    exact table_in N w (by omega) (by omega)
  · rw [T.tab_out hin]
    by_cases h1 : l < 1
    · go_enter Try.func55, Try.ntmps55
      go_wp2
      go_ret
      exact ⟨_, rfl, Zs.nil _, Gr.refl _⟩
    · have h2 : 64 < l := by omega
      go_enter Try.func55, Try.ntmps55
      go_wp2
      go_ret
      exact ⟨_, rfl, Zs.nil _, Gr.refl _⟩
/-- Package soliton as it was written keeps its contracts. -/
theorem sol_ok : SolOk DAt where
  table := fun l w _ => table_any l w
  degree := fun v l x w _ hx h => degree_any v _ x w h (tab_top l).1 (by have := (tab_top l).2; omega) hx
  draw := fun v d l F s w _ hs h ha hd => draw_deg draw_ok v d _ F s w hs h (tab_top l).1 (by have := (tab_top l).2; omega) ha hd
end Go.Proofs.Ytbabecjphmmngaa
namespace Go.Proofs.Ytbabecjphmmngaa
open Go.RowKit

theorem OwnZ.low {base base' : Nat} {w : World} {v : Value} {l : List Int} (h : OwnZ base' w v l) (hb : base ≤ base') : OwnZ base w v l := by
  obtain ⟨h0, h | ⟨g, c, C, h1, h2, h3⟩⟩ := h
  · exact ⟨h0, .inl h⟩
  · exact ⟨h0, .inr ⟨g, c, C, h1, Nat.le_trans hb h2, h3⟩⟩
/-- Ints lie in no block of a Draw. -/
theorem DAt.away {w : World} {d v : Value} {F : Nat → Prop} {s : Nat} {l : List Int} (h : DAt w d F s) (hz : Zs w v l) : AwayZ F v := fun a m c hv hm hf => by
  obtain ⟨g, rfl, hb, rfl⟩ := h
  obtain ⟨_, oa, c', he, _, _, _, h5⟩ := hz
  rw [he] at hv
  obtain ⟨rfl, rfl, rfl⟩ : oa = some a ∧ l.length = m ∧ c' = c := by simpa using hv
  have h6 := h5 a rfl 0 hm
  have e : (a.add 0).block = g := by rw [add_blk]; exact hf
  unfold World.cell? at h6
  rw [e, show w.heap[g]? = _ from hb] at h6
  by_cases hs : (a.add 0).spot.isSome = true
  · simp [hs] at h6
  · simp only [hs] at h6
    generalize (a.add 0).off = k at h6
    match k with
    | 0 => simp at h6
    | k + 1 => simp at h6
set_option maxHeartbeats 400000 in
theorem may_lt (K H S id : Int) (w : World) :
    Calls Try.prog 37 #[par K H S, .int .i64 id] w fun e w' => e = .returned (.bool (decide (MayP K H S ∧ MayI id))) ∧ Gr w w' := by
  have HG0 : Hid (Gr w (w.alloc (.cells #[.int .i64 K, .int .i64 H, .int .i64 S] 25))) := Lib.hid (Gr.alloc (Gr.refl _) _ _)
  by_cases hp : MayP K H S
  · have hd := decide_eq_true hp
    rw [show decide (MayP K H S ∧ MayI id) = decide (0 ≤ id ∧ id ≤ 65535) from by rw [decide_eq_decide]; unfold MayI; simp [hp]]
    clear hp
    go_enter Try.func37, Try.ntmps37
    go_wp2_with fail
    refine (may_pre K H S _).mono ?_
    rw [hd]
    rintro e w1 ⟨rfl, hg1⟩
    have HG1 := Lib.hid (Gr.trans HG0.out hg1)
    clear hg1
    go_wp2
    all_goals
      go_ret
      refine ⟨?_, HG1.out⟩
      first
        | (rw [show decide (0 ≤ id) = false from decide_eq_false (by omega)]; rfl)
        | (rw [show decide (0 ≤ id ∧ id ≤ 65535) = decide (id ≤ 65535) from by rw [decide_eq_decide]; omega]; rfl)
  · have hd := decide_eq_false hp
    rw [show decide (MayP K H S ∧ MayI id) = false from decide_eq_false fun h => hp h.1]
    clear hp
    go_enter Try.func37, Try.ntmps37
    go_wp2_with fail
    refine (may_pre K H S _).mono ?_
    rw [hd]
    rintro e w1 ⟨rfl, hg1⟩
    have HG1 := Lib.hid (Gr.trans HG0.out hg1)
    clear hg1
    go_wp2_with fail
    go_ret
    exact ⟨rfl, HG1.out⟩
set_option maxHeartbeats 800000 in
theorem source_lt (seed id : Nat) (w : World) (hi : id ≤ 65535) (hs : seed < 4294967296) :
    Calls Try.prog 53 #[.int .u32 (seed : Int), .int .i64 (id : Int)] w fun e w' => ∃ g, e = .returned (.pointer (some ⟨g, 0, none⟩)) ∧ DBlk w' g (nextS (mixS seed id)) ∧ Gr w w' ∧ w.heap.size ≤ g := by
  obtain ⟨mx, hmx, hmx2⟩ : ∃ mx : Nat, mixS seed id = mx ∧ mx < 4294967296 := ⟨_, rfl, mixS_lt hs id⟩
  have hxo : bits BinOp.xor IntKind.u32 (seed : Int) ((id : Int) * 2654435761 % 4294967296) = (mx : Int) := by
    rw [show (id : Int) * 2654435761 % 4294967296 = ((id * 2654435761 % 4294967296 : Nat) : Int) from by omega, u32_xor_nat _ _ hs (Nat.mod_lt _ (by omega)), ← hmx]
    rfl
  rw [hmx]
  clear hmx
  go_enter Try.func53, Try.ntmps53
  go_wp2_with fail
  refine (new_dev mx _ hmx2).mono ?_
  rintro e w1 ⟨g, rfl, hb, hg1, hle⟩
  have HB := Lib.hid hb
  have HG1 := Lib.hid hg1
  have HL := Lib.hid hle
  clear hb hg1 hle
  go_wp2_with fail
  refine (next_dev g mx _ HB.out).mono ?_
  rintro e w2 ⟨rfl, hb2, hk2⟩
  have HB2 := Lib.hid hb2
  have HG2 : Hid (Gr w w2) := Lib.hid (hk2.gr HG1.out (fun k e => by subst e; exact HL.out))
  clear hb2 hk2
  go_wp2_with fail
  go_ret
  exact ⟨_, rfl, HB2.out, HG2.out, HL.out⟩
set_option maxRecDepth 100000 in
set_option maxHeartbeats 1600000 in
theorem cols_in (K H : Nat) (S : Int) (seed id : Nat) (w : World) (hm : MayP K H S) (hi : id ≤ 65535) (hs : seed < 4294967296) :
    Calls Try.prog 39 #[par K H S, .int .u32 (seed : Int), .int .i64 (id : Int)] w fun e w' => ∃ v, e = .returned v ∧ OwnZ w.heap.size w' v (atN (K + H) seed id) ∧ Gr w w' := by
  have hd : decide (MayP K H S ∧ MayI (id : Int)) = true := decide_eq_true ⟨hm, by unfold MayI; omega⟩
  have hm' := hm
  obtain ⟨b1, b2, b3, b4, _, _⟩ := hm'
  obtain ⟨N, hN⟩ : ∃ N, K + H = N := ⟨_, rfl⟩
  have hN20 : N ≤ 20 := by omega
  have HCO : Hid (colsP (K : Int) (H : Int) (S : Int) = N) := Lib.hid (by unfold colsP; rw [if_pos (by assumption)]; omega)
  have P0 : Hid (Par (w.alloc (.cells #[.int .i64 (K : Int), .int .i64 (H : Int), .int .i64 S] 25)) w.heap.size K H S) := Lib.hid (heap_alloc_new _ _)
  have HG0 : Hid (Gr w (w.alloc (.cells #[.int .i64 (K : Int), .int .i64 (H : Int), .int .i64 S] 25))) := Lib.hid (Gr.alloc (Gr.refl _) _ _)
  obtain ⟨s1, hs1⟩ : ∃ s, nextS (mixS seed id) = s := ⟨_, rfl⟩
  have HSB : Hid (s1 < 18446744073709551616) := Lib.hid (by rw [← hs1]; exact nextS_lt _)
  obtain ⟨kk, hkk⟩ : ∃ k, drawV (T.tab N) s1 = k := ⟨_, rfl⟩
  obtain ⟨s2, hs2⟩ : ∃ s, drawS (T.tab N) s1 = s := ⟨_, rfl⟩
  have HAT : Hid (atN (K + H) seed id = C.someZ s2 N kk) := Lib.hid (by unfold atN; rw [hN, hs1, hkk, hs2])
  have HKK : Hid (I64 kk) := Lib.hid (by
    rw [← hkk]
    have h1 := drawV_le (T.tab N) s1
    have h2 := tab_length_le' (N : Int)
    exact ⟨by omega, by omega⟩)
  have HDR : Hid (drawV (T.tab N) s1 = kk ∧ drawS (T.tab N) s1 = s2) := Lib.hid ⟨hkk, hs2⟩
  have HS2B : Hid (s2 < 18446744073709551616) := Lib.hid (by
    rw [← hs2]
    unfold drawS belowS
    have := HSB.out
    split
    · exact this
    · split
      · exact this
      · exact nextS_lt _)
  have HSR : Hid (∀ w : World, Calls Try.prog 53 #[.int .u32 (seed : Int), .int .i64 (id : Int)] w fun e w' => ∃ g, e = .returned (.pointer (some ⟨g, 0, none⟩)) ∧ DBlk w' g s1 ∧ Gr w w' ∧ w.heap.size ≤ g) := Lib.hid (fun w => by rw [← hs1]; exact source_lt seed id w hi hs)
  have HNN := Lib.hid hN
  clear hN hm hs1 hkk hs2
  go_enter Try.func39, Try.ntmps39
  go_wp2_with fail
  generalize w.alloc (.cells #[.int .i64 (K : Int), .int .i64 (H : Int), .int .i64 S] 25) = W0 at *
  generalize hgp : w.heap.size = gp at *
  refine (may_lt K H S id _).mono ?_
  rw [hd]
  rintro e w1 ⟨rfl, hg1⟩
  have P1 := Lib.hid (P0.out.grown hg1)
  have HG1 := Lib.hid (Gr.trans HG0.out hg1)
  clear hg1 P0 HG0
  go_wp2_with fail
  refine (HSR.out _).mono ?_
  rintro e w3 ⟨g, rfl, hb3, hg3, hl3⟩
  have HGB : Hid (w.heap.size ≤ g) := Lib.hid (Nat.le_trans HG1.out.size hl3)
  have D3 : Hid (DAt w3 (.pointer (some ⟨g, 0, none⟩)) (fun k => k = g) s1) := Lib.hid ⟨g, rfl, hb3, rfl⟩
  have HG3 := Lib.hid (Gr.trans HG1.out hg3)
  have P3 := Lib.hid (P1.out.grown hg3)
  have c0 := P3.out.cell0
  have c1 := P3.out.cell1
  have c2 := P3.out.cell2
  clear hb3 hg3 hl3 P1 HG1
  go_wp2_with fail
  refine (cols_pre K H S _).mono ?_
  rw [HCO.out]
  rintro e w4 ⟨rfl, hg4⟩
  have D4 := Lib.hid (draw_ok.keep D3.out (hg4.kp fun _ => False) fun _ _ e => e)
  have HG4 := Lib.hid (Gr.trans HG3.out hg4)
  clear hg4 P3 D3 HG3 c0 c1 c2
  go_wp2_with fail
  refine (sol_ok.table N _ ⟨by omega, by omega⟩).mono ?_
  rintro e w5 ⟨v5, rfl, hz5, hg5⟩
  have D5 := Lib.hid (draw_ok.keep D4.out (hg5.kp fun _ => False) fun _ _ e => e)
  have HG5 := Lib.hid (Gr.trans HG4.out hg5)
  have Z5 := Lib.hid hz5
  clear hg5 hz5 D4 HG4
  go_wp2_with fail
  refine (sol_ok.draw v5 _ N _ s1 _ ⟨by omega, by omega⟩ HSB.out Z5.out (DAt.away D5.out Z5.out) D5.out).mono ?_
  rw [HDR.out.1, HDR.out.2]
  rintro e w6 ⟨rfl, hd6, hk6⟩
  have D6 := Lib.hid hd6
  have HG6 : Hid (Gr w w6) := Lib.hid (hk6.gr HG5.out (fun k e => by subst e; exact HGB.out))
  clear hd6 hk6 D5 HG5 Z5
  go_wp2_with fail
  refine (choose_own s2 _ _ N kk _ ⟨by omega, by omega⟩ HKK.out HS2B.out D6.out).mono ?_
  rintro e w8 ⟨v8, rfl, hz8, _, hk8⟩
  have HG8 : Hid (Gr w w8) := Lib.hid (hk8.gr HG6.out (fun k e => by subst e; exact HGB.out))
  have Z8 : Hid (OwnZ w.heap.size w8 v8 (atN (K + H) seed id)) := Lib.hid (by
    rw [HAT.out]
    exact hz8.low HG6.out.size)
  clear hz8 hk8
  go_wp2_with fail
  go_ret
  exact ⟨_, rfl, by rw [← hgp]; exact Z8.out, HG8.out⟩
set_option maxRecDepth 100000 in
set_option maxHeartbeats 800000 in
theorem cols_ne (K H S : Int) (seed : Nat) (id : Int) (w : World) (hm : ¬ (MayP K H S ∧ MayI id)) :
    Calls Try.prog 39 #[par K H S, .int .u32 (seed : Int), .int .i64 id] w fun e w' => e = .returned (.slice none 0 0) ∧ Gr w w' := by
  have HG0 : Hid (Gr w (w.alloc (.cells #[.int .i64 K, .int .i64 H, .int .i64 S] 25))) := Lib.hid (Gr.alloc (Gr.refl _) _ _)
  have hd := decide_eq_false hm
  clear hm
  go_enter Try.func39, Try.ntmps39
  go_wp2_with fail
  refine (may_lt K H S id _).mono ?_
  rw [hd]
  rintro e w1 ⟨rfl, hg1⟩
  have HG1 := Lib.hid (Gr.trans HG0.out hg1)
  clear hg1
  go_wp2_with fail
  go_ret
  exact ⟨rfl, HG1.out⟩
theorem cols_lt (K H S : Int) (seed : Nat) (id : Int) (w : World) (hs : seed < 4294967296) :
    Calls Try.prog 39 #[par K H S, .int .u32 (seed : Int), .int .i64 id] w fun e w' => ∃ v, e = .returned v ∧ OwnZ w.heap.size w' v (atP K H S seed id) ∧ Gr w w' := by
  unfold atP
  by_cases hm : MayP K H S ∧ MayI id
  · rw [if_pos hm]
    obtain ⟨h1, h2⟩ := hm
    obtain ⟨k, hk⟩ : ∃ k : Nat, K = k := ⟨K.toNat, by have := h1.1; omega⟩
    obtain ⟨h, hh⟩ : ∃ h : Nat, H = h := ⟨H.toNat, by have := h1.2.2.1; omega⟩
    obtain ⟨i, hi⟩ : ∃ i : Nat, id = i := ⟨id.toNat, by have := h2.1; omega⟩
    subst hk hh hi
    rw [Int.toNat_natCast, Int.toNat_natCast, Int.toNat_natCast]
    exact cols_in k h S seed i w h1 (by have := h2.2; omega) hs
  · rw [if_neg hm]
    refine (cols_ne K H S seed id w hm).mono ?_
    rintro e w' ⟨rfl, hg⟩
    exact ⟨_, rfl, ⟨(fun x hx => by cases hx), .inl ⟨rfl, rfl⟩⟩, hg⟩
set_option maxRecDepth 100000 in
set_option maxHeartbeats 1600000 in
theorem row_in (K H : Nat) (S : Int) (seed id : Nat) (w : World) (hm : MayP K H S) (hi : id ≤ 65535) (hs : seed < 4294967296) :
    Calls Try.prog 19 #[par K H S, .int .u32 (seed : Int), .int .i64 (id : Int)] w fun e w' => ∃ v, e = .returned v ∧ New w w' v (onesL (K + H) (atN (K + H) seed id)) := by
  have hd : decide (MayP K H S ∧ MayI (id : Int)) = true := decide_eq_true ⟨hm, by unfold MayI; omega⟩
  obtain ⟨N, hN⟩ : ∃ N, K + H = N := ⟨_, rfl⟩
  have hm' := hm
  obtain ⟨b1, b2, b3, b4, _, _⟩ := hm'
  have hN20 : N ≤ 20 := by omega
  have HCO : Hid (colsP (K : Int) (H : Int) (S : Int) = N) := Lib.hid (by unfold colsP; rw [if_pos hm]; omega)
  have HAT := Lib.hid fun (W : World) => cols_in K H S seed id W hm hi hs
  have P0 : Hid (Par (w.alloc (.cells #[.int .i64 (K : Int), .int .i64 (H : Int), .int .i64 S] 25)) w.heap.size K H S) := Lib.hid (heap_alloc_new _ _)
  have HG0 : Hid (Gr w (w.alloc (.cells #[.int .i64 (K : Int), .int .i64 (H : Int), .int .i64 S] 25))) := Lib.hid (Gr.alloc (Gr.refl _) _ _)
  have hmk := make22 N N (by omega) (by omega)
  obtain ⟨cur, hcur⟩ : ∃ cur, cur = rowB (List.replicate N 0) := ⟨_, rfl⟩
  rw [← hcur] at hmk
  have HCU := Lib.hid hcur
  rw [hN] at HAT ⊢
  obtain ⟨A, hA⟩ : ∃ A, atN N seed id = A := ⟨_, rfl⟩
  have HAL : Hid (A.length ≤ 64) := Lib.hid (by rw [← hA]; exact someZ_len _ _ _)
  have HAR : Hid (∀ x ∈ A, 0 ≤ x ∧ x < N) := Lib.hid (by rw [← hA]; exact atN_rng N seed id)
  rw [hA] at HAT ⊢
  clear hcur hA hm hN
  go_enter Try.func19, Try.ntmps19
  go_wp2_with fail
  generalize w.alloc (.cells #[.int .i64 (K : Int), .int .i64 (H : Int), .int .i64 S] 25) = W0 at *
  generalize hgp : w.heap.size = gp at *
  refine (may_lt K H S id _).mono ?_
  rw [hd]
  rintro e w1 ⟨rfl, hg1⟩
  have P1 := Lib.hid (P0.out.grown hg1)
  have HG1 := Lib.hid (Gr.trans HG0.out hg1)
  clear hg1 P0 HG0
  have c0 := P1.out.cell0
  have c1 := P1.out.cell1
  have c2 := P1.out.cell2
  go_wp2_with fail
  refine (cols_pre K H S _).mono ?_
  rw [HCO.out]
  rintro e w4 ⟨rfl, hg4⟩
  have P4 := Lib.hid (P1.out.grown (Gr.trans hg4 (Gr.alloc (Gr.refl w4) cur 5)))
  have HG4 := Lib.hid (Gr.trans HG1.out hg4)
  clear hg4 P1 HG1 c0 c1 c2
  have B4 : Hid (Blk (w4.alloc (.cells cur 5)) w4.heap.size (onesL N [])) := Lib.hid (by rw [onesL_nil, HCU.out]; exact heap_alloc_new _ _)
  have HG5 : Hid (Gr w (w4.alloc (.cells cur 5))) := Lib.hid (Gr.alloc HG4.out _ _)
  have HGB : Hid (w.heap.size ≤ w4.heap.size) := Lib.hid HG4.out.size
  have c0 := P4.out.cell0
  have c1 := P4.out.cell1
  have c2 := P4.out.cell2
  go_wp2_with fail
  clear c0 c1 c2
  generalize w4.alloc (.cells cur 5) = W5 at *
  generalize w4.heap.size = gx at *
  refine (HAT.out W5).mono ?_
  rintro e w6 ⟨v6, rfl, ho6, hg6⟩
  have hz6 := ho6.zs
  clear ho6
  obtain ⟨m, hm⟩ : ∃ m, A.length = m := ⟨_, rfl⟩
  obtain ⟨hzi, oa, ca, rfl, z2, z3, z4, z5⟩ := hz6
  rw [hm] at z2 z5 ⊢
  have HZ5 := Lib.hid z5
  have HMM := Lib.hid hm
  have B6 := Lib.hid (B4.out.grown hg6)
  have HG6 := Lib.hid (Gr.trans HG5.out hg6)
  have hm64 : m ≤ 64 := by rw [← hm]; exact HAL.out
  clear hg6 hzi z5 hm B4 HG5 HG4
  go_wp2_with fail
  have HZC : Hid (∀ a, oa = some a → ∀ i, i < m → w6.cell? (a.add i) = some (.int .i64 (A.getD i 0))) := Lib.hid HZ5.out
  have HGX : Hid (w.heap.size ≤ gx) := Lib.hid HGB.out
  go_loopw [22] (fun i wr => ∃ t : Nat, t ≤ m ∧ i = .int .i64 t ∧ Blk wr gx (onesL N (A.take t)) ∧ Gr w wr ∧ ∀ a, oa = some a → ∀ i, i < m → wr.cell? (a.add i) = some (.int .i64 (A.getD i 0))) (fun i _ => m - (intOf i).toNat)
  case atStart => exact ⟨0, by omega, rfl, by rw [List.take_zero]; exact B6.out, HG6.out, HZC.out⟩
  case round =>
    clear B6 HG6 HZC
    obtain ⟨wo, hwo⟩ : ∃ x, x = wr := ⟨_, rfl⟩
    subst hwo
    obtain ⟨t, ht, rfl, hb, hg, hc⟩ := hrel
    by_cases hlt : t < m
    · obtain ⟨ad, rfl⟩ : ∃ a, oa = some a := by
        cases oa with
        | some a => exact ⟨a, rfl⟩
        | none => have := z4 rfl; omega
      have q1 := hc ad rfl t hlt
      have hmem : A.getD t 0 ∈ A := by
        have := HMM.out
        rw [List.getD_eq_getElem?_getD, List.getElem?_eq_getElem (by omega)]
        exact List.getElem_mem _
      have hrg := HAR.out _ hmem
      obtain ⟨q, hq⟩ : ∃ q : Nat, A.getD t 0 = q := ⟨(A.getD t 0).toNat, by omega⟩
      have hqN : q < N := by omega
      have hnx := onesL_next (L := A.take t) hqN
      have htk : A.take (t + 1) = A.take t ++ [(q : Int)] := by
        have := HMM.out
        rw [List.take_add_one, List.getElem?_eq_getElem (by omega), ← hq, List.getD_eq_getElem?_getD, List.getElem?_eq_getElem (by omega)]
        rfl
      have q8 := Blk.cell hb q (by rw [onesL_length]; exact hqN)
      have q9 := frozen_of_row wo gx q _ _ hb
      have HB' : Hid (Blk (wo.setCell ⟨gx, q, none⟩ (.int .u8 1)) gx (onesL N (A.take (t + 1)))) := Lib.hid (by
        unfold Blk
        rw [heap_setCell_same _ _ _ _ _ _ hb, rowB_set, hnx, htk])
      have HG' : Hid (Gr w (wo.setCell ⟨gx, q, none⟩ (.int .u8 1))) := Lib.hid (Gr.setCell hg HGX.out _)
      have HC' : Hid (∀ a, some ad = some a → ∀ i, i < m → (wo.setCell ⟨gx, q, none⟩ (.int .u8 1)).cell? (a.add i) = some (.int .i64 (A.getD i 0))) := Lib.hid (fun a ha i hi => by
        rw [World.cell?_setCell_other]
        · exact hc a ha i hi
        · intro e
          have h1 := hc a ha i hi
          rw [← e, q8] at h1
          simp at h1)
      rw [hq] at q1
      clear hb hg hc hmem hrg hnx htk hq
      generalize (onesL N (A.take t)).getD q 0 = old at *
      go_wp2_with fail
      exact ⟨⟨t + 1, by omega, by go_num, HB'.out, HG'.out, HC'.out⟩, by simp [intOf]; omega⟩
    · obtain rfl : t = m := by omega
      have hall : A.take t = A := List.take_of_length_le (by have := HMM.out; omega)
      rw [hall] at hb
      have HB' : Hid (New w wo (.slice (some ⟨gx, 0, none⟩) N N) (onesL N A)) := Lib.hid ⟨hg, onesL_byt N A, .inr ⟨gx, N, _, by rw [onesL_length], HGX.out, hb, by rw [onesL_length]; omega, by omega, fun i hi => rowB_get _ i hi⟩⟩
      clear hb hg hc hall
      go_wp2_with fail
      go_ret
      exact ⟨_, rfl, HB'.out⟩
set_option maxRecDepth 100000 in
set_option maxHeartbeats 800000 in
theorem row_ne (K H S : Int) (seed : Nat) (id : Int) (w : World) (hm : ¬ (MayP K H S ∧ MayI id)) :
    Calls Try.prog 19 #[par K H S, .int .u32 (seed : Int), .int .i64 id] w fun e w' => e = .returned (.slice none 0 0) ∧ Gr w w' := by
  have HG0 : Hid (Gr w (w.alloc (.cells #[.int .i64 K, .int .i64 H, .int .i64 S] 25))) := Lib.hid (Gr.alloc (Gr.refl _) _ _)
  have hd := decide_eq_false hm
  clear hm
  go_enter Try.func19, Try.ntmps19
  go_wp2_with fail
  refine (may_lt K H S id _).mono ?_
  rw [hd]
  rintro e w1 ⟨rfl, hg1⟩
  have HG1 := Lib.hid (Gr.trans HG0.out hg1)
  clear hg1
  go_wp2_with fail
  go_ret
  exact ⟨rfl, HG1.out⟩
theorem row_lt (K H S : Int) (seed : Nat) (id : Int) (w : World) (hs : seed < 4294967296) :
    Calls Try.prog 19 #[par K H S, .int .u32 (seed : Int), .int .i64 id] w fun e w' => ∃ v, e = .returned v ∧ New w w' v (rowP K H S seed id) := by
  unfold rowP
  by_cases hm : MayP K H S ∧ MayI id
  · rw [if_pos hm]
    obtain ⟨h1, h2⟩ := hm
    obtain ⟨k, hk⟩ : ∃ k : Nat, K = k := ⟨K.toNat, by have := h1.1; omega⟩
    obtain ⟨h, hh⟩ : ∃ h : Nat, H = h := ⟨H.toNat, by have := h1.2.2.1; omega⟩
    obtain ⟨i, hi⟩ : ∃ i : Nat, id = i := ⟨id.toNat, by have := h2.1; omega⟩
    subst hk hh hi
    rw [Int.toNat_natCast, Int.toNat_natCast, Int.toNat_natCast]
    exact row_in k h S seed i w h1 (by have := h2.2; omega) hs
  · rw [if_neg hm]
    refine (row_ne K H S seed id w hm).mono ?_
    rintro e w' ⟨rfl, hg⟩
    exact ⟨_, rfl, hg, by simp, .inl ⟨rfl, none, 0, rfl, fun _ => rfl, by omega⟩⟩
/-- Package lt as it was written keeps its contracts. -/
theorem lt_ok : LtOk where
  cols := fun K H S seed id w hs _ => cols_lt K H S seed id w hs
  row := fun K H S seed id w hs _ => row_lt K H S seed id w hs
end Go.Proofs.Ytbabecjphmmngaa
namespace Go.Proofs.Ytbabecjphmmngaa
open Go.RowKit

theorem rowP_len (K H S : Int) (seed : Nat) (x : Int) (hm : MayP K H S) : (MayI x → 0 < (rowP K H S seed x).length) ∧ (¬ MayI x → (rowP K H S seed x).length = 0) := by
  unfold rowP
  refine ⟨fun h => ?_, fun h => ?_⟩
  · rw [if_pos ⟨hm, h⟩, onesL_length]
    have := hm.1
    omega
  · rw [if_neg fun q => h q.2]
    rfl
theorem New.formL {w w' : World} {v : Value} {l : List Int} (h : New w w' v l) : ∃ o m c, v = .slice o m c ∧ m = l.length := by
  obtain ⟨o, c, e⟩ := (New.bs h).form
  exact ⟨o, _, c, e, rfl⟩
set_option maxRecDepth 100000 in
set_option maxHeartbeats 1600000 in
theorem sysMatrix_in (K H : Nat) (S : Int) (seed : Nat) (v : Value) (l : List Int) (w : World) (hm : MayP K H S) (hs : seed < 4294967296) (hz : Zs w v l) (hl : l.length ≤ 900) :
    Calls Try.prog 24 #[par K H S, .int .u32 (seed : Int), v] w fun e w' => ∃ u, e = .returned u ∧ Bss w' u (matP K H S seed l) ∧ Gr w w' := by
  have hd := decide_eq_true hm
  have HM := Lib.hid hm
  have HAH := Lib.hid fun W : World => rows_pre K H S W
  obtain ⟨n, hn⟩ : ∃ n, l.length = n := ⟨_, rfl⟩
  obtain ⟨hzi, oa, ca, rfl, z2, z3, z4, z5⟩ := hz
  rw [hn] at z2 z5 hl ⊢
  have HI := Lib.hid hzi
  have HC := Lib.hid z5
  have HN := Lib.hid hn
  have hoa : n = 0 ∨ ∃ a, oa = some a := by
    cases oa with
    | none => exact .inl (by have := z4 rfl; omega)
    | some a => exact .inr ⟨a, rfl⟩
  have P0 : Hid (Par (w.alloc (.cells #[.int .i64 (K : Int), .int .i64 (H : Int), .int .i64 S] 25)) w.heap.size K H S) := Lib.hid (heap_alloc_new _ _)
  have HG0 : Hid (Gr w (w.alloc (.cells #[.int .i64 (K : Int), .int .i64 (H : Int), .int .i64 S] 25))) := Lib.hid (Gr.alloc (Gr.refl _) _ _)
  clear hzi z5 hn z4 z2 z3 hm
  go_enter Try.func24, Try.ntmps24
  go_wp2_with fail
  generalize w.alloc (.cells #[.int .i64 (K : Int), .int .i64 (H : Int), .int .i64 S] 25) = W0 at *
  generalize hgp : w.heap.size = gp at *
  refine (may_pre K H S _).mono ?_
  rw [hd]
  rintro e w1 ⟨rfl, hg1⟩
  have P1 := Lib.hid (P0.out.grown hg1)
  have HG1 := Lib.hid (Gr.trans HG0.out hg1)
  clear hg1 P0 HG0
  have c0 := P1.out.cell0
  have c1 := P1.out.cell1
  have c2 := P1.out.cell2
  go_wp2_with fail
  refine (HAH.out _).mono ?_
  rintro e w2 ⟨v2, rfl, hr2, hg2⟩
  have hr2 := hr2.rws
  have P2 := Lib.hid (P1.out.grown hg2)
  have HG2 := Lib.hid (Gr.trans HG1.out hg2)
  have R2 : Hid (Rws w1.heap.size w2 v2 (matP K H S seed (l.take 0))) := Lib.hid (by
    rw [List.take_zero, matP_in HM.out]
    rw [aheadP_in HM.out] at hr2
    simpa using hr2)
  have HB : Hid (w.heap.size ≤ w1.heap.size) := Lib.hid HG1.out.size
  have HB2 : Hid (w1.heap.size ≤ w2.heap.size) := Lib.hid hg2.size
  generalize w1.heap.size = b1 at *
  obtain ⟨o2, m2, c2', rfl⟩ := R2.out.form4
  clear hr2 hg2 P1 HG1 c0 c1 c2
  go_wp2_with fail
  go_loopw [7, 18] (fun ov iv W => ∃ i : Nat, i ≤ n ∧ iv = .int .i64 i ∧ Rws b1 W ov (matP K H S seed (l.take i)) ∧ Par W gp K H S ∧ Gr w W ∧ b1 ≤ W.heap.size) (fun _ iv _ => n - (intOf iv).toNat)
  case atStart => exact ⟨0, by omega, rfl, R2.out, P2.out, HG2.out, HB2.out⟩
  case round =>
    clear R2 P2 HG2
    obtain ⟨wo, hwo⟩ : ∃ x, x = wr := ⟨_, rfl⟩
    subst hwo
    obtain ⟨i, hin, rfl, hr, hp, hg, hb1⟩ := hrel
    obtain ⟨oo, mo, co, rfl⟩ := hr.form4
    have c0 := hp.cell0
    have c1 := hp.cell1
    have c2 := hp.cell2
    have HR := Lib.hid hr
    have HP := Lib.hid hp
    have HG := Lib.hid hg
    have HB1 := Lib.hid hb1
    clear hr hp hg hb1
    by_cases hlt : i < n
    · obtain ⟨a, rfl⟩ : ∃ a, oa = some a := by
        rcases hoa with c1 | c1
        · omega
        · exact c1
      have q1 := cell_grown HG.out (HC.out a rfl i hlt)
      obtain ⟨x, hx⟩ : ∃ x, l.getD i 0 = x := ⟨_, rfl⟩
      rw [hx] at q1
      have hxi : I64 x := by rw [← hx]; exact HI.out _ (by rw [List.getD_eq_getElem?_getD, List.getElem?_eq_getElem (by rw [HN.out]; exact hlt)]; exact List.getElem_mem _)
      have HXI := Lib.hid hxi
      have HML := Lib.hid (matP_length K H S seed (l.take i))
      have HLL : Hid ((l.take i).length = i) := Lib.hid (by rw [List.length_take, HN.out]; omega)
      have HS : Hid (matP K H S seed (l.take (i + 1)) = matP K H S seed (l.take i) ++ if MayP K H S ∧ MayI x then [rowP K H S seed x] else []) := Lib.hid (by
        rw [List.take_add_one, List.getElem?_eq_getElem (by rw [HN.out]; exact hlt), ← hx, List.getD_eq_getElem?_getD, List.getElem?_eq_getElem (by rw [HN.out]; exact hlt)]
        exact matP_snoc K H S seed (l.take i) _)
      clear hx
      have HL0 := Lib.hid (rowP_len K H S seed x HM.out)
      go_wp2_with fail
      refine (lt_ok.row K H S seed x _ hs HXI.out).mono ?_
      rintro e w3 ⟨v3, rfl, hn3⟩
      obtain ⟨o3, m3, c3, rfl, hm3⟩ := New.formL hn3
      have NW := Lib.hid hn3
      have HR3 := Lib.hid (HR.out.grown hn3.1)
      have HP3 := Lib.hid (HP.out.grown hn3.1)
      have HG3 := Lib.hid (Gr.trans HG.out hn3.1)
      have HB3 : Hid (b1 ≤ w3.heap.size) := Lib.hid (Nat.le_trans HB1.out hn3.1.size)
      clear hn3 HR HP HG HB1 c0 c1 c2
      by_cases hi : MayI x
      · have hm0 : 0 < m3 := by
          have := HL0.out.1 hi
          omega
        have HII := Lib.hid hi
        clear hi hm3
        go_wp2_with (at_builtin; refine wpList_append_row rfl _ _ rfl b1 (.slice oo mo co) (matP K H S seed (l.take i)) rfl (HR3.out.grown (Gr.alloc (Gr.refl _) _ _)) w3.heap.size (.slice o3 m3 c3) (rowP K H S seed x) rfl (by rw [cell_of_row _ _ 0 _ _ _ (heap_alloc_new w3 _)]; rfl) (Bs.grown (New.bs NW.out) (Gr.alloc (Gr.refl _) _ _)) (Rb.gr (New.bs NW.out) (New.rb NW.out b1) (Gr.alloc (Gr.refl _) _ _)).2 (by have := HML.out; rw [HLL.out] at this; omega) (by have := HB3.out; simp; omega) ?_; intro v5 w5 hr5 hg5 hk5; have R5 := Lib.hid hr5; have G5 := Lib.hid hg5; have K5 := Lib.hid hk5; clear hr5 hg5 hk5)
        have hg3 : Gr w (w3.alloc (.cells #[.slice o3 m3 c3] 23)) := Gr.alloc HG3.out _ _
        exact ⟨⟨i + 1, by omega, by go_num, by rw [HS.out, if_pos ⟨HM.out, HII.out⟩]; exact R5.out, K5.out.2 _ _ _ _ (HP3.out.grown (Gr.alloc (Gr.refl _) _ _)) (by decide), G5.out w hg3 HB.out, Nat.le_trans HB3.out (Nat.le_trans (by simp) K5.out.1)⟩, by simp [intOf]; omega⟩
      · have hm0 : m3 = 0 := by
          have := HL0.out.2 hi
          omega
        have HII := Lib.hid hi
        subst hm0
        clear hi hm3
        go_wp2_with fail
        exact ⟨⟨i + 1, by omega, by go_num, by rw [HS.out, if_neg (fun h => HII.out h.2), List.append_nil]; exact HR3.out, HP3.out, HG3.out, HB3.out⟩, by simp [intOf]; omega⟩
    · obtain rfl : i = n := by omega
      go_wp2_with fail
      go_ret
      refine ⟨_, rfl, ?_, HG.out⟩
      have := HR.out.bss
      rwa [List.take_of_length_le (by rw [HN.out]; exact Nat.le_refl _)] at this
set_option maxRecDepth 100000 in
set_option maxHeartbeats 400000 in
theorem sysMatrix_ne (K H S : Int) (seed : Nat) (v : Value) (l : List Int) (w : World) (hm : ¬ MayP K H S) (hz : Zs w v l) :
    Calls Try.prog 24 #[par K H S, .int .u32 (seed : Int), v] w fun e w' => e = .returned (.slice none 0 0) ∧ Gr w w' := by
  have hd := decide_eq_false hm
  obtain ⟨o, c, rfl⟩ := hz.form
  have HG0 : Hid (Gr w (w.alloc (.cells #[.int .i64 K, .int .i64 H, .int .i64 S] 25))) := Lib.hid (Gr.alloc (Gr.refl _) _ _)
  clear hm hz
  go_enter Try.func24, Try.ntmps24
  go_wp2_with fail
  refine (may_pre K H S _).mono ?_
  rw [hd]
  rintro e w1 ⟨rfl, hg1⟩
  have HG1 := Lib.hid (Gr.trans HG0.out hg1)
  clear hg1
  go_wp2_with fail
  go_ret
  exact ⟨rfl, HG1.out⟩
theorem sysMatrix_any (K H S : Int) (seed : Nat) (v : Value) (l : List Int) (w : World) (hs : seed < 4294967296) (hz : Zs w v l) (hl : l.length ≤ 900) :
    Calls Try.prog 24 #[par K H S, .int .u32 (seed : Int), v] w fun e w' => ∃ u, e = .returned u ∧ Bss w' u (matP K H S seed l) ∧ Gr w w' := by
  by_cases hm : MayP K H S
  · obtain ⟨k, rfl⟩ : ∃ k : Nat, K = k := ⟨K.toNat, by have := hm.1; omega⟩
    obtain ⟨h, rfl⟩ : ∃ h : Nat, H = h := ⟨H.toNat, by have := hm.2.2.1; omega⟩
    exact sysMatrix_in k h S seed v l w hm hs hz hl
  · rw [matP_ne hm]
    refine (sysMatrix_ne K H S seed v l w hm hz).mono ?_
    rintro e w' ⟨rfl, hg⟩
    exact ⟨_, rfl, Bss.nil _, hg⟩
set_option maxRecDepth 100000 in
set_option maxHeartbeats 400000 in
theorem sysRank_any (K H S : Int) (seed : Nat) (v : Value) (l : List Int) (w : World) (hs : seed < 4294967296) (hz : Zs w v l) (hl : l.length ≤ 900) :
    Calls Try.prog 48 #[par K H S, .int .u32 (seed : Int), v] w fun e w' => e = .returned (.int .i64 (rkL (matP K H S seed l))) ∧ Gr w w' := by
  have HG0 : Hid (Gr w (w.alloc (.cells #[.int .i64 K, .int .i64 H, .int .i64 S] 25))) := Lib.hid (Gr.alloc (Gr.refl _) _ _)
  have HZ := Lib.hid hz
  obtain ⟨o, c, rfl⟩ := hz.form
  have HL := Lib.hid hl
  have HLE := Lib.hid (matP_length K H S seed l)
  clear hz hl
  generalize hn : l.length = n at *
  go_enter Try.func48, Try.ntmps48
  go_wp2_with fail
  refine (sysMatrix_any K H S seed _ l _ hs (HZ.out.grown HG0.out) (by have := HL.out; omega)).mono ?_
  rintro e w1 ⟨u, rfl, hb, hg⟩
  obtain ⟨ou, mu, cu, rfl⟩ := hb.form3
  have HB := Lib.hid hb
  have HG1 := Lib.hid (Gr.trans HG0.out hg)
  clear hb hg
  go_wp2_with fail
  refine (ok_rank _ _ (matP K H S seed l) _ (.inl rfl) HB.out (by have := HLE.out; have := HL.out; omega) (matP_may K H S seed l)).mono ?_
  rintro e w2 ⟨rfl, hg⟩
  have HG2 := Lib.hid (Gr.trans HG1.out hg)
  clear hg
  go_wp2_with fail
  go_ret
  exact ⟨rfl, HG2.out⟩
set_option maxRecDepth 100000 in
set_option maxHeartbeats 800000 in
theorem sysFull_any (K H S : Int) (seed : Nat) (v : Value) (l : List Int) (w : World) (hs : seed < 4294967296) (hz : Zs w v l) (hl : l.length ≤ 900) :
    Calls Try.prog 27 #[par K H S, .int .u32 (seed : Int), v] w fun e w' => e = .returned (.bool (decide (FullP K H S seed l))) ∧ Gr w w' := by
  have HG0 : Hid (Gr w (w.alloc (.cells #[.int .i64 K, .int .i64 H, .int .i64 S] 25))) := Lib.hid (Gr.alloc (Gr.refl _) _ _)
  have P0 : Hid (Par (w.alloc (.cells #[.int .i64 K, .int .i64 H, .int .i64 S] 25)) w.heap.size K H S) := Lib.hid (heap_alloc_new _ _)
  have HZ := Lib.hid hz
  obtain ⟨o, m, c, rfl⟩ : ∃ o m c, v = .slice o m c := by
    obtain ⟨o, c, h⟩ := hz.form
    exact ⟨o, _, c, h⟩
  have HL := Lib.hid hl
  obtain ⟨r, hr⟩ : ∃ r, rkL (matP K H S seed l) = r := ⟨_, rfl⟩
  obtain ⟨q, hq⟩ : ∃ q, colsP K H S = q := ⟨_, rfl⟩
  have HF : Hid (decide (FullP K H S seed l) = (decide (MayP K H S) && ((r : Int) == q))) := Lib.hid (by
    have h : FullP K H S seed l ↔ (MayP K H S ∧ (r : Int) = q) := by unfold FullP; rw [hr, hq]
    exact (decide_eq_decide.2 h).trans (by rw [Bool.decide_and]; rfl))
  have HR := Lib.hid hr
  have HQ := Lib.hid hq
  clear hz hl hr hq
  by_cases hm : MayP K H S
  · have hd := decide_eq_true hm
    have HD := Lib.hid hd
    clear hm
    go_enter Try.func27, Try.ntmps27
    go_wp2_with fail
    generalize w.alloc (.cells #[.int .i64 K, .int .i64 H, .int .i64 S] 25) = W0 at *
    generalize w.heap.size = gp at *
    have c0 := P0.out.cell0
    have c1 := P0.out.cell1
    have c2 := P0.out.cell2
    go_region_held3 (fun W => W.cell? ⟨gp, 0, none⟩ = some (.int .i64 K) ∧ W.cell? ⟨gp, 1, none⟩ = some (.int .i64 H) ∧ W.cell? ⟨gp, 2, none⟩ = some (.int .i64 S)) (first | exact ⟨k30, k31, k32⟩ | exact ⟨k20, k21, k22⟩ | exact ⟨k10, k11, k12⟩ | go_keep)
      (first
        | (go_at_call 38; refine (cols_pre K H S _).mono ?_; rw [HQ.out]; rintro e v3 ⟨rfl, hg3⟩; have k30 := cell_grown hg3 (by exact k20); have k31 := cell_grown hg3 (by exact k21); have k32 := cell_grown hg3 (by exact k22); have V3 : Hid (Gr v2 v3) := Lib.hid hg3)
        | (go_at_call 48; refine (sysRank_any K H S seed _ l _ hs (HZ.out.grown (Gr.trans HG0.out V1.out)) HL.out).mono ?_; rw [HR.out]; rintro e v2 ⟨rfl, hg2⟩; have k20 := cell_grown hg2 (by exact k10); have k21 := cell_grown hg2 (by exact k11); have k22 := cell_grown hg2 (by exact k12); have V2 : Hid (Gr v1 v2) := Lib.hid hg2)
        | (go_at_call 22; refine (may_pre K H S _).mono ?_; rw [hd]; rintro e v1 ⟨rfl, hg1⟩; have k10 := cell_grown hg1 (by exact c0); have k11 := cell_grown hg1 (by exact c1); have k12 := cell_grown hg1 (by exact c2); have V1 : Hid (Gr W0 v1) := Lib.hid (by exact hg1)))
    have HGZ := Lib.hid (Gr.trans HG0.out (Gr.trans V1.out (Gr.trans V2.out V3.out)))
    go_wp2_with fail
    go_ret
    refine ⟨?_, HGZ.out⟩
    rw [HF.out, HD.out, Bool.true_and]
    rfl
  · have hd := decide_eq_false hm
    have HD := Lib.hid hd
    clear hm
    go_enter Try.func27, Try.ntmps27
    go_wp2_with fail
    generalize w.alloc (.cells #[.int .i64 K, .int .i64 H, .int .i64 S] 25) = W0 at *
    generalize w.heap.size = gp at *
    have c0 := P0.out.cell0
    have c1 := P0.out.cell1
    have c2 := P0.out.cell2
    refine wp_region_held_drew (S := fun W => W.cell? ⟨gp, 0, none⟩ = some (.int .i64 K) ∧ W.cell? ⟨gp, 1, none⟩ = some (.int .i64 H) ∧ W.cell? ⟨gp, 2, none⟩ = some (.int .i64 S)) (by kernel_rfl) (by exact ⟨c0, c1, c2⟩) (fun hHeld => ?_)
    refine wpAnyH_yield (i := 0) (v := par K H S) rfl rfl (by kernel_rfl) (by kernel_rfl) (by kernel_rfl) (fun _ _ _ h => h) (Or.inl ⟨by rfl, fun W hW => by obtain ⟨h0, h1, h2⟩ := hW; go_simp⟩) (by assumption) ?_
    simp only [List.setIfInBounds_toArray, List.set_cons_zero, List.set_cons_succ]
    refine wpAnyH_ready (rs := [1]) (by kernel_rfl) (by simp) ?_
    refine AllReadyH.cons rfl (fun K' hK => ?_) AllReadyH.nil
    go_simp
    go_at_call 22
    refine (may_pre K H S _).mono ?_
    rw [hd]
    rintro e v1 ⟨rfl, hg1⟩
    go_wp2_with fail
    refine hK.out _ _ ⟨cell_grown hg1 c0, cell_grown hg1 c1, cell_grown hg1 c2⟩ (fun hHeld => ?_)
    clear hK
    refine wpAnyH_yield (i := 2) (v := .bool false) rfl rfl (by kernel_rfl) (by kernel_rfl) (by kernel_rfl) (fun _ _ _ h => h) (Or.inl ⟨by rfl, fun W hW => by first | (go_simp; done) | (go_simp; with_reducible rfl)⟩) (by assumption) ?_
    simp only [List.setIfInBounds_toArray, List.set_cons_zero, List.set_cons_succ]
    refine wpAnyH_skip (i := 3) rfl rfl (by kernel_rfl) (by kernel_rfl) (by kernel_rfl) (fun _ _ _ h => h) (by rfl) (by assumption) ?_
    simp only [List.setIfInBounds_toArray, List.set_cons_zero, List.set_cons_succ]
    refine wpAnyH_skip (i := 4) rfl rfl (by kernel_rfl) (by kernel_rfl) (by kernel_rfl) (fun _ _ _ h => h) (by rfl) (by assumption) ?_
    simp only [List.setIfInBounds_toArray, List.set_cons_zero, List.set_cons_succ]
    refine wpAnyH_skip (i := 5) rfl rfl (by kernel_rfl) (by kernel_rfl) (by kernel_rfl) (fun _ _ _ h => h) (by rfl) (by assumption) ?_
    simp only [List.setIfInBounds_toArray, List.set_cons_zero, List.set_cons_succ]
    refine wpAnyH_skip (i := 6) rfl rfl (by kernel_rfl) (by kernel_rfl) (by kernel_rfl) (fun _ _ _ h => h) (by rfl) (by assumption) ?_
    simp only [List.setIfInBounds_toArray, List.set_cons_zero, List.set_cons_succ]
    refine wpAnyH_skip (i := 7) rfl rfl (by kernel_rfl) (by kernel_rfl) (by kernel_rfl) (fun _ _ _ h => h) (by rfl) (by assumption) ?_
    simp only [List.setIfInBounds_toArray, List.set_cons_zero, List.set_cons_succ]
    refine wpAnyH_skip (i := 8) rfl rfl (by kernel_rfl) (by kernel_rfl) (by kernel_rfl) (fun _ _ _ h => h) (by rfl) (by assumption) ?_
    simp only [List.setIfInBounds_toArray, List.set_cons_zero, List.set_cons_succ]
    refine wpAnyH_skip (i := 9) rfl rfl (by kernel_rfl) (by kernel_rfl) (by kernel_rfl) (fun _ _ _ h => h) (by rfl) (by assumption) ?_
    simp only [List.setIfInBounds_toArray, List.set_cons_zero, List.set_cons_succ]
    refine wpAnyH_yield (i := 10) (v := .bool false) rfl rfl (by kernel_rfl) (by kernel_rfl) (by kernel_rfl) (fun _ _ _ h => h) (Or.inl ⟨by rfl, fun W hW => by first | (go_simp; done) | (go_simp; with_reducible rfl)⟩) (by assumption) ?_
    simp only [List.setIfInBounds_toArray, List.set_cons_zero, List.set_cons_succ]
    refine wpAnyH_yield (i := 11) (v := .bool false) rfl rfl (by kernel_rfl) (by kernel_rfl) (by kernel_rfl) (fun _ _ _ h => h) (Or.inl ⟨by rfl, fun W hW => by first | (go_simp; done) | (go_simp; with_reducible rfl)⟩) (by assumption) ?_
    simp only [List.setIfInBounds_toArray, List.set_cons_zero, List.set_cons_succ]
    refine wpAnyH_done (by kernel_rfl) ?_ _
    have HGZ : Hid (Gr W0 v1) := Lib.hid (by exact hg1)
    clear hg1 hHeld
    go_wp2_with fail
    go_ret
    refine ⟨?_, Gr.trans HG0.out HGZ.out⟩
    rw [HF.out, HD.out, Bool.false_and]
    rfl
def partI (N i : Nat) : List Int := firstI i ++ List.replicate (N - i) 0
theorem partI_zero (N : Nat) : partI N 0 = List.replicate N 0 := by simp [partI, firstI]
theorem partI_all (N : Nat) : partI N N = firstI N := by simp [partI]
theorem partI_length {N i : Nat} (h : i ≤ N) : (partI N i).length = N := by
  simp [partI, firstI_length]
  omega
theorem partI_set {N i : Nat} (h : i < N) : (partI N i).set i (i : Int) = partI N (i + 1) := by
  unfold partI
  have hl := firstI_length i
  rw [List.set_append, if_neg (by omega), hl, Nat.sub_self]
  obtain ⟨m, hm⟩ : ∃ m, N - i = m + 1 := ⟨N - i - 1, by omega⟩
  rw [hm, List.replicate_succ, List.set_cons_zero, firstI_succ, show N - (i + 1) = m from by omega, List.append_assoc]
  simp
set_option maxRecDepth 100000 in
set_option maxHeartbeats 800000 in
theorem first_any (N : Nat) (w : World) (h2 : N ≤ 64) :
    Calls Try.prog 28 #[.int .i64 N] w fun e w' => ∃ v, e = .returned v ∧ Zs w' v (firstI N) ∧ Gr w w' := by
  have hmk := makeZ N N (by omega) (by omega)
  go_enter Try.func28, Try.ntmps28
  go_wp2_with fail
  obtain ⟨g, hg⟩ : ∃ g, w.heap.size = g := ⟨_, rfl⟩
  have hgl : w.heap.size ≤ g := by omega
  have B0 : Hid (Blz (w.alloc (.cells (rowZ (List.replicate N 0)) 3)) g (partI N 0)) := Lib.hid (by
    rw [partI_zero, ← hg]
    exact heap_alloc_new _ _)
  have G2 : Hid (Gr w (w.alloc (.cells (rowZ (List.replicate N 0)) 3))) := Lib.hid (Gr.alloc (Gr.refl _) _ _)
  have HGL := Lib.hid hgl
  rw [hg]
  generalize w.alloc (.cells (rowZ (List.replicate N 0)) 3) = w2 at *
  clear hmk hg hgl
  go_loopw [9] (fun iv W => ∃ i : Nat, i ≤ N ∧ iv = .int .i64 i ∧ Blz W g (partI N i) ∧ Gr w W) (fun iv _ => N - (intOf iv).toNat)
  case atStart => exact ⟨0, by omega, rfl, B0.out, G2.out⟩
  case round =>
    obtain ⟨i, hi, rfl, hb, hgr⟩ := hrel
    have HB := Lib.hid hb
    have HG := Lib.hid hgr
    clear hb hgr
    by_cases hlt : i < N
    · have HST := Lib.hid (partI_set hlt)
      have q := HB.out.cell i (by rw [partI_length hi]; exact hlt)
      have qf := frozen_of_row _ g i _ _ HB.out
      generalize (partI N i).getD i 0 = old at *
      go_wp2
      refine ⟨⟨i + 1, by omega, by go_num, ?_, ?_⟩, by simp [intOf]; omega⟩
      · rw [← HST.out]
        have h := HB.out
        unfold Blz at h ⊢
        rw [heap_setCell_same _ _ _ _ _ _ h, rowZ_set]
      · exact HG.out.setCell HGL.out _
    · obtain rfl : i = N := by omega
      go_wp2
      go_ret
      have hz := HB.out
      rw [partI_all] at hz
      have := Blz.zs hz (firstI i) i (by omega) (by rw [firstI_length]; omega) (by omega) (firstI_i64 (by omega)) (fun _ _ => rfl)
      rw [firstI_length] at this
      exact ⟨_, rfl, this, HG.out⟩
set_option maxRecDepth 100000 in
set_option maxHeartbeats 800000 in
theorem sysRight_any (K H S : Int) (seed : Nat) (w : World) (hs : seed < 4294967296) :
    Calls Try.prog 10 #[par K H S, .int .u32 (seed : Int)] w fun e w' => e = .returned (.bool (decide (RightP K H S seed))) ∧ Gr w w' := by
  have HG0 : Hid (Gr w (w.alloc (.cells #[.int .i64 K, .int .i64 H, .int .i64 S] 25))) := Lib.hid (Gr.alloc (Gr.refl _) _ _)
  have P0 : Hid (Par (w.alloc (.cells #[.int .i64 K, .int .i64 H, .int .i64 S] 25)) w.heap.size K H S) := Lib.hid (heap_alloc_new _ _)
  by_cases hm : MayP K H S
  · have hd := decide_eq_true hm
    obtain ⟨k, rfl⟩ : ∃ k : Nat, K = k := ⟨K.toNat, by have := hm.1; omega⟩
    have hk : k ≤ 16 := by have := hm.2.1; omega
    have HRP : Hid (decide (RightP k H S seed) = decide (FullP k H S seed (firstI k))) := Lib.hid (by
      refine decide_eq_decide.2 ?_
      unfold RightP
      rw [Int.toNat_natCast])
    clear hm
    go_enter Try.func10, Try.ntmps10
    go_wp2_with fail
    generalize w.alloc (.cells #[.int .i64 (k : Int), .int .i64 H, .int .i64 S] 25) = W0 at *
    generalize w.heap.size = gp at *
    have c0 := P0.out.cell0
    have c1 := P0.out.cell1
    have c2 := P0.out.cell2
    go_region_held3 (fun W => W.cell? ⟨gp, 0, none⟩ = some (.int .i64 k) ∧ W.cell? ⟨gp, 1, none⟩ = some (.int .i64 H) ∧ W.cell? ⟨gp, 2, none⟩ = some (.int .i64 S)) (first | exact ⟨k30, k31, k32⟩ | exact ⟨k20, k21, k22⟩ | exact ⟨k10, k11, k12⟩ | go_keep)
      (first
        | (go_at_call 27; refine (sysFull_any k H S seed _ (firstI k) _ hs Z2.out (by rw [firstI_length]; omega)).mono ?_; rw [← HRP.out]; rintro e v3 ⟨rfl, hg3⟩; have k30 := cell_grown hg3 (by exact k20); have k31 := cell_grown hg3 (by exact k21); have k32 := cell_grown hg3 (by exact k22); have V3 : Hid (Gr v2 v3) := Lib.hid hg3)
        | (go_at_call 28; refine (first_any k _ (by omega)).mono ?_; rintro e v2 ⟨u2, rfl, hz2, hg2⟩; have k20 := cell_grown hg2 (by exact k10); have k21 := cell_grown hg2 (by exact k11); have k22 := cell_grown hg2 (by exact k12); have Z2 := Lib.hid hz2; have V2 : Hid (Gr v1 v2) := Lib.hid hg2)
        | (go_at_call 22; refine (may_pre k H S _).mono ?_; rw [hd]; rintro e v1 ⟨rfl, hg1⟩; have k10 := cell_grown hg1 (by exact c0); have k11 := cell_grown hg1 (by exact c1); have k12 := cell_grown hg1 (by exact c2); have V1 : Hid (Gr W0 v1) := Lib.hid (by exact hg1)))
    have HGZ := Lib.hid (Gr.trans HG0.out (Gr.trans V1.out (Gr.trans V2.out V3.out)))
    go_wp2_with fail
    go_ret
    exact ⟨rfl, HGZ.out⟩
  · have hd := decide_eq_false hm
    have hr : decide (RightP K H S seed) = false := decide_eq_false fun h => hm h.1
    rw [hr]
    clear hm hr
    go_enter Try.func10, Try.ntmps10
    go_wp2_with fail
    generalize w.alloc (.cells #[.int .i64 K, .int .i64 H, .int .i64 S] 25) = W0 at *
    generalize w.heap.size = gp at *
    have c0 := P0.out.cell0
    have c1 := P0.out.cell1
    have c2 := P0.out.cell2
    refine wp_region_held_drew (S := fun W => W.cell? ⟨gp, 0, none⟩ = some (.int .i64 K) ∧ W.cell? ⟨gp, 1, none⟩ = some (.int .i64 H) ∧ W.cell? ⟨gp, 2, none⟩ = some (.int .i64 S)) (by kernel_rfl) (by exact ⟨c0, c1, c2⟩) (fun hHeld => ?_)
    refine wpAnyH_yield (i := 0) (v := par K H S) rfl rfl (by kernel_rfl) (by kernel_rfl) (by kernel_rfl) (fun _ _ _ h => h) (Or.inl ⟨by rfl, fun W hW => by obtain ⟨h0, h1, h2⟩ := hW; go_simp⟩) (by assumption) ?_
    simp only [List.setIfInBounds_toArray, List.set_cons_zero, List.set_cons_succ]
    refine wpAnyH_ready (rs := [1]) (by kernel_rfl) (by simp) ?_
    refine AllReadyH.cons rfl (fun K' hK => ?_) AllReadyH.nil
    go_simp
    go_at_call 22
    refine (may_pre K H S _).mono ?_
    rw [hd]
    rintro e v1 ⟨rfl, hg1⟩
    go_wp2_with fail
    refine hK.out _ _ ⟨cell_grown hg1 c0, cell_grown hg1 c1, cell_grown hg1 c2⟩ (fun hHeld => ?_)
    clear hK
    refine wpAnyH_yield (i := 2) (v := .bool false) rfl rfl (by kernel_rfl) (by kernel_rfl) (by kernel_rfl) (fun _ _ _ h => h) (Or.inl ⟨by rfl, fun W hW => by first | (go_simp; done) | (go_simp; with_reducible rfl)⟩) (by assumption) ?_
    simp only [List.setIfInBounds_toArray, List.set_cons_zero, List.set_cons_succ]
    refine wpAnyH_skip (i := 3) rfl rfl (by kernel_rfl) (by kernel_rfl) (by kernel_rfl) (fun _ _ _ h => h) (by rfl) (by assumption) ?_
    simp only [List.setIfInBounds_toArray, List.set_cons_zero, List.set_cons_succ]
    refine wpAnyH_skip (i := 4) rfl rfl (by kernel_rfl) (by kernel_rfl) (by kernel_rfl) (fun _ _ _ h => h) (by rfl) (by assumption) ?_
    simp only [List.setIfInBounds_toArray, List.set_cons_zero, List.set_cons_succ]
    refine wpAnyH_skip (i := 5) rfl rfl (by kernel_rfl) (by kernel_rfl) (by kernel_rfl) (fun _ _ _ h => h) (by rfl) (by assumption) ?_
    simp only [List.setIfInBounds_toArray, List.set_cons_zero, List.set_cons_succ]
    refine wpAnyH_skip (i := 6) rfl rfl (by kernel_rfl) (by kernel_rfl) (by kernel_rfl) (fun _ _ _ h => h) (by rfl) (by assumption) ?_
    simp only [List.setIfInBounds_toArray, List.set_cons_zero, List.set_cons_succ]
    refine wpAnyH_skip (i := 7) rfl rfl (by kernel_rfl) (by kernel_rfl) (by kernel_rfl) (fun _ _ _ h => h) (by rfl) (by assumption) ?_
    simp only [List.setIfInBounds_toArray, List.set_cons_zero, List.set_cons_succ]
    refine wpAnyH_skip (i := 8) rfl rfl (by kernel_rfl) (by kernel_rfl) (by kernel_rfl) (fun _ _ _ h => h) (by rfl) (by assumption) ?_
    simp only [List.setIfInBounds_toArray, List.set_cons_zero, List.set_cons_succ]
    refine wpAnyH_yield (i := 9) (v := .bool false) rfl rfl (by kernel_rfl) (by kernel_rfl) (by kernel_rfl) (fun _ _ _ h => h) (Or.inl ⟨by rfl, fun W hW => by first | (go_simp; done) | (go_simp; with_reducible rfl)⟩) (by assumption) ?_
    simp only [List.setIfInBounds_toArray, List.set_cons_zero, List.set_cons_succ]
    refine wpAnyH_yield (i := 10) (v := .bool false) rfl rfl (by kernel_rfl) (by kernel_rfl) (by kernel_rfl) (fun _ _ _ h => h) (Or.inl ⟨by rfl, fun W hW => by first | (go_simp; done) | (go_simp; with_reducible rfl)⟩) (by assumption) ?_
    simp only [List.setIfInBounds_toArray, List.set_cons_zero, List.set_cons_succ]
    refine wpAnyH_done (by kernel_rfl) ?_ _
    have HGZ : Hid (Gr W0 v1) := Lib.hid (by exact hg1)
    clear hg1 hHeld
    go_wp2_with fail
    go_ret
    exact ⟨rfl, Gr.trans HG0.out HGZ.out⟩
theorem system_ok : SystemOk := ⟨sysMatrix_any, sysRank_any, sysFull_any, sysRight_any⟩
end Go.Proofs.Ytbabecjphmmngaa
namespace Go.Proofs.Ytbabecjphmmngaa
open Go.RowKit

theorem ownsRow_gr {w w1 w2 : World} {v : Value} {n : Nat} {us : List Value} (h : w1.ownsRow w.heap.size 5 1 v n us) (hg : Gr w w1) (h2 : w1.grownBy w2 v.ownBlock) : Gr w w2 := Gr.append hg h2 (ownsRow_base h)
set_option maxRecDepth 100000 in
set_option maxHeartbeats 1600000 in
theorem joined_any (va vb : Value) (A B : List (List Int)) (k m : Nat) (w : World) (ha : Bss w va A) (hb : Bss w vb B) (hl : A.length ≤ 1000) (hlb : B.length = A.length) (h0 : 0 < A.length) (hA : Wide k A) (hB : Wide m B) (hk : k ≤ 64) (hm : m ≤ 64) :
    Calls Try.prog 42 #[va, vb] w fun e w' => ∃ g us L, e = .returned (.slice (some ⟨g, 0, none⟩) A.length A.length) ∧ Fill w w' g A.length (fun i l => l = A.getD i [] ++ B.getD i []) A.length us L := by
  obtain ⟨a, c0, rfl, h1, h2, h3⟩ := Bss.at ha h0
  obtain ⟨b, cb, rfl, b1, b2, b3⟩ := Bss.at hb (by omega)
  rw [hlb] at b1 b3 ⊢
  obtain ⟨n, hn⟩ : ∃ n, A.length = n := ⟨_, rfl⟩
  have HN := Lib.hid hn
  have HNB : Hid (B.length = n) := Lib.hid (by rw [hlb, hn])
  rw [hn] at h1 h3 b1 b3 hl h0 ⊢
  have HA := Lib.hid h3
  have HB := Lib.hid b3
  have WA := Lib.hid hA
  have WB := Lib.hid hB
  have hmk := make24 n n (by omega) (by omega)
  have hR : ∃ cur, cur = nils n := ⟨_, rfl⟩
  obtain ⟨cur, hcur⟩ := hR
  rw [← hcur] at hmk
  have HF0 : Hid (Fill w (w.alloc (.cells cur 23)) w.heap.size n (fun i l => l = A.getD i [] ++ B.getD i []) 0 (List.replicate n (.slice none 0 0)) (List.replicate n [])) := Lib.hid (by rw [hcur]; exact Fill.start w n (by omega) _)
  clear ha hb hlb hn h3 b3 hA hB hcur
  go_enter Try.func42, Try.ntmps42
  go_wp2
  clear hmk
  generalize hW : w.alloc (.cells cur 23) = W at *
  generalize hG : w.heap.size = g at *
  go_loopw [12] (fun i wr => ∃ (j : Nat) (us : List Value) (L : List (List Int)), j ≤ n ∧ i = .int .i64 j ∧ Fill w wr g n (fun i l => l = A.getD i [] ++ B.getD i []) j us L) (fun i _ => n - (intOf i).toNat)
  case atStart => exact ⟨0, _, _, by omega, rfl, HF0.out⟩
  case round =>
    clear HF0
    obtain ⟨j, us, Lx, hj, rfl, hfl⟩ := hrel
    have FL := Lib.hid hfl
    clear hfl
    by_cases hlt : j < n
    · obtain ⟨u, q0, hu⟩ := HA.out j hlt
      obtain ⟨u', q0', hu'⟩ := HB.out j hlt
      have q1 := cell_grown FL.out.gr q0
      have q2 := cell_grown FL.out.gr q0'
      have hu1 := Bs.grown hu FL.out.gr
      have hu2 := Bs.grown hu' FL.out.gr
      obtain ⟨ou, cu, rfl⟩ := hu.form
      obtain ⟨ou', cu', rfl⟩ := hu'.form
      have hwa := WA.out.at j (by rw [HN.out]; exact hlt)
      have hwb := WB.out.at j (by rw [HNB.out]; exact hlt)
      rw [hwa.1] at q1 hu1
      rw [hwb.1] at q2 hu2
      have HU1 := Lib.hid hu1
      have HU2 := Lib.hid hu2
      have HWA := Lib.hid hwa
      have HWB := Lib.hid hwb
      have qc := FL.out.cell j hlt
      have qf := FL.out.frozen j
      clear q0 q0' hu hu' hu1 hu2 hwa hwb
      go_wp2
      go_region_law (first
        | ((try go_simp); go_at_call 29; refine (clone_any _ (A.getD j []) _ (by exact HU1.out) (by rw [HWA.out.1]; omega)).mono ?_; rintro e w2 ⟨v2, rfl, hown2, hg2⟩; rw [HWA.out.1] at hown2; obtain ⟨o2, c2, rfl⟩ := ownsRow_form hown2; have hq2 := cell_grown hg2 (by exact q2); have HO2 := Lib.hid hown2; have HG2 : Hid (Gr wr w2) := Lib.hid (by exact hg2); clear hown2 hg2)
        | (refine step_append_bytes rfl _ _ rfl wr.heap.size (.slice o2 k c2) k (A.getD j []) (by rfl) (by exact HO2.out) ou' m cu' (B.getD j []) (by rfl) (by exact Bs.grown HU2.out HG2.out) (by omega) (by exact HG2.out.size) ?_; intro v3 w3 hown3 hgrow3; obtain ⟨o3, c3, rfl⟩ := ownsRow_form hown3; have HO3 := Lib.hid hown3; have HG3 : Hid (Gr wr w3) := Lib.hid (ownsRow_gr (by exact HO2.out) HG2.out (by exact hgrow3)); have hc3 := cell_grown HG3.out qc; have hf3 := frozen_grown HG3.out qc qf; clear hown3 hgrow3))
      all_goals
        have hlen : (A.getD j [] ++ B.getD j []).length = k + m := by rw [List.length_append, HWA.out.1, HWB.out.1]
        have NW : Hid (New wr w3 (.slice o3 (k + m) c3) (A.getD j [] ++ B.getD j [])) := Lib.hid (New.of_row HG3.out (fun x hx => by
          rcases List.mem_append.1 hx with hx | hx
          · exact HWA.out.2 x hx
          · exact HWB.out.2 x hx) (by rw [hlen]; exact HO3.out))
        go_wp2_with fail
        exact ⟨⟨j + 1, _, _, by omega, by go_num, (FL.out.grow HG3.out).put hlt (New.bs NW.out) (New.rb NW.out _) rfl⟩, by simp [intOf]; omega⟩
    · obtain rfl : j = n := by omega
      go_wp2
      go_ret
      exact ⟨g, us, Lx, rfl, FL.out⟩
end Go.Proofs.Ytbabecjphmmngaa
