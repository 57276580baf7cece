/-
  Package soliton as it was written: the last number, the root, the weights, the degree of a number.
-/
import Derived.Test.YtkmnhcegaagokaaTl
import Derived.Test.YtkmnhcegaagokaaDo
import Derived.Deep.CutBlock
import Derived.Lib.BitFns
namespace Go.Proofs.Ytkmnhcegaagokaa
open Go.RowKit

set_option maxHeartbeats 400000 in
theorem last_any (v : Value) (t : List Int) (w : World) (h : Zs w v t) (hl : t.length ≤ 1000) :
    Calls Try.prog 24 #[v] w fun e w' => e = .returned (.int .i64 (lastZ' t)) ∧ Gr w w' := by
  by_cases h0 : 0 < t.length
  · obtain ⟨a, c, rfl, h1, h2, h3⟩ := Zs.at h h0
    have q := h3 (t.length - 1) (by omega)
    have hrng := h.rng (t.length - 1) (by omega)
    rw [show t.getD (t.length - 1) 0 = lastZ' t from rfl] at q hrng
    generalize lastZ' t = y at *
    obtain ⟨n, hn⟩ : ∃ n, t.length = n := ⟨_, rfl⟩
    rw [hn] at q h1 h0 hl ⊢
    clear h h3 hn
    obtain ⟨m, rfl⟩ : ∃ m, n = m + 1 := ⟨n - 1, by omega⟩
    rw [Nat.add_sub_cancel] at q
    have hb : (((m + 1 : Nat) : Int) == 0) = false := by simp; omega
    go_enter Try.func24, Try.ntmps24
    go_wp2
    go_ret
    exact ⟨rfl, Gr.refl _⟩
  · obtain rfl : t = [] := List.eq_nil_of_length_eq_zero (by omega)
    obtain ⟨oa, c, rfl⟩ := h.form
    clear h
    rw [show lastZ' [] = 0 from rfl]
    go_enter Try.func24, Try.ntmps24
    go_wp2
    go_ret
    exact ⟨rfl, Gr.refl _⟩
set_option maxHeartbeats 400000 in
theorem rootUp_any (N : Nat) (w : World) (h1 : 1 ≤ N) (h2 : N ≤ 64) :
    Calls Try.prog 21 #[.int .i64 N] w fun e w' => e = .returned (.int .i64 (T.root N : Nat)) ∧ Gr w w' := by
  obtain ⟨R, hR⟩ : ∃ R, T.root N = R := ⟨_, rfl⟩
  rw [hR]
  have HR := Lib.hid hR
  clear hR
  go_enter Try.func21, Try.ntmps21
  go_wp2
  go_loopw [3] (fun i wr => w = wr ∧ ∃ r : Nat, r ≤ 8 ∧ 1 ≤ r ∧ i = .int .i64 r ∧ ∀ j, j < r → j * j < N) (fun i _ => 8 - (intOf i).toNat)
  case atStart => exact ⟨rfl, 1, by omega, by omega, rfl, fun j hj => by
    have hj0 : j = 0 := by omega
    rw [hj0]
    omega⟩
  case round =>
    obtain ⟨rfl, r, hr, hr1, rfl, hs⟩ := hrel
    have HS := Lib.hid hs
    obtain ⟨q, hq⟩ : ∃ q, r * r = q := ⟨_, rfl⟩
    have hq2 : (r : Int) * r = q := by rw [← hq, Int.natCast_mul]
    have hq3 : q ≤ 64 := by rw [← hq]; exact Nat.mul_le_mul hr hr
    have HQ := Lib.hid hq
    clear hs hq
    by_cases hlt : q < N
    · have h8 : r ≠ 8 := fun c => by
        rw [c] at HQ
        have := HQ.out
        omega
      go_wp2
      refine ⟨⟨trivial, r + 1, by omega, by omega, by go_num, fun j hj => ?_⟩, ?_⟩
      · by_cases e : j = r
        · rw [e, HQ.out]; exact hlt
        · exact HS.out j (by omega)
      · simp [intOf]
        omega
    · have hroot := T.root_eq h1 h2 (by rw [HQ.out]; omega) HS.out
      rw [HR.out] at hroot
      subst hroot
      go_wp2
      go_ret
      exact ⟨rfl, Gr.refl _⟩
/-- What the weight of k begins with. -/
def idealP (N k : Nat) : Nat := if 1 < k then 1048576 / (k * (k - 1)) else 1048576 / N
set_option maxHeartbeats 400000 in
theorem ideal_any (N k : Nat) (w : World) (h1 : 1 ≤ N) (h2 : N ≤ 64) (k1 : 1 ≤ k) (k2 : k ≤ 64) :
    Calls Try.prog 22 #[.int .i64 N, .int .i64 k] w fun e w' => e = .returned (.int .i64 (idealP N k : Nat)) ∧ Gr w w' := by
  by_cases c : 1 < k
  · have e1 : idealP N k = 1048576 / (k * (k - 1)) := if_pos c
    rw [e1]
    have hk2 : k * (k - 1) ≤ 4032 := Nat.le_trans (Nat.mul_le_mul (by omega : k ≤ 64) (by omega : k - 1 ≤ 63)) (by omega)
    obtain ⟨P, hP⟩ : ∃ P, k * (k - 1) = P := ⟨_, rfl⟩
    have fP : (k : Int) * ((k : Int) - 1) = P := by
      rw [← hP, Int.natCast_mul]
      congr 1
      omega
    have fP1 : 1 ≤ P := by rw [← hP]; exact Nat.mul_pos (by omega) (by omega)
    rw [hP] at hk2 ⊢
    obtain ⟨a2, ha2⟩ : ∃ a2, 1048576 / P = a2 := ⟨_, rfl⟩
    have fa2 : (1048576 : Int) / P = a2 := by rw [← ha2, Int.natCast_ediv]; rfl
    have ba2 : a2 ≤ 1048576 := by rw [← ha2]; exact Nat.div_le_self _ _
    rw [ha2]
    clear hP ha2 e1
    have hb : ((k : Int) == 1) = false := by simp; omega
    go_enter Try.func22, Try.ntmps22
    go_wp2
    go_ret
    exact ⟨by rw [← fa2]; rfl, Gr.refl _⟩
  · obtain rfl : k = 1 := by omega
    rw [show idealP N 1 = 1048576 / N from rfl]
    obtain ⟨a2, ha2⟩ : ∃ a2, 1048576 / N = a2 := ⟨_, rfl⟩
    have fa2 : (1048576 : Int) / N = a2 := by rw [← ha2, Int.natCast_ediv]; rfl
    have ba2 : a2 ≤ 1048576 := by rw [← ha2]; exact Nat.div_le_self _ _
    rw [ha2]
    clear ha2
    go_enter Try.func22, Try.ntmps22
    go_wp2
    go_ret
    exact ⟨by rw [← fa2]; rfl, Gr.refl _⟩
theorem digits_len : ∀ r, r < 9 → Lib.len8 ((r : Nat) : Int) = (T.digits 9 r : Nat) := by decide +kernel
set_option maxRecDepth 100000 in
set_option maxHeartbeats 800000 in
theorem len_any (r : Nat) (w : World) (h1 : 1 ≤ r) (h2 : r ≤ 8) :
    Calls Try.prog 29 #[.int .u64 r] w fun e w' => e = .returned (.int .i64 (T.digits 9 r : Nat)) ∧ Gr w w' := by
  have key : ∀ (x : Int) w, x = r → Calls Try.prog 31 #[.int .u64 x] w fun e w' => e = .returned (.int .i64 (Lib.len8 x)) ∧ Gr w w' := by
    intro x w hx
    have hb := T.digits_le r (by omega)
    have hl : 0 ≤ Lib.len8 x ∧ Lib.len8 x ≤ 4 := by rw [hx, digits_len r (by omega)]; omega
    have hx1 : 1 ≤ x := by omega
    have hx2 : x ≤ 8 := by omega
    clear hb hx h1 h2
    have hsz : x.toNat < Lib.len8tab.size := by rw [Lib.len8tab_size]; omega
    have e : ((Lib.len8tab[x.toNat]'hsz).toNat : Int) = Lib.len8 x := by
      unfold Lib.len8
      rw [getElem?_pos Lib.len8tab x.toNat hsz]
      rfl
    have E := Lib.hid e
    clear e
    go_enter Try.func31, Try.ntmps31
    go_wp2
    go_ret
    refine ⟨congrArg Ending.returned (congrArg (Value.int IntKind.i64) ?_), Gr.refl _⟩
    rw [E.out]
    unfold wrap64
    omega
  rw [← digits_len r (by omega)]
  go_enter Try.func29, Try.ntmps29
  go_wp2_with fail
  refine (key _ _ rfl).mono ?_
  rintro e w' ⟨rfl, hg⟩
  have G := Lib.hid hg
  clear hg
  go_wp2
  go_ret
  exact ⟨rfl, G.out⟩
set_option maxHeartbeats 400000 in
theorem index_any (v : Value) (t : List Int) (x : Int) (B : Nat) (w : World) (h : Zs w v t) (hl : t.length ≤ 1000) (hB : w.cell? ⟨B, 0, none⟩ = some (.int .i64 x)) :
    Calls Try.prog 25 #[v, .func (.func 26) #[] #[.pointer (some ⟨B, 0, none⟩)]] w fun e w' => e = .returned (.int .i64 (T.degA t x 0 - 1)) ∧ Gr w w' := by
  obtain ⟨_, oa, c, rfl, h1, h2, h3, h4⟩ := h
  obtain ⟨n, hn⟩ : ∃ n, t.length = n := ⟨_, rfl⟩
  rw [hn] at h1 h4 hl ⊢
  have HN := Lib.hid hn
  have HC := Lib.hid h4
  have HO : Hid (oa = none → n = 0) := Lib.hid (fun e => by have := h3 e; omega)
  clear h3 h4 hn
  go_enter Try.func25, Try.ntmps25
  go_wp2
  go_loopw [8] (fun i wr => wr = w ∧ ∃ k : Nat, k ≤ n ∧ i = .int .i64 k ∧ ∀ j, j < k → t.getD j 0 ≤ x) (fun i _ => n - (intOf i).toNat)
  case atStart => exact ⟨rfl, 0, by omega, rfl, by omega⟩
  case round =>
    obtain ⟨rfl, k, hk, rfl, hs⟩ := hrel
    have HS := Lib.hid hs
    clear hs
    by_cases hlt : k < n
    · obtain ⟨a, rfl⟩ : ∃ a, oa = some a := by
        cases oa with
        | none => exact absurd (HO.out rfl) (by omega)
        | some a => exact ⟨a, rfl⟩
      have q := HC.out a rfl k hlt
      obtain ⟨y, hy⟩ : ∃ y, t.getD k 0 = y := ⟨_, rfl⟩
      rw [hy] at q
      have HY := Lib.hid hy
      clear hy
      by_cases hxy : x < y
      · go_wp2_with (first | go_in)
        go_ret
        exact ⟨by rw [T.degA_at t x 0 k (by rw [HN.out]; exact hlt) HS.out (by rw [HY.out]; exact hxy)]; simp, Gr.refl _⟩
      · go_wp2_with (first | go_in)
        refine ⟨⟨trivial, k + 1, by omega, by go_num, fun j hj => ?_⟩, by simp [intOf]; omega⟩
        by_cases e : j = k
        · rw [e, HY.out]; omega
        · exact HS.out j (by omega)
    · obtain rfl : k = n := by omega
      go_wp2
      go_ret
      exact ⟨by rw [T.degA_none t x 0 (fun i hi => HS.out i (by rw [HN.out] at hi; exact hi))]; rfl, Gr.refl _⟩
/-- The numbers of t are none above the last one. -/
def Top (t : List Int) : Prop := ∀ i, i < t.length → t.getD i 0 ≤ lastZ' t
theorem tab_top (l : Int) : Top (T.tab l) ∧ (T.tab l).length ≤ 64 := by
  by_cases hin : 1 ≤ l ∧ l ≤ 64
  · obtain ⟨N, rfl⟩ : ∃ N : Nat, l = N := ⟨l.toNat, by omega⟩
    rw [T.tab_in (by omega) (by omega)]
    refine ⟨fun i hi => ?_, by rw [T.tabZ_length]; omega⟩
    rw [T.tabZ_length] at hi
    unfold lastZ'
    rw [T.tabZ_length, T.tabZ_at hi, T.tabZ_at (by omega)]
    by_cases e : i = N - 1
    · rw [e]; omega
    · have := T.sum_lt (l := N) (by omega) (by omega) (N - 1 + 1) (i + 1) (by omega) (by omega)
      omega
  · rw [T.tab_out hin]
    exact ⟨fun i hi => absurd hi (by simp), by simp⟩
set_option maxHeartbeats 400000 in
theorem degree_any (v : Value) (t : List Int) (x : Int) (w : World) (h : Zs w v t) (ht : Top t) (hl : t.length ≤ 1000) (hx : I64 x) :
    Calls Try.prog 12 #[v, .int .i64 x] w fun e w' => e = .returned (.int .i64 (T.deg t x)) ∧ Gr w w' := by
  have H := Lib.hid h
  have HX := Lib.hid hx
  have HB : Hid ((w.alloc (.cells #[.int .i64 x] 3)).cell? ⟨w.heap.size, 0, none⟩ = some (.int .i64 x)) := Lib.hid (by rw [World.cell?_alloc_at _ _ _ _ rfl]; rfl)
  have G0 : Hid (Gr w (w.alloc (.cells #[.int .i64 x] 3))) := Lib.hid (Gr.alloc (Gr.refl _) _ _)
  have hb := HB.out
  have HA := Lib.hid (H.out.grown G0.out)
  have HL := Lib.hid hl
  have hmf : ∀ (fn : Fn) (first cap : Array Value) (w : World), (Instr.makeFunc fn first cap).run Try.prog w = .ok (.func fn first cap) w := fun _ _ _ _ => rfl
  obtain ⟨D, hD⟩ : ∃ D, T.deg t x = D := ⟨_, rfl⟩
  rw [hD]
  have HD := Lib.hid hD
  clear h hx hD
  go_enter Try.func12, Try.ntmps12
  by_cases h0 : x < 0
  · have hd0 : D = 0 := by rw [← HD.out, T.deg_low h0]
    have hbt : decide (x < 0) = true := by simpa using h0
    go_wp2_with fail
    go_quiet (fail)
    go_wp2
    go_ret
    exact ⟨by rw [hd0]; rfl, G0.out⟩
  · have hbb : decide (x < 0) = false := by simpa using h0
    go_wp2_with fail
    go_region_held3 (fun W => W.cell? ⟨w.heap.size, 0, none⟩ = some (.int .i64 x)) (first | exact HB1.out | exact HB.out | go_keep) (first
      | (go_at_call 24; refine (last_any _ t _ (HA.out.grown (Gr.drew (Gr.refl _))) HL.out).mono ?_; rintro e w1 ⟨rfl, hg⟩; have G1 := Lib.hid hg; have hb1 := cell_gr hg HB.out; have HB1 := Lib.hid hb1; have HA1 := Lib.hid (HA.out.grown hg); clear hg))
    by_cases hc : lastZ' t ≤ x
    · have hd0 : D = 0 := by rw [← HD.out, T.deg_none (t := t) (x := x) (fun i hi => by have := ht i hi; omega)]
      go_wp2_with fail
      go_ret
      exact ⟨by rw [hd0]; rfl, Gr.trans G0.out G1.out⟩
    · have hn0 : 0 < t.length := by
        cases t with
        | nil => exact absurd (by simp [lastZ']; omega) hc
        | cons _ _ => simp
      obtain ⟨j, hj, hd⟩ := T.deg_some (t := t) (x := x) (by omega) hn0 (by have : ¬ lastZ' t ≤ x := hc; unfold lastZ' at this; omega)
      have hda : T.degA t x 0 = ((j + 1 : Nat) : Int) := by
        rw [← hd]
        unfold T.deg
        rw [if_neg (by omega)]
      have HDA := Lib.hid hda
      have hdj : D = ((j + 1 : Nat) : Int) := by rw [← HD.out, hd]
      clear hd hda
      go_wp2_with fail
      refine (index_any _ t x w.heap.size _ HA1.out HL.out HB1.out).mono ?_
      rw [HDA.out]
      rintro e w2 ⟨rfl, hg2⟩
      have G2 := Lib.hid (Gr.trans G0.out (Gr.trans G1.out hg2))
      clear hg2 HDA
      go_wp2_with fail
      go_ret
      exact ⟨congrArg Ending.returned (congrArg (Value.int .i64) (by omega)), G2.out⟩
/-- What the weight of k has more. -/
def robustP (N k : Nat) : Nat := (if k < T.peak N then 1048576 * T.root N / (N * k) else 0) + (if k = T.peak N then 1048576 * T.root N * T.digits 9 (T.root N) / N else 0)
theorem weight_parts (N k : Nat) : T.weight N k = idealP N k + robustP N k := by
  unfold T.weight idealP robustP
  omega
set_option maxHeartbeats 400000 in
theorem robust_any (N k : Nat) (w : World) (h1 : 1 ≤ N) (h2 : N ≤ 64) (k1 : 1 ≤ k) (k2 : k ≤ 64) :
    Calls Try.prog 23 #[.int .i64 N, .int .i64 (T.root N : Nat), .int .i64 k] w fun e w' => e = .returned (.int .i64 (robustP N k : Nat)) ∧ Gr w w' := by
  obtain ⟨q1, q2, q3, q4⟩ := T.root_ok N (by omega) h1
  have HP : Hid (T.peak N = N / T.root N) := Lib.hid rfl
  obtain ⟨d, hd⟩ : ∃ d, T.digits 9 (T.root N) = d := ⟨_, rfl⟩
  have hd4 : d ≤ 4 := by rw [← hd]; exact T.digits_le _ (by omega)
  have HLEN : Hid (∀ w, Calls Try.prog 29 #[.int .u64 (T.root N : Nat)] w fun e w' => e = .returned (.int .i64 (d : Nat)) ∧ Gr w w') := Lib.hid (fun w => by rw [← hd]; exact len_any _ w q2 q3)
  unfold robustP
  rw [hd]
  generalize T.root N = r at *
  obtain ⟨p, hp⟩ : ∃ p, N / r = p := ⟨_, rfl⟩
  have hpi : (N : Int) / r = p := by rw [← hp, Int.natCast_ediv]
  have hp64 : p ≤ 64 := by rw [← hp]; exact Nat.le_trans (Nat.div_le_self _ _) h2
  rw [HP.out, hp]
  clear hp HP hd q1 q4
  obtain ⟨R1, hR1⟩ : ∃ R1, 1048576 * r = R1 := ⟨_, rfl⟩
  have fR1 : (1048576 : Int) * r = R1 := by rw [← hR1, Int.natCast_mul]; rfl
  have bR1 : R1 ≤ 8388608 := by omega
  rw [hR1]
  clear hR1
  by_cases c1 : k < p
  · rw [if_pos c1, if_neg (by omega)]
    obtain ⟨Q, hQ⟩ : ∃ Q, N * k = Q := ⟨_, rfl⟩
    have fQ : (N : Int) * k = Q := by rw [← hQ, Int.natCast_mul]
    have bQ : Q ≤ 4096 := by rw [← hQ]; exact Nat.le_trans (Nat.mul_le_mul h2 (by omega : k ≤ 64)) (by omega)
    have fQ1 : 1 ≤ Q := by rw [← hQ]; exact Nat.mul_pos (by omega) (by omega)
    obtain ⟨a3, ha3⟩ : ∃ a3, R1 / Q = a3 := ⟨_, rfl⟩
    have fa3 : (R1 : Int) / Q = a3 := by rw [← ha3, Int.natCast_ediv]
    have ba3 : a3 ≤ 8388608 := by rw [← ha3]; exact Nat.le_trans (Nat.div_le_self _ _) bR1
    rw [hQ, ha3]
    clear hQ ha3
    go_enter Try.func23, Try.ntmps23
    go_wp2_with fail
    go_ret
    exact ⟨congrArg Ending.returned (congrArg (Value.int .i64) (by omega)), Gr.refl _⟩
  · rw [if_neg c1]
    by_cases c2 : k = p
    · rw [if_pos c2]
      obtain ⟨R2, hR2⟩ : ∃ R2, R1 * d = R2 := ⟨_, rfl⟩
      have fR2 : (R1 : Int) * d = R2 := by rw [← hR2, Int.natCast_mul]
      have bR2 : R2 ≤ 8388608 * 4 := by rw [← hR2]; exact Nat.mul_le_mul bR1 hd4
      obtain ⟨a4, ha4⟩ : ∃ a4, R2 / N = a4 := ⟨_, rfl⟩
      have fa4 : (R2 : Int) / N = a4 := by rw [← ha4, Int.natCast_ediv]
      have ba4 : a4 ≤ 8388608 * 4 := by rw [← ha4]; exact Nat.le_trans (Nat.div_le_self _ _) bR2
      rw [hR2, ha4]
      clear hR2 ha4
      have hkp : ((k : Int) == p) = true := by simp; omega
      clear c2
      go_enter Try.func23, Try.ntmps23
      go_wp2_with (first | (go_at_call 29; refine (HLEN.out _).mono ?_; rintro e w1 ⟨rfl, hg1⟩; have G1 := Lib.hid hg1; clear hg1))
      go_ret
      exact ⟨congrArg Ending.returned (congrArg (Value.int .i64) (by omega)), G1.out⟩
    · rw [if_neg c2]
      have hkp : ((k : Int) == p) = false := by simp; omega
      clear c2
      go_enter Try.func23, Try.ntmps23
      go_wp2_with fail
      go_ret
      exact ⟨rfl, Gr.refl _⟩
end Go.Proofs.Ytkmnhcegaagokaa
