/-
  Texts laid behind one another: Sd Se Lt Zm Ow Qe Qi Qk Ql Ia.
-/
import Derived.Test.YtbbglejdfbkjlaaGreatMpab
import Derived.Test.YtbbglejdfbkjlaaGreatMpan
import Derived.Deep.CutBlock
import Derived.Lib.BitFns
import Derived.Test.YtbbglejdfbkjlaaGreatMpaf
import Derived.Test.YtbbglejdfbkjlaaGreatMpak
import Derived.Test.YtbbglejdfbkjlaaGreatMpad
namespace Go.Proofs.YtbbglejdfbkjlaaGreat
open Go.RowKit
set_option maxHeartbeats 400000 in
theorem last_any (v : Value) (t : List Int) (w : World) (h : Zs w v t) (hl : t.length ≤ 1000) :
  Calls Tryz.prog 140 #[v] w fun e w' => e = .returned (.int .i64 (lastZ' t)) ∧ Gr w w' := by
 by_cases h0 : 0 < t.length
 ·obtain ⟨a, c, rfl, h1, h2, h3⟩ := Zs.at h h0
  have q := h3 (t.length - 1) (by omega)
  have hrng := h.rng (t.length - 1) (by omega)
  rw [show t.getD (t.length - 1) 0 = lastZ' t from rfl] at q hrng
  generalize lastZ' t = y at *
  obtain ⟨n, hn⟩ : ∃ n, t.length = n := ⟨_, rfl⟩
  rw [hn] at q h1 h0 hl ⊢
  clear h h3 hn
  obtain ⟨m, rfl⟩ : ∃ m, n = m + 1 := ⟨n - 1, by omega⟩
  rw [Nat.add_sub_cancel] at q
  have hb : (((m + 1 : Nat) : Int) == 0) = false := by simp; omega
  go_enter Tryz.func140, Tryz.ntmps140
  go_wp2
  go_ret
  exact ⟨rfl, Gr.refl _⟩
 ·obtain rfl : t = [] := List.eq_nil_of_length_eq_zero (by omega)
  obtain ⟨oa, c, rfl⟩ := h.form
  clear h
  rw [show lastZ' [] = 0 from rfl]
  go_enter Tryz.func140, Tryz.ntmps140
  go_wp2
  go_ret
  exact ⟨rfl, Gr.refl _⟩
set_option maxHeartbeats 400000 in
theorem rootUp_any (N : Nat) (w : World) (h1 : 1 ≤ N) (h2 : N ≤ 64) :
  Calls Tryz.prog 141 #[.int .i64 N] w fun e w' => e = .returned (.int .i64 (T.root N : Nat)) ∧ Gr w w' := by
 obtain ⟨R, hR⟩ : ∃ R, T.root N = R := ⟨_, rfl⟩
 rw [hR]
 have HR := Lib.hid hR
 clear hR
 go_enter Tryz.func141, Tryz.ntmps141
 go_wp2
 go_loopw [3] (fun i wr => w = wr ∧ ∃ r : Nat, r ≤ 8 ∧ 1 ≤ r ∧ i = .int .i64 r ∧ ∀ j, j < r → j * j < N) (fun i _ => 8 - (intOf i).toNat)
 case atStart => exact ⟨rfl, 1, by omega, by omega, rfl, fun j hj => by
   have hj0 : j = 0 := by omega
   rw [hj0]
   omega⟩
 case round =>
  obtain ⟨rfl, r, hr, hr1, rfl, hs⟩ := hrel
  have HS := Lib.hid hs
  obtain ⟨q, hq⟩ : ∃ q, r * r = q := ⟨_, rfl⟩
  have hq2 : (r : Int) * r = q := by rw [← hq, Int.natCast_mul]
  have hq3 : q ≤ 64 := by rw [← hq]; exact Nat.mul_le_mul hr hr
  have HQ := Lib.hid hq
  clear hs hq
  by_cases hlt : q < N
  ·have h8 : r ≠ 8 := fun c => by
    rw [c] at HQ
    have := HQ.out
    omega
   go_wp2
   refine ⟨⟨trivial, r + 1, by omega, by omega, by go_num, fun j hj => ?_⟩, ?_⟩
   ·by_cases e : j = r
    ·rw [e, HQ.out]; exact hlt
    ·exact HS.out j (by omega)
   ·simp [intOf]
    omega
  ·have hroot := T.root_eq h1 h2 (by rw [HQ.out]; omega) HS.out
   rw [HR.out] at hroot
   subst hroot
   go_wp2
   go_ret
   exact ⟨rfl, Gr.refl _⟩
def idealP (N k : Nat) : Nat := if 1 < k then 1048576 / (k * (k - 1)) else 1048576 / N
set_option maxHeartbeats 400000 in
theorem ideal_any (N k : Nat) (w : World) (h1 : 1 ≤ N) (h2 : N ≤ 64) (k1 : 1 ≤ k) (k2 : k ≤ 64) :
  Calls Tryz.prog 142 #[.int .i64 N, .int .i64 k] w fun e w' => e = .returned (.int .i64 (idealP N k : Nat)) ∧ Gr w w' := by
 by_cases c : 1 < k
 ·have e1 : idealP N k = 1048576 / (k * (k - 1)) := if_pos c
  rw [e1]
  have hk2 : k * (k - 1) ≤ 4032 := Nat.le_trans (Nat.mul_le_mul (by omega : k ≤ 64) (by omega : k - 1 ≤ 63)) (by omega)
  obtain ⟨P, hP⟩ : ∃ P, k * (k - 1) = P := ⟨_, rfl⟩
  have fP : (k : Int) * ((k : Int) - 1) = P := by
   rw [← hP, Int.natCast_mul]
   congr 1
   omega
  have fP1 : 1 ≤ P := by rw [← hP]; exact Nat.mul_pos (by omega) (by omega)
  rw [hP] at hk2 ⊢
  obtain ⟨a2, ha2⟩ : ∃ a2, 1048576 / P = a2 := ⟨_, rfl⟩
  have fa2 : (1048576 : Int) / P = a2 := by rw [← ha2, Int.natCast_ediv]; rfl
  have ba2 : a2 ≤ 1048576 := by rw [← ha2]; exact Nat.div_le_self _ _
  rw [ha2]
  clear hP ha2 e1
  have hb : ((k : Int) == 1) = false := by simp; omega
  go_enter Tryz.func142, Tryz.ntmps142
  go_wp2
  go_ret
  exact ⟨by rw [← fa2]; rfl, Gr.refl _⟩
 ·obtain rfl : k = 1 := by omega
  rw [show idealP N 1 = 1048576 / N from rfl]
  obtain ⟨a2, ha2⟩ : ∃ a2, 1048576 / N = a2 := ⟨_, rfl⟩
  have fa2 : (1048576 : Int) / N = a2 := by rw [← ha2, Int.natCast_ediv]; rfl
  have ba2 : a2 ≤ 1048576 := by rw [← ha2]; exact Nat.div_le_self _ _
  rw [ha2]
  clear ha2
  go_enter Tryz.func142, Tryz.ntmps142
  go_wp2
  go_ret
  exact ⟨by rw [← fa2]; rfl, Gr.refl _⟩
theorem digits_len : ∀ r, r < 9 → Lib.len8 ((r : Nat) : Int) = (T.digits 9 r : Nat) := by decide +kernel
set_option maxRecDepth 100000 in
set_option maxHeartbeats 800000 in
theorem len_any (r : Nat) (w : World) (h1 : 1 ≤ r) (h2 : r ≤ 8) :
  Calls Tryz.prog 153 #[.int .u64 r] w fun e w' => e = .returned (.int .i64 (T.digits 9 r : Nat)) ∧ Gr w w' := by
 have key : ∀ (x : Int) w, x = r → Calls Tryz.prog 158 #[.int .u64 x] w fun e w' => e = .returned (.int .i64 (Lib.len8 x)) ∧ Gr w w' := by
  intro x w hx
  have hb := T.digits_le r (by omega)
  have hl : 0 ≤ Lib.len8 x ∧ Lib.len8 x ≤ 4 := by rw [hx, digits_len r (by omega)]; omega
  have hx1 : 1 ≤ x := by omega
  have hx2 : x ≤ 8 := by omega
  clear hb hx h1 h2
  have hsz : x.toNat < Lib.len8tab.size := by rw [Lib.len8tab_size]; omega
  have e : ((Lib.len8tab[x.toNat]'hsz).toNat : Int) = Lib.len8 x := by
   unfold Lib.len8
   rw [getElem?_pos Lib.len8tab x.toNat hsz]
   rfl
  have E := Lib.hid e
  clear e
  go_enter Tryz.func158, Tryz.ntmps158
  go_wp2
  go_ret
  refine ⟨congrArg Ending.returned (congrArg (Value.int IntKind.i64) ?_), Gr.refl _⟩
  rw [E.out]
  unfold wrap64
  omega
 rw [← digits_len r (by omega)]
 go_enter Tryz.func153, Tryz.ntmps153
 go_wp2_with fail
 refine (key _ _ rfl).mono ?_
 rintro e w' ⟨rfl, hg⟩
 have G := Lib.hid hg
 clear hg
 go_wp2
 go_ret
 exact ⟨rfl, G.out⟩
set_option maxHeartbeats 400000 in
theorem index_any (v : Value) (t : List Int) (x : Int) (B : Nat) (w : World) (h : Zs w v t) (hl : t.length ≤ 1000) (hB : w.cell? ⟨B, 0, none⟩ = some (.int .i64 x)) :
  Calls Tryz.prog 133 #[v, .func (.func 152) #[] #[.pointer (some ⟨B, 0, none⟩)]] w fun e w' => e = .returned (.int .i64 (T.degA t x 0 - 1)) ∧ Gr w w' := by
 obtain ⟨_, oa, c, rfl, h1, h2, h3, h4⟩ := h
 obtain ⟨n, hn⟩ : ∃ n, t.length = n := ⟨_, rfl⟩
 rw [hn] at h1 h4 hl ⊢
 have HN := Lib.hid hn
 have HC := Lib.hid h4
 have HO : Hid (oa = none → n = 0) := Lib.hid (fun e => by have := h3 e; omega)
 clear h3 h4 hn
 go_enter Tryz.func133, Tryz.ntmps133
 go_wp2
 go_loopw [8] (fun i wr => wr = w ∧ ∃ k : Nat, k ≤ n ∧ i = .int .i64 k ∧ ∀ j, j < k → t.getD j 0 ≤ x) (fun i _ => n - (intOf i).toNat)
 case atStart => exact ⟨rfl, 0, by omega, rfl, by omega⟩
 case round =>
  obtain ⟨rfl, k, hk, rfl, hs⟩ := hrel
  have HS := Lib.hid hs
  clear hs
  by_cases hlt : k < n
  ·obtain ⟨a, rfl⟩ : ∃ a, oa = some a := by
    cases oa with
    | none => exact absurd (HO.out rfl) (by omega)
    | some a => exact ⟨a, rfl⟩
   have q := HC.out a rfl k hlt
   obtain ⟨y, hy⟩ : ∃ y, t.getD k 0 = y := ⟨_, rfl⟩
   rw [hy] at q
   have HY := Lib.hid hy
   clear hy
   by_cases hxy : x < y
   ·go_wp2_with (first | go_in)
    go_ret
    exact ⟨by rw [T.degA_at t x 0 k (by rw [HN.out]; exact hlt) HS.out (by rw [HY.out]; exact hxy)]; simp, Gr.refl _⟩
   ·go_wp2_with (first | go_in)
    refine ⟨⟨trivial, k + 1, by omega, by go_num, fun j hj => ?_⟩, by simp [intOf]; omega⟩
    by_cases e : j = k
    ·rw [e, HY.out]; omega
    ·exact HS.out j (by omega)
  ·obtain rfl : k = n := by omega
   go_wp2
   go_ret
   exact ⟨by rw [T.degA_none t x 0 (fun i hi => HS.out i (by rw [HN.out] at hi; exact hi))]; rfl, Gr.refl _⟩
def Top (t : List Int) : Prop := ∀ i, i < t.length → t.getD i 0 ≤ lastZ' t
theorem tab_top (l : Int) : Top (T.tab l) ∧ (T.tab l).length ≤ 64 := by
 by_cases hin : 1 ≤ l ∧ l ≤ 64
 ·obtain ⟨N, rfl⟩ : ∃ N : Nat, l = N := ⟨l.toNat, by omega⟩
  rw [T.tab_in (by omega) (by omega)]
  refine ⟨fun i hi => ?_, by rw [T.tabZ_length]; omega⟩
  rw [T.tabZ_length] at hi
  unfold lastZ'
  rw [T.tabZ_length, T.tabZ_at hi, T.tabZ_at (by omega)]
  by_cases e : i = N - 1
  ·rw [e]; omega
  ·have := T.sum_lt (l := N) (by omega) (by omega) (N - 1 + 1) (i + 1) (by omega) (by omega)
   omega
 ·rw [T.tab_out hin]
  exact ⟨fun i hi => absurd hi (by simp), by simp⟩
set_option maxHeartbeats 400000 in
theorem degree_any (v : Value) (t : List Int) (x : Int) (w : World) (h : Zs w v t) (ht : Top t) (hl : t.length ≤ 1000) (hx : I64 x) :
  Calls Tryz.prog 138 #[v, .int .i64 x] w fun e w' => e = .returned (.int .i64 (T.deg t x)) ∧ Gr w w' := by
 have H := Lib.hid h
 have HX := Lib.hid hx
 have HB : Hid ((w.alloc (.cells #[.int .i64 x] 3)).cell? ⟨w.heap.size, 0, none⟩ = some (.int .i64 x)) := Lib.hid (by rw [World.cell?_alloc_at _ _ _ _ rfl]; rfl)
 have G0 : Hid (Gr w (w.alloc (.cells #[.int .i64 x] 3))) := Lib.hid (Gr.alloc (Gr.refl _) _ _)
 have hb := HB.out
 have HA := Lib.hid (H.out.grown G0.out)
 have HL := Lib.hid hl
 have hmf : ∀ (fn : Fn) (first cap : Array Value) (w : World), (Instr.makeFunc fn first cap).run Tryz.prog w = .ok (.func fn first cap) w := fun _ _ _ _ => rfl
 obtain ⟨D, hD⟩ : ∃ D, T.deg t x = D := ⟨_, rfl⟩
 rw [hD]
 have HD := Lib.hid hD
 clear h hx hD
 go_enter Tryz.func138, Tryz.ntmps138
 by_cases h0 : x < 0
 ·have hd0 : D = 0 := by rw [← HD.out, T.deg_low h0]
  have hbt : decide (x < 0) = true := by simpa using h0
  go_wp2_with fail
  go_quiet (fail)
  go_wp2
  go_ret
  exact ⟨by rw [hd0]; rfl, G0.out⟩
 ·have hbb : decide (x < 0) = false := by simpa using h0
  go_wp2_with fail
  go_region_held3 (fun W => W.cell? ⟨w.heap.size, 0, none⟩ = some (.int .i64 x)) (first | exact HB1.out | exact HB.out | go_keep) (first
    | (go_at_call 140; refine (last_any _ t _ (HA.out.grown (Gr.drew (Gr.refl _))) HL.out).mono ?_; rintro e w1 ⟨rfl, hg⟩; have G1 := Lib.hid hg; have hb1 := cell_gr hg HB.out; have HB1 := Lib.hid hb1; have HA1 := Lib.hid (HA.out.grown hg); clear hg))
  by_cases hc : lastZ' t ≤ x
  ·have hd0 : D = 0 := by rw [← HD.out, T.deg_none (t := t) (x := x) (fun i hi => by have := ht i hi; omega)]
   go_wp2_with fail
   go_ret
   exact ⟨by rw [hd0]; rfl, Gr.trans G0.out G1.out⟩
  ·have hn0 : 0 < t.length := by
    cases t with
    | nil => exact absurd (by simp [lastZ']; omega) hc
    | cons _ _ => simp
   obtain ⟨j, hj, hd⟩ := T.deg_some (t := t) (x := x) (by omega) hn0 (by have : ¬ lastZ' t ≤ x := hc; unfold lastZ' at this; omega)
   have hda : T.degA t x 0 = ((j + 1 : Nat) : Int) := by
    rw [← hd]
    unfold T.deg
    rw [if_neg (by omega)]
   have HDA := Lib.hid hda
   have hdj : D = ((j + 1 : Nat) : Int) := by rw [← HD.out, hd]
   clear hd hda
   go_wp2_with fail
   refine (index_any _ t x w.heap.size _ HA1.out HL.out HB1.out).mono ?_
   rw [HDA.out]
   rintro e w2 ⟨rfl, hg2⟩
   have G2 := Lib.hid (Gr.trans G0.out (Gr.trans G1.out hg2))
   clear hg2 HDA
   go_wp2_with fail
   go_ret
   exact ⟨congrArg Ending.returned (congrArg (Value.int .i64) (by omega)), G2.out⟩
def robustP (N k : Nat) : Nat := (if k < T.peak N then 1048576 * T.root N / (N * k) else 0) + (if k = T.peak N then 1048576 * T.root N * T.digits 9 (T.root N) / N else 0)
theorem weight_parts (N k : Nat) : T.weight N k = idealP N k + robustP N k := by
 unfold T.weight idealP robustP
 omega
set_option maxHeartbeats 400000 in
theorem robust_any (N k : Nat) (w : World) (h1 : 1 ≤ N) (h2 : N ≤ 64) (k1 : 1 ≤ k) (k2 : k ≤ 64) :
  Calls Tryz.prog 143 #[.int .i64 N, .int .i64 (T.root N : Nat), .int .i64 k] w fun e w' => e = .returned (.int .i64 (robustP N k : Nat)) ∧ Gr w w' := by
 obtain ⟨q1, q2, q3, q4⟩ := T.root_ok N (by omega) h1
 have HP : Hid (T.peak N = N / T.root N) := Lib.hid rfl
 obtain ⟨d, hd⟩ : ∃ d, T.digits 9 (T.root N) = d := ⟨_, rfl⟩
 have hd4 : d ≤ 4 := by rw [← hd]; exact T.digits_le _ (by omega)
 have HLEN : Hid (∀ w, Calls Tryz.prog 153 #[.int .u64 (T.root N : Nat)] w fun e w' => e = .returned (.int .i64 (d : Nat)) ∧ Gr w w') := Lib.hid (fun w => by rw [← hd]; exact len_any _ w q2 q3)
 unfold robustP
 rw [hd]
 generalize T.root N = r at *
 obtain ⟨p, hp⟩ : ∃ p, N / r = p := ⟨_, rfl⟩
 have hpi : (N : Int) / r = p := by rw [← hp, Int.natCast_ediv]
 have hp64 : p ≤ 64 := by rw [← hp]; exact Nat.le_trans (Nat.div_le_self _ _) h2
 rw [HP.out, hp]
 clear hp HP hd q1 q4
 obtain ⟨R1, hR1⟩ : ∃ R1, 1048576 * r = R1 := ⟨_, rfl⟩
 have fR1 : (1048576 : Int) * r = R1 := by rw [← hR1, Int.natCast_mul]; rfl
 have bR1 : R1 ≤ 8388608 := by omega
 rw [hR1]
 clear hR1
 by_cases c1 : k < p
 ·rw [if_pos c1, if_neg (by omega)]
  obtain ⟨Q, hQ⟩ : ∃ Q, N * k = Q := ⟨_, rfl⟩
  have fQ : (N : Int) * k = Q := by rw [← hQ, Int.natCast_mul]
  have bQ : Q ≤ 4096 := by rw [← hQ]; exact Nat.le_trans (Nat.mul_le_mul h2 (by omega : k ≤ 64)) (by omega)
  have fQ1 : 1 ≤ Q := by rw [← hQ]; exact Nat.mul_pos (by omega) (by omega)
  obtain ⟨a3, ha3⟩ : ∃ a3, R1 / Q = a3 := ⟨_, rfl⟩
  have fa3 : (R1 : Int) / Q = a3 := by rw [← ha3, Int.natCast_ediv]
  have ba3 : a3 ≤ 8388608 := by rw [← ha3]; exact Nat.le_trans (Nat.div_le_self _ _) bR1
  rw [hQ, ha3]
  clear hQ ha3
  go_enter Tryz.func143, Tryz.ntmps143
  go_wp2_with fail
  go_ret
  exact ⟨congrArg Ending.returned (congrArg (Value.int .i64) (by omega)), Gr.refl _⟩
 ·rw [if_neg c1]
  by_cases c2 : k = p
  ·rw [if_pos c2]
   obtain ⟨R2, hR2⟩ : ∃ R2, R1 * d = R2 := ⟨_, rfl⟩
   have fR2 : (R1 : Int) * d = R2 := by rw [← hR2, Int.natCast_mul]
   have bR2 : R2 ≤ 8388608 * 4 := by rw [← hR2]; exact Nat.mul_le_mul bR1 hd4
   obtain ⟨a4, ha4⟩ : ∃ a4, R2 / N = a4 := ⟨_, rfl⟩
   have fa4 : (R2 : Int) / N = a4 := by rw [← ha4, Int.natCast_ediv]
   have ba4 : a4 ≤ 8388608 * 4 := by rw [← ha4]; exact Nat.le_trans (Nat.div_le_self _ _) bR2
   rw [hR2, ha4]
   clear hR2 ha4
   have hkp : ((k : Int) == p) = true := by simp; omega
   clear c2
   go_enter Tryz.func143, Tryz.ntmps143
   go_wp2_with (first | (go_at_call 153; refine (HLEN.out _).mono ?_; rintro e w1 ⟨rfl, hg1⟩; have G1 := Lib.hid hg1; clear hg1))
   go_ret
   exact ⟨congrArg Ending.returned (congrArg (Value.int .i64) (by omega)), G1.out⟩
  ·rw [if_neg c2]
   have hkp : ((k : Int) == p) = false := by simp; omega
   clear c2
   go_enter Tryz.func143, Tryz.ntmps143
   go_wp2_with fail
   go_ret
   exact ⟨rfl, Gr.refl _⟩
end Go.Proofs.YtbbglejdfbkjlaaGreat
namespace Go.Proofs.YtbbglejdfbkjlaaGreat
open Go.RowKit
set_option maxHeartbeats 800000 in
theorem draw_deg {At : World → Value → (Nat → Prop) → Nat → Prop} (D : DrawOk At) (v d : Value) (t : List Int) (F : Nat → Prop) (s : Nat) (w : World) (hs : s < 18446744073709551616) (h : Zs w v t) (ht : Top t) (hl : t.length ≤ 1000) (ha : AwayZ F v) (hd : At w d F s) :
  Calls Tryz.prog 114 #[v, d] w fun e w' => e = .returned (.int .i64 (drawV t s)) ∧ At w' d F (drawS t s) ∧ Kp F w w' := by
 by_cases h0 : t = []
 ·subst h0
  obtain ⟨oa, c, rfl⟩ := h.form
  have HD := Lib.hid hd
  clear h hd ht ha
  rw [show drawV [] s = 0 from if_pos rfl, show drawS [] s = s from if_pos rfl]
  go_enter Tryz.func114, Tryz.ntmps114
  go_wp2
  go_ret
  exact ⟨rfl, HD.out, Kp.refl _ _⟩
 ·have e1 : drawV t s = T.deg t (belowV s (lastZ' t)) := if_neg h0
  have e2 : drawS t s = belowS s (lastZ' t) := if_neg h0
  rw [e1, e2]
  have hn0 : 0 < t.length := List.length_pos_iff.2 h0
  have hrng := h.rng (t.length - 1) (by omega)
  rw [show t.getD (t.length - 1) 0 = lastZ' t from rfl] at hrng
  obtain ⟨oa, c, rfl⟩ := h.form
  have hbz : (((t.length : Nat) : Int) == 0) = false := by simp; exact h0
  obtain ⟨ad, rfl⟩ := D.ptr hd
  have HZ := Lib.hid h
  have HD := Lib.hid hd
  have HL0 := Lib.hid hl
  obtain ⟨y, hy⟩ : ∃ y, lastZ' t = y := ⟨_, rfl⟩
  have HAW := Lib.hid ha
  have HT := Lib.hid ht
  have HOK := Lib.hid D
  have HBV : Hid (I64 (belowV s (lastZ' t))) := Lib.hid (by
    have hr : I64 (lastZ' t) := hrng
    unfold I64 at *
    unfold belowV
    split
    · omega
    · rename_i hp
      have a1 := Int.emod_nonneg ((topS (nextS s) : Nat) : Int) (by omega : lastZ' t ≠ 0)
      have a2 := Int.emod_lt_of_pos ((topS (nextS s) : Nat) : Int) (by omega : 0 < lastZ' t)
      omega)
  rw [hy] at hrng HBV ⊢
  have HY := Lib.hid hy
  unfold I64 at hrng
  clear h hd ha ht hl D e1 e2 h0 hy
  generalize hn : t.length = n at *
  have HL1 : Hid (t.length ≤ 1000) := Lib.hid (by rw [hn]; exact HL0.out)
  clear hn HL0
  go_enter Tryz.func114, Tryz.ntmps114
  go_wp2_with fail
  refine (last_any _ t _ HZ.out HL1.out).mono ?_
  rw [HY.out]
  rintro e w1 ⟨rfl, hg1⟩
  have HD1 := Lib.hid (HOK.out.keep HD.out (hg1.kp fun _ => False) fun _ _ e => e)
  have HZ1 := Lib.hid (HZ.out.grown hg1)
  have G1 := Lib.hid hg1
  clear hg1
  go_wp2_with fail
  refine (HOK.out.below _ F s y _ hs hrng.2 hrng.1 HD1.out).mono ?_
  rintro e w2 ⟨rfl, hd2, hk2⟩
  have HD2 := Lib.hid hd2
  have HK2 := Lib.hid (((G1.out.kp F)).trans hk2 fun k e => .inl e)
  have HZ2 := Lib.hid (HZ1.out.kp hk2 HAW.out)
  clear hd2 hk2
  go_wp2_with fail
  refine (degree_any _ t _ _ HZ2.out HT.out HL1.out HBV.out).mono ?_
  rintro e w3 ⟨rfl, hg3⟩
  have HD3 := Lib.hid (HOK.out.keep HD2.out (hg3.kp fun _ => False) fun _ _ e => e)
  have HK3 := Lib.hid (HK2.out.trans (hg3.kp F) fun k e => .inl e)
  clear hg3
  go_wp2
  go_ret
  exact ⟨rfl, HD3.out, HK3.out⟩
def partT (N i : Nat) : List Int := tabV N i ++ List.replicate (N - i) 0
theorem partT_zero (N : Nat) : partT N 0 = List.replicate N 0 := by simp [partT, tabV]
theorem partT_all (N : Nat) : partT N N = T.tabZ N := by simp [partT, tabV, T.tabZ]
theorem partT_length {N i : Nat} (h : i ≤ N) : (partT N i).length = N := by
 simp [partT, tabV]
 omega
theorem partT_set {N i : Nat} (h : i < N) : (partT N i).set i ((T.sum N (i + 1) : Nat) : Int) = partT N (i + 1) := by
 unfold partT
 have hl : (tabV N i).length = i := by simp [tabV]
 rw [List.set_append, if_neg (by omega), hl, Nat.sub_self]
 obtain ⟨m, hm⟩ : ∃ m, N - i = m + 1 := ⟨N - i - 1, by omega⟩
 rw [hm, List.replicate_succ, List.set_cons_zero, tabV_succ, show N - (i + 1) = m from by omega, List.append_assoc]
 simp [T.sum]
theorem Blz.set {w : World} {g : Nat} {L : List Int} (h : Blz w g L) (i : Nat) (x : Int) : Blz (w.setCell ⟨g, i, none⟩ (.int .i64 x)) g (L.set i x) := by
 unfold Blz at *
 rw [heap_setCell_same _ _ _ _ _ _ h, rowZ_set]
theorem Blz.frozen {w : World} {g : Nat} {L : List Int} (h : Blz w g L) (i : Nat) : w.frozen? ⟨g, i, none⟩ = false := frozen_of_row w g i _ _ h
set_option maxRecDepth 100000 in
set_option maxHeartbeats 1600000 in
theorem table_in (N : Nat) (w : World) (h1 : 1 ≤ N) (h2 : N ≤ 64) :
  Calls Tryz.prog 115 #[.int .i64 N] w fun e w' => ∃ v, e = .returned v ∧ Zs w' v (T.tabZ N) ∧ Gr w w' := by
 have hmk := makeZ N N (by omega) (by omega)
 go_enter Tryz.func115, Tryz.ntmps115
 go_wp2_with fail
 refine (rootUp_any N _ h1 h2).mono ?_
 rintro e w1 ⟨rfl, hg1⟩
 have G1 := Lib.hid hg1
 clear hg1
 go_wp2_with fail
 obtain ⟨g, hg⟩ : ∃ g, w1.heap.size = g := ⟨_, rfl⟩
 have hgl : w.heap.size ≤ g := by have := G1.out.size; omega
 have B0 : Hid (Blz (w1.alloc (.cells (rowZ (List.replicate N 0)) 3)) g (partT N 0)) := Lib.hid (by
   rw [partT_zero, ← hg]
   exact heap_alloc_new _ _)
 have G2 : Hid (Gr w (w1.alloc (.cells (rowZ (List.replicate N 0)) 3))) := Lib.hid (Gr.alloc G1.out _ _)
 rw [hg]
 generalize w1.alloc (.cells (rowZ (List.replicate N 0)) 3) = w2 at *
 clear hmk hg G1
 go_loopw [5, 19] (fun sv iv W => ∃ i : Nat, i ≤ N ∧ iv = .int .i64 i ∧ sv = .int .i64 ((T.sum N i : Nat) : Int) ∧ Blz W g (partT N i) ∧ Gr w W) (fun _ iv _ => N - (intOf iv).toNat)
 case atStart => exact ⟨0, by omega, rfl, rfl, B0.out, G2.out⟩
 case round =>
  obtain ⟨i, hi, rfl, rfl, hb, hgr⟩ := hrel
  have HB := Lib.hid hb
  have HG := Lib.hid hgr
  clear hb hgr
  have hsle := T.sum_le h1 h2 hi
  by_cases hlt : i < N
  ·have hsle2 := T.sum_le h1 h2 (i := i + 1) (by omega)
   have hsw : T.sum N (i + 1) = T.sum N i + (idealP N (i + 1) + robustP N (i + 1)) := by rw [← weight_parts]; rfl
   have HST := Lib.hid (partT_set hlt)
   have HID : Hid (∀ w, Calls Tryz.prog 142 #[.int .i64 N, .int .i64 ((i : Int) + 1)] w fun e w' => e = .returned (.int .i64 (idealP N (i + 1) : Nat)) ∧ Gr w w') := Lib.hid (fun w => ideal_any N (i + 1) w h1 h2 (by omega) (by omega))
   have HRO : Hid (∀ w, Calls Tryz.prog 143 #[.int .i64 N, .int .i64 (T.root N : Nat), .int .i64 ((i : Int) + 1)] w fun e w' => e = .returned (.int .i64 (robustP N (i + 1) : Nat)) ∧ Gr w w') := Lib.hid (fun w => robust_any N (i + 1) w h1 h2 (by omega) (by omega))
   rw [hsw] at HST
   obtain ⟨s2, hs2⟩ : ∃ s2, T.sum N i + (idealP N (i + 1) + robustP N (i + 1)) = s2 := ⟨_, rfl⟩
   rw [hs2] at HST hsw
   rw [hsw] at hsle2
   have HS2 := Lib.hid hsw
   clear hsw
   generalize idealP N (i + 1) = x1 at *
   generalize robustP N (i + 1) = x2 at *
   generalize T.sum N i = s1 at *
   have fs : (s1 : Int) + ((x1 : Int) + x2) = s2 := by omega
   go_wp2_with fail
   refine (HID.out _).mono ?_
   rintro e w3 ⟨rfl, hg3⟩
   have HB3 := Lib.hid (HB.out.grown hg3)
   have HG3 := Lib.hid (HG.out.trans hg3)
   clear hg3
   go_wp2_with fail
   refine (HRO.out _).mono ?_
   rintro e w4 ⟨rfl, hg4⟩
   have HB4 := Lib.hid (HB3.out.grown hg4)
   have HG4 := Lib.hid (HG3.out.trans hg4)
   clear hg4
   have q := HB4.out.cell i (by rw [partT_length hi]; exact hlt)
   have qf := HB4.out.frozen i
   generalize (partT N i).getD i 0 = old at *
   clear hs2
   go_wp2
   refine ⟨⟨i + 1, by omega, by go_num, by rw [HS2.out], ?_, ?_⟩, by simp [intOf]; omega⟩
   ·have h9 := HB4.out.set i (s2 : Int)
    rw [HST.out] at h9
    first | exact h9 | (rw [← fs] at h9; exact h9)
   ·exact HG4.out.setCell hgl _
  ·obtain rfl : i = N := by omega
   go_wp2
   go_ret
   have hz := HB.out
   rw [partT_all] at hz
   have := Blz.zs hz (T.tabZ i) i (by omega) (by rw [T.tabZ_length]; omega) (by omega) (fun x hx => by
     have := tabZ_rng h1 h2 x hx
     unfold I64
     omega) (fun _ _ => rfl)
   rw [T.tabZ_length] at this
   exact ⟨_, rfl, this, HG.out⟩
set_option maxHeartbeats 400000 in
theorem table_any (l : Int) (w : World) : Calls Tryz.prog 115 #[.int .i64 l] w fun e w' => ∃ v, e = .returned v ∧ Zs w' v (T.tab l) ∧ Gr w w' := by
 by_cases hin : 1 ≤ l ∧ l ≤ 64
 ·obtain ⟨N, rfl⟩ : ∃ N : Nat, l = N := ⟨l.toNat, by omega⟩
  rw [T.tab_in (by omega) (by omega)]
  exact table_in N w (by omega) (by omega)
 ·rw [T.tab_out hin]
  by_cases h1 : l < 1
  ·go_enter Tryz.func115, Tryz.ntmps115
   go_wp2
   go_ret
   exact ⟨_, rfl, Zs.nil _, Gr.refl _⟩
  ·have h2 : 64 < l := by omega
   go_enter Tryz.func115, Tryz.ntmps115
   go_wp2
   go_ret
   exact ⟨_, rfl, Zs.nil _, Gr.refl _⟩
theorem sol_ok : SolOk DAt where
 table := fun l w _ => table_any l w
 degree := fun v l x w _ hx h => degree_any v _ x w h (tab_top l).1 (by have := (tab_top l).2; omega) hx
 draw := fun v d l F s w _ hs h ha hd => draw_deg draw_ok v d _ F s w hs h (tab_top l).1 (by have := (tab_top l).2; omega) ha hd
end Go.Proofs.YtbbglejdfbkjlaaGreat
namespace Go.Proofs.YtbbglejdfbkjlaaGreat
open Go.RowKit
theorem OwnZ.low {base base' : Nat} {w : World} {v : Value} {l : List Int} (h : OwnZ base' w v l) (hb : base ≤ base') : OwnZ base w v l := by
 obtain ⟨h0, h | ⟨g, c, C, h1, h2, h3⟩⟩ := h
 ·exact ⟨h0, .inl h⟩
 ·exact ⟨h0, .inr ⟨g, c, C, h1, Nat.le_trans hb h2, h3⟩⟩
theorem DAt.away {w : World} {d v : Value} {F : Nat → Prop} {s : Nat} {l : List Int} (h : DAt w d F s) (hz : Zs w v l) : AwayZ F v := fun a m c hv hm hf => by
 obtain ⟨g, rfl, hb, rfl⟩ := h
 obtain ⟨_, oa, c', he, _, _, _, h5⟩ := hz
 rw [he] at hv
 obtain ⟨rfl, rfl, rfl⟩ : oa = some a ∧ l.length = m ∧ c' = c := by simpa using hv
 have h6 := h5 a rfl 0 hm
 have e : (a.add 0).block = g := by rw [add_blk]; exact hf
 unfold World.cell? at h6
 rw [e, show w.heap[g]? = _ from hb] at h6
 by_cases hs : (a.add 0).spot.isSome = true
 ·simp [hs] at h6
 ·simp only [hs] at h6
  generalize (a.add 0).off = k at h6
  match k with
  | 0 => simp at h6
  | k + 1 => simp at h6
set_option maxHeartbeats 400000 in
theorem may_lt (K H S id : Int) (w : World) :
  Calls Tryz.prog 84 #[par K H S, .int .i64 id] w fun e w' => e = .returned (.bool (decide (MayP K H S ∧ MayI id))) ∧ Gr w w' := by
 have HG0 : Hid (Gr w (w.alloc (.cells #[.int .i64 K, .int .i64 H, .int .i64 S] 23))) := Lib.hid (Gr.alloc (Gr.refl _) _ _)
 by_cases hp : MayP K H S
 ·have hd := decide_eq_true hp
  rw [show decide (MayP K H S ∧ MayI id) = decide (0 ≤ id ∧ id ≤ 65535) from by rw [decide_eq_decide]; unfold MayI; simp [hp]]
  clear hp
  go_enter Tryz.func84, Tryz.ntmps84
  go_wp2_with fail
  refine (may_pre K H S _).mono ?_
  rw [hd]
  rintro e w1 ⟨rfl, hg1⟩
  have HG1 := Lib.hid (Gr.trans HG0.out hg1)
  clear hg1
  go_wp2
  all_goals
   go_ret
   refine ⟨?_, HG1.out⟩
   first
    | (rw [show decide (0 ≤ id) = false from decide_eq_false (by omega)]; rfl)
    | (rw [show decide (0 ≤ id ∧ id ≤ 65535) = decide (id ≤ 65535) from by rw [decide_eq_decide]; omega]; rfl)
 ·have hd := decide_eq_false hp
  rw [show decide (MayP K H S ∧ MayI id) = false from decide_eq_false fun h => hp h.1]
  clear hp
  go_enter Tryz.func84, Tryz.ntmps84
  go_wp2_with fail
  refine (may_pre K H S _).mono ?_
  rw [hd]
  rintro e w1 ⟨rfl, hg1⟩
  have HG1 := Lib.hid (Gr.trans HG0.out hg1)
  clear hg1
  go_wp2_with fail
  go_ret
  exact ⟨rfl, HG1.out⟩
set_option maxHeartbeats 800000 in
theorem source_lt (seed id : Nat) (w : World) (hi : id ≤ 65535) (hs : seed < 4294967296) :
  Calls Tryz.prog 113 #[.int .u32 (seed : Int), .int .i64 (id : Int)] w fun e w' => ∃ g, e = .returned (.pointer (some ⟨g, 0, none⟩)) ∧ DBlk w' g (nextS (mixS seed id)) ∧ Gr w w' ∧ w.heap.size ≤ g := by
 obtain ⟨mx, hmx, hmx2⟩ : ∃ mx : Nat, mixS seed id = mx ∧ mx < 4294967296 := ⟨_, rfl, mixS_lt hs id⟩
 have hxo : bits BinOp.xor IntKind.u32 (seed : Int) ((id : Int) * 2654435761 % 4294967296) = (mx : Int) := by
  rw [show (id : Int) * 2654435761 % 4294967296 = ((id * 2654435761 % 4294967296 : Nat) : Int) from by omega, u32_xor_nat _ _ hs (Nat.mod_lt _ (by omega)), ← hmx]
  rfl
 rw [hmx]
 clear hmx
 go_enter Tryz.func113, Tryz.ntmps113
 go_wp2_with fail
 refine (new_dev mx _ hmx2).mono ?_
 rintro e w1 ⟨g, rfl, hb, hg1, hle⟩
 have HB := Lib.hid hb
 have HG1 := Lib.hid hg1
 have HL := Lib.hid hle
 clear hb hg1 hle
 go_wp2_with fail
 refine (next_dev g mx _ HB.out).mono ?_
 rintro e w2 ⟨rfl, hb2, hk2⟩
 have HB2 := Lib.hid hb2
 have HG2 : Hid (Gr w w2) := Lib.hid (hk2.gr HG1.out (fun k e => by subst e; exact HL.out))
 clear hb2 hk2
 go_wp2_with fail
 go_ret
 exact ⟨_, rfl, HB2.out, HG2.out, HL.out⟩
set_option maxRecDepth 100000 in
set_option maxHeartbeats 1600000 in
theorem cols_in (K H : Nat) (S : Int) (seed id : Nat) (w : World) (hm : MayP K H S) (hi : id ≤ 65535) (hs : seed < 4294967296) :
  Calls Tryz.prog 85 #[par K H S, .int .u32 (seed : Int), .int .i64 (id : Int)] w fun e w' => ∃ v, e = .returned v ∧ OwnZ w.heap.size w' v (atN (K + H) seed id) ∧ Gr w w' := by
 have hd : decide (MayP K H S ∧ MayI (id : Int)) = true := decide_eq_true ⟨hm, by unfold MayI; omega⟩
 have hm' := hm
 obtain ⟨b1, b2, b3, b4, _, _⟩ := hm'
 obtain ⟨N, hN⟩ : ∃ N, K + H = N := ⟨_, rfl⟩
 have hN20 : N ≤ 20 := by omega
 have HCO : Hid (colsP (K : Int) (H : Int) (S : Int) = N) := Lib.hid (by unfold colsP; rw [if_pos (by assumption)]; omega)
 have P0 : Hid (Par (w.alloc (.cells #[.int .i64 (K : Int), .int .i64 (H : Int), .int .i64 S] 23)) w.heap.size K H S) := Lib.hid (heap_alloc_new _ _)
 have HG0 : Hid (Gr w (w.alloc (.cells #[.int .i64 (K : Int), .int .i64 (H : Int), .int .i64 S] 23))) := Lib.hid (Gr.alloc (Gr.refl _) _ _)
 obtain ⟨s1, hs1⟩ : ∃ s, nextS (mixS seed id) = s := ⟨_, rfl⟩
 have HSB : Hid (s1 < 18446744073709551616) := Lib.hid (by rw [← hs1]; exact nextS_lt _)
 obtain ⟨kk, hkk⟩ : ∃ k, drawV (T.tab N) s1 = k := ⟨_, rfl⟩
 obtain ⟨s2, hs2⟩ : ∃ s, drawS (T.tab N) s1 = s := ⟨_, rfl⟩
 have HAT : Hid (atN (K + H) seed id = C.someZ s2 N kk) := Lib.hid (by unfold atN; rw [hN, hs1, hkk, hs2])
 have HKK : Hid (I64 kk) := Lib.hid (by
   rw [← hkk]
   have h1 := drawV_le (T.tab N) s1
   have h2 := tab_length_le' (N : Int)
   exact ⟨by omega, by omega⟩)
 have HDR : Hid (drawV (T.tab N) s1 = kk ∧ drawS (T.tab N) s1 = s2) := Lib.hid ⟨hkk, hs2⟩
 have HS2B : Hid (s2 < 18446744073709551616) := Lib.hid (by
   rw [← hs2]
   unfold drawS belowS
   have := HSB.out
   split
   · exact this
   · split
     · exact this
     · exact nextS_lt _)
 have HSR : Hid (∀ w : World, Calls Tryz.prog 113 #[.int .u32 (seed : Int), .int .i64 (id : Int)] w fun e w' => ∃ g, e = .returned (.pointer (some ⟨g, 0, none⟩)) ∧ DBlk w' g s1 ∧ Gr w w' ∧ w.heap.size ≤ g) := Lib.hid (fun w => by rw [← hs1]; exact source_lt seed id w hi hs)
 have HNN := Lib.hid hN
 clear hN hm hs1 hkk hs2
 go_enter Tryz.func85, Tryz.ntmps85
 go_wp2_with fail
 generalize w.alloc (.cells #[.int .i64 (K : Int), .int .i64 (H : Int), .int .i64 S] 23) = W0 at *
 generalize hgp : w.heap.size = gp at *
 refine (may_lt K H S id _).mono ?_
 rw [hd]
 rintro e w1 ⟨rfl, hg1⟩
 have P1 := Lib.hid (P0.out.grown hg1)
 have HG1 := Lib.hid (Gr.trans HG0.out hg1)
 clear hg1 P0 HG0
 go_wp2_with fail
 refine (HSR.out _).mono ?_
 rintro e w3 ⟨g, rfl, hb3, hg3, hl3⟩
 have HGB : Hid (w.heap.size ≤ g) := Lib.hid (Nat.le_trans HG1.out.size hl3)
 have D3 : Hid (DAt w3 (.pointer (some ⟨g, 0, none⟩)) (fun k => k = g) s1) := Lib.hid ⟨g, rfl, hb3, rfl⟩
 have HG3 := Lib.hid (Gr.trans HG1.out hg3)
 have P3 := Lib.hid (P1.out.grown hg3)
 have c0 := P3.out.cell0
 have c1 := P3.out.cell1
 have c2 := P3.out.cell2
 clear hb3 hg3 hl3 P1 HG1
 go_wp2_with fail
 refine (cols_pre K H S _).mono ?_
 rw [HCO.out]
 rintro e w4 ⟨rfl, hg4⟩
 have D4 := Lib.hid (draw_ok.keep D3.out (hg4.kp fun _ => False) fun _ _ e => e)
 have HG4 := Lib.hid (Gr.trans HG3.out hg4)
 clear hg4 P3 D3 HG3 c0 c1 c2
 go_wp2_with fail
 refine (sol_ok.table N _ ⟨by omega, by omega⟩).mono ?_
 rintro e w5 ⟨v5, rfl, hz5, hg5⟩
 have D5 := Lib.hid (draw_ok.keep D4.out (hg5.kp fun _ => False) fun _ _ e => e)
 have HG5 := Lib.hid (Gr.trans HG4.out hg5)
 have Z5 := Lib.hid hz5
 clear hg5 hz5 D4 HG4
 go_wp2_with fail
 refine (sol_ok.draw v5 _ N _ s1 _ ⟨by omega, by omega⟩ HSB.out Z5.out (DAt.away D5.out Z5.out) D5.out).mono ?_
 rw [HDR.out.1, HDR.out.2]
 rintro e w6 ⟨rfl, hd6, hk6⟩
 have D6 := Lib.hid hd6
 have HG6 : Hid (Gr w w6) := Lib.hid (hk6.gr HG5.out (fun k e => by subst e; exact HGB.out))
 clear hd6 hk6 D5 HG5 Z5
 go_wp2_with fail
 refine (choose_own s2 _ _ N kk _ ⟨by omega, by omega⟩ HKK.out HS2B.out D6.out).mono ?_
 rintro e w8 ⟨v8, rfl, hz8, _, hk8⟩
 have HG8 : Hid (Gr w w8) := Lib.hid (hk8.gr HG6.out (fun k e => by subst e; exact HGB.out))
 have Z8 : Hid (OwnZ w.heap.size w8 v8 (atN (K + H) seed id)) := Lib.hid (by
   rw [HAT.out]
   exact hz8.low HG6.out.size)
 clear hz8 hk8
 go_wp2_with fail
 go_ret
 exact ⟨_, rfl, by rw [← hgp]; exact Z8.out, HG8.out⟩
set_option maxRecDepth 100000 in
set_option maxHeartbeats 800000 in
theorem cols_ne (K H S : Int) (seed : Nat) (id : Int) (w : World) (hm : ¬ (MayP K H S ∧ MayI id)) :
  Calls Tryz.prog 85 #[par K H S, .int .u32 (seed : Int), .int .i64 id] w fun e w' => e = .returned (.slice none 0 0) ∧ Gr w w' := by
 have HG0 : Hid (Gr w (w.alloc (.cells #[.int .i64 K, .int .i64 H, .int .i64 S] 23))) := Lib.hid (Gr.alloc (Gr.refl _) _ _)
 have hd := decide_eq_false hm
 clear hm
 go_enter Tryz.func85, Tryz.ntmps85
 go_wp2_with fail
 refine (may_lt K H S id _).mono ?_
 rw [hd]
 rintro e w1 ⟨rfl, hg1⟩
 have HG1 := Lib.hid (Gr.trans HG0.out hg1)
 clear hg1
 go_wp2_with fail
 go_ret
 exact ⟨rfl, HG1.out⟩
theorem cols_lt (K H S : Int) (seed : Nat) (id : Int) (w : World) (hs : seed < 4294967296) :
  Calls Tryz.prog 85 #[par K H S, .int .u32 (seed : Int), .int .i64 id] w fun e w' => ∃ v, e = .returned v ∧ OwnZ w.heap.size w' v (atP K H S seed id) ∧ Gr w w' := by
 unfold atP
 by_cases hm : MayP K H S ∧ MayI id
 ·rw [if_pos hm]
  obtain ⟨h1, h2⟩ := hm
  obtain ⟨k, hk⟩ : ∃ k : Nat, K = k := ⟨K.toNat, by have := h1.1; omega⟩
  obtain ⟨h, hh⟩ : ∃ h : Nat, H = h := ⟨H.toNat, by have := h1.2.2.1; omega⟩
  obtain ⟨i, hi⟩ : ∃ i : Nat, id = i := ⟨id.toNat, by have := h2.1; omega⟩
  subst hk hh hi
  rw [Int.toNat_natCast, Int.toNat_natCast, Int.toNat_natCast]
  exact cols_in k h S seed i w h1 (by have := h2.2; omega) hs
 ·rw [if_neg hm]
  refine (cols_ne K H S seed id w hm).mono ?_
  rintro e w' ⟨rfl, hg⟩
  exact ⟨_, rfl, ⟨(fun x hx => by cases hx), .inl ⟨rfl, rfl⟩⟩, hg⟩
set_option maxRecDepth 100000 in
set_option maxHeartbeats 1600000 in
theorem row_in (K H : Nat) (S : Int) (seed id : Nat) (w : World) (hm : MayP K H S) (hi : id ≤ 65535) (hs : seed < 4294967296) :
  Calls Tryz.prog 45 #[par K H S, .int .u32 (seed : Int), .int .i64 (id : Int)] w fun e w' => ∃ v, e = .returned v ∧ New w w' v (onesL (K + H) (atN (K + H) seed id)) := by
 have hd : decide (MayP K H S ∧ MayI (id : Int)) = true := decide_eq_true ⟨hm, by unfold MayI; omega⟩
 obtain ⟨N, hN⟩ : ∃ N, K + H = N := ⟨_, rfl⟩
 have hm' := hm
 obtain ⟨b1, b2, b3, b4, _, _⟩ := hm'
 have hN20 : N ≤ 20 := by omega
 have HCO : Hid (colsP (K : Int) (H : Int) (S : Int) = N) := Lib.hid (by unfold colsP; rw [if_pos hm]; omega)
 have HAT := Lib.hid fun (W : World) => cols_in K H S seed id W hm hi hs
 have P0 : Hid (Par (w.alloc (.cells #[.int .i64 (K : Int), .int .i64 (H : Int), .int .i64 S] 23)) w.heap.size K H S) := Lib.hid (heap_alloc_new _ _)
 have HG0 : Hid (Gr w (w.alloc (.cells #[.int .i64 (K : Int), .int .i64 (H : Int), .int .i64 S] 23))) := Lib.hid (Gr.alloc (Gr.refl _) _ _)
 have hmk := make22 N N (by omega) (by omega)
 obtain ⟨cur, hcur⟩ : ∃ cur, cur = rowB (List.replicate N 0) := ⟨_, rfl⟩
 rw [← hcur] at hmk
 have HCU := Lib.hid hcur
 rw [hN] at HAT ⊢
 obtain ⟨A, hA⟩ : ∃ A, atN N seed id = A := ⟨_, rfl⟩
 have HAL : Hid (A.length ≤ 64) := Lib.hid (by rw [← hA]; exact someZ_len _ _ _)
 have HAR : Hid (∀ x ∈ A, 0 ≤ x ∧ x < N) := Lib.hid (by rw [← hA]; exact atN_rng N seed id)
 rw [hA] at HAT ⊢
 clear hcur hA hm hN
 go_enter Tryz.func45, Tryz.ntmps45
 go_wp2_with fail
 generalize w.alloc (.cells #[.int .i64 (K : Int), .int .i64 (H : Int), .int .i64 S] 23) = W0 at *
 generalize hgp : w.heap.size = gp at *
 refine (may_lt K H S id _).mono ?_
 rw [hd]
 rintro e w1 ⟨rfl, hg1⟩
 have P1 := Lib.hid (P0.out.grown hg1)
 have HG1 := Lib.hid (Gr.trans HG0.out hg1)
 clear hg1 P0 HG0
 have c0 := P1.out.cell0
 have c1 := P1.out.cell1
 have c2 := P1.out.cell2
 go_wp2_with fail
 refine (cols_pre K H S _).mono ?_
 rw [HCO.out]
 rintro e w4 ⟨rfl, hg4⟩
 have P4 := Lib.hid (P1.out.grown (Gr.trans hg4 (Gr.alloc (Gr.refl w4) cur 5)))
 have HG4 := Lib.hid (Gr.trans HG1.out hg4)
 clear hg4 P1 HG1 c0 c1 c2
 have B4 : Hid (Blk (w4.alloc (.cells cur 5)) w4.heap.size (onesL N [])) := Lib.hid (by rw [onesL_nil, HCU.out]; exact heap_alloc_new _ _)
 have HG5 : Hid (Gr w (w4.alloc (.cells cur 5))) := Lib.hid (Gr.alloc HG4.out _ _)
 have HGB : Hid (w.heap.size ≤ w4.heap.size) := Lib.hid HG4.out.size
 have c0 := P4.out.cell0
 have c1 := P4.out.cell1
 have c2 := P4.out.cell2
 go_wp2_with fail
 clear c0 c1 c2
 generalize w4.alloc (.cells cur 5) = W5 at *
 generalize w4.heap.size = gx at *
 refine (HAT.out W5).mono ?_
 rintro e w6 ⟨v6, rfl, ho6, hg6⟩
 have hz6 := ho6.zs
 clear ho6
 obtain ⟨m, hm⟩ : ∃ m, A.length = m := ⟨_, rfl⟩
 obtain ⟨hzi, oa, ca, rfl, z2, z3, z4, z5⟩ := hz6
 rw [hm] at z2 z5 ⊢
 have HZ5 := Lib.hid z5
 have HMM := Lib.hid hm
 have B6 := Lib.hid (B4.out.grown hg6)
 have HG6 := Lib.hid (Gr.trans HG5.out hg6)
 have hm64 : m ≤ 64 := by rw [← hm]; exact HAL.out
 clear hg6 hzi z5 hm B4 HG5 HG4
 go_wp2_with fail
 have HZC : Hid (∀ a, oa = some a → ∀ i, i < m → w6.cell? (a.add i) = some (.int .i64 (A.getD i 0))) := Lib.hid HZ5.out
 have HGX : Hid (w.heap.size ≤ gx) := Lib.hid HGB.out
 go_loopw [22] (fun i wr => ∃ t : Nat, t ≤ m ∧ i = .int .i64 t ∧ Blk wr gx (onesL N (A.take t)) ∧ Gr w wr ∧ ∀ a, oa = some a → ∀ i, i < m → wr.cell? (a.add i) = some (.int .i64 (A.getD i 0))) (fun i _ => m - (intOf i).toNat)
 case atStart => exact ⟨0, by omega, rfl, by rw [List.take_zero]; exact B6.out, HG6.out, HZC.out⟩
 case round =>
  clear B6 HG6 HZC
  obtain ⟨wo, hwo⟩ : ∃ x, x = wr := ⟨_, rfl⟩
  subst hwo
  obtain ⟨t, ht, rfl, hb, hg, hc⟩ := hrel
  by_cases hlt : t < m
  ·obtain ⟨ad, rfl⟩ : ∃ a, oa = some a := by
    cases oa with
    | some a => exact ⟨a, rfl⟩
    | none => have := z4 rfl; omega
   have q1 := hc ad rfl t hlt
   have hmem : A.getD t 0 ∈ A := by
    have := HMM.out
    rw [List.getD_eq_getElem?_getD, List.getElem?_eq_getElem (by omega)]
    exact List.getElem_mem _
   have hrg := HAR.out _ hmem
   obtain ⟨q, hq⟩ : ∃ q : Nat, A.getD t 0 = q := ⟨(A.getD t 0).toNat, by omega⟩
   have hqN : q < N := by omega
   have hnx := onesL_next (L := A.take t) hqN
   have htk : A.take (t + 1) = A.take t ++ [(q : Int)] := by
    have := HMM.out
    rw [List.take_add_one, List.getElem?_eq_getElem (by omega), ← hq, List.getD_eq_getElem?_getD, List.getElem?_eq_getElem (by omega)]
    rfl
   have q8 := Blk.cell hb q (by rw [onesL_length]; exact hqN)
   have q9 := frozen_of_row wo gx q _ _ hb
   have HB' : Hid (Blk (wo.setCell ⟨gx, q, none⟩ (.int .u8 1)) gx (onesL N (A.take (t + 1)))) := Lib.hid (by
     unfold Blk
     rw [heap_setCell_same _ _ _ _ _ _ hb, rowB_set, hnx, htk])
   have HG' : Hid (Gr w (wo.setCell ⟨gx, q, none⟩ (.int .u8 1))) := Lib.hid (Gr.setCell hg HGX.out _)
   have HC' : Hid (∀ a, some ad = some a → ∀ i, i < m → (wo.setCell ⟨gx, q, none⟩ (.int .u8 1)).cell? (a.add i) = some (.int .i64 (A.getD i 0))) := Lib.hid (fun a ha i hi => by
     rw [World.cell?_setCell_other]
     · exact hc a ha i hi
     · intro e
       have h1 := hc a ha i hi
       rw [← e, q8] at h1
       simp at h1)
   rw [hq] at q1
   clear hb hg hc hmem hrg hnx htk hq
   generalize (onesL N (A.take t)).getD q 0 = old at *
   go_wp2_with fail
   exact ⟨⟨t + 1, by omega, by go_num, HB'.out, HG'.out, HC'.out⟩, by simp [intOf]; omega⟩
  ·obtain rfl : t = m := by omega
   have hall : A.take t = A := List.take_of_length_le (by have := HMM.out; omega)
   rw [hall] at hb
   have HB' : Hid (New w wo (.slice (some ⟨gx, 0, none⟩) N N) (onesL N A)) := Lib.hid ⟨hg, onesL_byt N A, .inr ⟨gx, N, _, by rw [onesL_length], HGX.out, hb, by rw [onesL_length]; omega, by omega, fun i hi => rowB_get _ i hi⟩⟩
   clear hb hg hc hall
   go_wp2_with fail
   go_ret
   exact ⟨_, rfl, HB'.out⟩
set_option maxRecDepth 100000 in
set_option maxHeartbeats 800000 in
theorem row_ne (K H S : Int) (seed : Nat) (id : Int) (w : World) (hm : ¬ (MayP K H S ∧ MayI id)) :
  Calls Tryz.prog 45 #[par K H S, .int .u32 (seed : Int), .int .i64 id] w fun e w' => e = .returned (.slice none 0 0) ∧ Gr w w' := by
 have HG0 : Hid (Gr w (w.alloc (.cells #[.int .i64 K, .int .i64 H, .int .i64 S] 23))) := Lib.hid (Gr.alloc (Gr.refl _) _ _)
 have hd := decide_eq_false hm
 clear hm
 go_enter Tryz.func45, Tryz.ntmps45
 go_wp2_with fail
 refine (may_lt K H S id _).mono ?_
 rw [hd]
 rintro e w1 ⟨rfl, hg1⟩
 have HG1 := Lib.hid (Gr.trans HG0.out hg1)
 clear hg1
 go_wp2_with fail
 go_ret
 exact ⟨rfl, HG1.out⟩
theorem row_lt (K H S : Int) (seed : Nat) (id : Int) (w : World) (hs : seed < 4294967296) :
  Calls Tryz.prog 45 #[par K H S, .int .u32 (seed : Int), .int .i64 id] w fun e w' => ∃ v, e = .returned v ∧ New w w' v (rowP K H S seed id) := by
 unfold rowP
 by_cases hm : MayP K H S ∧ MayI id
 ·rw [if_pos hm]
  obtain ⟨h1, h2⟩ := hm
  obtain ⟨k, hk⟩ : ∃ k : Nat, K = k := ⟨K.toNat, by have := h1.1; omega⟩
  obtain ⟨h, hh⟩ : ∃ h : Nat, H = h := ⟨H.toNat, by have := h1.2.2.1; omega⟩
  obtain ⟨i, hi⟩ : ∃ i : Nat, id = i := ⟨id.toNat, by have := h2.1; omega⟩
  subst hk hh hi
  rw [Int.toNat_natCast, Int.toNat_natCast, Int.toNat_natCast]
  exact row_in k h S seed i w h1 (by have := h2.2; omega) hs
 ·rw [if_neg hm]
  refine (row_ne K H S seed id w hm).mono ?_
  rintro e w' ⟨rfl, hg⟩
  exact ⟨_, rfl, hg, by simp, .inl ⟨rfl, none, 0, rfl, fun _ => rfl, by omega⟩⟩
theorem lt_ok : LtOk where
 cols := fun K H S seed id w hs _ => cols_lt K H S seed id w hs
 row := fun K H S seed id w hs _ => row_lt K H S seed id w hs
end Go.Proofs.YtbbglejdfbkjlaaGreat
namespace Go.Proofs.YtbbglejdfbkjlaaGreat
open Go.RowKit
theorem infoZl : (Tryz.prog.info? 26).map (fun i => (i.zero, i.size, i.bytes)) = some (some (.slice none 0 0), 1, 24) := by kernel_rfl
end Go.Proofs.YtbbglejdfbkjlaaGreat
namespace Go.Proofs.YtbbglejdfbkjlaaGreat
open Go.RowKit
def nilsZ (n : Nat) : Array Value := (List.replicate n (Value.slice none 0 0)).toArray
theorem nilsZ_made (n : Nat) : madeCells #[.slice none 0 0] n = nilsZ n := by
 apply Array.ext'
 rw [toList_madeCells_one]
 simp [nilsZ]
theorem make26 (l c : Nat) (h : l ≤ c) (hc : c ≤ 1000000) (w : World) :
  (Instr.makeSlice 152 (.int .i64 (l : Int)) (.int .i64 (c : Int))).run Tryz.prog w = .ok (.slice (some ⟨w.heap.size, 0, none⟩) l c) (w.alloc (.cells (nilsZ c) 26)) := by
 obtain ⟨i, hi, hzz⟩ := Option.map_eq_some_iff.1 infoZl
 simp only [Prod.mk.injEq] at hzz
 obtain ⟨hz, hs, hb⟩ := hzz
 have hr := run_make (P := Tryz.prog) w 152 26 i _ Tryz.underlying152 hi hz .i64 .i64 l c (by omega) (by omega) (by rw [hb]; omega) (by omega)
 rw [Int.toNat_natCast, Int.toNat_natCast, hs, Nat.mul_one] at hr
 rw [hr, ← nilsZ_made]
 rfl
end Go.Proofs.YtbbglejdfbkjlaaGreat
namespace Go.Proofs.YtbbglejdfbkjlaaGreat
open Go.RowKit
def PeelOut (n : Int) (L : List Eqn) (w : World) (e : Ending) (w' : World) : Prop := ∃ vk vv vr x kn vs rs, e = .returned (.tuple #[vk, vv, vr, .int .i64 x]) ∧ Bl w' vk kn ∧ Bss w' vv vs ∧ Eqs w' vr rs ∧ Gr w w' ∧ PeelSays n L kn vs rs x
theorem PeelOut.arg {n : Int} {L : List Eqn} {w w' : World} (h : ¬ MayEqs n L) (hg : Gr w w') : PeelOut n L w (.returned (.tuple #[.slice none 0 0, .slice none 0 0, .slice none 0 0, .int .i64 1])) w' :=
 ⟨_, _, _, _, [], [], [], rfl, Bl.nil _, Bss.nil _, Eqs.nil _, hg, .inl ⟨h, rfl, rfl, rfl, rfl⟩⟩
theorem PeelOut.clash {n : Int} {L : List Eqn} {w w' : World} (hm : MayEqs n L) (h : ¬ ∃ v, PL.Holds VT (L.map toE) v) (hg : Gr w w') : PeelOut n L w (.returned (.tuple #[.slice none 0 0, .slice none 0 0, .slice none 0 0, .int .i64 10])) w' :=
 ⟨_, _, _, _, [], [], [], rfl, Bl.nil _, Bss.nil _, Eqs.nil _, hg, .inr (.inl ⟨hm, h, rfl, rfl, rfl, rfl⟩)⟩
theorem PeelOut.ok {n : Int} {L : List Eqn} {w w' : World} {vk vv vr : Value} {kn : List Bool} {vs : List (List Int)} (hm : MayEqs n L) (h1 : Bl w' vk kn) (h2 : Bss w' vv vs) (h3 : Eqs w' vr (leftE kn vs L)) (hg : Gr w w') (h : PeelOkIs n.toNat (dlen L) (L.map toE) kn vs) : PeelOut n L w (.returned (.tuple #[vk, vv, vr, .int .i64 0])) w' :=
 ⟨_, _, _, _, kn, vs, _, rfl, h1, h2, h3, hg, .inr (.inr ⟨hm, rfl, h, rfl⟩)⟩
end Go.Proofs.YtbbglejdfbkjlaaGreat
namespace Go.Proofs.YtbbglejdfbkjlaaGreat
open Go.RowKit
structure PeelOk : Prop where
 peel : ∀ (n : Int) (v : Value) (L : List Eqn) (w : World), I64 n → Eqs w v L → L.length ≤ 1000 → (∀ q ∈ L, q.c.length ≤ 1000 ∧ q.d.length ≤ 1000) → Calls Tryz.prog 100 #[.int .i64 n, v] w fun e w' => PeelOut n L w e w'
theorem Blk.put {w : World} {g : Nat} {L : List Int} (h : Blk w g L) (i : Nat) (x : Int) : Blk (w.setCell ⟨g, i, none⟩ (.int .u8 x)) g (L.set i x) := by
 unfold Blk at *
 rw [heap_setCell_same _ _ _ _ _ _ h, rowB_set]
theorem Blk.frz {w : World} {g : Nat} {L : List Int} (h : Blk w g L) (i : Nat) : w.frozen? ⟨g, i, none⟩ = false := frozen_of_row w g i _ _ h
end Go.Proofs.YtbbglejdfbkjlaaGreat
namespace Go.Proofs.YtbbglejdfbkjlaaGreat
open Go.RowKit
theorem own_type {w : World} {base : Nat} {e t : TypeId} {size : Nat} {v : Value} {n g : Nat} {us : List Value} {cur : Array Value} (h : w.ownsRow base e size v n us) (hg : w.heap[g]? = some (.cells cur t (0, 0))) (ht : t ≠ e) : v.ownBlock ≠ some g := fun hv => by
 obtain ⟨_, ⟨rfl, _⟩ | ⟨g', c, cur', rfl, hb, hgg, _⟩⟩ := h
 ·cases hv
 ·simp [Value.ownBlock] at hv
  subst hv
  rw [hg] at hgg
  simp at hgg
  exact ht hgg.2
end Go.Proofs.YtbbglejdfbkjlaaGreat
namespace Go.Proofs.YtbbglejdfbkjlaaGreat
open Go.RowKit
theorem rising_pw {c : List Int} (h : Rising c) : c.Pairwise (· < ·) := by
 rw [List.pairwise_iff_getElem]
 have key : ∀ d i, i + 1 + d < c.length → c.getD i 0 < c.getD (i + 1 + d) 0 := by
  intro d
  induction d with
  | zero => intro i hi; exact h i hi
  | succ d ih => intro i hi; exact Int.lt_trans (ih i (by omega)) (h (i + 1 + d) (by omega))
 intro i j hi hj hij
 have := key (j - i - 1) i (by omega)
 rw [show i + 1 + (j - i - 1) = j from by omega, List.getD_eq_getElem?_getD, List.getD_eq_getElem?_getD, List.getElem?_eq_getElem hi, List.getElem?_eq_getElem hj] at this
 exact this
end Go.Proofs.YtbbglejdfbkjlaaGreat
namespace Go.Proofs.YtbbglejdfbkjlaaGreat
open Go.RowKit
def Zss (w : World) (v : Value) (L : List (List Int)) : Prop :=
 ∃ oa c, v = .slice oa L.length c ∧ L.length ≤ c ∧ c ≤ 9223372036854775807 ∧ (oa = none → c = 0) ∧ ∀ a, oa = some a → ∀ i, i < L.length → ∃ u, w.cell? (a.add i) = some u ∧ Zs w u (L.getD i [])
theorem Zss.grown {w w' : World} {v : Value} {L : List (List Int)} (h : Zss w v L) (hg : Gr w w') : Zss w' v L := by
 obtain ⟨oa, c, h1, h2, h3, h4, h5⟩ := h
 refine ⟨oa, c, h1, h2, h3, h4, fun a ha i hi => ?_⟩
 obtain ⟨u, hu, hb⟩ := h5 a ha i hi
 exact ⟨u, cell_grown hg hu, Zs.grown hb hg⟩
theorem Zss.form {w : World} {v : Value} {L : List (List Int)} (h : Zss w v L) : ∃ o c, v = .slice o L.length c := by
 obtain ⟨oa, c, h1, _⟩ := h
 exact ⟨oa, c, h1⟩
theorem Zss.addr {w : World} {oa : Option Addr} {m c : Nat} {L : List (List Int)} (h : Zss w (.slice oa m c) L) (hm : 0 < m) : ∃ a, oa = some a := by
 obtain ⟨oa', c', he, h2, _, h4, _⟩ := h
 cases he
 cases oa with
 | none => exact absurd (h4 rfl) (by omega)
 | some a => exact ⟨a, rfl⟩
theorem Zss.rowAt {w : World} {a : Addr} {m c : Nat} {L : List (List Int)} (h : Zss w (.slice (some a) m c) L) {i : Nat} (hi : i < m) : ∃ u, w.cell? (a.add i) = some u ∧ Zs w u (L.getD i []) := by
 obtain ⟨oa', c', he, h2, _, h4, h5⟩ := h
 cases he
 exact h5 a rfl i hi
theorem getD_memL {L : List (List Int)} {i : Nat} (h : i < L.length) : L.getD i [] ∈ L := by
 rw [List.getD_eq_getElem?_getD, List.getElem?_eq_getElem h]
 exact List.getElem_mem h
end Go.Proofs.YtbbglejdfbkjlaaGreat
