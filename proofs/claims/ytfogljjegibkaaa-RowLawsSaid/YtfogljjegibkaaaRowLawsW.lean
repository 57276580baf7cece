import Derived.Test.YtfogljjegibkaaaRl
namespace Go.Proofs.Ytfogljjegibkaaa
open Go.RowKit

set_option maxRecDepth 100000 in
set_option maxHeartbeats 1000000 in
theorem rowLaws_walk (R : RowOk) (va : Value) (l : List Int) (c d : Int) (w : World) (ha : Bs w va l) (hc : Byt c) (hd : Byt d) :
    Calls Try.prog 4 #[va, .int .u8 c, .int .u8 d] w fun e w' => e = .returned (.bool true) ∧ Gr w w' := by
  have H := Lib.hid R
  have HA := Lib.hid ha
  clear R ha
  go_enter Try.func4, Try.ntmps4
  go_wp2_with fail
  refine (cut_any va l 150 w HA.out (by omega)).mono ?_
  rintro e w' ⟨v, rfl, hv, rfl⟩
  have hlen : (l.take 150).length ≤ 150 := by simp; omega
  generalize l.take 150 = t at *
  have HV := Lib.hid hv
  obtain ⟨hb, oa, cap, rfl, h1, h2, h3, h4⟩ := hv
  have H3 := Lib.hid h3
  clear hb h3 h4
  obtain ⟨m, hm⟩ : ∃ m, t.length = m := ⟨_, rfl⟩
  rw [hm] at HV hlen h1
  have HM := Lib.hid hm
  rw [hm]
  clear hm
  go_wp2_with fail
  refine (new_st _).mono ?_
  rintro e w1 ⟨b, rfl, hs⟩
  have S1 := Lib.hid hs
  clear hs
  cases oa with
  | none =>
    obtain rfl : cap = 0 := H3.out rfl
    obtain rfl : m = 0 := by omega
    go_wp2_with fail
    go_quiet (fail)
    have hlA : ([] : List Int).length = 0 := rfl
    have hbA : ∀ i, Byt (([] : List Int).getD i 0) := Bs.byt (Bs.nil w)
    have hS : Hid (St w (w1.drewN nq) (.pointer (some ⟨b, 0, none⟩))) := Lib.hid S1.out
    have hL : Hid (Al (w1.drewN nq) [(.slice none 0 0, [])]) := Lib.hid (Al.cons (Bs.nil _) (fun p hp => by simp at hp))
    clear HV HM S1 H3 HA h1 h2 hlen
    generalize ([] : List Int) = A at *
    generalize w1.drewN nq = W0 at *
    generalize Value.slice none 0 0 = vA at *
    go_wp2_with fail
    refine (H.out.sum _ _ A A _ (hL.out (vA, A) (by simp)) (hL.out (vA, A) (by simp)) (by (repeat (first | rw [sumL_length] | rw [axL_length] | rw [scaleL_length])) <;> omega) (by (repeat (first | rw [sumL_length] | rw [axL_length] | rw [scaleL_length])) <;> omega)).mono ?_
    rintro e W' ⟨s, rfl, hn⟩
    have hS2 := Lib.hid (St.step hS.out hn.1)
    have hL2 := Lib.hid (Al.cons (New.bs hn) (Al.grown hL.out hn.1))
    clear hS hL hn
    have hS := hS2
    have hL := hL2
    clear hS2 hL2
    go_wp2_with fail
    refine (H.out.sum _ _ A A _ (hL.out (vA, A) (by simp)) (hL.out (vA, A) (by simp)) (by (repeat (first | rw [sumL_length] | rw [axL_length] | rw [scaleL_length])) <;> omega) (by (repeat (first | rw [sumL_length] | rw [axL_length] | rw [scaleL_length])) <;> omega)).mono ?_
    rintro e W' ⟨t, rfl, hn⟩
    have hS2 := Lib.hid (St.step hS.out hn.1)
    have hL2 := Lib.hid (Al.cons (New.bs hn) (Al.grown hL.out hn.1))
    clear hS hL hn
    have hS := hS2
    have hL := hL2
    clear hS2 hL2
    go_wp2_with fail
    refine (H.out.axpy _ _ _ c (sumL A A) A _ hS.out.2 hc (hL.out (s, (sumL A A)) (by simp)) (hL.out (vA, A) (by simp)) (by (repeat (first | rw [sumL_length] | rw [axL_length] | rw [scaleL_length])) <;> omega) (by (repeat (first | rw [sumL_length] | rw [axL_length] | rw [scaleL_length])) <;> omega)).mono ?_
    rintro e W' ⟨u, rfl, hn⟩
    have hS2 := Lib.hid (St.step hS.out hn.1)
    have hL2 := Lib.hid (Al.cons (New.bs hn) (Al.grown hL.out hn.1))
    clear hS hL hn
    have hS := hS2
    have hL := hL2
    clear hS2 hL2
    go_wp2_with fail
    refine (H.out.axpy _ _ _ c A A _ hS.out.2 hc (hL.out (vA, A) (by simp)) (hL.out (vA, A) (by simp)) (by (repeat (first | rw [sumL_length] | rw [axL_length] | rw [scaleL_length])) <;> omega) (by (repeat (first | rw [sumL_length] | rw [axL_length] | rw [scaleL_length])) <;> omega)).mono ?_
    rintro e W' ⟨v, rfl, hn⟩
    have hS2 := Lib.hid (St.step hS.out hn.1)
    have hL2 := Lib.hid (Al.cons (New.bs hn) (Al.grown hL.out hn.1))
    clear hS hL hn
    have hS := hS2
    have hL := hL2
    clear hS2 hL2
    go_wp2_with fail
    refine (H.out.axpy _ _ _ c A (axL c A A) _ hS.out.2 hc (hL.out (vA, A) (by simp)) (hL.out (v, (axL c A A)) (by simp)) (by (repeat (first | rw [sumL_length] | rw [axL_length] | rw [scaleL_length])) <;> omega) (by (repeat (first | rw [sumL_length] | rw [axL_length] | rw [scaleL_length])) <;> omega)).mono ?_
    rintro e W' ⟨x, rfl, hn⟩
    have hS2 := Lib.hid (St.step hS.out hn.1)
    have hL2 := Lib.hid (Al.cons (New.bs hn) (Al.grown hL.out hn.1))
    clear hS hL hn
    have hS := hS2
    have hL := hL2
    clear hS2 hL2
    go_wp2_with fail
    refine (H.out.sum _ _ (sumL A A) A _ (hL.out (s, (sumL A A)) (by simp)) (hL.out (vA, A) (by simp)) (by (repeat (first | rw [sumL_length] | rw [axL_length] | rw [scaleL_length])) <;> omega) (by (repeat (first | rw [sumL_length] | rw [axL_length] | rw [scaleL_length])) <;> omega)).mono ?_
    rintro e W' ⟨z, rfl, hn⟩
    have hS2 := Lib.hid (St.step hS.out hn.1)
    have hL2 := Lib.hid (Al.cons (New.bs hn) (Al.grown hL.out hn.1))
    clear hS hL hn
    have hS := hS2
    have hL := hL2
    clear hS2 hL2
    go_wp2_with fail
    refine (same_eq (hL.out (s, (sumL A A)) (by simp)) (hL.out (t, (sumL A A)) (by simp)) (sumL_comm A A (by omega))).mono ?_
    rintro e W' ⟨rfl, hg⟩
    have hS2 := Lib.hid (St.step hS.out hg)
    have hL2 := Lib.hid (Al.grown hL.out hg)
    clear hS hL hg
    have hS := hS2
    have hL := hL2
    clear hS2 hL2
    go_wp2_with fail
    refine (same_eq (hL.out (u, (axL c (sumL A A) A)) (by simp)) (hL.out (x, (axL c A (axL c A A))) (by simp)) (axL_sum c A A A (by omega) (by omega) hbA hbA)).mono ?_
    rintro e W' ⟨rfl, hg⟩
    have hS2 := Lib.hid (St.step hS.out hg)
    have hL2 := Lib.hid (Al.grown hL.out hg)
    clear hS hL hg
    have hS := hS2
    have hL := hL2
    clear hS2 hL2
    go_wp2_with fail
    refine (same_eq (hL.out (z, (sumL (sumL A A) A)) (by simp)) (hL.out (vA, A) (by simp)) (sumL_twice A A hbA)).mono ?_
    rintro e W' ⟨rfl, hg⟩
    have hS2 := Lib.hid (St.step hS.out hg)
    have hL2 := Lib.hid (Al.grown hL.out hg)
    clear hS hL hg
    have hS := hS2
    have hL := hL2
    clear hS2 hL2
    go_wp2_with fail
    refine (H.out.scale _ _ d A _ hS.out.2 hd (hL.out (vA, A) (by simp)) (by (repeat (first | rw [sumL_length] | rw [axL_length] | rw [scaleL_length])) <;> omega)).mono ?_
    rintro e W' ⟨p, rfl, hn⟩
    have hS2 := Lib.hid (St.step hS.out hn.1)
    have hL2 := Lib.hid (Al.cons (New.bs hn) (Al.grown hL.out hn.1))
    clear hS hL hn
    have hS := hS2
    have hL := hL2
    clear hS2 hL2
    go_wp2_with fail
    refine (H.out.scale _ _ c (scaleL d A) _ hS.out.2 hc (hL.out (p, (scaleL d A)) (by simp)) (by (repeat (first | rw [sumL_length] | rw [axL_length] | rw [scaleL_length])) <;> omega)).mono ?_
    rintro e W' ⟨q, rfl, hn⟩
    have hS2 := Lib.hid (St.step hS.out hn.1)
    have hL2 := Lib.hid (Al.cons (New.bs hn) (Al.grown hL.out hn.1))
    clear hS hL hn
    have hS := hS2
    have hL := hL2
    clear hS2 hL2
    go_wp2_with fail
    refine (mul_any _ c d hc hd _ hS.out.2).mono ?_
    rintro e W' ⟨rfl, hg⟩
    have hS2 := Lib.hid (St.step hS.out hg)
    have hL2 := Lib.hid (Al.grown hL.out hg)
    clear hS hL hg
    have hS := hS2
    have hL := hL2
    clear hS2 hL2
    go_wp2_with fail
    refine (H.out.scale _ _ (mulZ c d) A _ hS.out.2 (mulZ_byt _ _) (hL.out (vA, A) (by simp)) (by (repeat (first | rw [sumL_length] | rw [axL_length] | rw [scaleL_length])) <;> omega)).mono ?_
    rintro e W' ⟨r, rfl, hn⟩
    have hS2 := Lib.hid (St.step hS.out hn.1)
    have hL2 := Lib.hid (Al.cons (New.bs hn) (Al.grown hL.out hn.1))
    clear hS hL hn
    have hS := hS2
    have hL := hL2
    clear hS2 hL2
    go_wp2_with fail
    refine (same_eq (hL.out (q, (scaleL c (scaleL d A))) (by simp)) (hL.out (r, (scaleL (mulZ c d) A)) (by simp)) (scaleL_scale c d A)).mono ?_
    rintro e W' ⟨rfl, hg⟩
    have hS2 := Lib.hid (St.step hS.out hg)
    have hL2 := Lib.hid (Al.grown hL.out hg)
    clear hS hL hg
    have hS := hS2
    have hL := hL2
    clear hS2 hL2
    go_wp2_with fail
    refine (rowWakes_any H.out _).mono ?_
    rintro e W' ⟨rfl, hg⟩
    have G := Lib.hid (Gr.trans hS.out.1 hg)
    clear hg
    go_wp2_with fail
    go_ret
    exact ⟨rfl, G.out⟩
  | some a =>
    go_wp2_with fail
    obtain ⟨n, r, hn, hr⟩ : ∃ n r : Nat, m = 3 * n + r ∧ r < 3 := ⟨m / 3, m % 3, by omega, by omega⟩
    have e3 : ((3 * n + r : Nat) : Int) / 3 = (n : Int) := by omega
    have e4 : ((m : Nat) : Int) / 3 = (n : Int) := by omega
    have k0 : (0 : Int) ≤ n := by omega
    have k2 : (n : Int) ≤ 50 := by omega
    have k4 : 3 * n ≤ m := by omega
    rw [e4]
    have HN := Lib.hid hn
    clear hn e3 e4
    go_quiet (fail)
    have bA := Bs.pre HV.out HM.out n (by omega)
    have bB := Bs.slice HV.out HM.out n (2 * n) (by omega) (by omega)
    have bE := Bs.slice HV.out HM.out (2 * n) (3 * n) (by omega) (by omega)
    have hlA : (t.take n).length = n := by rw [List.length_take, HM.out]; omega
    have hlB : ((t.drop n).take (2 * n - n)).length = n := by rw [List.length_take, List.length_drop, HM.out]; omega
    have hlE : ((t.drop (2 * n)).take (3 * n - 2 * n)).length = n := by rw [List.length_take, List.length_drop, HM.out]; omega
    have hbA := Bs.byt bA
    have hbB := Bs.byt bB
    have hS : Hid (St w (w1.drewN nq) (.pointer (some ⟨b, 0, none⟩))) := Lib.hid S1.out
    have hL : Hid (Al (w1.drewN nq) [(_, _), (_, _), (_, _)]) := Lib.hid (Al.grown (Al.cons bA (Al.cons bB (Al.cons bE (fun p hp => by simp at hp)))) S1.out.1)
    clear HV HM HN S1 bA bB bE H3 HA h1 h2 hlen hr k0 k4
    generalize t.take n = A at *
    generalize (t.drop n).take (2 * n - n) = B at *
    generalize (t.drop (2 * n)).take (3 * n - 2 * n) = E at *
    generalize w1.drewN nq = W0 at *
    generalize Value.slice (some a) n cap = vA at *
    generalize Value.slice (if cap = n then some a else some (a.add n)) (2 * n - n) (cap - n) = vB at *
    generalize Value.slice (if cap = 2 * n then some a else some (a.add (2 * n))) (3 * n - 2 * n) (cap - 2 * n) = vE at *
    go_wp2_with fail
    refine (H.out.sum _ _ A B _ (hL.out (vA, A) (by simp)) (hL.out (vB, B) (by simp)) (by (repeat (first | rw [sumL_length] | rw [axL_length] | rw [scaleL_length])) <;> omega) (by (repeat (first | rw [sumL_length] | rw [axL_length] | rw [scaleL_length])) <;> omega)).mono ?_
    rintro e W' ⟨s, rfl, hn⟩
    have hS2 := Lib.hid (St.step hS.out hn.1)
    have hL2 := Lib.hid (Al.cons (New.bs hn) (Al.grown hL.out hn.1))
    clear hS hL hn
    have hS := hS2
    have hL := hL2
    clear hS2 hL2
    go_wp2_with fail
    refine (H.out.sum _ _ B A _ (hL.out (vB, B) (by simp)) (hL.out (vA, A) (by simp)) (by (repeat (first | rw [sumL_length] | rw [axL_length] | rw [scaleL_length])) <;> omega) (by (repeat (first | rw [sumL_length] | rw [axL_length] | rw [scaleL_length])) <;> omega)).mono ?_
    rintro e W' ⟨t, rfl, hn⟩
    have hS2 := Lib.hid (St.step hS.out hn.1)
    have hL2 := Lib.hid (Al.cons (New.bs hn) (Al.grown hL.out hn.1))
    clear hS hL hn
    have hS := hS2
    have hL := hL2
    clear hS2 hL2
    go_wp2_with fail
    refine (H.out.axpy _ _ _ c (sumL A B) E _ hS.out.2 hc (hL.out (s, (sumL A B)) (by simp)) (hL.out (vE, E) (by simp)) (by (repeat (first | rw [sumL_length] | rw [axL_length] | rw [scaleL_length])) <;> omega) (by (repeat (first | rw [sumL_length] | rw [axL_length] | rw [scaleL_length])) <;> omega)).mono ?_
    rintro e W' ⟨u, rfl, hn⟩
    have hS2 := Lib.hid (St.step hS.out hn.1)
    have hL2 := Lib.hid (Al.cons (New.bs hn) (Al.grown hL.out hn.1))
    clear hS hL hn
    have hS := hS2
    have hL := hL2
    clear hS2 hL2
    go_wp2_with fail
    refine (H.out.axpy _ _ _ c A E _ hS.out.2 hc (hL.out (vA, A) (by simp)) (hL.out (vE, E) (by simp)) (by (repeat (first | rw [sumL_length] | rw [axL_length] | rw [scaleL_length])) <;> omega) (by (repeat (first | rw [sumL_length] | rw [axL_length] | rw [scaleL_length])) <;> omega)).mono ?_
    rintro e W' ⟨v, rfl, hn⟩
    have hS2 := Lib.hid (St.step hS.out hn.1)
    have hL2 := Lib.hid (Al.cons (New.bs hn) (Al.grown hL.out hn.1))
    clear hS hL hn
    have hS := hS2
    have hL := hL2
    clear hS2 hL2
    go_wp2_with fail
    refine (H.out.axpy _ _ _ c B (axL c A E) _ hS.out.2 hc (hL.out (vB, B) (by simp)) (hL.out (v, (axL c A E)) (by simp)) (by (repeat (first | rw [sumL_length] | rw [axL_length] | rw [scaleL_length])) <;> omega) (by (repeat (first | rw [sumL_length] | rw [axL_length] | rw [scaleL_length])) <;> omega)).mono ?_
    rintro e W' ⟨x, rfl, hn⟩
    have hS2 := Lib.hid (St.step hS.out hn.1)
    have hL2 := Lib.hid (Al.cons (New.bs hn) (Al.grown hL.out hn.1))
    clear hS hL hn
    have hS := hS2
    have hL := hL2
    clear hS2 hL2
    go_wp2_with fail
    refine (H.out.sum _ _ (sumL A B) B _ (hL.out (s, (sumL A B)) (by simp)) (hL.out (vB, B) (by simp)) (by (repeat (first | rw [sumL_length] | rw [axL_length] | rw [scaleL_length])) <;> omega) (by (repeat (first | rw [sumL_length] | rw [axL_length] | rw [scaleL_length])) <;> omega)).mono ?_
    rintro e W' ⟨z, rfl, hn⟩
    have hS2 := Lib.hid (St.step hS.out hn.1)
    have hL2 := Lib.hid (Al.cons (New.bs hn) (Al.grown hL.out hn.1))
    clear hS hL hn
    have hS := hS2
    have hL := hL2
    clear hS2 hL2
    go_wp2_with fail
    refine (same_eq (hL.out (s, (sumL A B)) (by simp)) (hL.out (t, (sumL B A)) (by simp)) (sumL_comm A B (by omega))).mono ?_
    rintro e W' ⟨rfl, hg⟩
    have hS2 := Lib.hid (St.step hS.out hg)
    have hL2 := Lib.hid (Al.grown hL.out hg)
    clear hS hL hg
    have hS := hS2
    have hL := hL2
    clear hS2 hL2
    go_wp2_with fail
    refine (same_eq (hL.out (u, (axL c (sumL A B) E)) (by simp)) (hL.out (x, (axL c B (axL c A E))) (by simp)) (axL_sum c A B E (by omega) (by omega) hbA hbB)).mono ?_
    rintro e W' ⟨rfl, hg⟩
    have hS2 := Lib.hid (St.step hS.out hg)
    have hL2 := Lib.hid (Al.grown hL.out hg)
    clear hS hL hg
    have hS := hS2
    have hL := hL2
    clear hS2 hL2
    go_wp2_with fail
    refine (same_eq (hL.out (z, (sumL (sumL A B) B)) (by simp)) (hL.out (vA, A) (by simp)) (sumL_twice A B hbA)).mono ?_
    rintro e W' ⟨rfl, hg⟩
    have hS2 := Lib.hid (St.step hS.out hg)
    have hL2 := Lib.hid (Al.grown hL.out hg)
    clear hS hL hg
    have hS := hS2
    have hL := hL2
    clear hS2 hL2
    go_wp2_with fail
    refine (H.out.scale _ _ d A _ hS.out.2 hd (hL.out (vA, A) (by simp)) (by (repeat (first | rw [sumL_length] | rw [axL_length] | rw [scaleL_length])) <;> omega)).mono ?_
    rintro e W' ⟨p, rfl, hn⟩
    have hS2 := Lib.hid (St.step hS.out hn.1)
    have hL2 := Lib.hid (Al.cons (New.bs hn) (Al.grown hL.out hn.1))
    clear hS hL hn
    have hS := hS2
    have hL := hL2
    clear hS2 hL2
    go_wp2_with fail
    refine (H.out.scale _ _ c (scaleL d A) _ hS.out.2 hc (hL.out (p, (scaleL d A)) (by simp)) (by (repeat (first | rw [sumL_length] | rw [axL_length] | rw [scaleL_length])) <;> omega)).mono ?_
    rintro e W' ⟨q, rfl, hn⟩
    have hS2 := Lib.hid (St.step hS.out hn.1)
    have hL2 := Lib.hid (Al.cons (New.bs hn) (Al.grown hL.out hn.1))
    clear hS hL hn
    have hS := hS2
    have hL := hL2
    clear hS2 hL2
    go_wp2_with fail
    refine (mul_any _ c d hc hd _ hS.out.2).mono ?_
    rintro e W' ⟨rfl, hg⟩
    have hS2 := Lib.hid (St.step hS.out hg)
    have hL2 := Lib.hid (Al.grown hL.out hg)
    clear hS hL hg
    have hS := hS2
    have hL := hL2
    clear hS2 hL2
    go_wp2_with fail
    refine (H.out.scale _ _ (mulZ c d) A _ hS.out.2 (mulZ_byt _ _) (hL.out (vA, A) (by simp)) (by (repeat (first | rw [sumL_length] | rw [axL_length] | rw [scaleL_length])) <;> omega)).mono ?_
    rintro e W' ⟨r, rfl, hn⟩
    have hS2 := Lib.hid (St.step hS.out hn.1)
    have hL2 := Lib.hid (Al.cons (New.bs hn) (Al.grown hL.out hn.1))
    clear hS hL hn
    have hS := hS2
    have hL := hL2
    clear hS2 hL2
    go_wp2_with fail
    refine (same_eq (hL.out (q, (scaleL c (scaleL d A))) (by simp)) (hL.out (r, (scaleL (mulZ c d) A)) (by simp)) (scaleL_scale c d A)).mono ?_
    rintro e W' ⟨rfl, hg⟩
    have hS2 := Lib.hid (St.step hS.out hg)
    have hL2 := Lib.hid (Al.grown hL.out hg)
    clear hS hL hg
    have hS := hS2
    have hL := hL2
    clear hS2 hL2
    go_wp2_with fail
    refine (rowWakes_any H.out _).mono ?_
    rintro e W' ⟨rfl, hg⟩
    have G := Lib.hid (Gr.trans hS.out.1 hg)
    clear hg
    go_wp2_with fail
    go_ret
    exact ⟨rfl, G.out⟩
end Go.Proofs.Ytfogljjegibkaaa
