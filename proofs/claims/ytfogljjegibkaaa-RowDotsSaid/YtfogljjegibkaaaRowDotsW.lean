import Derived.Test.YtfogljjegibkaaaRl
namespace Go.Proofs.Ytfogljjegibkaaa
open Go.RowKit

set_option maxRecDepth 100000 in
set_option maxHeartbeats 1000000 in
theorem rowDots_walk (R : RowOk) (va : Value) (l : List Int) (c k0 : Int) (w : World) (ha : Bs w va l) (hc : Byt c) :
    Calls Try.prog 5 #[va, .int .u8 c, .int .i64 k0] w fun e w' => e = .returned (.bool true) ∧ Gr w w' := by
  have H := Lib.hid R
  have HA := Lib.hid ha
  clear R ha
  go_enter Try.func5, Try.ntmps5
  go_wp2_with fail
  refine (cut_any va l 150 w HA.out (by omega)).mono ?_
  rintro e w' ⟨v, rfl, hv, rfl⟩
  have hlen : (l.take 150).length ≤ 150 := by simp; omega
  generalize l.take 150 = t at *
  have HV := Lib.hid hv
  obtain ⟨hb, oa, cap, rfl, h1, h2, h3, h4⟩ := hv
  have H3 := Lib.hid h3
  clear hb h3 h4
  obtain ⟨m, hm⟩ : ∃ m, t.length = m := ⟨_, rfl⟩
  rw [hm] at HV hlen h1
  have HM := Lib.hid hm
  rw [hm]
  clear hm
  go_wp2_with fail
  refine (new_st _).mono ?_
  rintro e w1 ⟨b, rfl, hs⟩
  have S1 := Lib.hid hs
  clear hs
  cases oa with
  | none =>
    obtain rfl : cap = 0 := H3.out rfl
    obtain rfl : m = 0 := by omega
    go_wp2_with fail
    go_quiet (fail)
    have hlA : ([] : List Int).length = 0 := rfl
    have hS : Hid (St w (w1.drewN nq) (.pointer (some ⟨b, 0, none⟩))) := Lib.hid S1.out
    have hL : Hid (Al (w1.drewN nq) [(.slice none 0 0, [])]) := Lib.hid (Al.cons (Bs.nil _) (fun p hp => by simp at hp))
    clear HV HM S1 H3 HA h1 h2 hlen
    generalize ([] : List Int) = A at *
    generalize w1.drewN nq = W0 at *
    generalize Value.slice none 0 0 = vA at *
    go_wp2_with fail
    refine (H.out.axpy _ _ _ c A A _ hS.out.2 hc (hL.out (vA, A) (by simp)) (hL.out (vA, A) (by simp)) (by (repeat (first | rw [sumL_length] | rw [axL_length] | rw [scaleL_length] | rw [unitL_length])) <;> omega) (by (repeat (first | rw [sumL_length] | rw [axL_length] | rw [scaleL_length] | rw [unitL_length])) <;> omega)).mono ?_
    rintro e W' ⟨s, rfl, hn⟩
    have hS2 := Lib.hid (St.step hS.out hn.1)
    have hL2 := Lib.hid (Al.cons (New.bs hn) (Al.grown hL.out hn.1))
    clear hS hL hn
    have hS := hS2
    have hL := hL2
    clear hS2 hL2
    go_wp2_with fail
    refine (H.out.dot _ _ _ (axL c A A) A _ hS.out.2 (hL.out (s, (axL c A A)) (by simp)) (hL.out (vA, A) (by simp)) (by (repeat (first | rw [sumL_length] | rw [axL_length] | rw [scaleL_length] | rw [unitL_length])) <;> omega) (by (repeat (first | rw [sumL_length] | rw [axL_length] | rw [scaleL_length] | rw [unitL_length])) <;> omega)).mono ?_
    rintro e W' ⟨rfl, hg⟩
    have hS2 := Lib.hid (St.step hS.out hg)
    have hL2 := Lib.hid (Al.grown hL.out hg)
    clear hS hL hg
    have hS := hS2
    have hL := hL2
    clear hS2 hL2
    go_wp2_with fail
    refine (H.out.dot _ _ _ A A _ hS.out.2 (hL.out (vA, A) (by simp)) (hL.out (vA, A) (by simp)) (by (repeat (first | rw [sumL_length] | rw [axL_length] | rw [scaleL_length] | rw [unitL_length])) <;> omega) (by (repeat (first | rw [sumL_length] | rw [axL_length] | rw [scaleL_length] | rw [unitL_length])) <;> omega)).mono ?_
    rintro e W' ⟨rfl, hg⟩
    have hS2 := Lib.hid (St.step hS.out hg)
    have hL2 := Lib.hid (Al.grown hL.out hg)
    clear hS hL hg
    have hS := hS2
    have hL := hL2
    clear hS2 hL2
    go_wp2_with fail
    refine (H.out.dot _ _ _ A A _ hS.out.2 (hL.out (vA, A) (by simp)) (hL.out (vA, A) (by simp)) (by (repeat (first | rw [sumL_length] | rw [axL_length] | rw [scaleL_length] | rw [unitL_length])) <;> omega) (by (repeat (first | rw [sumL_length] | rw [axL_length] | rw [scaleL_length] | rw [unitL_length])) <;> omega)).mono ?_
    rintro e W' ⟨rfl, hg⟩
    have hS2 := Lib.hid (St.step hS.out hg)
    have hL2 := Lib.hid (Al.grown hL.out hg)
    clear hS hL hg
    have hS := hS2
    have hL := hL2
    clear hS2 hL2
    go_wp2_with fail
    refine (mul_any _ c (dotL A A 0) hc (dotL_byt _ _ _) _ hS.out.2).mono ?_
    rintro e W' ⟨rfl, hg⟩
    have hS2 := Lib.hid (St.step hS.out hg)
    have hL2 := Lib.hid (Al.grown hL.out hg)
    clear hS hL hg
    have hS := hS2
    have hL := hL2
    clear hS2 hL2
    go_wp2_with fail
    refine (addz_any _ _ _ (mulZ_byt _ _) (dotL_byt _ _ _) _).mono ?_
    rintro e W' ⟨rfl, rfl⟩
    have hT : (dotL (axL c A A) A (axL c A A).length != addZ (mulZ c (dotL A A 0)) (dotL A A 0)) = false := by
      rw [axL_length, hlA, dot_axpy c A A A (Bs.byt (hL.out (vA, A) (by simp))) (Bs.byt (hL.out (vA, A) (by simp))) (Bs.byt (hL.out (vA, A) (by simp))) 0 (by omega)]
      exact bne_self_eq_false _
    go_wp2_with fail
    refine (rowWakes_any H.out _).mono ?_
    rintro e W' ⟨rfl, hg⟩
    have G := Lib.hid (Gr.trans hS.out.1 hg)
    clear hg
    go_wp2_with fail
    go_ret
    exact ⟨rfl, G.out⟩
  | some a =>
    go_wp2_with fail
    obtain ⟨n, r, hn, hr⟩ : ∃ n r : Nat, m = 3 * n + r ∧ r < 3 := ⟨m / 3, m % 3, by omega, by omega⟩
    have e3 : ((3 * n + r : Nat) : Int) / 3 = (n : Int) := by omega
    have e4 : ((m : Nat) : Int) / 3 = (n : Int) := by omega
    have kz : (0 : Int) ≤ n := by omega
    have k2 : (n : Int) ≤ 50 := by omega
    have k4 : 3 * n ≤ m := by omega
    rw [e4]
    have HN := Lib.hid hn
    clear hn e3 e4
    go_quiet (fail)
    have bA := Bs.pre HV.out HM.out n (by omega)
    have bB := Bs.slice HV.out HM.out n (2 * n) (by omega) (by omega)
    have bE := Bs.slice HV.out HM.out (2 * n) (3 * n) (by omega) (by omega)
    have hlA : (t.take n).length = n := by rw [List.length_take, HM.out]; omega
    have hlB : ((t.drop n).take (2 * n - n)).length = n := by rw [List.length_take, List.length_drop, HM.out]; omega
    have hlE : ((t.drop (2 * n)).take (3 * n - 2 * n)).length = n := by rw [List.length_take, List.length_drop, HM.out]; omega
    have hbA := Bs.byt bA
    have hbB := Bs.byt bB
    have hS : Hid (St w (w1.drewN nq) (.pointer (some ⟨b, 0, none⟩))) := Lib.hid S1.out
    have hL : Hid (Al (w1.drewN nq) [(_, _), (_, _), (_, _)]) := Lib.hid (Al.grown (Al.cons bA (Al.cons bB (Al.cons bE (fun p hp => by simp at hp)))) S1.out.1)
    clear HV HM HN S1 bB bE H3 HA h1 h2 hlen hr k4 kz
    generalize t.take n = A at *
    generalize (t.drop n).take (2 * n - n) = B at *
    generalize (t.drop (2 * n)).take (3 * n - 2 * n) = E at *
    generalize w1.drewN nq = W0 at *
    generalize Value.slice (if cap = n then some a else some (a.add n)) (2 * n - n) (cap - n) = vB at *
    generalize Value.slice (if cap = 2 * n then some a else some (a.add (2 * n))) (3 * n - 2 * n) (cap - 2 * n) = vE at *
    clear bA
    go_wp2_with fail
    refine (H.out.axpy _ _ _ c A B _ hS.out.2 hc (hL.out ((Value.slice (some a) n cap), A) (by simp)) (hL.out (vB, B) (by simp)) (by (repeat (first | rw [sumL_length] | rw [axL_length] | rw [scaleL_length] | rw [unitL_length])) <;> omega) (by (repeat (first | rw [sumL_length] | rw [axL_length] | rw [scaleL_length] | rw [unitL_length])) <;> omega)).mono ?_
    rintro e W' ⟨s, rfl, hn⟩
    have hS2 := Lib.hid (St.step hS.out hn.1)
    have hL2 := Lib.hid (Al.cons (New.bs hn) (Al.grown hL.out hn.1))
    clear hS hL hn
    have hS := hS2
    have hL := hL2
    clear hS2 hL2
    go_wp2_with fail
    refine (H.out.dot _ _ _ (axL c A B) E _ hS.out.2 (hL.out (s, (axL c A B)) (by simp)) (hL.out (vE, E) (by simp)) (by (repeat (first | rw [sumL_length] | rw [axL_length] | rw [scaleL_length] | rw [unitL_length])) <;> omega) (by (repeat (first | rw [sumL_length] | rw [axL_length] | rw [scaleL_length] | rw [unitL_length])) <;> omega)).mono ?_
    rintro e W' ⟨rfl, hg⟩
    have hS2 := Lib.hid (St.step hS.out hg)
    have hL2 := Lib.hid (Al.grown hL.out hg)
    clear hS hL hg
    have hS := hS2
    have hL := hL2
    clear hS2 hL2
    go_wp2_with fail
    refine (H.out.dot _ _ _ E A _ hS.out.2 (hL.out (vE, E) (by simp)) (hL.out ((Value.slice (some a) n cap), A) (by simp)) (by (repeat (first | rw [sumL_length] | rw [axL_length] | rw [scaleL_length] | rw [unitL_length])) <;> omega) (by (repeat (first | rw [sumL_length] | rw [axL_length] | rw [scaleL_length] | rw [unitL_length])) <;> omega)).mono ?_
    rintro e W' ⟨rfl, hg⟩
    have hS2 := Lib.hid (St.step hS.out hg)
    have hL2 := Lib.hid (Al.grown hL.out hg)
    clear hS hL hg
    have hS := hS2
    have hL := hL2
    clear hS2 hL2
    go_wp2_with fail
    refine (H.out.dot _ _ _ B E _ hS.out.2 (hL.out (vB, B) (by simp)) (hL.out (vE, E) (by simp)) (by (repeat (first | rw [sumL_length] | rw [axL_length] | rw [scaleL_length] | rw [unitL_length])) <;> omega) (by (repeat (first | rw [sumL_length] | rw [axL_length] | rw [scaleL_length] | rw [unitL_length])) <;> omega)).mono ?_
    rintro e W' ⟨rfl, hg⟩
    have hS2 := Lib.hid (St.step hS.out hg)
    have hL2 := Lib.hid (Al.grown hL.out hg)
    clear hS hL hg
    have hS := hS2
    have hL := hL2
    clear hS2 hL2
    go_wp2_with fail
    refine (mul_any _ c (dotL E A n) hc (dotL_byt _ _ _) _ hS.out.2).mono ?_
    rintro e W' ⟨rfl, hg⟩
    have hS2 := Lib.hid (St.step hS.out hg)
    have hL2 := Lib.hid (Al.grown hL.out hg)
    clear hS hL hg
    have hS := hS2
    have hL := hL2
    clear hS2 hL2
    go_wp2_with fail
    refine (addz_any _ _ _ (mulZ_byt _ _) (dotL_byt _ _ _) _).mono ?_
    rintro e W' ⟨rfl, rfl⟩
    have hT : (dotL (axL c A B) E (axL c A B).length != addZ (mulZ c (dotL E A n)) (dotL B E n)) = false := by
      rw [axL_length, hlA, dot_axpy c A B E (Bs.byt (hL.out ((Value.slice (some a) n cap), A) (by simp))) (Bs.byt (hL.out (vB, B) (by simp))) (Bs.byt (hL.out (vE, E) (by simp))) n (by omega)]
      exact bne_self_eq_false _
    by_cases n0 : n = 0
    · have np : (n : Int) ≤ 0 := by omega
      clear n0
      go_wp2_with fail
      refine (rowWakes_any H.out _).mono ?_
      rintro e W' ⟨rfl, hg⟩
      have G := Lib.hid (Gr.trans hS.out.1 hg)
      clear hg
      go_wp2_with fail
      go_ret
      exact ⟨rfl, G.out⟩
    · obtain ⟨kk, hk1, hk2⟩ : ∃ kk : Nat, k0 % (n : Int) = kk ∧ kk < n := ⟨(k0 % (n : Int)).toNat, by have := Int.emod_nonneg k0 (by omega : (n : Int) ≠ 0); omega, by have := Int.emod_lt_of_pos k0 (by omega : (0 : Int) < n); have := Int.emod_nonneg k0 (by omega : (n : Int) ≠ 0); omega⟩
      have KK := Lib.hid hk1
      clear hk1
      have np : (0 : Int) < n := by omega
      go_wp2_with fail
      refine (within_gr k0 n (by omega) (by omega) _).mono ?_
      rintro e W' ⟨rfl, hg⟩
      have hS2 := Lib.hid (St.step hS.out hg)
      have hL2 := Lib.hid (Al.grown hL.out hg)
      clear hS hL hg
      have hS := hS2
      have hL := hL2
      clear hS2 hL2
      rw [KK.out]
      go_wp2_with fail
      refine (H.out.unit n kk _ (by omega) (by omega) hk2).mono ?_
      rintro e W' ⟨y, rfl, hn⟩
      have hS2 := Lib.hid (St.step hS.out hn.1)
      have hL2 := Lib.hid (Al.cons (New.bs hn) (Al.grown hL.out hn.1))
      clear hS hL hn
      have hS := hS2
      have hL := hL2
      clear hS2 hL2
      go_wp2_with fail
      refine (H.out.dot _ _ _ (unitL n kk) A _ hS.out.2 (hL.out (y, (unitL n kk)) (by simp)) (hL.out ((Value.slice (some a) n cap), A) (by simp)) (by (repeat (first | rw [sumL_length] | rw [axL_length] | rw [scaleL_length] | rw [unitL_length])) <;> omega) (by (repeat (first | rw [sumL_length] | rw [axL_length] | rw [scaleL_length] | rw [unitL_length])) <;> omega)).mono ?_
      rintro e W' ⟨rfl, hg⟩
      have hS2 := Lib.hid (St.step hS.out hg)
      have hL2 := Lib.hid (Al.grown hL.out hg)
      clear hS hL hg
      have hS := hS2
      have hL := hL2
      clear hS2 hL2
      rw [unitL_length, dot_unit n kk A hbA hk2 n (Nat.le_refl _), if_pos hk2]
      have hcell := Bs.cell_at (A := A) (hL.out ((Value.slice (some a) n cap), A) (by simp)) kk (by omega)
      generalize A.getD kk 0 = p at *
      go_wp2_with fail
      refine (rowWakes_any H.out _).mono ?_
      rintro e W' ⟨rfl, hg⟩
      have G := Lib.hid (Gr.trans hS.out.1 hg)
      clear hg
      go_wp2_with fail
      go_ret
      exact ⟨rfl, G.out⟩
end Go.Proofs.Ytfogljjegibkaaa
