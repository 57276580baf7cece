import Derived.Test.YtfogljjegibkaaaCp
namespace Go.Proofs.Ytfogljjegibkaaa
open Go.RowKit

/-- Block g is of bytes that may be written, n of them at least. -/
def Wr (w : World) (g n : Nat) : Prop := ∃ cur, w.heap[g]? = some (.cells cur 5 (0, 0)) ∧ n ≤ cur.size
theorem Wr.grown {w w' : World} {g n : Nat} (h : Wr w g n) (hg : Gr w w') : Wr w' g n := by
  obtain ⟨cur, h1, h2⟩ := h
  exact ⟨cur, keptRow hg h1, h2⟩
theorem Wr.set {w : World} {g n : Nat} (h : Wr w g n) (b k : Nat) (v : Value) : Wr (w.setCell ⟨b, k, none⟩ v) g n := by
  obtain ⟨cur, h1, h2⟩ := h
  by_cases e : g = b
  · subst e
    exact ⟨_, heap_setCell_same _ _ _ _ _ _ h1, by simpa using h2⟩
  · exact ⟨cur, by rw [heap_setCell_other _ _ _ _ e]; exact h1, h2⟩
theorem Wr.cell {w : World} {g n : Nat} (h : Wr w g n) (k : Nat) (hk : k < n) : (∃ v, w.cell? ⟨g, k, none⟩ = some v) ∧ w.frozen? ⟨g, k, none⟩ = false := by
  obtain ⟨cur, h1, h2⟩ := h
  refine ⟨⟨cur[k], ?_⟩, frozen_of_row w g k _ _ h1⟩
  rw [cell_of_row w g k _ _ _ h1, Array.getElem?_eq_getElem]
theorem New.wr {w w' : World} {v : Value} {l : List Int} (h : New w w' v l) (hl : 0 < l.length) : ∃ g c, v = .slice (some ⟨g, 0, none⟩) l.length c ∧ l.length ≤ c ∧ c ≤ 9223372036854775807 ∧ w.heap.size ≤ g ∧ g < w'.heap.size ∧ Wr w' g l.length := by
  obtain ⟨_, _, h | h⟩ := h
  · obtain ⟨rfl, _⟩ := h
    simp at hl
  · obtain ⟨g, c, cur, rfl, h0, h1, h2, h3, h4⟩ := h
    refine ⟨g, c, rfl, h2, h3, h0, (Array.getElem?_eq_some_iff.1 h1).1, cur, h1, ?_⟩
    have := h4 (l.length - 1) (by omega)
    have := (Array.getElem?_eq_some_iff.1 this).1
    omega

theorem Bs.preO {w : World} {oa : Option Addr} {m cap : Nat} {t : List Int} (h : Bs w (.slice oa m cap) t) (hm : t.length = m) (n : Nat) (hn : n ≤ m) : Bs w (.slice oa n cap) (t.take n) := by
  obtain ⟨hb, oa', c, he, h3, h4, h5, h6⟩ := h
  obtain ⟨rfl, -, rfl⟩ : oa = oa' ∧ m = t.length ∧ cap = c := by simpa using he
  have hlen : (t.take n).length = n := by rw [List.length_take]; omega
  refine ⟨fun x hx => hb x (List.mem_of_mem_take hx), oa, cap, by rw [hlen], by rw [hlen]; omega, h4, h5, fun a' ha i hi => ?_⟩
  rw [hlen] at hi
  rw [h6 a' ha i (by omega), List.getD_eq_getElem?_getD, List.getD_eq_getElem?_getD, List.getElem?_take_of_lt hi]
/-- Only new memory was written since W1, and three blocks may be written. -/
def Own3 (W1 : World) (gs gt gu k : Nat) (wr : World) : Prop := Gr W1 wr ∧ Wr wr gs k ∧ Wr wr gt k ∧ Wr wr gu k
theorem Own3.set {W1 wr : World} {gs gt gu k g : Nat} (h : Own3 W1 gs gt gu k wr) (hg : W1.heap.size ≤ g) (j : Nat) (v : Value) : Own3 W1 gs gt gu k (wr.setCell ⟨g, j, none⟩ v) :=
  ⟨Gr.setCell h.1 hg v, Wr.set h.2.1 g j v, Wr.set h.2.2.1 g j v, Wr.set h.2.2.2 g j v⟩

set_option maxRecDepth 100000 in
set_option maxHeartbeats 2000000 in
theorem rowOwn_walk (R : RowOk) (va vb : Value) (x y : List Int) (c : Int) (w : World) (ha : Bs w va x) (hb : Bs w vb y) (hc : Byt c) :
    Calls Try.prog 6 #[va, vb, .int .u8 c] w fun e w' => e = .returned (.bool true) ∧ Gr w w' := by
  have H := Lib.hid R
  have HA := Lib.hid ha
  have HB := Lib.hid hb
  clear R ha hb
  go_enter Try.func6, Try.ntmps6
  go_wp2_with fail
  refine (cut_any va x 60 w HA.out (by omega)).mono ?_
  rintro e w' ⟨v1, rfl, hv1, rfl⟩
  have V1 := Lib.hid hv1
  clear hv1
  go_wp2_with fail
  refine (cut_any vb y 60 w HB.out (by omega)).mono ?_
  rintro e w' ⟨v2, rfl, hv2, rfl⟩
  have V2 := Lib.hid hv2
  clear hv2
  have l1 : (x.take 60).length ≤ 60 := by simp; omega
  have l2 : (y.take 60).length ≤ 60 := by simp; omega
  generalize x.take 60 = t1 at *
  generalize y.take 60 = t2 at *
  obtain ⟨_, oa, ca, rfl, h1, h2, _, _⟩ := V1.out
  obtain ⟨_, ob, cb, rfl, h3, h4, _, _⟩ := V2.out
  obtain ⟨m1, M1⟩ : ∃ m, Hid (t1.length = m) := ⟨_, Lib.hid rfl⟩
  obtain ⟨m2, M2⟩ : ∃ m, Hid (t2.length = m) := ⟨_, Lib.hid rfl⟩
  rw [M1.out] at V1 h1 l1
  rw [M2.out] at V2 h3 l2
  rw [M1.out, M2.out]
  by_cases hle : m1 ≤ m2
  · go_wp2_with fail
    go_quiet (fail)
    obtain ⟨k, hk⟩ : ∃ k, k = m1 := ⟨_, rfl⟩
    rw [← hk]
    have bA := Bs.preO V1.out M1.out k (by omega)
    have bB := Bs.preO V2.out M2.out k (by omega)
    have hlA : (t1.take k).length = k := by rw [List.length_take, M1.out]; omega
    have hlB : (t2.take k).length = k := by rw [List.length_take, M2.out]; omega
    have k60 : k ≤ 60 := by omega
    generalize t1.take k = A at *
    generalize t2.take k = B at *
    have LA := Lib.hid hlA
    have LB := Lib.hid hlB
    have BA := Lib.hid bA
    have BB := Lib.hid bB
    clear hlA hlB bA bB hk V1 V2 M1 M2 hle h1 h3 HA HB l1 l2
    go_wp2_with fail
    refine (new_st _).mono ?_
    rintro e W' ⟨b, rfl, hs⟩
    have hE : Hid (Env (w.drewN nq) W' (.pointer (some ⟨b, 0, none⟩)) [((.slice oa k ca), A), ((.slice ob k cb), B)] []) := Lib.hid ⟨hs, Al.grown (Al.cons (Bs.grown BA.out (Gr.refl w)) (Al.cons (Bs.grown BB.out (Gr.refl w)) fun p hp => by simp at hp)) hs.1, fun p hp => by simp at hp⟩
    clear hs
    go_wp2_with fail
    refine (copy_any oa k ca A _ LA.out (by omega) (hE.out.bs (.slice oa k ca) A (by simp))).mono ?_
    rintro e W' ⟨g1, rfl, _, hn⟩
    have hE2 := Lib.hid (Env.add (Env.step hE.out hn.1) (New.bs hn))
    clear hE hn
    have hE := hE2
    clear hE2
    go_wp2_with fail
    refine (copy_any ob k cb B _ LB.out (by omega) (hE.out.bs (.slice ob k cb) B (by simp))).mono ?_
    rintro e W1 ⟨g2, rfl, _, hn⟩
    have E1 := Lib.hid (Env.add (Env.step hE.out hn.1) (New.bs hn))
    clear hE hn
    go_wp2_with fail
    refine (H.out.sum _ _ A B _ (E1.out.bs (.slice (some ⟨g1, 0, none⟩) k (k + 2)) A (by simp)) (E1.out.bs (.slice (some ⟨g2, 0, none⟩) k (k + 2)) B (by simp)) (by rw [LA.out]; omega) (by rw [LA.out, LB.out])).mono ?_
    rintro e W2 ⟨s, rfl, n1⟩
    have N1 := Lib.hid n1
    clear n1
    have E2 := Lib.hid (Env.step E1.out N1.out.1)
    go_wp2_with fail
    refine (H.out.axpy _ _ _ c A B _ E2.out.f hc (E2.out.bs (.slice (some ⟨g1, 0, none⟩) k (k + 2)) A (by simp)) (E2.out.bs (.slice (some ⟨g2, 0, none⟩) k (k + 2)) B (by simp)) (by rw [LA.out]; omega) (by rw [LA.out, LB.out])).mono ?_
    rintro e W3 ⟨t, rfl, n2⟩
    have N2 := Lib.hid n2
    clear n2
    have E3 := Lib.hid (Env.step E2.out N2.out.1)
    go_wp2_with fail
    refine (H.out.scale _ _ c A _ E3.out.f hc (E3.out.bs (.slice (some ⟨g1, 0, none⟩) k (k + 2)) A (by simp)) (by rw [LA.out]; omega)).mono ?_
    rintro e W4 ⟨u, rfl, n3⟩
    have N3 := Lib.hid n3
    clear n3
    have E4 := Lib.hid (Env.step E3.out N3.out.1)
    have L1 : Hid ((sumL A B).length = k) := Lib.hid (by rw [sumL_length, LA.out])
    have L2 : Hid ((axL c A B).length = k) := Lib.hid (by rw [axL_length, LA.out])
    have L3 : Hid ((scaleL c A).length = k) := Lib.hid (by rw [scaleL_length, LA.out])
    generalize sumL A B = ls at *
    generalize axL c A B = lt at *
    generalize scaleL c A = lu at *
    clear E2 E3
    by_cases kz : k = 0
    · subst kz
      obtain ⟨os, cs, rfl⟩ := New.empty (by have := N1.out; rwa [List.eq_nil_of_length_eq_zero L1.out] at this)
      obtain ⟨ot, ct, rfl⟩ := New.empty (by have := N2.out; rwa [List.eq_nil_of_length_eq_zero L2.out] at this)
      obtain ⟨ou, cu, rfl⟩ := New.empty (by have := N3.out; rwa [List.eq_nil_of_length_eq_zero L3.out] at this)
      clear E1 N1 N2 N3 L1 L2 L3
      go_wp2_with fail
      go_loopw [86] (fun i wr => i = .int .i64 0 ∧ wr = W4) (fun _ _ => 0)
      case atStart => exact ⟨rfl, rfl⟩
      case round =>
        obtain ⟨rfl, rfl⟩ := hrel
        go_wp2_with fail
        refine (same_eq (E4.out.bs (.slice (some ⟨g1, 0, none⟩) 0 (0 + 2)) A (by simp)) (E4.out.bs (.slice oa 0 ca) A (by simp)) rfl).mono ?_
        rintro e W5 ⟨rfl, hg⟩
        have F5 := Lib.hid (Env.step E4.out hg)
        clear hg
        go_wp2_with fail
        refine (same_eq (F5.out.bs (.slice (some ⟨g2, 0, none⟩) 0 (0 + 2)) B (by simp)) (F5.out.bs (.slice ob 0 cb) B (by simp)) rfl).mono ?_
        rintro e W6 ⟨rfl, hg⟩
        have F6 := Lib.hid (Env.step F5.out hg)
        clear hg
        go_wp2_with fail
        refine (rowWakes_any H.out _).mono ?_
        rintro e W7 ⟨rfl, hg⟩
        have G := Lib.hid (Gr.trans F6.out.1.1 hg)
        clear hg
        go_wp2_with fail
        go_ret
        exact ⟨rfl, G.out⟩
    · obtain ⟨gs, cs, rfl, a1, a2, a3, a4, a5⟩ := New.wr N1.out (by rw [L1.out]; omega)
      obtain ⟨gt, ct, rfl, b1, b2, b3, b4, b5⟩ := New.wr N2.out (by rw [L2.out]; omega)
      obtain ⟨gu, cu, rfl, c1, c2, c3, c4, c5⟩ := New.wr N3.out (by rw [L3.out]; omega)
      have z2 := N2.out.1.size
      have z3 := N3.out.1.size
      have z1 := N1.out.1.size
      have d1 : gs ≠ gt := by omega
      have d2 : gs ≠ gu := by omega
      have d3 : gt ≠ gu := by omega
      rw [L1.out] at a1 a5 ⊢
      rw [L2.out] at b1 b5 ⊢
      rw [L3.out] at c1 c5 ⊢
      have hg14 : Gr W1 W4 := Gr.trans (Gr.trans N1.out.1 N2.out.1) N3.out.1
      have R0 : Hid (Own3 W1 gs gt gu k W4) := Lib.hid ⟨hg14, Wr.grown a5 (Gr.trans N2.out.1 N3.out.1), Wr.grown b5 N3.out.1, c5⟩
      have hs1 : W1.heap.size ≤ gs := a3
      have hs2 : W1.heap.size ≤ gt := by omega
      have hs3 : W1.heap.size ≤ gu := by omega
      clear hg14 a3 a4 a5 b3 b4 b5 c3 c4 c5 z1 z2 z3 N1 N2 N3 L1 L2 L3 E4
      go_wp2_with fail
      go_loopw [86] (fun i wr => ∃ j : Nat, j ≤ k ∧ i = .int .i64 j ∧ Own3 W1 gs gt gu k wr) (fun i _ => k - (intOf i).toNat)
      case atStart => exact ⟨0, by omega, rfl, R0.out⟩
      case round =>
        clear R0
        obtain ⟨j, hj, rfl, hr⟩ := hrel
        have HR := Lib.hid hr
        clear hr
        by_cases hlt : j < k
        · obtain ⟨⟨v1, q1⟩, f1⟩ := Wr.cell HR.out.2.1 j hlt
          obtain ⟨⟨v2, q2⟩, f2⟩ := Wr.cell HR.out.2.2.1 j hlt
          obtain ⟨⟨v3, q3⟩, f3⟩ := Wr.cell HR.out.2.2.2 j hlt
          have e2 : ∀ v, (wr.setCell ⟨gs, j, none⟩ v).cell? ⟨gt, j, none⟩ = some v2 := fun v => by rw [World.cell?_setCell_other _ _ _ _ (by simp <;> omega)]; exact q2
          have e3 : ∀ v v', ((wr.setCell ⟨gs, j, none⟩ v).setCell ⟨gt, j, none⟩ v').cell? ⟨gu, j, none⟩ = some v3 := fun v v' => by rw [World.cell?_setCell_other _ _ _ _ (by simp <;> omega), World.cell?_setCell_other _ _ _ _ (by simp <;> omega)]; exact q3
          go_wp2_with fail
          exact ⟨⟨j + 1, by omega, by go_num, Own3.set (Own3.set (Own3.set HR.out hs1 j _) hs2 j _) hs3 j _⟩, by simp [intOf]; omega⟩
        · have E4 := Lib.hid (Env.step E1.out HR.out.1)
          clear E1
          go_wp2_with fail
          refine (same_eq (E4.out.bs (.slice (some ⟨g1, 0, none⟩) k (k + 2)) A (by simp)) (E4.out.bs (.slice oa k ca) A (by simp)) rfl).mono ?_
          rintro e W5 ⟨rfl, hg⟩
          have F5 := Lib.hid (Env.step E4.out hg)
          clear hg
          go_wp2_with fail
          refine (same_eq (F5.out.bs (.slice (some ⟨g2, 0, none⟩) k (k + 2)) B (by simp)) (F5.out.bs (.slice ob k cb) B (by simp)) rfl).mono ?_
          rintro e W6 ⟨rfl, hg⟩
          have F6 := Lib.hid (Env.step F5.out hg)
          clear hg
          go_wp2_with fail
          refine (rowWakes_any H.out _).mono ?_
          rintro e W7 ⟨rfl, hg⟩
          have G := Lib.hid (Gr.trans F6.out.1.1 hg)
          clear hg
          go_wp2_with fail
          go_ret
          exact ⟨rfl, G.out⟩
  · go_wp2_with fail
    go_quiet (fail)
    obtain ⟨k, hk⟩ : ∃ k, k = m2 := ⟨_, rfl⟩
    rw [← hk]
    have bA := Bs.preO V1.out M1.out k (by omega)
    have bB := Bs.preO V2.out M2.out k (by omega)
    have hlA : (t1.take k).length = k := by rw [List.length_take, M1.out]; omega
    have hlB : (t2.take k).length = k := by rw [List.length_take, M2.out]; omega
    have k60 : k ≤ 60 := by omega
    generalize t1.take k = A at *
    generalize t2.take k = B at *
    have LA := Lib.hid hlA
    have LB := Lib.hid hlB
    have BA := Lib.hid bA
    have BB := Lib.hid bB
    clear hlA hlB bA bB hk V1 V2 M1 M2 hle h1 h3 HA HB l1 l2
    go_wp2_with fail
    refine (new_st _).mono ?_
    rintro e W' ⟨b, rfl, hs⟩
    have hE : Hid (Env (w.drewN nq) W' (.pointer (some ⟨b, 0, none⟩)) [((.slice oa k ca), A), ((.slice ob k cb), B)] []) := Lib.hid ⟨hs, Al.grown (Al.cons (Bs.grown BA.out (Gr.refl w)) (Al.cons (Bs.grown BB.out (Gr.refl w)) fun p hp => by simp at hp)) hs.1, fun p hp => by simp at hp⟩
    clear hs
    go_wp2_with fail
    refine (copy_any oa k ca A _ LA.out (by omega) (hE.out.bs (.slice oa k ca) A (by simp))).mono ?_
    rintro e W' ⟨g1, rfl, _, hn⟩
    have hE2 := Lib.hid (Env.add (Env.step hE.out hn.1) (New.bs hn))
    clear hE hn
    have hE := hE2
    clear hE2
    go_wp2_with fail
    refine (copy_any ob k cb B _ LB.out (by omega) (hE.out.bs (.slice ob k cb) B (by simp))).mono ?_
    rintro e W1 ⟨g2, rfl, _, hn⟩
    have E1 := Lib.hid (Env.add (Env.step hE.out hn.1) (New.bs hn))
    clear hE hn
    go_wp2_with fail
    refine (H.out.sum _ _ A B _ (E1.out.bs (.slice (some ⟨g1, 0, none⟩) k (k + 2)) A (by simp)) (E1.out.bs (.slice (some ⟨g2, 0, none⟩) k (k + 2)) B (by simp)) (by rw [LA.out]; omega) (by rw [LA.out, LB.out])).mono ?_
    rintro e W2 ⟨s, rfl, n1⟩
    have N1 := Lib.hid n1
    clear n1
    have E2 := Lib.hid (Env.step E1.out N1.out.1)
    go_wp2_with fail
    refine (H.out.axpy _ _ _ c A B _ E2.out.f hc (E2.out.bs (.slice (some ⟨g1, 0, none⟩) k (k + 2)) A (by simp)) (E2.out.bs (.slice (some ⟨g2, 0, none⟩) k (k + 2)) B (by simp)) (by rw [LA.out]; omega) (by rw [LA.out, LB.out])).mono ?_
    rintro e W3 ⟨t, rfl, n2⟩
    have N2 := Lib.hid n2
    clear n2
    have E3 := Lib.hid (Env.step E2.out N2.out.1)
    go_wp2_with fail
    refine (H.out.scale _ _ c A _ E3.out.f hc (E3.out.bs (.slice (some ⟨g1, 0, none⟩) k (k + 2)) A (by simp)) (by rw [LA.out]; omega)).mono ?_
    rintro e W4 ⟨u, rfl, n3⟩
    have N3 := Lib.hid n3
    clear n3
    have E4 := Lib.hid (Env.step E3.out N3.out.1)
    have L1 : Hid ((sumL A B).length = k) := Lib.hid (by rw [sumL_length, LA.out])
    have L2 : Hid ((axL c A B).length = k) := Lib.hid (by rw [axL_length, LA.out])
    have L3 : Hid ((scaleL c A).length = k) := Lib.hid (by rw [scaleL_length, LA.out])
    generalize sumL A B = ls at *
    generalize axL c A B = lt at *
    generalize scaleL c A = lu at *
    clear E2 E3
    by_cases kz : k = 0
    · subst kz
      obtain ⟨os, cs, rfl⟩ := New.empty (by have := N1.out; rwa [List.eq_nil_of_length_eq_zero L1.out] at this)
      obtain ⟨ot, ct, rfl⟩ := New.empty (by have := N2.out; rwa [List.eq_nil_of_length_eq_zero L2.out] at this)
      obtain ⟨ou, cu, rfl⟩ := New.empty (by have := N3.out; rwa [List.eq_nil_of_length_eq_zero L3.out] at this)
      clear E1 N1 N2 N3 L1 L2 L3
      go_wp2_with fail
      go_loopw [86] (fun i wr => i = .int .i64 0 ∧ wr = W4) (fun _ _ => 0)
      case atStart => exact ⟨rfl, rfl⟩
      case round =>
        obtain ⟨rfl, rfl⟩ := hrel
        go_wp2_with fail
        refine (same_eq (E4.out.bs (.slice (some ⟨g1, 0, none⟩) 0 (0 + 2)) A (by simp)) (E4.out.bs (.slice oa 0 ca) A (by simp)) rfl).mono ?_
        rintro e W5 ⟨rfl, hg⟩
        have F5 := Lib.hid (Env.step E4.out hg)
        clear hg
        go_wp2_with fail
        refine (same_eq (F5.out.bs (.slice (some ⟨g2, 0, none⟩) 0 (0 + 2)) B (by simp)) (F5.out.bs (.slice ob 0 cb) B (by simp)) rfl).mono ?_
        rintro e W6 ⟨rfl, hg⟩
        have F6 := Lib.hid (Env.step F5.out hg)
        clear hg
        go_wp2_with fail
        refine (rowWakes_any H.out _).mono ?_
        rintro e W7 ⟨rfl, hg⟩
        have G := Lib.hid (Gr.trans F6.out.1.1 hg)
        clear hg
        go_wp2_with fail
        go_ret
        exact ⟨rfl, G.out⟩
    · obtain ⟨gs, cs, rfl, a1, a2, a3, a4, a5⟩ := New.wr N1.out (by rw [L1.out]; omega)
      obtain ⟨gt, ct, rfl, b1, b2, b3, b4, b5⟩ := New.wr N2.out (by rw [L2.out]; omega)
      obtain ⟨gu, cu, rfl, c1, c2, c3, c4, c5⟩ := New.wr N3.out (by rw [L3.out]; omega)
      have z2 := N2.out.1.size
      have z3 := N3.out.1.size
      have z1 := N1.out.1.size
      have d1 : gs ≠ gt := by omega
      have d2 : gs ≠ gu := by omega
      have d3 : gt ≠ gu := by omega
      rw [L1.out] at a1 a5 ⊢
      rw [L2.out] at b1 b5 ⊢
      rw [L3.out] at c1 c5 ⊢
      have hg14 : Gr W1 W4 := Gr.trans (Gr.trans N1.out.1 N2.out.1) N3.out.1
      have R0 : Hid (Own3 W1 gs gt gu k W4) := Lib.hid ⟨hg14, Wr.grown a5 (Gr.trans N2.out.1 N3.out.1), Wr.grown b5 N3.out.1, c5⟩
      have hs1 : W1.heap.size ≤ gs := a3
      have hs2 : W1.heap.size ≤ gt := by omega
      have hs3 : W1.heap.size ≤ gu := by omega
      clear hg14 a3 a4 a5 b3 b4 b5 c3 c4 c5 z1 z2 z3 N1 N2 N3 L1 L2 L3 E4
      go_wp2_with fail
      go_loopw [86] (fun i wr => ∃ j : Nat, j ≤ k ∧ i = .int .i64 j ∧ Own3 W1 gs gt gu k wr) (fun i _ => k - (intOf i).toNat)
      case atStart => exact ⟨0, by omega, rfl, R0.out⟩
      case round =>
        clear R0
        obtain ⟨j, hj, rfl, hr⟩ := hrel
        have HR := Lib.hid hr
        clear hr
        by_cases hlt : j < k
        · obtain ⟨⟨v1, q1⟩, f1⟩ := Wr.cell HR.out.2.1 j hlt
          obtain ⟨⟨v2, q2⟩, f2⟩ := Wr.cell HR.out.2.2.1 j hlt
          obtain ⟨⟨v3, q3⟩, f3⟩ := Wr.cell HR.out.2.2.2 j hlt
          have e2 : ∀ v, (wr.setCell ⟨gs, j, none⟩ v).cell? ⟨gt, j, none⟩ = some v2 := fun v => by rw [World.cell?_setCell_other _ _ _ _ (by simp <;> omega)]; exact q2
          have e3 : ∀ v v', ((wr.setCell ⟨gs, j, none⟩ v).setCell ⟨gt, j, none⟩ v').cell? ⟨gu, j, none⟩ = some v3 := fun v v' => by rw [World.cell?_setCell_other _ _ _ _ (by simp <;> omega), World.cell?_setCell_other _ _ _ _ (by simp <;> omega)]; exact q3
          go_wp2_with fail
          exact ⟨⟨j + 1, by omega, by go_num, Own3.set (Own3.set (Own3.set HR.out hs1 j _) hs2 j _) hs3 j _⟩, by simp [intOf]; omega⟩
        · have E4 := Lib.hid (Env.step E1.out HR.out.1)
          clear E1
          go_wp2_with fail
          refine (same_eq (E4.out.bs (.slice (some ⟨g1, 0, none⟩) k (k + 2)) A (by simp)) (E4.out.bs (.slice oa k ca) A (by simp)) rfl).mono ?_
          rintro e W5 ⟨rfl, hg⟩
          have F5 := Lib.hid (Env.step E4.out hg)
          clear hg
          go_wp2_with fail
          refine (same_eq (F5.out.bs (.slice (some ⟨g2, 0, none⟩) k (k + 2)) B (by simp)) (F5.out.bs (.slice ob k cb) B (by simp)) rfl).mono ?_
          rintro e W6 ⟨rfl, hg⟩
          have F6 := Lib.hid (Env.step F5.out hg)
          clear hg
          go_wp2_with fail
          refine (rowWakes_any H.out _).mono ?_
          rintro e W7 ⟨rfl, hg⟩
          have G := Lib.hid (Gr.trans F6.out.1.1 hg)
          clear hg
          go_wp2_with fail
          go_ret
          exact ⟨rfl, G.out⟩
end Go.Proofs.Ytfogljjegibkaaa
