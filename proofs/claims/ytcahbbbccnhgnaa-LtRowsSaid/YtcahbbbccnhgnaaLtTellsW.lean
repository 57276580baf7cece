/-
  Law LtTells, walked: places and rows are the document's own.
-/
import Derived.Test.YtcahbbbccnhgnaaMgg
namespace Go.Proofs.Ytcahbbbccnhgnaa
open Go.RowKit

theorem Bs.form3 {w : World} {v : Value} {l : List Int} (h : Bs w v l) : ∃ o m c, v = .slice o m c := by
  obtain ⟨o, c, h⟩ := h.form
  exact ⟨o, _, c, h⟩
theorem ownsRow_form3 {w : World} {base : Nat} {e : TypeId} {v : Value} {n : Nat} {us : List Value} (h : w.ownsRow base e 1 v n us) : ∃ o m c, v = .slice o m c := by
  obtain ⟨o, c, h⟩ := ownsRow_form'' h
  exact ⟨o, _, c, h⟩
/-- Two parameters lie in block g. -/
def Twos (w : World) (g : Nat) : Prop := ∀ t, t < 2 → ∃ K H S, w.cell? ⟨g, t * 3, none⟩ = some (.int .i64 K) ∧ w.cell? ⟨g, t * 3 + 1, none⟩ = some (.int .i64 H) ∧ w.cell? ⟨g, t * 3 + 2, none⟩ = some (.int .i64 S)
theorem Twos.grown {w w' : World} {g : Nat} (h : Twos w g) (hg : Gr w w') : Twos w' g := fun t ht => by
  obtain ⟨K, H, S, h1, h2, h3⟩ := h t ht
  exact ⟨K, H, S, cell_grown hg h1, cell_grown hg h2, cell_grown hg h3⟩
set_option maxRecDepth 100000 in
set_option maxHeartbeats 3200000 in
theorem ltTells_walk (O : LtOk) (K H S a b c sd id : Int) (w : World) (hid : I64 id) :
    Calls Try.prog 3 #[par K H S, .int .i64 a, .int .i64 b, .int .i64 c, .int .u64 sd, .int .i64 id] w fun e w' => e = .returned (.bool true) ∧ Gr w w' := by
  have HO := Lib.hid O
  have HID := Lib.hid hid
  clear O hid
  obtain ⟨s0, hs0, hs1⟩ : ∃ s : Nat, sd % 4294967296 = s ∧ s < 4294967296 := ⟨(sd % 4294967296).toNat, by omega, by omega⟩
  obtain ⟨i1, hi1, hi2⟩ : ∃ q : Nat, id % 65536 = q ∧ q < 65536 := ⟨(id % 65536).toNat, by omega, by omega⟩
  obtain ⟨i3, hi3, hi4⟩ : ∃ q : Nat, id % 40 = q ∧ q < 40 := ⟨(id % 40).toNat, by omega, by omega⟩
  have HI1 := Lib.hid hi1
  have HI3 := Lib.hid hi3
  clear hi1 hi3
  have HP0 : Hid (Par (w.alloc (.cells #[.int .i64 K, .int .i64 H, .int .i64 S] 23)) w.heap.size K H S) := Lib.hid (heap_alloc_new _ _)
  have HG0 : Hid (Gr w (w.alloc (.cells #[.int .i64 K, .int .i64 H, .int .i64 S] 23))) := Lib.hid (Gr.alloc (Gr.refl _) _ _)
  go_enter Try.func3, Try.ntmps3
  go_wp2_with fail
  generalize w.alloc (.cells #[.int .i64 K, .int .i64 H, .int .i64 S] 23) = W0 at *
  generalize w.heap.size = gp at *
  have c0 := HP0.out.cell0
  have c1 := HP0.out.cell1
  have c2 := HP0.out.cell2
  go_region_held3 (fun W => W.cell? ⟨gp, 0, none⟩ = some (.int .i64 K) ∧ W.cell? ⟨gp, 1, none⟩ = some (.int .i64 H) ∧ W.cell? ⟨gp, 2, none⟩ = some (.int .i64 S)) (first | exact ⟨c10, c11, c12⟩ | exact ⟨cell_grown (Gr.alloc (Gr.refl _) _ _) c10, cell_grown (Gr.alloc (Gr.refl _) _ _) c11, cell_grown (Gr.alloc (Gr.refl _) _ _) c12⟩ | go_keep)
    (first | (go_at_call 7; refine (params_any a b c _).mono ?_; rintro e w1 ⟨rfl, hg⟩; have c10 := cell_grown hg (by exact c0); have c11 := cell_grown hg (by exact c1); have c12 := cell_grown hg (by exact c2); have G1 : Hid (Gr W0 w1) := Lib.hid (by exact hg); clear hg))
  have HF : Hid (Twos (w1.alloc (.cells #[.int .i64 K, .int .i64 H, .int .i64 S, .int .i64 (1 + a % 16), .int .i64 (1 + b % 4), .int .i64 (1 + c % 24)] 23)) w1.heap.size) := Lib.hid (by
    intro t ht
    have hb := heap_alloc_new w1 (.cells #[.int .i64 K, .int .i64 H, .int .i64 S, .int .i64 (1 + a % 16), .int .i64 (1 + b % 4), .int .i64 (1 + c % 24)] 23)
    rw [cell_of_row _ _ (t * 3) _ _ _ hb, cell_of_row _ _ (t * 3 + 1) _ _ _ hb, cell_of_row _ _ (t * 3 + 2) _ _ _ hb]
    have : t = 0 ∨ t = 1 := by omega
    rcases this with rfl | rfl
    · exact ⟨_, _, _, rfl, rfl, rfl⟩
    · exact ⟨_, _, _, rfl, rfl, rfl⟩)
  have HG1 : Hid (Gr w (w1.alloc (.cells #[.int .i64 K, .int .i64 H, .int .i64 S, .int .i64 (1 + a % 16), .int .i64 (1 + b % 4), .int .i64 (1 + c % 24)] 23))) := Lib.hid (Gr.alloc (Gr.trans HG0.out G1.out) _ _)
  clear c0 c1 c2 c10 c11 c12 HP0 HG0 G1
  generalize w1.alloc (.cells #[.int .i64 K, .int .i64 H, .int .i64 S, .int .i64 (1 + a % 16), .int .i64 (1 + b % 4), .int .i64 (1 + c % 24)] 23) = W2 at *
  generalize w1.heap.size = gl at *
  go_wp2_with fail
  go_loopw [24] (fun i wr => ∃ t : Nat, t ≤ 2 ∧ i = .int .i64 t ∧ Twos wr gl ∧ Gr w wr) (fun i _ => 2 - (intOf i).toNat)
  case atStart => exact ⟨0, by omega, rfl, HF.out, HG1.out⟩
  case round =>
    clear HF HG1
    obtain ⟨wo, hwo⟩ : ∃ x, x = wr := ⟨_, rfl⟩
    subst hwo
    obtain ⟨t, ht, rfl, hf, hg⟩ := hrel
    have HF := Lib.hid hf
    have HG := Lib.hid hg
    clear hf hg
    by_cases hlt : t < 2
    · obtain ⟨p, q, r, q0, q1, q2⟩ := HF.out t hlt
      go_wp2_with fail
      have hga : Gr wo (wo.alloc (.cells #[.int .i64 p, .int .i64 q, .int .i64 r] 23)) := Gr.alloc (Gr.refl _) _ _
      have HG3 := Lib.hid (Gr.trans HG.out hga)
      have HF3 := Lib.hid (HF.out.grown hga)
      have HQP : Hid (Par (wo.alloc (.cells #[.int .i64 p, .int .i64 q, .int .i64 r] 23)) wo.heap.size p q r) := Lib.hid (heap_alloc_new _ _)
      clear hga HF HG q0 q1 q2
      generalize wo.alloc (.cells #[.int .i64 p, .int .i64 q, .int .i64 r] 23) = W3 at *
      generalize wo.heap.size = gq at *
      refine (within_any id 65536 (by omega) (by omega) _).mono ?_
      rintro e w' ⟨rfl, rfl⟩
      rw [HI1.out]
      go_wp2_with fail
      refine (within_any id 40 (by omega) (by omega) _).mono ?_
      rintro e w' ⟨rfl, rfl⟩
      rw [HI3.out]
      go_wp2_with fail
      have HIT : Hid (∀ u : Nat, u < 3 → ∃ x, (W3.alloc (.cells #[.int .i64 id, .int .i64 (i1 : Int), .int .i64 (i3 : Int)] 3)).cell? ⟨W3.heap.size, u, none⟩ = some (.int .i64 x) ∧ I64 x) := Lib.hid (by
        intro u hu
        have hb := heap_alloc_new W3 (.cells #[.int .i64 id, .int .i64 (i1 : Int), .int .i64 (i3 : Int)] 3)
        rw [cell_of_row _ _ u _ _ _ hb]
        have : u = 0 ∨ u = 1 ∨ u = 2 := by omega
        rcases this with rfl | rfl | rfl
        · exact ⟨_, rfl, HID.out⟩
        · exact ⟨_, rfl, by omega, by omega⟩
        · exact ⟨_, rfl, by omega, by omega⟩)
      have hgb : Gr W3 (W3.alloc (.cells #[.int .i64 id, .int .i64 (i1 : Int), .int .i64 (i3 : Int)] 3)) := Gr.alloc (Gr.refl _) _ _
      have HG5 := Lib.hid (Gr.trans HG3.out hgb)
      have HF5 := Lib.hid (HF3.out.grown hgb)
      have HQ5 := Lib.hid (HQP.out.grown hgb)
      clear hgb HG3 HF3 HQP
      generalize W3.alloc (.cells #[.int .i64 id, .int .i64 (i1 : Int), .int .i64 (i3 : Int)] 3) = W5 at *
      generalize W3.heap.size = gi at *
      go_loopw [35] (fun i wr => ∃ u : Nat, u ≤ 3 ∧ i = .int .i64 u ∧ Gr W5 wr) (fun i _ => 3 - (intOf i).toNat)
      case atStart => exact ⟨0, by omega, rfl, Gr.refl _⟩
      case round =>
        obtain ⟨wi, hwi⟩ : ∃ x, x = wr := ⟨_, rfl⟩
        subst hwi
        obtain ⟨u, hu, rfl, hgi⟩ := hrel
        have HGI := Lib.hid hgi
        by_cases hltu : u < 3
        · obtain ⟨x, qx, hx⟩ := HIT.out u hltu
          have qx1 := cell_grown hgi qx
          have hpar := HQ5.out.grown hgi
          have hc0 := hpar.cell0
          have hc1 := hpar.cell1
          have hc2 := hpar.cell2
          clear qx hpar hgi
          go_wp2_with fail
          have hw32 : IntKind.u32.wrap sd = (s0 : Int) := by rw [← hs0]; simp [IntKind.wrap, IntKind.bits, IntKind.signed]
          go_region_held3 (fun W => W.cell? ⟨gq, 0, none⟩ = some (.int .i64 p) ∧ W.cell? ⟨gq, 1, none⟩ = some (.int .i64 q) ∧ W.cell? ⟨gq, 2, none⟩ = some (.int .i64 r)) (first | exact ⟨k60, k61, k62⟩ | exact ⟨k50, k51, k52⟩ | exact ⟨k40, k41, k42⟩ | exact ⟨k30, k31, k32⟩ | exact ⟨k20, k21, k22⟩ | exact ⟨k10, k11, k12⟩ | go_keep)
            (first
              | (go_at_call 12; refine (same_any _ _ (rowP p q r s0 x) (rowP p q r s0 x) _ (Bs.grown B4.out V5.out) B5.out).mono ?_; rw [beq_self_eq_true]; rintro e v6 ⟨rfl, hg6⟩; have k60 := cell_grown hg6 (by exact k50); have k61 := cell_grown hg6 (by exact k51); have k62 := cell_grown hg6 (by exact k52); have V6 : Hid (Gr v5 v6) := Lib.hid hg6)
              | (go_at_call 14; refine (refRow_any p q r s0 x _ hs1).mono ?_; rintro e v5 ⟨y5, rfl, hb5, hg5⟩; have k50 := cell_grown hg5 (by exact k40); have k51 := cell_grown hg5 (by exact k41); have k52 := cell_grown hg5 (by exact k42); obtain ⟨o5, m5, d5, rfl⟩ := Bs.form3 hb5; have V5 : Hid (Gr v4 v5) := Lib.hid hg5; have B5 := Lib.hid hb5; clear hb5)
              | (go_at_call 13; refine (HO.out.row p q r s0 x _ hs1 hx).mono ?_; rintro e v4 ⟨y4, rfl, hn4⟩; have hg4 := hn4.1; have k40 := cell_grown hg4 (by exact k30); have k41 := cell_grown hg4 (by exact k31); have k42 := cell_grown hg4 (by exact k32); obtain ⟨o4, m4, d4, rfl⟩ := New.form3 hn4; have V4 : Hid (Gr v3 v4) := Lib.hid hg4; have B4 := Lib.hid (New.bs hn4); clear hn4)
              | (go_at_call 9; refine (sameZ_any _ _ (atP p q r s0 x) (atP p q r s0 x) _ (Z1.out.grown V2.out) Z2.out).mono ?_; rw [beq_self_eq_true]; rintro e v3 ⟨rfl, hg3⟩; have k30 := cell_grown hg3 (by exact k20); have k31 := cell_grown hg3 (by exact k21); have k32 := cell_grown hg3 (by exact k22); have V3 : Hid (Gr v2 v3) := Lib.hid hg3)
              | (go_at_call 11; refine (refAt_any p q r s0 x _ hs1).mono ?_; rintro e v2 ⟨y2, rfl, hz2, hg2⟩; have k20 := cell_grown hg2 (by exact k10); have k21 := cell_grown hg2 (by exact k11); have k22 := cell_grown hg2 (by exact k12); obtain ⟨o2, m2, d2, rfl⟩ := hz2.form3; have V2 : Hid (Gr v1 v2) := Lib.hid hg2; have Z2 := Lib.hid hz2; clear hz2)
              | (go_at_call 10; refine (HO.out.cols p q r s0 x _ hs1 hx).mono ?_; rintro e v1 ⟨y1, rfl, ho1, hg1⟩; have k10 := cell_grown hg1 (by exact hc0); have k11 := cell_grown hg1 (by exact hc1); have k12 := cell_grown hg1 (by exact hc2); obtain ⟨o1, m1, d1, rfl⟩ := ho1.form3; have V1 : Hid (Gr wi v1) := Lib.hid (by exact hg1); have Z1 := Lib.hid (ho1.zs); clear ho1))
          all_goals
            have HGZ := Lib.hid (Gr.trans HGI.out (Gr.trans V1.out (Gr.trans V2.out (Gr.trans V3.out (Gr.trans V4.out (Gr.trans V5.out V6.out))))))
            go_wp2_with fail
            exact ⟨⟨u + 1, by omega, by go_num, HGZ.out⟩, by simp [intOf]; omega⟩
        · have hlt3 : ((u : Int) < 3) = False := by simp; omega
          have HGT := Lib.hid (Gr.trans HG5.out hgi)
          have HFT := Lib.hid (HF5.out.grown hgi)
          clear hgi
          go_wp2_with fail
          exact ⟨⟨t + 1, by omega, by go_num, HFT.out, HGT.out⟩, by simp [intOf]; omega⟩
    · have hlt5 : ((t : Int) < 2) = False := by simp; omega
      go_wp2_with fail
      refine (ltWakes_any HO.out _).mono ?_
      rintro e w2 ⟨rfl, hg2⟩
      have G2 := Lib.hid (Gr.trans HG.out hg2)
      clear hg2
      go_wp2_with fail
      go_ret
      exact ⟨rfl, G2.out⟩
end Go.Proofs.Ytcahbbbccnhgnaa
