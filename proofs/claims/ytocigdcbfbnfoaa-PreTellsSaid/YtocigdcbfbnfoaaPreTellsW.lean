/-
  Law PreTells, walked: which parameters may be, the columns, the rows ahead are the document's own.
-/
import Derived.Test.YtocigdcbfbnfoaaPy
namespace Go.Proofs.Ytocigdcbfbnfoaa
open Go.RowKit

/-- Five parameters lie in block g. -/
def Fives (w : World) (g : Nat) : Prop := ∀ t, t < 5 → ∃ K H S, w.cell? ⟨g, t * 3, none⟩ = some (.int .i64 K) ∧ w.cell? ⟨g, t * 3 + 1, none⟩ = some (.int .i64 H) ∧ w.cell? ⟨g, t * 3 + 2, none⟩ = some (.int .i64 S)
theorem Fives.grown {w w' : World} {g : Nat} (h : Fives w g) (hg : Gr w w') : Fives w' g := fun t ht => by
  obtain ⟨K, H, S, h1, h2, h3⟩ := h t ht
  exact ⟨K, H, S, cell_grown hg h1, cell_grown hg h2, cell_grown hg h3⟩
set_option maxRecDepth 100000 in
set_option maxHeartbeats 3200000 in
theorem preTells_walk (O : PreOk) (K H S a b c : Int) (w : World) :
    Calls Try.prog 3 #[par K H S, .int .i64 a, .int .i64 b, .int .i64 c] w fun e w' => e = .returned (.bool true) ∧ Gr w w' := by
  have HO := Lib.hid O
  clear O
  have HP0 : Hid (Par (w.alloc (.cells #[.int .i64 K, .int .i64 H, .int .i64 S] 23)) w.heap.size K H S) := Lib.hid (heap_alloc_new _ _)
  have HG0 : Hid (Gr w (w.alloc (.cells #[.int .i64 K, .int .i64 H, .int .i64 S] 23))) := Lib.hid (Gr.alloc (Gr.refl _) _ _)
  go_enter Try.func3, Try.ntmps3
  go_wp2_with fail
  generalize w.alloc (.cells #[.int .i64 K, .int .i64 H, .int .i64 S] 23) = W0 at *
  generalize w.heap.size = gp at *
  have c0 := HP0.out.cell0
  have c1 := HP0.out.cell1
  have c2 := HP0.out.cell2
  go_region_held3 (fun W => W.cell? ⟨gp, 0, none⟩ = some (.int .i64 K) ∧ W.cell? ⟨gp, 1, none⟩ = some (.int .i64 H) ∧ W.cell? ⟨gp, 2, none⟩ = some (.int .i64 S)) (first | exact ⟨c10, c11, c12⟩ | exact ⟨cell_grown (Gr.alloc (Gr.refl _) _ _) c10, cell_grown (Gr.alloc (Gr.refl _) _ _) c11, cell_grown (Gr.alloc (Gr.refl _) _ _) c12⟩ | go_keep)
    (first | (go_at_call 7; refine (params_any a b c _).mono ?_; rintro e w1 ⟨rfl, hg⟩; have c10 := cell_grown hg (by exact c0); have c11 := cell_grown hg (by exact c1); have c12 := cell_grown hg (by exact c2); have G1 : Hid (Gr W0 w1) := Lib.hid (by exact hg); clear hg))
  have HF : Hid (Fives (w1.alloc (.cells #[.int .i64 K, .int .i64 H, .int .i64 S, .int .i64 (1 + a % 16), .int .i64 (1 + b % 4), .int .i64 (1 + c % 24), .int .i64 K, .int .i64 1, .int .i64 1, .int .i64 1, .int .i64 H, .int .i64 1, .int .i64 1, .int .i64 1, .int .i64 S] 23)) w1.heap.size) := Lib.hid (by
    intro t ht
    have hb := heap_alloc_new w1 (.cells #[.int .i64 K, .int .i64 H, .int .i64 S, .int .i64 (1 + a % 16), .int .i64 (1 + b % 4), .int .i64 (1 + c % 24), .int .i64 K, .int .i64 1, .int .i64 1, .int .i64 1, .int .i64 H, .int .i64 1, .int .i64 1, .int .i64 1, .int .i64 S] 23)
    rw [cell_of_row _ _ (t * 3) _ _ _ hb, cell_of_row _ _ (t * 3 + 1) _ _ _ hb, cell_of_row _ _ (t * 3 + 2) _ _ _ hb]
    have : t = 0 ∨ t = 1 ∨ t = 2 ∨ t = 3 ∨ t = 4 := by omega
    rcases this with rfl | rfl | rfl | rfl | rfl
    · exact ⟨_, _, _, rfl, rfl, rfl⟩
    · exact ⟨_, _, _, rfl, rfl, rfl⟩
    · exact ⟨_, _, _, rfl, rfl, rfl⟩
    · exact ⟨_, _, _, rfl, rfl, rfl⟩
    · exact ⟨_, _, _, rfl, rfl, rfl⟩)
  have HG1 : Hid (Gr w (w1.alloc (.cells #[.int .i64 K, .int .i64 H, .int .i64 S, .int .i64 (1 + a % 16), .int .i64 (1 + b % 4), .int .i64 (1 + c % 24), .int .i64 K, .int .i64 1, .int .i64 1, .int .i64 1, .int .i64 H, .int .i64 1, .int .i64 1, .int .i64 1, .int .i64 S] 23))) := Lib.hid (Gr.alloc (Gr.trans HG0.out G1.out) _ _)
  clear c0 c1 c2 c10 c11 c12 HP0 HG0 G1
  generalize w1.alloc (.cells #[.int .i64 K, .int .i64 H, .int .i64 S, .int .i64 (1 + a % 16), .int .i64 (1 + b % 4), .int .i64 (1 + c % 24), .int .i64 K, .int .i64 1, .int .i64 1, .int .i64 1, .int .i64 H, .int .i64 1, .int .i64 1, .int .i64 1, .int .i64 S] 23) = W2 at *
  generalize w1.heap.size = gl at *
  go_wp2_with fail
  go_loopw [27] (fun i wr => ∃ t : Nat, t ≤ 5 ∧ i = .int .i64 t ∧ Fives wr gl ∧ Gr w wr) (fun i _ => 5 - (intOf i).toNat)
  case atStart => exact ⟨0, by omega, rfl, HF.out, HG1.out⟩
  case round =>
    clear HF HG1
    obtain ⟨wo, hwo⟩ : ∃ x, x = wr := ⟨_, rfl⟩
    subst hwo
    obtain ⟨t, ht, rfl, hf, hg⟩ := hrel
    have HF := Lib.hid hf
    have HG := Lib.hid hg
    clear hf hg
    by_cases hlt : t < 5
    · obtain ⟨p, q, r, q0, q1, q2⟩ := HF.out t hlt
      go_wp2_with fail
      have hga : Gr wo (wo.alloc (.cells #[.int .i64 p, .int .i64 q, .int .i64 r] 23)) := Gr.alloc (Gr.refl _) _ _
      have HG3 : Hid (Gr w (wo.alloc (.cells #[.int .i64 p, .int .i64 q, .int .i64 r] 23))) := Lib.hid (Gr.trans HG.out hga)
      have HF3 : Hid (Fives (wo.alloc (.cells #[.int .i64 p, .int .i64 q, .int .i64 r] 23)) gl) := Lib.hid (HF.out.grown hga)
      have hpar : Par (wo.alloc (.cells #[.int .i64 p, .int .i64 q, .int .i64 r] 23)) wo.heap.size p q r := heap_alloc_new _ _
      have hc0 := hpar.cell0
      have hc1 := hpar.cell1
      have hc2 := hpar.cell2
      clear hga hpar HF HG q0 q1 q2
      generalize wo.alloc (.cells #[.int .i64 p, .int .i64 q, .int .i64 r] 23) = W3 at *
      generalize wo.heap.size = gq at *
      go_region_held3 (fun W => W.cell? ⟨gq, 0, none⟩ = some (.int .i64 p) ∧ W.cell? ⟨gq, 1, none⟩ = some (.int .i64 q) ∧ W.cell? ⟨gq, 2, none⟩ = some (.int .i64 r)) (first | exact ⟨k70, k71, k72⟩ | exact ⟨k60, k61, k62⟩ | exact ⟨k50, k51, k52⟩ | exact ⟨k40, k41, k42⟩ | exact ⟨k30, k31, k32⟩ | exact ⟨k20, k21, k22⟩ | exact ⟨k10, k11, k12⟩ | go_keep)
        (first
          | (go_at_call 12; refine (rows_any _ _ (aheadP p q r) (aheadP p q r) _ (Bss.grown B5.out V6.out) B6.out).mono ?_; rw [beq_self_eq_true]; rintro e v7 ⟨rfl, hg7⟩; have k70 := cell_grown hg7 (by exact k60); have k71 := cell_grown hg7 (by exact k61); have k72 := cell_grown hg7 (by exact k62); have V7 : Hid (Gr v6 v7) := Lib.hid hg7)
          | (go_at_call 14; refine (refAhead_any p q r _).mono ?_; rintro e v6 ⟨x6, rfl, hr6, hg6⟩; have k60 := cell_grown hg6 (by exact k50); have k61 := cell_grown hg6 (by exact k51); have k62 := cell_grown hg6 (by exact k52); obtain ⟨o6, m6, c6, rfl⟩ := hr6.form3; have V6 : Hid (Gr v5 v6) := Lib.hid hg6; have B6 := Lib.hid hr6; clear hr6)
          | (go_at_call 13; refine (HO.out.rows p q r _).mono ?_; rintro e v5 ⟨x5, rfl, hr5, hg5⟩; have k50 := cell_grown hg5 (by exact k40); have k51 := cell_grown hg5 (by exact k41); have k52 := cell_grown hg5 (by exact k42); obtain ⟨o5, m5, c5, rfl⟩ := hr5.bss.form3; have V5 : Hid (Gr v4 v5) := Lib.hid hg5; have B5 := Lib.hid hr5.bss; clear hr5)
          | (go_at_call 11; refine (refCols_any p q r _).mono ?_; rintro e v4 ⟨rfl, hg4⟩; have k40 := cell_grown hg4 (by exact k30); have k41 := cell_grown hg4 (by exact k31); have k42 := cell_grown hg4 (by exact k32); have V4 : Hid (Gr v3 v4) := Lib.hid hg4)
          | (go_at_call 10; refine (HO.out.cols p q r _).mono ?_; rintro e v3 ⟨rfl, hg3⟩; have k30 := cell_grown hg3 (by exact k20); have k31 := cell_grown hg3 (by exact k21); have k32 := cell_grown hg3 (by exact k22); have V3 : Hid (Gr v2 v3) := Lib.hid hg3)
          | (go_at_call 9; refine (refMay_any p q r _).mono ?_; rintro e v2 ⟨rfl, hg2⟩; have k20 := cell_grown hg2 (by exact k10); have k21 := cell_grown hg2 (by exact k11); have k22 := cell_grown hg2 (by exact k12); have V2 : Hid (Gr v1 v2) := Lib.hid hg2)
          | (go_at_call 8; refine (HO.out.may p q r _).mono ?_; rintro e v1 ⟨rfl, hg1⟩; have k10 := cell_grown hg1 (by exact hc0); have k11 := cell_grown hg1 (by exact hc1); have k12 := cell_grown hg1 (by exact hc2); have V1 : Hid (Gr W3 v1) := Lib.hid (by exact hg1)))
      all_goals
        have hgz : Gr W3 v7 := Gr.trans V1.out (Gr.trans V2.out (Gr.trans V3.out (Gr.trans V4.out (Gr.trans V5.out (Gr.trans V6.out V7.out)))))
        have HGZ := Lib.hid (Gr.trans HG3.out hgz)
        have HFZ := Lib.hid (HF3.out.grown hgz)
        clear hgz
        go_wp2_with fail
        exact ⟨⟨t + 1, by omega, by go_num, HFZ.out, HGZ.out⟩, by simp [intOf]; omega⟩
    · have hlt5 : ((t : Int) < 5) = False := by simp; omega
      go_wp2_with fail
      refine (preWakes_any HO.out _).mono ?_
      rintro e w2 ⟨rfl, hg2⟩
      have G2 := Lib.hid (Gr.trans HG.out hg2)
      clear hg2
      go_wp2_with fail
      go_ret
      exact ⟨rfl, G2.out⟩
end Go.Proofs.Ytocigdcbfbnfoaa
