/-
  Law SomeTells, walked: which are chosen is the document's own, and what is drawn behind it.
-/
import Derived.Test.YtcbmgdkopgepdaaCi
import Derived.Test.YtcbmgdkopgepdaaTd
namespace Go.Proofs.Ytcbmgdkopgepdaa
open Go.RowKit

/-- Four pairs of integers lie in block g. -/
def Pairs (w : World) (g : Nat) : Prop := ∀ t, t < 4 → ∃ x y, w.cell? ⟨g, t * 2, none⟩ = some (.int .i64 x) ∧ w.cell? ⟨g, t * 2 + 1, none⟩ = some (.int .i64 y) ∧ I64 x ∧ I64 y
theorem Pairs.kept {F : Nat → Prop} {w w' : World} {g : Nat} (h : Pairs w g) (hk : Kp F w w') (hn : ¬ F g) : Pairs w' g := fun t ht => by
  obtain ⟨x, y, h1, h2, h3⟩ := h t ht
  exact ⟨x, y, hk.cell h1 hn, hk.cell h2 hn, h3⟩
set_option maxRecDepth 100000 in
set_option maxHeartbeats 3200000 in
theorem someTells_walk {At : World → Value → (Nat → Prop) → Nat → Prop} (D : DrawOk At) (O : ChooseOk At) (sd n k m : Int) (w : World) (_ : 0 ≤ sd) (_ : sd < 18446744073709551616) (hn : I64 n) (hk : I64 k) (_ : I64 m) :
    Calls Try.prog 3 #[.int .u64 sd, .int .i64 n, .int .i64 k, .int .i64 m] w fun e w' => e = .returned (.bool true) ∧ Gr w w' := by
  have H := Lib.hid O
  have HD := Lib.hid D
  have HNI := Lib.hid hn
  have HKI := Lib.hid hk
  clear O D hn hk
  obtain ⟨s0, hs0, hs1⟩ : ∃ s : Nat, sd % 4294967296 = s ∧ s < 4294967296 := ⟨(sd % 4294967296).toNat, by omega, by omega⟩
  obtain ⟨n65, a1, a2⟩ : ∃ q : Nat, n % 65 = q ∧ q < 65 := ⟨(n % 65).toNat, by omega, by omega⟩
  obtain ⟨k70, a3, a4⟩ : ∃ q : Nat, k % 70 = q ∧ q < 70 := ⟨(k % 70).toNat, by omega, by omega⟩
  obtain ⟨n20, a5, a6⟩ : ∃ q : Nat, n % 20 = q ∧ q < 20 := ⟨(n % 20).toNat, by omega, by omega⟩
  obtain ⟨m20, a7, a8⟩ : ∃ q : Nat, m % 20 = q ∧ q < 20 := ⟨(m % 20).toNat, by omega, by omega⟩
  obtain ⟨m66, a9, b1⟩ : ∃ q : Nat, m % 66 = q ∧ q < 66 := ⟨(m % 66).toNat, by omega, by omega⟩
  obtain ⟨k9, b2, b3⟩ : ∃ q : Nat, k % 9 = q ∧ q < 9 := ⟨(k % 9).toNat, by omega, by omega⟩
  have A1 := Lib.hid a1
  have A3 := Lib.hid a3
  have A5 := Lib.hid a5
  have A7 := Lib.hid a7
  have A9 := Lib.hid a9
  have B2 := Lib.hid b2
  clear a1 a3 a5 a7 a9 b2
  go_enter Try.func3, Try.ntmps3
  go_wp2_with fail
  refine (HD.out.new s0 _ hs1).mono ?_
  rintro e w1 ⟨d, F, rfl, ha, hg1, hF⟩
  obtain ⟨ad, rfl⟩ := HD.out.ptr ha
  have D1 : Hid (Dr At w w1 (.pointer (some ad)) F s0) := Lib.hid ⟨ha, hF, hg1, by omega⟩
  clear ha hg1 hF
  go_wp2_with fail
  have HR : Hid (RAt (w1.alloc (.cells #[.int .u64 (s0 : Int)] 29)) w1.heap.size s0) := Lib.hid (heap_alloc_new _ _)
  have HNF : Hid (¬ F w1.heap.size) := Lib.hid (fun e => by have := HD.out.lt D1.out.1 _ e; omega)
  have HGR : Hid (w.heap.size ≤ w1.heap.size) := Lib.hid D1.out.2.2.1.size
  have D2 : Hid (Dr At w (w1.alloc (.cells #[.int .u64 (s0 : Int)] 29)) (.pointer (some ad)) F s0) := Lib.hid (D1.out.grown HD.out (Gr.alloc (Gr.refl _) _ _))
  clear D1
  generalize w1.alloc (.cells #[.int .u64 (s0 : Int)] 29) = W1 at *
  generalize w1.heap.size = gr at *
  refine (within_any n 65 (by omega) (by omega) _).mono ?_
  rintro e w' ⟨rfl, rfl⟩
  rw [A1.out]
  go_wp2_with fail
  refine (within_any k 70 (by omega) (by omega) _).mono ?_
  rintro e w' ⟨rfl, rfl⟩
  rw [A3.out]
  go_wp2_with fail
  refine (within_any n 20 (by omega) (by omega) _).mono ?_
  rintro e w' ⟨rfl, rfl⟩
  rw [A5.out]
  go_wp2_with fail
  refine (within_any m 20 (by omega) (by omega) _).mono ?_
  rintro e w' ⟨rfl, rfl⟩
  rw [A7.out]
  go_wp2_with fail
  refine (within_any m 66 (by omega) (by omega) _).mono ?_
  rintro e w' ⟨rfl, rfl⟩
  rw [A9.out]
  go_wp2_with fail
  refine (within_any k 9 (by omega) (by omega) _).mono ?_
  rintro e w' ⟨rfl, rfl⟩
  rw [B2.out]
  go_wp2_with fail
  have HI1 : Hid (I64 (n65 : Int)) := Lib.hid ⟨by omega, by omega⟩
  have HI2 : Hid (I64 ((k70 : Int) - 2)) := Lib.hid ⟨by omega, by omega⟩
  have HI3 : Hid (I64 (n20 : Int)) := Lib.hid ⟨by omega, by omega⟩
  have HI4 : Hid (I64 (m20 : Int)) := Lib.hid ⟨by omega, by omega⟩
  have HI5 : Hid (I64 (m66 : Int)) := Lib.hid ⟨by omega, by omega⟩
  have HI6 : Hid (I64 (k9 : Int)) := Lib.hid ⟨by omega, by omega⟩
  have HPR : Hid (Pairs (W1.alloc (.cells #[.int .i64 n, .int .i64 k, .int .i64 n65, .int .i64 ((k70 : Int) - 2), .int .i64 n20, .int .i64 m20, .int .i64 m66, .int .i64 k9] 31)) W1.heap.size) := Lib.hid (by
    intro t ht
    have hb := heap_alloc_new W1 (.cells #[.int .i64 n, .int .i64 k, .int .i64 n65, .int .i64 ((k70 : Int) - 2), .int .i64 n20, .int .i64 m20, .int .i64 m66, .int .i64 k9] 31)
    rw [cell_of_row _ _ (t * 2) _ _ _ hb, cell_of_row _ _ (t * 2 + 1) _ _ _ hb]
    have : t = 0 ∨ t = 1 ∨ t = 2 ∨ t = 3 := by omega
    rcases this with rfl | rfl | rfl | rfl
    · exact ⟨n, k, rfl, rfl, HNI.out, HKI.out⟩
    · exact ⟨_, _, rfl, rfl, HI1.out, HI2.out⟩
    · exact ⟨_, _, rfl, rfl, HI3.out, HI4.out⟩
    · exact ⟨_, _, rfl, rfl, HI5.out, HI6.out⟩)
  have hga : Gr W1 (W1.alloc (.cells #[.int .i64 n, .int .i64 k, .int .i64 n65, .int .i64 ((k70 : Int) - 2), .int .i64 n20, .int .i64 m20, .int .i64 m66, .int .i64 k9] 31)) := Gr.alloc (Gr.refl _) _ _
  have D3 : Hid (Dr At w (W1.alloc (.cells #[.int .i64 n, .int .i64 k, .int .i64 n65, .int .i64 ((k70 : Int) - 2), .int .i64 n20, .int .i64 m20, .int .i64 m66, .int .i64 k9] 31)) (.pointer (some ad)) F s0) := Lib.hid (D2.out.grown HD.out hga)
  have R3 : Hid (RAt (W1.alloc (.cells #[.int .i64 n, .int .i64 k, .int .i64 n65, .int .i64 ((k70 : Int) - 2), .int .i64 n20, .int .i64 m20, .int .i64 m66, .int .i64 k9] 31)) gr s0) := Lib.hid (HR.out.kept (hga.kp fun _ => False) (fun e => e))
  have HNL : Hid (¬ F W1.heap.size) := Lib.hid (fun e => by have := HD.out.lt D2.out.1 _ e; omega)
  have HLR : Hid (W1.heap.size ≠ gr) := Lib.hid (by have := HR.out.lt; omega)
  clear hga D2 HR
  generalize W1.alloc (.cells #[.int .i64 n, .int .i64 k, .int .i64 n65, .int .i64 ((k70 : Int) - 2), .int .i64 n20, .int .i64 m20, .int .i64 m66, .int .i64 k9] 31) = W2 at *
  generalize W1.heap.size = gl at *
  go_loopw [51] (fun i wr => ∃ (t s : Nat), t ≤ 4 ∧ i = .int .i64 t ∧ Dr At w wr (.pointer (some ad)) F s ∧ RAt wr gr s ∧ Pairs wr gl) (fun i _ => 4 - (intOf i).toNat)
  case atStart => exact ⟨0, s0, by omega, rfl, D3.out, R3.out, HPR.out⟩
  case round =>
    clear D3 R3 HPR
    obtain ⟨wo, hwo⟩ : ∃ x, x = wr := ⟨_, rfl⟩
    subst hwo
    obtain ⟨t, s, ht, rfl, hd, hr, hp⟩ := hrel
    have DD := Lib.hid hd
    have RR := Lib.hid hr
    have PP := Lib.hid hp
    clear hd hr hp
    by_cases hlt : t < 4
    · obtain ⟨x, y, q1, q2, hx, hy⟩ := PP.out t hlt
      go_wp2_with fail
      have hga : Gr wo (wo.alloc (.cells #[.int .i64 x, .int .i64 y] 31)) := Gr.alloc (Gr.refl _) _ _
      have D3 : Hid (Dr At w (wo.alloc (.cells #[.int .i64 x, .int .i64 y] 31)) (.pointer (some ad)) F s) := Lib.hid (DD.out.grown HD.out hga)
      have R3 : Hid (RAt (wo.alloc (.cells #[.int .i64 x, .int .i64 y] 31)) gr s) := Lib.hid (RR.out.kept (hga.kp fun _ => False) (fun e => e))
      have P3 : Hid (Pairs (wo.alloc (.cells #[.int .i64 x, .int .i64 y] 31)) gl) := Lib.hid (PP.out.kept (hga.kp fun _ => False) (fun e => e))
      have HNP : Hid (¬ F wo.heap.size) := Lib.hid (fun e => by have := HD.out.lt DD.out.1 _ e; omega)
      have HPG : Hid (wo.heap.size ≠ gr) := Lib.hid (by have := RR.out.lt; omega)
      have c0 : (wo.alloc (.cells #[.int .i64 x, .int .i64 y] 31)).cell? ⟨wo.heap.size, 0, none⟩ = some (.int .i64 x) := by rw [cell_of_row _ _ 0 _ _ _ (heap_alloc_new _ _)]; rfl
      have c1 : (wo.alloc (.cells #[.int .i64 x, .int .i64 y] 31)).cell? ⟨wo.heap.size, 1, none⟩ = some (.int .i64 y) := by rw [cell_of_row _ _ 1 _ _ _ (heap_alloc_new _ _)]; rfl
      clear hga DD RR PP q1 q2
      generalize wo.alloc (.cells #[.int .i64 x, .int .i64 y] 31) = W3 at *
      generalize wo.heap.size = gp at *
      go_region_held3 (fun W => W.cell? ⟨gp, 0, none⟩ = some (.int .i64 x) ∧ W.cell? ⟨gp, 1, none⟩ = some (.int .i64 y)) (first | exact ⟨c60, c61⟩ | exact ⟨c50, c51⟩ | exact ⟨c40, c41⟩ | go_keep)
        (first
          | (go_at_call 9; refine (sameZ_any _ _ (C.someZ s x y) (C.someZ s x y) _ Z5.out Y5.out).mono ?_; rw [beq_self_eq_true]; rintro e w6 ⟨rfl, hg6⟩; have c60 := cell_gr hg6 c50; have c61 := cell_gr hg6 c51; have G6 := Lib.hid hg6; clear hg6)
          | (go_at_call 10; refine (H.out.some _ x y F s _ hx hy D3.out.2.2.2 (by exact (D3.out.grown HD.out (Gr.drew (Gr.refl _))).1)).mono ?_; rintro e w4 ⟨v4, rfl, hz, haw, ha, hk⟩; obtain ⟨o4, m4, e4, rfl⟩ := hz.form3; have Z4 := Lib.hid hz; have K4 : Hid (Kp F W3 w4) := Lib.hid hk; have A4 := Lib.hid ha; have R4 : Hid (RAt w4 gr s) := Lib.hid (R3.out.kept hk HNF.out); have c40 := hk.cell c0 HNP.out; have c41 := hk.cell c1 HNP.out; clear hz haw ha hk)
          | (go_at_call 11; refine (refSome_any gr s x y _ R4.out hx hy).mono ?_; rintro e w5 ⟨v5, rfl, hz, hr, hk⟩; obtain ⟨o5, m5, e5, rfl⟩ := hz.form3; have Y5 := Lib.hid hz; have Z5 := Lib.hid (Z4.out.kept R4.out hk); have R5 := Lib.hid hr; have K5 := Lib.hid hk; have c50 := hk.cell c40 HPG.out; have c51 := hk.cell c41 HPG.out; clear hz hr hk))
      all_goals
        have hlt6 : C.someS s x y < 18446744073709551616 := by
          unfold C.someS
          split
          · exact C.st_lt D3.out.2.2.2 _
          · exact D3.out.2.2.2
        have D6 := Lib.hid (((D3.out.step A4.out K4.out hlt6).other HD.out K5.out (fun k e => by subst e; exact HGR.out) (fun k hF e => HNF.out (by rw [← e]; exact hF))).grown HD.out G6.out)
        have R6 := Lib.hid (R5.out.kept (G6.out.kp fun _ => False) (fun e => e))
        have P6 := Lib.hid (((P3.out.kept K4.out HNL.out).kept K5.out HLR.out).kept (G6.out.kp fun _ => False) (fun e => e))
        clear hlt6 D3 R3 P3 A4 K4 R4 Z4 Y5 Z5 R5 K5 G6 c0 c1 c40 c41 c50 c51 c60 c61
        go_wp2_with fail
        exact ⟨⟨t + 1, _, by omega, by go_num, D6.out, R6.out, P6.out⟩, by simp [intOf]; omega⟩
    · have hlt4 : ((t : Int) < 4) = False := by simp; omega
      go_wp2_with fail
      refine (HD.out.next _ F s _ DD.out.2.2.2 DD.out.1).mono ?_
      rintro e w9 ⟨rfl, ha, hk⟩
      have D9 := Lib.hid (DD.out.step ha hk (nextS_lt s))
      have R9 := Lib.hid (RR.out.kept hk HNF.out)
      clear ha hk DD RR PP
      go_wp2_with fail
      refine (refNext_any gr s _ R9.out).mono ?_
      rintro e w10 ⟨rfl, hr, hk⟩
      have D10 := Lib.hid (D9.out.other HD.out hk (fun k e => by subst e; exact HGR.out) (fun k hF e => HNF.out (by rw [← e]; exact hF)))
      clear hr hk D9 R9
      go_wp2_with fail
      refine (chooseWakes_any HD.out H.out _).mono ?_
      rintro e w11 ⟨rfl, hg11⟩
      have G11 := Lib.hid (Gr.trans D10.out.2.2.1 hg11)
      clear hg11
      go_wp2_with fail
      go_ret
      exact ⟨rfl, G11.out⟩
end Go.Proofs.Ytcbmgdkopgepdaa
