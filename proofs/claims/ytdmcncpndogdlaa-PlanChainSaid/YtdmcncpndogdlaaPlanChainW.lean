/-
  wellspringlaw13.PlanChain: the walk.
-/
import Derived.Test.YtdmcncpndogdlaaPlanPairsW
namespace Go.Proofs.Ytdmcncpndogdlaa
open Go.RowKit

namespace PN
def chL (s c : Nat) : List (List Int) := [(s : Int)] :: (List.range c).map fun i : Nat => [(i : Int), (i : Int) + 1]
theorem chL_length (s c : Nat) : (chL s c).length = c + 1 := by simp [chL]
theorem chL_succ (s c : Nat) : chL s (c + 1) = chL s c ++ [[(c : Int), (c : Int) + 1]] := by
  unfold chL
  rw [List.range_succ, List.map_append, List.map_singleton, List.cons_append]
theorem chL_may {s N : Nat} (hs : s < N) : ∀ r ∈ chL s (N - 1), MayRow N r ∧ r.length ≤ 2 := fun r hr => by
  rcases List.mem_cons.1 hr with rfl | hr
  · refine ⟨⟨fun x hx => ?_, fun j hj => by simp at hj⟩, by simp⟩
    obtain rfl := List.mem_singleton.1 hx
    omega
  · obtain ⟨i, hi, rfl⟩ := List.mem_map.1 hr
    have hi := List.mem_range.1 hi
    refine ⟨⟨fun x hx => ?_, fun j hj => ?_⟩, by simp⟩
    · simp at hx
      omega
    · have : j = 0 := by simp at hj; omega
      subst this
      show (i : Int) < (i : Int) + 1
      omega
theorem chL_turned {s N k : Nat} (hs : s < N) {R : List (List Int)} (hR : R = (chL s (N - 1)).drop k ++ (chL s (N - 1)).take k) : dead N R = [] ∧ (steps N R).length = N ∧ left N R = [] ∧ R.length = N ∧ ∀ r ∈ R, MayRow N r ∧ r.length ≤ 2 := by
  have hm : ∀ r, r ∈ R ↔ r ∈ chL s (N - 1) := fun r => by
    rw [hR, List.mem_append, or_comm, ← List.mem_append, List.take_append_drop]
  have hl : R.length = N := by
    rw [hR, List.length_append, Nat.add_comm, ← List.length_append, List.take_append_drop, chL_length]
    omega
  have h := chain hs (fun c hc => (chL_may hs c ((hm c).1 hc)).1) hl ((hm _).2 (List.mem_cons.2 (.inl rfl))) (fun i hi => (hm _).2 (List.mem_cons.2 (.inr (List.mem_map.2 ⟨i, List.mem_range.2 (by omega), rfl⟩))))
  exact ⟨h.1, h.2.1, h.2.2, hl, fun r hr => chL_may hs r ((hm r).1 hr)⟩
end PN
/-- One number written as a row, and that row as a slice of one's own. -/
theorem lit_own {base : Nat} {W : World} {a : Int} (ha : I64 a) (hb : base ≤ W.heap.size) : ZwO base ((W.alloc (.cells #[.int .i64 a] 3)).alloc (.cells #[.slice (some ⟨W.heap.size, 0, none⟩) 1 1] 23)) (.slice (some ⟨W.heap.size + 1, 0, none⟩) 1 1) [[a]] := by
  have gA : Gr (W.alloc (.cells #[.int .i64 a] 3)) ((W.alloc (.cells #[.int .i64 a] 3)).alloc (.cells #[.slice (some ⟨W.heap.size, 0, none⟩) 1 1] 23)) := Gr.alloc (Gr.refl _) _ _
  have hsz : (W.alloc (.cells #[.int .i64 a] 3)).heap.size = W.heap.size + 1 := by simp
  have hl := World.ownsRow_lit (base := base) (e := 23) (size := 1) (W.alloc (.cells #[.int .i64 a] 3)) #[.slice (some ⟨W.heap.size, 0, none⟩) 1 1] 1 (by rw [hsz]; omega) (by unfold maxLen; omega) rfl
  rw [hsz] at hl
  refine ⟨_, hl, fun i hi => ?_⟩
  have hi : i < 1 := hi
  obtain rfl : i = 0 := by omega
  refine ⟨(one_zs a ha).grown gA, fun a' m c e hm => .inr ?_⟩
  have e : Value.slice (some ⟨W.heap.size, 0, none⟩) 1 1 = .slice (some a') m c := e
  cases e
  exact ⟨_, keptRow gA (heap_alloc_new W _)⟩
set_option maxRecDepth 100000 in
set_option maxHeartbeats 3200000 in
theorem planChain_walk (O : InactOk) (n s t : Int) (w : World) :
    Calls Try.prog 5 #[.int .i64 n, .int .i64 s, .int .i64 t] w fun e w' => e = .returned (.bool true) ∧ Gr w w' := by
  have HO := Lib.hid O
  clear O
  obtain ⟨N, hN, hN2, hN3⟩ : ∃ N : Nat, 1 + n % 64 = (N : Int) ∧ N ≤ 64 ∧ 1 ≤ N := ⟨(1 + n % 64).toNat, by omega, by omega, by omega⟩
  obtain ⟨S, hS, hS2⟩ : ∃ S : Nat, s % (N : Int) = (S : Int) ∧ S < N := by
    have h1 := Int.emod_nonneg s (by omega : (N : Int) ≠ 0)
    have h2 := Int.emod_lt_of_pos s (by omega : (0 : Int) < N)
    exact ⟨(s % (N : Int)).toNat, by omega, by omega⟩
  obtain ⟨k, hk, hk2⟩ : ∃ k : Nat, t % (N : Int) = (k : Int) ∧ k < N := by
    have h1 := Int.emod_nonneg t (by omega : (N : Int) ≠ 0)
    have h2 := Int.emod_lt_of_pos t (by omega : (0 : Int) < N)
    exact ⟨(t % (N : Int)).toNat, by omega, by omega⟩
  have HN := Lib.hid hN
  have HS := Lib.hid hS
  have HK := Lib.hid hk
  clear hN hS hk
  go_enter Try.func5, Try.ntmps5
  go_wp2_with fail
  refine (within_any n 64 (by omega) (by omega) _).mono ?_
  rintro e w' ⟨rfl, rfl⟩
  go_wp2_with fail
  rw [HN.out]
  refine (within_any s N (by omega) (by omega) _).mono ?_
  rintro e w' ⟨rfl, rfl⟩
  rw [HS.out]
  have L0 := Lib.hid (lit_own (base := w.heap.size) (W := w) (a := (S : Int)) ⟨by omega, by omega⟩ (Nat.le_refl _))
  have hg0 : Gr w ((w.alloc (.cells #[.int .i64 (S : Int)] 3)).alloc (.cells #[.slice (some ⟨w.heap.size, 0, none⟩) 1 1] 23)) := Gr.alloc (Gr.alloc (Gr.refl _) _ _) _ _
  have G0 := Lib.hid hg0
  clear hg0
  go_wp2_with fail
  go_loopw [7, 8] (fun rv cv W => ∃ c : Nat, c + 1 ≤ N ∧ cv = .int .i64 c ∧ ZwO w.heap.size W rv (PN.chL S c) ∧ Gr w W) (fun _ cv _ => N - (intOf cv).toNat)
  case atStart => exact ⟨0, by omega, rfl, L0.out, G0.out⟩
  case round =>
    clear L0 G0
    obtain ⟨wo, hwo⟩ : ∃ x, x = wr := ⟨_, rfl⟩
    subst hwo
    obtain ⟨c, hc, rfl, ho, hg⟩ := hrel
    obtain ⟨oo, co, eo⟩ := ho.form
    rw [PN.chL_length] at eo
    subst eo
    have HOW := Lib.hid ho
    have HG := Lib.hid hg
    clear ho hg
    by_cases hlt : c + 1 < N
    · have hst := Lib.hid (PN.chL_succ S c)
      have EV := Lib.hid (lit_single (base := w.heap.size) (W := wo) (a := (c : Int)) (b := (c : Int) + 1) ⟨by omega, by omega⟩ ⟨by omega, by omega⟩)
      have gA : Gr wo ((wo.alloc (.cells #[.int .i64 (c : Int), .int .i64 ((c : Int) + 1)] 3)).alloc (.cells #[.slice (some ⟨wo.heap.size, 0, none⟩) 2 2] 23)) := Gr.alloc (Gr.alloc (Gr.refl _) _ _) _ _
      have OE := Lib.hid (HOW.out.grown gA)
      have GW := Lib.hid (Gr.trans HG.out gA)
      clear gA
      go_wp2_with (at_builtin; refine wpList_append_zss rfl _ _ rfl w.heap.size (.slice oo (c + 1) co) (PN.chL S c) [[(c : Int), (c : Int) + 1]] rfl OE.out (some ⟨wo.heap.size + 1, 0, none⟩) 1 1 rfl EV.out (fun e => by cases e) (by rw [PN.chL_length]; omega) GW.out.size ?_; intro v5 w5 h5 hg5 hgr5; have L5 := Lib.hid h5; have G5 := Lib.hid (hg5 w GW.out (Nat.le_refl _)); clear h5 hg5 hgr5)
      exact ⟨⟨c + 1, by omega, by go_num, by rw [hst.out]; exact L5.out, G5.out⟩, by simp [intOf]; omega⟩
    · obtain rfl : N = c + 1 := by omega
      go_wp2_with fail
      refine (within_any t ((c + 1 : Nat) : Int) (by omega) (by omega) _).mono ?_
      rintro e w' ⟨rfl, rfl⟩
      rw [HK.out]
      rcases HOW.out.lies with ⟨_, h, _⟩ | ⟨g2, rfl, hc2, hc3⟩
      · omega
      have V0 := Lib.hid (HOW.out.vals.mono HG.out.size)
      have HLC := Lib.hid (PN.chL_length S c)
      have hVd : ZsV wo.heap.size wo (some ⟨g2, k, none⟩) (c + 1 - k) ((PN.chL S c).drop k) := by
        have h := V0.out.drop k
        rw [Addr.add_mid, Nat.zero_add] at h
        exact h
      have VD := Lib.hid hVd
      have VT := Lib.hid (V0.out.take k (by omega))
      have HDL : Hid (((PN.chL S c).drop k).length = c + 1 - k) := Lib.hid (by rw [List.length_drop, PN.chL_length])
      obtain ⟨R, hR⟩ : ∃ R, R = (PN.chL S c).drop k ++ (PN.chL S c).take k := ⟨_, rfl⟩
      have HR := Lib.hid (PN.chL_turned (k := k) hS2 hR)
      have HRR := Lib.hid hR
      have hcu : ¬ co = k := by omega
      generalize PN.chL S c = Le at *
      clear hVd HOW hR V0
      go_upto_region 8 with fail
      go_cut [7] (fun ov wx => ZwO wo.heap.size wx ov R ∧ Gr wo wx)
      case first =>
        have HY : Hid (([] ++ Le.drop k : List (List Int)).length = c + 1 - k) := Lib.hid (by rw [List.nil_append]; exact HDL.out)
        obtain ⟨y, hy⟩ : ∃ y, c + 1 - k = y := ⟨_, rfl⟩
        obtain ⟨z, hz⟩ : ∃ z, co - k = z := ⟨_, rfl⟩
        rw [hy] at VD HY HDL
        have hyl : y ≤ 64 := by omega
        have b0 : (0 : Int) ≤ (k : Int) := by omega
        have b1 : (k : Int) ≤ ((c + 1 : Nat) : Int) := by omega
        have b2 : (k : Int) ≤ (c : Int) + 1 := by omega
        have b3 : (k : Int) ≤ (co : Int) := by omega
        have b4 : (c : Int) + 1 ≤ (co : Int) := by omega
        have b5 : k ≤ co := by omega
        have b6 : k ≤ c + 1 := by omega
        go_region_held3 (fun _ => True) (first | trivial) (first
          | (have hx5 := L5; refine step_append_zss rfl _ _ (by rfl) wo.heap.size (.slice o5 y c5) ([] ++ Le.drop k) (Le.take k) (by rfl) L5.out (some ⟨g2, 0, none⟩) k co (by rfl) (VT.out.grown G5.out) (fun e => by cases e) (by rw [HY.out]; omega) G5.out.size ?_; intro v6 w6 h6 hg6 hgr6; have L6 := Lib.hid h6; have G6 := Lib.hid (hg6 wo G5.out (Nat.le_refl _)); clear h6 hg6 hgr6)
          | (refine step_append_zss rfl _ _ (by rfl) wo.heap.size (.slice none 0 0) [] (Le.drop k) (by rfl) (ZwO.nil _ _) (some ⟨g2, k, none⟩) y z (by rfl) (VD.out.grown (Gr.drewQ (Gr.refl wo))) (fun e => by cases e) (by simp; omega) (Gr.size (Gr.drewQ (Gr.refl wo))) ?_; intro v5 w5 h5 hg5 hgr5; have L5 := Lib.hid h5; have G5 := Lib.hid (hg5 wo (Gr.drewQ (Gr.refl wo)) (Nat.le_refl _)); clear h5 hg5 hgr5; obtain ⟨o5, c5, e5⟩ := L5.out.form; rw [HY.out] at e5; subst e5))
        all_goals (go_wp2_with fail; go_meet)
        all_goals exact ⟨by rw [HRR.out]; exact L6.out, G6.out⟩
      case rest =>
        obtain ⟨hoo, hgc⟩ := hcut
        obtain ⟨q1, q2, q3, q4, q5⟩ := HR.out
        obtain ⟨ot, ct, et⟩ := hoo.form
        rw [q4] at et
        subst et
        have HZ := Lib.hid hoo.zss
        have GC := Lib.hid (Gr.trans HG.out hgc)
        clear hoo hgc VD VT HDL HR HRR
        go_wp2_with fail
        refine (HO.out.plan ((c + 1 : Nat) : Int) _ R _ ⟨by omega, by omega⟩ HZ.out (by omega) (fun r hr => by have := (q5 r hr).2; omega)).mono ?_
        rintro e w1 ⟨sv, dv, lv, st, de, le, ok, rfl, hs, hd, hl, hgp, hsy⟩
        rcases hsy with ⟨h, _⟩ | ⟨_, rfl, rfl, rfl, rfl⟩
        · exact absurd ⟨by omega, by omega, fun r hr => (q5 r hr).1⟩ h
        rw [Int.toNat_natCast] at hs hd hl
        rw [q1] at hd
        rw [q3] at hl
        obtain ⟨os, cs, e1⟩ := hs.form
        rw [q2] at e1
        subst e1
        obtain ⟨od, cd, e2⟩ := hd.form
        have e2 : dv = .slice od 0 cd := e2
        subst e2
        obtain ⟨ol, cl, e3⟩ := hl.form
        have e3 : lv = .slice ol 0 cl := e3
        subst e3
        have G1 := Lib.hid (Gr.trans GC.out hgp)
        clear hs hd hl hgp q1 q2 q3 q4 q5 HZ
        go_wp2_with fail
        refine (planWakes_any HO.out _).mono ?_
        rintro e w9 ⟨rfl, hg9⟩
        have G9 := Lib.hid (Gr.trans G1.out (Gr.trans (Gr.alloc (Gr.refl _) _ _) hg9))
        clear hg9
        go_wp2_with fail
        go_ret
        exact ⟨rfl, G9.out⟩
end Go.Proofs.Ytdmcncpndogdlaa
