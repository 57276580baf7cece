/-
  Law CellPuts, walked: the cell of any kind and bytes.
-/
import Derived.Test.YtpckdjapkngpgaaDoorVg
namespace Go.Proofs.YtpckdjapkngpgaaDoor
open Go.RowKit

set_option maxRecDepth 100000 in
set_option maxHeartbeats 1600000 in
theorem cellPuts_walk (kind : Int) (v : Value) (l : List Int) (w : World) (O : CellOk w) (hki : I64 kind) (h : Bs w v l) :
    Calls Tryd.prog 3 #[.int .i64 kind, v] w fun e w' => e = .returned (.bool true) ∧ Gr w w' := by
  have HO := Lib.hid O
  obtain ⟨o, c, rfl⟩ := h.form5
  obtain ⟨n, hn⟩ : ∃ n, l.length = n := ⟨_, rfl⟩
  have HN := Lib.hid hn
  rw [hn] at h ⊢
  have H := Lib.hid h
  have HKI := Lib.hid hki
  obtain ⟨k, hk, hk1, hk2⟩ : ∃ k : Int, kind % 255 = k ∧ 0 ≤ k ∧ k ≤ 254 := ⟨_, rfl, by omega, by omega⟩
  have HK := Lib.hid hk
  clear O h hk hn hki
  go_enter Tryd.func3, Tryd.ntmps3
  by_cases hbig : (100 : Int) < (n : Int)
  · go_wp2_with fail
    refine (cellWakes_any HO.out _ (Gr.refl _)).mono ?_
    rintro e w1 ⟨rfl, hg1⟩
    have HG1 := Lib.hid hg1
    clear hg1
    go_wp2_with fail
    go_ret
    exact ⟨rfl, HG1.out⟩
  · have hn1 : n ≤ 100 := by omega
    go_wp2_with fail
    have hsp := spare_any (.slice o n c) l 71 w H.out (by have := HN.out; omega)
    rw [HN.out] at hsp
    refine hsp.mono ?_
    rintro e w2 ⟨g, rfl, _, hb2, hg2⟩
    have K2 := Lib.hid hb2
    have HG2 := Lib.hid hg2
    have HB2 := Lib.hid (H.out.grown hg2)
    clear hb2 hg2 hsp hbig
    go_wp2_with fail
    refine (within_any kind 255 (by omega) (by omega) _).mono ?_
    rw [HK.out]
    rintro e w' ⟨rfl, rfl⟩
    have C0 : Hid ((w2.alloc (.cells #[.int .i64 kind, .int .i64 (1 + k)] 3)).heap[w2.heap.size]? = some (.cells #[.int .i64 kind, .int .i64 (1 + k)] 3 (0, 0))) := Lib.hid (heap_alloc_new _ _)
    have G3 : Hid (Gr w2 (w2.alloc (.cells #[.int .i64 kind, .int .i64 (1 + k)] 3))) := Lib.hid (Gr.alloc (Gr.refl _) _ _)
    have K3 := Lib.hid (K2.out.grown G3.out)
    have HB3 := Lib.hid (HB2.out.grown G3.out)
    have HG3 := Lib.hid (Gr.trans HG2.out G3.out)
    clear K2 HB2 HG2 G3
    go_wp2_with fail
    generalize w2.alloc (.cells #[.int .i64 kind, .int .i64 (1 + k)] 3) = W3 at *
    generalize w2.heap.size = gl at *
    go_loopw [20] (fun iv W => ∃ t : Nat, t ≤ 2 ∧ iv = .int .i64 t ∧ W.heap[gl]? = some (.cells #[.int .i64 kind, .int .i64 (1 + k)] 3 (0, 0)) ∧ Blk W g (l ++ [71, 71]) ∧ Bs W (.slice o n c) l ∧ Gr w W) (fun iv _ => 2 - (intOf iv).toNat)
    case atStart => exact ⟨0, by omega, rfl, C0.out, K3.out, HB3.out, HG3.out⟩
    case round =>
      obtain ⟨wi, hwi⟩ : ∃ x, x = wr := ⟨_, rfl⟩
      subst hwi
      obtain ⟨t, ht, rfl, hc, hb, hbs, hg⟩ := hrel
      clear C0 K3 HB3 HG3
      by_cases hlt : t < 2
      · obtain ⟨kt, hkt, hk64⟩ : ∃ kt : Int, wi.cell? ⟨gl, t, none⟩ = some (.int .i64 kt) ∧ I64 kt := by
          rcases (by omega : t = 0 ∨ t = 1) with rfl | rfl
          · exact ⟨kind, by rw [cell_of_row _ _ 0 _ _ _ hc]; rfl, HKI.out⟩
          · exact ⟨1 + k, by rw [cell_of_row _ _ 1 _ _ _ hc]; rfl, by unfold I64; omega⟩
        have HC := Lib.hid hc
        have KB := Lib.hid hb
        have HB := Lib.hid hbs
        have HG := Lib.hid hg
        have HIN : Hid (Bs wi (.slice (some ⟨g, 0, none⟩) n (n + 2)) l) := Lib.hid (by
          have := Blk.bs_pre hb hbs.1 (by simp; have := HN.out; omega)
          rw [HN.out] at this
          simpa [HN.out] using this)
        have HLN : Hid (l.length ≤ 1000) := Lib.hid (by rw [HN.out]; omega)
        have H64 := Lib.hid hk64
        clear hc hb hbs hg hk64
        go_wp2_with fail
        refine (HO.out.put kt _ l _ HG.out H64.out HLN.out HIN.out).mono ?_
        rintro e w5 ⟨u5, rfl, hn5⟩
        obtain ⟨lp, hlp⟩ : ∃ m, (Cell.put kt l).length = m := ⟨_, rfl⟩
        have HLP := Lib.hid hlp
        obtain ⟨o5, c5, e5⟩ := (New.bs hn5).form5
        rw [hlp] at e5
        subst e5
        have B5 := Lib.hid (New.bs hn5)
        have G5 := Lib.hid hn5.1
        clear hn5 hlp
        go_wp2_with fail
        refine (refPut_any kt _ l _ H64.out HLN.out (HB.out.grown G5.out)).mono ?_
        rintro e w6 ⟨u6, rfl, hn6⟩
        obtain ⟨o6, c6, e6⟩ := (New.bs hn6).form5
        rw [HLP.out] at e6
        subst e6
        have B6 := Lib.hid (New.bs hn6)
        have B56 := Lib.hid (B5.out.grown hn6.1)
        have G6 := Lib.hid (Gr.trans G5.out hn6.1)
        clear hn6 B5 G5
        go_wp2_with fail
        refine (same_any _ _ _ _ _ B56.out B6.out).mono ?_
        rw [beq_self_eq_true]
        rintro e w7 ⟨rfl, hg7⟩
        have G7 := Lib.hid (Gr.trans G6.out hg7)
        clear hg7 B56 B6 G6
        go_wp2_with fail
        have hkp := kept_true g l (.slice o n c) 71 _ (KB.out.grown G7.out) HB.out.1 (HB.out.grown G7.out) (by have := HLN.out; omega)
        rw [HN.out] at hkp
        refine hkp.mono ?_
        rintro e w8 ⟨rfl, hg8⟩
        have G8 := Lib.hid (Gr.trans G7.out hg8)
        have HC8 := Lib.hid (keptRow G8.out HC.out)
        have KB8 := Lib.hid (KB.out.grown G8.out)
        have HB8 := Lib.hid (HB.out.grown G8.out)
        have HG8 := Lib.hid (Gr.trans HG.out G8.out)
        clear hg8 hkp G7
        go_wp2_with fail
        exact ⟨⟨t + 1, by omega, by go_num, HC8.out, KB8.out, HB8.out, HG8.out⟩, by simp [intOf]; omega⟩
      · obtain rfl : t = 2 := by omega
        have HG := Lib.hid hg
        clear hc hb hbs hg
        go_wp2_with fail
        refine (cellWakes_any HO.out _ HG.out).mono ?_
        rintro e w9 ⟨rfl, hg9⟩
        have HG9 := Lib.hid (Gr.trans HG.out hg9)
        clear hg9 HG
        go_wp2_with fail
        go_ret
        exact ⟨rfl, HG9.out⟩
end Go.Proofs.YtpckdjapkngpgaaDoor
