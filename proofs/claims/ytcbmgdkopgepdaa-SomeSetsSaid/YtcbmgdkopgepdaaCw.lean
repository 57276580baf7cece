/-
  What package choose is to do, as contracts; the verifier's looks at lists of numbers; the document's example.
-/
import Derived.Test.YtcbmgdkopgepdaaCh
namespace Go.Proofs.Ytcbmgdkopgepdaa
open Go.RowKit

/-- The contracts of package choose; At: how a Draw lies in memory. Without a Draw what is told is new memory. -/
structure ChooseOk (At : World → Value → (Nat → Prop) → Nat → Prop) : Prop where
  some : ∀ (d : Value) (n k : Int) (F : Nat → Prop) (s : Nat) (w : World), I64 n → I64 k → s < 18446744073709551616 → At w d F s →
    Calls Try.prog 10 #[d, .int .i64 n, .int .i64 k] w fun e w' => ∃ v, e = .returned v ∧ Zs w' v (C.someZ s n k) ∧ AwayZ F v ∧ At w' d F (C.someS s n k) ∧ Kp F w w'
  someNil : ∀ (n k : Int) (w : World), I64 n → I64 k → C.May n k → Calls Try.prog 10 #[.pointer none, .int .i64 n, .int .i64 k] w fun e w' => ∃ v, e = .returned v ∧ Zs w' v ((List.range k.toNat).map fun i : Nat => (i : Int)) ∧ AwayZ (fun b => b < w.heap.size) v ∧ Gr w w'
def Rising (l : List Int) : Prop := ∀ i, i + 1 < l.length → l.getD i 0 < l.getD (i + 1) 0
theorem rising_of {l : List Int} (h : l.Pairwise (· < ·)) : Rising l := fun i hi => by
  have := List.pairwise_iff_getElem.1 h i (i + 1) (by omega) hi (by omega)
  rw [List.getD_eq_getElem?_getD, List.getD_eq_getElem?_getD, List.getElem?_eq_getElem (by omega : i < l.length), List.getElem?_eq_getElem hi]
  simpa using this
set_option maxHeartbeats 400000 in
theorem rises_any (v : Value) (l : List Int) (w : World) (h : Zs w v l) (hr : Rising l) (hl : l.length ≤ 1000) :
    Calls Try.prog 15 #[v] w fun e w' => e = .returned (.bool true) ∧ Gr w w' := by
  by_cases h0 : 0 < l.length
  · obtain ⟨a, c, rfl, h1, h2, h3⟩ := Zs.at h h0
    obtain ⟨n, hn⟩ : ∃ n, l.length = n := ⟨_, rfl⟩
    rw [hn] at h1 h3 hl h0 ⊢
    have HC := Lib.hid h3
    have HR : Hid (∀ i, i + 1 < n → l.getD i 0 < l.getD (i + 1) 0) := Lib.hid (by rw [← hn]; exact hr)
    clear h h3 hr hn
    go_enter Try.func15, Try.ntmps15
    go_wp2
    go_loopw [3] (fun i wr => Gr w wr ∧ ∃ j : Nat, j + 1 ≤ n ∧ i = .int .i64 ((j + 1 : Nat) : Int)) (fun i _ => n + 1 - (intOf i).toNat)
    case atStart => exact ⟨Gr.refl _, 0, by omega, rfl⟩
    case round =>
      obtain ⟨hg, j, hj, rfl⟩ := hrel
      have HG := Lib.hid hg
      clear hg
      obtain ⟨k, hk⟩ : ∃ k, j + 1 = k := ⟨_, rfl⟩
      rw [hk] at hj ⊢
      have fk : (k : Int) - 1 = j := by omega
      by_cases hlt : k < n
      · have c1 := cell_gr HG.out (HC.out k hlt)
        have c0 := cell_gr HG.out (HC.out j (by omega))
        have hr := HR.out j (by omega)
        rw [hk] at hr
        obtain ⟨y1, hy1⟩ : ∃ y, l.getD k 0 = y := ⟨_, rfl⟩
        obtain ⟨y0, hy0⟩ : ∃ y, l.getD j 0 = y := ⟨_, rfl⟩
        rw [hy1] at c1 hr
        rw [hy0] at c0 hr
        clear hy1 hy0
        have hf : decide (y1 ≤ y0) = false := decide_eq_false (by omega)
        have b1 : (k : Int) < n := by omega
        have b2 : (j : Int) < n := by omega
        go_wp2
        go_quiet (fail)
        go_wp2
        exact ⟨⟨HG.out, k, by omega, by go_num⟩, by simp [intOf]; omega⟩
      · go_wp2
        go_ret
        exact ⟨rfl, HG.out⟩
  · obtain rfl : l = [] := List.eq_nil_of_length_eq_zero (by omega)
    obtain ⟨oa, c, rfl⟩ := h.form
    clear h hr
    go_enter Try.func15, Try.ntmps15
    go_wp2
    go_loopw [3] (fun i wr => i = .int .i64 1 ∧ wr = w) (fun _ _ => 0)
    case atStart => exact ⟨rfl, rfl⟩
    case round =>
      obtain ⟨rfl, rfl⟩ := hrel
      go_wp2
      go_ret
      exact ⟨rfl, Gr.refl _⟩
set_option maxHeartbeats 400000 in
theorem member_any (v : Value) (l : List Int) (x : Int) (w : World) (h : Zs w v l) (hx : x ∈ l) (hl : l.length ≤ 1000) :
    Calls Try.prog 16 #[v, .int .i64 x] w fun e w' => e = .returned (.bool true) ∧ Gr w w' := by
  obtain ⟨i0, hi0, he0⟩ := List.getElem_of_mem hx
  have hx0 : l.getD i0 0 = x := by
    rw [List.getD_eq_getElem?_getD, List.getElem?_eq_getElem hi0]
    exact he0
  obtain ⟨a, c, rfl, h1, h2, h3⟩ := Zs.at h (by omega)
  obtain ⟨n, hn⟩ : ∃ n, l.length = n := ⟨_, rfl⟩
  rw [hn] at h1 h3 hl hi0 ⊢
  have HC := Lib.hid h3
  have HX := Lib.hid hx0
  clear h h3 hn hx he0 hx0
  go_enter Try.func16, Try.ntmps16
  go_wp2
  go_loopw [8] (fun i wr => wr = w ∧ ∃ k : Nat, k ≤ n ∧ i = .int .i64 k ∧ ∀ j, j < k → l.getD j 0 ≠ x) (fun i _ => n - (intOf i).toNat)
  case atStart => exact ⟨rfl, 0, by omega, rfl, by omega⟩
  case round =>
    obtain ⟨rfl, k, hk, rfl, hs⟩ := hrel
    have HS := Lib.hid hs
    clear hs
    by_cases hlt : k < n
    · have q := HC.out k hlt
      obtain ⟨y, hy⟩ : ∃ y, l.getD k 0 = y := ⟨_, rfl⟩
      rw [hy] at q
      have HY := Lib.hid hy
      clear hy
      by_cases hxy : y = x
      · subst hxy
        go_wp2
        go_ret
        exact ⟨rfl, Gr.refl _⟩
      · have hb : (y == x) = false := by simpa using hxy
        go_wp2
        refine ⟨⟨trivial, k + 1, by omega, by go_num, fun j hj => ?_⟩, by simp [intOf]; omega⟩
        by_cases e : j = k
        · rw [e, HY.out]; exact hxy
        · exact HS.out j (by omega)
    · exact absurd HX.out (HS.out i0 (by omega))
theorem may_33 : C.May 3 3 := ⟨by omega, by omega, by omega, by omega⟩
theorem some_wake : C.someZ 5 3 3 = [0, 1, 2] := by decide +kernel
theorem i64_small {n : Int} (h0 : -1000 ≤ n) (h1 : n ≤ 1000) : I64 n := by unfold I64; omega
theorem lit_zs {w : World} (l : List Int) (hb : ∀ x ∈ l, I64 x) (hn : l.length ≤ 1000) : Zs (w.alloc (.cells (rowZ l) 3)) (.slice (some ⟨w.heap.size, 0, none⟩) l.length l.length) l :=
  Blz.zs (L := l) (heap_alloc_new _ _) l _ (Nat.le_refl _) (Nat.le_refl _) (by omega) hb fun _ _ => rfl
set_option maxHeartbeats 400000 in
theorem chooseWakes_any {At : World → Value → (Nat → Prop) → Nat → Prop} (D : DrawOk At) (O : ChooseOk At) (w : World) : Calls Try.prog 14 #[] w fun e w' => e = .returned (.bool true) ∧ Gr w w' := by
  have H := Lib.hid O
  have HD := Lib.hid D
  clear O D
  go_enter Try.func14, Try.ntmps14
  go_wp2_with fail
  refine (HD.out.new 5 _ (by omega)).mono ?_
  rintro e w1 ⟨d, F, rfl, ha, hg, hF⟩
  obtain ⟨ad, rfl⟩ := HD.out.ptr ha
  have HA := Lib.hid ha
  have G1 := Lib.hid hg
  have HFW := Lib.hid hF
  clear ha hg hF
  go_wp2_with fail
  refine (H.out.some _ 3 3 F 5 _ (i64_small (by omega) (by omega)) (i64_small (by omega) (by omega)) (by omega) HA.out).mono ?_
  rw [some_wake]
  rintro e w2 ⟨v, rfl, hz, _, _, hk⟩
  have HZ := Lib.hid hz
  have G2 := Lib.hid (hk.gr G1.out HFW.out)
  obtain ⟨o, c, rfl⟩ := hz.form
  rw [show ([0, 1, 2] : List Int).length = 3 from rfl] at *
  clear hz hk
  go_wp2_with fail
  have hl := lit_zs (w := w2) [0, 1, 2] (by simp [I64]) (by simp)
  have hga : Gr w2 (w2.alloc (.cells (rowZ [0, 1, 2]) 3)) := Gr.alloc (Gr.refl _) _ _
  refine (sameZ_any _ _ [0, 1, 2] [0, 1, 2] _ (HZ.out.grown hga) hl).mono ?_
  rw [beq_self_eq_true]
  rintro e w3 ⟨rfl, hg3⟩
  have G3 := Lib.hid (Gr.trans G2.out (Gr.trans hga hg3))
  clear hg3 hl hga
  go_wp2
  go_ret
  exact ⟨rfl, G3.out⟩
end Go.Proofs.Ytcbmgdkopgepdaa
