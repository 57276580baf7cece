/-
  The verifier's copy of a slice of bytes.
-/
import Derived.Test.YtgbdhdjcjilooaaRe
namespace Go.Proofs.Ytgbdhdjcjilooaa
open Go.RowKit

/-- What an owned row of bytes reads as. -/
theorem New.of_owns {w0 w : World} {g cap : Nat} {l : List Int} (hg : Gr w0 w) (hb : ∀ x ∈ l, Byt x) (h : w.ownsRow w0.heap.size 5 1 (.slice (some ⟨g, 0, none⟩) l.length cap) l.length (l.map (Value.int .u8))) : w0.heap.size ≤ g ∧ New w0 w (.slice (some ⟨g, 0, none⟩) l.length cap) l := by
  obtain ⟨_, h | h⟩ := h
  · simp at h
  · obtain ⟨g', cap', cur, he, h1, h2, h3, h4, _, h5⟩ := h
    simp only [Value.slice.injEq, Option.some.injEq, Addr.mk.injEq, and_true, true_and] at he
    obtain ⟨rfl, rfl⟩ := he
    refine ⟨h1, hg, hb, Or.inr ⟨g, cap, cur, rfl, h1, h2, h3, by unfold maxLen at h4; omega, fun i hi => ?_⟩⟩
    rw [Nat.mul_one] at h5
    have : (cur.toList.take l.length)[i]? = (l.map (Value.int .u8))[i]? := by rw [h5]
    rw [List.getElem?_take_of_lt hi] at this
    simpa [hi] using this
set_option maxRecDepth 100000 in
set_option maxHeartbeats 400000 in
theorem copy_any (oa : Option Addr) (n c : Nat) (l : List Int) (w : World) (hn : l.length = n) (h2 : n ≤ 1000000) (hc : Bs w (.slice oa n c) l) :
    Calls Try.prog 37 #[.slice oa n c] w fun e w' => ∃ g, e = .returned (.slice (some ⟨g, 0, none⟩) n (n + 2)) ∧ w.heap.size ≤ g ∧ New w w' (.slice (some ⟨g, 0, none⟩) n (n + 2)) l := by
  obtain ⟨hb, oa', c', he, h1, h3, h4, h5⟩ := hc
  obtain ⟨rfl, -, rfl⟩ : oa = oa' ∧ n = l.length ∧ c = c' := by simpa using he
  have HB := Lib.hid hb
  have HN := Lib.hid hn
  have HO : Hid (oa = none → n = 0 ∧ c = 0) := Lib.hid (fun h => ⟨by have := h4 h; omega, h4 h⟩)
  have HC : Hid (∀ ad, oa = some ad → ∀ j u, (l.map (Value.int .u8))[j]? = some u → (w.alloc (.cells (rowB (List.replicate (n + 2) 0)) 5)).cell? (ad.add j) = some u) := Lib.hid (fun ad ha j u hu => by
    have hj : j < l.length := by
      have := (List.getElem?_eq_some_iff.1 hu).1
      rwa [List.length_map] at this
    have := h5 ad ha j hj
    rw [cell_grown (Gr.alloc (Gr.refl _) _ _) this]
    simp [hj] at hu
    rw [← hu]
    simp [hj])
  have HL : Hid ((l.map (Value.int .u8)).length = n * 1) := Lib.hid (by rw [List.length_map, hn, Nat.mul_one])
  have H1 : Hid (∀ u ∈ l.map (Value.int .u8), u.oneCell' = true) := Lib.hid (by
    intro v hv
    simp at hv
    obtain ⟨j, _, rfl⟩ := hv
    rfl)
  have hmk : ∀ w, (Instr.makeSlice 22 (.int .i64 0) (.int .i64 ((n : Int) + 2))).run Try.prog w = .ok (.slice (some ⟨w.heap.size, 0, none⟩) 0 (n + 2)) (w.alloc (.cells (rowB (List.replicate (n + 2) 0)) 5)) := fun w => make22 0 (n + 2) (by omega) (by omega) w
  have HW : Hid ((w.alloc (.cells (rowB (List.replicate (n + 2) 0)) 5)).ownsRow w.heap.size 5 1 (.slice (some ⟨w.heap.size, 0, none⟩) 0 (n + 2)) 0 []) := Lib.hid (World.ownsRow_made w _ _ (Nat.le_refl _) (by unfold maxLen; omega) (by rw [rowB_size, List.length_replicate]; omega))
  have HG : Hid (Gr w (w.alloc (.cells (rowB (List.replicate (n + 2) 0)) 5))) := Lib.hid (Gr.alloc (Gr.refl _) _ _)
  obtain ⟨i, hi, hzz⟩ := Option.map_eq_some_iff.1 info5
  simp only [Prod.mk.injEq] at hzz
  obtain ⟨_, hs, _⟩ := hzz
  have HI := Lib.hid hi
  have HS := Lib.hid hs
  generalize hcs : l.map (Value.int .u8) = cs at *
  have HM := Lib.hid hcs
  clear hcs
  generalize rowB (List.replicate (n + 2) 0) = cur at *
  clear hb hn h1 h3 h4 h5 he hi hs
  go_enter Try.func37, Try.ntmps37
  go_wp2_with (refine wpList_append_fits_any _ rfl _ _ 22 rfl w.heap.size 5 i 1 Try.underlying22 HI.out HS.out w.heap.size 0 (n + 2) [] rfl HW.out oa n c cs rfl HL.out HO.out HC.out H1.out (by omega) ?_; intro w' hown hgrow; have HR := Lib.hid hown; have HQ := Lib.hid hgrow; clear hown hgrow)
  go_ret
  have hO := HR.out
  rw [List.nil_append, ← HM.out, Nat.zero_add, ← HN.out] at hO
  obtain ⟨h6, h7⟩ := New.of_owns (Gr.append HG.out HQ.out (fun k hk => by cases hk; exact Nat.le_refl _)) HB.out hO
  rw [HN.out] at h7
  exact ⟨_, by simp, h6, h7⟩
end Go.Proofs.Ytgbdhdjcjilooaa
