/-
  Law SumTells, walked.
-/
import Derived.Test.YteafcgohajhbnaaDoorVb
import Derived.Test.YteafcgohajhbnaaDoorRef
namespace Go.Proofs.YteafcgohajhbnaaDoor
open Go.RowKit

set_option maxRecDepth 100000 in
set_option maxHeartbeats 800000 in
theorem sumTells_walk (v : Value) (l : List Int) (w : World) (O : CrcOk w) (h : Bs w v l) :
    Calls Tryd.prog 3 #[v] w fun e w' => e = .returned (.bool true) ∧ Gr w w' := by
  have HO := Lib.hid O
  obtain ⟨o, c, rfl⟩ := h.form5
  have H := Lib.hid h
  clear O h
  go_enter Tryd.func3, Tryd.ntmps3
  go_wp2_with fail
  refine (cut_any _ l 300 _ H.out (by omega)).mono ?_
  rintro e w' ⟨v1, rfl, hb1, rfl⟩
  obtain ⟨L, hL⟩ : ∃ L, l.take 300 = L := ⟨_, rfl⟩
  rw [hL] at hb1
  have HL : Hid (L.length ≤ 300) := Lib.hid (by rw [← hL, List.length_take]; omega)
  have HB := Lib.hid hb1
  clear hL hb1 H
  go_wp2_with fail
  refine (spare_any v1 L 71 _ HB.out (by have := HL.out; omega)).mono ?_
  rintro e w2 ⟨g, rfl, hg, hb, hgr⟩
  have K2 := Lib.hid hb
  have HG2 := Lib.hid hgr
  have HB2 := Lib.hid (HB.out.grown hgr)
  have HIN : Hid (Bs w2 (.slice (some ⟨g, 0, none⟩) L.length (L.length + 2)) L) := Lib.hid (by
    have := Blk.bs_pre hb HB.out.1 (by simp; have := HL.out; omega)
    simpa using this)
  obtain ⟨n, hn⟩ : ∃ n, L.length = n := ⟨_, rfl⟩
  have HN := Lib.hid hn
  rw [hn] at HIN ⊢
  clear hb hgr hg hn HB
  go_wp2_with fail
  refine (HO.out.sum _ _ _ HG2.out HIN.out (by have := HL.out; omega)).mono ?_
  rintro e w3 ⟨rfl, hg3⟩
  have HG3 := Lib.hid (Gr.trans HG2.out hg3)
  have K3 := Lib.hid (K2.out.grown hg3)
  have HB3 := Lib.hid (HB2.out.grown hg3)
  clear hg3 K2 HIN HG2 HB2
  go_wp2_with fail
  refine (refCrc_any _ _ _ HB3.out (by have := HL.out; omega)).mono ?_
  rintro e w4 ⟨rfl, hg4⟩
  have HG4 := Lib.hid (Gr.trans HG3.out hg4)
  have K4 := Lib.hid (K3.out.grown hg4)
  have HB4 := Lib.hid (HB3.out.grown hg4)
  clear hg4 K3 HG3 HB3
  go_wp2_with fail
  have hk := kept_true g L v1 71 _ K4.out HB4.out.1 HB4.out (by have := HL.out; omega)
  rw [HN.out] at hk
  refine hk.mono ?_
  rintro e w5 ⟨rfl, hg5⟩
  have HG5 := Lib.hid (Gr.trans HG4.out hg5)
  clear hg5 hk K4 HG4 HB4
  go_wp2_with fail
  refine (crcWakes_any HO.out _ HG5.out).mono ?_
  rintro e w6 ⟨rfl, hg6⟩
  have HG6 := Lib.hid (Gr.trans HG5.out hg6)
  clear hg6 HG5
  go_wp2_with fail
  go_ret
  exact ⟨rfl, HG6.out⟩
end Go.Proofs.YteafcgohajhbnaaDoor
