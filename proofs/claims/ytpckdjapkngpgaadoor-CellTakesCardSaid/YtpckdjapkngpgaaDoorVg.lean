/-
  What package cell is to do, as contracts; the document's example.
-/
import Derived.Test.YtpckdjapkngpgaaDoorVf
namespace Go.Proofs.YtpckdjapkngpgaaDoor
open Go.RowKit

/-- The contracts of package cell: a cell is new memory, at its block's beginning; a body that is taken may lie anywhere. -/
structure CellOk (W0 : World) : Prop where
  put : ∀ (k : Int) (v : Value) (body : List Int) (w : World), Gr W0 w → I64 k → body.length ≤ 1000 → Bs w v body →
    Calls Tryd.prog 12 #[.int .i64 k, v] w fun e w' => ∃ u, e = .returned u ∧ New w w' u (Cell.put k body)
  take : ∀ (v : Value) (b : List Int) (w : World), Gr W0 w → b.length ≤ 1000 → Bs w v b →
    Calls Tryd.prog 17 #[v] w fun e w' => ∃ u, e = .returned (.tuple #[.int .i64 (Cell.takeK b), u, .bool (decide (Cell.Is b))]) ∧ Gr w w' ∧ Bs w' u (Cell.takeX b)
namespace Cell
theorem takeK_cell {k : Int} {body : List Int} (h : MayC k body) : takeK (cell k body) = k := by
  unfold takeK
  rw [if_pos (is_cell h), cell_three]
theorem takeX_cell {k : Int} {body : List Int} (h : MayC k body) : takeX (cell k body) = pad body := by
  unfold takeX
  rw [if_pos (is_cell h), bodyOf_cell h.2.2]
theorem takeX_length {b : List Int} (h : Is b) : (takeX b).length = 55 := by
  unfold takeX
  rw [if_pos h]
  unfold bodyOf
  rw [List.length_take, List.length_drop, h.1]
  rfl
theorem takeX_byt {b : List Int} (hb : ∀ x ∈ b, Byt x) : ∀ x ∈ takeX b, Byt x := by
  unfold takeX
  split
  · exact bodyOf_byt hb
  · intro x hx
    cases hx
theorem mayC_nil {k : Int} (h : 1 ≤ k ∧ k ≤ 255) : MayC k [] := ⟨h.1, h.2, by simp⟩
end Cell
set_option maxRecDepth 100000 in
set_option maxHeartbeats 800000 in
theorem cellWakes_any {W0 : World} (O : CellOk W0) (w : World) (hw : Gr W0 w) : Calls Tryd.prog 8 #[] w fun e w' => e = .returned (.bool true) ∧ Gr w w' := by
  have HO := Lib.hid O
  have HW := Lib.hid hw
  clear O hw
  have hm : Cell.MayC 1 [] := Cell.mayC_nil ⟨by omega, by omega⟩
  have HP : Hid (Cell.put 1 [] = Cell.cell 1 []) := Lib.hid (Cell.put_in hm)
  have HL : Hid ((Cell.cell 1 []).length = 64) := Lib.hid (Cell.cell_length hm.2.2)
  have HI : Hid (Cell.Is (Cell.cell 1 [])) := Lib.hid (Cell.is_cell hm)
  have HK : Hid (Cell.takeK (Cell.cell 1 []) = 1) := Lib.hid (Cell.takeK_cell hm)
  have HX : Hid ((Cell.takeX (Cell.cell 1 [])).length = 55) := Lib.hid (Cell.takeX_length HI.out)
  clear hm
  go_enter Tryd.func8, Tryd.ntmps8
  go_wp2_with fail
  refine (HO.out.put 1 (.slice none 0 0) [] _ HW.out ⟨by omega, by omega⟩ (by simp) (Bs.nil _)).mono ?_
  rw [HP.out]
  rintro e w1 ⟨u, rfl, hn⟩
  obtain ⟨o1, c1, e1⟩ := (New.bs hn).form5
  rw [HL.out] at e1
  subst e1
  have N1 := Lib.hid hn
  clear hn
  go_wp2_with fail
  refine (HO.out.take _ (Cell.cell 1 []) _ (Gr.trans HW.out N1.out.1) (by rw [HL.out]; omega) (New.bs N1.out)).mono ?_
  rw [HK.out, decide_eq_true HI.out]
  rintro e w2 ⟨u2, rfl, hn2⟩
  obtain ⟨o2, c2, e2⟩ := hn2.2.form5
  rw [HX.out] at e2
  subst e2
  have HG2 := Lib.hid (Gr.trans N1.out.1 hn2.1)
  clear hn2
  go_wp2_with fail
  go_ret
  exact ⟨rfl, HG2.out⟩
end Go.Proofs.YtpckdjapkngpgaaDoor
