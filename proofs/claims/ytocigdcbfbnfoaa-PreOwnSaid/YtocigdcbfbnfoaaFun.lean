/-
  Package gf: New and the functions of a Field.
-/
import Derived.Test.YtocigdcbfbnfoaaNew
namespace Go.Proofs.Ytocigdcbfbnfoaa
open Go.RowKit

/-- A Field whose tables are made lies where block b begins (other things may lie behind it). -/
def FieldAt (w : World) (b : Nat) : Prop := w.rangeAt b 0 (tab 255 M.exN ++ tab 256 M.lgN).toList
theorem rangeAt_all {w : World} {b : Nat} {C : Array Value} {t : TypeId} {fr : Nat × Nat} (hb : w.heap[b]? = some (.cells C t fr)) : w.rangeAt b 0 C.toList := by
  have := World.rangeAt_of_block hb 0 C.size
  simpa using this
theorem rangeAt_grown {w w' : World} (hg : Gr w w') {b : Nat} {cs : List Value} (h : w.rangeAt b 0 cs) : w'.rangeAt b 0 cs := fun j v hv => by
  have h1 := h j v hv
  have hb := World.block_lt_of_cell? w _ h1
  cases ho : w.heap[b]? with
  | none => simp [World.cell?, ho] at h1
  | some o =>
    cases o with
    | cells c t fr =>
      rw [cell_of_row w' b _ c t fr (keptRow hg ho)]
      rw [cell_of_row w b _ c t fr ho] at h1
      exact h1
    | _ => simp [World.cell?, ho] at h1
theorem wp_built {P : Program} {o : Oper} {a : Act} {w : World} {K : Act → World → Prop} {Q : Exit → Act → World → Prop} (t : TypeId) (parts : Array (Nat × Operand)) (ho : o.op = .build t parts) (cells : Array Value)
    (hf : P.built t (parts.map fun (i, x) => (i, a.eval x)).toList = some cells) (h : K (a.put o.dst (.agg cells)) w) : o.wp P a w K Q :=
  wp_build t parts ho (by rw [hf]; rfl) (by rw [hf]; exact h)
set_option maxRecDepth 100000 in
set_option maxHeartbeats 400000 in
theorem new_any (w : World) :
    Calls Try.prog 16 #[] w fun e w' => ∃ b, e = .returned (.pointer (some ⟨b, 0, none⟩)) ∧ FieldAt w' b ∧ Gr w w' := by
  unfold FieldAt
  have z := zero39
  have hpw := powers_any
  have hlg := logs_any
  have hp : (tab 255 M.exN).size = 255 := tab_size _ _
  have hl : (tab 256 M.lgN).size = 256 := tab_size _ _
  have h1 := tab_one 255 M.exN
  have hq : (tab 255 (fun _ => 0)).size = 255 := tab_size _ _
  generalize tab 255 (fun _ => 0) = q at *
  generalize tab 255 M.exN = p at *
  generalize tab 256 M.lgN = l at *
  have HP := Lib.hid hp
  have HL := Lib.hid hl
  have q1 : (Try.prog.info? 47).map (·.size) = some p.size := by rw [hp]; exact info39
  have Q1 := Lib.hid q1
  have Q2 := Lib.hid h1
  have Q0 : Hid (q.size = p.size) := Lib.hid (by rw [hq, hp])
  have PW := Lib.hid hpw
  have LG := Lib.hid hlg
  clear hpw hlg hp hl h1 hq q1
  go_enter Try.func16, Try.ntmps16
  go_wp2_with (first | (go_at_call 25; refine (PW.out _).mono ?_; rintro e w' ⟨rfl, hg⟩; have hw := heap_alloc_new w' (.cells q 47)) | (refine wpList_store_row rfl 47 _ _ rfl _ 47 q p rfl rfl hw Q1.out Q0.out Q2.out ?_; rw [World.setRow_alloc_new]; clear hw))
  have hS := rangeAt_all (heap_alloc_new w' (.cells p 47))
  have hu := under39
  have hi : (Try.prog.info? 47).map (·.size) = some p.toList.length := by simpa using Q1.out
  have hb := built44 p l HP.out HL.out
  clear Q1 Q2 Q0 PW z
  refine wp_region_held_drew (S := fun W => W.rangeAt w'.heap.size 0 p.toList) (by kernel_rfl) (by simpa only [World.rangeAt_drew] using hS) (fun hH => ?_)
  refine wpAnyH_take (i := 0) (v := .agg p.toList.toArray) rfl (by kernel_rfl) (by kernel_rfl) (by kernel_rfl) (fun _ _ _ h => h)
    (yieldsIf_load_mid (by rfl) _ _ rfl _ _ rfl p.toList _ (fun _ h => h) hu rfl hi) (by assumption) ?_
  simp only [Act.put, List.setIfInBounds_toArray, Array.toArray_toList]
  refine wpAnyH_take (i := 1) (v := .agg p.toList.toArray) rfl (by kernel_rfl) (by kernel_rfl) (by kernel_rfl) (fun _ _ _ h => h)
    (yieldsIf_load_mid (by rfl) _ _ rfl _ _ rfl p.toList _ (fun _ h => h) hu rfl hi) (by assumption) ?_
  simp only [Act.put, Array.toArray_toList]
  refine wpAnyH_ready (rs := [2]) (by kernel_rfl) (by simp) ?_
  refine AllReadyH.cons rfl (fun K hK => ?_) AllReadyH.nil
  go_simp
  refine (LG.out _).mono ?_
  rintro e w2 ⟨rfl, hg2⟩
  have hH2 := rangeAt_grown hg2 hH
  refine hK.out _ _ hH2 (fun _ => ?_)
  clear hK hH K
  refine wpAnyH_ready (rs := [3]) (by kernel_rfl) (by simp) ?_
  refine AllReadyH.cons rfl (fun K hK => ?_) AllReadyH.nil
  rw [if_pos (by rfl)]
  refine wp_built 52 _ rfl (p ++ l) (by simpa [Act.eval] using hb) ?_
  simp only [Act.put, List.setIfInBounds_toArray]
  refine hK.out _ _ hH2 (fun _ => ?_)
  clear hK K
  generalize hf : p ++ l = f at *
  refine wpAnyH_ready (rs := [4]) (by kernel_rfl) (by simp) ?_
  refine AllReadyH.cons rfl (fun K hK => ?_) AllReadyH.nil
  go_simp
  refine hK.out _ _ (World.rangeAt_alloc hH2 _) (fun _ => ?_)
  clear hK K
  refine wpAnyH_ready (rs := [5]) (by kernel_rfl) (by simp) ?_
  refine AllReadyH.cons rfl (fun K hK => ?_) AllReadyH.nil
  go_simp
  refine hK.out _ _ (World.rangeAt_alloc hH2 _) (fun _ => ?_)
  clear hK K
  refine wpAnyH_done (by kernel_rfl) ?_ _
  go_wp2
  go_ret
  exact ⟨_, rfl, by rw [hf]; exact rangeAt_all (heap_alloc_new _ _), Gr.alloc (Gr.trans (Gr.drew (Gr.alloc hg _ _)) hg2) _ _⟩
end Go.Proofs.Ytocigdcbfbnfoaa
