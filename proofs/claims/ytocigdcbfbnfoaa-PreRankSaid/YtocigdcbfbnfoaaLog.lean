/-
  Package gf: the logarithms are made, and a Field.
-/
import Derived.Test.YtocigdcbfbnfoaaFld
namespace Go.Proofs.Ytocigdcbfbnfoaa
open Go.RowKit

theorem isAgg5 (w : World) : (isAgg 5).run Try.prog w = .ok false w := by kernel_rfl
theorem size5 (w : World) : (Go.sizeOf 5).run Try.prog w = .ok 1 w := by kernel_rfl
theorem run_index39 (k : Nat) (hk : k < 255) (p : Array Value) (v : Value) (hp : p[k]? = some v) (w : World) :
    (Instr.index 47 (.agg p) (.int .i64 k)).run Try.prog w = .ok v w := by
  simp [Instr.index, asIntOf, run_underlying under39, hk, part, hp, Sem.run_bind]
theorem g3 (w : World) (A B C : Obj) : (((w.alloc A).alloc B).alloc C).heap[w.heap.size]? = some A := by
  rw [heap_alloc_old _ _ (by simp; omega), heap_alloc_old _ _ (by simp)]
  exact heap_alloc_new _ _
theorem g3' (w : World) (A B C : Obj) : (((w.alloc A).alloc B).alloc C).heap[w.heap.size + 1]? = some B := by
  rw [heap_alloc_old _ _ (by simp)]
  exact heap_alloc2_new _ _ _
theorem g3'' (w : World) (A B C : Obj) : (((w.alloc A).alloc B).alloc C).heap[w.heap.size + 1 + 1]? = some C := by
  have h := heap_alloc_new ((w.alloc A).alloc B) C
  simpa using h

/-- The logarithms, as far as k rounds have made them. -/
def lw (k : Nat) : Nat → Nat := fun x => if x ≠ 0 ∧ M.lgN x < k then M.lgN x else 0
theorem lw_nil : tab 256 (fun _ => 0) = tab 256 (lw 0) := tab_congr 256 _ _ fun j _ => by simp [lw]
theorem lw_all : tab 256 (lw 255) = tab 256 M.lgN := tab_congr 256 _ _ fun x h => by
  unfold lw
  by_cases h0 : x = 0
  · subst h0
    rw [if_neg (by simp), M.lgN_zero]
  · rw [if_pos ⟨h0, (M.ex_lg x h h0).2⟩]
theorem lw_set (k : Nat) (h : k < 255) : (tab 256 (lw k)).setIfInBounds (M.exN k) (.int .u8 (k : Int)) = tab 256 (lw (k + 1)) := by
  rw [tab_set 256 _ _ _ (M.exN_lt k)]
  apply tab_congr
  intro x hx
  obtain ⟨h1, h2⟩ := M.lg_ex k h
  unfold lw
  by_cases e : x = M.exN k
  · subst e
    rw [if_pos rfl, if_pos ⟨h2, by omega⟩, h1]
  · rw [if_neg e]
    by_cases h0 : x = 0
    · subst h0
      simp
    · have : M.lgN x ≠ k := fun c => e (by rw [← c]; exact (M.ex_lg x hx h0).1.symm)
      by_cases h3 : M.lgN x < k
      · rw [if_pos ⟨h0, h3⟩, if_pos ⟨h0, by omega⟩]
      · rw [if_neg (fun c => h3 c.2), if_neg (fun c => h3 (by omega))]
def lwWorld (w : World) (p q : Array Value) (k : Nat) : World := ((w.alloc (.cells p 47)).alloc (.cells q 49)).alloc (.cells (tab 256 (lw k)) 49)
set_option maxRecDepth 100000 in
set_option maxHeartbeats 400000 in
theorem logs_any (w : World) :
    Calls Try.prog 26 #[.agg (tab 255 M.exN)] w fun e w' => e = .returned (.agg (tab 256 M.lgN)) ∧ Gr w w' := by
  have z := zero41
  have hs : (Try.prog.info? 47).map (·.size) = some (tab 255 M.exN).size := by rw [tab_size]; exact info39
  have ht : ∀ k, k < 255 → (tab 255 M.exN)[k]? = some (.int .u8 ((M.exN k : Nat) : Int)) := fun k hk => tab_get 255 _ k hk
  generalize tab 255 M.exN = p at *
  generalize hq : tab 256 (fun _ => 0) = q at *
  have S := Lib.hid hs
  have T := Lib.hid ht
  have X := Lib.hid hq
  clear hs ht hq
  go_enter Try.func26, Try.ntmps26
  have G1 := Lib.hid (g3 w (.cells p 47) (.cells q 49) (.cells q 49))
  go_wp2_with (refine wpList_load_row rfl 47 _ rfl w.heap.size rfl 47 p (0, 0) _ G1.out under39 rfl S.out ?_)
  clear G1
  go_loopw [7] (fun i wr => ∃ k : Nat, k ≤ 255 ∧ i = .int .i64 k ∧ wr = lwWorld w p q k) (fun i _ => 255 - (intOf i).toNat)
  case atStart => exact ⟨0, by omega, rfl, by unfold lwWorld; rw [← lw_nil, X.out]⟩
  case round =>
    clear z
    obtain ⟨k, hk, rfl, rfl⟩ := hrel
    unfold lwWorld
    by_cases hlt : k < 255
    · have hpk := fun w => run_index39 k hlt p _ (T.out k hlt) w
      have hb := M.exN_lt k
      have hset := lw_set k hlt
      have hget := tab_get 256 (lw k) (M.exN k) hb
      generalize tab 256 (lw k) = c at *
      have HS := Lib.hid hset
      clear hset
      generalize M.exN k = x at *
      go_wp2
      exact ⟨⟨k + 1, by omega, by go_num, by rw [HS.out]⟩, by simp [intOf]; omega⟩
    · obtain rfl : k = 255 := by omega
      have hg1 := Lib.hid (g3'' w (.cells p 47) (.cells q 49) (.cells (tab 256 (lw 255)) 49))
      have hg2 := Lib.hid (g3' w (.cells p 47) (.cells q 49) (.cells (tab 256 (lw 255)) 49))
      rw [lw_all] at hg1 hg2
      rw [lw_all]
      have q0 : q.size = (tab 256 M.lgN).size := by rw [← X.out, tab_size, tab_size]
      have q1 : (Try.prog.info? 49).map (·.size) = some (tab 256 M.lgN).size := by rw [tab_size]; exact info41
      have q2 := tab_one 256 M.lgN
      generalize hd : tab 256 M.lgN = d at *
      have D := Lib.hid hd
      clear hd
      have Q0 := Lib.hid q0
      have Q1 := Lib.hid q1
      have Q2 := Lib.hid q2
      clear q0 q1 q2
      go_wp2_with (first | (refine wpList_load_row rfl 49 _ rfl (w.heap.size + 1 + 1) rfl 49 d (0, 0) _ hg1.out under41 rfl Q1.out ?_) | (refine wpList_store_row rfl 49 _ _ rfl (w.heap.size + 1) 49 q d rfl rfl hg2.out Q1.out Q0.out Q2.out ?_))
      refine bodyPost_ret_by (results_cell_row rfl _ _ (w.heap.size + 1) 49 d (0, 0) _ rfl (setRow_heap _ _ q _ _ _ hg2.out) under41 rfl Q1.out) rfl ⟨by rw [D.out], ?_⟩
      exact Gr.setRow ((((Gr.refl _).alloc _ _).alloc _ _).alloc _ _) (by omega) _
end Go.Proofs.Ytocigdcbfbnfoaa
