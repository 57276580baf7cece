/-
  Package span as it was written: New, Clone; all of it.
-/
import Derived.Test.YtmeojdnalhaooaaSu
namespace Go.Proofs.Ytmeojdnalhaooaa
open Go.RowKit

theorem zeroS_run (w : World) : Sem.run Try.prog (zeroValue 59) w = Result.ok (Value.agg ((tab 511 fun _ => 0).push (.slice none 0 0))) w := by
  have h := zeroS
  cases hi : Try.prog.info? 59 with
  | none => simp [hi] at h
  | some i =>
    have hz : i.zero = some (.agg ((tab 511 fun _ => 0).push (.slice none 0 0))) := by simpa [hi] using h
    simp [zeroValue, typeInfo, hi, hz]
/-- A Field's cells laid into a Span's. -/
theorem laid_span (z fa : Array Value) (hp : fa.size = 511) (hz : z.size = 512) : ∃ q2 : Array Value, Array.foldl (fun (cs : Array Value) (x : Value × Nat) => cs.setIfInBounds x.snd x.fst) z fa.zipIdx 0 511 = q2 ∧ q2.size = 512 ∧ ∀ v, q2.setIfInBounds 511 v = fa.push v := by
  have f1 : Array.foldl (fun (cs : Array Value) (x : Value × Nat) => cs.setIfInBounds x.snd x.fst) z fa.zipIdx 0 511 = (fa.toList.zipIdx 0).foldl (fun cs x => cs.setIfInBounds (0 + x.2) x.1) z := by
    have : (511 : Nat) = fa.zipIdx.size := by simp [hp]
    rw [this, ← Array.foldl_toList, Array.toList_zipIdx]
    simp only [Nat.zero_add]
  have s1 : ∀ (off : Nat) (xs : List (Value × Nat)) (cells : Array Value), (xs.foldl (fun cs x => cs.setIfInBounds (off + x.2) x.1) cells).size = cells.size := by
    intro off xs
    induction xs with
    | nil => intro cells; rfl
    | cons x xs ih => intro cells; rw [List.foldl_cons, ih, Array.size_setIfInBounds]
  refine ⟨_, f1, by rw [s1, hz], fun v => ?_⟩
  apply Array.ext_getElem?
  intro i
  rw [Array.getElem?_setIfInBounds, s1, foldSet, Array.getElem?_push]
  by_cases h1 : i < 511
  · rw [if_neg (by omega), if_pos (by simp [hp, hz]; omega), if_neg (by omega)]
    simp
  · by_cases h2 : i = 511
    · subst h2
      rw [if_pos rfl, if_pos (by omega), if_pos (by omega)]
    · rw [if_neg (fun e => h2 e.symm), if_neg (by simp [hp]; omega), if_neg (by omega), Array.getElem?_eq_none (by omega), Array.getElem?_eq_none (by omega)]
theorem Sb.start {W : World} {b h n : Nat} (hb : W.heap[b]? = some (.cells (fieldA.push (.slice (some ⟨h, 0, none⟩) n n)) 59 (0, 0))) (hh : W.heap[h]? = some (.cells (nils n) 23 (0, 0))) :
    Sb W b h n (List.replicate n (.slice none 0 0)) (List.replicate n []) := by
  refine ⟨hb, ⟨_, hh, by simp [nils]⟩, by simp, fun i hi => .inl ⟨?_, nones_getD n i⟩⟩
  rw [List.getD_eq_getElem?_getD, List.getElem?_replicate, if_pos hi]
  rfl
theorem gr_back {w w1 : World} {c : Array Value} {t : TypeId} (h : Gr (w.alloc (.cells c t)).drew w1) : Gr w w1 ∧ w1.heap[w.heap.size]? = some (.cells c t (0, 0)) :=
  ⟨Gr.trans (Gr.alloc (Gr.refl w) c t) h, keptRow h (heap_alloc_new w (.cells c t))⟩
set_option maxRecDepth 100000 in
set_option maxHeartbeats 400000 in
theorem new_span (f : Value) (n : Nat) (w : World) (hf : IsF w f) (hn : n ≤ 64) :
    Calls Try.prog 7 #[f, .int .i64 n] w fun e w' => ∃ b h, e = .returned (.pointer (some ⟨b, 0, none⟩)) ∧ Sb w' b h n (List.replicate n (.slice none 0 0)) (List.replicate n []) ∧ Gr w w' ∧ w.heap.size ≤ b ∧ w.heap.size ≤ h := by
  have hmk := make24 n n (by omega) (by omega)
  have hzs := zeroS_run
  have hqs : ((tab 511 fun _ => 0).push (.slice none 0 0)).size = 512 := by simp [tab_size]
  have hfs := fieldA_size
  generalize (tab 511 fun _ => 0).push (.slice none 0 0) = q at *
  generalize hfa : fieldA = fa at *
  obtain ⟨q2, hq2, hs2, hp2⟩ := laid_span q fa hfs hqs
  have HF := Lib.hid hf
  have HFA := Lib.hid hfa
  clear hf hfa
  have h1 : decide ((n : Int) < 0) = false := by simp
  have h2 : decide (64 < (n : Int)) = false := by simp; omega
  go_enter Try.func7, Try.ntmps7
  go_wp2
  go_region_law ((try go_simp); go_at_call 31; refine (own_any f _ (IsF.grown HF.out (by first | exact Gr.refl _ | exact Gr.drew (Gr.refl _) | exact Gr.alloc (Gr.refl _) _ _ | exact Gr.drew (Gr.alloc (Gr.refl _) _ _) | exact Gr.alloc (Gr.drew (Gr.refl _)) _ _))).mono ?_; rw [HFA.out]; rintro e w1 ⟨rfl, hg⟩; have G1 := Lib.hid hg; clear hg)
  all_goals
    clear hzs hqs hmk hq2 hs2 hp2
    go_wp2_with fail
    go_ret
    first
      | (obtain ⟨q1, q2⟩ := gr_back G1.out
         exact ⟨_, _, rfl, Sb.start (by rw [HFA.out]; exact heap_alloc_new _ _) (by rw [heap_alloc_old _ _ (Array.getElem?_eq_some_iff.1 q2).1]; exact q2), Gr.alloc q1 _ _, q1.size, Nat.le_refl _⟩)
      | (have q1 : Gr w w1 := G1.out
         exact ⟨_, _, rfl, Sb.start (by rw [HFA.out]; exact heap_alloc2_new _ _ _) (heap_alloc2_old _ _ _), Gr.alloc (Gr.alloc q1 _ _) _ _, by have := q1.size; omega, q1.size⟩)
end Go.Proofs.Ytmeojdnalhaooaa
