/-
  Package span as it was written: Clone; all of it.
-/
import Derived.Test.YtmeojdnalhaooaaSx
import Derived.Deep.DeepCutAuto
namespace Go.Proofs.Ytmeojdnalhaooaa
open Go.RowKit

theorem fill_span (z fa : Array Value) (o : Option Addr) (m c : Nat) (hp : fa.size = 511) (hz : z.size = 512) :
    Instr.fill (([(0, 511), (511, 1)] : List (Nat × Nat)).toArray[·]?) z [(0, .agg fa), (1, .slice o m c)] = some (fa.push (.slice o m c)) := by
  have f1 : ∀ (off : Nat) (xs cells : Array Value), (xs.zipIdx.foldl (fun cs (c, j) => cs.setIfInBounds (off + j) c) cells) = ((xs.toList.zipIdx 0).foldl (fun cs x => cs.setIfInBounds (off + x.2) x.1) cells) := by
    intro off xs cells
    rw [← Array.foldl_toList, Array.toList_zipIdx]
  have s1 : ∀ (off : Nat) (xs : List (Value × Nat)) (cells : Array Value), (xs.foldl (fun cs x => cs.setIfInBounds (off + x.2) x.1) cells).size = cells.size := by
    intro off xs
    induction xs with
    | nil => intro cells; rfl
    | cons x xs ih => intro cells; rw [List.foldl_cons, ih, Array.size_setIfInBounds]
  simp only [Instr.fill, Value.cells, f1]
  have s2 := fun xs cells => s1 0 xs cells
  have f2 := fun xs n cells i => foldSet 0 xs n cells i
  simp only [Nat.zero_add] at s2 f2
  simp [hp, hz]
  refine ⟨by rw [s2]; omega, ?_⟩
  apply Array.ext_getElem?
  intro i
  rw [Array.getElem?_setIfInBounds, s2, f2, Array.getElem?_push]
  by_cases h1 : i < 511
  · rw [if_neg (by omega), if_pos (by simp [hp, hz]; omega), if_neg (by omega)]
    simp
  · by_cases h2 : i = 511
    · subst h2
      rw [if_pos rfl, if_pos (by omega), if_pos (by omega)]
    · rw [if_neg (fun e => h2 e.symm), if_neg (by simp [hp]; omega), if_neg (by omega), Array.getElem?_eq_none (by omega), Array.getElem?_eq_none (by omega)]
theorem builtS (fa : Array Value) (o : Option Addr) (m c : Nat) (hp : fa.size = 511) : Try.prog.built 59 [(0, .agg fa), (1, .slice o m c)] = some (fa.push (.slice o m c)) := by
  obtain ⟨fs, h1, h2⟩ := underS
  have hz := zeroS
  cases hi : Try.prog.info? 59 with
  | none => simp [hi] at hz
  | some it =>
    simp [hi] at hz
    simp only [Program.built, hi, h1, hz, h2]
    exact fill_span _ fa o m c hp (by simp [Value.cells, tab_size])
/-- The first k places were copied. -/
structure Copied (w W : World) (b h n : Nat) (Ls : List (List Int)) (k : Nat) (us : List Value) (Lk : List (List Int)) : Prop where
  sb : Sb W b h n us Lk
  len : Lk.length = n
  get : ∀ c, Lk.getD c [] = if c < k then Ls.getD c [] else []
  gr : Gr w W
  b0 : w.heap.size ≤ b
  h0 : w.heap.size ≤ h
  new : ∀ i, i < n → ∀ g, blkOf (us.getD i undef) = some g → w.heap.size ≤ g
theorem Copied.drew {w W : World} {b h n : Nat} {Ls : List (List Int)} {k : Nat} {us : List Value} {Lk : List (List Int)} (H : Copied w W b h n Ls k us Lk) : Copied w W.drew b h n Ls k us Lk :=
  ⟨H.sb.grown (Gr.drew (Gr.refl _)), H.len, H.get, H.gr, H.b0, H.h0, H.new⟩
theorem Copied.step {w W W2 : World} {b h n : Nat} {Ls : List (List Int)} {k : Nat} {us : List Value} {Lk : List (List Int)} (H : Copied w W b h n Ls k us Lk) (hk : k < n) (hg : Gr W W2) {u : Value} {l : List Int} (hp : Plc W2 n u l) (hl : l = Ls.getD k [])
    (hb : ∀ g, blkOf u = some g → w.heap.size ≤ g) : Copied w (W2.setCell ⟨h, k, none⟩ u) b h n Ls (k + 1) (us.set k u) (Lk.set k l) := by
  have S2 := H.sb.grown hg
  refine ⟨S2.put H.len hk hp, by rw [List.length_set]; exact H.len, fun c => ?_, Gr.setCell (Gr.trans H.gr hg) H.h0 u, H.b0, H.h0, fun i hi => ?_⟩
  · by_cases e : c = k
    · subst e
      rw [getD_set_self _ _ _ (by rw [H.len]; exact hk), if_pos (by omega), hl]
    · rw [getD_set_ne _ _ _ _ (fun c => e c.symm), H.get c]
      by_cases e2 : c < k
      · rw [if_pos e2, if_pos (by omega)]
      · rw [if_neg e2, if_neg (by omega)]
  · by_cases e : i = k
    · subst e
      have e1 : (us.set i u).getD i undef = u := by rw [List.getD_eq_getElem?_getD, List.getElem?_set_self (by rw [H.sb.len]; exact hi)]; rfl
      rw [e1]
      exact hb
    · have e1 : (us.set k u).getD i undef = us.getD i undef := by rw [List.getD_eq_getElem?_getD, List.getElem?_set_ne (fun c => e c.symm), ← List.getD_eq_getElem?_getD]
      rw [e1]
      exact H.new i hi
set_option maxRecDepth 100000 in
set_option maxHeartbeats 800000 in
theorem clone_span (b h n : Nat) (us : List Value) (Ls : List (List Int)) (w : World) (hs : Sb w b h n us Ls) (hL : Ls.length = n) (hn : n ≤ 64) :
    Calls Try.prog 29 #[.pointer (some ⟨b, 0, none⟩)] w fun e w' => ∃ b' h' us', e = .returned (.pointer (some ⟨b', 0, none⟩)) ∧ Sb w' b' h' n us' Ls ∧ Gr w w' ∧ ∀ k, Fo b' h' us' k → w.heap.size ≤ k := by
  have hc := hs.begun
  have hmk := make24 n n (by omega) (by omega)
  have hbt := builtS fieldA (some ⟨w.heap.size, 0, none⟩) n n fieldA_size
  have hra : w.rangeAt b 0 fieldA.toList := hs.field
  obtain ⟨fs, hu, _⟩ := under44
  have hi : (Try.prog.info? 56).map (·.size) = some fieldA.toList.length := by rw [Array.length_toList, fieldA_size]; exact info44
  generalize hfa : fieldA = fa at *
  have HBT := Lib.hid hbt
  clear hbt
  have HRA := Lib.hid hra
  clear hra
  have HFA := Lib.hid hfa
  have HS := Lib.hid hs
  have HL := Lib.hid hL
  clear hfa hs hL
  go_enter Try.func29, Try.ntmps29
  go_upto_region 3 with fail
  go_cut [3] (fun s wx => ∃ b' h' : Nat, s = .pointer (some ⟨b', 0, none⟩) ∧ Sb wx b' h' n (List.replicate n (.slice none 0 0)) (List.replicate n []) ∧ Gr w wx ∧ w.heap.size ≤ b' ∧ w.heap.size ≤ h')
  case first =>
    refine wp_region_held_drew (S := fun W => W.rangeAt b 0 fa.toList ∧ W.cell? ⟨b, 511, none⟩ = some (.slice (some ⟨h, 0, none⟩) n n)) (by kernel_rfl) (by exact ⟨HRA.out, hc⟩) (fun hHeld => ?_)
    refine wpAnyH_take (i := 0) (v := .pointer (some ⟨b, 0, none⟩)) rfl (by kernel_rfl) (by kernel_rfl) (by kernel_rfl) (fun _ _ _ h => h) (Or.inl ⟨by rfl, fun W hW => by first | (go_simp; done) | (go_simp; with_reducible rfl)⟩) (by assumption) ?_
    simp only [Act.put, List.setIfInBounds_toArray]
    refine wpAnyH_take (i := 1) (v := .pointer (some ⟨b, 0, none⟩)) rfl (by kernel_rfl) (by kernel_rfl) (by kernel_rfl) (fun _ _ _ h => h) (Or.inl ⟨by rfl, fun W hW => by first | (go_simp; done) | (go_simp; with_reducible rfl)⟩) (by assumption) ?_
    simp only [Act.put]
    refine wpAnyH_take (i := 2) (v := .pointer (some ⟨b, 0, none⟩)) rfl (by kernel_rfl) (by kernel_rfl) (by kernel_rfl) (fun _ _ _ h => h) (Or.inl ⟨by rfl, fun W hW => by first | (go_simp; done) | (go_simp; with_reducible rfl)⟩) (by assumption) ?_
    simp only [Act.put]
    refine wpAnyH_take (i := 3) (v := .agg fa.toList.toArray) rfl (by kernel_rfl) (by kernel_rfl) (by kernel_rfl) (fun _ _ _ h => h) (yieldsIf_load_mid (by rfl) _ _ rfl _ _ rfl fa.toList _ (fun _ h => h.1) hu rfl hi) (by assumption) ?_
    simp only [Act.put, Array.toArray_toList]
    refine wpAnyH_take (i := 4) (v := .pointer (some ⟨b, 0, none⟩)) rfl (by kernel_rfl) (by kernel_rfl) (by kernel_rfl) (fun _ _ _ h => h) (Or.inl ⟨by rfl, fun W hW => by first | (go_simp; done) | (go_simp; with_reducible rfl)⟩) (by assumption) ?_
    simp only [Act.put]
    refine wpAnyH_take (i := 5) (v := .pointer (some ⟨b, 0, none⟩)) rfl (by kernel_rfl) (by kernel_rfl) (by kernel_rfl) (fun _ _ _ h => h) (Or.inl ⟨by rfl, fun W hW => by first | (go_simp; done) | (go_simp; with_reducible rfl)⟩) (by assumption) ?_
    simp only [Act.put]
    refine wpAnyH_take (i := 6) (v := .pointer (some ⟨b, 511, none⟩)) rfl (by kernel_rfl) (by kernel_rfl) (by kernel_rfl) (fun _ _ _ h => h) (Or.inl ⟨by rfl, fun W hW => by first | (go_simp; done) | (go_simp; with_reducible rfl)⟩) (by assumption) ?_
    simp only [Act.put]
    refine wpAnyH_take (i := 7) (v := .slice (some ⟨h, 0, none⟩) n n) rfl (by kernel_rfl) (by kernel_rfl) (by kernel_rfl) (fun _ _ _ h => h) (Or.inl ⟨by rfl, fun W hW => by first | (go_simp; done) | (go_simp; with_reducible rfl)⟩) (by assumption) ?_
    simp only [Act.put]
    refine wpAnyH_take (i := 8) (v := .int .i64 n) rfl (by kernel_rfl) (by kernel_rfl) (by kernel_rfl) (fun _ _ _ h => h) (Or.inl ⟨by rfl, fun W hW => by first | (go_simp; done) | (go_simp; with_reducible rfl)⟩) (by assumption) ?_
    simp only [Act.put]
    have hS1 : (w.drew.alloc (.cells (nils n) 23)).rangeAt b 0 fa.toList ∧ (w.drew.alloc (.cells (nils n) 23)).cell? ⟨b, 511, none⟩ = some (.slice (some ⟨h, 0, none⟩) n n) := ⟨rangeAt_grown (Gr.alloc (Gr.drew (Gr.refl w)) _ _) HRA.out, cell_grown (Gr.alloc (Gr.drew (Gr.refl w)) _ _) hc⟩
    refine wpAnyH_ready (rs := [9]) (by kernel_rfl) (by simp) ?_
    refine AllReadyH.cons rfl (fun K' hK => ?_) AllReadyH.nil
    go_simp
    refine hK.out _ _ hS1 (fun hHeld => ?_)
    clear hK K'
    refine wpAnyH_ready (rs := [10]) (by kernel_rfl) (by simp) ?_
    refine AllReadyH.cons rfl (fun K' hK => ?_) AllReadyH.nil
    rw [if_pos (by rfl)]
    refine wp_built 59 _ rfl (fa.push (.slice (some ⟨w.heap.size, 0, none⟩) n n)) (by simpa [Act.eval] using HBT.out) ?_
    simp only [Act.put, List.setIfInBounds_toArray]
    refine hK.out _ _ hS1 (fun hHeld => ?_)
    clear hK K'
    have hS2 : ((w.drew.alloc (.cells (nils n) 23)).alloc (.cells (fa.push (.slice (some ⟨w.heap.size, 0, none⟩) n n)) 59)).rangeAt b 0 fa.toList ∧ ((w.drew.alloc (.cells (nils n) 23)).alloc (.cells (fa.push (.slice (some ⟨w.heap.size, 0, none⟩) n n)) 59)).cell? ⟨b, 511, none⟩ = some (.slice (some ⟨h, 0, none⟩) n n) := ⟨rangeAt_grown (Gr.alloc (Gr.refl _) _ _) hS1.1, cell_grown (Gr.alloc (Gr.refl _) _ _) hS1.2⟩
    refine wpAnyH_ready (rs := [11]) (by kernel_rfl) (by simp) ?_
    refine AllReadyH.cons rfl (fun K' hK => ?_) AllReadyH.nil
    go_simp
    refine hK.out _ _ hS2 (fun hHeld => ?_)
    clear hK K'
    refine wpAnyH_ready (rs := [12]) (by kernel_rfl) (by simp) ?_
    refine AllReadyH.cons rfl (fun K' hK => ?_) AllReadyH.nil
    go_simp
    refine hK.out _ _ hS2 (fun hHeld => ?_)
    clear hK K'
    refine wpAnyH_done (by kernel_rfl) ?_ _
    go_wp2_with fail
    go_meet
    exact ⟨_, _, rfl, Sb.start (by rw [HFA.out]; exact heap_alloc2_new _ _ _) (heap_alloc2_old _ _ _), Gr.drew (Gr.alloc (Gr.alloc (Gr.refl w) _ _) _ _), by omega, Nat.le_refl _⟩
  case rest =>
    clear hmk hu hi HBT HRA
    obtain ⟨b', h', rfl, hs', hg, hb', hh'⟩ := hcut
    have hc2 := cell_grown hg hc
    have C0 : Hid (Copied w wc b' h' n Ls 0 (List.replicate n (.slice none 0 0)) (List.replicate n [])) := Lib.hid ⟨hs', by simp, fun c => by rw [nones_getD, if_neg (by omega)], hg, hb', hh', fun i hi g hgg => by
      have e : (List.replicate n (Value.slice none 0 0)).getD i undef = .slice none 0 0 := by rw [List.getD_eq_getElem?_getD, List.getElem?_replicate, if_pos hi]; rfl
      rw [e] at hgg
      cases hgg⟩
    clear hs' hg hc
    go_wp2_with fail
    clear hc2
    go_loopw [25] (fun i W => ∃ (k : Nat) (us' : List Value) (Lk : List (List Int)), k ≤ n ∧ i = .int .i64 k ∧ Copied w W b' h' n Ls k us' Lk) (fun i _ => n - (intOf i).toNat)
    case atStart => exact ⟨0, _, _, by omega, rfl, C0.out⟩
    case round =>
      clear C0
      obtain ⟨k, us', Lk, hk, rfl, hh⟩ := hrel
      have HH := Lib.hid hh
      clear hh
      by_cases hlt : k < n
      · have hs1 := HS.out.grown HH.out.gr
        have hcc := hs1.cell k hlt
        have hcb := HH.out.sb.begun
        have hck := HH.out.sb.cell k hlt
        have hfz := HH.out.sb.frozen k
        rcases hs1.plc k hlt with ⟨he, he2⟩ | ⟨g, c, he, h0, hl, hbk, _⟩
        · rw [he] at hcc
          have HH3 : Hid (Copied w (wr.setCell ⟨h', k, none⟩ (.slice none 0 0)) b' h' n Ls (k + 1) (us'.set k (.slice none 0 0)) (Lk.set k [])) := Lib.hid (HH.out.step hlt (Gr.refl _) (.inl ⟨rfl, rfl⟩) he2.symm (fun g hg => by cases hg))
          clear he he2 hs1
          go_wp2
          go_region_law (first
            | ((try go_simp); go_at_call 42; refine (clone_nil _).mono ?_; rintro e w3 ⟨rfl, rfl⟩))
          all_goals
            go_wp2_with fail
            exact ⟨⟨k + 1, _, _, by omega, by go_num, HH3.out.drew⟩, by simp [intOf]; omega⟩
        · rw [he] at hcc hbk
          have HBK := Lib.hid hbk
          have HLL := Lib.hid hl
          clear hbk hl he hs1
          go_wp2
          go_region_law (first
            | ((try go_simp); go_at_call 42; refine (clone_new _ (Ls.getD k []) _ (by exact HBK.out) (by rw [HLL.out]; omega)).mono ?_; rintro e w3 ⟨v3, rfl, hnw⟩; obtain ⟨o3, m3, c3, rfl⟩ := New.form3 hnw; have hc2 := cell_grown hnw.1 hck; have hf2 := frozen_grown hnw.1 hck hfz; have hcb3 := cell_grown hnw.1 hcb; have N3 := Lib.hid hnw; clear hnw))
          all_goals
            have hne : Ls.getD k [] ≠ [] := fun e => by
              have := HLL.out
              rw [e] at this
              simp at this
              omega
            have HH3 := Lib.hid (HH.out.step hlt (by exact N3.out.1) (Plc.of_new N3.out HLL.out h0) rfl (new_blk N3.out hne (by exact HH.out.gr.size)))
            go_wp2_with fail
            exact ⟨⟨k + 1, _, _, by omega, by go_num, HH3.out⟩, by simp [intOf]; omega⟩
      · obtain rfl : k = n := by omega
        go_wp2
        go_ret
        have hLk : Lk = Ls := by
          apply List.ext_getElem?
          intro i
          by_cases hi : i < k
          · have h1 := HH.out.get i
            rw [if_pos hi, List.getD_eq_getElem?_getD, List.getD_eq_getElem?_getD, List.getElem?_eq_getElem (by rw [HH.out.len]; exact hi), List.getElem?_eq_getElem (by rw [HL.out]; exact hi)] at h1
            rw [List.getElem?_eq_getElem (by rw [HH.out.len]; exact hi), List.getElem?_eq_getElem (by rw [HL.out]; exact hi)]
            simpa using h1
          · rw [List.getElem?_eq_none (by rw [HH.out.len]; omega), List.getElem?_eq_none (by rw [HL.out]; omega)]
        subst hLk
        refine ⟨b', h', us', rfl, HH.out.sb, HH.out.gr, fun g hg => ?_⟩
        rcases hg with rfl | rfl | ⟨u, hu, hk2⟩
        · exact HH.out.b0
        · exact HH.out.h0
        · obtain ⟨i, hi, rfl⟩ := List.getElem_of_mem hu
          refine HH.out.new i (by rw [← HH.out.sb.len]; exact hi) g ?_
          rw [List.getD_eq_getElem?_getD, List.getElem?_eq_getElem hi]
          exact hk2
end Go.Proofs.Ytmeojdnalhaooaa
