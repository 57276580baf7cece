/-
  Package span as it was written: Rows, Clone, New, and the calls with no Span; all of it.
-/
import Derived.Test.YtmeojdnalhaooaaSt2
namespace Go.Proofs.Ytmeojdnalhaooaa
open Go.RowKit

set_option maxHeartbeats 400000 in
theorem addNe_any (b h n : Nat) (us : List Value) (Ls : List (List Int)) (v : Value) (x : List Int) (w : World) (hs : Sb w b h n us Ls) (hv : Bs w v x) (hx : x.length ≠ n) :
    Calls Try.prog 13 #[.pointer (some ⟨b, 0, none⟩), v] w fun e w' => e = .returned (.bool false) ∧ Gr w w' := by
  have HS := Lib.hid hs
  have HV := Lib.hid hv
  have HX := Lib.hid hx
  clear hs hv hx
  go_enter Try.func13, Try.ntmps13
  go_wp2_with (first
      | (go_at_call 20; refine (restNe_any b h n us Ls v x _ HS.out HV.out HX.out).mono ?_; rintro e w1 ⟨rfl, hg⟩; have G1 := Lib.hid hg; clear hg)
      | (go_at_call 26; refine (ok_lead _ [] _ (Bs.nil _) (by simp)).mono ?_; rintro e w2 ⟨rfl, hg⟩; have G2 := Lib.hid hg; clear hg))
  go_ret
  exact ⟨rfl, Gr.trans G1.out G2.out⟩
set_option maxHeartbeats 400000 in
theorem addNil_any (v : Value) (x : List Int) (w : World) (hv : Bs w v x) :
    Calls Try.prog 13 #[.pointer none, v] w fun e w' => e = .returned (.bool false) ∧ Gr w w' := by
  have HV := Lib.hid hv
  clear hv
  go_enter Try.func13, Try.ntmps13
  go_wp2_with (first
      | (go_at_call 20; refine (restNil_any v x _ HV.out).mono ?_; rintro e w1 ⟨rfl, hg⟩; have G1 := Lib.hid hg; clear hg)
      | (go_at_call 26; refine (ok_lead _ [] _ (Bs.nil _) (by simp)).mono ?_; rintro e w2 ⟨rfl, hg⟩; have G2 := Lib.hid hg; clear hg))
  go_ret
  exact ⟨rfl, Gr.trans G1.out G2.out⟩
set_option maxHeartbeats 400000 in
theorem rankNil_any (w : World) :
    Calls Try.prog 15 #[.pointer none] w fun e w' => e = .returned (.int .i64 0) ∧ Gr w w' := by
  go_enter Try.func15, Try.ntmps15
  go_wp2
  go_ret
  exact ⟨rfl, Gr.refl _⟩
set_option maxHeartbeats 400000 in
theorem rowsNil_any (w : World) :
    Calls Try.prog 23 #[.pointer none] w fun e w' => ∃ v, e = .returned v ∧ Bss w' v [] ∧ Gr w w' := by
  go_enter Try.func23, Try.ntmps23
  go_wp2
  go_ret
  exact ⟨_, rfl, Bss.nil _, Gr.refl _⟩
set_option maxHeartbeats 400000 in
theorem cloneNil_any (w : World) :
    Calls Try.prog 29 #[.pointer none] w fun e w' => e = .returned (.pointer none) ∧ Gr w w' := by
  go_enter Try.func29, Try.ntmps29
  go_wp2
  go_ret
  exact ⟨rfl, Gr.refl _⟩
theorem Rn.kept {base : Nat} {w w' : World} {u : Value} {row : Option Nat} (hr : Rn base w u)
    (hk : ∀ k, k < w.heap.size → some k ≠ row → w'.heap[k]? = w.heap[k]?) (hrow : ∀ g, row = some g → base ≤ g ∧ ∀ cur, w.heap[g]? ≠ some (.cells cur 5 (0, 0))) : Rn base w' u := fun a n c hu hn => by
  obtain ⟨h1, cur, h2⟩ := hr a n c hu hn
  refine ⟨h1, cur, ?_⟩
  rw [hk _ (Array.getElem?_eq_some_iff.1 h2).1 (fun e => (hrow a.block e.symm).2 cur h2)]
  exact h2
theorem Rn.rb {base : Nat} {w : World} {u : Value} (h : Rn base w u) : Rb base w u := fun a n c e hn => .inr (h a n c e hn).2
theorem Rn.gr {base : Nat} {w w' : World} {u : Value} (hr : Rn base w u) (hg : Gr w w') : Rn base w' u :=
  Rn.kept (row := none) hr (fun k hk _ => hg.2.2.2.2 k hk) (fun g h => by cases h)
theorem New.rn {w w' : World} {v : Value} {l : List Int} {base : Nat} (h : New w w' v l) (hb : base ≤ w.heap.size) : Rn base w' v := by
  intro a n c hv hn
  obtain ⟨_, _, ⟨rfl, oa, c', rfl, _⟩ | ⟨g, c', cur, rfl, q, h2, _⟩⟩ := h
  · cases hv
    omega
  · cases hv
    exact ⟨Nat.le_trans hb q, cur, h2⟩
theorem RwsN.nil (base : Nat) (w : World) : RwsN base w (.slice none 0 0) [] := ⟨[], World.ownsRow_nil w base 23 1, fun i hi => absurd hi (by simp)⟩
theorem RwsN.more {base : Nat} {w w' : World} {v v' u : Value} {L : List (List Int)} {l : List Int} {us : List Value} (ho : w.ownsRow base 23 1 v L.length us) (hr : ∀ i, i < L.length → Bs w (us.getD i undef) (L.getD i []) ∧ Rn base w (us.getD i undef))
    (hb : Bs w u l) (hrn : Rn base w u) (hown : w'.ownsRow base 23 1 v' (L.length + 1) (us ++ [u])) (hg : w.grownBy w' v.ownBlock) : RwsN base w' v' (L ++ [l]) := by
  have hlen : us.length = L.length := by have := ho.1; omega
  have hrow := ownsRow_not_bytes ho
  refine ⟨us ++ [u], by rw [List.length_append]; exact hown, fun i hi => ?_⟩
  rw [List.length_append, List.length_singleton] at hi
  by_cases e : i < L.length
  · rw [List.getD_eq_getElem?_getD, List.getD_eq_getElem?_getD, List.getElem?_append_left (by omega), List.getElem?_append_left e, ← List.getD_eq_getElem?_getD, ← List.getD_eq_getElem?_getD]
    exact ⟨(Rb.kept (hr i e).1 (hr i e).2.rb hg.block hrow).1, (hr i e).2.kept hg.block hrow⟩
  · obtain rfl : i = L.length := by omega
    have e1 : (us ++ [u]).getD L.length undef = u := by rw [List.getD_eq_getElem?_getD, List.getElem?_append_right (by omega), hlen]; simp
    have e2 : (L ++ [l]).getD L.length [] = l := by rw [List.getD_eq_getElem?_getD, List.getElem?_append_right (by omega)]; simp
    rw [e1, e2]
    exact ⟨(Rb.kept hb hrn.rb hg.block hrow).1, hrn.kept hg.block hrow⟩
set_option maxRecDepth 100000 in
set_option maxHeartbeats 1600000 in
theorem rowsS_any (b h n : Nat) (us : List Value) (Ls : List (List Int)) (w : World) (hs : Sb w b h n us Ls) (hL : Ls.length = n) (hn : n ≤ 64) :
    Calls Try.prog 23 #[.pointer (some ⟨b, 0, none⟩)] w fun e w' => ∃ v, e = .returned v ∧ RwsN w.heap.size w' v (rowsOf Ls) ∧ Gr w w' := by
  have hc := hs.begun
  have HS := Lib.hid hs
  have HL := Lib.hid hL
  clear hs hL
  obtain ⟨i0, hi0, hz0, hz1, hz2⟩ := info_parts info22
  have I0 := Lib.hid hi0
  have I1 := Lib.hid hz0
  have I2 := Lib.hid hz1
  have I3 := Lib.hid hz2
  clear hi0 hz0 hz1 hz2
  have hnil : ∀ (W : World) (x : Option Addr) (p q : Nat), (binOp .neq 23 (.slice x p q) (.slice none 0 0)).run Try.prog W = .ok (.bool (!x.isNone)) W := fun W x p q => run_neq_slice_nil W _ _ x p q 0 0 Try.underlying23
  go_enter Try.func23, Try.ntmps23
  go_wp2
  clear hc
  go_loopw [3, 13] (fun r i W => ∃ k : Nat, k ≤ n ∧ i = .int .i64 k ∧ RwsN w.heap.size W r (rowsOf (Ls.take k)) ∧ Gr w W) (fun _ i _ => n - (intOf i).toNat)
  case atStart => exact ⟨0, by omega, rfl, by simpa [rowsOf] using RwsN.nil _ _, Gr.refl _⟩
  case round =>
    obtain ⟨k, hk, rfl, hrs, hg⟩ := hrel
    have HG := Lib.hid hg
    clear hg
    by_cases hlt : k < n
    · have hs1 := HS.out.grown HG.out
      have hcc := hs1.cell k hlt
      have ht : Ls.take (k + 1) = Ls.take k ++ [Ls.getD k []] := by
        have := HL.out
        rw [List.take_add_one, List.getElem?_eq_getElem (by omega), List.getD_eq_getElem?_getD, List.getElem?_eq_getElem (by omega)]
        rfl
      have hr := rowsOf_snoc (Ls.take k) (Ls.getD k [])
      rw [← ht] at hr
      rcases hs1.plc k hlt with ⟨he, he2⟩ | ⟨g, c, he, h0, hl, hbk, _⟩
      · rw [he] at hcc
        rw [if_pos he2] at hr
        have HR := Lib.hid hr
        have HRS := Lib.hid hrs
        obtain ⟨us2, ho2, _⟩ := hrs
        obtain ⟨oo, co, rfl⟩ := ownsRow_form ho2
        clear ht hr he he2 hs1 ho2
        go_wp2
        exact ⟨⟨k + 1, by omega, by go_num, by rw [HR.out]; exact HRS.out, HG.out⟩, by simp [intOf]; omega⟩
      · rw [he] at hcc hbk
        rw [if_neg (fun e => by rw [e] at hl; simp at hl; omega)] at hr
        have HR := Lib.hid hr
        obtain ⟨us2, ho, hrr⟩ := hrs
        have hmk : (rowsOf (Ls.take k)).length ≤ k := by
          refine Nat.le_trans (List.length_filter_le _ _) ?_
          rw [List.length_take]
          omega
        obtain ⟨m, hm⟩ : ∃ m, (rowsOf (Ls.take k)).length = m := ⟨_, rfl⟩
        rw [hm] at ho hrr hmk
        obtain ⟨oo, co, rfl⟩ := ownsRow_form ho
        have HO := Lib.hid ho
        have HRR := Lib.hid hrr
        have HBK := Lib.hid hbk
        have HM := Lib.hid hm
        have HLL := Lib.hid hl
        clear ht hr he hl hs1 ho hrr hbk hm
        go_wp2_with (first
          | (go_at_call 42; refine (clone_new _ (Ls.getD k []) _ (by exact HBK.out) (by rw [HLL.out]; omega)).mono ?_; rintro e w1 ⟨v1, rfl, hnw⟩; obtain ⟨o1, m1, c1, rfl⟩ := New.form3 hnw; have HW := Lib.hid hnw; clear hnw)
          | (at_builtin; refine wpList_append_lies _ rfl _ _ _ rfl w.heap.size 23 i0 _ 1 24 Try.underlying22 I0.out I1.out I2.out I3.out rfl (by omega) (.slice oo m co) m us2 rfl (((HO.out.of_gr HW.out.1)).alloc _)
              ⟨w1.heap.size, 0, none⟩ 1 1 [.slice o1 m1 c1] rfl rfl (World.news_of_block (cs := #[.slice o1 m1 c1]) (t := 23) (fr := (0, 0)) (heap_alloc_new w1 _)) (by simp [Value.oneCell'])
              (by omega) (by unfold maxLen; omega) (by omega) (by have := HG.out.size; have := HW.out.1.size; simp; omega) (w1.heap.size + 1) (by simp) ?_; intro gg cap w2 hown1 hgrow hat hlt2))
        have hg1w : Gr wr (w1.alloc (.cells #[.slice o1 m1 c1] 23)) := Gr.alloc HW.out.1 _ _
        have hgw1 : Gr w1 (w1.alloc (.cells #[.slice o1 m1 c1] 23)) := Gr.alloc (Gr.refl _) _ _
        have hrow : ∀ g, (Value.slice oo m co).ownBlock = some g → w.heap.size ≤ g := fun g hg => (ownsRow_not_bytes HO.out g hg).1
        have hap : RwsN w.heap.size w2 (.slice (some ⟨gg, 0, none⟩) (m + 1) cap) (rowsOf (Ls.take (k + 1))) := by
          rw [HR.out]
          exact RwsN.more (by rw [HM.out]; exact (HO.out.of_gr HW.out.1).alloc _) (fun i hi => ⟨Bs.grown (HRR.out i (by rwa [HM.out] at hi)).1 hg1w, (HRR.out i (by rwa [HM.out] at hi)).2.gr hg1w⟩)
            (Bs.grown (New.bs HW.out) hgw1) ((New.rn HW.out HG.out.size).gr hgw1) (by rw [HM.out]; exact hown1) hgrow
        exact ⟨⟨k + 1, by omega, by go_num, hap, Gr.append (Gr.trans HG.out hg1w) hgrow hrow⟩, by simp [intOf]; omega⟩
    · obtain rfl : k = n := by omega
      rw [List.take_of_length_le (by rw [HL.out]; exact Nat.le_refl _)] at hrs
      have HRS := Lib.hid hrs
      obtain ⟨us2, ho2, _⟩ := hrs
      obtain ⟨oo, co, rfl⟩ := ownsRow_form ho2
      clear ho2
      go_wp2
      go_ret
      exact ⟨_, rfl, HRS.out, HG.out⟩
def fieldA : Array Value := tab 255 M.exN ++ tab 256 M.lgN
theorem fieldA_size : fieldA.size = 511 := by simp [fieldA, tab_size]
theorem info44 : (Try.prog.info? 56).map (·.size) = some 511 := by kernel_rfl
theorem zeroF (w : World) : Sem.run Try.prog (zeroValue 56) w = Result.ok (Value.agg (tab 511 fun _ => 0)) w := by
  have h := zero44
  cases hi : Try.prog.info? 56 with
  | none => simp [hi] at h
  | some i =>
    have hz : i.zero = some (.agg (tab 511 fun _ => 0)) := by simpa [hi] using h
    simp [zeroValue, typeInfo, hi, hz]
theorem fieldA_one : fieldA.all (·.oneCell') = true := by
  unfold fieldA
  rw [Array.all_append, tab_one, tab_one]
  rfl
set_option maxRecDepth 100000 in
set_option maxHeartbeats 400000 in
theorem own_any (f : Value) (w : World) (hf : IsF w f) :
    Calls Try.prog 31 #[f] w fun e w' => e = .returned (.agg fieldA) ∧ Gr w w' := by
  have z := zeroF
  obtain ⟨fs, hu, _⟩ := under44
  have hq : (tab 511 (fun _ => 0)).size = fieldA.size := by rw [tab_size, fieldA_size]
  have h1 := fieldA_one
  have hi : (Try.prog.info? 56).map (·.size) = some fieldA.size := by rw [fieldA_size]; exact info44
  have hi2 : (Try.prog.info? 56).map (·.size) = some fieldA.toList.length := by rw [Array.length_toList, fieldA_size]; exact info44
  have hld : ∀ {W : World} {t : Nat}, FieldAt W t → W.rangeAt t 0 fieldA.toList := fun h => h
  generalize tab 511 (fun _ => 0) = q at *
  generalize fieldA = fa at *
  have HU := Lib.hid hu
  have HQ := Lib.hid hq
  have H1 := Lib.hid h1
  have HI := Lib.hid hi
  have HI2 := Lib.hid hi2
  have HLD : Hid (∀ (W : World) (t : Nat), FieldAt W t → W.rangeAt t 0 fa.toList) := Lib.hid fun W t h => hld h
  clear hu hq h1 hi hi2 hld
  rcases hf with rfl | ⟨b, rfl, hb⟩
  · have hw := heap_alloc_new w (.cells q 56)
    go_enter Try.func31, Try.ntmps31
    go_wp2_with (first
      | (go_at_call 8; refine (new_any _).mono ?_; rintro e w1 ⟨t, rfl, ht, hg1⟩; have HT := Lib.hid ht; have hw1 := keptRow hg1 hw; clear ht; have G1 := Lib.hid hg1; clear hg1)
      | (refine wpList_load_mid rfl 56 _ rfl t 0 rfl fa.toList _ (HLD.out _ _ HT.out) HU.out rfl HI2.out ?_; rw [Array.toArray_toList])
      | (refine wpList_store_row rfl 56 _ _ rfl w.heap.size 56 q fa rfl rfl hw1 HI.out HQ.out H1.out ?_))
    refine bodyPost_ret_by (results_cell_row rfl _ _ w.heap.size 56 fa (0, 0) _ rfl (setRow_heap _ _ q _ _ _ hw1) HU.out rfl HI.out) rfl ⟨rfl, ?_⟩
    exact Gr.setRow (Gr.trans ((Gr.refl _).alloc _ _) G1.out) (Nat.le_refl _) _
  · have hw := heap_alloc_new w (.cells q 56)
    have HT : Hid (FieldAt (w.alloc (.cells q 56)) b) := Lib.hid (FieldAt.grown hb ((Gr.refl _).alloc _ _))
    clear hb
    go_enter Try.func31, Try.ntmps31
    go_wp2_with (first
      | (refine wpList_load_mid rfl 56 _ rfl b 0 rfl fa.toList _ (HLD.out _ _ HT.out) HU.out rfl HI2.out ?_; rw [Array.toArray_toList])
      | (refine wpList_store_row rfl 56 _ _ rfl w.heap.size 56 q fa rfl rfl hw HI.out HQ.out H1.out ?_))
    refine bodyPost_ret_by (results_cell_row rfl _ _ w.heap.size 56 fa (0, 0) _ rfl (setRow_heap _ _ q _ _ _ hw) HU.out rfl HI.out) rfl ⟨rfl, ?_⟩
    exact Gr.setRow ((Gr.refl _).alloc _ _) (Nat.le_refl _) _
theorem zeroS : (Try.prog.info? 59).map (·.zero) = some (some (.agg ((tab 511 fun _ => 0).push (.slice none 0 0)))) := by kernel_rfl
theorem underS : ∃ fs : Array Field, Try.prog.underlying 59 = some (.struct fs) ∧ fs.toList.mapM (fun f => (Try.prog.info? f.type).map fun i => (f.offset, i.size)) = some [(0, 511), (511, 1)] := ⟨_, Try.underlying59, by kernel_rfl⟩
end Go.Proofs.Ytmeojdnalhaooaa
