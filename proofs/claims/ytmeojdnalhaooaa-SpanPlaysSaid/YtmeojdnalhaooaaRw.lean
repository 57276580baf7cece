/-
  The document's own answers on rows of bytes: sums, rows times a byte, what two come to, where one begins.
-/
import Derived.Test.YtmeojdnalhaooaaRv
namespace Go.Proofs.Ytmeojdnalhaooaa
open Go.RowKit

theorem addZ_zero_left (a : Int) (ha : Byt a) : addZ 0 a = a := by
  unfold Byt at ha
  unfold addZ
  rw [show (0 : Int).toNat = 0 from rfl, Nat.zero_xor]
  omega
theorem mulZ_one_left (a : Int) (ha : Byt a) : mulZ 1 a = a := by rw [mulZ_comm, mulZ_one a ha]
theorem replicate_getD (n i : Nat) : (List.replicate n (0 : Int)).getD i 0 = 0 := by
  rw [List.getD_eq_getElem?_getD, List.getElem?_replicate]
  split <;> rfl
theorem Mine.bs {w w' : World} {e : Ending} {l : List Int} (h : Mine w w' e l) (hb : ∀ x ∈ l, Byt x) (hn : l.length ≤ 9223372036854775807) : ∃ v, e = .returned v ∧ Bs w' v l := by
  obtain ⟨g, he, _, hk, _⟩ := h
  exact ⟨_, he, Blk.bs hk l _ (Nat.le_refl _) (Nat.le_refl _) hn hb fun _ _ => rfl⟩

set_option maxHeartbeats 400000 in
theorem refScale_any (c : Int) (va : Value) (x : List Int) (w : World) (hc : Byt c) (ha : Bs w va x) (hn : x.length ≤ 281474976710000) :
    Calls Try.prog 38 #[.int .u8 c, va] w fun e w' => Mine w w' e (lst x.length fun i => mulZ c (x.getD i 0)) := by
  have hx := Bs.byt ha
  have hmk := make22 x.length x.length (by omega) (by omega)
  have hA : Bs (w.alloc (.cells (rowB (List.replicate x.length 0)) 5)) va x := Bs.grown ha (Gr.alloc (Gr.refl _) _ _)
  have hB : Bs (w.alloc (.cells (rowB (List.replicate x.length 0)) 5)) (.slice (some ⟨w.heap.size, 0, none⟩) x.length x.length) (List.replicate x.length 0) := by
    have h : Blk (w.alloc (.cells (rowB (List.replicate x.length 0)) 5)) w.heap.size (List.replicate x.length 0) := heap_alloc_new _ _
    have := Blk.bs h (List.replicate x.length 0) x.length (by simp) (by simp) (by omega) (fun z hz => by rw [List.eq_of_mem_replicate hz]; unfold Byt; omega) fun _ _ => rfl
    simpa using this
  have C := Lib.hid (refAxpy_any c va _ x _ _ hc hA hB (by simp) (by simpa using hn))
  rw [List.length_replicate] at C
  have E : Hid (lst x.length (axpyL c x (List.replicate x.length 0)) = lst x.length fun i => mulZ c (x.getD i 0)) := Lib.hid (lst_congr _ _ _ fun i _ => by
    unfold axpyL
    rw [replicate_getD, addZ_zero_left _ (mulZ_byt _ _)])
  rw [E.out] at C
  have hl : (lst x.length fun i => mulZ c (x.getD i 0)).length = x.length := lst_length _ _
  obtain ⟨_, oa, ca, rfl, _, _, _, _⟩ := ha
  clear E hA hB hx
  generalize (lst x.length fun i => mulZ c (x.getD i 0)) = l at *
  have HL := Lib.hid hl
  clear hl
  generalize rowB (List.replicate x.length 0) = cur at *
  generalize x.length = n at *
  go_enter Try.func38, Try.ntmps38
  go_wp2_with fail
  refine C.out.mono ?_
  rintro e w' ⟨g, rfl, hg, hk, hG⟩
  have HK := Lib.hid hk
  have HG := Lib.hid hG
  clear hk hG
  go_wp2_with fail
  go_ret
  exact ⟨g, rfl, by have := hg; simp at this; omega, HK.out, Gr.trans (Gr.alloc (Gr.refl _) _ _) HG.out⟩

/-- What the first k places come to. -/
def dotL (x y : List Int) : Nat → Int
  | 0 => 0
  | k + 1 => addZ (dotL x y k) (mulZ (x.getD k 0) (y.getD k 0))
theorem dotL_byt (x y : List Int) : ∀ k, Byt (dotL x y k)
  | 0 => by unfold Byt; simp [dotL]
  | k + 1 => addZ_byt (dotL_byt x y k) (mulZ_byt _ _)
/-- Where a row begins: the place of the first that is not 0; -1: none. -/
def leadL : List Int → Int
  | [] => -1
  | a :: l => if a = 0 then (if leadL l = -1 then -1 else leadL l + 1) else 0
theorem leadL_ge : ∀ l, -1 ≤ leadL l
  | [] => by simp [leadL]
  | a :: l => by
    have := leadL_ge l
    unfold leadL
    split <;> (try split) <;> omega
theorem leadL_at : ∀ (l : List Int) (k : Nat), k < l.length → (∀ j, j < k → l.getD j 0 = 0) → l.getD k 0 ≠ 0 → leadL l = k
  | [], k, h, _, _ => by simp at h
  | a :: l, 0, _, _, h => by
    simp at h
    simp [leadL, h]
  | a :: l, k + 1, hk, h0, h => by
    have ha : a = 0 := by simpa using h0 0 (by omega)
    have := leadL_at l k (by simpa using hk) (fun j hj => by simpa using h0 (j + 1) (by omega)) (by simpa using h)
    subst ha
    have h2 := leadL_ge l
    simp only [leadL]
    rw [if_pos trivial, if_neg (by omega), this]
    omega
theorem leadL_none : ∀ (l : List Int), (∀ j, j < l.length → l.getD j 0 = 0) → leadL l = -1
  | [], _ => rfl
  | a :: l, h => by
    have ha : a = 0 := by simpa using h 0 (by simp)
    have := leadL_none l (fun j hj => by simpa using h (j + 1) (by simpa using hj))
    simp [leadL, ha, this]
set_option maxHeartbeats 400000 in
theorem refLead_core (a : Addr) (n ca : Nat) (x : List Int) (w : World) (hl : x.length = n) (hn : n ≤ 281474976710000)
    (hxc : ∀ i, i < n → w.cell? (a.add i) = some (.int .u8 (x.getD i 0))) :
    Calls Try.prog 19 #[.slice (some a) n ca] w fun e w' => e = .returned (.int .i64 (leadL x)) ∧ Gr w w' := by
  have HX := Lib.hid hxc
  have HL := Lib.hid hl
  clear hxc hl
  go_enter Try.func19, Try.ntmps19
  go_wp2
  go_loop [6] (fun i => ∃ k : Nat, k ≤ n ∧ i = .int .i64 k ∧ (∀ j, j < k → x.getD j 0 = 0)) (fun i => n - (intOf i).toNat)
  case atStart => exact ⟨0, by omega, rfl, by omega⟩
  case round =>
    obtain ⟨k, hk, rfl, hs⟩ := hrel
    have S := Lib.hid hs
    clear hs
    by_cases hlt : k < n
    · have q1 := HX.out k hlt
      by_cases hz : x.getD k 0 = 0
      · rw [hz] at q1
        have Z := Lib.hid hz
        clear hz
        go_wp2
        refine ⟨⟨k + 1, by omega, by go_num, fun j hj => ?_⟩, by simp [intOf]; omega⟩
        by_cases e : j = k
        · rw [e, Z.out]
        · exact S.out j (by omega)
      · have E : Hid (leadL x = k) := Lib.hid (leadL_at x k (by rw [HL.out]; exact hlt) S.out hz)
        have hb : (x.getD k 0 != 0) = true := by simpa using hz
        clear hz
        generalize x.getD k 0 = p at *
        go_wp2
        go_ret
        exact ⟨by rw [E.out]; rfl, Gr.refl _⟩
    · obtain rfl : k = n := by omega
      go_wp2
      go_ret
      exact ⟨by rw [leadL_none x (by rw [HL.out]; exact S.out)]; rfl, Gr.refl _⟩
set_option maxHeartbeats 400000 in
theorem refLead_none (oa : Option Addr) (ca : Nat) (w : World) :
    Calls Try.prog 19 #[.slice oa 0 ca] w fun e w' => e = .returned (.int .i64 (-1)) ∧ Gr w w' := by
  go_enter Try.func19, Try.ntmps19
  go_wp2
  go_loop [6] (fun i => i = .int .i64 0) (fun _ => 0)
  case atStart => exact rfl
  case round =>
    subst hrel
    go_wp2
    go_ret
    exact ⟨rfl, Gr.refl _⟩
theorem refLead_any (va : Value) (x : List Int) (w : World) (ha : Bs w va x) (hn : x.length ≤ 281474976710000) :
    Calls Try.prog 19 #[va] w fun e w' => e = .returned (.int .i64 (leadL x)) ∧ Gr w w' := by
  by_cases h0 : 0 < x.length
  · obtain ⟨a, ca, rfl, h1, _, h3⟩ := Bs.at ha h0
    exact refLead_core a x.length ca x w rfl hn h3
  · obtain rfl : x = [] := List.eq_nil_of_length_eq_zero (by omega)
    obtain ⟨_, oa, ca, rfl, _, _, _, _⟩ := ha
    exact refLead_none oa ca w
end Go.Proofs.Ytmeojdnalhaooaa
