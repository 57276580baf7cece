/-
  What package span is to do, as contracts; the document's example of it.
-/
import Derived.Test.YtmeojdnalhaooaaMr
import Derived.Test.YtmeojdnalhaooaaKp
namespace Go.Proofs.Ytmeojdnalhaooaa
open Go.RowKit

/-- Behind a call that doesn't write its block, a row of one's own is as it was. -/
theorem ownsRow_kn {F : Nat → Prop} {w w' : World} {base : Nat} {e : TypeId} {size : Nat} {v : Value} {n : Nat} {xs : List Value} (h : w.ownsRow base e size v n xs) (hk : Kp F w w') (hF : ∀ g, v.ownBlock = some g → ¬ F g) : w'.ownsRow base e size v n xs := by
  obtain ⟨h0, h1 | ⟨g, c, cur, rfl, hb, hg, h2⟩⟩ := h
  · exact ⟨h0, .inl h1⟩
  · exact ⟨h0, .inr ⟨g, c, cur, rfl, hb, hk.block hg (hF g rfl), h2⟩⟩
theorem ownsRow_lt {base : Nat} {w : World} {e : TypeId} {size : Nat} {v : Value} {n : Nat} {xs : List Value} (h : w.ownsRow base e size v n xs) : ∀ g, v.ownBlock = some g → g < w.heap.size := by
  intro g hg
  obtain ⟨_, ⟨rfl, _⟩ | ⟨g', c, cur, rfl, _, hgg, _⟩⟩ := h
  · cases hg
  · cases hg
    exact (Array.getElem?_eq_some_iff.1 hgg).1
/-- The row lies in memory of bytes, from base on. -/
def Rn (base : Nat) (w : World) (u : Value) : Prop := ∀ a n c, u = .slice (some a) n c → 0 < n → base ≤ a.block ∧ ∃ cur, w.heap[a.block]? = some (.cells cur 5 (0, 0))
/-- v is a slice of rows, all of it in memory from base on, and reads as L in w. -/
def RwsN (base : Nat) (w : World) (v : Value) (L : List (List Int)) : Prop :=
  ∃ us, w.ownsRow base 23 1 v L.length us ∧ ∀ i, i < L.length → Bs w (us.getD i undef) (L.getD i []) ∧ Rn base w (us.getD i undef)
theorem RwsN.rws {base : Nat} {w : World} {v : Value} {L : List (List Int)} (h : RwsN base w v L) : Rws base w v L := by
  obtain ⟨us, h1, h2⟩ := h
  exact ⟨us, h1, fun i hi => ⟨(h2 i hi).1, fun a n c e hn => .inr ((h2 i hi).2 a n c e hn).2⟩⟩
theorem RwsN.bss {base : Nat} {w : World} {v : Value} {L : List (List Int)} (h : RwsN base w v L) : Bss w v L := h.rws.bss
/-- v's memory is none of F. -/
def Away (F : Nat → Prop) (v : Value) : Prop := ∀ a m c, v = .slice (some a) m c → 0 < m → ¬ F a.block
/-- What is left of a row: it and something spanned, with noughts where the reduced rows begin. -/
def IsRest (n : Nat) (A : List (List Int)) (x y : List Int) : Prop :=
  y.length = n ∧ (∀ z ∈ y, Byt z) ∧ (∃ e, L.Sp (A.map vec) e ∧ vec y = L.vadd (vec x) e) ∧ ∀ R, IsRed n A R → ∀ r ∈ R, y.getD (leadL r).toNat 0 = 0
/-- The contracts of package span; At: how a Span (over the Field f, for rows of n bytes, the rows A added) lies in memory, F being the blocks that are its own. -/
structure SpanOk (At : World → Value → Value → (Nat → Prop) → Nat → List (List Int) → Prop) : Prop where
  ptr : ∀ {w : World} {f s : Value} {F : Nat → Prop} {n : Nat} {A : List (List Int)}, At w f s F n A → ∃ a, s = .pointer (some a)
  lt : ∀ {w : World} {f s : Value} {F : Nat → Prop} {n : Nat} {A : List (List Int)}, At w f s F n A → ∀ k, F k → k < w.heap.size
  keep : ∀ {w w' : World} {f s : Value} {F G : Nat → Prop} {n : Nat} {A : List (List Int)}, At w f s F n A → Kp G w w' → IsF w' f → (∀ k, F k → ¬ G k) → At w' f s F n A
  new : ∀ (f : Value) (n : Nat) (w : World), IsF w f → n ≤ 64 → Calls Try.prog 7 #[f, .int .i64 n] w fun e w' => ∃ s F, e = .returned s ∧ At w' f s F n [] ∧ Gr w w' ∧ ∀ k, F k → w.heap.size ≤ k
  newNe : ∀ (f : Value) (n : Int) (w : World), IsF w f → ¬ (0 ≤ n ∧ n ≤ 64) → Calls Try.prog 7 #[f, .int .i64 n] w fun e w' => e = .returned (.pointer none) ∧ Gr w w'
  add : ∀ (f s v : Value) (F : Nat → Prop) (n : Nat) (A : List (List Int)) (x : List Int) (w : World), IsF w f → At w f s F n A → A.length ≤ 1000 → Bs w v x → Away F v → x.length = n →
    Calls Try.prog 13 #[s, v] w fun e w' => ∃ b F', e = .returned (.bool b) ∧ (b = true ↔ ¬ L.Sp (A.map vec) (vec x)) ∧ At w' f s F' n (A ++ [x]) ∧ Kp F w w' ∧ ∀ k, F' k → F k ∨ w.heap.size ≤ k
  addNe : ∀ (f s v : Value) (F : Nat → Prop) (n : Nat) (A : List (List Int)) (x : List Int) (w : World), IsF w f → At w f s F n A → A.length ≤ 1000 → Bs w v x → x.length ≤ 1000 → x.length ≠ n →
    Calls Try.prog 13 #[s, v] w fun e w' => e = .returned (.bool false) ∧ At w' f s F n A ∧ Kp F w w'
  has : ∀ (f s v : Value) (F : Nat → Prop) (n : Nat) (A : List (List Int)) (x : List Int) (w : World), IsF w f → At w f s F n A → A.length ≤ 1000 → Bs w v x → x.length ≤ 1000 →
    Calls Try.prog 16 #[s, v] w fun e w' => ∃ b, e = .returned (.bool b) ∧ (b = true ↔ x.length = n ∧ L.Sp (A.map vec) (vec x)) ∧ Gr w w'
  rest : ∀ (f s v : Value) (F : Nat → Prop) (n : Nat) (A : List (List Int)) (x : List Int) (w : World), IsF w f → At w f s F n A → A.length ≤ 1000 → Bs w v x → x.length = n →
    Calls Try.prog 20 #[s, v] w fun e w' => ∃ u y, e = .returned (.tuple #[u, .bool true]) ∧ Bs w' u y ∧ IsRest n A x y ∧ Gr w w'
  restNe : ∀ (f s v : Value) (F : Nat → Prop) (n : Nat) (A : List (List Int)) (x : List Int) (w : World), IsF w f → At w f s F n A → A.length ≤ 1000 → Bs w v x → x.length ≤ 1000 → x.length ≠ n →
    Calls Try.prog 20 #[s, v] w fun e w' => ∃ u, e = .returned (.tuple #[u, .bool false]) ∧ Bs w' u [] ∧ Gr w w'
  rank : ∀ (f s : Value) (F : Nat → Prop) (n : Nat) (A : List (List Int)) (w : World), IsF w f → At w f s F n A → A.length ≤ 1000 →
    Calls Try.prog 15 #[s] w fun e w' => e = .returned (.int .i64 (rkL A)) ∧ Gr w w'
  rows : ∀ (f s : Value) (F : Nat → Prop) (n : Nat) (A : List (List Int)) (w : World), IsF w f → At w f s F n A → A.length ≤ 1000 →
    Calls Try.prog 23 #[s] w fun e w' => ∃ v R, e = .returned v ∧ RwsN w.heap.size w' v R ∧ IsRed n A R ∧ Gr w w'
  clone : ∀ (f s : Value) (F : Nat → Prop) (n : Nat) (A : List (List Int)) (w : World), IsF w f → At w f s F n A → A.length ≤ 1000 →
    Calls Try.prog 29 #[s] w fun e w' => ∃ c F', e = .returned c ∧ At w' f c F' n A ∧ Gr w w' ∧ ∀ k, F' k → w.heap.size ≤ k
  addNil : ∀ (v : Value) (x : List Int) (w : World), Bs w v x → Calls Try.prog 13 #[.pointer none, v] w fun e w' => e = .returned (.bool false) ∧ Gr w w'
  hasNil : ∀ (v : Value) (x : List Int) (w : World), Bs w v x → Calls Try.prog 16 #[.pointer none, v] w fun e w' => e = .returned (.bool false) ∧ Gr w w'
  restNil : ∀ (v : Value) (x : List Int) (w : World), Bs w v x → Calls Try.prog 20 #[.pointer none, v] w fun e w' => ∃ u, e = .returned (.tuple #[u, .bool false]) ∧ Bs w' u [] ∧ Gr w w'
  rankNil : ∀ (w : World), Calls Try.prog 15 #[.pointer none] w fun e w' => e = .returned (.int .i64 0) ∧ Gr w w'
  rowsNil : ∀ (w : World), Calls Try.prog 23 #[.pointer none] w fun e w' => ∃ v, e = .returned v ∧ Bss w' v [] ∧ Gr w w'
  cloneNil : ∀ (w : World), Calls Try.prog 29 #[.pointer none] w fun e w' => e = .returned (.pointer none) ∧ Gr w w'

/-- Since w0: a Span of one's own, over a Field that was there. -/
def Sn (At : World → Value → Value → (Nat → Prop) → Nat → List (List Int) → Prop) (w0 w : World) (f s : Value) (F : Nat → Prop) (n : Nat) (A : List (List Int)) : Prop := At w f s F n A ∧ (∀ k, F k → w0.heap.size ≤ k) ∧ Gr w0 w ∧ IsF w0 f
section
variable {At : World → Value → Value → (Nat → Prop) → Nat → List (List Int) → Prop} {w0 w w' : World} {f s : Value} {F F' G : Nat → Prop} {n : Nat} {A : List (List Int)}
theorem Sn.fld (h : Sn At w0 w f s F n A) : IsF w f := IsF.grown h.2.2.2 h.2.2.1
theorem Sn.gr (h : Sn At w0 w f s F n A) (hk : Kp F w w') : Gr w0 w' := hk.gr h.2.2.1 h.2.1
theorem Sn.step {A' : List (List Int)} (h : Sn At w0 w f s F n A) (ha : At w' f s F' n A') (hk : Kp F w w') (hF : ∀ k, F' k → F k ∨ w.heap.size ≤ k) : Sn At w0 w' f s F' n A' :=
  ⟨ha, fun k e => by
    rcases hF k e with c | c
    · exact h.2.1 k c
    · exact Nat.le_trans h.2.2.1.size c, h.gr hk, h.2.2.2⟩
theorem Sn.other (O : SpanOk At) (h : Sn At w0 w f s F n A) (hk : Kp G w w') (hG : ∀ k, G k → w0.heap.size ≤ k) (hd : ∀ k, F k → ¬ G k) : Sn At w0 w' f s F n A :=
  ⟨O.keep h.1 hk (IsF.grown h.2.2.2 (hk.gr h.2.2.1 hG)) hd, h.2.1, hk.gr h.2.2.1 hG, h.2.2.2⟩
theorem Sn.grown (O : SpanOk At) (h : Sn At w0 w f s F n A) (hg : Gr w w') : Sn At w0 w' f s F n A :=
  ⟨O.keep h.1 (hg.kp fun _ => False) (IsF.grown h.fld hg) (fun _ _ e => e), h.2.1, Gr.trans h.2.2.1 hg, h.2.2.2⟩
/-- A row that was there ahead of the Span lies away from it. -/
theorem Sn.away (h : Sn At w0 w f s F n A) {v : Value} {x : List Int} (hb : Bs w0 v x) : Away F v := fun a m c hv hm e => by
  subst hv
  have := Bs.low hb hm
  have := h.2.1 _ e
  omega
end
theorem span_wake1 : ¬ L.Sp (([] : List (List Int)).map vec) (vec [1, 2]) := fun h => by
  have h1 : vec [1, 2] 0 = L.zero := L.Sp.at_zero (fun x hx => by simp at hx) h
  exact L.one_ne h1
theorem span_wake2 : L.Sp (([[1, 2]] : List (List Int)).map vec) (vec [1, 2]) := L.Sp.mem (by simp)
theorem span_wake3 : rkL ([[1, 2], [1, 2]] : List (List Int)) = 1 := by
  have hr : L.Rref [(0, vec [1, 2])] := ⟨List.pairwise_singleton _ _, fun p x h => by
      simp at h
      obtain ⟨rfl, rfl⟩ := h
      rfl, fun p x h k hk => by
      simp at h
      omega, fun p x q y h h' hne => by
      simp at h h'
      omega⟩
  have hs : L.Same (L.rows [(0, vec [1, 2])]) (([[1, 2], [1, 2]] : List (List Int)).map vec) := L.Same.of_mem fun x => by simp [L.rows]
  exact L.rk_eq ⟨hr, hs⟩
set_option maxRecDepth 100000 in
set_option maxHeartbeats 800000 in
theorem spanWakes_any {At : World → Value → Value → (Nat → Prop) → Nat → List (List Int) → Prop} (O : SpanOk At) (w : World) : Calls Try.prog 9 #[] w fun e w' => e = .returned (.bool true) ∧ Gr w w' := by
  have H := Lib.hid O
  clear O
  have b1 : Byt 1 := by unfold Byt; omega
  have b2 : Byt 2 := by unfold Byt; omega
  have HB : Hid (∀ x ∈ ([1, 2] : List Int), Byt x) := Lib.hid (by simp [b1, b2])
  go_enter Try.func9, Try.ntmps9
  go_wp2_with fail
  refine (new_st _).mono ?_
  rintro e w1 ⟨b, rfl, hs⟩
  have F1 := Lib.hid hs.2
  have G1 := Lib.hid hs.1
  clear hs
  go_wp2_with fail
  refine (H.out.new _ 2 _ F1.out (by omega)).mono ?_
  rintro e w2 ⟨s, F, rfl, ha, hg, hF⟩
  obtain ⟨asp, rfl⟩ := H.out.ptr ha
  have S2 : Hid (Sn At w1 w2 (.pointer (some ⟨b, 0, none⟩)) (.pointer (some asp)) F 2 []) := Lib.hid ⟨ha, hF, hg, F1.out⟩
  clear ha hg hF
  go_wp2_with fail
  have S3 := Lib.hid (S2.out.grown H.out (Gr.alloc (Gr.refl w2) #[.int .u8 1, .int .u8 2] 5))
  have B3 := lit_bs1 (w := w2) [1, 2] HB.out (by simp)
  have A3 : Away F (.slice (some ⟨w2.heap.size, 0, none⟩) 2 2) := fun a m c hv _ e => by
    cases hv
    have := H.out.lt S2.out.1 _ e
    simp at this
  refine (H.out.add _ _ _ F 2 [] [1, 2] _ S3.out.fld S3.out.1 (by simp) B3 A3 rfl).mono ?_
  rintro e w4 ⟨bb, F4, rfl, hb, ha, hk, hF⟩
  have S4 := Lib.hid (S3.out.step ha hk hF)
  obtain rfl : bb = true := hb.2 span_wake1
  clear ha hk hF hb B3 A3 S3 S2
  go_wp2_with fail
  have S5 := Lib.hid (S4.out.grown H.out (Gr.alloc (Gr.refl w4) #[.int .u8 1, .int .u8 2] 5))
  have B5 := lit_bs1 (w := w4) [1, 2] HB.out (by simp)
  have A5 : Away F4 (.slice (some ⟨w4.heap.size, 0, none⟩) 2 2) := fun a m c hv _ e => by
    cases hv
    have := H.out.lt S4.out.1 _ e
    simp at this
  refine (H.out.add _ _ _ F4 2 [[1, 2]] [1, 2] _ S5.out.fld S5.out.1 (by simp) B5 A5 rfl).mono ?_
  rintro e w6 ⟨bb, F6, rfl, hb, ha, hk, hF⟩
  have S6 := Lib.hid (S5.out.step ha hk hF)
  obtain rfl : bb = false := by
    cases bb with
    | false => rfl
    | true => exact absurd span_wake2 (hb.1 rfl)
  clear ha hk hF hb B5 A5 S5 S4
  go_wp2_with fail
  refine (H.out.rank _ _ F6 2 [[1, 2], [1, 2]] _ S6.out.fld S6.out.1 (by simp)).mono ?_
  rintro e w7 ⟨rfl, hg⟩
  rw [span_wake3]
  have G7 := Lib.hid (Gr.trans G1.out (Gr.trans S6.out.2.2.1 hg))
  clear hg
  go_wp2_with fail
  go_ret
  exact ⟨rfl, G7.out⟩
end Go.Proofs.Ytmeojdnalhaooaa
