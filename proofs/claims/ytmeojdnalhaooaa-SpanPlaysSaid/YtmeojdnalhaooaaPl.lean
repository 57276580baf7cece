/-
  Rows that come one by one: where they lie beside a Span, and what the rank says of each.
-/
import Derived.Test.YtmeojdnalhaooaaAz
import Derived.Test.YtmeojdnalhaooaaRt
import Derived.Test.YtmeojdnalhaooaaRa
namespace Go.Proofs.Ytmeojdnalhaooaa
open Go.RowKit

/-- A row that reads as l, and lies away from the Span's memory F; its memory is of bytes, or was there ahead of base. -/
structure RowF (base : Nat) (F : Nat → Prop) (w : World) (u : Value) (l : List Int) : Prop where
  bs : Bs w u l
  rb : Rb base w u
  aw : Away F u
section
variable {base : Nat} {F F' : Nat → Prop} {w w' : World} {u v v' : Value} {l : List Int} {A : List (List Int)}
theorem RowF.grown (h : RowF base F w u l) (hg : Gr w w') : RowF base F w' u l := ⟨(Rb.gr h.bs h.rb hg).1, (Rb.gr h.bs h.rb hg).2, h.aw⟩
theorem RowF.add (h : RowF base F w u l) (hk : Kp F w w') (hF : ∀ k, F' k → F k ∨ w.heap.size ≤ k) : RowF base F' w' u l := by
  refine ⟨h.bs.kp hk h.aw, fun a n c e hn => ?_, fun a n c e hn hf => ?_⟩
  · rcases h.rb a n c e hn with h1 | ⟨cur, h1⟩
    · exact .inl h1
    · exact .inr ⟨cur, hk.block h1 (h.aw a n c e hn)⟩
  · rcases hF _ hf with c1 | c1
    · exact h.aw a n c e hn c1
    · have hb := h.bs
      rw [e] at hb
      have := Bs.low hb hn
      omega
theorem New.away {l : List Int} (h : New w w' v l) (hlt : ∀ k, F k → k < w.heap.size) : Away F v := fun a m c he hm e => by
  obtain ⟨_, _, ⟨_, oa, ca, he2, _⟩ | ⟨g, c2, cur, he2, hge, _⟩⟩ := h
  · rw [he2] at he
    cases he
    omega
  · rw [he2] at he
    cases he
    have h9 : g < w.heap.size := hlt _ e
    omega
theorem New.rowF {l : List Int} (h : New w w' v l) (hlt : ∀ k, F k → k < w.heap.size) : RowF base F w' v l := ⟨h.bs, h.rb base, h.away hlt⟩
/-- Rows one by one, the list in memory of one's own. -/
structure Alls (base : Nat) (F : Nat → Prop) (w : World) (v : Value) (A : List (List Int)) (us : List Value) : Prop where
  own : w.ownsRow base 23 1 v A.length us
  row : ∀ i, i < A.length → RowF base F w (us.getD i undef) (A.getD i [])
  aw : ∀ g, v.ownBlock = some g → ¬ F g
theorem Alls.nil : Alls base F w (.slice none 0 0) [] [] := ⟨World.ownsRow_nil w base 23 1, fun i hi => absurd hi (by simp), fun g h => by cases h⟩
theorem Alls.grown {us : List Value} (h : Alls base F w v A us) (hg : Gr w w') : Alls base F w' v A us := ⟨h.own.of_gr hg, fun i hi => (h.row i hi).grown hg, h.aw⟩
theorem Alls.add {us : List Value} (h : Alls base F w v A us) (hk : Kp F w w') (hF : ∀ k, F' k → F k ∨ w.heap.size ≤ k) : Alls base F' w' v A us :=
  ⟨ownsRow_kn h.own hk h.aw, fun i hi => (h.row i hi).add hk hF, fun g hg hf => by
    rcases hF g hf with c | c
    · exact h.aw g hg c
    · have := ownsRow_lt h.own g hg
      omega⟩
theorem Alls.bss {us : List Value} (h : Alls base F w v A us) : Bss w v A := owns_bss h.own rfl fun i hi => (h.row i hi).bs
/-- Behind an append of one row. -/
theorem Alls.more {us : List Value} {g c : Nat} (h : Alls base F w v A us) (hu : RowF base F w u l) (hlt : ∀ k, F k → k < w.heap.size)
    (hown : w'.ownsRow base 23 1 (.slice (some ⟨g, 0, none⟩) (A.length + 1) c) (A.length + 1) (us ++ [u])) (hgrow : (w.alloc (.cells #[u] 23)).grownBy w' v.ownBlock) (hat : v.ownBlock = some g ∨ g = w.heap.size + 1) :
    Alls base F w' (.slice (some ⟨g, 0, none⟩) (A.length + 1) c) (A ++ [l]) (us ++ [u]) ∧ Kp (fun k => v.ownBlock = some k) w w' ∧ ∀ x m, RowF base F w x m → RowF base F w' x m := by
  have hg1 : Gr w (w.alloc (.cells #[u] 23)) := Gr.alloc (Gr.refl _) _ _
  have hrow := ownsRow_not_bytes ((h.own.of_gr hg1))
  have hlen : us.length = A.length := by have := h.own.1; omega
  have keep : ∀ {x : Value} {m : List Int}, RowF base F w x m → RowF base F w' x m := fun hx => by
    have h1 := hx.grown hg1
    have h2 := Rb.kept h1.bs h1.rb hgrow.block hrow
    exact ⟨h2.1, h2.2, hx.aw⟩
  refine ⟨⟨by rw [List.length_append]; exact hown, fun i hi => ?_, fun g' hg' hf => ?_⟩, ?_⟩
  · rw [List.length_append, List.length_singleton] at hi
    by_cases e : i < A.length
    · rw [List.getD_eq_getElem?_getD, List.getD_eq_getElem?_getD, List.getElem?_append_left (by omega), List.getElem?_append_left e, ← List.getD_eq_getElem?_getD, ← List.getD_eq_getElem?_getD]
      exact keep (h.row i e)
    · obtain rfl : i = A.length := by omega
      have e1 : (us ++ [u]).getD A.length undef = u := by rw [List.getD_eq_getElem?_getD, List.getElem?_append_right (by omega), hlen]; simp
      have e2 : (A ++ [l]).getD A.length [] = l := by rw [List.getD_eq_getElem?_getD, List.getElem?_append_right (by omega)]; simp
      rw [e1, e2]
      exact keep hu
  · have hgg : g' = g := by simpa [Value.ownBlock] using hg'.symm
    subst hgg
    rcases hat with c1 | c1
    · exact h.aw _ c1 hf
    · have := hlt _ hf
      omega
  · have h2 : Kp (fun k => v.ownBlock = some k) (w.alloc (.cells #[u] 23)) w' := ⟨hgrow.os, hgrow.tape, hgrow.output, hgrow.size, fun k hk hn => hgrow.block k hk fun e => hn e.symm⟩
    exact ⟨(hg1.kp _).trans h2 fun k e => .inl e, fun x m hx => keep hx⟩
end
theorem snoc_same (A : List (List Int)) (x : List Int) : L.Same ((A ++ [x]).map vec) (vec x :: A.map vec) := L.Same.of_mem fun z => by
  simp [List.map_append, or_comm]
theorem rk_snoc {n : Nat} {A : List (List Int)} {x : List Int} (hA : Wide n A) (hx : x.length = n) : (L.Sp (A.map vec) (vec x) → rkL (A ++ [x]) = rkL A) ∧ (¬ L.Sp (A.map vec) (vec x) → rkL (A ++ [x]) = rkL A + 1) := by
  unfold rkL
  rw [L.rk_same (snoc_same A x)]
  exact L.rk_cons hA.supp (vec_supp hx)
theorem rk_new {n : Nat} {A : List (List Int)} {x : List Int} (hA : Wide n A) (hx : x.length = n) : rkL A < rkL (A ++ [x]) ↔ ¬ L.Sp (A.map vec) (vec x) := by
  obtain ⟨h1, h2⟩ := rk_snoc hA hx
  by_cases h : L.Sp (A.map vec) (vec x)
  · rw [h1 h]
    exact ⟨fun c => by omega, fun c => absurd h c⟩
  · rw [h2 h]
    exact ⟨fun _ => h, fun _ => by omega⟩
theorem rk_old {n : Nat} {A : List (List Int)} {x : List Int} (hA : Wide n A) (hx : x.length = n) : rkL (A ++ [x]) = rkL A ↔ L.Sp (A.map vec) (vec x) := by
  obtain ⟨h1, h2⟩ := rk_snoc hA hx
  by_cases h : L.Sp (A.map vec) (vec x)
  · exact ⟨fun _ => h, fun _ => h1 h⟩
  · rw [h2 h]
    exact ⟨fun c => by omega, fun c => absurd c h⟩
/-- What is left of a row is one alone. -/
theorem IsRest.unique {n : Nat} {A R : List (List Int)} {x y z : List Int} (h : IsRest n A x y) (h' : IsRest n A x z) (hr : IsRed n A R) : z = y := by
  refine h.again ?_ hr
  obtain ⟨_, _, ⟨e, he, hv⟩, _⟩ := h
  obtain ⟨g1, g2, ⟨e', he', hv'⟩, g4⟩ := h'
  refine ⟨g1, g2, ⟨L.vadd e e', L.Sp.add he he', ?_⟩, g4⟩
  rw [hv', hv, L.vadd_assoc, ← L.vadd_assoc e, L.vadd_self, L.vzero_add]
/-- What is left of x when the first t reduced rows have been taken. -/
structure Want (n : Nat) (A : List (List Int)) (x : List Int) (ps : List Nat) (t : Nat) (y : List Int) : Prop where
  len : y.length = n
  byt : ∀ z ∈ y, Byt z
  sum : ∃ e, L.Sp (A.map vec) e ∧ vec y = L.vadd (vec x) e
  nought : ∀ i, i < t → y.getD (ps.getD i 0) 0 = 0
theorem Want.start {n : Nat} {A : List (List Int)} {x : List Int} (ps : List Nat) (h1 : x.length = n) (h2 : ∀ z ∈ x, Byt z) : Want n A x ps 0 x := ⟨h1, h2, ⟨_, L.Sp.zero, (L.vadd_zero _).symm⟩, by omega⟩
theorem Want.next {n t : Nat} {A R : List (List Int)} {x y : List Int} {ps : List Nat} (h : Want n A x ps t y) (hr : IsRed n A R) (hp : RedAt n R ps) (ht : t < R.length) :
    Want n A x ps (t + 1) (axL (y.getD (ps.getD t 0) 0) (R.getD t []) y) := by
  have hw := hp.wide.at t ht
  have hz := getD_byt h.byt (ps.getD t 0)
  have hbyt : ∀ z ∈ axL (y.getD (ps.getD t 0) 0) (R.getD t []) y, Byt z := by
    unfold axL
    exact lst_byt fun i _ => addZ_byt (getD_byt h.byt i) (mulZ_byt _ _)
  refine ⟨by rw [axL_length]; exact hw.1, hbyt, ?_, fun i hi => ?_⟩
  · obtain ⟨e, he, hv⟩ := h.sum
    refine ⟨L.vadd e (L.smul (fb (y.getD (ps.getD t 0) 0)) (vec (R.getD t []))), L.Sp.add he (L.Sp.smul _ ((hr.rows _).1 (L.Sp.mem ?_))), ?_⟩
    · refine List.mem_map.2 ⟨R.getD t [], ?_, rfl⟩
      rw [List.getD_eq_getElem?_getD, List.getElem?_eq_getElem ht]
      exact List.getElem_mem _
    · rw [vec_ax hz hw.2 h.byt (by rw [hw.1, h.len]), hv, L.vadd_assoc]
  · by_cases e : i = t
    · subst e
      rw [axL_getD _ _ _ _ (by rw [hw.1]; exact hp.lt i ht), hp.one i ht, mulZ_one _ hz, addZ_self]
    · have hi' : i < R.length := by omega
      rw [axL_getD _ _ _ _ (by rw [hw.1]; exact hp.lt i hi'), hp.apart i t hi' ht (fun c => e c.symm), h.nought i (by omega)]
      simp [mulZ, M.mulN_zero_right, addZ]
theorem Want.done {n : Nat} {A R : List (List Int)} {x y : List Int} {ps : List Nat} (h : Want n A x ps R.length y) (hr : IsRed n A R) (hp : RedAt n R ps) : IsRest n A x y := by
  refine ⟨h.len, h.byt, h.sum, fun R' hR' r hm => ?_⟩
  obtain rfl : R' = R := hR'.unique hr
  obtain ⟨i, hi, rfl⟩ := List.getElem_of_mem hm
  have hl := hp.lead i hi
  rw [List.getD_eq_getElem?_getD, List.getElem?_eq_getElem hi] at hl
  rw [show leadL R'[i] = (ps.getD i 0 : Int) from hl, Int.toNat_natCast]
  exact h.nought i hi
/-- Add, of a row of whatever length. -/
theorem SpanOk.both {At : World → Value → Value → (Nat → Prop) → Nat → List (List Int) → Prop} (O : SpanOk At) (f s v : Value) (F : Nat → Prop) (n : Nat) (A A' : List (List Int)) (x : List Int) (b : Bool) (w : World) (hf : IsF w f) (ha : At w f s F n A) (hl : A.length ≤ 1000) (hv : Bs w v x) (haw : Away F v) (hx : x.length ≤ 1000)
    (h : (x.length = n ∧ A' = A ++ [x] ∧ (b = true ↔ ¬ L.Sp (A.map vec) (vec x))) ∨ (x.length ≠ n ∧ A' = A ∧ b = false)) :
    Calls Try.prog 13 #[s, v] w fun e w' => ∃ F', e = .returned (.bool b) ∧ At w' f s F' n A' ∧ Kp F w w' ∧ ∀ k, F' k → F k ∨ w.heap.size ≤ k := by
  rcases h with ⟨h1, rfl, h3⟩ | ⟨h1, rfl, rfl⟩
  · refine (O.add f s v F n A x w hf ha hl hv haw h1).mono ?_
    rintro e w' ⟨b', F', rfl, hb', h4, h5, h6⟩
    have : b' = b := Bool.eq_iff_iff.2 (hb'.trans h3.symm)
    subst this
    exact ⟨F', rfl, h4, h5, h6⟩
  · refine (O.addNe f s v F n A' x w hf ha hl hv hx h1).mono ?_
    rintro e w' ⟨rfl, h4, h5⟩
    exact ⟨F, rfl, h4, h5, fun k hk => .inl hk⟩
end Go.Proofs.Ytmeojdnalhaooaa
