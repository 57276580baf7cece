/-
  A place for each column: the reduced row that begins there, or none.
-/
import Derived.Test.YtmeojdnalhaooaaRt
namespace Go.Proofs.Ytmeojdnalhaooaa
open Go.RowKit

/-- The rows that there are. -/
def rowsOf (Ls : List (List Int)) : List (List Int) := Ls.filter fun r => !r.isEmpty
theorem rowsOf_snoc (Ls : List (List Int)) (l : List Int) : rowsOf (Ls ++ [l]) = if l = [] then rowsOf Ls else rowsOf Ls ++ [l] := by
  unfold rowsOf
  rw [List.filter_append]
  cases l with
  | nil => simp
  | cons a l => simp
theorem mem_rowsOf {Ls : List (List Int)} {r : List Int} : r ∈ rowsOf Ls ↔ ∃ c, c < Ls.length ∧ Ls.getD c [] ≠ [] ∧ r = Ls.getD c [] := by
  unfold rowsOf
  rw [List.mem_filter]
  constructor
  · rintro ⟨h1, h2⟩
    obtain ⟨c, hc, rfl⟩ := List.getElem_of_mem h1
    refine ⟨c, hc, ?_, ?_⟩
    · rw [List.getD_eq_getElem?_getD, List.getElem?_eq_getElem hc]
      simpa using h2
    · rw [List.getD_eq_getElem?_getD, List.getElem?_eq_getElem hc]
      rfl
  · rintro ⟨c, hc, h1, rfl⟩
    have e : Ls.getD c [] = Ls[c] := by
      rw [List.getD_eq_getElem?_getD, List.getElem?_eq_getElem hc]
      rfl
    rw [e] at h1 ⊢
    exact ⟨List.getElem_mem hc, by simpa using h1⟩
/-- Ls has a place for each of n columns, with the reduced rows of what A spans. -/
structure Bg (n : Nat) (Ls A : List (List Int)) : Prop where
  len : Ls.length = n
  row : ∀ c, c < n → Ls.getD c [] ≠ [] → (Ls.getD c []).length = n ∧ (∀ z ∈ Ls.getD c [], Byt z) ∧ (Ls.getD c []).getD c 0 = 1 ∧ ∀ t, t < c → (Ls.getD c []).getD t 0 = 0
  apart : ∀ c d, c < n → d < n → Ls.getD c [] ≠ [] → Ls.getD d [] ≠ [] → c ≠ d → (Ls.getD d []).getD c 0 = 0
  same : L.Same ((rowsOf Ls).map vec) (A.map vec)
theorem nones_getD (n c : Nat) : (List.replicate n ([] : List Int)).getD c [] = [] := by
  rw [List.getD_eq_getElem?_getD, List.getElem?_replicate]
  split <;> rfl
theorem Bg.start (n : Nat) : Bg n (List.replicate n []) [] := by
  refine ⟨by simp, fun c _ h => absurd (nones_getD n c) h, fun c d _ _ h => absurd (nones_getD n c) h, ?_⟩
  have : rowsOf (List.replicate n []) = [] := by
    unfold rowsOf
    rw [List.filter_eq_nil_iff]
    intro r hr
    rw [(List.mem_replicate.1 hr).2]
    simp
  rw [this]
  exact L.Same.refl _
theorem Bg.byt {n : Nat} {Ls A : List (List Int)} (h : Bg n Ls A) (c : Nat) (hc : c < n) : ∀ z ∈ Ls.getD c [], Byt z := by
  by_cases e : Ls.getD c [] = []
  · rw [e]
    simp
  · exact (h.row c hc e).2.1
/-- The columns that have a row. -/
def placesOf (Ls : List (List Int)) : List Nat := (List.range Ls.length).filter fun c => !(Ls.getD c []).isEmpty
theorem rowsOf_places (Ls : List (List Int)) : rowsOf Ls = (placesOf Ls).map fun c => Ls.getD c [] := by
  have h : Ls = (List.range Ls.length).map fun c => Ls.getD c [] := by
    apply List.ext_getElem
    · simp
    · intro i h1 h2
      simp [List.getD_eq_getElem?_getD, List.getElem?_eq_getElem h1]
  unfold rowsOf placesOf
  conv => lhs; rw [h]
  rw [List.filter_map]
  rfl
theorem Bg.isRed {n : Nat} {Ls A : List (List Int)} (h : Bg n Ls A) : IsRed n A (rowsOf Ls) := by
  have hz : (placesOf Ls).zip ((rowsOf Ls).map vec) = (placesOf Ls).map fun c => (c, vec (Ls.getD c [])) := by
    rw [rowsOf_places, List.map_map, ← List.map_prod_left_eq_zip]
    rfl
  have hm : ∀ {p : Nat} {x : L.V}, (p, x) ∈ (placesOf Ls).map (fun c => (c, vec (Ls.getD c []))) → p < n ∧ Ls.getD p [] ≠ [] ∧ x = vec (Ls.getD p []) := fun hp => by
    obtain ⟨c, hc, he⟩ := List.mem_map.1 hp
    cases he
    unfold placesOf at hc
    rw [List.mem_filter, List.mem_range, h.len] at hc
    exact ⟨hc.1, by simpa using hc.2, rfl⟩
  refine ⟨fun r hr => ?_, placesOf Ls, by rw [rowsOf_places, List.length_map], ?_, ?_⟩
  · obtain ⟨c, hc, h1, rfl⟩ := mem_rowsOf.1 hr
    rw [h.len] at hc
    exact ⟨(h.row c hc h1).1, (h.row c hc h1).2.1⟩
  · rw [hz]
    refine ⟨?_, fun p x hp => ?_, fun p x hp k hk => ?_, fun p x q y hp hq hne => ?_⟩
    · rw [List.pairwise_map]
      exact List.Pairwise.filter _ (List.pairwise_lt_range (n := Ls.length))
    · obtain ⟨h1, h2, rfl⟩ := hm hp
      show fb _ = _
      rw [(h.row p h1 h2).2.2.1, fb_one]
    · obtain ⟨h1, h2, rfl⟩ := hm hp
      show fb _ = _
      rw [(h.row p h1 h2).2.2.2 k hk, fb_zero]
    · obtain ⟨h1, h2, rfl⟩ := hm hp
      obtain ⟨h3, h4, rfl⟩ := hm hq
      show fb _ = _
      rw [h.apart q p h3 h1 h4 h2 (fun e => hne e.symm), fb_zero]
  · rw [hz]
    have : L.rows ((placesOf Ls).map fun c => (c, vec (Ls.getD c []))) = (rowsOf Ls).map vec := by
      unfold L.rows
      rw [List.map_map, rowsOf_places, List.map_map]
      rfl
    rw [this]
    exact h.same
/-- What is left of x when the first k columns were looked at. -/
structure Rs (n : Nat) (Ls A : List (List Int)) (x : List Int) (k : Nat) (y : List Int) : Prop where
  len : y.length = n
  byt : ∀ z ∈ y, Byt z
  sp : ∃ e, L.Sp (A.map vec) e ∧ vec y = L.vadd (vec x) e
  zero : ∀ c, c < k → Ls.getD c [] ≠ [] → y.getD c 0 = 0
theorem L.Sp.none (A : List L.V) : L.Sp A L.vzero := L.Sp.zero
theorem Rs.start {n : Nat} {Ls A : List (List Int)} {x : List Int} (hl : x.length = n) (hb : ∀ z ∈ x, Byt z) : Rs n Ls A x 0 x :=
  ⟨hl, hb, ⟨L.vzero, L.Sp.none _, (L.vadd_zero _).symm⟩, fun c hc => by omega⟩
theorem Rs.skip {n k : Nat} {Ls A : List (List Int)} {x y : List Int} (h : Rs n Ls A x k y) (h0 : Ls.getD k [] ≠ [] → y.getD k 0 = 0) : Rs n Ls A x (k + 1) y :=
  ⟨h.len, h.byt, h.sp, fun c hc hn => by
    by_cases e : c = k
    · subst e
      exact h0 hn
    · exact h.zero c (by omega) hn⟩
theorem axL_bytes {c : Int} {x y : List Int} (hy : ∀ z ∈ y, Byt z) : ∀ z ∈ axL c x y, Byt z := by
  unfold axL
  exact lst_byt fun i _ => addZ_byt (getD_byt hy i) (mulZ_byt _ _)
theorem Rs.step {n k : Nat} {Ls A : List (List Int)} {x y : List Int} (hB : Bg n Ls A) (h : Rs n Ls A x k y) (hk : k < n) (hr : Ls.getD k [] ≠ []) : Rs n Ls A x (k + 1) (axL (y.getD k 0) (Ls.getD k []) y) := by
  obtain ⟨r1, r2, r3, r4⟩ := hB.row k hk hr
  have hbk := getD_byt h.byt k
  refine ⟨by rw [axL_length, r1], axL_bytes h.byt, ?_, fun c hc hn => ?_⟩
  · obtain ⟨e, he, hv⟩ := h.sp
    refine ⟨L.vadd e (L.smul (fb (y.getD k 0)) (vec (Ls.getD k []))), L.Sp.add he (L.Sp.smul _ ((hB.same _).1 (L.Sp.mem (List.mem_map.2 ⟨_, mem_rowsOf.2 ⟨k, by rw [hB.len]; exact hk, hr, rfl⟩, rfl⟩)))), ?_⟩
    rw [vec_ax hbk r2 h.byt (by rw [r1, h.len]), hv, L.vadd_assoc]
  · rw [axL_getD _ _ _ _ (by rw [r1]; omega)]
    by_cases e : c = k
    · subst e
      rw [r3, mulZ_one _ hbk, addZ_self]
    · rw [hB.apart c k (by omega) hk hn hr e, mulZ_zero, addZ_zero _ (getD_byt h.byt c)]
      exact h.zero c (by omega) hn
theorem leadL_spec : ∀ (l : List Int) (k : Nat), leadL l = k → k < l.length ∧ l.getD k 0 ≠ 0 ∧ ∀ j, j < k → l.getD j 0 = 0
  | [], k, h => by
    simp [leadL] at h
  | a :: l, k, h => by
    have hg := leadL_ge l
    unfold leadL at h
    by_cases ha : a = 0
    · rw [if_pos ha] at h
      by_cases hl : leadL l = -1
      · rw [if_pos hl] at h
        omega
      · rw [if_neg hl] at h
        obtain ⟨h1, h2, h3⟩ := leadL_spec l (k - 1) (by omega)
        obtain ⟨m, rfl⟩ : ∃ m, k = m + 1 := ⟨k - 1, by omega⟩
        refine ⟨by simp at h1 ⊢; omega, by simpa using h2, fun j hj => ?_⟩
        cases j with
        | zero => simpa using ha
        | succ j => simpa using h3 j (by simpa using hj)
    · rw [if_neg ha] at h
      obtain rfl : k = 0 := by omega
      exact ⟨by simp, by simpa using ha, fun j hj => by omega⟩
theorem Bg.lead {n : Nat} {Ls A : List (List Int)} (h : Bg n Ls A) {c : Nat} (hc : c < n) (hr : Ls.getD c [] ≠ []) : leadL (Ls.getD c []) = c := by
  obtain ⟨h1, _, h3, h4⟩ := h.row c hc hr
  exact leadL_at _ _ (by omega) h4 (by rw [h3]; omega)
theorem Rs.rest {n : Nat} {Ls A : List (List Int)} {x y : List Int} (hB : Bg n Ls A) (h : Rs n Ls A x n y) : IsRest n A x y := by
  refine ⟨h.len, h.byt, h.sp, fun R hR r hr => ?_⟩
  obtain rfl : R = rowsOf Ls := IsRed.unique hR hB.isRed
  obtain ⟨c, hc, h1, rfl⟩ := mem_rowsOf.1 hr
  rw [hB.len] at hc
  rw [hB.lead hc h1]
  exact h.zero c hc h1
/-- A row of which column p is made 0 with r, which has a 1 there. -/
def swept (p : Nat) (r l : List Int) : List Int := if l.getD p 0 = 0 then l else axL (l.getD p 0) r l
theorem swept_none (p : Nat) (r : List Int) : swept p r [] = [] := by simp [swept]
theorem swept_length {p : Nat} {r l : List Int} (h : r.length = l.length) : (swept p r l).length = l.length := by
  unfold swept
  split
  · rfl
  · rw [axL_length, h]
theorem swept_byt {p : Nat} {r l : List Int} (hl : ∀ z ∈ l, Byt z) : ∀ z ∈ swept p r l, Byt z := by
  unfold swept
  split
  · exact hl
  · exact axL_bytes hl
theorem swept_getD {p : Nat} {r l : List Int} (h : r.length = l.length) (hb : ∀ z ∈ l, Byt z) (i : Nat) (hi : i < l.length) : (swept p r l).getD i 0 = addZ (l.getD i 0) (mulZ (l.getD p 0) (r.getD i 0)) := by
  unfold swept
  split
  · rename_i e
    rw [e, mulZ_comm, mulZ_zero, addZ_zero _ (getD_byt hb i)]
  · rw [axL_getD _ _ _ _ (by omega)]
theorem vec_swept {p : Nat} {r l : List Int} (h : r.length = l.length) (hr : ∀ z ∈ r, Byt z) (hb : ∀ z ∈ l, Byt z) : vec (swept p r l) = L.vadd (vec l) (L.smul (fb (l.getD p 0)) (vec r)) := by
  unfold swept
  split
  · rename_i e
    rw [e, fb_zero, L.zero_smul, L.vadd_zero]
  · rw [vec_ax (getD_byt hb p) hr hb h]
/-- The places when a row that begins with a 1 in column p was put in. -/
def putIn (Ls : List (List Int)) (p : Nat) (r : List Int) : List (List Int) := (Ls.map (swept p r)).set p r
theorem putIn_getD {Ls : List (List Int)} {p : Nat} {r : List Int} (hp : p < Ls.length) (c : Nat) : (putIn Ls p r).getD c [] = if c = p then r else swept p r (Ls.getD c []) := by
  unfold putIn
  rw [List.getD_eq_getElem?_getD, List.getElem?_set]
  by_cases e : c = p
  · subst e
    rw [if_pos rfl, if_pos rfl, if_pos (by simpa using hp)]
    rfl
  · rw [if_neg (fun e' => e e'.symm), if_neg e, List.getElem?_map, List.getD_eq_getElem?_getD]
    cases Ls[c]? with
    | none => exact (swept_none p r).symm
    | some l => rfl
theorem Bg.put {n p : Nat} {Ls A : List (List Int)} {x y : List Int} (hB : Bg n Ls A) (hx : Rs n Ls A x n y) (hp : leadL y = p) : Bg n (putIn Ls p (scaleL (invZ (y.getD p 0)) y)) (A ++ [x]) ∧ ¬ L.Sp (A.map vec) (vec x) := by
  obtain ⟨p1, p2, p3⟩ := leadL_spec y p hp
  rw [hx.len] at p1
  have hbp := getD_byt hx.byt p
  obtain ⟨r, hr⟩ : ∃ r, scaleL (invZ (y.getD p 0)) y = r := ⟨_, rfl⟩
  have rl : r.length = n := by rw [← hr, scaleL_length, hx.len]
  have rb : ∀ z ∈ r, Byt z := by
    rw [← hr]
    unfold scaleL
    exact lst_byt fun i _ => mulZ_byt _ _
  have rg : ∀ i, i < n → r.getD i 0 = mulZ (invZ (y.getD p 0)) (y.getD i 0) := fun i hi => by
    rw [← hr]
    unfold scaleL
    exact lst_getD _ _ _ (by rw [hx.len]; exact hi)
  have r1 : r.getD p 0 = 1 := by rw [rg p p1, mulZ_comm, mulZ_inv _ hbp p2]
  have r0 : ∀ t, t < p → r.getD t 0 = 0 := fun t ht => by rw [rg t (by omega), p3 t ht, mulZ_zero]
  have rz : ∀ c, c < n → Ls.getD c [] ≠ [] → r.getD c 0 = 0 := fun c hc h => by rw [rg c hc, hx.zero c hc h, mulZ_zero]
  have hnone : Ls.getD p [] = [] := by
    apply Classical.byContradiction
    intro c
    exact p2 (hx.zero p p1 c)
  have hrv : vec r = L.smul (fb (invZ (y.getD p 0))) (vec y) := by rw [← hr, vec_scale (invZ_byt _) hx.byt]
  have hyv : vec y = L.smul (fb (y.getD p 0)) (vec r) := by
    rw [hrv, L.smul_smul, ← fb_mul hbp (invZ_byt _), mulZ_inv _ hbp p2, fb_one, L.one_smul]
  rw [hr]
  have hnew : r ≠ [] := fun e => by rw [e] at rl; simp at rl; omega
  have back : ∀ c, c < n → (putIn Ls p r).getD c [] ≠ [] → c = p ∨ c ≠ p ∧ Ls.getD c [] ≠ [] ∧ (Ls.getD c []).length = n := fun c hc h => by
    by_cases e : c = p
    · exact .inl e
    · rw [putIn_getD (by rw [hB.len]; exact p1), if_neg e] at h
      have h2 : Ls.getD c [] ≠ [] := fun e' => h (by rw [e', swept_none])
      exact .inr ⟨e, h2, (hB.row c hc h2).1⟩
  have gp : (putIn Ls p r).getD p [] = r := by rw [putIn_getD (by rw [hB.len]; exact p1), if_pos rfl]
  have gc : ∀ c, c ≠ p → (putIn Ls p r).getD c [] = swept p r (Ls.getD c []) := fun c e => by rw [putIn_getD (by rw [hB.len]; exact p1), if_neg e]
  refine ⟨⟨by simp [putIn, hB.len], fun c hc h => ?_, fun c d hc hd h h' hne => ?_, ?_⟩, fun hsp => ?_⟩
  · rcases back c hc h with rfl | ⟨e, h2, h3⟩
    · rw [gp]
      exact ⟨rl, rb, r1, r0⟩
    · obtain ⟨q1, q2, q3, q4⟩ := hB.row c hc h2
      rw [gc c e]
      refine ⟨by rw [swept_length (by rw [rl, h3]), h3], swept_byt q2, ?_, fun t ht => ?_⟩
      · rw [swept_getD (by rw [rl, h3]) q2 c (by rw [h3]; exact hc), q3, rz c hc h2, mulZ_zero, addZ_zero _ (by unfold Byt; omega)]
      · rw [swept_getD (by rw [rl, h3]) q2 t (by rw [h3]; omega), q4 t ht]
        by_cases hcp : c < p
        · rw [r0 t (by omega), mulZ_zero, addZ_zero _ (by unfold Byt; omega)]
        · rw [q4 p (by omega), mulZ_comm, mulZ_zero, addZ_zero _ (by unfold Byt; omega)]
  · rcases back c hc h with rfl | ⟨e, h2, h3⟩
    · rcases back d hd h' with rfl | ⟨e', h2', h3'⟩
      · exact absurd rfl hne
      · rw [gc d e', swept_getD (by rw [rl, h3']) (hB.row d hd h2').2.1 c (by rw [h3']; exact hc), r1, mulZ_one _ (getD_byt (hB.row d hd h2').2.1 c), addZ_self]
    · rcases back d hd h' with rfl | ⟨e', h2', h3'⟩
      · rw [gp]
        exact rz c hc h2
      · rw [gc d e', swept_getD (by rw [rl, h3']) (hB.row d hd h2').2.1 c (by rw [h3']; exact hc), rz c hc h2, mulZ_zero, hB.apart c d hc hd h2 h2' hne, addZ_zero _ (by unfold Byt; omega)]
  · obtain ⟨e, he, hv⟩ := hx.sp
    have mr : r ∈ rowsOf (putIn Ls p r) := mem_rowsOf.2 ⟨p, by simp [putIn, hB.len]; exact p1, by rw [gp]; exact hnew, gp.symm⟩
    have S1 : ∀ v, L.Sp ((rowsOf Ls).map vec) v → L.Sp ((rowsOf (putIn Ls p r)).map vec) v := fun v hv' => L.Sp.trans (fun z hz => by
      obtain ⟨l, hl, rfl⟩ := List.mem_map.1 hz
      obtain ⟨c, hc, h1, rfl⟩ := mem_rowsOf.1 hl
      rw [hB.len] at hc
      have hcp : c ≠ p := fun e' => h1 (by rw [e', hnone])
      obtain ⟨q1, q2, _, _⟩ := hB.row c hc h1
      have hm : swept p r (Ls.getD c []) ∈ rowsOf (putIn Ls p r) := mem_rowsOf.2 ⟨c, by simp [putIn, hB.len]; exact hc, by
        rw [gc c hcp]
        intro e'
        have := swept_length (p := p) (r := r) (l := Ls.getD c []) (by rw [rl, q1])
        rw [e', q1] at this
        simp at this
        omega, (gc c hcp).symm⟩
      have m1 : L.Sp ((rowsOf (putIn Ls p r)).map vec) (vec (swept p r (Ls.getD c []))) := L.Sp.mem (List.mem_map.2 ⟨_, hm, rfl⟩)
      have m2 : L.Sp ((rowsOf (putIn Ls p r)).map vec) (vec r) := L.Sp.mem (List.mem_map.2 ⟨_, mr, rfl⟩)
      have h2 := L.Sp.add m1 (L.Sp.smul (fb ((Ls.getD c []).getD p 0)) m2)
      rw [vec_swept (by rw [rl, q1]) rb q2, L.vadd_assoc, L.vadd_self, L.vadd_zero] at h2
      exact h2) hv'
    refine L.Same.of (fun z hz => ?_) (fun z hz => ?_)
    · have hA : ∀ v, L.Sp (A.map vec) v → L.Sp ((A ++ [x]).map vec) v := fun v hv' => L.Sp.mono (fun q hq => by rw [List.map_append]; exact List.mem_append_left _ hq) hv'
      have hsr : L.Sp ((A ++ [x]).map vec) (vec r) := by
        rw [hrv, hv]
        refine L.Sp.smul _ (L.Sp.add (L.Sp.mem (by simp)) (hA _ he))
      obtain ⟨l, hl, rfl⟩ := List.mem_map.1 hz
      obtain ⟨c, hc, h1, rfl⟩ := mem_rowsOf.1 hl
      have hc' : c < n := by simpa [putIn, hB.len] using hc
      rcases back c hc' h1 with rfl | ⟨e', h2, h3⟩
      · rw [gp]
        exact hsr
      · obtain ⟨q1, q2, _, _⟩ := hB.row c hc' h2
        rw [gc c e', vec_swept (by rw [rl, q1]) rb q2]
        exact L.Sp.add (hA _ ((hB.same _).1 (L.Sp.mem (List.mem_map.2 ⟨_, mem_rowsOf.2 ⟨c, by rw [hB.len]; exact hc', h2, rfl⟩, rfl⟩)))) (L.Sp.smul _ hsr)
    · rw [List.map_append, List.mem_append] at hz
      rcases hz with hz | hz
      · exact S1 _ ((hB.same _).2 (L.Sp.mem hz))
      · simp at hz
        subst hz
        have h3 : vec x = L.vadd (vec y) e := by rw [hv, L.vadd_assoc, L.vadd_self, L.vadd_zero]
        rw [h3, hyv]
        exact L.Sp.add (L.Sp.smul _ (L.Sp.mem (List.mem_map.2 ⟨_, mr, rfl⟩))) (S1 _ ((hB.same _).2 he))
  · have h1 := ((Rs.rest hB hx).spans hB.isRed).2 hsp
    rw [hp] at h1
    omega
/-- A row that is spanned changes nothing. -/
theorem Bg.none {n : Nat} {Ls A : List (List Int)} {x y : List Int} (hB : Bg n Ls A) (hx : Rs n Ls A x n y) (hp : leadL y < 0) : Bg n Ls (A ++ [x]) ∧ L.Sp (A.map vec) (vec x) := by
  have h1 := ((Rs.rest hB hx).spans hB.isRed).1 hp
  refine ⟨⟨hB.len, hB.row, hB.apart, L.Same.trans hB.same (L.Same.of (fun z hz => L.Sp.mem (by rw [List.map_append]; exact List.mem_append_left _ hz)) (fun z hz => ?_))⟩, h1⟩
  rw [List.map_append, List.mem_append] at hz
  rcases hz with hz | hz
  · exact L.Sp.mem hz
  · simp at hz
    subst hz
    exact h1
end Go.Proofs.Ytmeojdnalhaooaa
