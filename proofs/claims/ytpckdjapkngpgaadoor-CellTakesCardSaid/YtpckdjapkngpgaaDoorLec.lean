/-
  Plain linear algebra over the field of 256 elements, continued: to reduce rows column by column. No condition.
-/
import Derived.Test.YtpckdjapkngpgaaDoorLim
namespace Go.Proofs.YtpckdjapkngpgaaDoor.L

/-- X is what A has become behind col columns; ps: where its first rows begin. -/
structure Ech (A X : List V) (ps : List Nat) (c : Nat) : Prop where
  same : Same X A
  psort : ps.Pairwise (· < ·)
  plt : ∀ p ∈ ps, p < c
  lead : ∀ t p, ps[t]? = some p → rowAt X t p = one
  ahead : ∀ t p, ps[t]? = some p → ∀ j, j < p → rowAt X t j = zero
  apart : ∀ t p, ps[t]? = some p → ∀ s, s ≠ t → rowAt X s p = zero
  rest : ∀ s, ps.length ≤ s → ∀ j, j < c → rowAt X s j = zero
  le : ps.length ≤ X.length
theorem Ech.start (A : List V) : Ech A A [] 0 :=
  ⟨Same.refl A, List.Pairwise.nil, by simp, by simp, by simp, by simp, fun _ _ j hj => absurd hj (Nat.not_lt_zero _), Nat.zero_le _⟩
/-- Nothing is found. -/
theorem Ech.skip {A X : List V} {ps : List Nat} {c : Nat} (h : Ech A X ps c) (h0 : ∀ s, ps.length ≤ s → rowAt X s c = zero) : Ech A X ps (c + 1) :=
  ⟨h.same, h.psort, fun p hp => Nat.lt_succ_of_lt (h.plt p hp), h.lead, h.ahead, h.apart, fun s hs j hj => by
    rcases Nat.lt_succ_iff_lt_or_eq.1 hj with e | rfl
    · exact h.rest s hs j e
    · exact h0 s hs, h.le⟩
theorem rowAt_set (X : List V) (i : Nat) (v : V) (s : Nat) : rowAt (X.set i v) s = if i = s ∧ s < X.length then v else rowAt X s := by
  unfold rowAt
  rw [List.getElem?_set]
  by_cases e : i = s
  · subst e
    by_cases h : i < X.length
    · simp [h]
    · simp [h]
  · simp [e]
theorem mem_rowAt {X : List V} {x : V} (h : x ∈ X) : ∃ i, i < X.length ∧ rowAt X i = x := by
  obtain ⟨i, hi, rfl⟩ := List.getElem_of_mem h
  exact ⟨i, hi, by unfold rowAt; rw [List.getElem?_eq_getElem hi]; rfl⟩
theorem Sp.rowAt (X : List V) (i : Nat) : Sp X (L.rowAt X i) := by
  by_cases h : i < X.length
  · exact Sp.mem (rowAt_mem h)
  · rw [rowAt_out (by omega)]
    exact Sp.zero
theorem lt_ps {ps : List Nat} {t p : Nat} (h : ps[t]? = some p) : t < ps.length := (List.getElem?_eq_some_iff.1 h).1
/-- Two rows behind the first ones change places. -/
theorem Ech.swap {A X : List V} {ps : List Nat} {c a d : Nat} (h : Ech A X ps c) (ha : ps.length ≤ a) (ha2 : a < X.length) (hd : ps.length ≤ d) (hd2 : d < X.length) :
    Ech A ((X.set a (rowAt X d)).set d (rowAt X a)) ps c := by
  have key : ∀ s, ∃ s', rowAt ((X.set a (rowAt X d)).set d (rowAt X a)) s = rowAt X s' ∧ (s < ps.length → s' = s) ∧ (ps.length ≤ s → ps.length ≤ s') := by
    intro s
    rw [rowAt_set, rowAt_set, List.length_set]
    by_cases e : d = s ∧ s < X.length
    · rw [if_pos e]
      exact ⟨a, rfl, fun c => by omega, fun _ => ha⟩
    · rw [if_neg e]
      by_cases e2 : a = s ∧ s < X.length
      · rw [if_pos e2]
        exact ⟨d, rfl, fun c => by omega, fun _ => hd⟩
      · rw [if_neg e2]
        exact ⟨s, rfl, fun _ => rfl, fun h => h⟩
  have hsame : Same ((X.set a (rowAt X d)).set d (rowAt X a)) X := by
    refine Same.of (fun x hx => ?_) fun x hx => ?_
    · obtain ⟨s, -, rfl⟩ := mem_rowAt hx
      obtain ⟨s', e, -⟩ := key s
      rw [e]
      exact Sp.rowAt X s'
    · obtain ⟨s, hs, rfl⟩ := mem_rowAt hx
      by_cases e : s = a
      · subst e
        have := Sp.rowAt ((X.set s (rowAt X d)).set d (rowAt X s)) d
        rwa [rowAt_set, List.length_set, if_pos ⟨rfl, hd2⟩] at this
      · by_cases e2 : s = d
        · subst e2
          have := Sp.rowAt ((X.set a (rowAt X s)).set s (rowAt X a)) a
          rw [rowAt_set, List.length_set, if_neg (fun c => e c.1), rowAt_set, if_pos ⟨rfl, ha2⟩] at this
          exact this
        · have := Sp.rowAt ((X.set a (rowAt X d)).set d (rowAt X a)) s
          rw [rowAt_set, List.length_set, if_neg (fun c => e2 c.1.symm), rowAt_set, if_neg (fun c => e c.1.symm)] at this
          exact this
  refine ⟨hsame.trans h.same, h.psort, h.plt, fun t p hp => ?_, fun t p hp j hj => ?_, fun t p hp s hs => ?_, fun s hs j hj => ?_, by simp; exact h.le⟩
  · obtain ⟨s', e, h1, -⟩ := key t
    rw [e, h1 (lt_ps hp)]
    exact h.lead t p hp
  · obtain ⟨s', e, h1, -⟩ := key t
    rw [e, h1 (lt_ps hp)]
    exact h.ahead t p hp j hj
  · obtain ⟨s', e, h1, h2⟩ := key s
    rw [e]
    refine h.apart t p hp s' fun c => ?_
    have := lt_ps hp
    by_cases c2 : s < ps.length
    · rw [h1 c2] at c
      exact hs c
    · have := h2 (by omega)
      omega
  · obtain ⟨s', e, -, h2⟩ := key s
    rw [e]
    exact h.rest s' (h2 hs) j hj
/-- One row, times what is not 0. -/
theorem Ech.scale {A X : List V} {ps : List Nat} {c d : Nat} {k : Fb} (h : Ech A X ps c) (hd : ps.length ≤ d) (hd2 : d < X.length) (hk : k ≠ zero) :
    Ech A (X.set d (smul k (rowAt X d))) ps c := by
  have other : ∀ s, s ≠ d → rowAt (X.set d (smul k (rowAt X d))) s = rowAt X s := fun s hs => by rw [rowAt_set, if_neg (fun c => hs c.1.symm)]
  have this' : rowAt (X.set d (smul k (rowAt X d))) d = smul k (rowAt X d) := by rw [rowAt_set, if_pos ⟨rfl, hd2⟩]
  have zero_at : ∀ s j, rowAt X s j = zero → rowAt (X.set d (smul k (rowAt X d))) s j = zero := by
    intro s j h0
    by_cases e : s = d
    · subst e
      rw [this']
      show mul k (rowAt X s j) = zero
      rw [h0, mul_zero]
    · rw [other s e, h0]
  have hsame : Same (X.set d (smul k (rowAt X d))) X := by
    refine Same.of (fun x hx => ?_) fun x hx => ?_
    · obtain ⟨s, -, rfl⟩ := mem_rowAt hx
      by_cases e : s = d
      · subst e
        rw [this']
        exact Sp.smul k (Sp.rowAt X s)
      · rw [other s e]
        exact Sp.rowAt X s
    · obtain ⟨s, hs, rfl⟩ := mem_rowAt hx
      by_cases e : s = d
      · subst e
        have := Sp.smul (inv k) (Sp.rowAt (X.set s (smul k (rowAt X s))) s)
        rwa [this', smul_smul, inv_mul k hk, one_smul] at this
      · have := Sp.rowAt (X.set d (smul k (rowAt X d))) s
        rwa [other s e] at this
  refine ⟨hsame.trans h.same, h.psort, h.plt, fun t p hp => ?_, fun t p hp j hj => zero_at _ _ (h.ahead t p hp j hj), fun t p hp s hs => zero_at _ _ (h.apart t p hp s hs), fun s hs j hj => zero_at _ _ (h.rest s hs j hj), by simp; exact h.le⟩
  rw [other t (by have := lt_ps hp; omega)]
  exact h.lead t p hp
/-- One row, plus another one that begins behind, times something. -/
theorem Ech.add {A X : List V} {ps : List Nat} {c d i : Nat} {k : Fb} (h : Ech A X ps c) (hd : ps.length ≤ d) (hi : i ≠ d) (hi2 : i < X.length) :
    Ech A (X.set i (vadd (rowAt X i) (smul k (rowAt X d)))) ps c := by
  have other : ∀ s, s ≠ i → rowAt (X.set i (vadd (rowAt X i) (smul k (rowAt X d)))) s = rowAt X s := fun s hs => by rw [rowAt_set, if_neg (fun c => hs c.1.symm)]
  have this' : rowAt (X.set i (vadd (rowAt X i) (smul k (rowAt X d)))) i = vadd (rowAt X i) (smul k (rowAt X d)) := by rw [rowAt_set, if_pos ⟨rfl, hi2⟩]
  have as_was : ∀ s j, rowAt X d j = zero → rowAt (X.set i (vadd (rowAt X i) (smul k (rowAt X d)))) s j = rowAt X s j := by
    intro s j h0
    by_cases e : s = i
    · subst e
      rw [this']
      show L.add (rowAt X s j) (mul k (rowAt X d j)) = _
      rw [h0, mul_zero, add_zero]
    · rw [other s e]
  have hsame : Same (X.set i (vadd (rowAt X i) (smul k (rowAt X d)))) X := by
    refine Same.of (fun x hx => ?_) fun x hx => ?_
    · obtain ⟨s, -, rfl⟩ := mem_rowAt hx
      by_cases e : s = i
      · subst e
        rw [this']
        exact Sp.add (Sp.rowAt X s) (Sp.smul k (Sp.rowAt X d))
      · rw [other s e]
        exact Sp.rowAt X s
    · obtain ⟨s, hs, rfl⟩ := mem_rowAt hx
      by_cases e : s = i
      · subst e
        have h1 := Sp.rowAt (X.set s (vadd (rowAt X s) (smul k (rowAt X d)))) s
        have h2 := Sp.smul k (Sp.rowAt (X.set s (vadd (rowAt X s) (smul k (rowAt X d)))) d)
        rw [this'] at h1
        rw [other d (fun c => hi c.symm)] at h2
        have := Sp.add h1 h2
        rwa [vadd_assoc, vadd_self, vadd_zero] at this
      · have := Sp.rowAt (X.set i (vadd (rowAt X i) (smul k (rowAt X d)))) s
        rwa [other s e] at this
  have dz : ∀ t p, ps[t]? = some p → rowAt X d p = zero := fun t p hp => h.apart t p hp d (by have := lt_ps hp; omega)
  refine ⟨hsame.trans h.same, h.psort, h.plt, fun t p hp => ?_, fun t p hp j hj => ?_, fun t p hp s hs => ?_, fun s hs j hj => ?_, by simp; exact h.le⟩
  · rw [as_was t p (dz t p hp)]
    exact h.lead t p hp
  · have hpc := h.plt p (List.mem_of_getElem? hp)
    rw [as_was t j (h.rest d hd j (by omega))]
    exact h.ahead t p hp j hj
  · rw [as_was s p (dz t p hp)]
    exact h.apart t p hp s hs
  · rw [as_was s j (h.rest d hd j hj)]
    exact h.rest s hs j hj
/-- The column is done. -/
theorem Ech.next {A X : List V} {ps : List Nat} {c : Nat} (h : Ech A X ps c) (hl : ps.length < X.length) (h1 : rowAt X ps.length c = one) (h0 : ∀ s, s ≠ ps.length → rowAt X s c = zero) : Ech A X (ps ++ [c]) (c + 1) := by
  have get : ∀ t p, (ps ++ [c])[t]? = some p → ps[t]? = some p ∨ (t = ps.length ∧ p = c) := by
    intro t p hp
    by_cases e : t < ps.length
    · rw [List.getElem?_append_left e] at hp
      exact .inl hp
    · rw [List.getElem?_append_right (by omega)] at hp
      by_cases e2 : t = ps.length
      · subst e2
        simp at hp
        exact .inr ⟨rfl, hp.symm⟩
      · rw [List.getElem?_eq_none (by simp; omega)] at hp
        cases hp
  refine ⟨h.same, ?_, ?_, fun t p hp => ?_, fun t p hp j hj => ?_, fun t p hp s hs => ?_, fun s hs j hj => ?_, by simp; omega⟩
  · rw [List.pairwise_append]
    exact ⟨h.psort, by simp, fun a ha b hb => by simp at hb; subst hb; exact h.plt a ha⟩
  · intro p hp
    rcases List.mem_append.1 hp with hp | hp
    · exact Nat.lt_succ_of_lt (h.plt p hp)
    · simp at hp
      omega
  · rcases get t p hp with hp | ⟨rfl, rfl⟩
    · exact h.lead t p hp
    · exact h1
  · rcases get t p hp with hp | ⟨rfl, rfl⟩
    · exact h.ahead t p hp j hj
    · exact h.rest _ (Nat.le_refl _) j hj
  · rcases get t p hp with hp | ⟨rfl, rfl⟩
    · exact h.apart t p hp s hs
    · exact h0 s hs
  · rw [List.length_append, List.length_singleton] at hs
    rcases Nat.lt_succ_iff_lt_or_eq.1 hj with e | rfl
    · exact h.rest s (by omega) j e
    · exact h0 s (by omega)
/-- Behind the last column: the first rows are what A is reduced to. -/
theorem Ech.done {A X : List V} {ps : List Nat} {c : Nat} (h : Ech A X ps c) (hs : ∀ x ∈ X, Supp c x) : Red A (ps.zip (X.take ps.length)) ∧ rows (ps.zip (X.take ps.length)) = X.take ps.length := by
  have hlen : (X.take ps.length).length = ps.length := by rw [List.length_take]; have := h.le; omega
  have hrows : rows (ps.zip (X.take ps.length)) = X.take ps.length := by
    unfold rows
    exact List.map_snd_zip (by rw [hlen]; exact Nat.le_refl _)
  have get : ∀ p x, (p, x) ∈ ps.zip (X.take ps.length) → ∃ t, ps[t]? = some p ∧ rowAt X t = x := by
    intro p x hm
    obtain ⟨t, ht⟩ := List.getElem?_of_mem hm
    rw [List.getElem?_zip_eq_some] at ht
    refine ⟨t, ht.1, ?_⟩
    have hx := ht.2
    rw [List.getElem?_take_of_lt (lt_ps ht.1)] at hx
    unfold rowAt
    rw [hx]
    rfl
  have zrow : ∀ s, ps.length ≤ s → rowAt X s = vzero := by
    intro s hs'
    funext j
    by_cases e : j < c
    · exact h.rest s hs' j e
    · by_cases e2 : s < X.length
      · exact hs _ (rowAt_mem e2) j (by omega)
      · rw [rowAt_out (by omega)]
  refine ⟨⟨⟨?_, fun p x hm => ?_, fun p x hm k hk => ?_, fun p x q y hm hm' hne => ?_⟩, ?_⟩, hrows⟩
  · have : ((ps.zip (X.take ps.length)).map (·.1)).Pairwise (· < ·) := by
      rw [List.map_fst_zip (by rw [hlen]; exact Nat.le_refl _)]
      exact h.psort
    exact List.pairwise_map.1 this
  · obtain ⟨t, hp, rfl⟩ := get p x hm
    exact h.lead t p hp
  · obtain ⟨t, hp, rfl⟩ := get p x hm
    exact h.ahead t p hp k hk
  · obtain ⟨t, hp, rfl⟩ := get p x hm
    obtain ⟨t', hq, rfl⟩ := get q y hm'
    refine h.apart t' q hq t fun e => hne ?_
    subst e
    rw [hp] at hq
    exact Option.some.inj hq
  · rw [hrows]
    refine Same.trans (Same.of (fun x hx => Sp.mem (List.mem_of_mem_take hx)) fun x hx => ?_) h.same
    obtain ⟨s, hs', rfl⟩ := mem_rowAt hx
    by_cases e : s < ps.length
    · refine Sp.mem ?_
      have : (X.take ps.length)[s]? = some (rowAt X s) := by
        rw [List.getElem?_take_of_lt e]
        unfold rowAt
        rw [List.getElem?_eq_getElem hs']
        rfl
      exact List.mem_of_getElem? this
    · rw [zrow s (by omega)]
      exact Sp.zero
end Go.Proofs.YtpckdjapkngpgaaDoor.L
