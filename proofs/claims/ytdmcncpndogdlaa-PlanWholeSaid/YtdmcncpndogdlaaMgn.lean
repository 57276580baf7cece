/-
  Texts laid behind one another: If Mz.
-/
import Derived.Test.YtdmcncpndogdlaaMgl
import Derived.Maps.Own
namespace Go.Proofs.Ytdmcncpndogdlaa
open Go.RowKit

namespace PN
theorem openL_set_nil {dn : List Bool} {c : List Int} {x : Nat} (hx : x < dn.length) (h : openL dn c = []) : openL (dn.set x true) c = [] := by
  unfold openL at *
  rw [List.filter_eq_nil_iff] at *
  intro y hy
  have := h y hy
  by_cases e : y.toNat = x
  · rw [e, getD_set_selfT hx]; simp
  · rw [getD_set_neT (by omega)]; exact this
theorem openL_set_one {dn : List Bool} {c : List Int} {x : Int} (hx : x.toNat < dn.length) (h : openL dn c = [x]) : openL (dn.set x.toNat true) c = [] := by
  have hm : ∀ y ∈ c, dn.getD y.toNat false = false → y = x := fun y hy hd => by
    have : y ∈ openL dn c := openL_mem.2 ⟨hy, hd⟩
    rw [h] at this
    exact List.mem_singleton.1 this
  unfold openL
  rw [List.filter_eq_nil_iff]
  intro y hy
  by_cases e : y.toNat = x.toNat
  · rw [e, getD_set_selfT hx]; simp
  · rw [getD_set_neT (by omega)]
    cases hd : dn.getD y.toNat false with
    | true => simp
    | false => exact absurd (by rw [hm y hy hd]) e
/-- What holds of each state: which columns are done, which rows are used. -/
structure Facts (n : Nat) (R : List (List Int)) (s : St) : Prop where
  used : ∀ i, i < R.length → s.us.getD i false = true → openL s.dn (R.getD i []) = []
  rest : unkN s.us R.length + s.steps.length = R.length
  done : ∀ x : Nat, x < n → (s.dn.getD x false = true ↔ ((x : Int) ∈ s.dead ∨ ∃ p ∈ s.steps, p.2 = (x : Int)))
  row : ∀ i : Nat, i < R.length → (s.us.getD i false = true ↔ ∃ p ∈ s.steps, p.1 = (i : Int))
  once : s.dead.Nodup ∧ (s.steps.map Prod.fst).Nodup ∧ (s.steps.map Prod.snd).Nodup ∧ ∀ x ∈ s.dead, ∀ p ∈ s.steps, p.2 ≠ x
  says : ∀ k, k < s.steps.length → (s.steps.getD k (0, 0)).2 ∈ R.getD (s.steps.getD k (0, 0)).1.toNat [] ∧ ∀ c ∈ R.getD (s.steps.getD k (0, 0)).1.toNat [], c ≠ (s.steps.getD k (0, 0)).2 → c ∈ s.dead ∨ ∃ p ∈ s.steps.take k, p.2 = c
theorem getD_append_lt {α : Type} {a b : List α} {k : Nat} {d : α} (h : k < a.length) : (a ++ b).getD k d = a.getD k d := by
  rw [List.getD_eq_getElem?_getD, List.getD_eq_getElem?_getD, List.getElem?_append_left h]
theorem getD_append_self {α : Type} {a : List α} {x d : α} : (a ++ [x]).getD a.length d = x := by
  rw [List.getD_eq_getElem?_getD, List.getElem?_append_right (Nat.le_refl _)]
  simp
theorem nodup_snoc {α : Type} {a : List α} {x : α} (h : a.Nodup) (hx : x ∉ a) : (a ++ [x]).Nodup := by
  rw [List.nodup_append]
  refine ⟨h, by simp, fun y hy z hz e => ?_⟩
  obtain rfl := List.mem_singleton.1 hz
  exact hx (e ▸ hy)
theorem run_facts {n : Nat} {R : List (List Int)} (hR : ∀ c ∈ R, MayRow n c) : ∀ t, t ≤ n → Facts n R (run n R t)
  | 0, _ => by
    refine ⟨fun i hi h => ?_, ?_, fun x hx => ?_, fun i hi => ?_, ⟨List.nodup_nil, List.nodup_nil, List.nodup_nil, fun x hx => by cases hx⟩, fun k hk => absurd hk (Nat.not_lt_zero _)⟩
    · have h : (List.replicate R.length false).getD i false = true := h
      rw [rep_false] at h
      cases h
    · show unkN (List.replicate R.length false) R.length + 0 = R.length
      rw [unkN_start]
      rfl
    · show (List.replicate n false).getD x false = true ↔ _
      rw [rep_false]
      exact ⟨fun h => (by cases h), fun h => h.elim (fun h => by cases h) fun ⟨p, h, _⟩ => by cases h⟩
    · show (List.replicate R.length false).getD i false = true ↔ _
      rw [rep_false]
      exact ⟨fun h => (by cases h), fun ⟨p, h, _⟩ => by cases h⟩
  | t + 1, ht => by
    have h := run_facts hR t (by omega)
    have hv := run_inv hR t (by omega)
    have hg := run_rng hR t (by omega)
    show Facts n R (next n R (run n R t))
    generalize run n R t = s at *
    cases hf : firstTo s.dn s.us R R.length with
    | some i =>
      rw [next_some hf]
      obtain ⟨a1, a2, _⟩ := (firstTo_spec _ _ R R.length).1 i hf
      obtain ⟨b1, b2, b3, b4, b5⟩ := one_col hR a1 a2
      obtain ⟨x, hx⟩ : ∃ x : Nat, colOf s.dn R i = (x : Int) := ⟨(colOf s.dn R i).toNat, by omega⟩
      rw [hx] at b2 b4 b5 ⊢
      rw [Int.toNat_natCast] at b5 ⊢
      have hxn : x < s.dn.length := by rw [hv.dn]; omega
      have hiu : i < s.us.length := by rw [hv.us]; exact a1
      have hxs : ∀ p ∈ s.steps, p.2 ≠ (x : Int) := fun p hp e => by
        have := (h.done x (by omega)).2 (.inr ⟨p, hp, e⟩)
        rw [b5] at this; cases this
      have hxd : (x : Int) ∉ s.dead := fun e => by
        have := (h.done x (by omega)).2 (.inl e)
        rw [b5] at this; cases this
      have his : ∀ p ∈ s.steps, p.1 ≠ (i : Int) := fun p hp e => by
        have := (h.row i a1).2 ⟨p, hp, e⟩
        rw [b1] at this; cases this
      refine ⟨fun j hj hu => ?_, ?_, fun y hy => ?_, fun j hj => ?_, ⟨h.once.1, ?_, ?_, ?_⟩, fun k hk => ?_⟩
      · by_cases e : j = i
        · subst e
          have := openL_set_one (dn := s.dn) (x := (x : Int)) (by rw [Int.toNat_natCast]; exact hxn) b2
          rwa [Int.toNat_natCast] at this
        · have hu : (s.us.set i true).getD j false = true := hu
          rw [getD_set_neT (by omega)] at hu
          exact openL_set_nil hxn (h.used j hj hu)
      · have := unkN_set (n := R.length) hv.us a1 b1
        have h2 := h.rest
        show unkN (s.us.set i true) R.length + (s.steps ++ [_]).length = _
        rw [List.length_append]
        simp only [List.length_singleton]
        omega
      · show (s.dn.set x true).getD y false = true ↔ (_ ∨ ∃ p ∈ s.steps ++ [((i : Int), (x : Int))], p.2 = _)
        by_cases e : y = x
        · subst e
          rw [getD_set_selfT hxn]
          exact ⟨fun _ => .inr ⟨_, List.mem_append.2 (.inr (List.mem_singleton.2 rfl)), rfl⟩, fun _ => rfl⟩
        · rw [getD_set_neT (by omega), h.done y hy]
          constructor
          · rintro (h1 | ⟨p, h1, h2⟩)
            · exact .inl h1
            · exact .inr ⟨p, List.mem_append.2 (.inl h1), h2⟩
          · rintro (h1 | ⟨p, h1, h2⟩)
            · exact .inl h1
            · rcases List.mem_append.1 h1 with h1 | h1
              · exact .inr ⟨p, h1, h2⟩
              · obtain rfl := List.mem_singleton.1 h1
                have h2 : (x : Int) = (y : Int) := h2
                exact absurd (by omega) e
      · show (s.us.set i true).getD j false = true ↔ ∃ p ∈ s.steps ++ [((i : Int), (x : Int))], p.1 = _
        by_cases e : j = i
        · subst e
          rw [getD_set_selfT hiu]
          exact ⟨fun _ => ⟨_, List.mem_append.2 (.inr (List.mem_singleton.2 rfl)), rfl⟩, fun _ => rfl⟩
        · rw [getD_set_neT (by omega), h.row j hj]
          constructor
          · rintro ⟨p, h1, h2⟩
            exact ⟨p, List.mem_append.2 (.inl h1), h2⟩
          · rintro ⟨p, h1, h2⟩
            rcases List.mem_append.1 h1 with h1 | h1
            · exact ⟨p, h1, h2⟩
            · obtain rfl := List.mem_singleton.1 h1
              have h2 : (i : Int) = (j : Int) := h2
              exact absurd (by omega) e
      · rw [List.map_append]
        refine nodup_snoc h.once.2.1 fun e => ?_
        obtain ⟨p, hp, e⟩ := List.mem_map.1 e
        exact his p hp e
      · rw [List.map_append]
        refine nodup_snoc h.once.2.2.1 fun e => ?_
        obtain ⟨p, hp, e⟩ := List.mem_map.1 e
        exact hxs p hp e
      · intro y hy p hp
        rcases List.mem_append.1 hp with hp | hp
        · exact h.once.2.2.2 y hy p hp
        · obtain rfl := List.mem_singleton.1 hp
          intro e
          have e : (x : Int) = y := e
          exact hxd (e ▸ hy)
      · have hk : k < (s.steps ++ [((i : Int), (x : Int))]).length := hk
        rw [List.length_append, List.length_singleton] at hk
        show ((s.steps ++ [((i : Int), (x : Int))]).getD k (0, 0)).2 ∈ R.getD ((s.steps ++ [((i : Int), (x : Int))]).getD k (0, 0)).1.toNat [] ∧ ∀ c ∈ R.getD ((s.steps ++ [((i : Int), (x : Int))]).getD k (0, 0)).1.toNat [], c ≠ ((s.steps ++ [((i : Int), (x : Int))]).getD k (0, 0)).2 → c ∈ s.dead ∨ ∃ p ∈ (s.steps ++ [((i : Int), (x : Int))]).take k, p.2 = c
        by_cases e : k = s.steps.length
        · subst e
          rw [getD_append_self, List.take_left' rfl]
          show (x : Int) ∈ R.getD (i : Int).toNat [] ∧ ∀ c ∈ R.getD (i : Int).toNat [], c ≠ (x : Int) → _
          rw [Int.toNat_natCast]
          refine ⟨(openL_mem.1 (by rw [b2]; simp)).1, fun c hc hne => ?_⟩
          have hcr := (hR _ (getD_memL a1)).1 c hc
          have hd : s.dn.getD c.toNat false = true := by
            cases hd : s.dn.getD c.toNat false with
            | true => rfl
            | false =>
              have : c ∈ openL s.dn (R.getD i []) := openL_mem.2 ⟨hc, hd⟩
              rw [b2] at this
              exact absurd (List.mem_singleton.1 this) hne
          have := (h.done c.toNat (by omega)).1 hd
          rwa [Int.toNat_of_nonneg hcr.1] at this
        · rw [getD_append_lt (by omega), List.take_append_of_le_length (by omega)]
          exact h.says k (by omega)
    | none =>
      obtain ⟨b, hb⟩ := bestTo_some (f := cntTo s.dn s.us R R.length) (dn := s.dn) (n := n) (by have := hv.unk; omega)
      rw [next_none hf hb]
      obtain ⟨a1, a2, _⟩ := (bestTo_spec _ _ n).1 b hb
      have hbn : b < s.dn.length := by rw [hv.dn]; exact a1
      have hbs : ∀ p ∈ s.steps, p.2 ≠ (b : Int) := fun p hp e => by
        have := (h.done b a1).2 (.inr ⟨p, hp, e⟩)
        rw [a2] at this; cases this
      have hbd : (b : Int) ∉ s.dead := fun e => by
        have := (h.done b a1).2 (.inl e)
        rw [a2] at this; cases this
      refine ⟨fun j hj hu => openL_set_nil hbn (h.used j hj hu), h.rest, fun y hy => ?_, h.row, ⟨nodup_snoc h.once.1 hbd, h.once.2.1, h.once.2.2.1, ?_⟩, fun k hk => ⟨(h.says k hk).1, fun c hc hne => ?_⟩⟩
      · show (s.dn.set b true).getD y false = true ↔ ((y : Int) ∈ s.dead ++ [(b : Int)] ∨ _)
        by_cases e : y = b
        · subst e
          rw [getD_set_selfT hbn]
          exact ⟨fun _ => .inl (List.mem_append.2 (.inr (List.mem_singleton.2 rfl))), fun _ => rfl⟩
        · rw [getD_set_neT (by omega), h.done y hy, List.mem_append, List.mem_singleton]
          constructor
          · rintro (h1 | h1)
            · exact .inl (.inl h1)
            · exact .inr h1
          · rintro ((h1 | h1) | h1)
            · exact .inl h1
            · exact absurd (by omega : y = b) e
            · exact .inr h1
      · intro y hy p hp
        rcases List.mem_append.1 hy with hy | hy
        · exact h.once.2.2.2 y hy p hp
        · obtain rfl := List.mem_singleton.1 hy
          exact hbs p hp
      · rcases (h.says k hk).2 c hc hne with h1 | h1
        · exact .inl (List.mem_append.2 (.inl h1))
        · exact .inr h1
/-- All rows used: none is left. -/
theorem left_nil {n : Nat} {R : List (List Int)} (hR : ∀ c ∈ R, MayRow n c) (h : (steps n R).length = R.length) : left n R = [] := by
  have hF := (run_facts hR n (Nat.le_refl _)).rest
  have h : (run n R n).steps.length = R.length := h
  have hz : unkN (run n R n).us R.length = 0 := by omega
  unfold left
  rw [List.eq_nil_iff_forall_not_mem]
  intro x hx
  obtain ⟨i, h1, h2, _⟩ := (leftTo_mem _ _ _).1 hx
  unfold unkN at hz
  rw [List.length_eq_zero_iff, List.filter_eq_nil_iff] at hz
  have := hz i (List.mem_range.2 h1)
  rw [h2] at this
  simp at this
/-- While some row has one open column, nothing is put off. -/
theorem none_dead {n : Nat} {R : List (List Int)} (hR : ∀ c ∈ R, MayRow n c) (h : ∀ dn : List Bool, dn.length = n → 0 < unkN dn n → ∃ j, j < R.length ∧ (openL dn (R.getD j [])).length = 1) : ∀ t, t ≤ n → (run n R t).dead = []
  | 0, _ => rfl
  | t + 1, ht => by
    have hd := none_dead hR h t (by omega)
    have hF := run_facts hR t (by omega)
    have hv := run_inv hR t (by omega)
    show (next n R (run n R t)).dead = []
    generalize run n R t = s at *
    cases hf : firstTo s.dn s.us R R.length with
    | some i =>
      rw [next_some hf]
      exact hd
    | none =>
      obtain ⟨j, hj, h1⟩ := h s.dn hv.dn (by have := hv.unk; omega)
      have h2 := (firstTo_spec s.dn s.us R R.length).2 hf j hj
      have hu : s.us.getD j false = false := by
        cases hu : s.us.getD j false with
        | false => rfl
        | true =>
          rw [hF.used j hj hu] at h1
          cases h1
      unfold isOne at h2
      rw [hu, h1] at h2
      simp at h2
theorem no_dead {n : Nat} {R : List (List Int)} (hR : ∀ c ∈ R, MayRow n c) (h : ∀ dn : List Bool, dn.length = n → 0 < unkN dn n → ∃ j, j < R.length ∧ (openL dn (R.getD j [])).length = 1) : dead n R = [] ∧ (steps n R).length = n := by
  have hd := none_dead hR h n (Nat.le_refl _)
  have hc := (run_inv hR n (Nat.le_refl _)).cnt
  refine ⟨hd, ?_⟩
  rw [hd] at hc
  exact hc
theorem unk_some {dn : List Bool} {n : Nat} (h : 0 < unkN dn n) : ∃ c, c < n ∧ dn.getD c false = false := by
  unfold unkN at h
  obtain ⟨c, hc⟩ := List.exists_mem_of_length_pos h
  obtain ⟨h1, h2⟩ := List.mem_filter.1 hc
  exact ⟨c, List.mem_range.1 h1, by simpa using h2⟩
/-- Between two that are unlike lie two neighbours that are unlike. -/
theorem change (f : Nat → Bool) (a : Nat) : ∀ d, f a ≠ f (a + d) → ∃ i, a ≤ i ∧ i < a + d ∧ f i ≠ f (i + 1)
  | 0, h => absurd rfl h
  | d + 1, h => by
    by_cases e : f a = f (a + d)
    · exact ⟨a + d, by omega, by omega, by rw [← e]; exact h⟩
    · obtain ⟨i, h1, h2, h3⟩ := change f a d e
      exact ⟨i, h1, by omega, h3⟩
theorem pair_one {dn : List Bool} {i : Nat} (h : dn.getD i false ≠ dn.getD (i + 1) false) : (openL dn [(i : Int), (i : Int) + 1]).length = 1 := by
  have e : ((i : Int) + 1).toNat = i + 1 := by omega
  unfold openL
  rw [List.filter_cons, List.filter_cons, List.filter_nil, e, Int.toNat_natCast]
  revert h
  cases dn.getD i false <;> cases dn.getD (i + 1) false <;> simp
/-- The rows of a chain, in any order. -/
theorem chain {N s : Nat} {R : List (List Int)} (hs : s < N) (hR : ∀ c ∈ R, MayRow N c) (hl : R.length = N) (h0 : [(s : Int)] ∈ R) (h1 : ∀ i : Nat, i + 1 < N → [(i : Int), (i : Int) + 1] ∈ R) : dead N R = [] ∧ (steps N R).length = N ∧ left N R = [] := by
  have h := no_dead hR (fun dn _ hu => by
    have got : ∀ r ∈ R, (openL dn r).length = 1 → ∃ j, j < R.length ∧ (openL dn (R.getD j [])).length = 1 := fun r hr h => by
      obtain ⟨j, hj, rfl⟩ := List.getElem_of_mem hr
      refine ⟨j, hj, ?_⟩
      rw [List.getD_eq_getElem?_getD, List.getElem?_eq_getElem hj]
      exact h
    obtain ⟨c, hc, hco⟩ := unk_some hu
    by_cases hso : dn.getD s false = false
    · refine got _ h0 ?_
      unfold openL
      rw [List.filter_cons, Int.toNat_natCast, hso]
      rfl
    · have hne : dn.getD s false ≠ dn.getD c false := by rw [hco]; exact hso
      have : ∃ i, i + 1 < N ∧ dn.getD i false ≠ dn.getD (i + 1) false := by
        by_cases hsc : s ≤ c
        · obtain ⟨d, rfl⟩ : ∃ d, c = s + d := ⟨c - s, by omega⟩
          obtain ⟨i, _, b, e⟩ := change (fun x => dn.getD x false) s d hne
          exact ⟨i, by omega, e⟩
        · obtain ⟨d, rfl⟩ : ∃ d, s = c + d := ⟨s - c, by omega⟩
          obtain ⟨i, _, b, e⟩ := change (fun x => dn.getD x false) c d (fun e => hne e.symm)
          exact ⟨i, by omega, e⟩
      obtain ⟨i, hi, hd⟩ := this
      exact got _ (h1 i hi) (pair_one hd))
  exact ⟨h.1, h.2, left_nil hR (by rw [h.2, hl])⟩
/-- The rows of a star: m with each other column, these rising. -/
def arm (m i : Nat) : Nat := if i < m then i else i + 1
def armRow (m i : Nat) : List Int := if i < m then [(i : Int), (m : Int)] else [(m : Int), (i : Int) + 1]
theorem openL_two (dn : List Bool) (a b : Nat) : openL dn [(a : Int), (b : Int)] = (if dn.getD a false = true then [] else [(a : Int)]) ++ (if dn.getD b false = true then [] else [(b : Int)]) := by
  unfold openL
  rw [List.filter_cons, List.filter_cons, List.filter_nil, Int.toNat_natCast, Int.toNat_natCast]
  cases dn.getD a false <;> cases dn.getD b false <;> rfl
theorem arm_ne (m i : Nat) : arm m i ≠ m := by unfold arm; split <;> omega
theorem arm_inj {m i j : Nat} (h : arm m i = arm m j) : i = j := by unfold arm at h; split at h <;> split at h <;> omega
theorem arm_lt {m i N : Nat} (_ : m < N) (hi : i + 1 < N) : arm m i < N := by unfold arm; split <;> omega
theorem armRow_mem (m i : Nat) (x : Int) : x ∈ armRow m i ↔ x = (m : Int) ∨ x = (arm m i : Int) := by
  unfold armRow arm
  split
  · simp [or_comm]
  · simp
theorem armRow_open {dn : List Bool} {m i : Nat} (h : dn.getD m false = true) : openL dn (armRow m i) = if dn.getD (arm m i) false = true then [] else [(arm m i : Int)] := by
  unfold armRow arm
  by_cases e : i < m
  · rw [if_pos e, if_pos e, openL_two, h]
    simp
  · rw [if_neg e, if_neg e, show (i : Int) + 1 = ((i + 1 : Nat) : Int) by omega, openL_two, h]
    simp
theorem armRow_shut {dn : List Bool} {m i : Nat} (h : dn.getD m false = false) (h1 : dn.getD (arm m i) false = false) : (openL dn (armRow m i)).length = 2 := by
  unfold armRow
  unfold arm at h1
  by_cases e : i < m
  · rw [if_pos e] at h1 ⊢
    rw [openL_two, h, h1]
    simp
  · rw [if_neg e] at h1 ⊢
    rw [show (i : Int) + 1 = ((i + 1 : Nat) : Int) by omega, openL_two, h, h1]
    simp
theorem firstTo_none {dn us : List Bool} {R : List (List Int)} {k : Nat} (h : ∀ j, j < k → isOne dn us R j = false) : firstTo dn us R k = none := by
  cases hf : firstTo dn us R k with
  | none => rfl
  | some i =>
    obtain ⟨a, b, _⟩ := (firstTo_spec dn us R k).1 i hf
    rw [h i a] at b
    cases b
theorem firstTo_at {dn us : List Bool} {R : List (List Int)} {k i : Nat} (hi : i < k) (h : ∀ j, j < i → isOne dn us R j = false) (h1 : isOne dn us R i = true) : firstTo dn us R k = some i := by
  cases hf : firstTo dn us R k with
  | none =>
    have := (firstTo_spec dn us R k).2 hf i hi
    rw [h1] at this
    cases this
  | some j =>
    obtain ⟨a, b, c⟩ := (firstTo_spec dn us R k).1 j hf
    rcases Nat.lt_trichotomy j i with e | e | e
    · rw [h j e] at b; cases b
    · rw [e]
    · have := c i e
      rw [h1] at this; cases this
/-- The state behind t + 1 turns. -/
structure StarAt (N m t : Nat) (s : St) : Prop where
  dn : ∀ x, x < N → (s.dn.getD x false = true ↔ x = m ∨ ∃ i, i < t ∧ x = arm m i)
  us : ∀ i, i + 1 < N → (s.us.getD i false = true ↔ i < t)
  dead : s.dead = [(m : Int)]
  len : s.steps.length = t
  steps : ∀ i, i < t → s.steps.getD i (0, 0) = ((i : Int), (arm m i : Int))
theorem star_run {N m : Nat} {R : List (List Int)} (h3 : 3 ≤ N) (hm : m < N) (hl : R.length + 1 = N) (hr : ∀ i, i + 1 < N → R.getD i [] = armRow m i) (hR : ∀ c ∈ R, MayRow N c) : ∀ t, t + 1 ≤ N → StarAt N m t (run N R (t + 1))
  | 0, _ => by
    show StarAt N m 0 (next N R (start N R.length))
    have hf : firstTo (start N R.length).dn (start N R.length).us R R.length = none := firstTo_none fun j hj => by
      unfold isOne
      have hsh : (openL (start N R.length).dn (armRow m j)).length = 2 := armRow_shut (rep_false N m) (rep_false N _)
      rw [hr j (by omega), hsh]
      simp
    obtain ⟨b, hb⟩ := bestTo_some (f := cntTo (start N R.length).dn (start N R.length).us R R.length) (dn := (start N R.length).dn) (n := N) (by show 0 < unkN (List.replicate N false) N; rw [unkN_start]; omega)
    obtain ⟨hbn, _, hbm, _⟩ := (bestTo_spec _ _ N).1 b hb
    have hmem : ∀ (i c : Nat), i + 1 < N → ((c : Int) ∈ openL (start N R.length).dn (R.getD i []) ↔ c = m ∨ c = arm m i) := fun i c hi => by
      rw [hr i hi, openL_mem, armRow_mem]
      constructor
      · rintro ⟨h1 | h1, _⟩
        · left; omega
        · right; omega
      · intro h1
        refine ⟨?_, rep_false _ _⟩
        rcases h1 with h1 | h1
        · left; omega
        · right; omega
    have hus : ∀ k, (start N R.length).us.getD k false = false := fun k => rep_false _ _
    have c1 : ∀ k, k + 1 ≤ N → cntTo (start N R.length).dn (start N R.length).us R k m = k := by
      intro k
      induction k with
      | zero => intro _; rfl
      | succ k ih =>
        intro hk
        show cntTo _ _ R k m + _ = k + 1
        rw [ih (by omega), if_pos ⟨hus k, (hmem k m (by omega)).2 (.inl rfl)⟩]
    have c2 : ∀ c, c ≠ m → ∀ k, k + 1 ≤ N → ((∃ i, i < k ∧ c = arm m i) → cntTo (start N R.length).dn (start N R.length).us R k c ≤ 1) ∧ ((¬ ∃ i, i < k ∧ c = arm m i) → cntTo (start N R.length).dn (start N R.length).us R k c = 0) := by
      intro c hc k
      induction k with
      | zero => intro _; exact ⟨fun _ => Nat.zero_le _, fun _ => rfl⟩
      | succ k ih =>
        intro hk
        have ih := ih (by omega)
        have hst : cntTo (start N R.length).dn (start N R.length).us R (k + 1) c = cntTo (start N R.length).dn (start N R.length).us R k c + (if (start N R.length).us.getD k false = false ∧ (c : Int) ∈ openL (start N R.length).dn (R.getD k []) then 1 else 0) := rfl
        by_cases e : c = arm m k
        · have hno : ¬ ∃ i, i < k ∧ c = arm m i := fun ⟨i, h1, h2⟩ => by
            have := arm_inj (h2.symm.trans e)
            omega
          rw [hst, ih.2 hno]
          exact ⟨fun _ => by split <;> omega, fun h => absurd ⟨k, by omega, e⟩ h⟩
        · rw [if_neg (fun h => by rcases (hmem k c (by omega)).1 h.2 with h | h; exact hc h; exact e h), Nat.add_zero] at hst
          rw [hst]
          refine ⟨fun ⟨i, h1, h2⟩ => ih.1 ⟨i, ?_, h2⟩, fun h => ih.2 fun ⟨i, h1, h2⟩ => h ⟨i, by omega, h2⟩⟩
          have : i ≠ k := fun e' => e (by rw [h2, e'])
          omega
    have hbe : b = m := Classical.byContradiction fun e => by
      have h1 := hbm m hm (rep_false _ _)
      rw [c1 R.length (by omega)] at h1
      have h2 := c2 b e R.length (by omega)
      by_cases hx : ∃ i, i < R.length ∧ b = arm m i
      · have := h2.1 hx
        omega
      · have := h2.2 hx
        omega
    subst hbe
    rw [next_none hf hb]
    refine ⟨fun x hx => ?_, fun i hi => ?_, rfl, rfl, fun i hi => by omega⟩
    · show ((List.replicate N false).set b true).getD x false = true ↔ _
      by_cases e : x = b
      · subst e
        rw [getD_set_selfT (by simpa using hbn)]
        exact ⟨fun _ => .inl rfl, fun _ => rfl⟩
      · rw [getD_set_neT (by omega), rep_false]
        exact ⟨fun h => (by cases h), fun h => h.elim (fun h => absurd h e) fun ⟨i, h, _⟩ => by omega⟩
    · show (List.replicate R.length false).getD i false = true ↔ _
      rw [rep_false]
      exact ⟨fun h => (by cases h), fun h => by omega⟩
  | t + 1, ht => by
    have h := star_run h3 hm hl hr hR t (by omega)
    have hv := run_inv hR (t + 1) (by omega)
    show StarAt N m (t + 1) (next N R (run N R (t + 1)))
    generalize run N R (t + 1) = s at *
    have hdm : s.dn.getD m false = true := (h.dn m hm).2 (.inl rfl)
    have hfree : s.dn.getD (arm m t) false = false := by
      cases hd : s.dn.getD (arm m t) false with
      | false => rfl
      | true =>
        rcases (h.dn _ (arm_lt hm (by omega))).1 hd with e | ⟨i, hi, e⟩
        · exact absurd e (arm_ne m t)
        · have := arm_inj e
          omega
    have hop : openL s.dn (R.getD t []) = [(arm m t : Int)] := by
      rw [hr t (by omega), armRow_open hdm, hfree]
      rfl
    have hut : s.us.getD t false = false := by
      cases hu : s.us.getD t false with
      | false => rfl
      | true => have := (h.us t (by omega)).1 hu; omega
    have hf : firstTo s.dn s.us R R.length = some t := firstTo_at (by omega) (fun j hj => by
      unfold isOne
      rw [(h.us j (by omega)).2 hj]
      rfl) (by
      unfold isOne
      rw [hut, hop]
      rfl)
    have hco : colOf s.dn R t = (arm m t : Int) := by
      unfold colOf
      rw [hop]
      rfl
    have hat := arm_lt (i := t) hm (by omega)
    rw [next_some hf, hco, Int.toNat_natCast]
    refine ⟨fun x hx => ?_, fun i hi => ?_, h.dead, by show (s.steps ++ [_]).length = _; rw [List.length_append, h.len]; rfl, fun i hi => ?_⟩
    · show (s.dn.set (arm m t) true).getD x false = true ↔ _
      by_cases e : x = arm m t
      · subst e
        rw [getD_set_selfT (by rw [hv.dn]; exact hat)]
        exact ⟨fun _ => .inr ⟨t, by omega, rfl⟩, fun _ => rfl⟩
      · rw [getD_set_neT (by omega), h.dn x hx]
        constructor
        · rintro (h1 | ⟨i, h1, h2⟩)
          · exact .inl h1
          · exact .inr ⟨i, by omega, h2⟩
        · rintro (h1 | ⟨i, h1, h2⟩)
          · exact .inl h1
          · refine .inr ⟨i, ?_, h2⟩
            have : i ≠ t := fun e' => e (by rw [h2, e'])
            omega
    · show (s.us.set t true).getD i false = true ↔ _
      by_cases e : i = t
      · subst e
        rw [getD_set_selfT (by rw [hv.us]; omega)]
        exact ⟨fun _ => by omega, fun _ => rfl⟩
      · rw [getD_set_neT (by omega), h.us i hi]
        omega
    · show (s.steps ++ [((t : Int), (arm m t : Int))]).getD i (0, 0) = _
      by_cases e : i = t
      · subst e
        have hl := h.len
        have := getD_append_self (a := s.steps) (x := ((i : Int), (arm m i : Int))) (d := ((0 : Int), (0 : Int)))
        rwa [hl] at this
      · rw [getD_append_lt (by rw [h.len]; omega)]
        exact h.steps i (by omega)
theorem star {N m : Nat} {R : List (List Int)} (h3 : 3 ≤ N) (hm : m < N) (hl : R.length + 1 = N) (hr : ∀ i, i + 1 < N → R.getD i [] = armRow m i) (hR : ∀ c ∈ R, MayRow N c) :
    dead N R = [(m : Int)] ∧ (steps N R).length + 1 = N ∧ left N R = [] ∧ ∀ i, i + 1 < N → (steps N R).getD i (0, 0) = ((i : Int), (arm m i : Int)) := by
  obtain ⟨M, rfl⟩ : ∃ M, N = M + 1 := ⟨N - 1, by omega⟩
  have h := star_run h3 hm hl hr hR M (by omega)
  have hs : (steps (M + 1) R).length = M := h.len
  exact ⟨h.dead, by rw [hs], left_nil hR (by rw [hs]; omega), fun i hi => h.steps i (by omega)⟩
end PN
end Go.Proofs.Ytdmcncpndogdlaa
namespace Go.Proofs.Ytdmcncpndogdlaa
open Go.RowKit
open Go.Maps

theorem keyZ : Keyed Try.prog 3 := int_keyed Try.underlying3
theorem zeroBool (w : World) : (zeroValue 4).run Try.prog w = .ok (.bool false) w := by kernel_rfl
theorem keyZ_of {x : Int} (h : I64 x) : keyOf Try.prog 3 (.int .i64 x) = some (.int .i64 x) := keyOf_int_mk Try.underlying3 (by
  obtain ⟨h1, h2⟩ := h
  simp [Lit.wf, show IntKind.i64.min = -9223372036854775808 from rfl, show IntKind.i64.max = 9223372036854775807 from rfl]
  omega)
/-- Block b is a map of at most n entries that answers as f does. -/
def MapZ (w : World) (b n : Nat) (f : Int → Bool) : Prop :=
  ∃ D : DataW Unit, w.ownsMap Try.prog 3 (plainElem Try.prog 4) b n D ∧ ∀ x, I64 x → D.atKey (.int .i64 x) (.lit (.bool false)) = .lit (.bool (f x))
theorem MapZ.made (w : World) : MapZ (w.alloc (.map #[] 0)) w.heap.size 0 fun _ => false :=
  ⟨.map [], World.ownsMap_made _ _ _ _, fun _ _ => rfl⟩
theorem plainElem_bool_inv {P : Program} {e : TypeId} (he : P.underlying e = some .bool) {v : Value} {z : DataW Unit × List MemPlace} (h : plainElem P e v = some z) : ∃ a, v = .bool a ∧ z = (.lit (.bool a), []) := by
  unfold plainElem at h
  rw [he] at h
  split at h
  · rename_i x h1 
    cases h
    exact ⟨_, rfl, rfl⟩
  · rename_i h1 
    cases h1
  · rename_i h1 
    cases h1
  · cases h
theorem MapZ.look {w : World} {b n : Nat} {f : Int → Bool} (h : MapZ w b n f) {x : Int} (hx : I64 x) : (Instr.lookup 38 (.map (some b)) (.int .i64 x) false).run Try.prog w = .ok (.bool (f x)) w := by
  obtain ⟨D, ho, hf⟩ := h
  obtain ⟨v, ps, hrun, hv⟩ := ho.lookup keyZ Try.underlying38 (zeroBool w) (plainElem_bool Try.underlying4 false) (keyZ_of hx)
  obtain ⟨c, rfl, hc⟩ := plainElem_bool_inv Try.underlying4 hv
  rw [hf x hx] at hc
  simp only [Prod.mk.injEq, DataW.lit.injEq, Lit.bool.injEq] at hc
  rw [hrun, hc.1]
theorem MapZ.put {w : World} {b n : Nat} {f : Int → Bool} (h : MapZ w b n f) {x : Int} (hx : I64 x) (hn : n ≤ 100000) : ∃ w', (Instr.mapUpdate 38 (.map (some b)) (.int .i64 x) (.bool true)).run Try.prog w = .ok () w' ∧ MapZ w' b (n + 1) (fun y => if y = x then true else f y) ∧ w.grownBy w' (some b) := by
  obtain ⟨D, ho, hf⟩ := h
  obtain ⟨w', hrun, h1, h2⟩ := ho.update keyZ Try.underlying38 (by unfold maxLen; omega) (keyZ_of hx) (plainElem_bool (H := Unit) Try.underlying4 true)
  refine ⟨w', hrun, ⟨_, h1, fun y hy => ?_⟩, h2⟩
  have hD : IsMap D := by
    obtain ⟨es, clock, _, _, _, rfl⟩ := ho
    exact ⟨_, rfl⟩
  show _ = DataW.lit (Lit.bool (if y = x then true else f y))
  by_cases e : y = x
  · subst e
    rw [if_pos rfl, atKey_put_same hD (by trivial)]
  · rw [if_neg e, atKey_put_other (fun h => e (by cases h; rfl)), hf y hy]
theorem MapZ.grown {w w' : World} {b n : Nat} {f : Int → Bool} (h : MapZ w b n f) (hg : Gr w w') : MapZ w' b n f := by
  obtain ⟨D, ⟨es, clock, hb, h2⟩, hf⟩ := h
  exact ⟨D, ⟨es, clock, by rw [hg.2.2.2.2 b (Array.getElem?_eq_some_iff.1 hb).1]; exact hb, h2⟩, hf⟩
theorem MapZ.lt {w : World} {b n : Nat} {f : Int → Bool} (h : MapZ w b n f) : b < w.heap.size := by
  obtain ⟨D, ho, _⟩ := h
  exact ho.lt
theorem MapZ.kept {w w' : World} {b b' n : Nat} {f : Int → Bool} (h : MapZ w b n f) (hg : w.grownBy w' (some b')) (hn : b ≠ b') : MapZ w' b n f := by
  obtain ⟨D, ho, hf⟩ := h
  exact ⟨D, ho.kept hg (fun e => hn (by cases e; rfl)), hf⟩
theorem MapZ.like {w : World} {b n : Nat} {f g : Int → Bool} (h : MapZ w b n f) (hg : ∀ x, f x = g x) : MapZ w b n g := by
  obtain ⟨D, ho, hf⟩ := h
  exact ⟨D, ho, fun x hx => by rw [hf x hx, hg]⟩
theorem MapZ.gr {w0 w w' : World} {b : Nat} (hg : Gr w0 w) (h : w.grownBy w' (some b)) (hb : w0.heap.size ≤ b) : Gr w0 w' :=
  Gr.append hg h fun g hv => by cases hv; exact hb
theorem wpList_putZ {w : World} {ops : Array Oper} {rest : List Oper} {o : Oper} {a : Act} {Q : Exit → Act → World → Prop}
    (hg : o.guard = none) (m x v : Operand) (hop : o.op = Op.mapUpdate 38 m x v) (b n : Nat) (f : Int → Bool) (k : Int)
    (hm : a.eval m = .map (some b)) (hx : a.eval x = .int .i64 k) (hv : a.eval v = .bool true) (h : MapZ w b n f) (hk : I64 k) (hn : n ≤ 100000)
    (hK : ∀ w', MapZ w' b (n + 1) (fun y => if y = k then true else f y) → w.grownBy w' (some b) → wpList Try.prog ops Q rest (a.put o.dst undef) w') :
    wpList Try.prog ops Q (o :: rest) a w := by
  refine wpList_plain hg fun K' hK' => ?_
  obtain ⟨w', hrun, r1, r2⟩ := h.put hk hn
  unfold Oper.wp
  simp [execOp, hop, hm, hx, hv, hrun, Result.andThen]
  exact hK' _ _ (hK w' r1 r2)
theorem step_putZ {w : World} {ops : Array Oper} {o : Oper} {a : Act} {K : Act → World → Prop} {Q : Exit → Act → World → Prop} {E : Prop}
    (hg : o.guard = none) (m x v : Operand) (hop : o.op = Op.mapUpdate 38 m x v) (b n : Nat) (f : Int → Bool) (k : Int)
    (hm : a.eval m = .map (some b)) (hx : a.eval x = .int .i64 k) (hv : a.eval v = .bool true) (h : MapZ w b n f) (hk : I64 k) (hn : n ≤ 100000)
    (hK : ∀ w', MapZ w' b (n + 1) (fun y => if y = k then true else f y) → w.grownBy w' (some b) → K (a.put o.dst undef) w') :
    if Region.wanted o (yielded ops a.tmps) = true then Oper.wp Try.prog o a w K Q else E := by
  have hw : Region.wanted o (yielded ops a.tmps) = true := by simp [Region.wanted, hg]
  rw [if_pos hw]
  obtain ⟨w', hrun, r1, r2⟩ := h.put hk hn
  unfold Oper.wp
  simp [execOp, hop, hm, hx, hv, hrun, Result.andThen]
  exact hK w' r1 r2
/-- A map that holds these, and no others. -/
def MapL (w : World) (b n : Nat) (L : List Int) : Prop := MapZ w b n fun x => decide (x ∈ L)
theorem MapL.snoc {w : World} {b n : Nat} {L : List Int} {k : Int} (h : MapZ w b n (fun y => if y = k then true else decide (y ∈ L))) : MapL w b n (L ++ [k]) :=
  h.like fun x => by
    by_cases e : x = k
    · simp [e]
    · simp [e]
theorem MapL.no {w : World} {b n : Nat} {L : List Int} (h : MapL w b n L) {x : Int} (hx : I64 x) (hn : x ∉ L) : (Instr.lookup 38 (.map (some b)) (.int .i64 x) false).run Try.prog w = .ok (.bool false) w := by
  rw [MapZ.look h hx, decide_eq_false hn]
theorem MapL.yes {w : World} {b n : Nat} {L : List Int} (h : MapL w b n L) {x : Int} (hx : I64 x) (hn : x ∈ L) : (Instr.lookup 38 (.map (some b)) (.int .i64 x) false).run Try.prog w = .ok (.bool true) w := by
  rw [MapZ.look h hx, decide_eq_true hn]
end Go.Proofs.Ytdmcncpndogdlaa
