/-
  Texts laid behind one another: Lim Lec Vec Lsq Mk.
-/
import Derived.Test.YtmbikmlknbinpaaMgc
namespace Go.Proofs.Ytmbikmlknbinpaa.L

def Supp (n : Nat) (v : V) : Prop := ∀ k, n ≤ k → v k = zero
theorem Supp.zero (n : Nat) : Supp n vzero := fun _ _ => rfl
theorem Supp.add {n : Nat} {x y : V} (h : Supp n x) (h' : Supp n y) : Supp n (vadd x y) := fun k hk => by
  show L.add (x k) (y k) = L.zero
  rw [h k hk, h' k hk, add_zero]
theorem Supp.smul {n : Nat} {x : V} (c : Fb) (h : Supp n x) : Supp n (L.smul c x) := fun k hk => by
  show L.mul c (x k) = L.zero
  rw [h k hk, mul_zero]
theorem Sp.supp {n : Nat} {A : List V} (h : ∀ x ∈ A, Supp n x) {v : V} (hv : Sp A v) : Supp n v := by
  induction hv with
  | zero => exact Supp.zero n
  | step c x v hx _ ih => exact Supp.add (Supp.smul c (h x hx)) ih
theorem begins_exists {n : Nat} {v : V} (hs : Supp n v) (h : v ≠ vzero) : ∃ k, k < n ∧ Begins v k := by
  have key : ∀ m, (∀ j, j < m → v j = zero) ∨ ∃ k, k < m ∧ Begins v k := by
    intro m
    induction m with
    | zero => exact .inl fun j hj => absurd hj (Nat.not_lt_zero _)
    | succ m ih =>
      rcases ih with ih | ⟨k, hk, hb⟩
      · by_cases e : v m = zero
        · refine .inl fun j hj => ?_
          rcases Nat.lt_succ_iff_lt_or_eq.1 hj with c | c
          · exact ih j c
          · rw [c, e]
        · exact .inr ⟨m, Nat.lt_succ_self _, e, ih⟩
      · exact .inr ⟨k, Nat.lt_succ_of_lt hk, hb⟩
  rcases key n with h0 | h1
  · refine absurd (funext fun i => ?_) h
    by_cases c : i < n
    · exact h0 i c
    · exact hs i (by omega)
  · exact h1
theorem Begins.uniq {v : V} {j k : Nat} (hj : Begins v j) (hk : Begins v k) : j = k := by
  rcases Nat.lt_trichotomy j k with c | c | c
  · exact absurd (hk.2 j c) hj.1
  · exact c
  · exact absurd (hj.2 k c) hk.1

/-! ### One more row -/
def insAt (a : Nat × V) : List (Nat × V) → List (Nat × V)
  | [] => [a]
  | b :: R => if a.1 < b.1 then a :: b :: R else b :: insAt a R
theorem mem_insAt (a : Nat × V) : ∀ (R : List (Nat × V)) (x : Nat × V), x ∈ insAt a R ↔ x = a ∨ x ∈ R
  | [], x => by simp [insAt]
  | b :: R, x => by
    simp only [insAt]
    split
    · simp
    · simp only [List.mem_cons, mem_insAt a R x]
      constructor
      · rintro (h | h | h)
        · exact .inr (.inl h)
        · exact .inl h
        · exact .inr (.inr h)
      · rintro (h | h | h)
        · exact .inr (.inl h)
        · exact .inl h
        · exact .inr (.inr h)
theorem insAt_sorted (a : Nat × V) : ∀ (R : List (Nat × V)), R.Pairwise (fun x y => x.1 < y.1) → (∀ b ∈ R, b.1 ≠ a.1) → (insAt a R).Pairwise (fun x y => x.1 < y.1)
  | [], _, _ => by simp [insAt]
  | b :: R, h, hn => by
    have h' := List.pairwise_cons.1 h
    simp only [insAt]
    split
    · rename_i c
      refine List.pairwise_cons.2 ⟨fun x hx => ?_, h⟩
      rcases List.mem_cons.1 hx with rfl | hx
      · exact c
      · exact Nat.lt_trans c (h'.1 x hx)
    · rename_i c
      have hb := hn b (by simp)
      refine List.pairwise_cons.2 ⟨fun x hx => ?_, insAt_sorted a R h'.2 fun b' hb' => hn b' (by simp [hb'])⟩
      rcases (mem_insAt a R x).1 hx with rfl | hx
      · omega
      · exact h'.1 x hx
theorem insAt_length (a : Nat × V) : ∀ R : List (Nat × V), (insAt a R).length = R.length + 1
  | [] => rfl
  | b :: R => by
    simp only [insAt]
    split
    · rfl
    · simp [insAt_length a R]
/-- What a row picks has its own elements where the rows begin. -/
theorem pick_at {R : List (Nat × V)} (h : Rref R) (v : V) {q : Nat} {y : V} (hy : (q, y) ∈ R) : pick v R q = v q := by
  have key : ∀ S : List (Nat × V), (∀ a ∈ S, a ∈ R) → S.Pairwise (fun a b => a.1 < b.1) → ((q, y) ∈ S → pick v S q = v q) ∧ ((q, y) ∉ S → pick v S q = zero) := by
    intro S
    induction S with
    | nil => intro _ _; exact ⟨fun c => absurd c (by simp), fun _ => rfl⟩
    | cons a S ih =>
      obtain ⟨p, x⟩ := a
      intro hS hP
      have hP' := List.pairwise_cons.1 hP
      have i := ih (fun a ha => hS a (by simp [ha])) hP'.2
      have hx := hS (p, x) (by simp)
      have e1 : pick v ((p, x) :: S) q = add (mul (v p) (x q)) (pick v S q) := rfl
      rw [e1]
      by_cases e : p = q
      · subst e
        obtain rfl := h.uniq_place hx hy
        have hn : (p, x) ∉ S := fun c => absurd (hP'.1 _ c) (Nat.lt_irrefl _)
        rw [i.2 hn, h.lead p x hx, mul_one, add_zero]
        exact ⟨fun _ => rfl, fun c => absurd (by simp) c⟩
      · rw [h.apart p x q y hx hy e, mul_zero, zero_add]
        have hne : (q, y) ≠ (p, x) := fun c => e (Prod.mk.inj c).1.symm
        refine ⟨fun c => i.1 ?_, fun c => i.2 fun c' => c (List.mem_cons_of_mem _ c')⟩
        rcases List.mem_cons.1 c with c | c
        · exact absurd c hne
        · exact c
  exact (key R (fun _ h => h) h.sorted).1 hy
theorem pick_in (v : V) : ∀ R : List (Nat × V), Sp (rows R) (pick v R)
  | [] => Sp.zero
  | (p, x) :: R => Sp.step _ x _ (by simp [rows]) (Sp.mono (fun y hy => by simp [rows] at hy ⊢; exact .inr hy) (pick_in v R))
/-- What is left of a row. -/
def left (v : V) (R : List (Nat × V)) : V := vadd v (pick v R)
theorem left_at {R : List (Nat × V)} (h : Rref R) (v : V) {q : Nat} {y : V} (hy : (q, y) ∈ R) : left v R q = zero := by
  show add (v q) (pick v R q) = zero
  rw [pick_at h v hy, add_self]
theorem left_back (v : V) (R : List (Nat × V)) : vadd (left v R) (pick v R) = v := by
  unfold left
  rw [vadd_assoc, vadd_self, vadd_zero]
theorem left_zero {R : List (Nat × V)} (h : Rref R) (v : V) : left v R = vzero ↔ Sp (rows R) v := by
  constructor
  · intro c
    have := left_back v R
    rw [c, vzero_add] at this
    rw [← this]
    exact pick_in v R
  · intro hv
    unfold left
    rw [pick_span h hv, vadd_self]
theorem mem_cons_same {A : List V} {v : V} (h : Sp A v) : Same (v :: A) A :=
  Same.of (fun x hx => by
    rcases List.mem_cons.1 hx with rfl | hx
    · exact h
    · exact Sp.mem hx) fun x hx => Sp.mem (by simp [hx])
/-- The new rows: what is left of v begins at k. -/
def grow (R : List (Nat × V)) (u : V) (k : Nat) : List (Nat × V) := insAt (k, u) (R.map fun a => (a.1, vadd a.2 (smul (a.2 k) u)))
theorem grow_rref {R : List (Nat × V)} (h : Rref R) {u : V} {k : Nat} (h1 : u k = one) (hb : ∀ j, j < k → u j = zero) (h0 : ∀ p x, (p, x) ∈ R → u p = zero) : Rref (grow R u k) := by
  have hk : ∀ p x, (p, x) ∈ R → p ≠ k := by
    rintro p x hx rfl
    rw [h0 p x hx] at h1
    exact one_ne h1.symm
  have mem : ∀ p y, (p, y) ∈ grow R u k → (p = k ∧ y = u) ∨ ∃ x, (p, x) ∈ R ∧ y = vadd x (smul (x k) u) := by
    intro p y hm
    rcases (mem_insAt _ _ _).1 hm with c | c
    · exact .inl (Prod.mk.inj c)
    · obtain ⟨⟨q, x⟩, hx, e⟩ := List.mem_map.1 c
      obtain ⟨rfl, rfl⟩ := Prod.mk.inj e
      exact .inr ⟨x, hx, rfl⟩
  have at' : ∀ (x : V) (j : Nat), (vadd x (smul (x k) u)) j = add (x j) (mul (x k) (u j)) := fun _ _ => rfl
  refine ⟨?_, ?_, ?_, ?_⟩
  · refine insAt_sorted _ _ (List.pairwise_map.2 h.sorted) fun b hb' => ?_
    obtain ⟨⟨q, x⟩, hx, rfl⟩ := List.mem_map.1 hb'
    exact hk q x hx
  · intro p y hm
    rcases mem p y hm with ⟨rfl, rfl⟩ | ⟨x, hx, rfl⟩
    · exact h1
    · rw [at', h.lead p x hx, h0 p x hx, mul_zero, add_zero]
  · intro p y hm j hj
    rcases mem p y hm with ⟨rfl, rfl⟩ | ⟨x, hx, rfl⟩
    · exact hb j hj
    · rw [at', h.ahead p x hx j hj, zero_add]
      by_cases c : k < p
      · rw [h.ahead p x hx k c, zero_mul]
      · rw [hb j (by have := hk p x hx; omega), mul_zero]
  · intro p y q z hm hm' hne
    rcases mem p y hm with ⟨rfl, rfl⟩ | ⟨x, hx, rfl⟩
    · rcases mem q z hm' with ⟨rfl, rfl⟩ | ⟨x', hx', rfl⟩
      · exact absurd rfl hne
      · exact h0 q x' hx'
    · rcases mem q z hm' with ⟨rfl, rfl⟩ | ⟨x', hx', rfl⟩
      · rw [at', h1, mul_one, add_self]
      · rw [at', h0 q x' hx', mul_zero, add_zero]
        exact h.apart p x q x' hx hx' hne
theorem grow_rows (R : List (Nat × V)) (u : V) (k : Nat) (y : V) : y ∈ rows (grow R u k) ↔ y = u ∨ ∃ x ∈ rows R, y = vadd x (smul (x k) u) := by
  constructor
  · intro hy
    obtain ⟨⟨p, y'⟩, hm, rfl⟩ := List.mem_map.1 hy
    rcases (mem_insAt _ _ _).1 hm with c | c
    · exact .inl (Prod.mk.inj c).2
    · obtain ⟨⟨q, x⟩, hx, e⟩ := List.mem_map.1 c
      exact .inr ⟨x, List.mem_map.2 ⟨(q, x), hx, rfl⟩, (Prod.mk.inj e).2.symm⟩
  · rintro (rfl | ⟨x, hx, rfl⟩)
    · exact List.mem_map.2 ⟨(k, y), (mem_insAt _ _ _).2 (.inl rfl), rfl⟩
    · obtain ⟨⟨q, x'⟩, hm, rfl⟩ := List.mem_map.1 hx
      exact List.mem_map.2 ⟨(q, _), (mem_insAt _ _ _).2 (.inr (List.mem_map.2 ⟨(q, x'), hm, rfl⟩)), rfl⟩
theorem grow_same (R : List (Nat × V)) (u : V) (k : Nat) : Same (rows (grow R u k)) (u :: rows R) := by
  refine Same.of (fun y hy => ?_) fun y hy => ?_
  · rcases (grow_rows R u k y).1 hy with rfl | ⟨x, hx, rfl⟩
    · exact Sp.mem (by simp)
    · exact Sp.add (Sp.mem (by simp [hx])) (Sp.smul _ (Sp.mem (by simp)))
  · have hu : Sp (rows (grow R u k)) u := Sp.mem ((grow_rows R u k u).2 (.inl rfl))
    rcases List.mem_cons.1 hy with rfl | hx
    · exact hu
    · have h1 := Sp.add (Sp.mem ((grow_rows R u k _).2 (.inr ⟨y, hx, rfl⟩))) (Sp.smul (y k) hu)
      rwa [vadd_assoc, vadd_self, vadd_zero] at h1
theorem Same.cons {A B : List V} (h : Same A B) (v : V) : Same (v :: A) (v :: B) :=
  Same.of (fun x hx => by
    rcases List.mem_cons.1 hx with rfl | hx
    · exact Sp.mem (by simp)
    · exact Sp.mono (fun y hy => by simp [hy]) ((h x).1 (Sp.mem hx))) fun x hx => by
    rcases List.mem_cons.1 hx with rfl | hx
    · exact Sp.mem (by simp)
    · exact Sp.mono (fun y hy => by simp [hy]) ((h x).2 (Sp.mem hx))
/-- What is left, times what is not 0, does as well as the row. -/
theorem left_same (R : List (Nat × V)) (v : V) {c : Fb} (hc : c ≠ zero) : Same (smul c (left v R) :: rows R) (v :: rows R) := by
  refine Same.of (fun x hx => ?_) fun x hx => ?_
  · rcases List.mem_cons.1 hx with rfl | hx
    · exact Sp.smul _ (Sp.add (Sp.mem (by simp)) (Sp.mono (fun y hy => by simp [hy]) (pick_in v R)))
    · exact Sp.mem (by simp [hx])
  · rcases List.mem_cons.1 hx with rfl | hx
    · have h1 : Sp (smul c (left x R) :: rows R) (left x R) := by
        have := Sp.smul (inv c) (Sp.mem (A := smul c (left x R) :: rows R) (x := smul c (left x R)) (by simp))
        rwa [smul_smul, inv_mul c hc, one_smul] at this
      have h2 := Sp.add h1 (Sp.mono (B := smul c (left x R) :: rows R) (fun y hy => by simp [hy]) (pick_in x R))
      rwa [left_back] at h2
    · exact Sp.mem (by simp [hx])
/-- One more row: the reduced rows, and how many. -/
theorem rref_more {n : Nat} {R : List (Nat × V)} (h : Rref R) (hR : ∀ x ∈ rows R, Supp n x) {v : V} (hv : Supp n v) :
    ∃ S, Rref S ∧ Same (rows S) (v :: rows R) ∧ (Sp (rows R) v → S = R) ∧ (¬ Sp (rows R) v → S.length = R.length + 1) := by
  by_cases c : left v R = vzero
  · have hin := (left_zero h v).1 c
    exact ⟨R, h, (mem_cons_same hin).symm, fun _ => rfl, fun c' => absurd hin c'⟩
  · have hin : ¬ Sp (rows R) v := fun c' => c ((left_zero h v).2 c')
    obtain ⟨k, -, hk⟩ := begins_exists (v := left v R) (Supp.add hv (Sp.supp hR (pick_in v R))) c
    refine ⟨grow R (smul (inv (left v R k)) (left v R)) k, grow_rref h (inv_mul _ hk.1) (fun j hj => ?_) (fun p x hx => ?_), (grow_same _ _ _).trans (left_same R v (inv_ne _ hk.1)), fun c' => absurd c' hin, fun _ => ?_⟩
    · show mul _ (left v R j) = zero
      rw [hk.2 j hj, mul_zero]
    · show mul _ (left v R p) = zero
      rw [left_at h v hx, mul_zero]
    · simp [grow, insAt_length]
theorem Rref.nil : Rref [] := ⟨List.Pairwise.nil, fun _ _ h => absurd h (by simp), fun _ _ h => absurd h (by simp), fun _ _ _ _ h => absurd h (by simp)⟩
/-- Each list of rows has its reduced rows, not more of them. -/
theorem rref_exists {n : Nat} : ∀ A : List V, (∀ x ∈ A, Supp n x) → ∃ R, Rref R ∧ Same (rows R) A ∧ R.length ≤ A.length
  | [], _ => ⟨[], Rref.nil, Same.refl _, Nat.le_refl _⟩
  | v :: A, h => by
    obtain ⟨R, hR, hs, hl⟩ := rref_exists A fun x hx => h x (by simp [hx])
    have hsup : ∀ x ∈ rows R, Supp n x := fun x hx => Sp.supp (fun y hy => h y (by simp [hy])) ((hs x).1 (Sp.mem hx))
    obtain ⟨S, hS, hs', h1, h2⟩ := rref_more hR hsup (h v (by simp))
    refine ⟨S, hS, hs'.trans (hs.cons v), ?_⟩
    by_cases c : Sp (rows R) v
    · rw [h1 c]
      exact Nat.le_succ_of_le hl
    · rw [h2 c]
      exact Nat.succ_le_succ hl

/-! ### Ranks -/
/-- R is what A is reduced to. -/
def Red (A : List V) (R : List (Nat × V)) : Prop := Rref R ∧ Same (rows R) A
open Classical in
noncomputable def rk (A : List V) : Nat := if h : ∃ R, Red A R then h.choose.length else 0
theorem rk_eq {A : List V} {R : List (Nat × V)} (h : Red A R) : rk A = R.length := by
  have he : ∃ R, Red A R := ⟨R, h⟩
  unfold rk
  rw [dif_pos he]
  have := he.choose_spec
  rw [rref_unique this.1 h.1 (this.2.trans h.2.symm)]
theorem rk_same {A B : List V} (h : Same A B) : rk A = rk B := by
  have : Red A = Red B := funext fun R => propext ⟨fun c => ⟨c.1, c.2.trans h⟩, fun c => ⟨c.1, c.2.trans h.symm⟩⟩
  unfold rk
  rw [this]
theorem red_exists {n : Nat} {A : List V} (h : ∀ x ∈ A, Supp n x) : ∃ R, Red A R ∧ rk A = R.length := by
  obtain ⟨R, h1, h2, -⟩ := rref_exists A h
  exact ⟨R, ⟨h1, h2⟩, rk_eq ⟨h1, h2⟩⟩
theorem rk_le_len {n : Nat} {A : List V} (h : ∀ x ∈ A, Supp n x) : rk A ≤ A.length := by
  obtain ⟨R, h1, h2, h3⟩ := rref_exists A h
  rw [rk_eq ⟨h1, h2⟩]
  exact h3
theorem red_supp {n : Nat} {A : List V} {R : List (Nat × V)} (hr : Red A R) (h : ∀ x ∈ A, Supp n x) : ∀ x ∈ rows R, Supp n x :=
  fun x hx => Sp.supp h ((hr.2 x).1 (Sp.mem hx))
/-- Places that rise, all below n, are not more than n. -/
theorem places_le : ∀ (R : List (Nat × V)) (b n : Nat), R.Pairwise (fun x y => x.1 < y.1) → (∀ a ∈ R, b ≤ a.1 ∧ a.1 < n) → R.length ≤ n - b
  | [], _, _, _, _ => Nat.zero_le _
  | a :: R, b, n, h, hb => by
    have h' := List.pairwise_cons.1 h
    have ha := hb a (by simp)
    have := places_le R (a.1 + 1) n h'.2 fun c hc => ⟨h'.1 c hc, (hb c (by simp [hc])).2⟩
    simp only [List.length_cons]
    omega
theorem rref_place_lt {n : Nat} {R : List (Nat × V)} (h : Rref R) (hs : ∀ x ∈ rows R, Supp n x) {p : Nat} {x : V} (hx : (p, x) ∈ R) : p < n := by
  by_cases c : p < n
  · exact c
  · have := hs x (List.mem_map.2 ⟨(p, x), hx, rfl⟩) p (by omega)
    rw [h.lead p x hx] at this
    exact absurd this one_ne
theorem rk_le_cols {n : Nat} {A : List V} (h : ∀ x ∈ A, Supp n x) : rk A ≤ n := by
  obtain ⟨R, hr, e⟩ := red_exists h
  rw [e]
  have := places_le R 0 n hr.1.sorted fun a ha => ⟨Nat.zero_le _, rref_place_lt hr.1 (red_supp hr h) (x := a.2) ha⟩
  omega
/-- Places of the one that are all places of the other are not more. -/
theorem places_sub : ∀ (R S : List (Nat × V)), R.Pairwise (fun x y => x.1 < y.1) → S.Pairwise (fun x y => x.1 < y.1) → (∀ a ∈ R, ∃ b ∈ S, b.1 = a.1) → R.length ≤ S.length
  | [], _, _, _, _ => Nat.zero_le _
  | a :: R, [], _, _, h => by
    obtain ⟨b, hb, -⟩ := h a (by simp)
    cases hb
  | a :: R, b :: S, hR, hS, h => by
    have hR' := List.pairwise_cons.1 hR
    have hS' := List.pairwise_cons.1 hS
    obtain ⟨c, hc, ec⟩ := h a (by simp)
    have hba : b.1 ≤ a.1 := by
      rcases List.mem_cons.1 hc with rfl | hc
      · omega
      · have := hS'.1 c hc
        omega
    refine Nat.succ_le_succ (places_sub R S hR'.2 hS'.2 fun d hd => ?_)
    obtain ⟨e, he, ee⟩ := h d (by simp [hd])
    rcases List.mem_cons.1 he with rfl | he
    · have := hR'.1 d hd
      omega
    · exact ⟨e, he, ee⟩
theorem rk_mono {n : Nat} {A B : List V} (hA : ∀ x ∈ A, Supp n x) (hB : ∀ x ∈ B, Supp n x) (h : ∀ x ∈ A, Sp B x) : rk A ≤ rk B := by
  obtain ⟨R, hr, e⟩ := red_exists hA
  obtain ⟨S, hs, e'⟩ := red_exists hB
  rw [e, e']
  refine places_sub R S hr.1.sorted hs.1.sorted fun a ha => ?_
  obtain ⟨p, x⟩ := a
  have hx : Sp (rows R) x := Sp.mem (List.mem_map.2 ⟨(p, x), ha, rfl⟩)
  have hxs : Sp (rows S) x := (hs.2 x).2 (Sp.trans h ((hr.2 x).1 hx))
  obtain ⟨y, hy⟩ := begins_at hs.1 hxs (lead_begins hr.1 ha)
  exact ⟨(p, y), hy, rfl⟩
/-- The rank with one more row. -/
theorem rk_cons {n : Nat} {A : List V} (hA : ∀ x ∈ A, Supp n x) {v : V} (hv : Supp n v) : (Sp A v → rk (v :: A) = rk A) ∧ (¬ Sp A v → rk (v :: A) = rk A + 1) := by
  obtain ⟨R, hr, e⟩ := red_exists hA
  obtain ⟨S, hS, hs, h1, h2⟩ := rref_more hr.1 (red_supp hr hA) hv
  have hrS : Red (v :: A) S := ⟨hS, hs.trans (hr.2.cons v)⟩
  rw [e, rk_eq hrS]
  refine ⟨fun c => by rw [h1 ((hr.2 v).2 c)], fun c => h2 fun c' => c ((hr.2 v).1 c')⟩
/-- Full rank: all is spanned. -/
theorem full_span {n : Nat} {A : List V} (hA : ∀ x ∈ A, Supp n x) (h : rk A = n) {v : V} (hv : Supp n v) : Sp A v := by
  by_cases c : Sp A v
  · exact c
  · have h1 := (rk_cons hA hv).2 c
    have h2 := rk_le_cols (A := v :: A) (n := n) fun x hx => by
      rcases List.mem_cons.1 hx with rfl | hx
      · exact hv
      · exact hA x hx
    omega

/-! ### Columns -/
def rowAt (A : List V) (i : Nat) : V := (A[i]?).getD vzero
def col (A : List V) (j : Nat) : V := fun i => rowAt A i j
def tr (n : Nat) (A : List V) : List V := (List.range n).map (col A)
theorem rowAt_mem {A : List V} {i : Nat} (h : i < A.length) : rowAt A i ∈ A := by
  unfold rowAt
  rw [List.getElem?_eq_getElem h]
  exact List.getElem_mem h
theorem rowAt_out {A : List V} {i : Nat} (h : A.length ≤ i) : rowAt A i = vzero := by
  unfold rowAt
  rw [List.getElem?_eq_none h]
  rfl
theorem col_supp (A : List V) (j : Nat) : Supp A.length (col A j) := fun i hi => by
  show rowAt A i j = zero
  rw [rowAt_out hi]
  rfl
theorem tr_supp (n : Nat) (A : List V) : ∀ x ∈ tr n A, Supp A.length x := by
  intro x hx
  obtain ⟨j, -, rfl⟩ := List.mem_map.1 hx
  exact col_supp A j
theorem tr_length (n : Nat) (A : List V) : (tr n A).length = n := by simp [tr]
theorem rowAt_tr {n : Nat} {A : List V} {j : Nat} (h : j < n) : rowAt (tr n A) j = col A j := by
  unfold rowAt tr
  simp [h]
theorem tr_tr {n : Nat} {A : List V} (h : ∀ x ∈ A, Supp n x) : tr A.length (tr n A) = A := by
  apply List.ext_getElem
  · simp [tr]
  · intro i h1 h2
    have : (tr A.length (tr n A))[i] = col (tr n A) i := by simp [tr]
    rw [this]
    funext j
    show rowAt (tr n A) j i = A[i] j
    by_cases c : j < n
    · rw [rowAt_tr c]
      show rowAt A i j = _
      unfold rowAt
      rw [List.getElem?_eq_getElem h2]
      rfl
    · rw [rowAt_out (by rw [tr_length]; omega), h _ (List.getElem_mem h2) j (by omega)]
      rfl
/-- The sum of the columns where rows begin, each times what the row has at j. -/
def colSum (A : List V) (j : Nat) : List (Nat × V) → V
  | [] => vzero
  | (p, x) :: R => vadd (smul (x j) (col A p)) (colSum A j R)
theorem colSum_at (A : List V) (j i : Nat) : ∀ R, colSum A j R i = pick (rowAt A i) R j
  | [] => rfl
  | (p, x) :: R => by
    show add (mul (x j) (rowAt A i p)) (colSum A j R i) = add (mul (rowAt A i p) (x j)) (pick (rowAt A i) R j)
    rw [colSum_at A j i R, mul_comm]
theorem colSum_in (A : List V) (j : Nat) : ∀ R, Sp (R.map fun a => col A a.1) (colSum A j R)
  | [] => Sp.zero
  | (p, x) :: R => Sp.step _ _ _ (by simp) (Sp.mono (fun y hy => List.mem_cons_of_mem _ hy) (colSum_in A j R))
theorem rk_tr_le {n : Nat} {A : List V} (h : ∀ x ∈ A, Supp n x) : rk (tr n A) ≤ rk A := by
  obtain ⟨R, hr, e⟩ := red_exists h
  have hC : ∀ x ∈ R.map (fun a => col A a.1), Supp A.length x := by
    intro x hx
    obtain ⟨a, -, rfl⟩ := List.mem_map.1 hx
    exact col_supp A a.1
  have h1 : rk (tr n A) ≤ rk (R.map fun a => col A a.1) := by
    refine rk_mono (tr_supp n A) hC fun x hx => ?_
    obtain ⟨j, -, rfl⟩ := List.mem_map.1 hx
    have : col A j = colSum A j R := by
      funext i
      rw [colSum_at]
      show rowAt A i j = _
      by_cases c : i < A.length
      · rw [pick_span hr.1 ((hr.2 _).2 (Sp.mem (rowAt_mem c)))]
      · rw [rowAt_out (by omega), pick_none vzero R fun _ _ _ => rfl]
    rw [this]
    exact colSum_in A j R
  have h2 := rk_le_len hC
  rw [List.length_map] at h2
  omega
/-- The rank of the columns is the rank of the rows. -/
theorem rk_tr {n : Nat} {A : List V} (h : ∀ x ∈ A, Supp n x) : rk (tr n A) = rk A := by
  have h1 := rk_tr_le h
  have h2 := rk_tr_le (tr_supp n A)
  rw [tr_tr h] at h2
  omega

/-! ### Products -/
/-- The sum of the rows of X, each times the element of c with its index. -/
def lc (c : V) : List V → V
  | [] => vzero
  | x :: X => vadd (smul (c 0) x) (lc (fun i => c (i + 1)) X)
theorem lc_in (c : V) : ∀ X, Sp X (lc c X)
  | [] => Sp.zero
  | x :: X => Sp.step _ x _ (by simp) (Sp.mono (fun y hy => by simp [hy]) (lc_in _ X))
theorem lc_zero : ∀ X, lc vzero X = vzero
  | [] => rfl
  | x :: X => by
    show vadd (smul zero x) (lc vzero X) = vzero
    rw [lc_zero X, zero_smul, vadd_zero]
theorem lc_add : ∀ (X : List V) (c d : V), lc (vadd c d) X = vadd (lc c X) (lc d X)
  | [], _, _ => (vadd_zero _).symm
  | x :: X, c, d => by
    show vadd (smul (add (c 0) (d 0)) x) (lc (vadd (fun i => c (i + 1)) (fun i => d (i + 1))) X) = vadd (vadd (smul (c 0) x) (lc (fun i => c (i + 1)) X)) (vadd (smul (d 0) x) (lc (fun i => d (i + 1)) X))
    rw [lc_add X, add_smul, vadd_assoc, vadd_assoc, vadd_left_comm (smul (d 0) x)]
theorem lc_smul : ∀ (X : List V) (k : Fb) (c : V), lc (smul k c) X = smul k (lc c X)
  | [], k, _ => (smul_zero k).symm
  | x :: X, k, c => by
    show vadd (smul (mul k (c 0)) x) (lc (smul k fun i => c (i + 1)) X) = smul k (vadd (smul (c 0) x) (lc (fun i => c (i + 1)) X))
    rw [lc_smul X, smul_add, smul_smul]
theorem lc_supp {n : Nat} {X : List V} (h : ∀ x ∈ X, Supp n x) (c : V) : Supp n (lc c X) := Sp.supp h (lc_in c X)
def mulM (A X : List V) : List V := A.map fun a => lc a X
theorem mulM_supp {n : Nat} {A X : List V} (h : ∀ x ∈ X, Supp n x) : ∀ x ∈ mulM A X, Supp n x := by
  intro x hx
  obtain ⟨a, -, rfl⟩ := List.mem_map.1 hx
  exact lc_supp h a
theorem Sp.lc {A : List V} (X : List V) {v : V} (hv : Sp A v) : Sp (mulM A X) (L.lc v X) := by
  induction hv with
  | zero => rw [lc_zero]; exact Sp.zero
  | step c x v hx _ ih =>
    rw [lc_add, lc_smul]
    exact Sp.step c _ _ (List.mem_map.2 ⟨x, hx, rfl⟩) ih
theorem rk_mul_right {n : Nat} {A X : List V} (h : ∀ x ∈ X, Supp n x) : rk (mulM A X) ≤ rk X :=
  rk_mono (mulM_supp h) h fun x hx => by
    obtain ⟨a, -, rfl⟩ := List.mem_map.1 hx
    exact lc_in a X
theorem rk_mul_left {n m : Nat} {A X : List V} (hA : ∀ x ∈ A, Supp m x) (h : ∀ x ∈ X, Supp n x) : rk (mulM A X) ≤ rk A := by
  obtain ⟨R, hr, e⟩ := red_exists hA
  have h1 : rk (mulM A X) ≤ rk (mulM (rows R) X) := rk_mono (mulM_supp h) (mulM_supp h) fun x hx => by
    obtain ⟨a, ha, rfl⟩ := List.mem_map.1 hx
    exact Sp.lc X ((hr.2 a).2 (Sp.mem ha))
  have h2 := rk_le_len (mulM_supp (A := rows R) h)
  have h3 : (mulM (rows R) X).length = R.length := by simp [mulM, rows]
  omega
/-- What has index i alone. -/
def unit (i : Nat) : V := fun j => if j = i then one else zero
theorem unit_supp {n i : Nat} (h : i < n) : Supp n (unit i) := fun k hk => by
  unfold unit
  rw [if_neg (by omega)]
theorem lc_unit : ∀ (X : List V) (i : Nat), lc (unit i) X = rowAt X i
  | [], i => by simp [lc, rowAt]
  | x :: X, 0 => by
    have : (fun i => unit 0 (i + 1)) = vzero := funext fun i => by simp [unit, vzero]
    show vadd (smul (unit 0 0) x) (lc (fun i => unit 0 (i + 1)) X) = _
    rw [this, lc_zero, vadd_zero]
    simp [unit, one_smul, rowAt]
  | x :: X, i + 1 => by
    have : (fun j => unit (i + 1) (j + 1)) = unit i := funext fun j => by simp [unit]
    show vadd (smul (unit (i + 1) 0) x) (lc (fun j => unit (i + 1) (j + 1)) X) = _
    rw [this, lc_unit X i]
    simp [unit, zero_smul, vzero_add, rowAt]
/-- With all the rank, a product has just one right factor of as many rows. -/
theorem lc_span_eq {A : List V} {X Y : List V} (h : ∀ a ∈ A, lc a X = lc a Y) {v : V} (hv : Sp A v) : lc v X = lc v Y := by
  induction hv with
  | zero => rw [lc_zero, lc_zero]
  | step c x v hx _ ih => rw [lc_add, lc_add, lc_smul, lc_smul, ih, h x hx]
theorem mul_unique {n : Nat} {A X Y : List V} (hA : ∀ x ∈ A, Supp n x) (hr : rk A = n) (hX : X.length = n) (hY : Y.length = n) (h : mulM A X = mulM A Y) : X = Y := by
  have h' : ∀ a ∈ A, lc a X = lc a Y := List.map_inj_left.1 h
  apply List.ext_getElem (by rw [hX, hY])
  intro i h1 h2
  have := lc_span_eq h' (full_span hA hr (unit_supp (by omega : i < n)))
  rw [lc_unit, lc_unit] at this
  unfold rowAt at this
  rwa [List.getElem?_eq_getElem h1, List.getElem?_eq_getElem h2] at this
end Go.Proofs.Ytmbikmlknbinpaa.L
namespace Go.Proofs.Ytmbikmlknbinpaa.L

/-- X is what A has become behind col columns; ps: where its first rows begin. -/
structure Ech (A X : List V) (ps : List Nat) (c : Nat) : Prop where
  same : Same X A
  psort : ps.Pairwise (· < ·)
  plt : ∀ p ∈ ps, p < c
  lead : ∀ t p, ps[t]? = some p → rowAt X t p = one
  ahead : ∀ t p, ps[t]? = some p → ∀ j, j < p → rowAt X t j = zero
  apart : ∀ t p, ps[t]? = some p → ∀ s, s ≠ t → rowAt X s p = zero
  rest : ∀ s, ps.length ≤ s → ∀ j, j < c → rowAt X s j = zero
  le : ps.length ≤ X.length
theorem Ech.start (A : List V) : Ech A A [] 0 :=
  ⟨Same.refl A, List.Pairwise.nil, by simp, by simp, by simp, by simp, fun _ _ j hj => absurd hj (Nat.not_lt_zero _), Nat.zero_le _⟩
/-- Nothing is found. -/
theorem Ech.skip {A X : List V} {ps : List Nat} {c : Nat} (h : Ech A X ps c) (h0 : ∀ s, ps.length ≤ s → rowAt X s c = zero) : Ech A X ps (c + 1) :=
  ⟨h.same, h.psort, fun p hp => Nat.lt_succ_of_lt (h.plt p hp), h.lead, h.ahead, h.apart, fun s hs j hj => by
    rcases Nat.lt_succ_iff_lt_or_eq.1 hj with e | rfl
    · exact h.rest s hs j e
    · exact h0 s hs, h.le⟩
theorem rowAt_set (X : List V) (i : Nat) (v : V) (s : Nat) : rowAt (X.set i v) s = if i = s ∧ s < X.length then v else rowAt X s := by
  unfold rowAt
  rw [List.getElem?_set]
  by_cases e : i = s
  · subst e
    by_cases h : i < X.length
    · simp [h]
    · simp [h]
  · simp [e]
theorem mem_rowAt {X : List V} {x : V} (h : x ∈ X) : ∃ i, i < X.length ∧ rowAt X i = x := by
  obtain ⟨i, hi, rfl⟩ := List.getElem_of_mem h
  exact ⟨i, hi, by unfold rowAt; rw [List.getElem?_eq_getElem hi]; rfl⟩
theorem Sp.rowAt (X : List V) (i : Nat) : Sp X (L.rowAt X i) := by
  by_cases h : i < X.length
  · exact Sp.mem (rowAt_mem h)
  · rw [rowAt_out (by omega)]
    exact Sp.zero
theorem lt_ps {ps : List Nat} {t p : Nat} (h : ps[t]? = some p) : t < ps.length := (List.getElem?_eq_some_iff.1 h).1
/-- Two rows behind the first ones change places. -/
theorem Ech.swap {A X : List V} {ps : List Nat} {c a d : Nat} (h : Ech A X ps c) (ha : ps.length ≤ a) (ha2 : a < X.length) (hd : ps.length ≤ d) (hd2 : d < X.length) :
    Ech A ((X.set a (rowAt X d)).set d (rowAt X a)) ps c := by
  have key : ∀ s, ∃ s', rowAt ((X.set a (rowAt X d)).set d (rowAt X a)) s = rowAt X s' ∧ (s < ps.length → s' = s) ∧ (ps.length ≤ s → ps.length ≤ s') := by
    intro s
    rw [rowAt_set, rowAt_set, List.length_set]
    by_cases e : d = s ∧ s < X.length
    · rw [if_pos e]
      exact ⟨a, rfl, fun c => by omega, fun _ => ha⟩
    · rw [if_neg e]
      by_cases e2 : a = s ∧ s < X.length
      · rw [if_pos e2]
        exact ⟨d, rfl, fun c => by omega, fun _ => hd⟩
      · rw [if_neg e2]
        exact ⟨s, rfl, fun _ => rfl, fun h => h⟩
  have hsame : Same ((X.set a (rowAt X d)).set d (rowAt X a)) X := by
    refine Same.of (fun x hx => ?_) fun x hx => ?_
    · obtain ⟨s, -, rfl⟩ := mem_rowAt hx
      obtain ⟨s', e, -⟩ := key s
      rw [e]
      exact Sp.rowAt X s'
    · obtain ⟨s, hs, rfl⟩ := mem_rowAt hx
      by_cases e : s = a
      · subst e
        have := Sp.rowAt ((X.set s (rowAt X d)).set d (rowAt X s)) d
        rwa [rowAt_set, List.length_set, if_pos ⟨rfl, hd2⟩] at this
      · by_cases e2 : s = d
        · subst e2
          have := Sp.rowAt ((X.set a (rowAt X s)).set s (rowAt X a)) a
          rw [rowAt_set, List.length_set, if_neg (fun c => e c.1), rowAt_set, if_pos ⟨rfl, ha2⟩] at this
          exact this
        · have := Sp.rowAt ((X.set a (rowAt X d)).set d (rowAt X a)) s
          rw [rowAt_set, List.length_set, if_neg (fun c => e2 c.1.symm), rowAt_set, if_neg (fun c => e c.1.symm)] at this
          exact this
  refine ⟨hsame.trans h.same, h.psort, h.plt, fun t p hp => ?_, fun t p hp j hj => ?_, fun t p hp s hs => ?_, fun s hs j hj => ?_, by simp; exact h.le⟩
  · obtain ⟨s', e, h1, -⟩ := key t
    rw [e, h1 (lt_ps hp)]
    exact h.lead t p hp
  · obtain ⟨s', e, h1, -⟩ := key t
    rw [e, h1 (lt_ps hp)]
    exact h.ahead t p hp j hj
  · obtain ⟨s', e, h1, h2⟩ := key s
    rw [e]
    refine h.apart t p hp s' fun c => ?_
    have := lt_ps hp
    by_cases c2 : s < ps.length
    · rw [h1 c2] at c
      exact hs c
    · have := h2 (by omega)
      omega
  · obtain ⟨s', e, -, h2⟩ := key s
    rw [e]
    exact h.rest s' (h2 hs) j hj
/-- One row, times what is not 0. -/
theorem Ech.scale {A X : List V} {ps : List Nat} {c d : Nat} {k : Fb} (h : Ech A X ps c) (hd : ps.length ≤ d) (hd2 : d < X.length) (hk : k ≠ zero) :
    Ech A (X.set d (smul k (rowAt X d))) ps c := by
  have other : ∀ s, s ≠ d → rowAt (X.set d (smul k (rowAt X d))) s = rowAt X s := fun s hs => by rw [rowAt_set, if_neg (fun c => hs c.1.symm)]
  have this' : rowAt (X.set d (smul k (rowAt X d))) d = smul k (rowAt X d) := by rw [rowAt_set, if_pos ⟨rfl, hd2⟩]
  have zero_at : ∀ s j, rowAt X s j = zero → rowAt (X.set d (smul k (rowAt X d))) s j = zero := by
    intro s j h0
    by_cases e : s = d
    · subst e
      rw [this']
      show mul k (rowAt X s j) = zero
      rw [h0, mul_zero]
    · rw [other s e, h0]
  have hsame : Same (X.set d (smul k (rowAt X d))) X := by
    refine Same.of (fun x hx => ?_) fun x hx => ?_
    · obtain ⟨s, -, rfl⟩ := mem_rowAt hx
      by_cases e : s = d
      · subst e
        rw [this']
        exact Sp.smul k (Sp.rowAt X s)
      · rw [other s e]
        exact Sp.rowAt X s
    · obtain ⟨s, hs, rfl⟩ := mem_rowAt hx
      by_cases e : s = d
      · subst e
        have := Sp.smul (inv k) (Sp.rowAt (X.set s (smul k (rowAt X s))) s)
        rwa [this', smul_smul, inv_mul k hk, one_smul] at this
      · have := Sp.rowAt (X.set d (smul k (rowAt X d))) s
        rwa [other s e] at this
  refine ⟨hsame.trans h.same, h.psort, h.plt, fun t p hp => ?_, fun t p hp j hj => zero_at _ _ (h.ahead t p hp j hj), fun t p hp s hs => zero_at _ _ (h.apart t p hp s hs), fun s hs j hj => zero_at _ _ (h.rest s hs j hj), by simp; exact h.le⟩
  rw [other t (by have := lt_ps hp; omega)]
  exact h.lead t p hp
/-- One row, plus another one that begins behind, times something. -/
theorem Ech.add {A X : List V} {ps : List Nat} {c d i : Nat} {k : Fb} (h : Ech A X ps c) (hd : ps.length ≤ d) (hi : i ≠ d) (hi2 : i < X.length) :
    Ech A (X.set i (vadd (rowAt X i) (smul k (rowAt X d)))) ps c := by
  have other : ∀ s, s ≠ i → rowAt (X.set i (vadd (rowAt X i) (smul k (rowAt X d)))) s = rowAt X s := fun s hs => by rw [rowAt_set, if_neg (fun c => hs c.1.symm)]
  have this' : rowAt (X.set i (vadd (rowAt X i) (smul k (rowAt X d)))) i = vadd (rowAt X i) (smul k (rowAt X d)) := by rw [rowAt_set, if_pos ⟨rfl, hi2⟩]
  have as_was : ∀ s j, rowAt X d j = zero → rowAt (X.set i (vadd (rowAt X i) (smul k (rowAt X d)))) s j = rowAt X s j := by
    intro s j h0
    by_cases e : s = i
    · subst e
      rw [this']
      show L.add (rowAt X s j) (mul k (rowAt X d j)) = _
      rw [h0, mul_zero, add_zero]
    · rw [other s e]
  have hsame : Same (X.set i (vadd (rowAt X i) (smul k (rowAt X d)))) X := by
    refine Same.of (fun x hx => ?_) fun x hx => ?_
    · obtain ⟨s, -, rfl⟩ := mem_rowAt hx
      by_cases e : s = i
      · subst e
        rw [this']
        exact Sp.add (Sp.rowAt X s) (Sp.smul k (Sp.rowAt X d))
      · rw [other s e]
        exact Sp.rowAt X s
    · obtain ⟨s, hs, rfl⟩ := mem_rowAt hx
      by_cases e : s = i
      · subst e
        have h1 := Sp.rowAt (X.set s (vadd (rowAt X s) (smul k (rowAt X d)))) s
        have h2 := Sp.smul k (Sp.rowAt (X.set s (vadd (rowAt X s) (smul k (rowAt X d)))) d)
        rw [this'] at h1
        rw [other d (fun c => hi c.symm)] at h2
        have := Sp.add h1 h2
        rwa [vadd_assoc, vadd_self, vadd_zero] at this
      · have := Sp.rowAt (X.set i (vadd (rowAt X i) (smul k (rowAt X d)))) s
        rwa [other s e] at this
  have dz : ∀ t p, ps[t]? = some p → rowAt X d p = zero := fun t p hp => h.apart t p hp d (by have := lt_ps hp; omega)
  refine ⟨hsame.trans h.same, h.psort, h.plt, fun t p hp => ?_, fun t p hp j hj => ?_, fun t p hp s hs => ?_, fun s hs j hj => ?_, by simp; exact h.le⟩
  · rw [as_was t p (dz t p hp)]
    exact h.lead t p hp
  · have hpc := h.plt p (List.mem_of_getElem? hp)
    rw [as_was t j (h.rest d hd j (by omega))]
    exact h.ahead t p hp j hj
  · rw [as_was s p (dz t p hp)]
    exact h.apart t p hp s hs
  · rw [as_was s j (h.rest d hd j hj)]
    exact h.rest s hs j hj
/-- The column is done. -/
theorem Ech.next {A X : List V} {ps : List Nat} {c : Nat} (h : Ech A X ps c) (hl : ps.length < X.length) (h1 : rowAt X ps.length c = one) (h0 : ∀ s, s ≠ ps.length → rowAt X s c = zero) : Ech A X (ps ++ [c]) (c + 1) := by
  have get : ∀ t p, (ps ++ [c])[t]? = some p → ps[t]? = some p ∨ (t = ps.length ∧ p = c) := by
    intro t p hp
    by_cases e : t < ps.length
    · rw [List.getElem?_append_left e] at hp
      exact .inl hp
    · rw [List.getElem?_append_right (by omega)] at hp
      by_cases e2 : t = ps.length
      · subst e2
        simp at hp
        exact .inr ⟨rfl, hp.symm⟩
      · rw [List.getElem?_eq_none (by simp; omega)] at hp
        cases hp
  refine ⟨h.same, ?_, ?_, fun t p hp => ?_, fun t p hp j hj => ?_, fun t p hp s hs => ?_, fun s hs j hj => ?_, by simp; omega⟩
  · rw [List.pairwise_append]
    exact ⟨h.psort, by simp, fun a ha b hb => by simp at hb; subst hb; exact h.plt a ha⟩
  · intro p hp
    rcases List.mem_append.1 hp with hp | hp
    · exact Nat.lt_succ_of_lt (h.plt p hp)
    · simp at hp
      omega
  · rcases get t p hp with hp | ⟨rfl, rfl⟩
    · exact h.lead t p hp
    · exact h1
  · rcases get t p hp with hp | ⟨rfl, rfl⟩
    · exact h.ahead t p hp j hj
    · exact h.rest _ (Nat.le_refl _) j hj
  · rcases get t p hp with hp | ⟨rfl, rfl⟩
    · exact h.apart t p hp s hs
    · exact h0 s hs
  · rw [List.length_append, List.length_singleton] at hs
    rcases Nat.lt_succ_iff_lt_or_eq.1 hj with e | rfl
    · exact h.rest s (by omega) j e
    · exact h0 s (by omega)
/-- Behind the last column: the first rows are what A is reduced to. -/
theorem Ech.done {A X : List V} {ps : List Nat} {c : Nat} (h : Ech A X ps c) (hs : ∀ x ∈ X, Supp c x) : Red A (ps.zip (X.take ps.length)) ∧ rows (ps.zip (X.take ps.length)) = X.take ps.length := by
  have hlen : (X.take ps.length).length = ps.length := by rw [List.length_take]; have := h.le; omega
  have hrows : rows (ps.zip (X.take ps.length)) = X.take ps.length := by
    unfold rows
    exact List.map_snd_zip (by rw [hlen]; exact Nat.le_refl _)
  have get : ∀ p x, (p, x) ∈ ps.zip (X.take ps.length) → ∃ t, ps[t]? = some p ∧ rowAt X t = x := by
    intro p x hm
    obtain ⟨t, ht⟩ := List.getElem?_of_mem hm
    rw [List.getElem?_zip_eq_some] at ht
    refine ⟨t, ht.1, ?_⟩
    have hx := ht.2
    rw [List.getElem?_take_of_lt (lt_ps ht.1)] at hx
    unfold rowAt
    rw [hx]
    rfl
  have zrow : ∀ s, ps.length ≤ s → rowAt X s = vzero := by
    intro s hs'
    funext j
    by_cases e : j < c
    · exact h.rest s hs' j e
    · by_cases e2 : s < X.length
      · exact hs _ (rowAt_mem e2) j (by omega)
      · rw [rowAt_out (by omega)]
  refine ⟨⟨⟨?_, fun p x hm => ?_, fun p x hm k hk => ?_, fun p x q y hm hm' hne => ?_⟩, ?_⟩, hrows⟩
  · have : ((ps.zip (X.take ps.length)).map (·.1)).Pairwise (· < ·) := by
      rw [List.map_fst_zip (by rw [hlen]; exact Nat.le_refl _)]
      exact h.psort
    exact List.pairwise_map.1 this
  · obtain ⟨t, hp, rfl⟩ := get p x hm
    exact h.lead t p hp
  · obtain ⟨t, hp, rfl⟩ := get p x hm
    exact h.ahead t p hp k hk
  · obtain ⟨t, hp, rfl⟩ := get p x hm
    obtain ⟨t', hq, rfl⟩ := get q y hm'
    refine h.apart t' q hq t fun e => hne ?_
    subst e
    rw [hp] at hq
    exact Option.some.inj hq
  · rw [hrows]
    refine Same.trans (Same.of (fun x hx => Sp.mem (List.mem_of_mem_take hx)) fun x hx => ?_) h.same
    obtain ⟨s, hs', rfl⟩ := mem_rowAt hx
    by_cases e : s < ps.length
    · refine Sp.mem ?_
      have : (X.take ps.length)[s]? = some (rowAt X s) := by
        rw [List.getElem?_take_of_lt e]
        unfold rowAt
        rw [List.getElem?_eq_getElem hs']
        rfl
      exact List.mem_of_getElem? this
    · rw [zrow s (by omega)]
      exact Sp.zero
end Go.Proofs.Ytmbikmlknbinpaa.L
namespace Go.Proofs.Ytmbikmlknbinpaa
open Go.RowKit

def fb (z : Int) : L.Fb := ⟨z.toNat % 256, Nat.mod_lt _ (by decide)⟩
def vec (l : List Int) : L.V := fun i => fb (l.getD i 0)
theorem fb_zero : fb 0 = L.zero := rfl
theorem fb_one : fb 1 = L.one := rfl
theorem fb_inj {a b : Int} (ha : Byt a) (hb : Byt b) (h : fb a = fb b) : a = b := by
  unfold Byt at *
  have := congrArg L.Fb.n h
  simp only [fb] at this
  omega
theorem fb_add {a b : Int} (ha : Byt a) (hb : Byt b) : fb (addZ a b) = L.add (fb a) (fb b) := by
  unfold Byt at *
  apply L.Fb.ext
  simp only [fb, L.add, addZ, Int.toNat_natCast]
  rw [Nat.mod_eq_of_lt (show a.toNat < 256 by omega), Nat.mod_eq_of_lt (show b.toNat < 256 by omega)]
  exact Nat.mod_eq_of_lt (M.xor_lt (by omega) (by omega))
theorem fb_mul {a b : Int} (ha : Byt a) (hb : Byt b) : fb (mulZ a b) = L.mul (fb a) (fb b) := by
  unfold Byt at *
  apply L.Fb.ext
  simp only [fb, L.mul, mulZ, Int.toNat_natCast]
  rw [Nat.mod_eq_of_lt (show a.toNat < 256 by omega), Nat.mod_eq_of_lt (show b.toNat < 256 by omega)]
  exact Nat.mod_eq_of_lt (M.mulN_lt _ _)
theorem fb_inv {a : Int} (ha : Byt a) : fb (invZ a) = L.inv (fb a) := by
  unfold Byt at *
  apply L.Fb.ext
  simp only [fb, L.inv, invZ, Int.toNat_natCast]
  rw [Nat.mod_eq_of_lt (show a.toNat < 256 by omega)]
  exact Nat.mod_eq_of_lt (M.invN_lt _)
theorem fb_ne {a : Int} (ha : Byt a) (h : a ≠ 0) : fb a ≠ L.zero := fun c => h (fb_inj ha (by unfold Byt; omega) (by rw [c, fb_zero]))
theorem getD_byt {l : List Int} (h : ∀ x ∈ l, Byt x) (i : Nat) : Byt (l.getD i 0) := by
  by_cases hi : i < l.length
  · rw [List.getD_eq_getElem?_getD, List.getElem?_eq_getElem hi]
    exact h _ (List.getElem_mem hi)
  · rw [List.getD_eq_getElem?_getD, List.getElem?_eq_none (by omega)]
    unfold Byt
    simp
theorem getD_out {l : List Int} {i : Nat} (h : l.length ≤ i) : l.getD i 0 = 0 := by
  rw [List.getD_eq_getElem?_getD, List.getElem?_eq_none h]
  rfl
theorem vec_supp {l : List Int} {n : Nat} (h : l.length = n) : L.Supp n (vec l) := fun k hk => by
  show fb (l.getD k 0) = L.zero
  rw [getD_out (by omega), fb_zero]
theorem vec_nil : vec [] = L.vzero := rfl
theorem vec_inj {x y : List Int} (hl : x.length = y.length) (hx : ∀ z ∈ x, Byt z) (hy : ∀ z ∈ y, Byt z) (h : vec x = vec y) : x = y :=
  ext_getD hl fun i _ => fb_inj (getD_byt hx i) (getD_byt hy i) (congrFun h i)
theorem vec_scale {c : Int} {x : List Int} (hc : Byt c) (hx : ∀ z ∈ x, Byt z) : vec (scaleL c x) = L.smul (fb c) (vec x) := by
  funext i
  show fb ((scaleL c x).getD i 0) = L.mul (fb c) (fb (x.getD i 0))
  by_cases h : i < x.length
  · rw [scaleL_getD _ _ _ h, fb_mul hc (getD_byt hx i)]
  · rw [getD_out (by rw [scaleL_length]; omega), getD_out (l := x) (by omega), fb_zero, L.mul_zero]
theorem vec_ax {c : Int} {x y : List Int} (hc : Byt c) (hx : ∀ z ∈ x, Byt z) (hy : ∀ z ∈ y, Byt z) (hl : x.length = y.length) : vec (axL c x y) = L.vadd (vec y) (L.smul (fb c) (vec x)) := by
  funext i
  show fb ((axL c x y).getD i 0) = L.add (fb (y.getD i 0)) (L.mul (fb c) (fb (x.getD i 0)))
  by_cases h : i < x.length
  · rw [axL_getD _ _ _ _ h, fb_add (getD_byt hy i) (mulZ_byt _ _), fb_mul hc (getD_byt hx i)]
  · rw [getD_out (by rw [axL_length]; omega), getD_out (l := x) (by omega), getD_out (l := y) (by omega), fb_zero, L.mul_zero, L.add_zero]
theorem vec_sum {x y : List Int} (hx : ∀ z ∈ x, Byt z) (hy : ∀ z ∈ y, Byt z) (hl : x.length = y.length) : vec (sumL x y) = L.vadd (vec x) (vec y) := by
  funext i
  show fb ((sumL x y).getD i 0) = L.add (fb (x.getD i 0)) (fb (y.getD i 0))
  by_cases h : i < x.length
  · rw [sumL_getD _ _ _ h, fb_add (getD_byt hx i) (getD_byt hy i)]
  · rw [getD_out (by rw [sumL_length]; omega), getD_out (l := x) (by omega), getD_out (l := y) (by omega), fb_zero, L.add_zero]
theorem rowAt_vec (A : List (List Int)) (i : Nat) : L.rowAt (A.map vec) i = vec (A.getD i []) := by
  unfold L.rowAt
  rw [List.getElem?_map, List.getD_eq_getElem?_getD]
  cases A[i]? <;> rfl
theorem at_vec (A : List (List Int)) (i j : Nat) : L.rowAt (A.map vec) i j = fb ((A.getD i []).getD j 0) := by
  rw [rowAt_vec]
  rfl

/-- Rows of k bytes each. -/
def Wide (k : Nat) (A : List (List Int)) : Prop := ∀ r ∈ A, r.length = k ∧ ∀ x ∈ r, Byt x
theorem Wide.at {k : Nat} {A : List (List Int)} (h : Wide k A) (i : Nat) (hi : i < A.length) : (A.getD i []).length = k ∧ ∀ x ∈ A.getD i [], Byt x := by
  rw [List.getD_eq_getElem?_getD, List.getElem?_eq_getElem hi]
  exact h _ (List.getElem_mem hi)
theorem Wide.byt {k : Nat} {A : List (List Int)} (h : Wide k A) (i j : Nat) : Byt ((A.getD i []).getD j 0) := by
  by_cases hi : i < A.length
  · exact getD_byt (h.at i hi).2 j
  · have : A.getD i [] = [] := by
      rw [List.getD_eq_getElem?_getD, List.getElem?_eq_none (by omega)]
      rfl
    rw [this]
    unfold Byt
    simp
theorem Wide.set {k : Nat} {A : List (List Int)} (h : Wide k A) (i : Nat) {l : List Int} (hl : l.length = k) (hb : ∀ x ∈ l, Byt x) : Wide k (A.set i l) := by
  intro r hr
  rcases List.mem_or_eq_of_mem_set hr with hr | rfl
  · exact h r hr
  · exact ⟨hl, hb⟩
theorem Wide.take {k : Nat} {A : List (List Int)} (h : Wide k A) (n : Nat) : Wide k (A.take n) := fun r hr => h r (List.mem_of_mem_take hr)
theorem Wide.supp {k : Nat} {A : List (List Int)} (h : Wide k A) : ∀ x ∈ A.map vec, L.Supp k x := by
  intro x hx
  obtain ⟨r, hr, rfl⟩ := List.mem_map.1 hx
  exact vec_supp (h r hr).1
theorem Wide.of_may {A : List (List Int)} (h : mayL A = true) (hb : ∀ r ∈ A, ∀ x ∈ r, Byt x) : Wide ((A.getD 0 []).length) A := by
  intro r hr
  obtain ⟨i, hi, rfl⟩ := List.getElem_of_mem hr
  have := mayL_at h i hi
  rw [List.getD_eq_getElem?_getD, List.getElem?_eq_getElem hi] at this
  exact ⟨this.1, hb _ hr⟩
/-- R is what A, rows of k bytes, is reduced to. -/
def IsRed (k : Nat) (A R : List (List Int)) : Prop := Wide k R ∧ ∃ ps : List Nat, ps.length = R.length ∧ L.Red (A.map vec) (ps.zip (R.map vec))
theorem IsRed.rank {k : Nat} {A R : List (List Int)} (h : IsRed k A R) : L.rk (A.map vec) = R.length := by
  obtain ⟨_, ps, hl, hr⟩ := h
  rw [L.rk_eq hr, List.length_zip, List.length_map, hl, Nat.min_self]
theorem zip_snd {α β : Type} {a : List α} {b c : List β} (h : a.length = b.length) (e : a.zip b = a.zip c) (h2 : a.length = c.length) : b = c := by
  have := congrArg (List.map Prod.snd) e
  rwa [List.map_snd_zip (by omega), List.map_snd_zip (by omega)] at this
theorem map_vec_inj {k : Nat} : ∀ {R S : List (List Int)}, Wide k R → Wide k S → R.map vec = S.map vec → R = S
  | [], [], _, _, _ => rfl
  | [], s :: S, _, _, h => by simp at h
  | r :: R, [], _, _, h => by simp at h
  | r :: R, s :: S, hr, hs, h => by
    rw [List.map_cons, List.map_cons] at h
    obtain ⟨h1, h2⟩ := List.cons.inj h
    have e1 := hr r (by simp)
    have e2 := hs s (by simp)
    rw [vec_inj (by rw [e1.1, e2.1]) e1.2 e2.2 h1, map_vec_inj (fun x hx => hr x (by simp [hx])) (fun x hx => hs x (by simp [hx])) h2]
theorem IsRed.unique {k : Nat} {A R S : List (List Int)} (h : IsRed k A R) (h' : IsRed k A S) : R = S := by
  obtain ⟨hw, ps, hl, hr⟩ := h
  obtain ⟨hw', qs, hl', hr'⟩ := h'
  have e := L.rref_unique hr.1 hr'.1 (hr.2.trans hr'.2.symm)
  have e1 := congrArg (List.map Prod.snd) e
  rw [List.map_snd_zip (by simp [hl]), List.map_snd_zip (by simp [hl'])] at e1
  exact map_vec_inj hw hw' e1

/-- What a call of the document's answers hands back is new memory. -/
theorem Mine.new {w w' : World} {e : Ending} {l : List Int} (h : Mine w w' e l) (hb : ∀ x ∈ l, Byt x) (hn : l.length ≤ 9223372036854775807) : ∃ v, e = .returned v ∧ New w w' v l := by
  obtain ⟨g, he, hge, hk, hg⟩ := h
  exact ⟨_, he, hg, hb, .inr ⟨g, l.length, rowB l, rfl, hge, hk, Nat.le_refl _, hn, fun i hi => rowB_get l i hi⟩⟩
/-- A store of a row into a slice of rows of one's own. -/
theorem ownsRow_set {w : World} {base g n c : Nat} {us : List Value} (h : w.ownsRow base 24 1 (.slice (some ⟨g, 0, none⟩) n c) n us) (i : Nat) (_ : i < n) (u : Value) :
    (w.setCell ⟨g, i, none⟩ u).ownsRow base 24 1 (.slice (some ⟨g, 0, none⟩) n c) n (us.set i u) := by
  obtain ⟨h0, ⟨he, _⟩ | ⟨g', c', cur, he, hb, hg, h1, h2, h3, h4⟩⟩ := h
  · cases he
  · cases he
    refine ⟨by rw [List.length_set]; exact h0, .inr ⟨g, c, cur.setIfInBounds i u, rfl, hb, heap_setCell_same _ _ _ _ _ _ hg, h1, h2, by simpa using h3, ?_⟩⟩
    rw [← h4]
    simp [Array.toList_setIfInBounds, List.take_set]
theorem Rws.set {base : Nat} {w : World} {g n c : Nat} {L : List (List Int)} {us : List Value} (ho : w.ownsRow base 24 1 (.slice (some ⟨g, 0, none⟩) n c) n us) (hl : L.length = n)
    (hr : ∀ i, i < n → Bs w (us.getD i undef) (L.getD i []) ∧ Rb base w (us.getD i undef)) (i : Nat) (hi : i < n) {u : Value} {l : List Int} (hb : Bs w u l) (hrb : Rb base w u) :
    (w.setCell ⟨g, i, none⟩ u).ownsRow base 24 1 (.slice (some ⟨g, 0, none⟩) n c) n (us.set i u) ∧
    ∀ j, j < n → Bs (w.setCell ⟨g, i, none⟩ u) ((us.set i u).getD j undef) ((L.set i l).getD j []) ∧ Rb base (w.setCell ⟨g, i, none⟩ u) ((us.set i u).getD j undef) := by
  have hus : us.length = n := by have := ho.1; omega
  have hrow := ownsRow_not_bytes ho
  have hk : ∀ k, k < w.heap.size → some k ≠ (Value.slice (some ⟨g, 0, none⟩) n c).ownBlock → (w.setCell ⟨g, i, none⟩ u).heap[k]? = w.heap[k]? := by
    intro k _ hne
    have hne' : k ≠ g := fun e => hne (by rw [e]; rfl)
    exact heap_setCell_other _ _ _ _ hne'
  refine ⟨ownsRow_set ho i hi u, fun j hj => ?_⟩
  by_cases e : j = i
  · subst e
    rw [List.getD_eq_getElem?_getD, List.getD_eq_getElem?_getD, List.getElem?_set_self (by omega), List.getElem?_set_self (by omega)]
    exact Rb.kept hb hrb hk hrow
  · rw [List.getD_eq_getElem?_getD, List.getD_eq_getElem?_getD, List.getElem?_set_ne (fun c => e c.symm), List.getElem?_set_ne (fun c => e c.symm), ← List.getD_eq_getElem?_getD, ← List.getD_eq_getElem?_getD]
    exact Rb.kept (hr j hj).1 (hr j hj).2 hk hrow
end Go.Proofs.Ytmbikmlknbinpaa
namespace Go.Proofs.Ytmbikmlknbinpaa.L

theorem lc_assoc (X : List V) : ∀ (A : List V) (c : V), lc (lc c A) X = lc c (mulM A X)
  | [], _ => lc_zero X
  | a :: A, c => by
    show lc (vadd (smul (c 0) a) (lc (fun i => c (i + 1)) A)) X = vadd (smul (c 0) (lc a X)) (lc (fun i => c (i + 1)) (mulM A X))
    rw [lc_add, lc_smul, lc_assoc X A]
theorem mulM_assoc (D A X : List V) : mulM (mulM D A) X = mulM D (mulM A X) := by
  unfold mulM
  rw [List.map_map]
  exact List.map_congr_left fun d _ => lc_assoc X A d
def idM (n : Nat) : List V := (List.range n).map unit
theorem idM_length (n : Nat) : (idM n).length = n := by simp [idM]
theorem idM_supp (n : Nat) : ∀ x ∈ idM n, Supp n x := by
  intro x hx
  obtain ⟨i, hi, rfl⟩ := List.mem_map.1 hx
  exact unit_supp (List.mem_range.1 hi)
theorem mulM_id_left {n : Nat} {X : List V} (h : X.length = n) : mulM (idM n) X = X := by
  unfold mulM idM
  rw [List.map_map]
  apply List.ext_getElem
  · simp [h]
  intro i h1 h2
  simp only [List.getElem_map, List.getElem_range, Function.comp]
  rw [lc_unit]
  unfold rowAt
  rw [List.getElem?_eq_getElem h2]
  rfl
theorem lc_range : ∀ (n s : Nat) (a : V) (k : Nat), lc a ((List.range' s n).map unit) k = if s ≤ k ∧ k < s + n then a (k - s) else zero
  | 0, s, a, k => by
    rw [if_neg (by omega)]
    rfl
  | n + 1, s, a, k => by
    show add (mul (a 0) (unit s k)) (lc (fun i => a (i + 1)) ((List.range' (s + 1) n).map unit) k) = _
    rw [lc_range n (s + 1)]
    unfold unit
    by_cases e : k = s
    · subst e
      rw [if_pos rfl, if_neg (by omega), if_pos (by omega), mul_one, add_zero, Nat.sub_self]
    · rw [if_neg e, mul_zero, zero_add]
      by_cases e2 : s + 1 ≤ k ∧ k < s + 1 + n
      · rw [if_pos e2, if_pos (by omega)]
        congr 1
        omega
      · rw [if_neg e2, if_neg (by omega)]
theorem lc_id {n : Nat} {a : V} (h : Supp n a) : lc a (idM n) = a := by
  unfold idM
  rw [List.range_eq_range']
  funext k
  rw [lc_range]
  by_cases e : k < n
  · rw [if_pos (by omega), Nat.sub_zero]
  · rw [if_neg (by omega), h k (by omega)]
theorem mulM_id_right {n : Nat} {A : List V} (h : ∀ x ∈ A, Supp n x) : mulM A (idM n) = A := by
  unfold mulM
  conv => rhs; rw [← List.map_id A]
  exact List.map_congr_left fun a ha => lc_id (h a ha)
theorem Sp.coeff {A : List V} {v : V} (h : Sp A v) : ∃ d, Supp A.length d ∧ L.lc d A = v := by
  induction h with
  | zero => exact ⟨vzero, Supp.zero _, lc_zero A⟩
  | step c x v hx _ ih =>
    obtain ⟨d, hd, rfl⟩ := ih
    obtain ⟨i, hi, rfl⟩ := mem_rowAt hx
    exact ⟨vadd (L.smul c (unit i)) d, Supp.add (Supp.smul c (unit_supp hi)) hd, by rw [lc_add, lc_smul, lc_unit]⟩
theorem coeffs {A : List V} : ∀ C : List V, (∀ x ∈ C, Sp A x) → ∃ D : List V, D.length = C.length ∧ (∀ x ∈ D, Supp A.length x) ∧ mulM D A = C
  | [], _ => ⟨[], rfl, by simp, rfl⟩
  | c :: C, h => by
    obtain ⟨D, h1, h2, h3⟩ := coeffs C fun x hx => h x (by simp [hx])
    obtain ⟨d, h4, h5⟩ := Sp.coeff (h c (by simp))
    refine ⟨d :: D, by simp [h1], fun x hx => ?_, ?_⟩
    · rcases List.mem_cons.1 hx with rfl | hx
      · exact h4
      · exact h2 x hx
    · show lc d A :: mulM D A = c :: C
      rw [h5, h3]
theorem rk_id (n : Nat) : rk (idM n) = n := by
  have h1 := rk_le_cols (idM_supp n)
  have h2 : rk (mulM (idM n) (idM n)) ≤ rk (idM n) := rk_mul_right (idM_supp n)
  obtain ⟨R, hr, e⟩ := red_exists (idM_supp n)
  -- every place is one where a row begins
  have h3 : n ≤ R.length := by
    have hp : ∀ i, i < n → ∃ x, (i, x) ∈ R := fun i hi => begins_at hr.1 ((hr.2 _).2 (Sp.mem (List.mem_map.2 ⟨i, List.mem_range.2 hi, rfl⟩))) ⟨by unfold unit; rw [if_pos rfl]; exact one_ne, fun j hj => by unfold unit; rw [if_neg (by omega)]⟩
    have := places_sub ((List.range n).map fun i => (i, vzero)) R (by
      rw [List.pairwise_map]
      exact List.pairwise_lt_range) hr.1.1 (fun a ha => by
      obtain ⟨i, hi, rfl⟩ := List.mem_map.1 ha
      obtain ⟨x, hx⟩ := hp i (List.mem_range.1 hi)
      exact ⟨_, hx, rfl⟩)
    simpa using this
  omega
/-- As many rows as columns, and all the rank: every right side has a solution. -/
theorem square {n m : Nat} {A C : List V} (hA : ∀ x ∈ A, Supp n x) (hl : A.length = n) (hr : rk A = n) (hC : C.length = n) (hs : ∀ x ∈ C, Supp m x) :
    ∃ X, X.length = n ∧ (∀ x ∈ X, Supp m x) ∧ mulM A X = C := by
  obtain ⟨D, h1, h2, h3⟩ := coeffs (A := A) (idM n) fun x hx => full_span hA hr (idM_supp n x hx)
  rw [idM_length] at h1
  rw [hl] at h2
  have hD : rk D = n := by
    have h4 := rk_le_cols h2
    have h5 : rk (mulM D A) ≤ rk D := rk_mul_left h2 hA
    rw [h3, rk_id] at h5
    omega
  have h6 : mulM A D = idM n := mul_unique h2 hD (by simp [mulM, hl]) (idM_length n) (by
    rw [← mulM_assoc, h3, mulM_id_left h1, mulM_id_right h2])
  exact ⟨mulM D C, by simp [mulM, h1], mulM_supp hs, by rw [← mulM_assoc, h6, mulM_id_left hC]⟩

/-- As long as not all the columns are found, and the rank is all, there is a next row that begins at the next column. -/
theorem Ech.pivot {A X : List V} {c n : Nat} (h : Ech A X (List.range c) c) (hA : ∀ x ∈ A, Supp n x) (hr : rk A = n) (hc : c < n) : ∃ s, c ≤ s ∧ s < X.length ∧ rowAt X s c ≠ zero := by
  apply Classical.byContradiction
  intro hno
  have h0 : ∀ s, c ≤ s → rowAt X s c = zero := fun s hs => Classical.byContradiction fun e => hno ⟨s, hs, by
    apply Classical.byContradiction
    intro e2
    apply e
    rw [rowAt_out (by omega)]
    rfl, e⟩
  have get : ∀ t, t < c → (List.range c)[t]? = some t := fun t ht => List.getElem?_range ht
  -- what vanishes on all rows vanishes on what they span
  let R : List (Nat × V) := (List.range c).map fun t => (t, rowAt X t)
  have hz : ∀ x ∈ X, left x R c = zero := by
    intro x hx
    obtain ⟨s, hs, rfl⟩ := mem_rowAt hx
    have hp : ∀ (T : List Nat), (∀ t ∈ T, t < c) → T.Nodup → pick (rowAt X s) (T.map fun t => (t, rowAt X t)) = if s ∈ T then rowAt X s else vzero := by
      intro T
      induction T with
      | nil => intro _ _; rfl
      | cons t T ih =>
        intro hT hn
        show vadd (smul (rowAt X s t) (rowAt X t)) (pick (rowAt X s) (T.map fun t => (t, rowAt X t))) = _
        rw [ih (fun u hu => hT u (by simp [hu])) (List.nodup_cons.1 hn).2]
        have ht : t < c := hT t (by simp)
        by_cases e : s = t
        · subst e
          rw [h.lead s s (get s ht), one_smul, if_neg (List.nodup_cons.1 hn).1, if_pos (by simp), vadd_zero]
        · rw [h.apart t t (get t ht) s e, zero_smul, vzero_add]
          by_cases e2 : s ∈ T
          · rw [if_pos e2, if_pos (by simp [e2])]
          · rw [if_neg e2, if_neg (by simp [e, e2])]
    have hp1 := hp (List.range c) (fun t ht => List.mem_range.1 ht) List.nodup_range
    show L.add (rowAt X s c) (pick (rowAt X s) R c) = zero
    rw [show pick (rowAt X s) R = _ from hp1]
    by_cases e : s < c
    · rw [if_pos (List.mem_range.2 e), add_self]
    · rw [if_neg (fun q => e (List.mem_range.1 q)), h0 s (by omega)]
      exact add_zero _
  have hall : ∀ v, Sp X v → left v R c = zero := by
    intro v hv
    induction hv with
    | zero =>
      have : pick vzero R = vzero := pick_none _ R fun _ _ _ => rfl
      show L.add zero (pick vzero R c) = zero
      rw [this]
      exact add_zero _
    | step k x v hx _ ih =>
      have hx' := hz x hx
      show L.add (L.add (mul k (x c)) (v c)) (pick (vadd (smul k x) v) R c) = zero
      rw [pick_add, pick_smul]
      show L.add (L.add (mul k (x c)) (v c)) (L.add (mul k (pick x R c)) (pick v R c)) = zero
      have e1 : L.add (x c) (pick x R c) = zero := hx'
      have e2 : L.add (v c) (pick v R c) = zero := ih
      rw [eq_of_add e1, eq_of_add e2]
      exact add_self _
  have hu := hall _ ((h.same _).2 (full_span hA hr (unit_supp hc)))
  have hpu : pick (unit c) R = vzero := pick_none _ R fun p x hp => by
    obtain ⟨t, ht, he⟩ := List.mem_map.1 hp
    have : t = p := congrArg Prod.fst he
    subst this
    unfold unit
    rw [if_neg (by have := List.mem_range.1 ht; omega)]
  have : L.add (unit c c) (pick (unit c) R c) = zero := hu
  rw [hpu] at this
  have h1 : unit c c = one := by unfold unit; rw [if_pos rfl]
  rw [h1] at this
  exact one_ne (eq_of_add this)

/-- M is what X asks to be Y. -/
def Sat (X Y M : List V) : Prop := ∀ i, i < X.length → lc (rowAt X i) M = rowAt Y i
theorem Sat.of_mul {A B M : List V} (hl : A.length = B.length) : mulM A M = B ↔ Sat A B M := by
  constructor
  · rintro rfl i hi
    unfold rowAt mulM
    rw [List.getElem?_map, List.getElem?_eq_getElem hi]
    rfl
  · intro h
    apply List.ext_getElem
    · simp [mulM, hl]
    intro i h1 h2
    have hi : i < A.length := by simpa [mulM] using h1
    have := h i hi
    unfold rowAt at this
    rw [List.getElem?_eq_getElem hi, List.getElem?_eq_getElem h2] at this
    simpa [mulM] using this
theorem Sat.swap {X Y M : List V} {a d : Nat} (hl : Y.length = X.length) (ha : a < X.length) (hd : d < X.length) :
    Sat ((X.set a (rowAt X d)).set d (rowAt X a)) ((Y.set a (rowAt Y d)).set d (rowAt Y a)) M ↔ Sat X Y M := by
  have hd2 : d < Y.length := by omega
  have ha2 : a < Y.length := by omega
  have gx : ∀ i, rowAt ((X.set a (rowAt X d)).set d (rowAt X a)) i = if i = d then rowAt X a else if i = a then rowAt X d else rowAt X i := fun i => by
    rw [rowAt_set, rowAt_set, List.length_set]
    by_cases e : d = i
    · subst e
      simp [hd]
    · have e' : ¬ i = d := fun c => e c.symm
      by_cases e2 : a = i
      · subst e2
        simp [ha, e, e']
      · have e2' : ¬ i = a := fun c => e2 c.symm
        simp [e, e', e2, e2']
  have gy : ∀ i, rowAt ((Y.set a (rowAt Y d)).set d (rowAt Y a)) i = if i = d then rowAt Y a else if i = a then rowAt Y d else rowAt Y i := fun i => by
    rw [rowAt_set, rowAt_set, List.length_set]
    by_cases e : d = i
    · subst e
      simp [hd2]
    · have e' : ¬ i = d := fun c => e c.symm
      by_cases e2 : a = i
      · subst e2
        simp [ha2, e, e']
      · have e2' : ¬ i = a := fun c => e2 c.symm
        simp [e, e', e2, e2']
  unfold Sat
  simp only [List.length_set, gx, gy]
  constructor
  · intro h i hi
    by_cases e : i = a
    · subst e
      have := h d hd
      rwa [if_pos rfl, if_pos rfl] at this
    · by_cases e2 : i = d
      · subst e2
        have := h a ha
        by_cases e3 : a = i
        · exact absurd e3.symm e
        · rwa [if_neg e3, if_neg e3, if_pos rfl, if_pos rfl] at this
      · have := h i hi
        rwa [if_neg e2, if_neg e2, if_neg e, if_neg e] at this
  · intro h i hi
    by_cases e : i = d
    · rw [if_pos e, if_pos e]; exact h a ha
    · rw [if_neg e, if_neg e]
      by_cases e2 : i = a
      · rw [if_pos e2, if_pos e2]; exact h d hd
      · rw [if_neg e2, if_neg e2]; exact h i hi
theorem Sat.scale {X Y M : List V} {d : Nat} {k : Fb} (hl : Y.length = X.length) (hd : d < X.length) (hk : k ≠ zero) :
    Sat (X.set d (smul k (rowAt X d))) (Y.set d (smul k (rowAt Y d))) M ↔ Sat X Y M := by
  have inj : ∀ u v : V, smul k u = smul k v → u = v := fun u v h => by
    have := congrArg (smul (inv k)) h
    rwa [smul_smul, smul_smul, inv_mul k hk, one_smul, one_smul] at this
  unfold Sat
  simp only [List.length_set, rowAt_set]
  constructor
  · intro h i hi
    have := h i hi
    by_cases e : d = i
    · subst e
      rw [if_pos ⟨rfl, hd⟩, if_pos ⟨rfl, by omega⟩, lc_smul] at this
      exact inj _ _ this
    · rwa [if_neg (fun c => e c.1), if_neg (fun c => e c.1)] at this
  · intro h i hi
    by_cases e : d = i
    · subst e
      rw [if_pos ⟨rfl, hd⟩, if_pos ⟨rfl, by omega⟩, lc_smul, h d hd]
    · rw [if_neg (fun c => e c.1), if_neg (fun c => e c.1)]
      exact h i hi
theorem Sat.add {X Y M : List V} {d i : Nat} {k : Fb} (hl : Y.length = X.length) (hd : d < X.length) (hi : i < X.length) (hne : i ≠ d) :
    Sat (X.set i (vadd (rowAt X i) (smul k (rowAt X d)))) (Y.set i (vadd (rowAt Y i) (smul k (rowAt Y d)))) M ↔ Sat X Y M := by
  have back : ∀ u v : V, vadd (vadd u v) v = u := fun u v => by rw [vadd_assoc, vadd_self, vadd_zero]
  unfold Sat
  simp only [List.length_set, rowAt_set]
  constructor
  · intro h j hj
    have hdd := h d hd
    rw [if_neg (fun c => hne c.1), if_neg (fun c => hne c.1)] at hdd
    have := h j hj
    by_cases e : i = j
    · subst e
      rw [if_pos ⟨rfl, hi⟩, if_pos ⟨rfl, by omega⟩, lc_add, lc_smul, hdd] at this
      have h2 := congrArg (fun u => vadd u (smul k (rowAt Y d))) this
      simpa only [back] using h2
    · rwa [if_neg (fun c => e c.1), if_neg (fun c => e c.1)] at this
  · intro h j hj
    by_cases e : i = j
    · subst e
      rw [if_pos ⟨rfl, hi⟩, if_pos ⟨rfl, by omega⟩, lc_add, lc_smul, h i hi, h d hd]
    · rw [if_neg (fun c => e c.1), if_neg (fun c => e c.1)]
      exact h j hj
/-- Behind the last column: what is asked is what stands in the first rows, and nothing in the others. -/
theorem Sat.done {A X Y M : List V} {n : Nat} (h : Ech A X (List.range n) n) (hs : ∀ x ∈ X, Supp n x) (hl : Y.length = X.length) (hM : M.length = n) :
    Sat X Y M ↔ M = Y.take n ∧ ∀ i, n ≤ i → i < Y.length → rowAt Y i = vzero := by
  have hle : n ≤ X.length := by have := h.le; simpa using this
  have get : ∀ t, t < n → (List.range n)[t]? = some t := fun t ht => List.getElem?_range ht
  have hu : ∀ i, i < n → rowAt X i = unit i := fun i hi => by
    funext j
    unfold unit
    by_cases e : j = i
    · subst e
      rw [if_pos rfl, h.lead j j (get j hi)]
    · rw [if_neg e]
      by_cases e2 : j < n
      · exact h.apart j j (get j e2) i (fun c => e c.symm)
      · exact hs _ (rowAt_mem (by omega)) j (by omega)
  have hz : ∀ i, n ≤ i → rowAt X i = vzero := fun i hi => by
    funext j
    by_cases e : j < n
    · exact h.rest i (by simpa using hi) j e
    · by_cases e2 : i < X.length
      · exact hs _ (rowAt_mem e2) j (by omega)
      · rw [rowAt_out (by omega)]
  constructor
  · intro hsat
    refine ⟨?_, fun i h1 h2 => ?_⟩
    · apply List.ext_getElem
      · rw [List.length_take, hM]; omega
      intro i h1 h2
      have hi : i < n := by omega
      have := hsat i (by omega)
      rw [hu i hi, lc_unit] at this
      unfold rowAt at this
      rw [List.getElem?_eq_getElem h1, List.getElem?_eq_getElem (by omega : i < Y.length)] at this
      rw [List.getElem_take]
      exact this
    · have := hsat i (by omega)
      rw [hz i h1, lc_zero] at this
      exact this.symm
  · rintro ⟨rfl, h0⟩ i hi
    by_cases e : i < n
    · rw [hu i e, lc_unit]
      unfold rowAt
      rw [List.getElem?_take_of_lt e]
    · rw [hz i (by omega), lc_zero, h0 i (by omega) (by omega)]
end Go.Proofs.Ytmbikmlknbinpaa.L
namespace Go.Proofs.Ytmbikmlknbinpaa
open Go.RowKit

theorem Bss.byt {w : World} {v : Value} {A : List (List Int)} (h : Bss w v A) : ∀ r ∈ A, ∀ x ∈ r, Byt x := by
  intro r hr
  obtain ⟨i, hi, rfl⟩ := List.getElem_of_mem hr
  obtain ⟨a, c, _, _, _, h3⟩ := Bss.at h (by omega)
  obtain ⟨u, _, hu⟩ := h3 i hi
  rw [List.getD_eq_getElem?_getD, List.getElem?_eq_getElem hi] at hu
  exact hu.1
/-- How many columns. -/
def wd (A : List (List Int)) : Nat := (A.getD 0 []).length
theorem wd_nil : wd [] = 0 := rfl
theorem Wide.of_bss {w : World} {v : Value} {A : List (List Int)} (h : Bss w v A) (hm : mayL A = true) : Wide (wd A) A := Wide.of_may hm h.byt
theorem Wide.may {k : Nat} {A : List (List Int)} (h : Wide k A) (hk : k ≤ 64) : mayL A = true := mayL_true fun i hi => by
  have h0 := (h.at i hi).1
  have h1 := (h.at 0 (by omega)).1
  omega
theorem Wide.wd {k : Nat} {A : List (List Int)} (h : Wide k A) (h0 : 0 < A.length) : wd A = k := (h.at 0 h0).1
theorem Wide.nil (k : Nat) : Wide k [] := fun r hr => by simp at hr
/-- The rank, as the algebra has it. -/
noncomputable def rkL (A : List (List Int)) : Nat := L.rk (A.map vec)
/-- out is a times x. -/
def IsMul (m : Nat) (A X out : List (List Int)) : Prop := Wide m out ∧ out.map vec = L.mulM (A.map vec) (X.map vec)
theorem IsMul.unique {m : Nat} {A X o o' : List (List Int)} (h : IsMul m A X o) (h' : IsMul m A X o') : o = o' := map_vec_inj h.1 h'.1 (by rw [h.2, h'.2])
theorem IsMul.length {m : Nat} {A X o : List (List Int)} (h : IsMul m A X o) : o.length = A.length := by
  have := congrArg List.length h.2
  simpa [L.mulM] using this
/-- What Solve answers. -/
def SolSays (A B : List (List Int)) (e : Int) (S : List (List Int)) : Prop :=
  (A = [] ∧ e = 1 ∧ S = []) ∨ (A ≠ [] ∧ rkL A < wd A ∧ e = 9 ∧ S = []) ∨
  (A ≠ [] ∧ rkL A = wd A ∧ e = 0 ∧ S.length = wd A ∧ IsMul (wd B) A S B ∧ Wide (wd B) S) ∨
  (A ≠ [] ∧ rkL A = wd A ∧ e = 10 ∧ S = [] ∧ ∀ M : List L.V, M.length = wd A → (∀ x ∈ M, L.Supp (wd B) x) → L.mulM (A.map vec) M ≠ B.map vec)
theorem SolSays.unique {A B S S' : List (List Int)} {e e' : Int} (hA : Wide (wd A) A) (h : SolSays A B e S) (h' : SolSays A B e' S') : e = e' ∧ S = S' := by
  rcases h with ⟨h0, h1, h2⟩ | ⟨h0, h1, h2, h3⟩ | ⟨h0, h1, h2, h3, h4, h5⟩ | ⟨h0, h1, h2, h3, h4⟩ <;>
  rcases h' with ⟨g0, g1, g2⟩ | ⟨g0, g1, g2, g3⟩ | ⟨g0, g1, g2, g3, g4, g5⟩ | ⟨g0, g1, g2, g3, g4⟩ <;>
  first
    | exact absurd h0 g0
    | exact absurd g0 h0
    | (exfalso; omega)
    | (subst_vars; exact ⟨rfl, rfl⟩)
    | skip
  · refine ⟨by rw [h2, g2], map_vec_inj h5 g5 (L.mul_unique hA.supp h1 (by simp [h3]) (by simp [g3]) ?_)⟩
    rw [← h4.2, ← g4.2]
  · exact absurd h4.2.symm (g4 _ (by simp [h3]) (h5.supp))
  · exact absurd g4.2.symm (h4 _ (by simp [g3]) (g5.supp))

/-- The contracts of package mat. -/
structure MatOk : Prop where
theorem bss_two {w : World} {g : Nat} {u v : Value} {x y : List Int} {t : TypeId} {fr : Nat × Nat} (h : w.heap[g]? = some (.cells #[u, v] t fr)) (hu : Bs w u x) (hv : Bs w v y) : Bss w (.slice (some ⟨g, 0, none⟩) 2 2) [x, y] :=
  ⟨some ⟨g, 0, none⟩, 2, rfl, by simp, by omega, (fun h => by cases h), fun a ha i hi => by
    cases ha
    rw [Addr.add_mid, Nat.zero_add]
    have : i = 0 ∨ i = 1 := by simp at hi; omega
    rcases this with rfl | rfl
    · exact ⟨u, by rw [cell_of_row w g 0 _ _ _ h]; rfl, hu⟩
    · exact ⟨v, by rw [cell_of_row w g 1 _ _ _ h]; rfl, hv⟩⟩
theorem rk_wake : rkL [[1, 1], [1, 1]] = 1 := by
  have h1 : Wide 2 [[1, 1], [1, 1]] := fun r hr => by
    simp at hr
    subst hr
    exact ⟨rfl, fun x hx => by simp at hx; subst hx; unfold Byt; omega⟩
  have hr : L.Rref [(0, vec [1, 1])] := ⟨List.pairwise_singleton _ _, fun p x h => by
      simp at h
      obtain ⟨rfl, rfl⟩ := h
      rfl, fun p x h k hk => by
      simp at h
      omega, fun p x q y h h' hne => by
      simp at h h'
      omega⟩
  have hs : L.Same (L.rows [(0, vec [1, 1])]) (([[1, 1], [1, 1]] : List (List Int)).map vec) := L.Same.of_mem fun x => by simp [L.rows]
  exact L.rk_eq ⟨hr, hs⟩
end Go.Proofs.Ytmbikmlknbinpaa
