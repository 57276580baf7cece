/-
  Plain linear algebra over the field of 256 elements, continued: each list of rows has its list of reduced rows; ranks; products; columns. No condition.
-/
import Derived.Test.YtpckdjapkngpgaaDoorLin
namespace Go.Proofs.YtpckdjapkngpgaaDoor.L

def Supp (n : Nat) (v : V) : Prop := ∀ k, n ≤ k → v k = zero
theorem Supp.zero (n : Nat) : Supp n vzero := fun _ _ => rfl
theorem Supp.add {n : Nat} {x y : V} (h : Supp n x) (h' : Supp n y) : Supp n (vadd x y) := fun k hk => by
  show L.add (x k) (y k) = L.zero
  rw [h k hk, h' k hk, add_zero]
theorem Supp.smul {n : Nat} {x : V} (c : Fb) (h : Supp n x) : Supp n (L.smul c x) := fun k hk => by
  show L.mul c (x k) = L.zero
  rw [h k hk, mul_zero]
theorem Sp.supp {n : Nat} {A : List V} (h : ∀ x ∈ A, Supp n x) {v : V} (hv : Sp A v) : Supp n v := by
  induction hv with
  | zero => exact Supp.zero n
  | step c x v hx _ ih => exact Supp.add (Supp.smul c (h x hx)) ih
theorem begins_exists {n : Nat} {v : V} (hs : Supp n v) (h : v ≠ vzero) : ∃ k, k < n ∧ Begins v k := by
  have key : ∀ m, (∀ j, j < m → v j = zero) ∨ ∃ k, k < m ∧ Begins v k := by
    intro m
    induction m with
    | zero => exact .inl fun j hj => absurd hj (Nat.not_lt_zero _)
    | succ m ih =>
      rcases ih with ih | ⟨k, hk, hb⟩
      · by_cases e : v m = zero
        · refine .inl fun j hj => ?_
          rcases Nat.lt_succ_iff_lt_or_eq.1 hj with c | c
          · exact ih j c
          · rw [c, e]
        · exact .inr ⟨m, Nat.lt_succ_self _, e, ih⟩
      · exact .inr ⟨k, Nat.lt_succ_of_lt hk, hb⟩
  rcases key n with h0 | h1
  · refine absurd (funext fun i => ?_) h
    by_cases c : i < n
    · exact h0 i c
    · exact hs i (by omega)
  · exact h1
theorem Begins.uniq {v : V} {j k : Nat} (hj : Begins v j) (hk : Begins v k) : j = k := by
  rcases Nat.lt_trichotomy j k with c | c | c
  · exact absurd (hk.2 j c) hj.1
  · exact c
  · exact absurd (hj.2 k c) hk.1

/-! ### One more row -/
def insAt (a : Nat × V) : List (Nat × V) → List (Nat × V)
  | [] => [a]
  | b :: R => if a.1 < b.1 then a :: b :: R else b :: insAt a R
theorem mem_insAt (a : Nat × V) : ∀ (R : List (Nat × V)) (x : Nat × V), x ∈ insAt a R ↔ x = a ∨ x ∈ R
  | [], x => by simp [insAt]
  | b :: R, x => by
    simp only [insAt]
    split
    · simp
    · simp only [List.mem_cons, mem_insAt a R x]
      constructor
      · rintro (h | h | h)
        · exact .inr (.inl h)
        · exact .inl h
        · exact .inr (.inr h)
      · rintro (h | h | h)
        · exact .inr (.inl h)
        · exact .inl h
        · exact .inr (.inr h)
theorem insAt_sorted (a : Nat × V) : ∀ (R : List (Nat × V)), R.Pairwise (fun x y => x.1 < y.1) → (∀ b ∈ R, b.1 ≠ a.1) → (insAt a R).Pairwise (fun x y => x.1 < y.1)
  | [], _, _ => by simp [insAt]
  | b :: R, h, hn => by
    have h' := List.pairwise_cons.1 h
    simp only [insAt]
    split
    · rename_i c
      refine List.pairwise_cons.2 ⟨fun x hx => ?_, h⟩
      rcases List.mem_cons.1 hx with rfl | hx
      · exact c
      · exact Nat.lt_trans c (h'.1 x hx)
    · rename_i c
      have hb := hn b (by simp)
      refine List.pairwise_cons.2 ⟨fun x hx => ?_, insAt_sorted a R h'.2 fun b' hb' => hn b' (by simp [hb'])⟩
      rcases (mem_insAt a R x).1 hx with rfl | hx
      · omega
      · exact h'.1 x hx
theorem insAt_length (a : Nat × V) : ∀ R : List (Nat × V), (insAt a R).length = R.length + 1
  | [] => rfl
  | b :: R => by
    simp only [insAt]
    split
    · rfl
    · simp [insAt_length a R]
/-- What a row picks has its own elements where the rows begin. -/
theorem pick_at {R : List (Nat × V)} (h : Rref R) (v : V) {q : Nat} {y : V} (hy : (q, y) ∈ R) : pick v R q = v q := by
  have key : ∀ S : List (Nat × V), (∀ a ∈ S, a ∈ R) → S.Pairwise (fun a b => a.1 < b.1) → ((q, y) ∈ S → pick v S q = v q) ∧ ((q, y) ∉ S → pick v S q = zero) := by
    intro S
    induction S with
    | nil => intro _ _; exact ⟨fun c => absurd c (by simp), fun _ => rfl⟩
    | cons a S ih =>
      obtain ⟨p, x⟩ := a
      intro hS hP
      have hP' := List.pairwise_cons.1 hP
      have i := ih (fun a ha => hS a (by simp [ha])) hP'.2
      have hx := hS (p, x) (by simp)
      have e1 : pick v ((p, x) :: S) q = add (mul (v p) (x q)) (pick v S q) := rfl
      rw [e1]
      by_cases e : p = q
      · subst e
        obtain rfl := h.uniq_place hx hy
        have hn : (p, x) ∉ S := fun c => absurd (hP'.1 _ c) (Nat.lt_irrefl _)
        rw [i.2 hn, h.lead p x hx, mul_one, add_zero]
        exact ⟨fun _ => rfl, fun c => absurd (by simp) c⟩
      · rw [h.apart p x q y hx hy e, mul_zero, zero_add]
        have hne : (q, y) ≠ (p, x) := fun c => e (Prod.mk.inj c).1.symm
        refine ⟨fun c => i.1 ?_, fun c => i.2 fun c' => c (List.mem_cons_of_mem _ c')⟩
        rcases List.mem_cons.1 c with c | c
        · exact absurd c hne
        · exact c
  exact (key R (fun _ h => h) h.sorted).1 hy
theorem pick_in (v : V) : ∀ R : List (Nat × V), Sp (rows R) (pick v R)
  | [] => Sp.zero
  | (p, x) :: R => Sp.step _ x _ (by simp [rows]) (Sp.mono (fun y hy => by simp [rows] at hy ⊢; exact .inr hy) (pick_in v R))
/-- What is left of a row. -/
def left (v : V) (R : List (Nat × V)) : V := vadd v (pick v R)
theorem left_at {R : List (Nat × V)} (h : Rref R) (v : V) {q : Nat} {y : V} (hy : (q, y) ∈ R) : left v R q = zero := by
  show add (v q) (pick v R q) = zero
  rw [pick_at h v hy, add_self]
theorem left_back (v : V) (R : List (Nat × V)) : vadd (left v R) (pick v R) = v := by
  unfold left
  rw [vadd_assoc, vadd_self, vadd_zero]
theorem left_zero {R : List (Nat × V)} (h : Rref R) (v : V) : left v R = vzero ↔ Sp (rows R) v := by
  constructor
  · intro c
    have := left_back v R
    rw [c, vzero_add] at this
    rw [← this]
    exact pick_in v R
  · intro hv
    unfold left
    rw [pick_span h hv, vadd_self]
theorem mem_cons_same {A : List V} {v : V} (h : Sp A v) : Same (v :: A) A :=
  Same.of (fun x hx => by
    rcases List.mem_cons.1 hx with rfl | hx
    · exact h
    · exact Sp.mem hx) fun x hx => Sp.mem (by simp [hx])
/-- The new rows: what is left of v begins at k. -/
def grow (R : List (Nat × V)) (u : V) (k : Nat) : List (Nat × V) := insAt (k, u) (R.map fun a => (a.1, vadd a.2 (smul (a.2 k) u)))
theorem grow_rref {R : List (Nat × V)} (h : Rref R) {u : V} {k : Nat} (h1 : u k = one) (hb : ∀ j, j < k → u j = zero) (h0 : ∀ p x, (p, x) ∈ R → u p = zero) : Rref (grow R u k) := by
  have hk : ∀ p x, (p, x) ∈ R → p ≠ k := by
    rintro p x hx rfl
    rw [h0 p x hx] at h1
    exact one_ne h1.symm
  have mem : ∀ p y, (p, y) ∈ grow R u k → (p = k ∧ y = u) ∨ ∃ x, (p, x) ∈ R ∧ y = vadd x (smul (x k) u) := by
    intro p y hm
    rcases (mem_insAt _ _ _).1 hm with c | c
    · exact .inl (Prod.mk.inj c)
    · obtain ⟨⟨q, x⟩, hx, e⟩ := List.mem_map.1 c
      obtain ⟨rfl, rfl⟩ := Prod.mk.inj e
      exact .inr ⟨x, hx, rfl⟩
  have at' : ∀ (x : V) (j : Nat), (vadd x (smul (x k) u)) j = add (x j) (mul (x k) (u j)) := fun _ _ => rfl
  refine ⟨?_, ?_, ?_, ?_⟩
  · refine insAt_sorted _ _ (List.pairwise_map.2 h.sorted) fun b hb' => ?_
    obtain ⟨⟨q, x⟩, hx, rfl⟩ := List.mem_map.1 hb'
    exact hk q x hx
  · intro p y hm
    rcases mem p y hm with ⟨rfl, rfl⟩ | ⟨x, hx, rfl⟩
    · exact h1
    · rw [at', h.lead p x hx, h0 p x hx, mul_zero, add_zero]
  · intro p y hm j hj
    rcases mem p y hm with ⟨rfl, rfl⟩ | ⟨x, hx, rfl⟩
    · exact hb j hj
    · rw [at', h.ahead p x hx j hj, zero_add]
      by_cases c : k < p
      · rw [h.ahead p x hx k c, zero_mul]
      · rw [hb j (by have := hk p x hx; omega), mul_zero]
  · intro p y q z hm hm' hne
    rcases mem p y hm with ⟨rfl, rfl⟩ | ⟨x, hx, rfl⟩
    · rcases mem q z hm' with ⟨rfl, rfl⟩ | ⟨x', hx', rfl⟩
      · exact absurd rfl hne
      · exact h0 q x' hx'
    · rcases mem q z hm' with ⟨rfl, rfl⟩ | ⟨x', hx', rfl⟩
      · rw [at', h1, mul_one, add_self]
      · rw [at', h0 q x' hx', mul_zero, add_zero]
        exact h.apart p x q x' hx hx' hne
theorem grow_rows (R : List (Nat × V)) (u : V) (k : Nat) (y : V) : y ∈ rows (grow R u k) ↔ y = u ∨ ∃ x ∈ rows R, y = vadd x (smul (x k) u) := by
  constructor
  · intro hy
    obtain ⟨⟨p, y'⟩, hm, rfl⟩ := List.mem_map.1 hy
    rcases (mem_insAt _ _ _).1 hm with c | c
    · exact .inl (Prod.mk.inj c).2
    · obtain ⟨⟨q, x⟩, hx, e⟩ := List.mem_map.1 c
      exact .inr ⟨x, List.mem_map.2 ⟨(q, x), hx, rfl⟩, (Prod.mk.inj e).2.symm⟩
  · rintro (rfl | ⟨x, hx, rfl⟩)
    · exact List.mem_map.2 ⟨(k, y), (mem_insAt _ _ _).2 (.inl rfl), rfl⟩
    · obtain ⟨⟨q, x'⟩, hm, rfl⟩ := List.mem_map.1 hx
      exact List.mem_map.2 ⟨(q, _), (mem_insAt _ _ _).2 (.inr (List.mem_map.2 ⟨(q, x'), hm, rfl⟩)), rfl⟩
theorem grow_same (R : List (Nat × V)) (u : V) (k : Nat) : Same (rows (grow R u k)) (u :: rows R) := by
  refine Same.of (fun y hy => ?_) fun y hy => ?_
  · rcases (grow_rows R u k y).1 hy with rfl | ⟨x, hx, rfl⟩
    · exact Sp.mem (by simp)
    · exact Sp.add (Sp.mem (by simp [hx])) (Sp.smul _ (Sp.mem (by simp)))
  · have hu : Sp (rows (grow R u k)) u := Sp.mem ((grow_rows R u k u).2 (.inl rfl))
    rcases List.mem_cons.1 hy with rfl | hx
    · exact hu
    · have h1 := Sp.add (Sp.mem ((grow_rows R u k _).2 (.inr ⟨y, hx, rfl⟩))) (Sp.smul (y k) hu)
      rwa [vadd_assoc, vadd_self, vadd_zero] at h1
theorem Same.cons {A B : List V} (h : Same A B) (v : V) : Same (v :: A) (v :: B) :=
  Same.of (fun x hx => by
    rcases List.mem_cons.1 hx with rfl | hx
    · exact Sp.mem (by simp)
    · exact Sp.mono (fun y hy => by simp [hy]) ((h x).1 (Sp.mem hx))) fun x hx => by
    rcases List.mem_cons.1 hx with rfl | hx
    · exact Sp.mem (by simp)
    · exact Sp.mono (fun y hy => by simp [hy]) ((h x).2 (Sp.mem hx))
/-- What is left, times what is not 0, does as well as the row. -/
theorem left_same (R : List (Nat × V)) (v : V) {c : Fb} (hc : c ≠ zero) : Same (smul c (left v R) :: rows R) (v :: rows R) := by
  refine Same.of (fun x hx => ?_) fun x hx => ?_
  · rcases List.mem_cons.1 hx with rfl | hx
    · exact Sp.smul _ (Sp.add (Sp.mem (by simp)) (Sp.mono (fun y hy => by simp [hy]) (pick_in v R)))
    · exact Sp.mem (by simp [hx])
  · rcases List.mem_cons.1 hx with rfl | hx
    · have h1 : Sp (smul c (left x R) :: rows R) (left x R) := by
        have := Sp.smul (inv c) (Sp.mem (A := smul c (left x R) :: rows R) (x := smul c (left x R)) (by simp))
        rwa [smul_smul, inv_mul c hc, one_smul] at this
      have h2 := Sp.add h1 (Sp.mono (B := smul c (left x R) :: rows R) (fun y hy => by simp [hy]) (pick_in x R))
      rwa [left_back] at h2
    · exact Sp.mem (by simp [hx])
/-- One more row: the reduced rows, and how many. -/
theorem rref_more {n : Nat} {R : List (Nat × V)} (h : Rref R) (hR : ∀ x ∈ rows R, Supp n x) {v : V} (hv : Supp n v) :
    ∃ S, Rref S ∧ Same (rows S) (v :: rows R) ∧ (Sp (rows R) v → S = R) ∧ (¬ Sp (rows R) v → S.length = R.length + 1) := by
  by_cases c : left v R = vzero
  · have hin := (left_zero h v).1 c
    exact ⟨R, h, (mem_cons_same hin).symm, fun _ => rfl, fun c' => absurd hin c'⟩
  · have hin : ¬ Sp (rows R) v := fun c' => c ((left_zero h v).2 c')
    obtain ⟨k, -, hk⟩ := begins_exists (v := left v R) (Supp.add hv (Sp.supp hR (pick_in v R))) c
    refine ⟨grow R (smul (inv (left v R k)) (left v R)) k, grow_rref h (inv_mul _ hk.1) (fun j hj => ?_) (fun p x hx => ?_), (grow_same _ _ _).trans (left_same R v (inv_ne _ hk.1)), fun c' => absurd c' hin, fun _ => ?_⟩
    · show mul _ (left v R j) = zero
      rw [hk.2 j hj, mul_zero]
    · show mul _ (left v R p) = zero
      rw [left_at h v hx, mul_zero]
    · simp [grow, insAt_length]
theorem Rref.nil : Rref [] := ⟨List.Pairwise.nil, fun _ _ h => absurd h (by simp), fun _ _ h => absurd h (by simp), fun _ _ _ _ h => absurd h (by simp)⟩
/-- Each list of rows has its reduced rows, not more of them. -/
theorem rref_exists {n : Nat} : ∀ A : List V, (∀ x ∈ A, Supp n x) → ∃ R, Rref R ∧ Same (rows R) A ∧ R.length ≤ A.length
  | [], _ => ⟨[], Rref.nil, Same.refl _, Nat.le_refl _⟩
  | v :: A, h => by
    obtain ⟨R, hR, hs, hl⟩ := rref_exists A fun x hx => h x (by simp [hx])
    have hsup : ∀ x ∈ rows R, Supp n x := fun x hx => Sp.supp (fun y hy => h y (by simp [hy])) ((hs x).1 (Sp.mem hx))
    obtain ⟨S, hS, hs', h1, h2⟩ := rref_more hR hsup (h v (by simp))
    refine ⟨S, hS, hs'.trans (hs.cons v), ?_⟩
    by_cases c : Sp (rows R) v
    · rw [h1 c]
      exact Nat.le_succ_of_le hl
    · rw [h2 c]
      exact Nat.succ_le_succ hl

/-! ### Ranks -/
/-- R is what A is reduced to. -/
def Red (A : List V) (R : List (Nat × V)) : Prop := Rref R ∧ Same (rows R) A
open Classical in
noncomputable def rk (A : List V) : Nat := if h : ∃ R, Red A R then h.choose.length else 0
theorem rk_eq {A : List V} {R : List (Nat × V)} (h : Red A R) : rk A = R.length := by
  have he : ∃ R, Red A R := ⟨R, h⟩
  unfold rk
  rw [dif_pos he]
  have := he.choose_spec
  rw [rref_unique this.1 h.1 (this.2.trans h.2.symm)]
theorem rk_same {A B : List V} (h : Same A B) : rk A = rk B := by
  have : Red A = Red B := funext fun R => propext ⟨fun c => ⟨c.1, c.2.trans h⟩, fun c => ⟨c.1, c.2.trans h.symm⟩⟩
  unfold rk
  rw [this]
theorem red_exists {n : Nat} {A : List V} (h : ∀ x ∈ A, Supp n x) : ∃ R, Red A R ∧ rk A = R.length := by
  obtain ⟨R, h1, h2, -⟩ := rref_exists A h
  exact ⟨R, ⟨h1, h2⟩, rk_eq ⟨h1, h2⟩⟩
theorem rk_le_len {n : Nat} {A : List V} (h : ∀ x ∈ A, Supp n x) : rk A ≤ A.length := by
  obtain ⟨R, h1, h2, h3⟩ := rref_exists A h
  rw [rk_eq ⟨h1, h2⟩]
  exact h3
theorem red_supp {n : Nat} {A : List V} {R : List (Nat × V)} (hr : Red A R) (h : ∀ x ∈ A, Supp n x) : ∀ x ∈ rows R, Supp n x :=
  fun x hx => Sp.supp h ((hr.2 x).1 (Sp.mem hx))
/-- Places that rise, all below n, are not more than n. -/
theorem places_le : ∀ (R : List (Nat × V)) (b n : Nat), R.Pairwise (fun x y => x.1 < y.1) → (∀ a ∈ R, b ≤ a.1 ∧ a.1 < n) → R.length ≤ n - b
  | [], _, _, _, _ => Nat.zero_le _
  | a :: R, b, n, h, hb => by
    have h' := List.pairwise_cons.1 h
    have ha := hb a (by simp)
    have := places_le R (a.1 + 1) n h'.2 fun c hc => ⟨h'.1 c hc, (hb c (by simp [hc])).2⟩
    simp only [List.length_cons]
    omega
theorem rref_place_lt {n : Nat} {R : List (Nat × V)} (h : Rref R) (hs : ∀ x ∈ rows R, Supp n x) {p : Nat} {x : V} (hx : (p, x) ∈ R) : p < n := by
  by_cases c : p < n
  · exact c
  · have := hs x (List.mem_map.2 ⟨(p, x), hx, rfl⟩) p (by omega)
    rw [h.lead p x hx] at this
    exact absurd this one_ne
theorem rk_le_cols {n : Nat} {A : List V} (h : ∀ x ∈ A, Supp n x) : rk A ≤ n := by
  obtain ⟨R, hr, e⟩ := red_exists h
  rw [e]
  have := places_le R 0 n hr.1.sorted fun a ha => ⟨Nat.zero_le _, rref_place_lt hr.1 (red_supp hr h) (x := a.2) ha⟩
  omega
/-- Places of the one that are all places of the other are not more. -/
theorem places_sub : ∀ (R S : List (Nat × V)), R.Pairwise (fun x y => x.1 < y.1) → S.Pairwise (fun x y => x.1 < y.1) → (∀ a ∈ R, ∃ b ∈ S, b.1 = a.1) → R.length ≤ S.length
  | [], _, _, _, _ => Nat.zero_le _
  | a :: R, [], _, _, h => by
    obtain ⟨b, hb, -⟩ := h a (by simp)
    cases hb
  | a :: R, b :: S, hR, hS, h => by
    have hR' := List.pairwise_cons.1 hR
    have hS' := List.pairwise_cons.1 hS
    obtain ⟨c, hc, ec⟩ := h a (by simp)
    have hba : b.1 ≤ a.1 := by
      rcases List.mem_cons.1 hc with rfl | hc
      · omega
      · have := hS'.1 c hc
        omega
    refine Nat.succ_le_succ (places_sub R S hR'.2 hS'.2 fun d hd => ?_)
    obtain ⟨e, he, ee⟩ := h d (by simp [hd])
    rcases List.mem_cons.1 he with rfl | he
    · have := hR'.1 d hd
      omega
    · exact ⟨e, he, ee⟩
theorem rk_mono {n : Nat} {A B : List V} (hA : ∀ x ∈ A, Supp n x) (hB : ∀ x ∈ B, Supp n x) (h : ∀ x ∈ A, Sp B x) : rk A ≤ rk B := by
  obtain ⟨R, hr, e⟩ := red_exists hA
  obtain ⟨S, hs, e'⟩ := red_exists hB
  rw [e, e']
  refine places_sub R S hr.1.sorted hs.1.sorted fun a ha => ?_
  obtain ⟨p, x⟩ := a
  have hx : Sp (rows R) x := Sp.mem (List.mem_map.2 ⟨(p, x), ha, rfl⟩)
  have hxs : Sp (rows S) x := (hs.2 x).2 (Sp.trans h ((hr.2 x).1 hx))
  obtain ⟨y, hy⟩ := begins_at hs.1 hxs (lead_begins hr.1 ha)
  exact ⟨(p, y), hy, rfl⟩
/-- The rank with one more row. -/
theorem rk_cons {n : Nat} {A : List V} (hA : ∀ x ∈ A, Supp n x) {v : V} (hv : Supp n v) : (Sp A v → rk (v :: A) = rk A) ∧ (¬ Sp A v → rk (v :: A) = rk A + 1) := by
  obtain ⟨R, hr, e⟩ := red_exists hA
  obtain ⟨S, hS, hs, h1, h2⟩ := rref_more hr.1 (red_supp hr hA) hv
  have hrS : Red (v :: A) S := ⟨hS, hs.trans (hr.2.cons v)⟩
  rw [e, rk_eq hrS]
  refine ⟨fun c => by rw [h1 ((hr.2 v).2 c)], fun c => h2 fun c' => c ((hr.2 v).1 c')⟩
/-- Full rank: all is spanned. -/
theorem full_span {n : Nat} {A : List V} (hA : ∀ x ∈ A, Supp n x) (h : rk A = n) {v : V} (hv : Supp n v) : Sp A v := by
  by_cases c : Sp A v
  · exact c
  · have h1 := (rk_cons hA hv).2 c
    have h2 := rk_le_cols (A := v :: A) (n := n) fun x hx => by
      rcases List.mem_cons.1 hx with rfl | hx
      · exact hv
      · exact hA x hx
    omega

/-! ### Columns -/
def rowAt (A : List V) (i : Nat) : V := (A[i]?).getD vzero
def col (A : List V) (j : Nat) : V := fun i => rowAt A i j
def tr (n : Nat) (A : List V) : List V := (List.range n).map (col A)
theorem rowAt_mem {A : List V} {i : Nat} (h : i < A.length) : rowAt A i ∈ A := by
  unfold rowAt
  rw [List.getElem?_eq_getElem h]
  exact List.getElem_mem h
theorem rowAt_out {A : List V} {i : Nat} (h : A.length ≤ i) : rowAt A i = vzero := by
  unfold rowAt
  rw [List.getElem?_eq_none h]
  rfl
theorem col_supp (A : List V) (j : Nat) : Supp A.length (col A j) := fun i hi => by
  show rowAt A i j = zero
  rw [rowAt_out hi]
  rfl
theorem tr_supp (n : Nat) (A : List V) : ∀ x ∈ tr n A, Supp A.length x := by
  intro x hx
  obtain ⟨j, -, rfl⟩ := List.mem_map.1 hx
  exact col_supp A j
theorem tr_length (n : Nat) (A : List V) : (tr n A).length = n := by simp [tr]
theorem rowAt_tr {n : Nat} {A : List V} {j : Nat} (h : j < n) : rowAt (tr n A) j = col A j := by
  unfold rowAt tr
  simp [h]
theorem tr_tr {n : Nat} {A : List V} (h : ∀ x ∈ A, Supp n x) : tr A.length (tr n A) = A := by
  apply List.ext_getElem
  · simp [tr]
  · intro i h1 h2
    have : (tr A.length (tr n A))[i] = col (tr n A) i := by simp [tr]
    rw [this]
    funext j
    show rowAt (tr n A) j i = A[i] j
    by_cases c : j < n
    · rw [rowAt_tr c]
      show rowAt A i j = _
      unfold rowAt
      rw [List.getElem?_eq_getElem h2]
      rfl
    · rw [rowAt_out (by rw [tr_length]; omega), h _ (List.getElem_mem h2) j (by omega)]
      rfl
/-- The sum of the columns where rows begin, each times what the row has at j. -/
def colSum (A : List V) (j : Nat) : List (Nat × V) → V
  | [] => vzero
  | (p, x) :: R => vadd (smul (x j) (col A p)) (colSum A j R)
theorem colSum_at (A : List V) (j i : Nat) : ∀ R, colSum A j R i = pick (rowAt A i) R j
  | [] => rfl
  | (p, x) :: R => by
    show add (mul (x j) (rowAt A i p)) (colSum A j R i) = add (mul (rowAt A i p) (x j)) (pick (rowAt A i) R j)
    rw [colSum_at A j i R, mul_comm]
theorem colSum_in (A : List V) (j : Nat) : ∀ R, Sp (R.map fun a => col A a.1) (colSum A j R)
  | [] => Sp.zero
  | (p, x) :: R => Sp.step _ _ _ (by simp) (Sp.mono (fun y hy => List.mem_cons_of_mem _ hy) (colSum_in A j R))
theorem rk_tr_le {n : Nat} {A : List V} (h : ∀ x ∈ A, Supp n x) : rk (tr n A) ≤ rk A := by
  obtain ⟨R, hr, e⟩ := red_exists h
  have hC : ∀ x ∈ R.map (fun a => col A a.1), Supp A.length x := by
    intro x hx
    obtain ⟨a, -, rfl⟩ := List.mem_map.1 hx
    exact col_supp A a.1
  have h1 : rk (tr n A) ≤ rk (R.map fun a => col A a.1) := by
    refine rk_mono (tr_supp n A) hC fun x hx => ?_
    obtain ⟨j, -, rfl⟩ := List.mem_map.1 hx
    have : col A j = colSum A j R := by
      funext i
      rw [colSum_at]
      show rowAt A i j = _
      by_cases c : i < A.length
      · rw [pick_span hr.1 ((hr.2 _).2 (Sp.mem (rowAt_mem c)))]
      · rw [rowAt_out (by omega), pick_none vzero R fun _ _ _ => rfl]
    rw [this]
    exact colSum_in A j R
  have h2 := rk_le_len hC
  rw [List.length_map] at h2
  omega
/-- The rank of the columns is the rank of the rows. -/
theorem rk_tr {n : Nat} {A : List V} (h : ∀ x ∈ A, Supp n x) : rk (tr n A) = rk A := by
  have h1 := rk_tr_le h
  have h2 := rk_tr_le (tr_supp n A)
  rw [tr_tr h] at h2
  omega

/-! ### Products -/
/-- The sum of the rows of X, each times the element of c with its index. -/
def lc (c : V) : List V → V
  | [] => vzero
  | x :: X => vadd (smul (c 0) x) (lc (fun i => c (i + 1)) X)
theorem lc_in (c : V) : ∀ X, Sp X (lc c X)
  | [] => Sp.zero
  | x :: X => Sp.step _ x _ (by simp) (Sp.mono (fun y hy => by simp [hy]) (lc_in _ X))
theorem lc_zero : ∀ X, lc vzero X = vzero
  | [] => rfl
  | x :: X => by
    show vadd (smul zero x) (lc vzero X) = vzero
    rw [lc_zero X, zero_smul, vadd_zero]
theorem lc_add : ∀ (X : List V) (c d : V), lc (vadd c d) X = vadd (lc c X) (lc d X)
  | [], _, _ => (vadd_zero _).symm
  | x :: X, c, d => by
    show vadd (smul (add (c 0) (d 0)) x) (lc (vadd (fun i => c (i + 1)) (fun i => d (i + 1))) X) = vadd (vadd (smul (c 0) x) (lc (fun i => c (i + 1)) X)) (vadd (smul (d 0) x) (lc (fun i => d (i + 1)) X))
    rw [lc_add X, add_smul, vadd_assoc, vadd_assoc, vadd_left_comm (smul (d 0) x)]
theorem lc_smul : ∀ (X : List V) (k : Fb) (c : V), lc (smul k c) X = smul k (lc c X)
  | [], k, _ => (smul_zero k).symm
  | x :: X, k, c => by
    show vadd (smul (mul k (c 0)) x) (lc (smul k fun i => c (i + 1)) X) = smul k (vadd (smul (c 0) x) (lc (fun i => c (i + 1)) X))
    rw [lc_smul X, smul_add, smul_smul]
theorem lc_supp {n : Nat} {X : List V} (h : ∀ x ∈ X, Supp n x) (c : V) : Supp n (lc c X) := Sp.supp h (lc_in c X)
def mulM (A X : List V) : List V := A.map fun a => lc a X
theorem mulM_supp {n : Nat} {A X : List V} (h : ∀ x ∈ X, Supp n x) : ∀ x ∈ mulM A X, Supp n x := by
  intro x hx
  obtain ⟨a, -, rfl⟩ := List.mem_map.1 hx
  exact lc_supp h a
theorem Sp.lc {A : List V} (X : List V) {v : V} (hv : Sp A v) : Sp (mulM A X) (L.lc v X) := by
  induction hv with
  | zero => rw [lc_zero]; exact Sp.zero
  | step c x v hx _ ih =>
    rw [lc_add, lc_smul]
    exact Sp.step c _ _ (List.mem_map.2 ⟨x, hx, rfl⟩) ih
theorem rk_mul_right {n : Nat} {A X : List V} (h : ∀ x ∈ X, Supp n x) : rk (mulM A X) ≤ rk X :=
  rk_mono (mulM_supp h) h fun x hx => by
    obtain ⟨a, -, rfl⟩ := List.mem_map.1 hx
    exact lc_in a X
theorem rk_mul_left {n m : Nat} {A X : List V} (hA : ∀ x ∈ A, Supp m x) (h : ∀ x ∈ X, Supp n x) : rk (mulM A X) ≤ rk A := by
  obtain ⟨R, hr, e⟩ := red_exists hA
  have h1 : rk (mulM A X) ≤ rk (mulM (rows R) X) := rk_mono (mulM_supp h) (mulM_supp h) fun x hx => by
    obtain ⟨a, ha, rfl⟩ := List.mem_map.1 hx
    exact Sp.lc X ((hr.2 a).2 (Sp.mem ha))
  have h2 := rk_le_len (mulM_supp (A := rows R) h)
  have h3 : (mulM (rows R) X).length = R.length := by simp [mulM, rows]
  omega
/-- What has index i alone. -/
def unit (i : Nat) : V := fun j => if j = i then one else zero
theorem unit_supp {n i : Nat} (h : i < n) : Supp n (unit i) := fun k hk => by
  unfold unit
  rw [if_neg (by omega)]
theorem lc_unit : ∀ (X : List V) (i : Nat), lc (unit i) X = rowAt X i
  | [], i => by simp [lc, rowAt]
  | x :: X, 0 => by
    have : (fun i => unit 0 (i + 1)) = vzero := funext fun i => by simp [unit, vzero]
    show vadd (smul (unit 0 0) x) (lc (fun i => unit 0 (i + 1)) X) = _
    rw [this, lc_zero, vadd_zero]
    simp [unit, one_smul, rowAt]
  | x :: X, i + 1 => by
    have : (fun j => unit (i + 1) (j + 1)) = unit i := funext fun j => by simp [unit]
    show vadd (smul (unit (i + 1) 0) x) (lc (fun j => unit (i + 1) (j + 1)) X) = _
    rw [this, lc_unit X i]
    simp [unit, zero_smul, vzero_add, rowAt]
/-- With all the rank, a product has just one right factor of as many rows. -/
theorem lc_span_eq {A : List V} {X Y : List V} (h : ∀ a ∈ A, lc a X = lc a Y) {v : V} (hv : Sp A v) : lc v X = lc v Y := by
  induction hv with
  | zero => rw [lc_zero, lc_zero]
  | step c x v hx _ ih => rw [lc_add, lc_add, lc_smul, lc_smul, ih, h x hx]
theorem mul_unique {n : Nat} {A X Y : List V} (hA : ∀ x ∈ A, Supp n x) (hr : rk A = n) (hX : X.length = n) (hY : Y.length = n) (h : mulM A X = mulM A Y) : X = Y := by
  have h' : ∀ a ∈ A, lc a X = lc a Y := List.map_inj_left.1 h
  apply List.ext_getElem (by rw [hX, hY])
  intro i h1 h2
  have := lc_span_eq h' (full_span hA hr (unit_supp (by omega : i < n)))
  rw [lc_unit, lc_unit] at this
  unfold rowAt at this
  rwa [List.getElem?_eq_getElem h1, List.getElem?_eq_getElem h2] at this
end Go.Proofs.YtpckdjapkngpgaaDoor.L
