/-
  Plain linear algebra over the field of 256 elements: what rows span, reduced rows, and that there is just one list of them for what is spanned. No condition.
-/
import Derived.Test.YtpckdjapkngpgaaDoorMath
namespace Go.Proofs.YtpckdjapkngpgaaDoor.L
open M

/-- An element of the field. -/
structure Fb where
  n : Nat
  lt : n < 256
theorem Fb.ext {a b : Fb} (h : a.n = b.n) : a = b := by
  cases a
  cases b
  simp at h
  subst h
  rfl
def zero : Fb := ⟨0, by decide⟩
def one : Fb := ⟨1, by decide⟩
def add (a b : Fb) : Fb := ⟨a.n ^^^ b.n, xor_lt a.lt b.lt⟩
def mul (a b : Fb) : Fb := ⟨mulN a.n b.n, mulN_lt _ _⟩
def inv (a : Fb) : Fb := ⟨invN a.n, invN_lt _⟩
theorem add_comm (a b : Fb) : add a b = add b a := Fb.ext (Nat.xor_comm _ _)
theorem add_assoc (a b c : Fb) : add (add a b) c = add a (add b c) := Fb.ext (Nat.xor_assoc _ _ _)
theorem add_zero (a : Fb) : add a zero = a := Fb.ext (Nat.xor_zero _)
theorem zero_add (a : Fb) : add zero a = a := Fb.ext (Nat.zero_xor _)
theorem add_self (a : Fb) : add a a = zero := Fb.ext (Nat.xor_self _)
theorem add_left_comm (a b c : Fb) : add a (add b c) = add b (add a c) := by rw [← add_assoc, add_comm a, add_assoc]
theorem mul_comm (a b : Fb) : mul a b = mul b a := Fb.ext (mulN_comm _ _)
theorem mul_assoc (a b c : Fb) : mul (mul a b) c = mul a (mul b c) := Fb.ext (mulN_assoc _ _ _)
theorem mul_one (a : Fb) : mul a one = a := Fb.ext (M.mulN_one a.n a.lt)
theorem one_mul (a : Fb) : mul one a = a := by rw [mul_comm, mul_one]
theorem mul_zero (a : Fb) : mul a zero = zero := Fb.ext (M.mulN_zero_right a.n)
theorem zero_mul (a : Fb) : mul zero a = zero := Fb.ext (M.mulN_zero_left a.n)
theorem mul_add (a b c : Fb) : mul a (add b c) = add (mul a b) (mul a c) := Fb.ext (mulN_xor _ _ _ b.lt c.lt)
theorem add_mul (a b c : Fb) : mul (add a b) c = add (mul a c) (mul b c) := by rw [mul_comm, mul_add, mul_comm c, mul_comm c]
theorem mul_inv (a : Fb) (h : a ≠ zero) : mul a (inv a) = one := Fb.ext (M.mulN_inv a.n a.lt (fun c => h (Fb.ext c)))
theorem inv_mul (a : Fb) (h : a ≠ zero) : mul (inv a) a = one := by rw [mul_comm, mul_inv a h]
theorem one_ne : one ≠ zero := by
  intro h
  have := congrArg Fb.n h
  exact absurd this (by decide)
theorem inv_ne (a : Fb) (h : a ≠ zero) : inv a ≠ zero := by
  intro c
  have := mul_inv a h
  rw [c, mul_zero] at this
  exact one_ne this.symm
theorem eq_of_add {a b : Fb} (h : add a b = zero) : a = b := by
  have : add (add a b) b = b := by rw [h, zero_add]
  rw [add_assoc, add_self, add_zero] at this
  exact this
theorem mul_eq_zero {a b : Fb} (h : mul a b = zero) (ha : a ≠ zero) : b = zero := by
  have : mul (inv a) (mul a b) = zero := by rw [h, mul_zero]
  rw [← mul_assoc, inv_mul a ha, one_mul] at this
  exact this

/-! ### Rows as functions of the place -/
abbrev V : Type := Nat → Fb
def vzero : V := fun _ => zero
def vadd (x y : V) : V := fun i => add (x i) (y i)
def smul (c : Fb) (x : V) : V := fun i => mul c (x i)
theorem vadd_comm (x y : V) : vadd x y = vadd y x := funext fun _ => add_comm _ _
theorem vadd_assoc (x y z : V) : vadd (vadd x y) z = vadd x (vadd y z) := funext fun _ => add_assoc _ _ _
theorem vadd_left_comm (x y z : V) : vadd x (vadd y z) = vadd y (vadd x z) := funext fun _ => add_left_comm _ _ _
theorem vadd_zero (x : V) : vadd x vzero = x := funext fun _ => add_zero _
theorem vzero_add (x : V) : vadd vzero x = x := funext fun _ => zero_add _
theorem vadd_self (x : V) : vadd x x = vzero := funext fun _ => add_self _
theorem smul_add (c : Fb) (x y : V) : smul c (vadd x y) = vadd (smul c x) (smul c y) := funext fun _ => mul_add _ _ _
theorem add_smul (c d : Fb) (x : V) : smul (add c d) x = vadd (smul c x) (smul d x) := funext fun _ => add_mul _ _ _
theorem smul_smul (c d : Fb) (x : V) : smul c (smul d x) = smul (mul c d) x := funext fun _ => (mul_assoc _ _ _).symm
theorem one_smul (x : V) : smul one x = x := funext fun _ => one_mul _
theorem zero_smul (x : V) : smul zero x = vzero := funext fun _ => zero_mul _
theorem smul_zero (c : Fb) : smul c vzero = vzero := funext fun _ => mul_zero _

/-- What a list of rows spans. -/
inductive Sp (A : List V) : V → Prop
  | zero : Sp A vzero
  | step (c : Fb) (x : V) (v : V) (hx : x ∈ A) (hv : Sp A v) : Sp A (vadd (smul c x) v)
theorem Sp.mem {A : List V} {x : V} (h : x ∈ A) : Sp A x := by
  have := Sp.step one x vzero h Sp.zero
  rwa [one_smul, vadd_zero] at this
theorem Sp.add {A : List V} {x y : V} (h : Sp A x) (h' : Sp A y) : Sp A (vadd x y) := by
  induction h with
  | zero => rwa [vzero_add]
  | step c x v hx _ ih => rw [vadd_assoc]; exact Sp.step c x _ hx ih
theorem Sp.smul {A : List V} {x : V} (c : Fb) (h : Sp A x) : Sp A (L.smul c x) := by
  induction h with
  | zero => rw [smul_zero]; exact Sp.zero
  | step d x v hx _ ih => rw [smul_add, smul_smul]; exact Sp.step _ x _ hx ih
theorem Sp.trans {A B : List V} (h : ∀ x ∈ A, Sp B x) {v : V} (hv : Sp A v) : Sp B v := by
  induction hv with
  | zero => exact Sp.zero
  | step c x v hx _ ih => exact Sp.add (Sp.smul c (h x hx)) ih
theorem Sp.mono {A B : List V} (h : ∀ x ∈ A, x ∈ B) {v : V} (hv : Sp A v) : Sp B v := Sp.trans (fun x hx => Sp.mem (h x hx)) hv
/-- Two lists span the same. -/
def Same (A B : List V) : Prop := ∀ v, Sp A v ↔ Sp B v
theorem Same.of {A B : List V} (h : ∀ x ∈ A, Sp B x) (h' : ∀ x ∈ B, Sp A x) : Same A B := fun _ => ⟨Sp.trans h, Sp.trans h'⟩
theorem Same.refl (A : List V) : Same A A := fun _ => Iff.rfl
theorem Same.symm {A B : List V} (h : Same A B) : Same B A := fun v => (h v).symm
theorem Same.trans {A B C : List V} (h : Same A B) (h' : Same B C) : Same A C := fun v => (h v).trans (h' v)
theorem Same.of_mem {A B : List V} (h : ∀ x, x ∈ A ↔ x ∈ B) : Same A B := Same.of (fun x hx => Sp.mem ((h x).1 hx)) (fun x hx => Sp.mem ((h x).2 hx))
/-- What vanishes at a place on all rows vanishes there on all that is spanned. -/
theorem Sp.at_zero {A : List V} {k : Nat} (h : ∀ x ∈ A, x k = L.zero) {v : V} (hv : Sp A v) : v k = L.zero := by
  induction hv with
  | zero => rfl
  | step c x v hx _ ih =>
    show L.add (L.mul c (x k)) (v k) = L.zero
    rw [h x hx, ih, mul_zero, add_zero]

/-! ### Reduced rows: each with the place where it begins -/
structure Rref (R : List (Nat × V)) : Prop where
  sorted : R.Pairwise fun a b => a.1 < b.1
  lead : ∀ p x, (p, x) ∈ R → x p = one
  ahead : ∀ p x, (p, x) ∈ R → ∀ k, k < p → x k = zero
  apart : ∀ p x q y, (p, x) ∈ R → (q, y) ∈ R → p ≠ q → x q = zero
def rows (R : List (Nat × V)) : List V := R.map (·.2)
/-- The sum of the rows, each times what v has where it begins. -/
def pick (v : V) : List (Nat × V) → V
  | [] => vzero
  | (p, x) :: R => vadd (smul (v p) x) (pick v R)
theorem pick_add (v w : V) : ∀ R, pick (vadd v w) R = vadd (pick v R) (pick w R)
  | [] => (vadd_zero _).symm
  | (p, x) :: R => by
    simp only [pick]
    rw [pick_add v w R, show vadd v w p = add (v p) (w p) from rfl, add_smul, vadd_assoc, vadd_assoc, vadd_left_comm (smul (w p) x)]
theorem pick_smul (c : Fb) (v : V) : ∀ R, pick (smul c v) R = smul c (pick v R)
  | [] => (smul_zero c).symm
  | (p, x) :: R => by
    simp only [pick]
    rw [pick_smul c v R, smul_add, smul_smul]
    rfl
theorem pick_none (v : V) : ∀ R, (∀ p x, (p, x) ∈ R → v p = zero) → pick v R = vzero
  | [], _ => rfl
  | (p, x) :: R, h => by
    simp only [pick]
    rw [h p x (by simp), zero_smul, vzero_add, pick_none v R (fun q y hq => h q y (by simp [hq]))]
theorem Rref.tail {a : Nat × V} {R : List (Nat × V)} (h : Rref (a :: R)) : Rref R :=
  ⟨(List.pairwise_cons.1 h.sorted).2, fun p x hx => h.lead p x (by simp [hx]), fun p x hx => h.ahead p x (by simp [hx]), fun p x q y hx hy => h.apart p x q y (by simp [hx]) (by simp [hy])⟩
theorem Rref.uniq_place {R : List (Nat × V)} (h : Rref R) {p : Nat} {x y : V} (hx : (p, x) ∈ R) (hy : (p, y) ∈ R) : x = y := by
  induction R with
  | nil => cases hx
  | cons a R ih =>
    have hs := (List.pairwise_cons.1 h.sorted).1
    rcases List.mem_cons.1 hx with rfl | hx'
    · rcases List.mem_cons.1 hy with e | hy'
      · exact (Prod.mk.inj e).2.symm
      · exact absurd (hs _ hy') (Nat.lt_irrefl _)
    · rcases List.mem_cons.1 hy with rfl | hy'
      · exact absurd (hs _ hx') (Nat.lt_irrefl _)
      · exact ih h.tail hx' hy'
/-- A row of the list is what it picks. -/
theorem pick_none_of (v : V) : ∀ S : List (Nat × V), (∀ q y, (q, y) ∈ S → v q = zero) → pick v S = vzero := pick_none v
theorem pick_row {R : List (Nat × V)} (h : Rref R) {p : Nat} {x : V} (hx : (p, x) ∈ R) : pick x R = x := by
  have key : ∀ S : List (Nat × V), (∀ a ∈ S, a ∈ R) → S.Pairwise (fun a b => a.1 < b.1) → ((p, x) ∈ S → pick x S = x) ∧ ((p, x) ∉ S → pick x S = vzero) := by
    intro S
    induction S with
    | nil => intro _ _; exact ⟨fun c => absurd c (by simp), fun _ => rfl⟩
    | cons a S ih =>
      obtain ⟨q, y⟩ := a
      intro hS hP
      have hP' := List.pairwise_cons.1 hP
      have i := ih (fun a ha => hS a (by simp [ha])) hP'.2
      have hy := hS (q, y) (by simp)
      simp only [pick]
      by_cases e : q = p
      · subst e
        obtain rfl := h.uniq_place hy hx
        have hn : (q, y) ∉ S := fun c => absurd (hP'.1 _ c) (Nat.lt_irrefl _)
        rw [i.2 hn, h.lead q y hy, one_smul, vadd_zero]
        exact ⟨fun _ => rfl, fun c => absurd (by simp) c⟩
      · rw [h.apart p x q y hx hy (fun c => e c.symm), zero_smul, vzero_add]
        have hne : (p, x) ≠ (q, y) := fun c => e (Prod.mk.inj c).1.symm
        refine ⟨fun c => i.1 ?_, fun c => i.2 fun c' => c (List.mem_cons_of_mem _ c')⟩
        rcases List.mem_cons.1 c with c | c
        · exact absurd c hne
        · exact c
  exact (key R (fun _ h => h) h.sorted).1 hx
/-- All that is spanned is what it picks. -/
theorem pick_span {R : List (Nat × V)} (h : Rref R) {v : V} (hv : Sp (rows R) v) : pick v R = v := by
  induction hv with
  | zero => exact pick_none _ _ fun _ _ _ => rfl
  | step c x v hx _ ih =>
    obtain ⟨⟨p, x'⟩, hm, rfl⟩ := List.mem_map.1 hx
    rw [pick_add, pick_smul, pick_row h hm, ih]
theorem span_zero {R : List (Nat × V)} (h : Rref R) {v : V} (hv : Sp (rows R) v) (h0 : ∀ p x, (p, x) ∈ R → v p = zero) : v = vzero := by
  rw [← pick_span h hv, pick_none v R h0]
/-- v begins at k. -/
def Begins (v : V) (k : Nat) : Prop := v k ≠ zero ∧ ∀ j, j < k → v j = zero
/-- What is spanned begins where a row begins. -/
theorem begins_at {R : List (Nat × V)} (h : Rref R) {v : V} (hv : Sp (rows R) v) {k : Nat} (hk : Begins v k) : ∃ x, (k, x) ∈ R := by
  have key : ∀ S : List (Nat × V), (∀ a ∈ S, a ∈ R) → S.Pairwise (fun a b => a.1 < b.1) → (∀ q y, (q, y) ∈ R → (q, y) ∉ S → v q = zero) → ∃ x, (k, x) ∈ R := by
    intro S
    induction S with
    | nil =>
      intro _ _ h0
      have := span_zero h hv (fun p x hx => h0 p x hx (by simp))
      rw [this] at hk
      exact absurd rfl hk.1
    | cons a S ih =>
      obtain ⟨q, y⟩ := a
      intro hS hP h0
      have hP' := List.pairwise_cons.1 hP
      have hy := hS (q, y) (by simp)
      by_cases hz : v q = zero
      · refine ih (fun a ha => hS a (by simp [ha])) hP'.2 (fun p x hx hn => ?_)
        by_cases e : (p, x) = (q, y)
        · obtain ⟨rfl, rfl⟩ := Prod.mk.inj e
          exact hz
        · exact h0 p x hx (by simp [e, hn])
      · have hkq : k ≤ q := by
          by_cases c : q < k
          · exact absurd (hk.2 q c) hz
          · omega
        by_cases e : k = q
        · subst e
          exact ⟨y, hy⟩
        · exfalso
          have hv2 := pick_span h hv
          have : v k = zero := by
            have hall : ∀ T : List (Nat × V), (∀ a ∈ T, a ∈ R) → pick v T k = zero := by
              intro T
              induction T with
              | nil => intro _; rfl
              | cons b T ihT =>
                obtain ⟨p, x⟩ := b
                intro hT
                have hx := hT (p, x) (by simp)
                show add (mul (v p) (x k)) (pick v T k) = zero
                rw [ihT (fun a ha => hT a (by simp [ha])), add_zero]
                by_cases c : k < p
                · rw [h.ahead p x hx k c, mul_zero]
                · by_cases c2 : p = k
                  · subst c2
                    have hm : (p, x) ∉ (q, y) :: S := by
                      intro c3
                      rcases List.mem_cons.1 c3 with c4 | c4
                      · exact e (Prod.mk.inj c4).1
                      · have := hP'.1 _ c4
                        simp at this
                        omega
                    rw [h0 p x hx hm, zero_mul]
                  · have : v p = zero := hk.2 p (by omega)
                    rw [this, zero_mul]
            rw [← hv2]
            exact hall R (fun _ h => h)
          exact hk.1 this
  exact key R (fun _ h => h) h.sorted (fun q y hq hn => absurd hq hn)
theorem lead_begins {R : List (Nat × V)} (h : Rref R) {p : Nat} {x : V} (hx : (p, x) ∈ R) : Begins x p :=
  ⟨by rw [h.lead p x hx]; exact one_ne, h.ahead p x hx⟩
theorem sorted_ext : ∀ (a b : List (Nat × V)), a.Pairwise (fun x y => x.1 < y.1) → b.Pairwise (fun x y => x.1 < y.1) → (∀ p x, (p, x) ∈ a ↔ (p, x) ∈ b) → a = b
  | [], [], _, _, _ => rfl
  | [], (p, x) :: b, _, _, h => absurd ((h p x).2 (by simp)) (by simp)
  | (p, x) :: a, [], _, _, h => absurd ((h p x).1 (by simp)) (by simp)
  | (p, x) :: a, (q, y) :: b, ha, hb, h => by
    have ha' := List.pairwise_cons.1 ha
    have hb' := List.pairwise_cons.1 hb
    have e : (p, x) = (q, y) := by
      rcases List.mem_cons.1 ((h p x).1 (by simp)) with c | c
      · exact c
      · rcases List.mem_cons.1 ((h q y).2 (by simp)) with c2 | c2
        · exact c2.symm
        · have h1 := hb'.1 _ c
          have h2 := ha'.1 _ c2
          simp at h1 h2
          omega
    obtain ⟨rfl, rfl⟩ := Prod.mk.inj e
    rw [sorted_ext a b ha'.2 hb'.2 fun r z => by
      constructor
      · intro hr
        rcases List.mem_cons.1 ((h r z).1 (by simp [hr])) with c | c
        · obtain ⟨rfl, rfl⟩ := Prod.mk.inj c
          exact absurd (ha'.1 _ hr) (Nat.lt_irrefl _)
        · exact c
      · intro hr
        rcases List.mem_cons.1 ((h r z).2 (by simp [hr])) with c | c
        · obtain ⟨rfl, rfl⟩ := Prod.mk.inj c
          exact absurd (hb'.1 _ hr) (Nat.lt_irrefl _)
        · exact c]
/-- There is just one list of reduced rows for what is spanned. -/
theorem rref_unique {R S : List (Nat × V)} (hR : Rref R) (hS : Rref S) (h : Same (rows R) (rows S)) : R = S := by
  have one_way : ∀ {R S : List (Nat × V)}, Rref R → Rref S → Same (rows R) (rows S) → ∀ p x, (p, x) ∈ R → (p, x) ∈ S := by
    intro R S hR hS h p x hx
    have hxs : Sp (rows R) x := Sp.mem (List.mem_map.2 ⟨(p, x), hx, rfl⟩)
    obtain ⟨y, hy⟩ := begins_at hS ((h x).1 hxs) (lead_begins hR hx)
    have hys : Sp (rows R) y := (h y).2 (Sp.mem (List.mem_map.2 ⟨(p, y), hy, rfl⟩))
    have hd : vadd x y = vzero := by
      refine span_zero hR (Sp.add hxs hys) fun q z hz => ?_
      show add (x q) (y q) = zero
      by_cases e : p = q
      · subst e
        rw [hR.lead p x hx, hS.lead p y hy, add_self]
      · rw [hR.apart p x q z hx hz e]
        obtain ⟨z', hz'⟩ := begins_at hS ((h z).1 (Sp.mem (List.mem_map.2 ⟨(q, z), hz, rfl⟩))) (lead_begins hR hz)
        rw [hS.apart p y q z' hy hz' e, add_self]
    have : x = y := funext fun i => eq_of_add (congrFun hd i)
    rw [this]
    exact hy
  exact sorted_ext R S hR.sorted hS.sorted fun p x => ⟨one_way hR hS h p x, one_way hS hR h.symm p x⟩
end Go.Proofs.YtpckdjapkngpgaaDoor.L
