/-
  What is left of rows.
-/
import Derived.Test.YtmeojdnalhaooaaSn
import Derived.Test.YtmeojdnalhaooaaEw
namespace Go.Proofs.Ytmeojdnalhaooaa
open Go.RowKit

/-- Behind a call that doesn't write where it lies, a slice of bytes reads as before. -/
theorem Bs.kp {F : Nat → Prop} {w w' : World} {v : Value} {l : List Int} (h : Bs w v l) (hk : Kp F w w') (ha : Away F v) : Bs w' v l := by
  obtain ⟨h0, oa, c, rfl, h2, h3, h4, h5⟩ := h
  refine ⟨h0, oa, c, rfl, h2, h3, h4, fun a he i hi => hk.cell (h5 a he i hi) ?_⟩
  rw [add_block]
  subst he
  exact ha a _ _ rfl (by omega)
theorem lead_at_nat {n : Nat} {R : List (List Int)} {ps : List Nat} (h : RedAt n R ps) (i : Nat) (hi : i < R.length) : (leadL (R.getD i [])).toNat = ps.getD i 0 := by
  rw [h.lead i hi]
  rfl
/-- A reduced list, with its places, for any rows. -/
theorem red_of {n : Nat} {A R : List (List Int)} (h : IsRed n A R) : ∃ T : List (Nat × L.V), L.Rref T ∧ L.Same (L.rows T) (A.map vec) ∧ ∀ p v, (p, v) ∈ T → ∃ r ∈ R, v = vec r ∧ (leadL r).toNat = p := by
  obtain ⟨ps', hra⟩ := h.redAt
  obtain ⟨hw, ps, hl, hr, h2⟩ := h
  refine ⟨ps.zip (R.map vec), hr, h2, fun p v hm => ?_⟩
  obtain ⟨i, hi⟩ := List.getElem?_of_mem hm
  rw [List.getElem?_zip_eq_some] at hi
  obtain ⟨hp, hv⟩ := hi
  rw [List.getElem?_map] at hv
  cases hR : R[i]? with
  | none => rw [hR] at hv; cases hv
  | some r =>
    rw [hR] at hv
    have hv' : vec r = v := by simpa using hv
    refine ⟨r, List.mem_of_getElem? hR, hv'.symm, ?_⟩
    have hb := L.lead_begins hr hm
    have hi : i < R.length := (List.getElem?_eq_some_iff.1 hR).1
    have hgr : R.getD i [] = r := by rw [List.getD_eq_getElem?_getD, hR]; rfl
    have hlead := hra.lead i hi
    have hone := hra.one i hi
    have hah := hra.ahead i hi
    rw [hgr] at hlead hone hah
    have hb2 : L.Begins v (ps'.getD i 0) := by
      rw [← hv']
      refine ⟨?_, fun j hj => ?_⟩
      · show fb (r.getD (ps'.getD i 0) 0) ≠ L.zero
        rw [hone, fb_one]
        exact L.one_ne
      · show fb (r.getD j 0) = L.zero
        rw [hah j hj, fb_zero]
    rw [hlead, L.Begins.uniq hb hb2]
    rfl
/-- What is spanned, and has noughts where the reduced rows begin, is nought. -/
theorem rest_nought {n : Nat} {A R : List (List Int)} {y : List Int} (hr : IsRed n A R) (hs : L.Sp (A.map vec) (vec y)) (h0 : ∀ r ∈ R, y.getD (leadL r).toNat 0 = 0) : vec y = L.vzero := by
  obtain ⟨T, h1, h2, h3⟩ := red_of hr
  refine L.span_zero h1 ((h2 _).2 hs) fun p v hm => ?_
  obtain ⟨r, hR, _, hp⟩ := h3 p v hm
  show fb (y.getD p 0) = L.zero
  rw [← hp, h0 r hR, fb_zero]
theorem vec_zero_lead {y : List Int} (hb : ∀ z ∈ y, Byt z) : vec y = L.vzero ↔ leadL y < 0 := by
  constructor
  · intro h
    apply Classical.byContradiction
    intro c
    have hy : ∀ j, y.getD j 0 = 0 := fun j => fb_inj (getD_byt hb j) (by unfold Byt; omega) (by rw [fb_zero]; exact congrFun h j)
    have := leadL_none y fun j _ => hy j
    omega
  · intro h
    have hge := leadL_ge y
    have hn : leadL y = -1 := by omega
    have h0 : ∀ l : List Int, leadL l = -1 → ∀ j, l.getD j 0 = 0 := by
      intro l
      induction l with
      | nil => intro _ j; simp
      | cons a l ih =>
        intro h j
        have hge := leadL_ge l
        unfold leadL at h
        split at h
        · rename_i ha
          split at h
          · rename_i hl
            cases j with
            | zero => simpa using ha
            | succ j => simpa using ih hl j
          · omega
        · omega
    funext j
    show fb (y.getD j 0) = L.zero
    rw [h0 y hn j, fb_zero]
/-- A row is spanned just if what is left of it is nought. -/
theorem IsRest.spans {n : Nat} {A R : List (List Int)} {x y : List Int} (h : IsRest n A x y) (hr : IsRed n A R) : leadL y < 0 ↔ L.Sp (A.map vec) (vec x) := by
  obtain ⟨h1, h2, ⟨e, he, hv⟩, h4⟩ := h
  rw [← vec_zero_lead h2]
  constructor
  · intro hz
    rw [hv] at hz
    have : vec x = e := by
      have := congrArg (fun u => L.vadd u e) hz
      simp only [L.vadd_assoc, L.vadd_self, L.vadd_zero, L.vzero_add] at this
      exact this
    rw [this]
    exact he
  · intro hs
    refine rest_nought hr ?_ (h4 R hr)
    rw [hv]
    exact L.Sp.add hs he
/-- A row and what is left of it leave the same. -/
theorem IsRest.again {n : Nat} {A R : List (List Int)} {x y z : List Int} (h : IsRest n A x y) (h' : IsRest n A y z) (hr : IsRed n A R) : z = y := by
  obtain ⟨h1, h2, _, h4⟩ := h
  obtain ⟨g1, g2, ⟨e, he, hv⟩, g4⟩ := h'
  obtain ⟨T, t1, t2, t3⟩ := red_of hr
  have he0 : e = L.vzero := by
    refine L.span_zero t1 ((t2 _).2 he) fun p v hm => ?_
    obtain ⟨r, hR, _, hp⟩ := t3 p v hm
    have a1 : vec z p = L.zero := by
      show fb (z.getD p 0) = L.zero
      rw [← hp, g4 R hr r hR, fb_zero]
    have a2 : vec y p = L.zero := by
      show fb (y.getD p 0) = L.zero
      rw [← hp, h4 R hr r hR, fb_zero]
    have a3 : vec z p = L.add (vec y p) (e p) := congrFun hv p
    rw [a1, a2, L.zero_add] at a3
    exact a3.symm
  rw [he0, L.vadd_zero] at hv
  exact vec_inj (by rw [g1, h1]) g2 h2 hv
/-- A row plus what is left of it is spanned. -/
theorem IsRest.sum {n : Nat} {A : List (List Int)} {x y : List Int} (h : IsRest n A x y) (hx : ∀ z ∈ x, Byt z) (hl : x.length = n) : L.Sp (A.map vec) (vec (sumL x y)) := by
  obtain ⟨h1, h2, ⟨e, he, hv⟩, _⟩ := h
  rw [vec_sum hx h2 (by rw [h1, hl]), hv, ← L.vadd_assoc, L.vadd_self, L.vzero_add]
  exact he
set_option maxHeartbeats 400000 in
theorem cut_in (v : Value) (l : List Int) (n : Nat) (w : World) (h : Bs w v l) (hn : n ≤ 1000000) :
    Calls Try.prog 10 #[v, .int .i64 n] w fun e w' => ∃ v', e = .returned v' ∧ Bs w' v' (l.take n) ∧ w = w' ∧ ∀ ab, InB ab v → InB ab v' := by
  obtain ⟨hb, oa, c, rfl, h1, h2, h3, h4⟩ := h
  have hlen : (l.take n).length = min l.length n := by rw [List.length_take, Nat.min_comm]
  have HR : Hid (Bs w (.slice oa (min l.length n) c) (l.take n)) := Lib.hid ⟨fun x hx => hb x (List.mem_of_mem_take hx), oa, c, by rw [hlen], by rw [hlen]; omega, h2, h3, fun a ha i hi => by
    rw [hlen] at hi
    rw [h4 a ha i (by omega), List.getD_eq_getElem?_getD, List.getD_eq_getElem?_getD, List.getElem?_take_of_lt (by omega)]⟩
  have HI : Hid (∀ k k' ab, InB ab (.slice oa k c) → InB ab (.slice oa k' c)) := Lib.hid (fun k k' ab h a m c' he => by
    cases he
    exact h a k c rfl)
  clear hlen h4 hb
  generalize l.take n = t at *
  generalize l.length = m at *
  by_cases hm : m ≤ n
  · go_enter Try.func10, Try.ntmps10
    go_wp2
    go_ret
    exact ⟨_, rfl, by rw [Nat.min_eq_left hm] at HR; exact HR.out, rfl, HI.out m m⟩
  · go_enter Try.func10, Try.ntmps10
    go_wp2
    go_ret
    exact ⟨_, rfl, by rw [Nat.min_eq_right (by omega)] at HR; exact HR.out, rfl, HI.out m n⟩
/-- Where a slice that came in lies. -/
theorem Bs.lies {w : World} {v : Value} {l : List Int} (h : Bs w v l) : ∃ ab, InB ab v ∧ (0 < l.length → ab < w.heap.size) := by
  obtain ⟨oa, c, he⟩ := h.form
  subst he
  cases oa with
  | none =>
    refine ⟨0, (fun a m c' he => by cases he), fun h0 => ?_⟩
    obtain ⟨a, c', he, _⟩ := Bs.at h h0
    cases he
  | some a => exact ⟨a.block, (fun a' m c' he => by cases he; rfl), fun h0 => Bs.low h h0⟩
theorem InB.away {F : Nat → Prop} {ab : Nat} {v : Value} (h : InB ab v) (hn : ¬ F ab) : Away F v := fun a m c he _ e => hn (by rw [← h a m c he]; exact e)
/-- A row of the field as bytes. -/
def toRow (n : Nat) (v : L.V) : List Int := (List.range n).map fun j => ((v j).n : Int)
theorem toRow_length (n : Nat) (v : L.V) : (toRow n v).length = n := by simp [toRow]
theorem toRow_byt (n : Nat) (v : L.V) : ∀ z ∈ toRow n v, Byt z := by
  intro z hz
  obtain ⟨j, _, rfl⟩ := List.mem_map.1 hz
  have := (v j).lt
  unfold Byt
  omega
theorem vec_toRow {n : Nat} {v : L.V} (h : L.Supp n v) : vec (toRow n v) = v := by
  funext j
  show fb ((toRow n v).getD j 0) = v j
  by_cases hj : j < n
  · have e : (toRow n v).getD j 0 = ((v j).n : Int) := by
      unfold toRow
      rw [List.getD_eq_getElem?_getD, List.getElem?_map, List.getElem?_range hj]
      rfl
    rw [e]
    apply L.Fb.ext
    show ((v j).n : Int).toNat % 256 = (v j).n
    rw [Int.toNat_natCast, Nat.mod_eq_of_lt (v j).lt]
  · rw [getD_out (by rw [toRow_length]; omega), fb_zero, h j (by omega)]
/-- There is what rows are reduced to. -/
theorem isRed_exists {n : Nat} {A : List (List Int)} (hA : Wide n A) : ∃ R, IsRed n A R := by
  obtain ⟨T, hT, _⟩ := L.red_exists hA.supp
  have hs := L.red_supp hT hA.supp
  refine ⟨T.map fun a => toRow n a.2, fun r hr => ?_, T.map (·.1), by simp, ?_⟩
  · obtain ⟨a, _, rfl⟩ := List.mem_map.1 hr
    exact ⟨toRow_length _ _, toRow_byt _ _⟩
  · have e : (T.map (·.1)).zip ((T.map fun a => toRow n a.2).map vec) = T := by
      rw [List.map_map]
      have : ∀ S : List (Nat × L.V), (∀ a ∈ S, L.Supp n a.2) → (S.map (·.1)).zip (S.map (vec ∘ fun a => toRow n a.2)) = S := by
        intro S
        induction S with
        | nil => intro _; rfl
        | cons a S ih =>
          intro h
          rw [List.map_cons, List.map_cons, List.zip_cons_cons, ih fun b hb => h b (by simp [hb])]
          show (a.1, vec (toRow n a.2)) :: S = a :: S
          rw [vec_toRow (h a (by simp))]
      exact this T fun a ha => hs a.2 (List.mem_map.2 ⟨a, ha, rfl⟩)
    rw [e]
    exact hT
/-- What package row says of Sum, of rows of one length. -/
def SumOk : Prop := ∀ (va vb : Value) (x y : List Int) (w : World), Bs w va x → Bs w vb y → x.length ≤ 1000000 → y.length = x.length →
    Calls Try.prog 27 #[va, vb] w fun e w' => ∃ v, e = .returned (.tuple #[v, .bool true]) ∧ New w w' v (sumL x y)
end Go.Proofs.Ytmeojdnalhaooaa
