/-
  Texts laid behind one another: If Db Dc Dd Di.
-/
import Derived.Test.YtbbglejdfbkjlaaGreatMbal
import Derived.Test.YtbbglejdfbkjlaaGreatMbad
namespace Go.Proofs.YtbbglejdfbkjlaaGreat
open Go.RowKit
namespace PN
theorem openL_set_nil {dn : List Bool} {c : List Int} {x : Nat} (hx : x < dn.length) (h : openL dn c = []) : openL (dn.set x true) c = [] := by
 unfold openL at *
 rw [List.filter_eq_nil_iff] at *
 intro y hy
 have := h y hy
 by_cases e : y.toNat = x
 ·rw [e, getD_set_selfT hx]; simp
 ·rw [getD_set_neT (by omega)]; exact this
theorem openL_set_one {dn : List Bool} {c : List Int} {x : Int} (hx : x.toNat < dn.length) (h : openL dn c = [x]) : openL (dn.set x.toNat true) c = [] := by
 have hm : ∀ y ∈ c, dn.getD y.toNat false = false → y = x := fun y hy hd => by
  have : y ∈ openL dn c := openL_mem.2 ⟨hy, hd⟩
  rw [h] at this
  exact List.mem_singleton.1 this
 unfold openL
 rw [List.filter_eq_nil_iff]
 intro y hy
 by_cases e : y.toNat = x.toNat
 ·rw [e, getD_set_selfT hx]; simp
 ·rw [getD_set_neT (by omega)]
  cases hd : dn.getD y.toNat false with
  | true => simp
  | false => exact absurd (by rw [hm y hy hd]) e
structure Facts (n : Nat) (R : List (List Int)) (s : St) : Prop where
 used : ∀ i, i < R.length → s.us.getD i false = true → openL s.dn (R.getD i []) = []
 rest : unkN s.us R.length + s.steps.length = R.length
 done : ∀ x : Nat, x < n → (s.dn.getD x false = true ↔ ((x : Int) ∈ s.dead ∨ ∃ p ∈ s.steps, p.2 = (x : Int)))
 row : ∀ i : Nat, i < R.length → (s.us.getD i false = true ↔ ∃ p ∈ s.steps, p.1 = (i : Int))
 once : s.dead.Nodup ∧ (s.steps.map Prod.fst).Nodup ∧ (s.steps.map Prod.snd).Nodup ∧ ∀ x ∈ s.dead, ∀ p ∈ s.steps, p.2 ≠ x
 says : ∀ k, k < s.steps.length → (s.steps.getD k (0, 0)).2 ∈ R.getD (s.steps.getD k (0, 0)).1.toNat [] ∧ ∀ c ∈ R.getD (s.steps.getD k (0, 0)).1.toNat [], c ≠ (s.steps.getD k (0, 0)).2 → c ∈ s.dead ∨ ∃ p ∈ s.steps.take k, p.2 = c
theorem getD_append_lt {α : Type} {a b : List α} {k : Nat} {d : α} (h : k < a.length) : (a ++ b).getD k d = a.getD k d := by
 rw [List.getD_eq_getElem?_getD, List.getD_eq_getElem?_getD, List.getElem?_append_left h]
theorem getD_append_self {α : Type} {a : List α} {x d : α} : (a ++ [x]).getD a.length d = x := by
 rw [List.getD_eq_getElem?_getD, List.getElem?_append_right (Nat.le_refl _)]
 simp
theorem nodup_snoc {α : Type} {a : List α} {x : α} (h : a.Nodup) (hx : x ∉ a) : (a ++ [x]).Nodup := by
 rw [List.nodup_append]
 refine ⟨h, by simp, fun y hy z hz e => ?_⟩
 obtain rfl := List.mem_singleton.1 hz
 exact hx (e ▸ hy)
theorem run_facts {n : Nat} {R : List (List Int)} (hR : ∀ c ∈ R, MayRow n c) : ∀ t, t ≤ n → Facts n R (run n R t)
 | 0, _ => by
  refine ⟨fun i hi h => ?_, ?_, fun x hx => ?_, fun i hi => ?_, ⟨List.nodup_nil, List.nodup_nil, List.nodup_nil, fun x hx => by cases hx⟩, fun k hk => absurd hk (Nat.not_lt_zero _)⟩
  ·have h : (List.replicate R.length false).getD i false = true := h
   rw [rep_false] at h
   cases h
  ·show unkN (List.replicate R.length false) R.length + 0 = R.length
   rw [unkN_start]
   rfl
  ·show (List.replicate n false).getD x false = true ↔ _
   rw [rep_false]
   exact ⟨fun h => (by cases h), fun h => h.elim (fun h => by cases h) fun ⟨p, h, _⟩ => by cases h⟩
  ·show (List.replicate R.length false).getD i false = true ↔ _
   rw [rep_false]
   exact ⟨fun h => (by cases h), fun ⟨p, h, _⟩ => by cases h⟩
 | t + 1, ht => by
  have h := run_facts hR t (by omega)
  have hv := run_inv hR t (by omega)
  have hg := run_rng hR t (by omega)
  show Facts n R (next n R (run n R t))
  generalize run n R t = s at *
  cases hf : firstTo s.dn s.us R R.length with
  | some i =>
   rw [next_some hf]
   obtain ⟨a1, a2, _⟩ := (firstTo_spec _ _ R R.length).1 i hf
   obtain ⟨b1, b2, b3, b4, b5⟩ := one_col hR a1 a2
   obtain ⟨x, hx⟩ : ∃ x : Nat, colOf s.dn R i = (x : Int) := ⟨(colOf s.dn R i).toNat, by omega⟩
   rw [hx] at b2 b4 b5 ⊢
   rw [Int.toNat_natCast] at b5 ⊢
   have hxn : x < s.dn.length := by rw [hv.dn]; omega
   have hiu : i < s.us.length := by rw [hv.us]; exact a1
   have hxs : ∀ p ∈ s.steps, p.2 ≠ (x : Int) := fun p hp e => by
    have := (h.done x (by omega)).2 (.inr ⟨p, hp, e⟩)
    rw [b5] at this; cases this
   have hxd : (x : Int) ∉ s.dead := fun e => by
    have := (h.done x (by omega)).2 (.inl e)
    rw [b5] at this; cases this
   have his : ∀ p ∈ s.steps, p.1 ≠ (i : Int) := fun p hp e => by
    have := (h.row i a1).2 ⟨p, hp, e⟩
    rw [b1] at this; cases this
   refine ⟨fun j hj hu => ?_, ?_, fun y hy => ?_, fun j hj => ?_, ⟨h.once.1, ?_, ?_, ?_⟩, fun k hk => ?_⟩
   ·by_cases e : j = i
    ·subst e
     have := openL_set_one (dn := s.dn) (x := (x : Int)) (by rw [Int.toNat_natCast]; exact hxn) b2
     rwa [Int.toNat_natCast] at this
    ·have hu : (s.us.set i true).getD j false = true := hu
     rw [getD_set_neT (by omega)] at hu
     exact openL_set_nil hxn (h.used j hj hu)
   ·have := unkN_set (n := R.length) hv.us a1 b1
    have h2 := h.rest
    show unkN (s.us.set i true) R.length + (s.steps ++ [_]).length = _
    rw [List.length_append]
    simp only [List.length_singleton]
    omega
   ·show (s.dn.set x true).getD y false = true ↔ (_ ∨ ∃ p ∈ s.steps ++ [((i : Int), (x : Int))], p.2 = _)
    by_cases e : y = x
    ·subst e
     rw [getD_set_selfT hxn]
     exact ⟨fun _ => .inr ⟨_, List.mem_append.2 (.inr (List.mem_singleton.2 rfl)), rfl⟩, fun _ => rfl⟩
    ·rw [getD_set_neT (by omega), h.done y hy]
     constructor
     ·rintro (h1 | ⟨p, h1, h2⟩)
      ·exact .inl h1
      ·exact .inr ⟨p, List.mem_append.2 (.inl h1), h2⟩
     ·rintro (h1 | ⟨p, h1, h2⟩)
      ·exact .inl h1
      ·rcases List.mem_append.1 h1 with h1 | h1
       ·exact .inr ⟨p, h1, h2⟩
       ·obtain rfl := List.mem_singleton.1 h1
        have h2 : (x : Int) = (y : Int) := h2
        exact absurd (by omega) e
   ·show (s.us.set i true).getD j false = true ↔ ∃ p ∈ s.steps ++ [((i : Int), (x : Int))], p.1 = _
    by_cases e : j = i
    ·subst e
     rw [getD_set_selfT hiu]
     exact ⟨fun _ => ⟨_, List.mem_append.2 (.inr (List.mem_singleton.2 rfl)), rfl⟩, fun _ => rfl⟩
    ·rw [getD_set_neT (by omega), h.row j hj]
     constructor
     ·rintro ⟨p, h1, h2⟩
      exact ⟨p, List.mem_append.2 (.inl h1), h2⟩
     ·rintro ⟨p, h1, h2⟩
      rcases List.mem_append.1 h1 with h1 | h1
      ·exact ⟨p, h1, h2⟩
      ·obtain rfl := List.mem_singleton.1 h1
       have h2 : (i : Int) = (j : Int) := h2
       exact absurd (by omega) e
   ·rw [List.map_append]
    refine nodup_snoc h.once.2.1 fun e => ?_
    obtain ⟨p, hp, e⟩ := List.mem_map.1 e
    exact his p hp e
   ·rw [List.map_append]
    refine nodup_snoc h.once.2.2.1 fun e => ?_
    obtain ⟨p, hp, e⟩ := List.mem_map.1 e
    exact hxs p hp e
   ·intro y hy p hp
    rcases List.mem_append.1 hp with hp | hp
    ·exact h.once.2.2.2 y hy p hp
    ·obtain rfl := List.mem_singleton.1 hp
     intro e
     have e : (x : Int) = y := e
     exact hxd (e ▸ hy)
   ·have hk : k < (s.steps ++ [((i : Int), (x : Int))]).length := hk
    rw [List.length_append, List.length_singleton] at hk
    show ((s.steps ++ [((i : Int), (x : Int))]).getD k (0, 0)).2 ∈ R.getD ((s.steps ++ [((i : Int), (x : Int))]).getD k (0, 0)).1.toNat [] ∧ ∀ c ∈ R.getD ((s.steps ++ [((i : Int), (x : Int))]).getD k (0, 0)).1.toNat [], c ≠ ((s.steps ++ [((i : Int), (x : Int))]).getD k (0, 0)).2 → c ∈ s.dead ∨ ∃ p ∈ (s.steps ++ [((i : Int), (x : Int))]).take k, p.2 = c
    by_cases e : k = s.steps.length
    ·subst e
     rw [getD_append_self, List.take_left' rfl]
     show (x : Int) ∈ R.getD (i : Int).toNat [] ∧ ∀ c ∈ R.getD (i : Int).toNat [], c ≠ (x : Int) → _
     rw [Int.toNat_natCast]
     refine ⟨(openL_mem.1 (by rw [b2]; simp)).1, fun c hc hne => ?_⟩
     have hcr := (hR _ (getD_memL a1)).1 c hc
     have hd : s.dn.getD c.toNat false = true := by
      cases hd : s.dn.getD c.toNat false with
      | true => rfl
      | false =>
       have : c ∈ openL s.dn (R.getD i []) := openL_mem.2 ⟨hc, hd⟩
       rw [b2] at this
       exact absurd (List.mem_singleton.1 this) hne
     have := (h.done c.toNat (by omega)).1 hd
     rwa [Int.toNat_of_nonneg hcr.1] at this
    ·rw [getD_append_lt (by omega), List.take_append_of_le_length (by omega)]
     exact h.says k (by omega)
  | none =>
   obtain ⟨b, hb⟩ := bestTo_some (f := cntTo s.dn s.us R R.length) (dn := s.dn) (n := n) (by have := hv.unk; omega)
   rw [next_none hf hb]
   obtain ⟨a1, a2, _⟩ := (bestTo_spec _ _ n).1 b hb
   have hbn : b < s.dn.length := by rw [hv.dn]; exact a1
   have hbs : ∀ p ∈ s.steps, p.2 ≠ (b : Int) := fun p hp e => by
    have := (h.done b a1).2 (.inr ⟨p, hp, e⟩)
    rw [a2] at this; cases this
   have hbd : (b : Int) ∉ s.dead := fun e => by
    have := (h.done b a1).2 (.inl e)
    rw [a2] at this; cases this
   refine ⟨fun j hj hu => openL_set_nil hbn (h.used j hj hu), h.rest, fun y hy => ?_, h.row, ⟨nodup_snoc h.once.1 hbd, h.once.2.1, h.once.2.2.1, ?_⟩, fun k hk => ⟨(h.says k hk).1, fun c hc hne => ?_⟩⟩
   ·show (s.dn.set b true).getD y false = true ↔ ((y : Int) ∈ s.dead ++ [(b : Int)] ∨ _)
    by_cases e : y = b
    ·subst e
     rw [getD_set_selfT hbn]
     exact ⟨fun _ => .inl (List.mem_append.2 (.inr (List.mem_singleton.2 rfl))), fun _ => rfl⟩
    ·rw [getD_set_neT (by omega), h.done y hy, List.mem_append, List.mem_singleton]
     constructor
     ·rintro (h1 | h1)
      ·exact .inl (.inl h1)
      ·exact .inr h1
     ·rintro ((h1 | h1) | h1)
      ·exact .inl h1
      ·exact absurd (by omega : y = b) e
      ·exact .inr h1
   ·intro y hy p hp
    rcases List.mem_append.1 hy with hy | hy
    ·exact h.once.2.2.2 y hy p hp
    ·obtain rfl := List.mem_singleton.1 hy
     exact hbs p hp
   ·rcases (h.says k hk).2 c hc hne with h1 | h1
    ·exact .inl (List.mem_append.2 (.inl h1))
    ·exact .inr h1
end PN
end Go.Proofs.YtbbglejdfbkjlaaGreat
namespace Go.Proofs.YtbbglejdfbkjlaaGreat
open Go.RowKit
namespace DC
def FV (F : List (List Int)) : Nat → L.V := fun c => vec (F.getD c [])
def bgv (d S : Nat) (v : List Int) : List Int := List.replicate d 0 ++ (v ++ List.replicate (S - v.length) 0)
def bgs (d S : Nat) (vs : List (List Int)) (late : List Int) : Nat → List (List Int)
 | 0 => vs.map (bgv d S)
 | k + 1 => (bgs d S vs late k).set (late.getD k 0).toNat (((bgs d S vs late k).getD (late.getD k 0).toNat []).set k 1)
def totL (d : Nat) (F : List (List Int)) (q : Eqn) : List Int := q.c.foldl (fun s c => sumL s (F.getD c.toNat [])) (List.replicate d 0 ++ q.d)
def noE : Eqn := ⟨[], []⟩
def runF (d : Nat) (rs : List Eqn) (st : List (Int × Int)) (F0 : List (List Int)) : Nat → List (List Int)
 | 0 => F0
 | k + 1 => (runF d rs st F0 k).set (st.getD k (0, 0)).2.toNat (totL d (runF d rs st F0 k) (rs.getD (st.getD k (0, 0)).1.toNat noE))
def zerosL (d : Nat) (F : List (List Int)) (rs : List Eqn) (le : List Int) : List (List Int) := le.map fun i => totL d F (rs.getD i.toNat noE)
theorem vec_app {d : Nat} {a b : List Int} (h : a.length = d) (ha : vec a = L.vzero) : vec (a ++ b) = pad d (vec b) := funext fun j => by
 show fb ((a ++ b).getD j 0) = if j < d then L.zero else fb (b.getD (j - d) 0)
 by_cases hj : j < d
 ·rw [if_pos hj, List.getD_eq_getElem?_getD, List.getElem?_append_left (by omega), ← List.getD_eq_getElem?_getD]
  exact congrFun ha j
 ·rw [if_neg hj, List.getD_eq_getElem?_getD, List.getElem?_append_right (by omega), ← List.getD_eq_getElem?_getD, h]
theorem vec_tail0 (v : List Int) (m : Nat) : vec (v ++ List.replicate m 0) = vec v := funext fun j => by
 show fb ((v ++ List.replicate m 0).getD j 0) = fb (v.getD j 0)
 by_cases hj : j < v.length
 ·rw [List.getD_eq_getElem?_getD, List.getElem?_append_left hj, ← List.getD_eq_getElem?_getD]
 ·rw [List.getD_eq_getElem?_getD, List.getElem?_append_right (by omega), List.getD_eq_getElem?_getD, List.getElem?_eq_none (by omega : v.length ≤ j), List.getElem?_replicate]
  split <;> rfl
theorem vec_bgv (d S : Nat) (v : List Int) : vec (bgv d S v) = pad d (vec v) := by
 unfold bgv
 rw [vec_app (List.length_replicate ..) (vec_noughts d), vec_tail0]
theorem bgv_length {d S : Nat} {v : List Int} (h : v.length ≤ S) : (bgv d S v).length = d + S := by
 unfold bgv
 simp
 omega
theorem bgv_byt {d S : Nat} {v : List Int} (h : ∀ z ∈ v, Byt z) : ∀ z ∈ bgv d S v, Byt z := fun z hz => by
 unfold bgv at hz
 rcases List.mem_append.1 hz with hz | hz
 ·exact replicate_byt d z hz
 ·rcases List.mem_append.1 hz with hz | hz
  ·exact h z hz
  ·exact replicate_byt _ z hz
theorem getD_mapL {α : Type} {f : α → List Int} {l : List α} {i : Nat} {e : α} (h : i < l.length) : (l.map f).getD i [] = f (l.getD i e) := by
 rw [List.getD_eq_getElem?_getD, List.getElem?_map, List.getD_eq_getElem?_getD, List.getElem?_eq_getElem h]
 rfl
theorem getD_set_selfL {F : List (List Int)} {x : Nat} (h : x < F.length) (v : List Int) : (F.set x v).getD x [] = v := by
 rw [List.getD_eq_getElem?_getD, List.getElem?_set_self h]
 rfl
theorem getD_set_neL {F : List (List Int)} {x y : Nat} (h : x ≠ y) (v : List Int) : (F.set x v).getD y [] = F.getD y [] := by
 rw [List.getD_eq_getElem?_getD, List.getElem?_set_ne h, ← List.getD_eq_getElem?_getD]
theorem vec_set_one {l : List Int} {i : Nat} (hi : i < l.length) (h0 : vec l = L.vzero) : vec (l.set i 1) = L.unit i := funext fun j => by
 show fb ((l.set i 1).getD j 0) = if j = i then L.one else L.zero
 by_cases e : j = i
 ·subst e
  rw [if_pos rfl, List.getD_eq_getElem?_getD, List.getElem?_set_self hi]
  exact fb_one
 ·rw [if_neg e, List.getD_eq_getElem?_getD, List.getElem?_set_ne (by omega), ← List.getD_eq_getElem?_getD]
  exact congrFun h0 j
theorem pad_zero (d : Nat) : pad d L.vzero = L.vzero := funext fun j => by
 show (if j < d then L.zero else L.zero) = L.zero
 split <;> rfl
theorem set_byt {l : List Int} (h : ∀ z ∈ l, Byt z) (i : Nat) : ∀ z ∈ l.set i 1, Byt z := fun z hz => by
 rcases List.mem_or_eq_of_mem_set hz with hz | rfl
 ·exact h z hz
 ·unfold Byt; omega
structure Begun (n d S : Nat) (kn : List Bool) (vs : List (List Int)) (late : List Int) (k : Nat) (F : List (List Int)) : Prop where
 len : F.length = n
 wide : Wide (d + S) F
 other : ∀ c, c < n → (∀ i, i < k → (late.getD i 0).toNat ≠ c) → FV F c = pad d (vec (vs.getD c []))
 unit : ∀ i, i < k → FV F (late.getD i 0).toNat = L.unit i
theorem nodup_at {l : List Int} (h : l.Nodup) {i j : Nat} (hi : i < l.length) (hj : j < l.length) (he : l.getD i 0 = l.getD j 0) : i = j := by
 rw [List.getD_eq_getElem?_getD, List.getD_eq_getElem?_getD, List.getElem?_eq_getElem hi, List.getElem?_eq_getElem hj] at he
 have hp := List.nodup_iff_pairwise_ne.1 h
 rw [List.pairwise_iff_getElem] at hp
 have he' : l[i] = l[j] := he
 rcases Nat.lt_trichotomy i j with e | e | e
 ·exact absurd he' (hp i j hi hj e)
 ·exact e
 ·exact absurd he'.symm (hp j i hj hi e)
theorem bgs_begun {n d S : Nat} {kn : List Bool} {vs : List (List Int)} {late : List Int} (hv : Valed S kn vs) (hl : vs.length = n) (hno : ∀ x, kn.getD x false = false → vs.getD x [] = [])
  (hlate : late.length = d) (hnd : late.Nodup) (hL : ∀ c ∈ late, 0 ≤ c ∧ c < (n : Int) ∧ kn.getD c.toNat false = false) : ∀ k, k ≤ d → Begun n d S kn vs late k (bgs d S vs late k)
 | 0, _ => by
  have hlen : ∀ c, (vs.getD c []).length ≤ S := fun c => by
   cases hk : kn.getD c false with
   | true => exact Nat.le_of_eq (hv.2 c hk).1
   | false => rw [hno c hk]; simp
  have hb : ∀ c, ∀ z ∈ vs.getD c [], Byt z := fun c => by
   cases hk : kn.getD c false with
   | true => exact (hv.2 c hk).2
   | false => rw [hno c hk]; simp
  refine ⟨by simp [bgs, hl], fun r hr => ?_, fun c hc _ => ?_, fun i hi => by omega⟩
  ·obtain ⟨v, hv', rfl⟩ := List.mem_map.1 hr
   obtain ⟨i, hi, rfl⟩ := List.getElem_of_mem hv'
   have h1 := hlen i
   have h2 := hb i
   rw [List.getD_eq_getElem?_getD, List.getElem?_eq_getElem hi] at h1 h2
   exact ⟨bgv_length h1, bgv_byt h2⟩
  ·show vec ((vs.map (bgv d S)).getD c []) = _
   rw [getD_mapL (e := []) (by omega), vec_bgv]
 | k + 1, hk => by
  have h := bgs_begun hv hl hno hlate hnd hL k (by omega)
  have hm : late.getD k 0 ∈ late := by
   rw [List.getD_eq_getElem?_getD, List.getElem?_eq_getElem (by omega)]
   exact List.getElem_mem _
  obtain ⟨h1, h2, h3⟩ := hL _ hm
  have hfree : ∀ i, i < k → (late.getD i 0).toNat ≠ (late.getD k 0).toNat := fun i hi e => by
   have hm' : late.getD i 0 ∈ late := by
    rw [List.getD_eq_getElem?_getD, List.getElem?_eq_getElem (by omega)]
    exact List.getElem_mem _
   have := hL _ hm'
   have := nodup_at hnd (i := i) (j := k) (by omega) (by omega) (by omega)
   omega
  have hx : (late.getD k 0).toNat < n := by omega
  have hw := h.wide.at (late.getD k 0).toNat (by rw [h.len]; exact hx)
  have h0 : vec ((bgs d S vs late k).getD (late.getD k 0).toNat []) = L.vzero := by
   have := h.other _ hx hfree
   rw [hno _ h3, vec_nil, pad_zero] at this
   exact this
  show Begun n d S kn vs late (k + 1) ((bgs d S vs late k).set _ _)
  refine ⟨by rw [List.length_set, h.len], h.wide.set _ (by rw [List.length_set]; exact hw.1) (set_byt hw.2 k), fun c hc hn => ?_, fun i hi => ?_⟩
  ·have hne := hn k (by omega)
   show vec (((bgs d S vs late k).set _ _).getD c []) = _
   rw [getD_set_neL hne]
   exact h.other c hc fun i hi => hn i (by omega)
  ·show vec (((bgs d S vs late k).set _ _).getD _ []) = _
   by_cases e : i = k
   ·subst e
    rw [getD_set_selfL (by rw [h.len]; exact hx)]
    exact vec_set_one (by rw [hw.1]; omega) h0
   ·rw [getD_set_neL (fun e' => hfree i (by omega) e'.symm)]
    exact h.unit i (by omega)
theorem tot_is {d S : Nat} {F : List (List Int)} (hF : Wide (d + S) F) : ∀ (c : List Int) (s : List Int), (∀ x ∈ c, x.toNat < F.length) → s.length = d + S → (∀ z ∈ s, Byt z) →
  (c.foldl (fun s c => sumL s (F.getD c.toNat [])) s).length = d + S ∧ (∀ z ∈ c.foldl (fun s c => sumL s (F.getD c.toNat [])) s, Byt z) ∧ vec (c.foldl (fun s c => sumL s (F.getD c.toNat [])) s) = L.vadd (vec s) (PL.tot VT (FV F) (c.map Int.toNat))
 | [], s, _, h1, h2 => ⟨h1, h2, (L.vadd_zero _).symm⟩
 | x :: c, s, h, h1, h2 => by
  have hw := hF.at x.toNat (h x (by simp))
  have h3 := tot_is hF c (sumL s (F.getD x.toNat [])) (fun y hy => h y (by simp [hy])) (by rw [sumL_length, h1]) (sumL_byt h2 hw.2)
  refine ⟨h3.1, h3.2.1, ?_⟩
  show vec (c.foldl _ (sumL s (F.getD x.toNat []))) = _
  rw [h3.2.2, vec_sum h2 hw.2 (by rw [h1, hw.1])]
  show _ = L.vadd (vec s) (L.vadd (FV F x.toNat) _)
  rw [L.vadd_assoc]
  rfl
theorem totL_is {d S : Nat} {F : List (List Int)} (hF : Wide (d + S) F) {q : Eqn} (hc : ∀ x ∈ q.c, x.toNat < F.length) (hl : q.d.length = S) (hb : ∀ z ∈ q.d, Byt z) :
  (totL d F q).length = d + S ∧ (∀ z ∈ totL d F q, Byt z) ∧ vec (totL d F q) = L.vadd (pad d (vec q.d)) (PL.tot VT (FV F) (q.c.map Int.toNat)) := by
 have h := tot_is hF q.c (List.replicate d 0 ++ q.d) hc (by simp [hl]) fun z hz => by
  rcases List.mem_append.1 hz with hz | hz
  ·exact replicate_byt d z hz
  ·exact hb z hz
 refine ⟨h.1, h.2.1, ?_⟩
 rw [vec_app (List.length_replicate ..) (vec_noughts d)] at h
 exact h.2.2
theorem tot_set_ne {F : List (List Int)} {x : Nat} {v : List Int} {l : List Nat} (h : x ∉ l) : PL.tot VT (FV (F.set x v)) l = PL.tot VT (FV F) l :=
 PL.tot_congr VT fun c hc => by
  show vec ((F.set x v).getD c []) = vec (F.getD c [])
  rw [getD_set_neL (show x ≠ c from fun e => h (by rw [e]; exact hc))]
structure Plan (n S : Nat) (kn : List Bool) (rs : List Eqn) (late : List Int) (st : List (Int × Int)) (de le : List Int) : Prop where
 row : ∀ q ∈ rs, MayRow n q.c ∧ q.d.length = S ∧ (∀ z ∈ q.d, Byt z) ∧ ∀ x ∈ q.c, kn.getD x.toNat false = false
 hst : st = PN.steps n (rs.map (·.c))
 hde : de = PN.dead n (rs.map (·.c))
 hle : le = PN.left n (rs.map (·.c))
 hlate : late = openL kn de
theorem Plan.facts {n S : Nat} {kn : List Bool} {rs : List Eqn} {late : List Int} {st : List (Int × Int)} {de le : List Int} (h : Plan n S kn rs late st de le) : PN.Facts n (rs.map (·.c)) (PN.run n (rs.map (·.c)) n) ∧ PN.Inv n (rs.map (·.c)) n (PN.run n (rs.map (·.c)) n) := by
 have hR : ∀ c ∈ rs.map (·.c), MayRow n c := fun c hc => by
  obtain ⟨q, hq, rfl⟩ := List.mem_map.1 hc
  exact (h.row q hq).1
 exact ⟨PN.run_facts hR n (Nat.le_refl _), PN.run_inv hR n (Nat.le_refl _)⟩
end DC
end Go.Proofs.YtbbglejdfbkjlaaGreat
namespace Go.Proofs.YtbbglejdfbkjlaaGreat
open Go.RowKit
namespace DC
section
variable {n d S : Nat} {kn : List Bool} {vs : List (List Int)} {rs : List Eqn} {late : List Int} {st : List (Int × Int)} {de le : List Int} {F0 : List (List Int)}
theorem mem_getD {α : Type} {l : List α} {i : Nat} (h : i < l.length) (e : α) : l.getD i e ∈ l := by
 rw [List.getD_eq_getElem?_getD, List.getElem?_eq_getElem h]
 exact List.getElem_mem _
theorem getD_of_mem {α : Type} {l : List α} {x : α} (h : x ∈ l) (e : α) : ∃ i, i < l.length ∧ l.getD i e = x := by
 obtain ⟨i, hi, rfl⟩ := List.getElem_of_mem h
 exact ⟨i, hi, by rw [List.getD_eq_getElem?_getD, List.getElem?_eq_getElem hi]; rfl⟩
theorem getD_row (rs : List Eqn) (i : Nat) : (rs.map (·.c)).getD i [] = (rs.getD i noE).c := by
 rw [List.getD_eq_getElem?_getD, List.getElem?_map, List.getD_eq_getElem?_getD]
 cases rs[i]? <;> rfl
theorem Plan.step (h : Plan n S kn rs late st de le) {k : Nat} (hk : k < st.length) :
  ∃ (i c : Nat), st.getD k (0, 0) = ((i : Int), (c : Int)) ∧ i < rs.length ∧ c < n ∧ (c : Int) ∈ (rs.getD i noE).c ∧ (c : Int) ∉ de ∧ (∀ j, j < k → (st.getD j (0, 0)).2 ≠ (c : Int)) ∧
   ∀ x ∈ (rs.getD i noE).c, x ≠ (c : Int) → x ∈ de ∨ ∃ j, j < k ∧ (st.getD j (0, 0)).2 = x := by
 have hR : ∀ c ∈ rs.map (·.c), MayRow n c := fun c hc => by
  obtain ⟨q, hq, rfl⟩ := List.mem_map.1 hc
  exact (h.row q hq).1
 have hr := PN.run_rng hR n (Nat.le_refl _)
 obtain ⟨hf, _⟩ := h.facts
 have e1 : (PN.run n (rs.map (·.c)) n).steps = st := h.hst.symm
 have e2 : (PN.run n (rs.map (·.c)) n).dead = de := h.hde.symm
 rw [e1, e2] at hr
 obtain ⟨a1, a2, a3, a4⟩ := hr.2 _ (mem_getD hk (0, 0))
 have hs := hf.says k (by rw [e1]; exact hk)
 rw [e1, e2, getD_row] at hs
 obtain ⟨i, hi⟩ : ∃ i : Nat, (st.getD k (0, 0)).1 = (i : Int) := ⟨_, (Int.toNat_of_nonneg a1).symm⟩
 obtain ⟨c, hc⟩ : ∃ c : Nat, (st.getD k (0, 0)).2 = (c : Int) := ⟨_, (Int.toNat_of_nonneg a3).symm⟩
 rw [hi, hc, Int.toNat_natCast] at hs
 rw [List.length_map] at a2
 refine ⟨i, c, Prod.ext hi hc, by omega, by omega, hs.1, fun hd => ?_, fun j hj e => ?_, fun x hx hne => ?_⟩
 ·have := hf.once.2.2.2 (c : Int) (by rw [e2]; exact hd) _ (by rw [e1]; exact mem_getD hk (0, 0))
  exact this hc
 ·have hn := hf.once.2.2.1
  rw [e1] at hn
  have hj' : j < (st.map Prod.snd).length := by rw [List.length_map]; omega
  have hk' : k < (st.map Prod.snd).length := by rw [List.length_map]; omega
  have g : ∀ t, t < st.length → (st.map Prod.snd).getD t 0 = (st.getD t (0, 0)).2 := fun t ht => by
   rw [List.getD_eq_getElem?_getD, List.getElem?_map, List.getD_eq_getElem?_getD, List.getElem?_eq_getElem ht]
   rfl
  have := nodup_at hn hj' hk' (by rw [g j (by omega), g k hk, e, hc])
  omega
 ·rcases hs.2 x hx hne with h1 | ⟨p, hp, h1⟩
  ·exact .inl h1
  ·obtain ⟨j, hj, he⟩ := getD_of_mem hp (0, 0)
   rw [List.length_take] at hj
   refine .inr ⟨j, by omega, ?_⟩
   rw [← h1, ← he, List.getD_eq_getElem?_getD, List.getD_eq_getElem?_getD, List.getElem?_take]
   rw [if_pos (by omega)]
structure Ran (n d S : Nat) (kn : List Bool) (vs : List (List Int)) (rs : List Eqn) (late : List Int) (st : List (Int × Int)) (k : Nat) (F : List (List Int)) : Prop where
 len : F.length = n
 wide : Wide (d + S) F
 known : ∀ c, c < n → kn.getD c false = true → FV F c = pad d (vec (vs.getD c []))
 unit : ∀ i, i < d → FV F (late.getD i 0).toNat = L.unit i
 free : ∀ c, c < n → kn.getD c false = false → (c : Int) ∉ late → (∀ j, j < k → (st.getD j (0, 0)).2 ≠ (c : Int)) → FV F c = L.vzero
 row : ∀ j, j < k → PL.tot VT (FV F) ((rs.getD (st.getD j (0, 0)).1.toNat noE).c.map Int.toNat) = pad d (vec (rs.getD (st.getD j (0, 0)).1.toNat noE).d)
theorem Plan.cols (h : Plan n S kn rs late st de le) {i : Nat} (hi : i < rs.length) : ∀ x ∈ (rs.getD i noE).c, 0 ≤ x ∧ x < (n : Int) ∧ kn.getD x.toNat false = false := fun x hx => by
 obtain ⟨h1, _, _, h4⟩ := h.row _ (mem_getD hi noE)
 exact ⟨(h1.1 x hx).1, (h1.1 x hx).2, h4 x hx⟩
theorem Plan.lates (h : Plan n S kn rs late st de le) : late.Nodup ∧ ∀ c ∈ late, 0 ≤ c ∧ c < (n : Int) ∧ kn.getD c.toNat false = false := by
 have hR : ∀ c ∈ rs.map (·.c), MayRow n c := fun c hc => by
  obtain ⟨q, hq, rfl⟩ := List.mem_map.1 hc
  exact (h.row q hq).1
 obtain ⟨hf, _⟩ := h.facts
 have e2 : (PN.run n (rs.map (·.c)) n).dead = de := h.hde.symm
 have h1 := hf.once.1
 have h2 := (PN.run_rng hR n (Nat.le_refl _)).1
 rw [e2] at h1 h2
 rw [h.hlate]
 refine ⟨h1.filter _, fun c hc => ?_⟩
 obtain ⟨h3, h4⟩ := openL_mem.1 hc
 exact ⟨(h2 c h3).1, (h2 c h3).2, h4⟩
theorem run_ran (h : Plan n S kn rs late st de le) (hb : Begun n d S kn vs late d F0) (hno : ∀ x, kn.getD x false = false → vs.getD x [] = []) (hd : late.length = d) : ∀ k, k ≤ st.length → Ran n d S kn vs rs late st k (runF d rs st F0 k)
 | 0, _ => by
  obtain ⟨_, hL⟩ := h.lates
  have hne : ∀ c, c < n → (kn.getD c false = true ∨ (c : Int) ∉ late) → ∀ i, i < d → (late.getD i 0).toNat ≠ c := fun c hc hk i hi e => by
   have hm := mem_getD (l := late) (i := i) (by omega) 0
   obtain ⟨h1, h2, h3⟩ := hL _ hm
   rcases hk with hk | hk
   ·rw [e, hk] at h3; cases h3
   ·exact hk (by rw [show (c : Int) = late.getD i 0 by omega]; exact hm)
  refine ⟨hb.len, hb.wide, fun c hc hk => hb.other c hc (hne c hc (.inl hk)), hb.unit, fun c hc hk hl _ => ?_, fun j hj => by omega⟩
  show FV F0 c = _
  rw [hb.other c hc (hne c hc (.inr hl)), hno c hk, vec_nil, pad_zero]
 | k + 1, hk => by
  have hr := run_ran h hb hno hd k (by omega)
  obtain ⟨i, c, he, hi, hc, hcm, hcd, hcn, hoth⟩ := h.step (k := k) (by omega)
  have hcl : (c : Int) ∉ late := fun hm => by
   rw [h.hlate] at hm
   exact hcd (openL_mem.1 hm).1
  have hck : kn.getD c false = false := by have := (h.cols hi _ hcm).2.2; rwa [Int.toNat_natCast] at this
  have h0 : FV (runF d rs st F0 k) c = L.vzero := hr.free c hc hck hcl hcn
  obtain ⟨m1, m2, m3, _⟩ := h.row _ (mem_getD hi noE)
  have ht := totL_is hr.wide (q := rs.getD i noE) (fun x hx => by have := h.cols hi x hx; rw [hr.len]; omega) m2 m3
  show Ran n d S kn vs rs late st (k + 1) ((runF d rs st F0 k).set (st.getD k (0, 0)).2.toNat (totL d (runF d rs st F0 k) (rs.getD (st.getD k (0, 0)).1.toNat noE)))
  rw [he]
  show Ran n d S kn vs rs late st (k + 1) ((runF d rs st F0 k).set (c : Int).toNat (totL d (runF d rs st F0 k) (rs.getD (i : Int).toNat noE)))
  rw [Int.toNat_natCast, Int.toNat_natCast]
  have hself : FV ((runF d rs st F0 k).set c (totL d (runF d rs st F0 k) (rs.getD i noE))) c = vec (totL d (runF d rs st F0 k) (rs.getD i noE)) := by
   unfold FV
   rw [getD_set_selfL (by rw [hr.len]; exact hc)]
  have hother : ∀ e, c ≠ e → FV ((runF d rs st F0 k).set c (totL d (runF d rs st F0 k) (rs.getD i noE))) e = FV (runF d rs st F0 k) e := fun e hne => by
   unfold FV
   rw [getD_set_neL hne]
  generalize (runF d rs st F0 k) = F at *
  refine ⟨by rw [List.length_set, hr.len], hr.wide.set _ ht.1 ht.2.1, fun e hen hek => ?_, fun j hj => ?_, fun e hen hek hel hes => ?_, fun j hj => ?_⟩
  ·rw [hother e (fun e' => by rw [e', hek] at hck; cases hck)]
   exact hr.known e hen hek
  ·have hm := mem_getD (l := late) (i := j) (by omega) 0
   rw [hother _ (fun e' => hcl (by have := h.lates.2 _ hm; rw [show (c : Int) = late.getD j 0 by omega]; exact hm))]
   exact hr.unit j hj
  ·have hce : c ≠ e := fun e' => by
    have := hes k (by omega)
    rw [he, e'] at this
    exact this rfl
   rw [hother e hce]
   exact hr.free e hen hek hel fun j hj => hes j (by omega)
  ·by_cases ej : j = k
   ·subst ej
    rw [he]
    show PL.tot VT _ ((rs.getD (i : Int).toNat noE).c.map Int.toNat) = pad d (vec (rs.getD (i : Int).toNat noE).d)
    rw [Int.toNat_natCast]
    have hcm' : c ∈ (rs.getD i noE).c.map Int.toNat := List.mem_map.2 ⟨(c : Int), hcm, Int.toNat_natCast c⟩
    have hnd := mayRow_nodup m1
    show PL.tot VT _ _ = _
    rw [PL.tot_at VT _ hnd hcm', hself, ht.2.2]
    have e1 : PL.tot VT (FV (F.set c (totL d F (rs.getD i noE)))) (((rs.getD i noE).c.map Int.toNat).filter fun e => e != c) = PL.tot VT (FV F) (((rs.getD i noE).c.map Int.toNat).filter fun e => e != c) :=
     PL.tot_congr VT fun e hem => hother e (fun e' => by have := (List.mem_filter.1 hem).2; rw [e'] at this; simp at this)
    have e2 : PL.tot VT (FV F) ((rs.getD i noE).c.map Int.toNat) = L.vadd L.vzero (PL.tot VT (FV F) (((rs.getD i noE).c.map Int.toNat).filter fun e => e != c)) := by
     have := PL.tot_at VT (FV F) hnd hcm'
     rw [h0] at this
     exact this
    rw [e1, e2, L.vzero_add]
    show L.vadd (L.vadd _ _) _ = _
    rw [L.vadd_assoc, L.vadd_self, L.vadd_zero]
   ·have hj' : j < k := by omega
    obtain ⟨i', c', he', hi', hc', hcm', hcd', hcn', hoth'⟩ := h.step (k := j) (by omega)
    rw [← hr.row j hj']
    refine tot_set_ne fun hm => ?_
    rw [he'] at hm
    obtain ⟨x, hx, hxc⟩ := List.mem_map.1 hm
    have hxi : x ∈ (rs.getD i' noE).c := by simpa using hx
    have hxr := h.cols hi' x hxi
    have hxe : x = (c : Int) := by omega
    subst hxe
    by_cases ecc : (c : Int) = (c' : Int)
    ·have := hcn j hj'
     rw [he'] at this
     exact this ecc.symm
    ·rcases hoth' _ hxi ecc with h1 | ⟨t, h1, h2⟩
     ·exact hcd h1
     ·exact hcn t (by omega) h2
theorem ran_formed {E : List (PL.E L.V)} {F : List (List Int)} (h : Plan n S kn rs late st de le) (hr : Ran n d S kn vs rs late st st.length F) (hd : late.length = d) (hE : rs.map toE = PL.left VT (fun c => kn.getD c false) (valV vs) E) :
  Formed n d (fun c => kn.getD c false) (valV vs) (PL.left VT (fun c => kn.getD c false) (valV vs) E) (late.map Int.toNat) (FV F) ((zerosL d F rs le).map vec) := by
 rw [← hE]
 obtain ⟨hf, hv⟩ := h.facts
 have hl := h.lates
 have e1 : (PN.run n (rs.map (·.c)) n).steps = st := h.hst.symm
 have e2 : (PN.run n (rs.map (·.c)) n).dead = de := h.hde.symm
 have e3 : le = PN.leftTo (PN.run n (rs.map (·.c)) n).us (rs.map (·.c)).length := h.hle
 have glate : ∀ i, i < d → (late.map Int.toNat).getD i 0 = (late.getD i 0).toNat := fun i hi => by
  rw [List.getD_eq_getElem?_getD, List.getElem?_map, List.getD_eq_getElem?_getD, List.getElem?_eq_getElem (by omega)]
  rfl
 have htot : ∀ i, i < rs.length → vec (totL d F (rs.getD i noE)) = L.vadd (pad d (vec (rs.getD i noE).d)) (PL.tot VT (FV F) ((rs.getD i noE).c.map Int.toNat)) := fun i hi => by
  obtain ⟨m1, m2, m3, _⟩ := h.row _ (mem_getD hi noE)
  exact (totL_is hr.wide (q := rs.getD i noE) (fun x hx => by have := h.cols hi x hx; rw [hr.len]; omega) m2 m3).2.2
 refine ⟨by rw [List.length_map, hd], fun i hi => ?_, fun c hc hk => hr.known c hc hk, fun i hi => ?_, fun q hq => ?_, fun z hz => ?_, fun v h1 h2 => ?_⟩
 ·rw [glate i hi]
  have := hl.2 _ (mem_getD (l := late) (i := i) (by omega) 0)
  omega
 ·rw [glate i hi]
  exact hr.unit i hi
 ·obtain ⟨q0, hq0, rfl⟩ := List.mem_map.1 hq
  obtain ⟨i, hi, rfl⟩ := getD_of_mem hq0 noE
  by_cases hu : (PN.run n (rs.map (·.c)) n).us.getD i false = true
  ·obtain ⟨p, hp, hpi⟩ := (hf.row i (by rw [List.length_map]; exact hi)).1 hu
   rw [e1] at hp
   obtain ⟨j, hj, rfl⟩ := getD_of_mem hp (0, 0)
   have := hr.row j hj
   rw [hpi, Int.toNat_natCast] at this
   exact .inl this
  ·right
   refine List.mem_map.2 ⟨totL d F (rs.getD i noE), List.mem_map.2 ⟨(i : Int), ?_, by rw [Int.toNat_natCast]⟩, ?_⟩
   ·rw [e3]
    exact (PN.leftTo_mem _ _ _).2 ⟨i, by rw [List.length_map]; exact hi, by simpa using hu, rfl⟩
   ·rw [htot i hi, L.vadd_comm]
    rfl
 ·obtain ⟨l, hl', rfl⟩ := List.mem_map.1 hz
  obtain ⟨x, hx, rfl⟩ := List.mem_map.1 hl'
  rw [e3] at hx
  obtain ⟨i, hi, _, rfl⟩ := (PN.leftTo_mem _ _ _).1 hx
  rw [List.length_map] at hi
  refine ⟨toE (rs.getD i noE), List.mem_map.2 ⟨_, mem_getD hi noE, rfl⟩, ?_⟩
  rw [Int.toNat_natCast, htot i hi, L.vadd_comm]
  rfl
 ·have hx : ((late.map Int.toNat).map v).length = d := by rw [List.length_map, List.length_map, hd]
  have hknown : ∀ c, c < n → kn.getD c false = true → v c = ev d ((late.map Int.toNat).map v) (FV F c) := fun c hc hk => by
   rw [hr.known c hc hk, ev_pad hx]
   exact h1 c hc hk
  have hlate : ∀ c : Nat, (c : Int) ∈ late → v c = ev d ((late.map Int.toNat).map v) (FV F c) := fun c hc => by
   obtain ⟨i, hi, he⟩ := getD_of_mem hc 0
   have hu := hr.unit i (by omega)
   rw [he, Int.toNat_natCast] at hu
   rw [hu, ev_unit (by omega)]
   unfold L.rowAt
   rw [List.getElem?_map, List.getElem?_map, List.getElem?_eq_getElem hi]
   rw [List.getD_eq_getElem?_getD, List.getElem?_eq_getElem hi] at he
   have he' : late[i] = (c : Int) := he
   rw [he']
   show v c = v (Int.toNat (c : Int))
   rw [Int.toNat_natCast]
  have htold : ∀ k, k ≤ st.length → ∀ j, j < k → v (st.getD j (0, 0)).2.toNat = ev d ((late.map Int.toNat).map v) (FV F (st.getD j (0, 0)).2.toNat) := by
   intro k
   induction k with
   | zero => intro _ j hj; omega
   | succ k ih =>
    intro hk j hj
    by_cases ej : j < k
    ·exact ih (by omega) j ej
    ·obtain rfl : j = k := by omega
     obtain ⟨i, c, he, hi, hc, hcm, hcd, hcn, hoth⟩ := h.step (k := j) (by omega)
     rw [he]
     show v (c : Int).toNat = ev d _ (FV F (c : Int).toNat)
     rw [Int.toNat_natCast]
     obtain ⟨m1, m2, m3, _⟩ := h.row _ (mem_getD hi noE)
     have hcm' : c ∈ (rs.getD i noE).c.map Int.toNat := List.mem_map.2 ⟨(c : Int), hcm, Int.toNat_natCast c⟩
     have hnd := mayRow_nodup m1
     have r1 := h2 (toE (rs.getD i noE)) (List.mem_map.2 ⟨_, mem_getD hi noE, rfl⟩)
     have r2 := hr.row j (by omega)
     rw [he] at r2
     have r3 : PL.tot VT (FV F) ((rs.getD i noE).c.map Int.toNat) = pad d (vec (rs.getD i noE).d) := by simpa using r2
     have r4 := congrArg (ev d ((late.map Int.toNat).map v)) r3
     rw [lin_tot (ev_lin d _), ev_pad hx] at r4
     have r1' : PL.tot VT v ((rs.getD i noE).c.map Int.toNat) = vec (rs.getD i noE).d := r1
     have r4' : PL.tot VT (fun c => ev d ((late.map Int.toNat).map v) (FV F c)) ((rs.getD i noE).c.map Int.toNat) = vec (rs.getD i noE).d := r4
     rw [PL.tot_at VT _ hnd hcm'] at r1' r4'
     have hsame : PL.tot VT v (((rs.getD i noE).c.map Int.toNat).filter fun e => e != c) = PL.tot VT (fun c => ev d ((late.map Int.toNat).map v) (FV F c)) (((rs.getD i noE).c.map Int.toNat).filter fun e => e != c) := PL.tot_congr VT fun e hem => by
      obtain ⟨hm, hne⟩ := List.mem_filter.1 hem
      obtain ⟨x, hxm, rfl⟩ := List.mem_map.1 hm
      have hxr := h.cols hi x hxm
      have hxe : x ≠ (c : Int) := fun e' => by rw [e', Int.toNat_natCast] at hne; simp at hne
      rcases hoth x hxm hxe with h3 | ⟨t, h3, h4⟩
      ·have : x ∈ late := by rw [h.hlate]; exact openL_mem.2 ⟨h3, hxr.2.2⟩
       refine hlate _ ?_
       rw [show ((x.toNat : Nat) : Int) = x by omega]
       exact this
      ·rw [← h4]
       exact ih (by omega) t h3
     rw [hsame, VT.comm] at r1'
     rw [VT.comm] at r4'
     exact VT.cancel (r1'.trans r4'.symm)
  intro c hc
  by_cases hk : kn.getD c false = true
  ·exact hknown c hc hk
  ·have hk' : kn.getD c false = false := by simpa using hk
   have hdn : (PN.run n (rs.map (·.c)) n).dn.getD c false = true := by
    cases hdn : (PN.run n (rs.map (·.c)) n).dn.getD c false with
    | true => rfl
    | false =>
     have hz : PN.unkN (PN.run n (rs.map (·.c)) n).dn n = 0 := by have := hv.unk; omega
     unfold PN.unkN at hz
     rw [List.length_eq_zero_iff, List.filter_eq_nil_iff] at hz
     have := hz c (List.mem_range.2 hc)
     rw [hdn] at this
     simp at this
   rcases (hf.done c hc).1 hdn with h3 | ⟨p, hp, h3⟩
   ·rw [e2] at h3
    refine hlate c ?_
    rw [h.hlate]
    exact openL_mem.2 ⟨h3, by rw [Int.toNat_natCast]; exact hk'⟩
   ·rw [e1] at hp
    obtain ⟨j, hj, rfl⟩ := getD_of_mem hp (0, 0)
    have := htold st.length (Nat.le_refl _) j hj
    rw [h3, Int.toNat_natCast] at this
    exact this
end
end DC
end Go.Proofs.YtbbglejdfbkjlaaGreat
namespace Go.Proofs.YtbbglejdfbkjlaaGreat
open Go.RowKit
namespace DC
def eqsY (K H S : Int) (seed : Nat) (Y : List Symb) : List Eqn := Y.map fun q => ⟨atP K H S seed q.i, q.d⟩
def putV (T : List (List Int)) (form : List Int) : Nat → List Int
 | 0 => form.drop T.length
 | k + 1 => axL (form.getD k 0) (T.getD k []) (putV T form k)
theorem lc_snoc : ∀ (X : List L.V) (c x : L.V), L.lc c (X ++ [x]) = L.vadd (L.lc c X) (L.smul (c X.length) x)
 | [], c, x => by
  show L.vadd (L.smul (c 0) x) L.vzero = L.vadd L.vzero (L.smul (c 0) x)
  rw [L.vadd_zero, L.vzero_add]
 | y :: X, c, x => by
  show L.vadd (L.smul (c 0) y) (L.lc (fun i => c (i + 1)) (X ++ [x])) = L.vadd (L.vadd (L.smul (c 0) y) (L.lc (fun i => c (i + 1)) X)) (L.smul (c (X.length + 1)) x)
  rw [lc_snoc X, L.vadd_assoc]
theorem axL_byt {c : Int} {x y : List Int} (hy : ∀ z ∈ y, Byt z) : ∀ z ∈ axL c x y, Byt z := lst_byt fun i _ => addZ_byt (getD_byt hy i) (mulZ_byt _ _)
theorem putV_is {S d : Nat} {T : List (List Int)} {form : List Int} (hT : Wide S T) (hl : T.length = d) (hf : form.length = d + S) (hb : ∀ z ∈ form, Byt z) : ∀ k, k ≤ d →
  (putV T form k).length = S ∧ (∀ z ∈ putV T form k, Byt z) ∧ vec (putV T form k) = L.vadd (L.lc (vec form) ((T.map vec).take k)) (L.shV d (vec form))
 | 0, _ => by
  refine ⟨by show (form.drop T.length).length = S; rw [List.length_drop, hl, hf]; omega, fun z hz => hb z (List.mem_of_mem_drop hz), ?_⟩
  show vec (form.drop T.length) = L.vadd L.vzero (L.shV d (vec form))
  rw [L.vzero_add, hl]
  funext j
  show fb ((form.drop d).getD j 0) = fb (form.getD (d + j) 0)
  rw [List.getD_eq_getElem?_getD, List.getElem?_drop, ← List.getD_eq_getElem?_getD]
 | k + 1, hk => by
  obtain ⟨h1, h2, h3⟩ := putV_is hT hl hf hb k (by omega)
  have hw := hT.at k (by omega)
  have hbk : Byt (form.getD k 0) := getD_byt hb k
  refine ⟨?_, axL_byt h2, ?_⟩
  ·show (axL _ _ _).length = S
   rw [axL_length, hw.1]
  ·show vec (axL _ _ _) = _
   rw [vec_ax hbk hw.2 h2 (by rw [hw.1, h1]), h3]
   have e : (T.map vec).take (k + 1) = (T.map vec).take k ++ [vec (T.getD k [])] := by
    rw [List.take_add_one, List.getElem?_map, List.getD_eq_getElem?_getD, List.getElem?_eq_getElem (by omega)]
    rfl
   rw [e, lc_snoc]
   have e2 : ((T.map vec).take k).length = k := by rw [List.length_take, List.length_map]; omega
   rw [e2, L.vadd_assoc, L.vadd_comm (L.shV d (vec form)), ← L.vadd_assoc]
   rfl
theorem vec_takeL (l : List Int) (d : Nat) : vec (l.take d) = L.cutV d (vec l) := funext fun j => by
 show fb ((l.take d).getD j 0) = if j < d then fb (l.getD j 0) else L.zero
 by_cases hj : j < d
 ·rw [if_pos hj, List.getD_eq_getElem?_getD, List.getElem?_take, if_pos hj, ← List.getD_eq_getElem?_getD]
 ·rw [if_neg hj, List.getD_eq_getElem?_getD, List.getElem?_take, if_neg hj]
  rfl
theorem vec_dropL (l : List Int) (d : Nat) : vec (l.drop d) = L.shV d (vec l) := funext fun j => by
 show fb ((l.drop d).getD j 0) = fb (l.getD (d + j) 0)
 rw [List.getD_eq_getElem?_getD, List.getElem?_drop, ← List.getD_eq_getElem?_getD]
theorem ones_cons (N : Nat) (A : List Int) (x : Int) : onesL N (x :: A) = onesL N (A ++ [x]) := by
 unfold onesL
 congr 1
 funext j
 have : ((j : Int) ∈ x :: A) = ((j : Int) ∈ A ++ [x]) := by simp [or_comm]
 simp only [this]
theorem ones_tot {N : Nat} : ∀ (A : List Int), (∀ x ∈ A, 0 ≤ x ∧ x < (N : Int)) → A.Nodup → vec (onesL N A) = PL.tot VT L.unit (A.map Int.toNat)
 | [], _, _ => by rw [onesL_nil, vec_noughts]; rfl
 | x :: A, h, hn => by
  obtain ⟨q, hq⟩ : ∃ q : Nat, x = (q : Int) := ⟨x.toNat, by have := h x (by simp); omega⟩
  subst hq
  have hx := h (q : Int) (by simp)
  rw [List.nodup_cons] at hn
  rw [ones_cons, vec_ones_snoc (by omega) hn.1, ones_tot A (fun y hy => h y (by simp [hy])) hn.2, L.vadd_comm]
  show _ = L.vadd (L.unit (Int.toNat (q : Int))) _
  rw [Int.toNat_natCast]
theorem openL_mayD {n : Int} {kn : List Bool} {c : List Int} (h : MayRow n c) : MayRow n (openL kn c) :=
 ⟨fun x hx => h.1 x (List.mem_filter.1 hx).1, rising_of ((rising_pw h.2).sublist List.filter_sublist)⟩
section
variable {K H S seed : Nat} {Y : List Symb}
theorem atP_row (hm : MayP K H S) {i : Int} (hi : MayI i) : atP K H S seed i = atN (K + H) seed i.toNat := by
 unfold atP
 rw [if_pos ⟨hm, hi⟩, Int.toNat_natCast, Int.toNat_natCast]
theorem at_may (hm : MayP K H S) (i : Int) : MayRow (K + H : Nat) (atP K H S seed i) := by
 have hN : 1 ≤ K + H ∧ K + H ≤ 64 := by unfold MayP at hm; omega
 by_cases hi : MayI i
 ·rw [atP_row hm hi]
  exact ⟨fun x hx => by have := atN_rng _ _ _ x hx; omega, atN_rising hN.1 hN.2 _ _⟩
 ·unfold atP
  rw [if_neg fun h => hi h.2]
  exact ⟨fun x hx => by simp at hx, fun i hi => by simp at hi⟩
theorem row_tot (hm : MayP K H S) {i : Int} (hi : MayI i) : vec (rowP K H S seed i) = PL.tot VT L.unit ((atP K H S seed i).map Int.toNat) := by
 have hN : 1 ≤ K + H ∧ K + H ≤ 64 := by unfold MayP at hm; omega
 rw [rowP_in hm hi, atP_row hm hi]
 exact ones_tot _ (atN_rng _ _ _) (atN_nodup hN.1 hN.2 _ _)
theorem eqs_row (hA : AllY K H S Y) : ∀ q ∈ eqsY K H S seed Y, MayRow (K + H : Nat) q.c ∧ q.d.length = S := fun q hq => by
 obtain ⟨y, hy, rfl⟩ := List.mem_map.1 hq
 have := (hA.2 y hy).2
 exact ⟨at_may hA.1 y.i, by show y.d.length = S; omega⟩
theorem midY_sat (hA : AllY K H S Y) {M : List (List Int)} (h : IsMidY K H S seed Y M) : ∀ q ∈ (eqsY K H S seed Y).map toE, PL.tot VT (FV M) q.cols = q.data := fun e he => by
 obtain ⟨q, hq, rfl⟩ := List.mem_map.1 he
 obtain ⟨y, hy, rfl⟩ := List.mem_map.1 hq
 have h1 := h.rows y hy
 rw [row_tot hA.1 (hA.2 y hy).1, tot_units] at h1
 show PL.tot VT (FV M) ((atP K H S seed y.i).map Int.toNat) = vec y.d
 rw [← h1]
 refine PL.tot_congr VT fun c _ => ?_
 unfold FV L.rowAt
 rw [List.getElem?_map, List.getD_eq_getElem?_getD]
 cases M[c]? <;> rfl
theorem FV_row (M : List (List Int)) (c : Nat) : L.rowAt (M.map vec) c = FV M c := by
 unfold FV L.rowAt
 rw [List.getElem?_map, List.getD_eq_getElem?_getD]
 cases M[c]? <;> rfl
theorem left_eq {n : Nat} {kn : List Bool} {vs : List (List Int)} (hv : Valed S kn vs) {Q : List Eqn} (hQ : ∀ q ∈ Q, MayRow n q.c ∧ q.d.length = S) (hb : ∀ q ∈ Q, ∀ z ∈ q.d, Byt z) : (leftE kn vs Q).map toE = PL.left VT (fun c => kn.getD c false) (valV vs) (Q.map toE) := by
 unfold leftE PL.left
 rw [List.map_map, List.filter_map, List.map_map]
 have e1 : Q.filter (fun q => decide (0 < (openL kn q.c).length)) = Q.filter ((fun q : PL.E L.V => q.cols.any fun c => !kn.getD c false) ∘ toE) := by
  refine List.filter_congr fun q _ => ?_
  rw [Bool.eq_iff_iff, decide_eq_true_iff]
  show _ ↔ (q.c.map Int.toNat).any (fun c => !kn.getD c false) = true
  rw [List.any_eq_true]
  constructor
  ·intro h
   obtain ⟨x, hx⟩ := List.exists_mem_of_length_pos h
   obtain ⟨h1, h2⟩ := openL_mem.1 hx
   exact ⟨x.toNat, List.mem_map.2 ⟨x, h1, rfl⟩, by rw [h2]; rfl⟩
  ·rintro ⟨c, hc, h⟩
   obtain ⟨x, hx, rfl⟩ := List.mem_map.1 hc
   exact List.length_pos_of_mem (openL_mem.2 ⟨hx, by simpa using h⟩)
 rw [e1]
 refine List.map_congr_left fun q hq => ?_
 have hm := (List.mem_filter.1 hq).1
 show toE ⟨openL kn q.c, restL kn vs q.c q.d⟩ = PL.rest VT (fun c => kn.getD c false) (valV vs) (toE q)
 unfold toE PL.rest
 have e2 : (openL kn q.c).map Int.toNat = (q.c.map Int.toNat).filter fun c => !kn.getD c false := by
  unfold openL
  rw [List.filter_map]
  rfl
 show (⟨(openL kn q.c).map Int.toNat, vec (restL kn vs q.c q.d)⟩ : PL.E L.V) = _
 rw [e2, vec_rest hv q.c q.d (hQ q hm).2 (hb q hm)]
 rfl
theorem left_rows {n : Nat} {kn : List Bool} {vs : List (List Int)} (hv : Valed S kn vs) {Q : List Eqn} (hQ : ∀ q ∈ Q, MayRow n q.c ∧ q.d.length = S) (hb : ∀ q ∈ Q, ∀ z ∈ q.d, Byt z) :
  ∀ q ∈ leftE kn vs Q, MayRow n q.c ∧ q.d.length = S ∧ (∀ z ∈ q.d, Byt z) ∧ ∀ x ∈ q.c, kn.getD x.toNat false = false := fun q hq => by
 obtain ⟨q0, hq0, rfl⟩ := List.mem_map.1 hq
 have hm := (List.mem_filter.1 hq0).1
 have hr := restL_ok hv q0.c q0.d (hQ q0 hm).2 (hb q0 hm)
 exact ⟨openL_mayD (hQ q0 hm).1, hr.1, hr.2, fun x hx => (openL_mem.1 hx).2⟩
end
end DC
end Go.Proofs.YtbbglejdfbkjlaaGreat
namespace Go.Proofs.YtbbglejdfbkjlaaGreat
open Go.RowKit
theorem infoEqs : (Tryz.prog.info? 160).map (fun i => (i.zero.map (·.cells), i.size, i.bytes)) = some (some #[.slice none 0 0, .slice none 0 0], 2, 48) := by kernel_rfl
theorem makeEqs (n : Nat) (hc : n ≤ 1000000) (w : World) :
  ∃ us : List Value, us.length = n * 2 ∧ (Instr.makeSlice 110 (.int .i64 (n : Int)) (.int .i64 (n : Int))).run Tryz.prog w = .ok (.slice (some ⟨w.heap.size, 0, none⟩) n n) (w.alloc (.cells us.toArray 160)) := by
 obtain ⟨i, hi, hzz⟩ := Option.map_eq_some_iff.1 infoEqs
 simp only [Prod.mk.injEq] at hzz
 obtain ⟨hz, hs, hb⟩ := hzz
 obtain ⟨z, hz, hzc⟩ := Option.map_eq_some_iff.1 hz
 have hr := run_make (P := Tryz.prog) w 110 160 i z Tryz.underlying110 hi hz .i64 .i64 n n (by omega) (by omega) (by rw [hb]; omega) (by omega)
 rw [Int.toNat_natCast, hs] at hr
 exact ⟨(madeCells z.cells (n * 2)).toList, by simp [madeCells], by rw [hr, Array.toArray_toList]⟩
theorem kp_two (W : World) (g i j : Nat) (x y : Value) : Kp (fun k => k = g) W ((W.setCell ⟨g, i, none⟩ x).setCell ⟨g, j, none⟩ y) := (Kp.set W g i x).trans (Kp.set _ g j y) fun _ e => .inl e
def EqP (w W : World) (g : Nat) (us : List Value) (j : Nat) (q : Eqn) : Prop := Zs W (us.getD (j * 2) undef) q.c ∧ AwayZ (fun k => k = g) (us.getD (j * 2) undef) ∧ Bs w (us.getD (j * 2 + 1) undef) q.d
theorem EqP.kp {w W W' : World} {g : Nat} {us : List Value} {j : Nat} {q : Eqn} (h : EqP w W g us j q) (hk : Kp (fun k => k = g) W W') : EqP w W' g us j q := ⟨h.1.kp hk h.2.1, h.2.1, h.2.2⟩
theorem Rw.lt {W : World} {g : Nat} {t : TypeId} {us : List Value} (h : Rw W g t us) : g < W.heap.size := (Array.getElem?_eq_some_iff.1 h).1
set_option maxRecDepth 100000 in
set_option maxHeartbeats 3200000 in
theorem deqs_any (K H S : Int) (seed : Nat) (v : Value) (Y : List Symb) (w : World) (hs : seed < 4294967296) (hy : Syms w v Y) (hl : Y.length ≤ 1000) :
  Calls Tryz.prog 67 #[par K H S, .int .u32 (seed : Int), v] w fun e w' => ∃ u, e = .returned u ∧ Eqs w' u (DC.eqsY K H S seed Y) ∧ Gr w w' := by
 obtain ⟨n, hn⟩ : ∃ n, Y.length = n := ⟨_, rfl⟩
 obtain ⟨oy, cy, rfl⟩ := hy.form
 rw [hn] at hy hl ⊢
 have HY := Lib.hid hy
 have HN := Lib.hid hn
 have HSD := Lib.hid hs
 have P0 : Hid (Par (w.alloc (.cells #[.int .i64 K, .int .i64 H, .int .i64 S] 23)) w.heap.size K H S) := Lib.hid (heap_alloc_new _ _)
 have HG0 : Hid (Gr w (w.alloc (.cells #[.int .i64 K, .int .i64 H, .int .i64 S] 23))) := Lib.hid (Gr.alloc (Gr.refl _) _ _)
 clear hy hn hs
 go_enter Tryz.func67, Tryz.ntmps67
 go_upto_region 1 with fail
 generalize w.alloc (.cells #[.int .i64 K, .int .i64 H, .int .i64 S] 23) = W0 at *
 generalize hgb : w.heap.size = gb at *
 have HGB := Lib.hid hgb
 obtain ⟨us0, hul0, hmk⟩ := makeEqs n (by omega) W0
 have R0 : Hid (Rw (W0.alloc (.cells us0.toArray 160)) W0.heap.size 160 us0) := Lib.hid (alloc_rw _ _ _)
 have P1 := Lib.hid (P0.out.grown (Gr.alloc (Gr.refl W0) us0.toArray 160))
 have HG1 := Lib.hid (Gr.trans HG0.out (Gr.alloc (Gr.refl W0) us0.toArray 160))
 have HGP : Hid (gb < W0.heap.size) := Lib.hid (Array.getElem?_eq_some_iff.1 P0.out).1
 have L0 := Lib.hid hul0
 clear hgb hul0 P0 HG0
 go_wp2_with fail
 clear hmk
 generalize W0.alloc (.cells us0.toArray 160) = W1 at *
 generalize W0.heap.size = gp at *
 go_loopw [15] (fun iv W => ∃ (i : Nat) (us : List Value), i ≤ n ∧ iv = .int .i64 i ∧ Rw W gp 160 us ∧ us.length = n * 2 ∧ Par W gb K H S ∧ Gr w W ∧ ∀ j, j < i → EqP w W gp us j ⟨atP K H S seed (Y.getD j noY).i, (Y.getD j noY).d⟩) (fun iv _ => n - (intOf iv).toNat)
 case atStart => exact ⟨0, us0, by omega, rfl, R0.out, L0.out, P1.out, HG1.out, fun j hj => by omega⟩
 case round =>
  clear R0 HG1 L0 P1
  obtain ⟨wo, hwo⟩ : ∃ x, x = wr := ⟨_, rfl⟩
  subst hwo
  obtain ⟨i, us, hi, rfl, hr, hul, hp, hg, hs⟩ := hrel
  have HS := Lib.hid hs
  have HU := Lib.hid hul
  clear hs hul
  by_cases hlt : i < n
  ·obtain ⟨b0, q0, rfl, _⟩ := HY.out.lay (by omega)
   have hat := HY.out.at hlt
   obtain ⟨q, hq⟩ : ∃ q, Y.getD i noY = q := ⟨_, rfl⟩
   rw [hq] at hat
   have HQ := Lib.hid hq
   obtain ⟨oz, nz, cz, q1, q2, hi64, hbz⟩ := hat
   have q1 := cell_grown hg q1
   have q2 := cell_grown hg q2
   have gA : Gr wo (wo.alloc (.cells #[.int .i64 q.i, .slice oz nz cz] 30)) := Gr.alloc (Gr.refl _) _ _
   have k0 : (wo.alloc (.cells #[.int .i64 q.i, .slice oz nz cz] 30)).cell? ⟨wo.heap.size, 0, none⟩ = some (.int .i64 q.i) := by rw [cell_of_row _ _ 0 _ _ _ (heap_alloc_new _ _)]; rfl
   have k1 : (wo.alloc (.cells #[.int .i64 q.i, .slice oz nz cz] 30)).cell? ⟨wo.heap.size, 1, none⟩ = some (.slice oz nz cz) := by rw [cell_of_row _ _ 1 _ _ _ (heap_alloc_new _ _)]; rfl
   have RA := Lib.hid (hr.grown gA)
   have PA := Lib.hid (hp.grown gA)
   have GA := Lib.hid (Gr.trans hg gA)
   have DZ := Lib.hid hbz
   have HSA : Hid (∀ j, j < i → EqP w (wo.alloc (.cells #[.int .i64 q.i, .slice oz nz cz] 30)) gp us j ⟨atP K H S seed (Y.getD j noY).i, (Y.getD j noY).d⟩) := Lib.hid fun j hj => (HS.out j hj).kp (gA.kp _)
   have HI64 := Lib.hid hi64
   have HGZ : Hid (gp < wo.heap.size) := Lib.hid hr.lt
   clear hq hbz hr hg gA hp HS hi64
   go_upto_region 5 with fail
   generalize wo.alloc (.cells #[.int .i64 q.i, .slice oz nz cz] 30) = wA at *
   generalize wo.heap.size = gz at *
   have p0 := PA.out.cell0
   have p1 := PA.out.cell1
   have p2 := PA.out.cell2
   have N1 : Hid (¬ gb = gp ∧ ¬ gz = gp) := Lib.hid ⟨by have := HGP.out; omega, by have := HGZ.out; omega⟩
   have HLT : Hid (i * 2 + 1 < us.length) := Lib.hid (by rw [HU.out]; omega)
   go_region_held3 (fun W => W.cell? ⟨gb, 0, none⟩ = some (.int .i64 K) ∧ W.cell? ⟨gb, 1, none⟩ = some (.int .i64 H) ∧ W.cell? ⟨gb, 2, none⟩ = some (.int .i64 S) ∧ W.cell? ⟨gz, 0, none⟩ = some (.int .i64 q.i) ∧ W.cell? ⟨gz, 1, none⟩ = some (.slice oz nz cz)) (first | exact ⟨y0, y1, y2, y3, y4⟩ | exact ⟨t0, t1, t2, t3, t4⟩ | go_keep)
    (first
      | (go_at_call 85; refine (cols_lt K H S seed q.i _ HSD.out).mono ?_; rintro e w2 ⟨v2, rfl, ho2, hg2⟩; obtain ⟨o2, m2, c2, rfl⟩ := ho2.zs.form3; have t0 := cell_gr hg2 (by exact p0); have t1 := cell_gr hg2 (by exact p1); have t2 := cell_gr hg2 (by exact p2); have t3 := cell_gr hg2 (by exact k0); have t4 := cell_gr hg2 (by exact k1); have G2 : Hid (Gr wA w2) := Lib.hid (by exact hg2); have R2 := Lib.hid (RA.out.grown G2.out); have P2 := Lib.hid (PA.out.grown G2.out); have Z2 := Lib.hid ho2; have e1 := R2.out.cell (i * 2) (by have := HLT.out; omega); have e2 := R2.out.frz (i * 2); have e3 := R2.out.cell (i * 2 + 1) HLT.out; have e4 := R2.out.frz (i * 2 + 1); clear ho2 hg2; have KK : Hid (Kp (fun k => k = gp) w2 ((w2.setCell ⟨gp, i * 2, none⟩ (.slice o2 m2 c2)).setCell ⟨gp, i * 2 + 1, none⟩ (.slice oz nz cz))) := Lib.hid (kp_two _ _ _ _ _ _); have y0 := KK.out.cell t0 N1.out.1; have y1 := KK.out.cell t1 N1.out.1; have y2 := KK.out.cell t2 N1.out.1; have y3 := KK.out.cell t3 N1.out.2; have y4 := KK.out.cell t4 N1.out.2))
   all_goals
    go_wp2_with fail
    refine ⟨⟨i + 1, (us.set (i * 2) (.slice o2 m2 c2)).set (i * 2 + 1) (.slice oz nz cz), by omega, by go_num, (R2.out.set _ _).set _ _, by rw [List.length_set, List.length_set]; exact HU.out, KK.out.block P2.out N1.out.1, KK.out.gr (Gr.trans GA.out G2.out) (fun k e => by have := HGB.out; have := HGP.out; omega), fun j hj => ?_⟩, by simp [intOf]; omega⟩
    by_cases e : j = i
    ·subst e
     unfold EqP
     rw [getD_neV (by omega), getD_selfV (by have := HLT.out; omega), getD_selfV (by rw [List.length_set]; exact HLT.out), HQ.out]
     have haw : AwayZ (fun k => k = gp) (.slice o2 m2 c2) := Z2.out.away fun k e => by have := RA.out.lt; have h9 : wA.drew.heap.size = wA.heap.size := rfl; omega
     exact ⟨Z2.out.zs.kp KK.out haw, haw, DZ.out⟩
    ·have h0 := ((HSA.out j (by omega)).kp (G2.out.kp _)).kp KK.out
     unfold EqP at h0 ⊢
     rw [getD_neV (by omega), getD_neV (by omega), getD_neV (by omega), getD_neV (by omega)]
     exact h0
  ·obtain rfl : i = n := by omega
   have R := Lib.hid hr
   have G := Lib.hid hg
   clear hr hg hp
   go_wp2_with fail
   go_ret
   have hlen : (DC.eqsY K H S seed Y).length = i := by unfold DC.eqsY; rw [List.length_map, HN.out]
   have hgd : ∀ j, j < i → (DC.eqsY K H S seed Y).getD j noE = ⟨atP K H S seed (Y.getD j noY).i, (Y.getD j noY).d⟩ := fun j hj => by
    unfold DC.eqsY
    rw [List.getD_eq_getElem?_getD, List.getElem?_map, List.getD_eq_getElem?_getD, List.getElem?_eq_getElem (by rw [HN.out]; exact hj)]
    rfl
   refine ⟨.slice (some ⟨gp, 0, none⟩) i i, rfl, ⟨some ⟨gp, 0, none⟩, i, by rw [hlen], by omega, by omega, (fun h => by cases h), fun h0 => ⟨gp, 0, rfl, fun j hj => ?_⟩⟩, G.out⟩
   rw [hlen] at hj
   obtain ⟨h1, _, h3⟩ := HS.out j hj
   rw [hgd j hj]
   have hu1 := R.out.cell (j * 2) (by rw [HU.out]; omega)
   have hu2 := R.out.cell (j * 2 + 1) (by rw [HU.out]; omega)
   obtain ⟨oc, nc, cc, ec⟩ := h1.form3
   obtain ⟨od, nd, cd, ed⟩ := h3.form4
   rw [ec] at hu1 h1
   rw [ed] at hu2 h3
   exact ⟨oc, nc, cc, od, nd, cd, by rw [Nat.zero_add]; exact hu1, by rw [Nat.zero_add]; exact hu2, h1, h3.grown G.out⟩
end Go.Proofs.YtbbglejdfbkjlaaGreat
