/-
  Texts laid behind one another: Qe Qi Qj Qk.
-/
import Derived.Test.YtdmcncpndogdlaaMgj
namespace Go.Proofs.Ytdmcncpndogdlaa
open Go.RowKit

def PeelOut (n : Int) (L : List Eqn) (w : World) (e : Ending) (w' : World) : Prop := ∃ vk vv vr x kn vs rs, e = .returned (.tuple #[vk, vv, vr, .int .i64 x]) ∧ Bl w' vk kn ∧ Bss w' vv vs ∧ Eqs w' vr rs ∧ Gr w w' ∧ PeelSays n L kn vs rs x
theorem PeelOut.arg {n : Int} {L : List Eqn} {w w' : World} (h : ¬ MayEqs n L) (hg : Gr w w') : PeelOut n L w (.returned (.tuple #[.slice none 0 0, .slice none 0 0, .slice none 0 0, .int .i64 1])) w' :=
  ⟨_, _, _, _, [], [], [], rfl, Bl.nil _, Bss.nil _, Eqs.nil _, hg, .inl ⟨h, rfl, rfl, rfl, rfl⟩⟩
theorem PeelOut.clash {n : Int} {L : List Eqn} {w w' : World} (hm : MayEqs n L) (h : ¬ ∃ v, PL.Holds VT (L.map toE) v) (hg : Gr w w') : PeelOut n L w (.returned (.tuple #[.slice none 0 0, .slice none 0 0, .slice none 0 0, .int .i64 10])) w' :=
  ⟨_, _, _, _, [], [], [], rfl, Bl.nil _, Bss.nil _, Eqs.nil _, hg, .inr (.inl ⟨hm, h, rfl, rfl, rfl, rfl⟩)⟩
theorem PeelOut.ok {n : Int} {L : List Eqn} {w w' : World} {vk vv vr : Value} {kn : List Bool} {vs : List (List Int)} (hm : MayEqs n L) (h1 : Bl w' vk kn) (h2 : Bss w' vv vs) (h3 : Eqs w' vr (leftE kn vs L)) (hg : Gr w w') (h : PeelOkIs n.toNat (dlen L) (L.map toE) kn vs) : PeelOut n L w (.returned (.tuple #[vk, vv, vr, .int .i64 0])) w' :=
  ⟨_, _, _, _, kn, vs, _, rfl, h1, h2, h3, hg, .inr (.inr ⟨hm, rfl, h, rfl⟩)⟩
end Go.Proofs.Ytdmcncpndogdlaa
namespace Go.Proofs.Ytdmcncpndogdlaa
open Go.RowKit

/-- The contract of package peel. -/
structure PeelOk : Prop where
theorem Blk.put {w : World} {g : Nat} {L : List Int} (h : Blk w g L) (i : Nat) (x : Int) : Blk (w.setCell ⟨g, i, none⟩ (.int .u8 x)) g (L.set i x) := by
  unfold Blk at *
  rw [heap_setCell_same _ _ _ _ _ _ h, rowB_set]
theorem Blk.frz {w : World} {g : Nat} {L : List Int} (h : Blk w g L) (i : Nat) : w.frozen? ⟨g, i, none⟩ = false := frozen_of_row w g i _ _ h
theorem lst_put {S k : Nat} (f : Nat → Int) (_ : k < S) : (lst S fun j => if j < k then f j else 0).set k (f k) = lst S fun j => if j < k + 1 then f j else 0 := by
  apply ext_getD (by rw [List.length_set, lst_length, lst_length])
  intro j hj
  rw [List.length_set, lst_length] at hj
  rw [lst_getD _ _ _ hj]
  by_cases e : k = j
  · subst e
    rw [List.getD_eq_getElem?_getD, List.getElem?_set_self (by rw [lst_length]; exact hj), if_pos (by omega)]
    rfl
  · rw [List.getD_eq_getElem?_getD, List.getElem?_set_ne e, ← List.getD_eq_getElem?_getD, lst_getD _ _ _ hj]
    by_cases h : j < k
    · rw [if_pos h, if_pos (by omega)]
    · rw [if_neg h, if_neg (by omega)]
theorem lst_skip {S k : Nat} (f : Nat → Int) (h : f k = 0) : (lst S fun j => if j < k then f j else 0) = lst S fun j => if j < k + 1 then f j else 0 := by
  apply ext_getD (by rw [lst_length, lst_length])
  intro j hj
  rw [lst_length] at hj
  rw [lst_getD _ _ _ hj, lst_getD _ _ _ hj]
  by_cases e : j = k
  · subst e
    rw [if_neg (by omega), if_pos (by omega), h]
  · by_cases h2 : j < k
    · rw [if_pos h2, if_pos (by omega)]
    · rw [if_neg h2, if_neg (by omega)]
theorem lst_full (S : Nat) (f : Nat → Int) : (lst S fun j => if j < S then f j else 0) = lst S f := lst_congr _ _ _ fun _ hi => if_pos hi
/-- Values of bytes: each of so many bytes. -/
def valsL (b : List Int) (n S : Nat) : List (List Int) := (List.range n).map fun i => lst S fun k => b.getD (i * S + k) 0
theorem valsL_length (b : List Int) (n S : Nat) : (valsL b n S).length = n := by simp [valsL]
theorem valsL_wide {b : List Int} (hb : ∀ z ∈ b, Byt z) (n S : Nat) : Wide S (valsL b n S) := fun r hr => by
  obtain ⟨i, _, rfl⟩ := List.mem_map.1 hr
  exact ⟨lst_length _ _, lst_byt fun k _ => getD_byt hb _⟩
theorem valsL_succ (b : List Int) (n S : Nat) : valsL b (n + 1) S = valsL b n S ++ [lst S fun k => b.getD (n * S + k) 0] := by simp [valsL, List.range_succ]
end Go.Proofs.Ytdmcncpndogdlaa
namespace Go.Proofs.Ytdmcncpndogdlaa
open Go.RowKit

def wakeE : List Eqn := [⟨[0], [1]⟩, ⟨[0, 1], [3]⟩]
theorem wakeE_may : MayEqs 2 wakeE := ⟨by omega, by omega, fun q hq => by
  simp [wakeE] at hq
  rcases hq with rfl | rfl
  · exact ⟨⟨by simp, fun i hi => by simp at hi⟩, rfl⟩
  · refine ⟨⟨by simp, fun i hi => ?_⟩, rfl⟩
    simp at hi
    obtain rfl : i = 0 := by omega
    simp⟩
theorem byt_one (x : Int) (h : 0 ≤ x ∧ x ≤ 255) : ∀ z ∈ [x], Byt z := fun z hz => by
  obtain rfl : z = x := by simpa using hz
  unfold Byt
  omega
theorem wake_ok : PeelOkIs 2 1 (wakeE.map toE) [true, true] [[1], [2]] := by
  have h12 : L.vadd (vec [1]) (vec [2]) = vec [3] := by
    rw [← vec_sum (byt_one 1 (by omega)) (byt_one 2 (by omega)) rfl]
    congr 1
  have d0 : PL.Der (wakeE.map toE) 0 := .by_row (toE ⟨[0], [1]⟩) 0 (by simp [wakeE]) (by simp [toE]) fun d hd hne => by
    simp [toE] at hd
    exact absurd hd hne
  have d1 : PL.Der (wakeE.map toE) 1 := .by_row (toE ⟨[0, 1], [3]⟩) 1 (by simp [wakeE]) (by simp [toE]) fun d hd hne => by
    simp [toE] at hd
    rcases hd with rfl | rfl
    · exact d0
    · exact absurd rfl hne
  refine ⟨rfl, ⟨rfl, fun x hx => ?_⟩, fun x hx => ?_, fun x => ⟨fun hx => ?_, fun hx => ?_⟩, fun q hq _ => ?_⟩
  · match x with
    | 0 => exact ⟨rfl, byt_one 1 (by omega)⟩
    | 1 => exact ⟨rfl, byt_one 2 (by omega)⟩
    | x + 2 => simp at hx
  · match x with
    | 0 => simp at hx
    | 1 => simp at hx
    | x + 2 => rfl
  · match x with
    | 0 => exact d0
    | 1 => exact d1
    | x + 2 => simp at hx
  · have := PL.Der.lt (n := 2) (fun q hq c hc => by
      simp [wakeE] at hq
      rcases hq with rfl | rfl
      · simp [toE] at hc
        omega
      · simp [toE] at hc
        omega) hx
    match x with
    | 0 => rfl
    | 1 => rfl
    | x + 2 => omega
  · simp [wakeE] at hq
    rcases hq with rfl | rfl
    · show L.vadd (vec [1]) L.vzero = vec [1]
      exact L.vadd_zero _
    · show L.vadd (vec [1]) (L.vadd (vec [2]) L.vzero) = vec [3]
      rw [L.vadd_zero, h12]
theorem wake_peel {kn : List Bool} {vs : List (List Int)} {rs : List Eqn} {e : Int} (h : PeelSays 2 wakeE kn vs rs e) : kn = [true, true] ∧ vs = [[1], [2]] ∧ rs = [] ∧ e = 0 := by
  have h2 : PeelSays 2 wakeE [true, true] [[1], [2]] (leftE [true, true] [[1], [2]] wakeE) 0 := .inr (.inr ⟨wakeE_may, rfl, wake_ok, rfl⟩)
  obtain ⟨h3, h4, h5, h6⟩ := PeelSays.unique h h2
  exact ⟨h3, h4, by rw [h5]; rfl, h6⟩
end Go.Proofs.Ytdmcncpndogdlaa
namespace Go.Proofs.Ytdmcncpndogdlaa
open Go.RowKit

theorem own_type {w : World} {base : Nat} {e t : TypeId} {size : Nat} {v : Value} {n g : Nat} {us : List Value} {cur : Array Value} (h : w.ownsRow base e size v n us) (hg : w.heap[g]? = some (.cells cur t (0, 0))) (ht : t ≠ e) : v.ownBlock ≠ some g := fun hv => by
  obtain ⟨_, ⟨rfl, _⟩ | ⟨g', c, cur', rfl, hb, hgg, _⟩⟩ := h
  · cases hv
  · simp [Value.ownBlock] at hv
    subst hv
    rw [hg] at hgg
    simp at hgg
    exact ht hgg.2
theorem rising_le {l : List Int} {c : Nat} (hr : Rising l) (hb : ∀ x ∈ l, 0 ≤ x ∧ x < (c : Int)) : l.length ≤ c := by
  have hm : ∀ i, i < l.length → l.getD i 0 ∈ l := fun i hi => by
    rw [List.getD_eq_getElem?_getD, List.getElem?_eq_getElem hi]
    exact List.getElem_mem _
  have h : ∀ i, i < l.length → (i : Int) ≤ l.getD i 0 := fun i => by
    induction i with
    | zero => intro hi; exact (hb _ (hm 0 hi)).1
    | succ i ih =>
      intro hi
      have := ih (by omega)
      have := hr i hi
      omega
  by_cases h0 : 0 < l.length
  · have h1 := h (l.length - 1) (by omega)
    have h2 := (hb _ (hm (l.length - 1) (by omega))).2
    omega
  · omega
theorem Bs.cellQ {w : World} {a : Addr} {m c : Nat} {l : List Int} (h : Bs w (.slice (some a) m c) l) {i : Nat} (hi : i < m) : w.cell? (a.add i) = some (.int .u8 (l.getD i 0)) := by
  obtain ⟨_, oa', c', he, h2, h3, h4, h5⟩ := h
  obtain ⟨rfl, rfl, rfl⟩ : some a = oa' ∧ m = l.length ∧ c = c' := by simpa using he
  exact h5 a rfl i hi
theorem vec_noughtsQ (S : Nat) : vec (List.replicate S 0) = L.vzero := funext fun j => by
  show fb ((List.replicate S 0).getD j 0) = L.zero
  rw [replicate_getD, fb_zero]
theorem Gr.drewQ {w w' : World} (h : Gr w w') : Gr w w'.drew := h
theorem sumL_bytQ {x y : List Int} (hx : ∀ z ∈ x, Byt z) (hy : ∀ z ∈ y, Byt z) : ∀ z ∈ sumL x y, Byt z := lst_byt fun i _ => addZ_byt (getD_byt hx i) (getD_byt hy i)
theorem rising_snoc {l : List Int} {c : Nat} (hr : Rising l) (hb : ∀ x ∈ l, 0 ≤ x ∧ x < (c : Int)) : Rising (l ++ [(c : Int)]) := fun i hi => by
  rw [List.length_append, List.length_singleton] at hi
  rw [List.getD_eq_getElem?_getD, List.getD_eq_getElem?_getD, List.getElem?_append_left (by omega)]
  by_cases e : i + 1 < l.length
  · rw [List.getElem?_append_left e, ← List.getD_eq_getElem?_getD, ← List.getD_eq_getElem?_getD]
    exact hr i e
  · have e2 : i + 1 = l.length := by omega
    rw [List.getElem?_append_right (by omega), e2, Nat.sub_self, List.getElem?_eq_getElem (by omega)]
    exact (hb _ (List.getElem_mem _)).2
/-- The first k bytes added, the others not yet. -/
def mixL (S : Nat) (d v : List Int) (k : Nat) : List Int := lst S fun j => if j < k then addZ (d.getD j 0) (v.getD j 0) else d.getD j 0
theorem mixL_zero {S : Nat} {d v : List Int} (h : d.length = S) : mixL S d v 0 = d := by
  subst h
  unfold mixL
  rw [lst_congr _ _ (fun j => d.getD j 0) fun j _ => if_neg (by omega), lst_self]
theorem mixL_get {S : Nat} {d v : List Int} {k : Nat} (h : k < S) : (mixL S d v k).getD k 0 = d.getD k 0 := by
  unfold mixL
  rw [lst_getD _ _ _ h, if_neg (by omega)]
theorem mixL_set {S : Nat} {d v : List Int} {k : Nat} (_ : k < S) : (mixL S d v k).set k (addZ (d.getD k 0) (v.getD k 0)) = mixL S d v (k + 1) := by
  unfold mixL
  rw [lst_set]
  refine lst_congr _ _ _ fun j _ => ?_
  show (if j = k then _ else if j < k then _ else _) = if j < k + 1 then _ else _
  by_cases e : j = k
  · subst e
    rw [if_pos rfl, if_pos (by omega)]
  · rw [if_neg e]
    by_cases e2 : j < k
    · rw [if_pos e2, if_pos (by omega)]
    · rw [if_neg e2, if_neg (by omega)]
theorem mixL_all {S : Nat} {d v : List Int} (_ : d.length = S) (h2 : v.length = S) : mixL S d v S = sumL v d := by
  unfold mixL sumL
  rw [h2]
  exact lst_congr _ _ _ fun j hj => by rw [if_pos hj, addZ_comm]
/-- A row of ones as the law makes it: it holds of the values. -/
def GoodE (N S : Nat) (vs : List (List Int)) (q : Eqn) : Prop := MayRow (N : Int) q.c ∧ q.d.length = S ∧ (∀ z ∈ q.d, Byt z) ∧ vec q.d = PL.tot VT (valV vs) (q.c.map Int.toNat)
end Go.Proofs.Ytdmcncpndogdlaa
