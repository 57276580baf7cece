/-
  append of a slice that came in, nil or not, onto a row of one's own: one law for both. Rows one by one as values.
-/
import Derived.Test.YtocigdcbfbnfoaaMs
import Derived.Laws.AppendOwnNone
import Derived.Deep.AppendLies
import Derived.Deep.RegionHeld3
namespace Go.Proofs.Ytocigdcbfbnfoaa
open Go.RowKit

theorem run_append_in {P : Program} {w : World} (base : Nat) (t ty e : TypeId) (i : TypeInfo) (z : Value) (bytes : Nat) (ht : P.underlying t = some (.slice e)) (hi : P.info? e = some i) (hz : i.zero = some z)
    (hsize : i.size = 1) (hby : i.bytes = bytes) (hzs : z.cells.size = 1) (v : Value) (n : Nat) (xs : List Value) (hown : w.ownsRow base e 1 v n xs)
    (oa : Option Addr) (m c : Nat) (news : List Value) (hno : oa = none → m = 0 ∧ c = 0) (hl : news.length = m) (hnews : ∀ ad, oa = some ad → ∀ j u, news[j]? = some u → w.cell? (ad.add j) = some u) (h1 : ∀ u ∈ news, u.oneCell' = true)
    (h63 : n + m ≤ maxLen) (hbytes : (n + m) * bytes ≤ 140737488355328) (hbase : base ≤ w.heap.size) :
    ∃ v' w', (Builtin.append_ #[t, t] ty #[v, .slice oa m c]).run P w = .ok v' w' ∧ w'.ownsRow base e 1 v' (n + m) (xs ++ news) ∧ w.grownBy w' v.ownBlock := by
  cases oa with
  | none =>
    obtain ⟨rfl, rfl⟩ := hno rfl
    obtain rfl : news = [] := List.eq_nil_of_length_eq_zero hl
    refine ⟨v, w, run_append_owned_none (P := P) (w := w) base t ty e i 1 ht hi v n xs hown, by rw [List.append_nil]; exact hown, ⟨rfl, rfl, rfl, Nat.le_refl _, fun _ _ _ => rfl⟩⟩
  | some ad =>
    obtain ⟨v', w', hr, h2, h3, _⟩ := run_append_own (P := P) w base t ty e i z 1 bytes ht hi hz hsize hby hzs (by omega) v n xs hown ad m c news (by omega) (hnews ad rfl) h1 h63 hbytes hbase
    exact ⟨v', w', hr, h2, h3⟩
theorem wp_append_in {P : Program} {w : World} {o : Oper} {a : Act} {K : Act → World → Prop} {Q : Exit → Act → World → Prop} (s x : Operand) (t : TypeId)
    (ho : o.op = .call { callee := .builtin .append, args := #[s, x], argTypes := #[t, t] })
    (base : Nat) (e : TypeId) (i : TypeInfo) (z : Value) (bytes : Nat) (ht : P.underlying t = some (.slice e)) (hi : P.info? e = some i) (hz : i.zero = some z)
    (hsize : i.size = 1) (hby : i.bytes = bytes) (hzs : z.cells.size = 1) (v : Value) (n : Nat) (xs : List Value) (hs : a.eval s = v) (hown : w.ownsRow base e 1 v n xs)
    (oa : Option Addr) (m c : Nat) (news : List Value) (hx : a.eval x = .slice oa m c) (hno : oa = none → m = 0 ∧ c = 0) (hl : news.length = m) (hnews : ∀ ad, oa = some ad → ∀ j u, news[j]? = some u → w.cell? (ad.add j) = some u) (h1 : ∀ u ∈ news, u.oneCell' = true)
    (h63 : n + m ≤ maxLen) (hbytes : (n + m) * bytes ≤ 140737488355328) (hbase : base ≤ w.heap.size)
    (h : ∀ v' w', w'.ownsRow base e 1 v' (n + m) (xs ++ news) → w.grownBy w' v.ownBlock → K (a.put o.dst v') w') : o.wp P a w K Q := by
  obtain ⟨v', w', hr, h2, h3⟩ := run_append_in (P := P) (w := w) base t o.type e i z bytes ht hi hz hsize hby hzs v n xs hown oa m c news hno hl hnews h1 h63 hbytes hbase
  unfold Oper.wp execOp
  simp only [ho, resolve, invoke, builtin, Sem.run_bind, Sem.run_pure, Result.andThen_ok, List.map_toArray, List.map_cons, List.map_nil, hs, hx, hr]
  exact h v' w' h2 h3
theorem wpList_append_in {P : Program} {w : World} {ops : Array Oper} {rest : List Oper} {o : Oper} {a : Act} {Q : Exit → Act → World → Prop} (hgd : o.guard = none) (s x : Operand) (t : TypeId)
    (ho : o.op = .call { callee := .builtin .append, args := #[s, x], argTypes := #[t, t] })
    (base : Nat) (e : TypeId) (i : TypeInfo) (z : Value) (bytes : Nat) (ht : P.underlying t = some (.slice e)) (hi : P.info? e = some i) (hz : i.zero = some z)
    (hsize : i.size = 1) (hby : i.bytes = bytes) (hzs : z.cells.size = 1) (v : Value) (n : Nat) (xs : List Value) (hs : a.eval s = v) (hown : w.ownsRow base e 1 v n xs)
    (oa : Option Addr) (m c : Nat) (news : List Value) (hx : a.eval x = .slice oa m c) (hno : oa = none → m = 0 ∧ c = 0) (hl : news.length = m) (hnews : ∀ ad, oa = some ad → ∀ j u, news[j]? = some u → w.cell? (ad.add j) = some u) (h1 : ∀ u ∈ news, u.oneCell' = true)
    (h63 : n + m ≤ maxLen) (hbytes : (n + m) * bytes ≤ 140737488355328) (hbase : base ≤ w.heap.size)
    (h : ∀ v' w', w'.ownsRow base e 1 v' (n + m) (xs ++ news) → w.grownBy w' v.ownBlock → wpList P ops Q rest (a.put o.dst v') w') : wpList P ops Q (o :: rest) a w :=
  wpList_plain hgd fun _ hK => wp_append_in s x t ho base e i z bytes ht hi hz hsize hby hzs v n xs hs hown oa m c news hx hno hl hnews h1 h63 hbytes hbase fun v' w' h2 h3 => hK _ _ (h v' w' h2 h3)
theorem step_append_in {P : Program} {w : World} {ops : Array Oper} {o : Oper} {a : Act} {K : Act → World → Prop} {Q : Exit → Act → World → Prop} {E : Prop} (hgd : o.guard = none) (s x : Operand) (t : TypeId)
    (ho : o.op = .call { callee := .builtin .append, args := #[s, x], argTypes := #[t, t] })
    (base : Nat) (e : TypeId) (i : TypeInfo) (z : Value) (bytes : Nat) (ht : P.underlying t = some (.slice e)) (hi : P.info? e = some i) (hz : i.zero = some z)
    (hsize : i.size = 1) (hby : i.bytes = bytes) (hzs : z.cells.size = 1) (v : Value) (n : Nat) (xs : List Value) (hs : a.eval s = v) (hown : w.ownsRow base e 1 v n xs)
    (oa : Option Addr) (m c : Nat) (news : List Value) (hx : a.eval x = .slice oa m c) (hno : oa = none → m = 0 ∧ c = 0) (hl : news.length = m) (hnews : ∀ ad, oa = some ad → ∀ j u, news[j]? = some u → w.cell? (ad.add j) = some u) (h1 : ∀ u ∈ news, u.oneCell' = true)
    (h63 : n + m ≤ maxLen) (hbytes : (n + m) * bytes ≤ 140737488355328) (hbase : base ≤ w.heap.size)
    (h : ∀ v' w', w'.ownsRow base e 1 v' (n + m) (xs ++ news) → w.grownBy w' v.ownBlock → K (a.put o.dst v') w') :
    if Region.wanted o (yielded ops a.tmps) = true then Oper.wp P o a w K Q else E := by
  have hw : Region.wanted o (yielded ops a.tmps) = true := by simp [Region.wanted, hgd]
  rw [if_pos hw]
  exact wp_append_in s x t ho base e i z bytes ht hi hz hsize hby hzs v n xs hs hown oa m c news hx hno hl hnews h1 h63 hbytes hbase h

/-- The rows of a slice of rows, one by one. -/
def Vals (w : World) (oa : Option Addr) (us : List Value) (L : List (List Int)) : Prop :=
  us.length = L.length ∧ (∀ ad, oa = some ad → ∀ j u, us[j]? = some u → w.cell? (ad.add j) = some u) ∧ (∀ i, i < L.length → Bs w (us.getD i undef) (L.getD i [])) ∧ ∀ u ∈ us, u.oneCell' = true
theorem Vals.grown {w w' : World} {oa : Option Addr} {us : List Value} {L : List (List Int)} (h : Vals w oa us L) (hg : Gr w w') : Vals w' oa us L :=
  ⟨h.1, fun ad ha j u hu => cell_grown hg (h.2.1 ad ha j u hu), fun i hi => Bs.grown (h.2.2.1 i hi) hg, h.2.2.2⟩
theorem Bss.vals {w : World} {oa : Option Addr} {n c : Nat} {L : List (List Int)} (h : Bss w (.slice oa n c) L) : ∃ us, Vals w oa us L := by
  obtain ⟨oa', c', he, h2, h3, h4, h5⟩ := h
  obtain ⟨rfl, rfl, rfl⟩ : oa = oa' ∧ n = L.length ∧ c = c' := by simpa using he
  cases oa with
  | none =>
    have : L = [] := List.eq_nil_of_length_eq_zero (by have := h4 rfl; omega)
    subst this
    exact ⟨[], rfl, (fun ad ha => by cases ha), (fun i hi => by simp at hi), by simp⟩
  | some a =>
    have hex : ∀ i, ∃ u, i < L.length → w.cell? (a.add i) = some u ∧ Bs w u (L.getD i []) := fun i => by
      by_cases hi : i < L.length
      · obtain ⟨u, h⟩ := h5 a rfl i hi
        exact ⟨u, fun _ => h⟩
      · exact ⟨undef, fun h => absurd h hi⟩
    have hf := fun i => Classical.choose_spec (hex i)
    have hget : ∀ i, i < L.length → ((List.range L.length).map fun i => Classical.choose (hex i)).getD i undef = Classical.choose (hex i) := fun i hi => by
      rw [List.getD_eq_getElem?_getD, List.getElem?_map, List.getElem?_range hi]
      rfl
    refine ⟨(List.range L.length).map fun i => Classical.choose (hex i), by simp, fun ad ha j u hu => ?_, fun i hi => ?_, fun u hu => ?_⟩
    · cases ha
      rw [List.getElem?_map] at hu
      by_cases hj : j < L.length
      · rw [List.getElem?_range hj] at hu
        simp at hu
        rw [← hu]
        exact (hf j hj).1
      · rw [List.getElem?_eq_none (by simp; omega)] at hu
        cases hu
    · rw [hget i hi]
      exact (hf i hi).2
    · obtain ⟨i, hi, rfl⟩ := List.mem_map.1 hu
      obtain ⟨o, cc, he⟩ := ((hf i (List.mem_range.1 hi)).2).form
      rw [he]
      rfl
theorem Vals.append {w : World} {us us' : List Value} {L L' : List (List Int)} {oa ob : Option Addr} (h : Vals w oa us L) (h' : Vals w ob us' L') :
    (us ++ us').length = (L ++ L').length ∧ (∀ i, i < (L ++ L').length → Bs w ((us ++ us').getD i undef) ((L ++ L').getD i [])) := by
  refine ⟨by rw [List.length_append, List.length_append, h.1, h'.1], fun i hi => ?_⟩
  rw [List.getD_eq_getElem?_getD, List.getD_eq_getElem?_getD]
  by_cases e : i < L.length
  · rw [List.getElem?_append_left (by rw [h.1]; exact e), List.getElem?_append_left e, ← List.getD_eq_getElem?_getD, ← List.getD_eq_getElem?_getD]
    exact h.2.2.1 i e
  · rw [List.length_append] at hi
    rw [List.getElem?_append_right (by rw [h.1]; omega), List.getElem?_append_right (by omega), h.1, ← List.getD_eq_getElem?_getD, ← List.getD_eq_getElem?_getD]
    exact h'.2.2.1 _ (by omega)
/-- A slice of rows of one's own, whose rows read so. -/
theorem owns_bss {base n : Nat} {w : World} {v : Value} {us : List Value} {L : List (List Int)} (ho : w.ownsRow base 33 1 v n us) (hl : L.length = n) (hr : ∀ i, i < L.length → Bs w (us.getD i undef) (L.getD i [])) : Bss w v L := by
  subst hl
  by_cases h0 : 0 < L.length
  · obtain ⟨g, c, rfl, h1, h2, h3, h4, h5⟩ := ownsRow_cell ho h0
    refine ⟨some ⟨g, 0, none⟩, c, rfl, h1, by unfold maxLen at h2; omega, (fun h => by cases h), fun a ha i hi => ?_⟩
    cases ha
    rw [Addr.add_mid, Nat.zero_add]
    exact ⟨_, h5 i hi, hr i hi⟩
  · have : L = [] := List.eq_nil_of_length_eq_zero (by omega)
    subst this
    obtain ⟨_, ⟨rfl, _⟩ | ⟨g, c, cur, rfl, _, _, _, h2, _⟩⟩ := ho
    · exact Bss.nil w
    · exact ⟨_, c, rfl, by simp, by unfold maxLen at h2; omega, (fun h => by cases h), fun a _ i hi => by simp at hi⟩
theorem Vals.take {w : World} {oa : Option Addr} {us : List Value} {L : List (List Int)} (h : Vals w oa us L) (k : Nat) : Vals w oa (us.take k) (L.take k) := by
  refine ⟨by rw [List.length_take, List.length_take, h.1], fun ad ha j u hu => ?_, fun i hi => ?_, fun u hu => h.2.2.2 u (List.mem_of_mem_take hu)⟩
  · by_cases e : j < k
    · rw [List.getElem?_take_of_lt e] at hu
      exact h.2.1 ad ha j u hu
    · rw [List.getElem?_eq_none (by rw [List.length_take]; omega)] at hu
      cases hu
  · rw [List.length_take] at hi
    rw [List.getD_eq_getElem?_getD, List.getD_eq_getElem?_getD, List.getElem?_take_of_lt (by omega), List.getElem?_take_of_lt (by omega), ← List.getD_eq_getElem?_getD, ← List.getD_eq_getElem?_getD]
    exact h.2.2.1 i (by omega)
theorem Vals.drop {w : World} {b : Addr} {us : List Value} {L : List (List Int)} {k ca : Nat} (h : Vals w (some b) us L) (hm : L.length ≤ ca) (hk : k ≤ L.length) : Vals w (if ca = k then some b else some (b.add k)) (us.drop k) (L.drop k) := by
  refine ⟨by rw [List.length_drop, List.length_drop, h.1], fun ad ha j u hu => ?_, fun i hi => ?_, fun u hu => h.2.2.2 u (List.mem_of_mem_drop hu)⟩
  · rw [List.getElem?_drop] at hu
    have hlt := (List.getElem?_eq_some_iff.1 hu).1
    rw [h.1] at hlt
    rw [if_neg (by omega)] at ha
    cases ha
    rw [Addr.add_add']
    exact h.2.1 b rfl _ u hu
  · rw [List.length_drop] at hi
    rw [List.getD_eq_getElem?_getD, List.getD_eq_getElem?_getD, List.getElem?_drop, List.getElem?_drop, ← List.getD_eq_getElem?_getD, ← List.getD_eq_getElem?_getD]
    exact h.2.2.1 _ (by omega)
end Go.Proofs.Ytocigdcbfbnfoaa
