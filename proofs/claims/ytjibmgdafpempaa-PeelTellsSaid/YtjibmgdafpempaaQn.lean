/-
  A row of ones of which the Data is put anew; rows told by Spare.
-/
import Derived.Test.YtjibmgdafpempaaPeelOrderW
namespace Go.Proofs.Ytjibmgdafpempaa
open Go.RowKit

theorem EqsO.block {base g n c : Nat} {w : World} {L : List Eqn} (h : EqsO base w (.slice (some ⟨g, 0, none⟩) n c) L) : base ≤ g ∧ ∃ cur, w.heap[g]? = some (.cells cur 27 (0, 0)) := by
  obtain ⟨us, ⟨_, ⟨he, _⟩ | ⟨g', c', cur, he, h1, h2, _⟩⟩, _⟩ := h
  · cases he
  · cases he
    exact ⟨h1, cur, h2⟩
/-- The Data of one row is another slice of as many bytes; nothing else changes in what was there. -/
theorem EqsO.bent {base g n c k : Nat} {w W : World} {L : List Eqn} {ud : Value} {d : List Int} (h : EqsO base w (.slice (some ⟨g, 0, none⟩) n c) L) (hk : k < n)
    (hW : ∀ cur, w.heap[g]? = some (.cells cur 27 (0, 0)) → W.heap[g]? = some (.cells (cur.setIfInBounds (k * 2 + 1) ud) 27 (0, 0)))
    (hB : ∀ b, b < w.heap.size → some b ≠ some g → W.heap[b]? = w.heap[b]?) (hd : Bs W ud d) (hr : Rb base W ud) :
    EqsO base W (.slice (some ⟨g, 0, none⟩) n c) (L.set k ⟨(L.getD k noE).c, d⟩) := by
  have hform := h.form
  obtain ⟨us, ho, hv⟩ := h
  have hno := fun (t : TypeId) (ht : t ≠ 27) => eq_not ho ht
  obtain rfl : n = L.length := by
    obtain ⟨o', c', hf⟩ := hform
    cases hf
    rfl
  obtain ⟨hlen, ⟨he, _⟩ | ⟨g', c', cur, he, h1, h2, h3, h4, h5, h6⟩⟩ := ho
  · cases he
  · cases he
    have hown : ∀ g', (some g : Option Nat) = some g' → (Value.slice (some ⟨g, 0, none⟩) L.length c).ownBlock = some g' := fun g' e => e
    refine ⟨us.set (k * 2 + 1) ud, ⟨by rw [List.length_set, List.length_set]; exact hlen, .inr ⟨g, c, _, by rw [List.length_set], h1, hW _ h2, by rw [List.length_set]; exact h3, h4, by simp [h5], ?_⟩⟩, fun i hi => ?_⟩
    · rw [List.length_set, Array.toList_setIfInBounds, List.take_set, h6]
    · rw [List.length_set] at hi
      have hq := hv i hi
      have hz := Rz.kept (row := some g) hq.1 hq.2.1 hB fun g' e => hno _ (by decide) g' (hown g' e)
      have e0 : (us.set (k * 2 + 1) ud).getD (i * 2) undef = us.getD (i * 2) undef := by
        rw [List.getD_eq_getElem?_getD, List.getElem?_set_ne (by omega), ← List.getD_eq_getElem?_getD]
      by_cases e : i = k
      · subst e
        have e1 : (us.set (i * 2 + 1) ud).getD (i * 2 + 1) undef = ud := by
          rw [List.getD_eq_getElem?_getD, List.getElem?_set_self (by omega)]
          rfl
        have e2 : (L.set i ⟨(L.getD i noE).c, d⟩).getD i noE = ⟨(L.getD i noE).c, d⟩ := by
          rw [List.getD_eq_getElem?_getD, List.getElem?_set_self hi]
          rfl
        rw [e0, e1, e2]
        exact ⟨hz.1, hz.2, hd, hr⟩
      · have hb := Rb.kept (row := some g) hq.2.2.1 hq.2.2.2 hB fun g' e => hno _ (by decide) g' (hown g' e)
        have e1 : (us.set (k * 2 + 1) ud).getD (i * 2 + 1) undef = us.getD (i * 2 + 1) undef := by
          rw [List.getD_eq_getElem?_getD, List.getElem?_set_ne (by omega), ← List.getD_eq_getElem?_getD]
        have e2 : (L.set k ⟨(L.getD k noE).c, d⟩).getD i noE = L.getD i noE := by
          rw [List.getD_eq_getElem?_getD, List.getElem?_set_ne (fun c => e c.symm), ← List.getD_eq_getElem?_getD]
        rw [e0, e1, e2]
        exact ⟨hz.1, hz.2, hb.1, hb.2⟩
/-- Small enough. -/
def SmallE (L : List Eqn) : Prop := L.length ≤ 100 ∧ ∀ q ∈ L, q.c.length ≤ 100 ∧ q.d.length ≤ 100
theorem SmallE.set {L : List Eqn} (h : SmallE L) (k : Nat) (hk : k < L.length) {d : List Int} (hd : d.length ≤ 100) : SmallE (L.set k ⟨(L.getD k noE).c, d⟩) := by
  refine ⟨by rw [List.length_set]; exact h.1, fun q hq => ?_⟩
  rcases List.mem_or_eq_of_mem_set hq with hq | rfl
  · exact h.2 q hq
  · exact ⟨(h.2 _ (getD_memE hk)).1, hd⟩
theorem SmallE.good {N S : Nat} {vs : List (List Int)} {L : List Eqn} (hN : N ≤ 64) (hS : S ≤ 100) (hl : L.length ≤ 100) (h : ∀ q ∈ L, GoodE N S vs q) : SmallE L :=
  ⟨hl, fun q hq => ⟨by have := rising_le (h q hq).1.2 (h q hq).1.1; omega, by rw [(h q hq).2.1]; exact hS⟩⟩
theorem SmallE.append {L M : List Eqn} (hl : SmallE L) (hm : SmallE M) (hn : L.length + M.length ≤ 100) : SmallE (L ++ M) :=
  ⟨by rw [List.length_append]; exact hn, fun q hq => (List.mem_append.1 hq).elim (hl.2 q) (hm.2 q)⟩
theorem SmallE.big {L : List Eqn} (h : SmallE L) : L.length ≤ 1000 ∧ ∀ q ∈ L, q.c.length ≤ 1000 ∧ q.d.length ≤ 1000 :=
  ⟨by have := h.1; omega, fun q hq => ⟨by have := (h.2 q hq).1; omega, by have := (h.2 q hq).2; omega⟩⟩
theorem PeelSays.left_le {n : Int} {L : List Eqn} {kn : List Bool} {us : List (List Int)} {rs : List Eqn} {e : Int} (h : PeelSays n L kn us rs e) : rs.length ≤ L.length := by
  rcases h with ⟨_, _, _, _, rfl⟩ | ⟨_, _, _, _, _, rfl⟩ | ⟨_, _, _, rfl⟩
  · simp
  · simp
  · exact leftE_le _ _ _
theorem PeelSays.err {n : Int} {L : List Eqn} {kn : List Bool} {us : List (List Int)} {rs : List Eqn} {e : Int} (h : PeelSays n L kn us rs e) : e = 0 ∨ e = 1 ∨ e = 10 := by
  rcases h with ⟨_, rfl, _⟩ | ⟨_, _, rfl, _⟩ | ⟨_, rfl, _⟩ <;> simp
theorem own_bytes {base n : Nat} {w : World} {v : Value} {l : List Int} (ho : w.ownsRow base 5 1 v n (l.map (Value.int .u8))) (hl : l.length = n) (h0 : 0 < n) : ∃ g c cur, v = .slice (some ⟨g, 0, none⟩) n c ∧ base ≤ g ∧ w.heap[g]? = some (.cells cur 5 (0, 0)) ∧ n ≤ c ∧ c ≤ 9223372036854775807 ∧ ∀ i, i < n → cur[i]? = some (.int .u8 (l.getD i 0)) := by
  obtain ⟨_, ⟨rfl, rfl⟩ | ⟨g, c, cur, rfl, hb, hg, h1, h2, h3, h4⟩⟩ := ho
  · omega
  · unfold maxLen at h2
    refine ⟨g, c, cur, rfl, hb, hg, h1, h2, fun i hi => ?_⟩
    have e : (cur.toList.take (n * 1))[i]? = some (.int .u8 (l.getD i 0)) := by
      rw [h4, List.getElem?_map, List.getElem?_eq_getElem (by omega), List.getD_eq_getElem?_getD, List.getElem?_eq_getElem (by omega)]
      rfl
    rw [List.getElem?_take_of_lt (by omega)] at e
    simpa using e
theorem gr_noneB {W W' : World} (h : W.grownBy W' (Value.slice none 0 0).ownBlock) : Gr W W' := Gr.append (Gr.refl W) h fun k hk => by cases hk
theorem wrap8_byt (x : Int) : Byt (IntKind.u8.wrap x) := by
  simp only [IntKind.wrap, IntKind.bits, IntKind.signed]
  unfold Byt
  simp
  omega
theorem bent_ne {w : World} {g4 g5 : Nat} {cur4 cur5 : Array Value} (h4 : w.heap[g4]? = some (.cells cur4 27 (0, 0))) (h5 : w.heap[g5]? = some (.cells cur5 5 (0, 0))) : g5 ≠ g4 := fun e => by
  rw [e, h4] at h5
  simp at h5
theorem bent_cell {w : World} {g4 g5 : Nat} {cur4 cur5 : Array Value} {x : Value} (h4 : w.heap[g4]? = some (.cells cur4 27 (0, 0))) (h5 : w.heap[g5]? = some (.cells cur5 5 (0, 0))) (hx : cur5[0]? = some x) (o : Nat) (v : Value) : (w.setCell ⟨g4, o, none⟩ v).cell? ⟨g5, 0, none⟩ = some x := by
  rw [cell_of_row _ g5 0 _ _ _ (by rw [heap_setCell_other _ _ _ _ (bent_ne h4 h5)]; exact h5)]
  exact hx
theorem bent_frz {w : World} {g4 g5 : Nat} {cur4 cur5 : Array Value} (h4 : w.heap[g4]? = some (.cells cur4 27 (0, 0))) (h5 : w.heap[g5]? = some (.cells cur5 5 (0, 0))) (o : Nat) (v : Value) : (w.setCell ⟨g4, o, none⟩ v).frozen? ⟨g5, 0, none⟩ = false :=
  frozen_of_row _ g5 0 _ _ (by rw [heap_setCell_other _ _ _ _ (bent_ne h4 h5)]; exact h5)
theorem bs_put {W : World} {g n c : Nat} {cur : Array Value} {l : List Int} {z : Int} (h : W.heap[g]? = some (.cells (cur.setIfInBounds 0 (.int .u8 z)) 5 (0, 0))) (hl : l.length = n) (hn : n ≤ c) (hc : c ≤ 9223372036854775807) (hb : ∀ y ∈ l, Byt y) (hz : Byt z) (hcur : ∀ i, i < n → cur[i]? = some (.int .u8 (l.getD i 0))) (h0 : 0 < n) :
    Bs W (.slice (some ⟨g, 0, none⟩) n c) (l.set 0 z) := by
  refine ⟨fun y hy => ?_, some ⟨g, 0, none⟩, c, by rw [List.length_set, hl], by rw [List.length_set, hl]; exact hn, hc, (fun e => by cases e), fun a ha i hi => ?_⟩
  · rcases List.mem_or_eq_of_mem_set hy with hy | rfl
    · exact hb y hy
    · exact hz
  · cases ha
    rw [List.length_set] at hi
    rw [Addr.add_mid, Nat.zero_add, cell_of_row _ _ _ _ _ _ h]
    by_cases e : i = 0
    · subst e
      have := (Array.getElem?_eq_some_iff.1 (hcur 0 h0)).1
      rw [Array.getElem?_setIfInBounds_self_of_lt this, List.getD_eq_getElem?_getD, List.getElem?_set_self (by omega)]
      rfl
    · rw [Array.getElem?_setIfInBounds_ne (fun c => e c.symm), hcur i (by omega), List.getD_eq_getElem?_getD, List.getD_eq_getElem?_getD, List.getElem?_set_ne (fun c => e c.symm)]
/-- A row that Spare told. -/
theorem spare_single {wc wA W : World} {g6 g7 nc nd : Nat} {r : Eqn} (_ : Gr wc wA) (_ : Gr wA W) (hi : Blz W g6 (r.c ++ [71, 71])) (hb : Blk W g7 (r.d ++ [71, 71])) (hc : r.c.length = nc) (hd : r.d.length = nd) (hzi : ∀ x ∈ r.c, I64 x) (hbb : ∀ x ∈ r.d, Byt x) (h1 : nc ≤ 1000) (h2 : nd ≤ 1000) :
    EqsV wc.heap.size (W.alloc (.cells #[.slice (some ⟨g6, 0, none⟩) nc (nc + 2), .slice (some ⟨g7, 0, none⟩) nd (nd + 2)] 27)) (some ⟨W.heap.size, 0, none⟩) 1 [r] := by
  have hblk := heap_alloc_new W (.cells #[.slice (some ⟨g6, 0, none⟩) nc (nc + 2), .slice (some ⟨g7, 0, none⟩) nd (nd + 2)] 27)
  have gA : Gr W (W.alloc (.cells #[.slice (some ⟨g6, 0, none⟩) nc (nc + 2), .slice (some ⟨g7, 0, none⟩) nd (nd + 2)] 27)) := Gr.alloc (Gr.refl _) _ _
  subst hc hd
  have z := hi.zs_pre hzi (by rw [List.length_append]; simp; omega)
  have b := hb.bs_pre hbb (by rw [List.length_append]; simp; omega)
  rw [List.length_append] at z b
  refine EqsV.single (by rw [cell_of_row _ _ 0 _ _ _ hblk]; rfl) (by rw [cell_of_row _ _ 1 _ _ _ hblk]; rfl) ⟨z.grown gA, fun a m c e hm => .inr ?_, b.grown gA, fun a m c e hm => .inr ?_⟩
  · cases e
    exact ⟨_, keptRow gA hi⟩
  · cases e
    exact ⟨_, keptRow gA hb⟩
theorem EqsO.own_lt {base : Nat} {w : World} {v : Value} {L : List Eqn} (h : EqsO base w v L) : ∀ g, v.ownBlock = some g → g < w.heap.size := by
  intro g hg
  obtain ⟨us, ⟨_, ⟨rfl, _⟩ | ⟨g', c, cur, rfl, hb, hgg, _⟩⟩, _⟩ := h
  · cases hg
  · simp [Value.ownBlock] at hg
    subst hg
    exact (Array.getElem?_eq_some_iff.1 hgg).1
end Go.Proofs.Ytjibmgdafpempaa
