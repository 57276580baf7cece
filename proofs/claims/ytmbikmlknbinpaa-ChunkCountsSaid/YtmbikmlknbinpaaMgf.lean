/-
  Texts laid behind one another: Zp Yj Yi Wb Wc Az.
-/
import Derived.Test.YtmbikmlknbinpaaMge
import Derived.Test.YtmbikmlknbinpaaMga
import Derived.Deep.QuietTactic
import Derived.BigQuiet
import Derived.Laws.CopyOwn
import Derived.Test.YtmbikmlknbinpaaMgb
import Derived.Test.YtmbikmlknbinpaaMgc
import Derived.Lib.AppendZerosOnto
namespace Go.Proofs.Ytmbikmlknbinpaa
open Go.RowKit

theorem Zs.at {w : World} {v : Value} {l : List Int} (h : Zs w v l) (hl : 0 < l.length) :
    ∃ a c, v = .slice (some a) l.length c ∧ l.length ≤ c ∧ c ≤ 9223372036854775807 ∧ ∀ i, i < l.length → w.cell? (a.add i) = some (.int .i64 (l.getD i 0)) := by
  obtain ⟨_, oa, c, h1, h2, h3, h4, h5⟩ := h
  cases oa with
  | none => exact absurd (h4 rfl) (by omega)
  | some a => exact ⟨a, c, h1, h2, h3, h5 a rfl⟩
theorem Zs.form {w : World} {v : Value} {l : List Int} (h : Zs w v l) : ∃ oa c, v = .slice oa l.length c := by
  obtain ⟨_, oa, c, h1, _⟩ := h
  exact ⟨oa, c, h1⟩
theorem Zs.nil (w : World) : Zs w (.slice none 0 0) [] := ⟨by simp, none, 0, rfl, by simp, by omega, fun _ => rfl, fun a h => by cases h⟩
/-- A block's cells that are the bytes of a list. -/
def rowZ (L : List Int) : Array Value := (L.map (Value.int .i64)).toArray
theorem rowZ_size (L : List Int) : (rowZ L).size = L.length := by simp [rowZ]
theorem rowZ_get (L : List Int) (i : Nat) (h : i < L.length) : (rowZ L)[i]? = some (.int .i64 (L.getD i 0)) := by
  simp [rowZ, h]
theorem rowZ_set (L : List Int) (i : Nat) (x : Int) : (rowZ L).setIfInBounds i (.int .i64 x) = rowZ (L.set i x) := by
  simp [rowZ, List.map_set]
theorem rowZ_one (L : List Int) : (rowZ L).all (·.oneCell') = true := by
  rw [Array.all_eq_true_iff_forall_mem]
  intro v hv
  simp [rowZ] at hv
  obtain ⟨j, _, rfl⟩ := hv
  rfl
theorem rowZ_made (n : Nat) : madeCells #[.int .i64 0] n = rowZ (List.replicate n 0) := by
  apply Array.ext'
  rw [toList_madeCells_one]
  simp [rowZ]
/-- Block g is whole, of bytes L. -/
def Blz (w : World) (g : Nat) (L : List Int) : Prop := w.heap[g]? = some (.cells (rowZ L) 3 (0, 0))
theorem Blz.grown {w w' : World} {g : Nat} {L : List Int} (h : Blz w g L) (hg : Gr w w') : Blz w' g L := keptRow hg h
theorem Blz.cell {w : World} {g : Nat} {L : List Int} (h : Blz w g L) (i : Nat) (hi : i < L.length) : w.cell? ⟨g, i, none⟩ = some (.int .i64 (L.getD i 0)) := by
  rw [cell_of_row w g i _ _ _ h, rowZ_get L i hi]
theorem Blz.zs {w : World} {g : Nat} {L : List Int} (h : Blz w g L) (l : List Int) (c : Nat) (hl : l.length ≤ L.length) (hlc : l.length ≤ c) (hc : c ≤ 9223372036854775807) (hb : ∀ x ∈ l, I64 x) (he : ∀ i, i < l.length → L.getD i 0 = l.getD i 0) :
    Zs w (.slice (some ⟨g, 0, none⟩) l.length c) l :=
  ⟨hb, some ⟨g, 0, none⟩, c, rfl, hlc, hc, (fun h => by cases h), fun a ha i hi => by
    cases ha
    rw [Addr.add_mid, Nat.zero_add, Blz.cell h i (by omega), he i hi]⟩
theorem infoZ : (Try.prog.info? 3).map (fun i => (i.zero, i.size, i.bytes)) = some (some (.int .i64 0), 1, 8) := by kernel_rfl
theorem makeZ (l c : Nat) (h : l ≤ c) (hc : c ≤ 35184372088832) (w : World) :
    (Instr.makeSlice 35 (.int .i64 (l : Int)) (.int .i64 (c : Int))).run Try.prog w = .ok (.slice (some ⟨w.heap.size, 0, none⟩) l c) (w.alloc (.cells (rowZ (List.replicate c 0)) 3)) := by
  obtain ⟨i, hi, hzz⟩ := Option.map_eq_some_iff.1 infoZ
  simp only [Prod.mk.injEq] at hzz
  obtain ⟨hz, hs, hb⟩ := hzz
  have hr := run_make (P := Try.prog) w 35 3 i _ Try.underlying35 hi hz .i64 .i64 l c (by omega) (by omega) (by rw [hb]; omega) (by omega)
  rw [Int.toNat_natCast, Int.toNat_natCast, hs, Nat.mul_one] at hr
  rw [hr, ← rowZ_made]
  rfl

/-- What stands in the two places behind, when k of them are set. -/
def marksZ (m : Int) : Nat → List Int
  | 0 => [0, 0]
  | 1 => [m, 0]
  | _ => [m, m]
theorem marksZ_length (m : Int) (k : Nat) : (marksZ m k).length = 2 := by
  unfold marksZ
  split <;> rfl
theorem marksZ_set (l : List Int) (n : Nat) (m : Int) (k : Nat) (hn : l.length = n) (h : k < 2) : (l ++ marksZ m k).set (n + k) m = l ++ marksZ m (k + 1) := by
  subst hn
  rw [List.set_append, if_neg (by omega), Nat.add_sub_cancel_left]
  have : k = 0 ∨ k = 1 := by omega
  rcases this with rfl | rfl <;> rfl
def spWZ (w : World) (L : List Int) : World := w.alloc (.cells (rowZ L) 3)
theorem Blz.zs_pre {w : World} {g : Nat} {l r : List Int} (h : Blz w g (l ++ r)) (hb : ∀ x ∈ l, I64 x) (hn : (l ++ r).length ≤ 9223372036854775807) : Zs w (.slice (some ⟨g, 0, none⟩) l.length (l ++ r).length) l :=
  Blz.zs h l _ (by simp) (by simp) hn hb (fun i hi => by
    rw [List.getD_eq_getElem?_getD, List.getD_eq_getElem?_getD, List.getElem?_append_left hi])
theorem ownsRow_form'' {w : World} {base : Nat} {e : TypeId} {v : Value} {n : Nat} {us : List Value} (h : w.ownsRow base e 1 v n us) : ∃ oa c, v = .slice oa n c := by
  obtain ⟨_, ⟨rfl, rfl⟩ | ⟨g, c, cur, rfl, _⟩⟩ := h
  · exact ⟨_, _, rfl⟩
  · exact ⟨_, _, rfl⟩
end Go.Proofs.Ytmbikmlknbinpaa
namespace Go.Proofs.Ytmbikmlknbinpaa
open Go.RowKit

theorem ints_cells {w : World} {o : Option Addr} {l : List Int} {n : Nat} (hl : l.length = n) (h : ∀ a, o = some a → ∀ i, i < n → w.cell? (a.add i) = some (.int .i64 (l.getD i 0))) :
    ∀ ad, o = some ad → ∀ i u, (l.map (Value.int .i64))[i]? = some u → w.cell? (ad.add i) = some u := by
  intro ad ha i u hu
  have hi : i < l.length := by
    have := (List.getElem?_eq_some_iff.1 hu).1
    rwa [List.length_map] at this
  rw [h ad ha i (by omega)]
  rw [List.getElem?_map, List.getElem?_eq_getElem hi] at hu
  rw [List.getD_eq_getElem?_getD, List.getElem?_eq_getElem hi]
  simpa using hu
theorem Zs.parts {w : World} {oa : Option Addr} {m c : Nat} {l : List Int} (h : Zs w (.slice oa m c) l) : l.length = m ∧ m ≤ c ∧ c ≤ 9223372036854775807 ∧ (oa = none → m = 0 ∧ c = 0) ∧ ∀ ad, oa = some ad → ∀ i u, (l.map (Value.int .i64))[i]? = some u → w.cell? (ad.add i) = some u := by
  obtain ⟨_, oa', c', he, h2, h3, h4, h5⟩ := h
  obtain ⟨rfl, rfl, rfl⟩ : oa = oa' ∧ m = l.length ∧ c = c' := by simpa using he
  exact ⟨rfl, h2, h3, fun e => ⟨by have := h4 e; omega, h4 e⟩, ints_cells rfl h5⟩
theorem Zs.cellAt {w : World} {a : Addr} {m c : Nat} {l : List Int} (h : Zs w (.slice (some a) m c) l) {i : Nat} (hi : i < m) : w.cell? (a.add i) = some (.int .i64 (l.getD i 0)) := by
  obtain ⟨_, oa', c', he, h2, h3, h4, h5⟩ := h
  obtain ⟨rfl, rfl, rfl⟩ : some a = oa' ∧ m = l.length ∧ c = c' := by simpa using he
  exact h5 a rfl i hi
theorem Zs.addr {w : World} {oa : Option Addr} {m c : Nat} {l : List Int} (h : Zs w (.slice oa m c) l) (hm : 0 < m) : ∃ a, oa = some a := by
  obtain ⟨p1, _, _, p4, _⟩ := h.parts
  cases oa with
  | none => have := (p4 rfl).1; omega
  | some a => exact ⟨a, rfl⟩
theorem Zs.drop {w : World} {b : Addr} {m c k : Nat} {l : List Int} (h : Zs w (.slice (some b) m c) l) (hk : k ≤ m) : Zs w (.slice (if c = k then some b else some (b.add k)) (m - k) (c - k)) (l.drop k) := by
  obtain ⟨p1, p2, p3, _, _⟩ := h.parts
  have hl : (l.drop k).length = m - k := by rw [List.length_drop]; omega
  refine ⟨fun x hx => h.1 x (List.mem_of_mem_drop hx), _, _, by rw [hl], by rw [hl]; omega, by omega, (fun e => by split at e <;> cases e), fun a ha i hi => ?_⟩
  rw [hl] at hi
  rw [if_neg (by omega)] at ha
  cases ha
  rw [Addr.add_add', h.cellAt (by omega), List.getD_eq_getElem?_getD, List.getD_eq_getElem?_getD, List.getElem?_drop]
theorem intsZ_oneCell (l : List Int) : ∀ u ∈ l.map (Value.int .i64), u.oneCell' = true := by
  intro u hu
  obtain ⟨x, _, rfl⟩ := List.mem_map.1 hu
  rfl
theorem wpList_append_zs {w : World} {ops : Array Oper} {rest : List Oper} {o : Oper} {a : Act} {Q : Exit → Act → World → Prop} (hgd : o.guard = none) (s x : Operand)
    (ho : o.op = .call { callee := .builtin .append, args := #[s, x], argTypes := #[35, 35] }) (base : Nat) (v : Value) (n : Nat) (l : List Int) (hs : a.eval s = v) (hown : w.ownsRow base 3 1 v n (l.map (Value.int .i64)))
    (oa : Option Addr) (m c : Nat) (l' : List Int) (hx : a.eval x = .slice oa m c) (hL : Zs w (.slice oa m c) l') (hm : n + m ≤ 1000000) (hbase : base ≤ w.heap.size)
    (h : ∀ v' w', w'.ownsRow base 3 1 v' (n + m) ((l ++ l').map (Value.int .i64)) → w.grownBy w' v.ownBlock → wpList Try.prog ops Q rest (a.put o.dst v') w') : wpList Try.prog ops Q (o :: rest) a w := by
  obtain ⟨i5, hi0, hz0, hz1, hz2⟩ := info_parts infoZ
  obtain ⟨p1, p2, p3, p4, p5⟩ := hL.parts
  refine wpList_append_in hgd s x 35 ho base 3 i5 _ 8 Try.underlying35 hi0 hz0 hz1 hz2 rfl v n _ hs hown oa m c (l'.map (Value.int .i64)) hx p4 (by rw [List.length_map]; exact p1) p5 (intsZ_oneCell _) (by unfold maxLen; omega) (by omega) hbase ?_
  intro v' w' h1 h2
  exact h v' w' (by rw [List.map_append]; exact h1) h2
theorem step_append_zs {w : World} {ops : Array Oper} {o : Oper} {a : Act} {K : Act → World → Prop} {Q : Exit → Act → World → Prop} {E : Prop} (hgd : o.guard = none) (s x : Operand)
    (ho : o.op = .call { callee := .builtin .append, args := #[s, x], argTypes := #[35, 35] }) (base : Nat) (v : Value) (n : Nat) (l : List Int) (hs : a.eval s = v) (hown : w.ownsRow base 3 1 v n (l.map (Value.int .i64)))
    (oa : Option Addr) (m c : Nat) (l' : List Int) (hx : a.eval x = .slice oa m c) (hL : Zs w (.slice oa m c) l') (hm : n + m ≤ 1000000) (hbase : base ≤ w.heap.size)
    (h : ∀ v' w', w'.ownsRow base 3 1 v' (n + m) ((l ++ l').map (Value.int .i64)) → w.grownBy w' v.ownBlock → K (a.put o.dst v') w') :
    if Region.wanted o (yielded ops a.tmps) = true then Oper.wp Try.prog o a w K Q else E := by
  obtain ⟨i5, hi0, hz0, hz1, hz2⟩ := info_parts infoZ
  obtain ⟨p1, p2, p3, p4, p5⟩ := hL.parts
  refine step_append_in hgd s x 35 ho base 3 i5 _ 8 Try.underlying35 hi0 hz0 hz1 hz2 rfl v n _ hs hown oa m c (l'.map (Value.int .i64)) hx p4 (by rw [List.length_map]; exact p1) p5 (intsZ_oneCell _) (by unfold maxLen; omega) (by omega) hbase ?_
  intro v' w' h1 h2
  exact h v' w' (by rw [List.map_append]; exact h1) h2
/-- Where all but one block is as it was, what was there ahead of that block's making stands. -/
theorem gr_by_own {w0 w w' : World} {base : Nat} {e : TypeId} {v : Value} {n : Nat} {us : List Value} (h : Gr w0 w) (hg : w.grownBy w' v.ownBlock) (ho : w.ownsRow base e 1 v n us) (hb : w0.heap.size ≤ base) : Gr w0 w' :=
  Gr.append h hg fun g hv => by have := ownsRow_base ho g hv; omega
theorem own_in {w : World} {base : Nat} {e : TypeId} {v : Value} {n : Nat} {us : List Value} (h : w.ownsRow base e 1 v n us) {g : Nat} (hg : v.ownBlock = some g) : g < w.heap.size := by
  obtain ⟨_, ⟨rfl, _⟩ | ⟨g', c, cur, rfl, hb, hgg, _⟩⟩ := h
  · cases hg
  · simp [Value.ownBlock] at hg
    subst hg
    exact (Array.getElem?_eq_some_iff.1 hgg).1
theorem own_through {base : Nat} {w w' : World} {e : TypeId} {size : Nat} {v : Value} {n : Nat} {xs : List Value} {row : Option Nat} (h : w.ownsRow base e size v n xs) (hg : w.grownBy w' row) (hne : ∀ g, v.ownBlock = some g → row ≠ some g) : w'.ownsRow base e size v n xs := by
  obtain ⟨h0, h1 | ⟨g, c, cur, rfl, hb, hgg, h2⟩⟩ := h
  · exact ⟨h0, .inl h1⟩
  · refine ⟨h0, .inr ⟨g, c, cur, rfl, hb, ?_, h2⟩⟩
    rw [hg.block g (Array.getElem?_eq_some_iff.1 hgg).1 (fun e => hne g rfl e.symm)]
    exact hgg
/-- Two lists of one's own, of which one grows: the other stays, and they stay apart. -/
theorem own_sep {w w' : World} {base : Nat} {e : TypeId} {v v2 : Value} {n2 g' : Nat} {us2 : List Value} (ho2 : w.ownsRow base e 1 v2 n2 us2) (hs : ∀ g, v2.ownBlock = some g → v.ownBlock ≠ some g) (hg : w.grownBy w' v.ownBlock) (hl : v.ownBlock = some g' ∨ g' = w.heap.size) :
    w'.ownsRow base e 1 v2 n2 us2 ∧ v2.ownBlock ≠ some g' := by
  refine ⟨own_through ho2 hg hs, fun h => ?_⟩
  rcases hl with hl | hl
  · exact hs g' h hl
  · have := own_in ho2 h
    omega
theorem one_zs {w : World} (k : Int) (hk : I64 k) : Zs (w.alloc (.cells #[.int .i64 k] 3)) (.slice (some ⟨w.heap.size, 0, none⟩) 1 1) [k] :=
  Blz.zs (L := [k]) (heap_alloc_new _ _) [k] 1 (Nat.le_refl _) (Nat.le_refl _) (by omega) (by simpa using hk) fun _ _ => rfl
theorem two_zs {w : World} (k k' : Int) (hk : I64 k) (hk' : I64 k') : Zs (w.alloc (.cells #[.int .i64 k, .int .i64 k'] 3)) (.slice (some ⟨w.heap.size, 0, none⟩) 2 2) [k, k'] :=
  Blz.zs (L := [k, k']) (heap_alloc_new _ _) [k, k'] 2 (Nat.le_refl _) (Nat.le_refl _) (by omega) (by simp [hk, hk']) fun _ _ => rfl
/-- append of one int, and where the list lies then. -/
theorem wpList_append_int {w : World} {ops : Array Oper} {rest : List Oper} {o : Oper} {a : Act} {Q : Exit → Act → World → Prop} (hgd : o.guard = none) (s x : Operand)
    (ho : o.op = .call { callee := .builtin .append, args := #[s, x], argTypes := #[35, 35] }) (base : Nat) (v : Value) (n : Nat) (l : List Int) (hs : a.eval s = v) (hown : w.ownsRow base 3 1 v n (l.map (Value.int .i64)))
    (g0 : Nat) (k : Int) (hx : a.eval x = .slice (some ⟨g0, 0, none⟩) 1 1) (hc : w.cell? ⟨g0, 0, none⟩ = some (.int .i64 k)) (hm : n ≤ 1000000) (hbase : base ≤ w.heap.size)
    (h : ∀ g cap w', w'.ownsRow base 3 1 (.slice (some ⟨g, 0, none⟩) (n + 1) cap) (n + 1) ((l ++ [k]).map (Value.int .i64)) → w.grownBy w' v.ownBlock → (v.ownBlock = some g ∨ g = w.heap.size) → wpList Try.prog ops Q rest (a.put o.dst (.slice (some ⟨g, 0, none⟩) (n + 1) cap)) w') : wpList Try.prog ops Q (o :: rest) a w := by
  obtain ⟨i5, hi0, hz0, hz1, hz2⟩ := info_parts infoZ
  refine wpList_append_lies w hgd s x 35 ho base 3 i5 _ 1 8 Try.underlying35 hi0 hz0 hz1 hz2 rfl (by omega) v n _ hs hown ⟨g0, 0, none⟩ 1 1 [.int .i64 k] hx rfl (fun j u hj => by
    cases j with
    | zero =>
      obtain rfl : Value.int .i64 k = u := by simpa using hj
      exact hc
    | succ j => simp at hj) (by simp [Value.oneCell']) (by omega) (by unfold maxLen; omega) (by omega) hbase _ rfl ?_
  intro g cap w' h1 h2 h3 _
  exact h g cap w' (by rw [List.map_append]; exact h1) h2 h3
/-- Memory of other kinds than e stays. -/
def Ke (e : TypeId) (w w' : World) : Prop := w.heap.size ≤ w'.heap.size ∧ ∀ (k : Nat) (c : Array Value) (t : TypeId) (fr : Nat × Nat), w.heap[k]? = some (Obj.cells c t fr) → t ≠ e → w'.heap[k]? = some (Obj.cells c t fr)
theorem Ke.of_own {w w' : World} {base : Nat} {e : TypeId} {v : Value} {n : Nat} {us : List Value} (ho : w.ownsRow base e 1 v n us) (hg : w.grownBy w' v.ownBlock) : Ke e w w' := ⟨hg.size, fun k c t fr hk ht => by
  rw [hg.block k (Array.getElem?_eq_some_iff.1 hk).1 (fun h => ?_)]
  · exact hk
  · obtain ⟨_, ⟨rfl, _⟩ | ⟨g', c', cur, rfl, hb, hgg, _⟩⟩ := ho
    · cases h
    · simp [Value.ownBlock] at h
      subst h
      rw [hk] at hgg
      simp at hgg
      exact ht hgg.2.1⟩
theorem Ke.of_gr {e : TypeId} {w w' : World} (h : Gr w w') : Ke e w w' := ⟨h.size, fun _ _ _ _ hk _ => keptRow h hk⟩
theorem Ke.trans {e : TypeId} {w w1 w2 : World} (h : Ke e w w1) (h' : Ke e w1 w2) : Ke e w w2 := ⟨Nat.le_trans h.1 h'.1, fun k c t fr hk ht => h'.2 k c t fr (h.2 k c t fr hk ht) ht⟩
theorem owns_zs {base n : Nat} {w : World} {v : Value} {l : List Int} (ho : w.ownsRow base 3 1 v n (l.map (Value.int .i64))) (hl : l.length = n) (hr : ∀ x ∈ l, I64 x) : Zs w v l := by
  obtain ⟨h0, ⟨rfl, rfl⟩ | ⟨g, c, cur, rfl, hb, hg, h1, h2, h3, h4⟩⟩ := ho
  · obtain rfl : l = [] := List.eq_nil_of_length_eq_zero hl
    exact Zs.nil w
  · unfold maxLen at h2
    refine ⟨hr, some ⟨g, 0, none⟩, c, by rw [hl], by omega, h2, (fun h => by cases h), fun a ha i hi => ?_⟩
    cases ha
    rw [Addr.add_mid, Nat.zero_add, cell_of_row w g i _ _ _ hg]
    have hi2 : i < cur.toList.length := by simp; omega
    have e : (cur.toList.take (n * 1))[i]? = some (.int .i64 (l.getD i 0)) := by
      rw [h4, List.getElem?_map, List.getElem?_eq_getElem hi, List.getD_eq_getElem?_getD, List.getElem?_eq_getElem hi]
      rfl
    rw [List.getElem?_take_of_lt (by omega)] at e
    simpa using e
end Go.Proofs.Ytmbikmlknbinpaa
namespace Go.Proofs.Ytmbikmlknbinpaa
open Go.RowKit

theorem Bss.rowAt {w : World} {a : Addr} {m c : Nat} {L : List (List Int)} (h : Bss w (.slice (some a) m c) L) {i : Nat} (hi : i < m) : ∃ u, w.cell? (a.add i) = some u ∧ Bs w u (L.getD i []) := by
  obtain ⟨oa', c', he, h2, h3, h4, h5⟩ := h
  obtain ⟨rfl, rfl, rfl⟩ : some a = oa' ∧ m = L.length ∧ c = c' := by simpa using he
  exact h5 a rfl i hi
theorem Bss.addr {w : World} {oa : Option Addr} {m c : Nat} {L : List (List Int)} (h : Bss w (.slice oa m c) L) (hm : 0 < m) : ∃ a, oa = some a := by
  obtain ⟨oa', c', he, h2, h3, h4, h5⟩ := h
  obtain ⟨rfl, rfl, rfl⟩ : oa = oa' ∧ m = L.length ∧ c = c' := by simpa using he
  cases oa with
  | none => have := h4 rfl; omega
  | some a => exact ⟨a, rfl⟩
theorem Bs.form4 {w : World} {v : Value} {l : List Int} (h : Bs w v l) : ∃ o m c, v = .slice o m c := by
  obtain ⟨o, c, h⟩ := h.form
  exact ⟨o, _, c, h⟩
theorem Rws.grown {base : Nat} {w w' : World} {v : Value} {L : List (List Int)} (h : Rws base w v L) (hg : Gr w w') : Rws base w' v L := by
  obtain ⟨us, ho, hr⟩ := h
  exact ⟨us, ho.of_gr hg, fun i hi => Rb.gr (hr i hi).1 (hr i hi).2 hg⟩
theorem Rws.form3 {base : Nat} {w : World} {v : Value} {L : List (List Int)} (h : Rws base w v L) : ∃ o c, v = .slice o L.length c := by
  obtain ⟨us, ho, hr⟩ := h
  exact ownsRow_form ho
theorem Rws.form4 {base : Nat} {w : World} {v : Value} {L : List (List Int)} (h : Rws base w v L) : ∃ o m c, v = .slice o m c := by
  obtain ⟨o, c, h⟩ := h.form3
  exact ⟨o, _, c, h⟩
/-- append of one row onto rows of one's own. -/
theorem wpList_append_row {w : World} {ops : Array Oper} {rest : List Oper} {o : Oper} {a : Act} {Q : Exit → Act → World → Prop} (hgd : o.guard = none) (s x : Operand)
    (ho : o.op = .call { callee := .builtin .append, args := #[s, x], argTypes := #[25, 25] }) (base : Nat) (v : Value) (L : List (List Int)) (hs : a.eval s = v) (hR : Rws base w v L)
    (g : Nat) (u : Value) (l : List Int) (hx : a.eval x = .slice (some ⟨g, 0, none⟩) 1 1) (hc : w.cell? ⟨g, 0, none⟩ = some u) (hb : Bs w u l) (hrb : Rb base w u) (hm : L.length ≤ 100000) (hbase : base ≤ w.heap.size)
    (h : ∀ v' w', Rws base w' v' (L ++ [l]) → (∀ w0, Gr w0 w → w0.heap.size ≤ base → Gr w0 w') → Ke 24 w w' → wpList Try.prog ops Q rest (a.put o.dst v') w') : wpList Try.prog ops Q (o :: rest) a w := by
  obtain ⟨i0, hi0, hz0, hz1, hz2⟩ := info_parts info22
  obtain ⟨us, hown, hr⟩ := hR
  obtain ⟨ou, cu, hf⟩ := hb.form
  refine wpList_append_in hgd s x 25 ho base 24 i0 _ 24 Try.underlying25 hi0 hz0 hz1 hz2 rfl v L.length us hs hown (some ⟨g, 0, none⟩) 1 1 [u] hx (fun e => by cases e) rfl (fun ad ha j y hj => by
    cases ha
    cases j with
    | zero =>
      obtain rfl : u = y := by simpa using hj
      exact hc
    | succ j => simp at hj) (by intro y hy; obtain rfl : y = u := by simpa using hy
                                rw [hf]; rfl) (by unfold maxLen; omega) (by omega) hbase ?_
  intro v' w' h1 h2
  exact h v' w' (Rws.append hown hr hb hrb h1 h2) (fun w0 hg hb => gr_by_own hg h2 hown hb) (Ke.of_own hown h2)
end Go.Proofs.Ytmbikmlknbinpaa
namespace Go.Proofs.Ytmbikmlknbinpaa
open Go.RowKit

/-- The contracts of package chunk: what is told is new memory. -/
structure ChunkOk : Prop where
  count : ∀ (K H S n : Int) (w : World), I64 n →
    Calls Try.prog 12 #[par K H S, .int .i64 n] w fun e w' => e = .returned (.int .i64 (Ck.countP K H S n)) ∧ Gr w w'
  split : ∀ (K H S : Int) (v : Value) (b : List Int) (w : World), b.length ≤ 4000 → Bs w v b →
    Calls Try.prog 15 #[par K H S, v] w fun e w' => ∃ u, e = .returned u ∧ RwsN w.heap.size w' u (Ck.blocksP K H S b) ∧ Gr w w'
  join : ∀ (K H S : Int) (v : Value) (L : List (List Int)) (n : Int) (w : World), I64 n → L.length ≤ 1000 → (∀ x ∈ L, x.length ≤ 1000) → Bss w v L →
    Calls Try.prog 18 #[par K H S, v, .int .i64 n] w fun e w' => ∃ u, e = .returned (.tuple #[u, .bool (decide (Ck.JoinOk K H S L n))]) ∧ New w w' u (Ck.joinP K H S L n)
set_option maxRecDepth 100000 in
set_option maxHeartbeats 800000 in
theorem refCount_in (K H S : Int) (n : Nat) (w : World) (hm : MayP K H S) (hn : n < 9223372036854775808) :
    Calls Try.prog 13 #[par K H S, .int .i64 (n : Int)] w fun e w' => e = .returned (.int .i64 (Ck.cnt (Ck.wdt K S) n : Nat)) ∧ Gr w w' := by
  obtain ⟨hw1, hw2, hw3⟩ := Ck.wdt_in hm
  obtain ⟨W, hW⟩ : ∃ W, Ck.wdt K S = W := ⟨_, rfl⟩
  rw [hW] at hw1 hw2 hw3 ⊢
  have hd := decide_eq_true hm
  have HKS := Lib.hid hw3.symm
  have hwr : IntKind.i64.wrap (K * S) = (W : Int) := by rw [HKS.out]; simp [IntKind.wrap, IntKind.bits, IntKind.signed]; omega
  have hw0 : ((W : Int) == 0) = false := beq_eq_false_iff_ne.2 (by omega)
  obtain ⟨q, hq⟩ : ∃ q, n / W = q := ⟨_, rfl⟩
  obtain ⟨r, hr⟩ : ∃ r, n % W = r := ⟨_, rfl⟩
  have hq1 : (n : Int).tdiv (W : Int) = (q : Int) := by rw [← hq]; rfl
  have hr1 : (n : Int).tmod (W : Int) = (r : Int) := by rw [← hr]; rfl
  have hC : Hid (Ck.cnt W n = if 0 < r then q + 1 else q) := Lib.hid (by
    unfold Ck.cnt
    rw [hq, hr]
    split <;> rfl)
  have hcl : (if 0 < r then q + 1 else q) ≤ n := by rw [← hC.out]; exact Ck.cnt_le hw1
  have hge0 : decide ((n : Int) < 0) = false := decide_eq_false (by omega)
  have P0 : Hid (Par (w.alloc (.cells #[.int .i64 K, .int .i64 H, .int .i64 S] 23)) w.heap.size K H S) := Lib.hid (heap_alloc_new _ _)
  have HG0 : Hid (Gr w (w.alloc (.cells #[.int .i64 K, .int .i64 H, .int .i64 S] 23))) := Lib.hid (Gr.alloc (Gr.refl _) _ _)
  clear hm hW hw3 hq hr
  go_enter Try.func13, Try.ntmps13
  go_wp2_with fail
  refine (refMay_any K H S _).mono ?_
  rw [hd]
  rintro e w1 ⟨rfl, hg1⟩
  have P1 := P0.out.grown hg1
  have c0 := P1.cell0
  have c2 := P1.cell2
  have G1 := Lib.hid (Gr.trans HG0.out hg1)
  clear hg1 P1
  by_cases h0 : 0 < r
  · rw [if_pos h0] at hC hcl
    go_wp2_with fail
    go_ret
    exact ⟨by rw [hC.out]; rfl, G1.out⟩
  · rw [if_neg h0] at hC hcl
    go_wp2_with fail
    go_ret
    exact ⟨by rw [hC.out]; rfl, G1.out⟩
set_option maxRecDepth 100000 in
set_option maxHeartbeats 800000 in
theorem refCount_ne (K H S n : Int) (w : World) (hm : ¬ (MayP K H S ∧ 0 ≤ n)) :
    Calls Try.prog 13 #[par K H S, .int .i64 n] w fun e w' => e = .returned (.int .i64 0) ∧ Gr w w' := by
  have P0 : Hid (Par (w.alloc (.cells #[.int .i64 K, .int .i64 H, .int .i64 S] 23)) w.heap.size K H S) := Lib.hid (heap_alloc_new _ _)
  have HG0 : Hid (Gr w (w.alloc (.cells #[.int .i64 K, .int .i64 H, .int .i64 S] 23))) := Lib.hid (Gr.alloc (Gr.refl _) _ _)
  by_cases hp : MayP K H S
  · have hd := decide_eq_true hp
    have h1 : n < 0 := by
      rcases Int.lt_or_le n 0 with h | h
      · exact h
      · exact absurd ⟨hp, h⟩ hm
    clear hm hp
    go_enter Try.func13, Try.ntmps13
    go_wp2_with fail
    refine (refMay_any K H S _).mono ?_
    rw [hd]
    rintro e w1 ⟨rfl, hg1⟩
    have G1 := Lib.hid (Gr.trans HG0.out hg1)
    clear hg1
    go_wp2_with fail
    go_ret
    exact ⟨rfl, G1.out⟩
  · have hd := decide_eq_false hp
    clear hm hp
    go_enter Try.func13, Try.ntmps13
    go_wp2_with fail
    refine (refMay_any K H S _).mono ?_
    rw [hd]
    rintro e w1 ⟨rfl, hg1⟩
    have G1 := Lib.hid (Gr.trans HG0.out hg1)
    clear hg1
    go_wp2_with fail
    go_ret
    exact ⟨rfl, G1.out⟩
theorem refCount_any (K H S n : Int) (w : World) (hn : I64 n) :
    Calls Try.prog 13 #[par K H S, .int .i64 n] w fun e w' => e = .returned (.int .i64 (Ck.countP K H S n)) ∧ Gr w w' := by
  unfold Ck.countP
  by_cases hm : MayP K H S ∧ 0 ≤ n
  · rw [if_pos hm]
    obtain ⟨k, rfl⟩ : ∃ k : Nat, n = k := ⟨n.toNat, by have := hm.2; omega⟩
    rw [Int.toNat_natCast]
    exact refCount_in K H S k w hm.1 (by have := hn.2; omega)
  · rw [if_neg hm]
    exact refCount_ne K H S n w hm
theorem Bs.from5 {w : World} {v : Value} {l : List Int} (h : Bs w v l) (k : Nat) (hk : k ≤ l.length) (o : Option Addr) (m c : Nat) (hv : v = .slice o m c) :
    Bs w (.slice (if c = k then o else o.map fun a => a.add k) (m - k) (c - k)) (l.drop k) := by
  obtain ⟨h0, oa, c', he, h2, h3, h4, h5⟩ := h
  rw [hv] at he
  obtain ⟨rfl, rfl, rfl⟩ : o = oa ∧ m = l.length ∧ c = c' := by simpa using he
  have hl : (l.drop k).length = l.length - k := List.length_drop
  refine ⟨fun x hx => h0 x (List.mem_of_mem_drop hx), _, c - k, by rw [hl], by rw [hl]; omega, by omega, ?_, fun a ha i hi => ?_⟩
  · intro e
    split at e
    · have := h4 e
      omega
    · cases o with
      | none => have := h4 rfl; omega
      | some a => cases e
  · rw [hl] at hi
    rw [if_neg (by omega)] at ha
    cases o with
    | none => cases ha
    | some b =>
      simp only [Option.map_some, Option.some.injEq] at ha
      rw [← ha, Addr.add_add', h5 b rfl (k + i) (by omega), List.getD_eq_getElem?_getD, List.getD_eq_getElem?_getD, List.getElem?_drop]
theorem Rb.of_blk {base g n c : Nat} {w : World} {L : List Int} (h : Blk w g L) : Rb base w (.slice (some ⟨g, 0, none⟩) n c) := by
  intro ad k c' e _
  simp only [Value.slice.injEq, Option.some.injEq] at e
  obtain ⟨rfl, -, -⟩ := e
  exact .inr ⟨_, h⟩
set_option maxRecDepth 100000 in
/-- copy of bytes into noughts of one's own. -/
theorem copy_pad {w w0 : World} {ops : Array Oper} {rest : List Oper} {o : Oper} {a : Act} {Q : Exit → Act → World → Prop} (hgd : o.guard = none) (d s : Operand)
    (ho : o.op = .call { callee := .builtin .copy, args := #[d, s], argTypes := #[24, 24] }) (g n : Nat) (hg : Blk w g (List.replicate n 0)) (hd : a.eval d = .slice (some ⟨g, 0, none⟩) n n)
    (vs : Value) (l : List Int) (hs : a.eval s = vs) (hb : Bs w vs l) (h0 : Gr w0 w) (hge : w0.heap.size ≤ g)
    (h : ∀ w', Blk w' g (Ck.padW n l) → Gr w0 w' → wpList Try.prog ops Q rest (a.put o.dst (goInt (Nat.min l.length n))) w') : wpList Try.prog ops Q (o :: rest) a w := by
  have HSZ : (Try.prog.info? 5).map (·.size) = some 1 := by kernel_rfl
  have HB := hb
  obtain ⟨hby, oa, c, rfl, h2, h3, h4, h5⟩ := hb
  have hlc : ((l.take n).map (Value.int .u8)).length = Nat.min l.length n := by
    rw [List.length_map, List.length_take, Nat.min_comm]
  refine wpList_copy_splice hgd _ _ 24 24 ho 5 Try.underlying24 HSZ (some ⟨g, 0, none⟩) oa n n l.length c hd hs g 0 ((List.replicate n 0).map (Value.int .u8)) 5 ?_ ((l.take n).map (Value.int .u8)) hlc ?_ ?_ ?_ w0.heap.size w0 h0.below hge ?_
  · exact hg
  · intro hp
    refine ⟨rfl, ?_⟩
    have hp2 : 0 < l.length := by
      rw [hlc] at hp
      have := Nat.min_le_left l.length n
      exact Nat.lt_of_lt_of_le hp this
    cases oa with
    | none => have := h4 rfl; omega
    | some ad =>
      refine ⟨ad, rfl, fun j u hu => ?_⟩
      have hj := (List.getElem?_eq_some_iff.1 hu).1
      rw [List.length_map, List.length_take] at hj
      rw [h5 ad rfl j (by omega)]
      rw [List.getElem?_map, List.getElem?_take_of_lt (by omega), List.getElem?_eq_getElem (by omega), Option.map_some, Option.some.injEq] at hu
      rw [← hu, List.getD_eq_getElem?_getD, List.getElem?_eq_getElem (by omega)]
      rfl
  · rw [hlc, List.length_map, List.length_replicate, Nat.zero_add]
    exact Nat.min_le_right _ _
  · intro u hu
    obtain ⟨x, _, rfl⟩ := List.mem_map.1 hu
    rfl
  · intro w5 hw5 hbel5
    rw [hlc]
    refine h w5 ?_ (Gr.of hbel5)
    have hw6 := hw5.out
    unfold Blk
    rw [hw6]
    congr 2
    unfold rowB splice Ck.padW
    rw [List.take_zero, List.nil_append, Nat.zero_add, hlc, List.map_append, List.map_replicate, List.map_replicate, List.drop_replicate, show n - Nat.min l.length n = n - l.length from by rw [show Nat.min l.length n = min l.length n from rfl]; omega]
end Go.Proofs.Ytmbikmlknbinpaa
namespace Go.Proofs.Ytmbikmlknbinpaa
open Go.RowKit

set_option maxRecDepth 100000 in
set_option maxHeartbeats 1600000 in
theorem refBlocks_in (K H S : Int) (v : Value) (b : List Int) (w : World) (hm : MayP K H S) (hl : b.length ≤ 4000) (h : Bs w v b) :
    Calls Try.prog 11 #[par K H S, v] w fun e w' => ∃ u, e = .returned u ∧ Bss w' u (Ck.blocksP K H S b) ∧ Gr w w' := by
  obtain ⟨hw1, hw2, hw3⟩ := Ck.wdt_in hm
  have hd := decide_eq_true hm
  have HPE : Hid (Ck.blocksP K H S b = Ck.blocks (Ck.wdt K S) b) := Lib.hid (if_pos hm)
  rw [HPE.out]
  have HCN : Hid (∀ w : World, Calls Try.prog 13 #[par K H S, .int .i64 (b.length : Int)] w fun e w' => e = .returned (.int .i64 (Ck.cnt (Ck.wdt K S) b.length : Nat)) ∧ Gr w w') := Lib.hid fun w => refCount_in K H S b.length w hm (by omega)
  obtain ⟨W, hW⟩ : ∃ W, Ck.wdt K S = W := ⟨_, rfl⟩
  rw [hW] at hw1 hw2 hw3 HCN ⊢
  have HKS := Lib.hid hw3.symm
  have hwr : IntKind.i64.wrap (K * S) = (W : Int) := by rw [HKS.out]; simp [IntKind.wrap, IntKind.bits, IntKind.signed]; omega
  obtain ⟨o, c, rfl⟩ := h.form
  obtain ⟨n, hn⟩ : ∃ n, b.length = n := ⟨_, rfl⟩
  have HN := Lib.hid hn
  obtain ⟨q, hq⟩ : ∃ q, Ck.cnt W b.length = q := ⟨_, rfl⟩
  have HQ := Lib.hid hq
  have HQW : Hid (∀ i, i < q → i * W < b.length) := Lib.hid fun i hi => by
    have h1 := (Ck.cnt_pos (W := W) (n := b.length) hw1).2
    have h2 : (i + 1) * W ≤ Ck.cnt W b.length * W := Nat.mul_le_mul_right _ (by omega)
    rw [Nat.add_mul] at h2
    omega
  have hqn : q ≤ 4000 := by rw [← hq]; exact Nat.le_trans (Ck.cnt_le hw1) hl
  have HBL : Hid (Ck.blocks W b = (List.range q).map (Ck.blk W b)) := Lib.hid (by unfold Ck.blocks; rw [hq])
  rw [hq] at HCN
  rw [hn] at HCN hl h ⊢
  have HZ := Lib.hid h
  have P0 : Hid (Par (w.alloc (.cells #[.int .i64 K, .int .i64 H, .int .i64 S] 23)) w.heap.size K H S) := Lib.hid (heap_alloc_new _ _)
  have HG0 : Hid (Gr w (w.alloc (.cells #[.int .i64 K, .int .i64 H, .int .i64 S] 23))) := Lib.hid (Gr.alloc (Gr.refl _) _ _)
  obtain ⟨cur, hcu⟩ : ∃ cur, rowB (List.replicate W 0) = cur := ⟨_, rfl⟩
  have HCU := Lib.hid hcu
  have hmk := make22 W W (Nat.le_refl _) (by omega)
  rw [hcu] at hmk
  have HBB : Hid (∀ i, ∀ x ∈ Ck.blk W b i, Byt x) := Lib.hid fun i => Ck.blk_byt HZ.out.1 i
  clear hcu hm hw3 hW h hn hq
  go_enter Try.func11, Try.ntmps11
  go_wp2_with fail
  generalize w.alloc (.cells #[.int .i64 K, .int .i64 H, .int .i64 S] 23) = W0 at *
  generalize hgp : w.heap.size = gp at *
  refine (refMay_any K H S _).mono ?_
  rw [hd]
  rintro e w1 ⟨rfl, hg1⟩
  have P1 := Lib.hid (P0.out.grown hg1)
  have G1 := Lib.hid (Gr.trans HG0.out hg1)
  have c0 := P1.out.cell0
  have c2 := P1.out.cell2
  clear hg1 P0 HG0
  go_wp2_with fail
  go_loopw [5, 7] (fun ov iv X => ∃ i : Nat, i ≤ q ∧ iv = .int .i64 i ∧ Rws w.heap.size X ov ((List.range i).map (Ck.blk W b)) ∧ Par X gp K H S ∧ Gr w X) (fun _ iv _ => q - (intOf iv).toNat)
  case atStart => exact ⟨0, by omega, rfl, by simpa using Rws.nil _ _, P1.out, G1.out⟩
  case round =>
    obtain ⟨wi, hwi⟩ : ∃ x, x = wr := ⟨_, rfl⟩
    subst hwi
    obtain ⟨i, hi, rfl, hr, hp, hg⟩ := hrel
    obtain ⟨oo, mo, co, rfl⟩ := hr.form4
    have k0 := hp.cell0
    have k1 := hp.cell1
    have k2 := hp.cell2
    have HR := Lib.hid hr
    have HP := Lib.hid hp
    have HG := Lib.hid hg
    clear hr hp hg P1 G1 c0 c2
    go_wp2_with fail
    refine (HCN.out _).mono ?_
    rintro e w2 ⟨rfl, hg2⟩
    have HR2 := Lib.hid (HR.out.grown hg2)
    have HP2 := Lib.hid (HP.out.grown hg2)
    have HG2 := Lib.hid (Gr.trans HG.out hg2)
    clear hg2 k0 k1 k2 HR HP HG
    by_cases hlt : i < q
    · obtain ⟨iw, hiw⟩ : ∃ iw, i * W = iw := ⟨_, rfl⟩
      have hiw2 : iw < n := by have := HQW.out i hlt; rw [HN.out] at this; omega
      have HIW := Lib.hid hiw
      have hiw3 : (i : Int) * (W : Int) = (iw : Int) := by rw [← hiw]; exact (Int.natCast_mul i W).symm
      have hiw4 : IntKind.i64.wrap ((i : Int) * (W : Int)) = (iw : Int) := by rw [hiw3]; simp [IntKind.wrap, IntKind.bits, IntKind.signed]; omega
      obtain ⟨a, c', he, hcn, hcm, _⟩ := Bs.at HZ.out (by rw [HN.out]; omega)
      simp only [Value.slice.injEq] at he
      obtain ⟨rfl, -, rfl⟩ := he
      rw [HN.out] at hcn
      have hci : ¬ c = iw := by omega
      have hic : (iw : Int) ≤ (n : Int) := by omega
      have HGA : Hid (Gr w2 (w2.alloc (.cells cur 5))) := Lib.hid (Gr.alloc (Gr.refl _) _ _)
      have HBK : Hid (Blk (w2.alloc (.cells cur 5)) w2.heap.size (List.replicate W 0)) := Lib.hid (by
        unfold Blk
        rw [HCU.out]
        exact heap_alloc_new _ _)
      have HSR : Hid (Bs (w2.alloc (.cells cur 5)) (.slice (some (a.add iw)) (n - iw) (c - iw)) (b.drop iw)) := Lib.hid (by
        have h := Bs.from5 (HZ.out.grown (Gr.trans HG2.out HGA.out)) iw (by rw [HN.out]; omega) _ _ _ rfl
        rw [if_neg hci] at h
        exact h)
      have HPB : Hid (Ck.padW W (b.drop iw) = Ck.blk W b i) := Lib.hid (by unfold Ck.blk; rw [hiw])
      have HWS : Hid (w.heap.size ≤ w2.heap.size) := Lib.hid HG2.out.size
      have hmb : (List.map (Ck.blk W b) (List.range i)).length ≤ 100000 := by simp; omega
      have HMB := Lib.hid hmb
      clear hiw hmb
      go_wp2_with (first
        | (at_builtin; have h := B5; refine wpList_append_row rfl _ _ rfl w.heap.size (.slice oo mo co) ((List.range i).map (Ck.blk W b)) rfl (HR2.out.grown (Gr.alloc G5.out _ _)) w5.heap.size (.slice (some ⟨w2.heap.size, 0, none⟩) W W) (Ck.blk W b i) rfl (by rw [cell_of_row _ _ 0 _ _ _ (heap_alloc_new w5 _)]; rfl) (BS5.out.grown (Gr.alloc (Gr.refl _) _ _)) RB5.out HMB.out (by have := HWS.out; have := G5.out.size; simp; omega) ?_; intro v6 w6 hr6 hg6 hk6; have R6 := Lib.hid hr6; have G6 := Lib.hid hg6; have K6 := Lib.hid hk6; clear hr6 hg6 hk6)
        | (refine copy_pad (w0 := w2) rfl _ _ rfl w2.heap.size W HBK.out rfl _ (b.drop iw) rfl HSR.out HGA.out (Nat.le_refl _) ?_; intro w5 hb5 hg5; rw [HPB.out] at hb5; have B5 := Lib.hid hb5; have G5 := Lib.hid hg5; have BS5 : Hid (Bs w5 (.slice (some ⟨w2.heap.size, 0, none⟩) W W) (Ck.blk W b i)) := Lib.hid (by have := Blk.bs hb5 (Ck.blk W b i) W (Nat.le_refl _) (by rw [Ck.blk_length]; exact Nat.le_refl _) (by omega) (HBB.out i) fun _ _ => rfl; rwa [Ck.blk_length] at this); have RB5 : Hid (Rb w.heap.size (w5.alloc (.cells #[.slice (some ⟨w2.heap.size, 0, none⟩) W W] 24)) (.slice (some ⟨w2.heap.size, 0, none⟩) W W)) := Lib.hid (Rb.of_blk (B5.out.grown (Gr.alloc (Gr.refl w5) _ _))); clear hb5 hg5))
      refine ⟨⟨i + 1, by omega, by go_num, ?_, K6.out.2 _ _ _ _ ((HP2.out.grown G5.out).grown (Gr.alloc (Gr.refl _) _ _)) (by decide), G6.out w (Gr.alloc (Gr.trans HG2.out G5.out) _ _) (Nat.le_refl _)⟩, by simp [intOf]; omega⟩
      rw [List.range_succ, List.map_append]
      exact R6.out
    · obtain rfl : i = q := by omega
      go_wp2_with fail
      go_ret
      exact ⟨_, rfl, by rw [HBL.out]; exact HR2.out.bss, HG2.out⟩
set_option maxRecDepth 100000 in
set_option maxHeartbeats 400000 in
theorem refBlocks_ne (K H S : Int) (v : Value) (b : List Int) (w : World) (hm : ¬ MayP K H S) (h : Bs w v b) :
    Calls Try.prog 11 #[par K H S, v] w fun e w' => e = .returned (.slice none 0 0) ∧ Gr w w' := by
  have hd := decide_eq_false hm
  obtain ⟨o, c, rfl⟩ := h.form
  have HG0 : Hid (Gr w (w.alloc (.cells #[.int .i64 K, .int .i64 H, .int .i64 S] 23))) := Lib.hid (Gr.alloc (Gr.refl _) _ _)
  clear hm h
  go_enter Try.func11, Try.ntmps11
  go_wp2_with fail
  refine (refMay_any K H S _).mono ?_
  rw [hd]
  rintro e w1 ⟨rfl, hg1⟩
  have G1 := Lib.hid (Gr.trans HG0.out hg1)
  clear hg1
  go_wp2_with fail
  go_ret
  exact ⟨rfl, G1.out⟩
theorem refBlocks_any (K H S : Int) (v : Value) (b : List Int) (w : World) (hl : b.length ≤ 4000) (h : Bs w v b) :
    Calls Try.prog 11 #[par K H S, v] w fun e w' => ∃ u, e = .returned u ∧ Bss w' u (Ck.blocksP K H S b) ∧ Gr w w' := by
  by_cases hm : MayP K H S
  · exact refBlocks_in K H S v b w hm hl h
  · rw [show Ck.blocksP K H S b = [] from if_neg hm]
    refine (refBlocks_ne K H S v b w hm h).mono ?_
    rintro e w' ⟨rfl, hg⟩
    exact ⟨_, rfl, Bss.nil _, hg⟩
end Go.Proofs.Ytmbikmlknbinpaa
namespace Go.Proofs.Ytmbikmlknbinpaa
open Go.RowKit

theorem bytes_cells {w : World} {o : Option Addr} {l : List Int} {n : Nat} (hl : l.length = n) (h : ∀ a, o = some a → ∀ i, i < n → w.cell? (a.add i) = some (.int .u8 (l.getD i 0))) :
    ∀ ad, o = some ad → ∀ i u, (l.map (Value.int .u8))[i]? = some u → w.cell? (ad.add i) = some u := by
  intro ad ha i u hu
  have hi : i < l.length := by
    have := (List.getElem?_eq_some_iff.1 hu).1
    rwa [List.length_map] at this
  rw [h ad ha i (by omega)]
  rw [List.getElem?_map, List.getElem?_eq_getElem hi] at hu
  rw [List.getD_eq_getElem?_getD, List.getElem?_eq_getElem hi]
  simpa using hu
theorem leadL_nought : ∀ l : List Int, leadL l = -1 → ∀ j, l.getD j 0 = 0
  | [], _, j => by simp
  | a :: l, h, j => by
    have hge := leadL_ge l
    unfold leadL at h
    split at h
    · rename_i ha
      split at h
      · rename_i hl
        cases j with
        | zero => simpa using ha
        | succ j => simpa using leadL_nought l hl j
      · omega
    · omega
theorem vec_nought {l : List Int} (h : leadL l = -1) : vec l = L.vzero := funext fun j => by
  show fb (l.getD j 0) = L.zero
  rw [leadL_nought l h j, fb_zero]
theorem vec_ne {l : List Int} (hb : ∀ x ∈ l, Byt x) (h : 0 ≤ leadL l) : vec l ≠ L.vzero := fun e => by
  have : leadL l = -1 := leadL_none l fun j _ => by
    have h1 : fb (l.getD j 0) = L.zero := congrFun e j
    exact fb_inj (getD_byt hb j) (by unfold Byt; omega) (by rw [h1, fb_zero])
  omega
theorem Bs.parts {w : World} {oa : Option Addr} {m c : Nat} {l : List Int} (h : Bs w (.slice oa m c) l) : l.length = m ∧ m ≤ c ∧ c ≤ 9223372036854775807 ∧ (oa = none → m = 0 ∧ c = 0) ∧ ∀ ad, oa = some ad → ∀ i u, (l.map (Value.int .u8))[i]? = some u → w.cell? (ad.add i) = some u := by
  obtain ⟨_, oa', c', he, h2, h3, h4, h5⟩ := h
  obtain ⟨rfl, rfl, rfl⟩ : oa = oa' ∧ m = l.length ∧ c = c' := by simpa using he
  exact ⟨rfl, h2, h3, fun e => ⟨by have := h4 e; omega, h4 e⟩, bytes_cells rfl h5⟩
/-- append of bytes that came in onto bytes of one's own. -/
theorem wpList_append_bytes {w : World} {ops : Array Oper} {rest : List Oper} {o : Oper} {a : Act} {Q : Exit → Act → World → Prop} (hgd : o.guard = none) (s x : Operand)
    (ho : o.op = .call { callee := .builtin .append, args := #[s, x], argTypes := #[24, 24] }) (base : Nat) (v : Value) (n : Nat) (l : List Int) (hs : a.eval s = v) (hown : w.ownsRow base 5 1 v n (l.map (Value.int .u8)))
    (oa : Option Addr) (m c : Nat) (l' : List Int) (hx : a.eval x = .slice oa m c) (hL : Bs w (.slice oa m c) l') (hm : n + m ≤ 1000000) (hbase : base ≤ w.heap.size)
    (h : ∀ v' w', w'.ownsRow base 5 1 v' (n + m) ((l ++ l').map (Value.int .u8)) → w.grownBy w' v.ownBlock → wpList Try.prog ops Q rest (a.put o.dst v') w') : wpList Try.prog ops Q (o :: rest) a w := by
  obtain ⟨i5, hi0, hz0, hz1, hz2⟩ := info_parts infoB
  obtain ⟨p1, p2, p3, p4, p5⟩ := hL.parts
  refine wpList_append_in hgd s x 24 ho base 5 i5 _ 1 Try.underlying24 hi0 hz0 hz1 hz2 rfl v n _ hs hown oa m c (l'.map (Value.int .u8)) hx p4 (by rw [List.length_map]; exact p1) p5 (ints_oneCell _ _) (by unfold maxLen; omega) (by omega) hbase ?_
  intro v' w' h1 h2
  exact h v' w' (by rw [List.map_append]; exact h1) h2
theorem step_append_bytes {w : World} {ops : Array Oper} {o : Oper} {a : Act} {K : Act → World → Prop} {Q : Exit → Act → World → Prop} {E : Prop} (hgd : o.guard = none) (s x : Operand)
    (ho : o.op = .call { callee := .builtin .append, args := #[s, x], argTypes := #[24, 24] }) (base : Nat) (v : Value) (n : Nat) (l : List Int) (hs : a.eval s = v) (hown : w.ownsRow base 5 1 v n (l.map (Value.int .u8)))
    (oa : Option Addr) (m c : Nat) (l' : List Int) (hx : a.eval x = .slice oa m c) (hL : Bs w (.slice oa m c) l') (hm : n + m ≤ 1000000) (hbase : base ≤ w.heap.size)
    (h : ∀ v' w', w'.ownsRow base 5 1 v' (n + m) ((l ++ l').map (Value.int .u8)) → w.grownBy w' v.ownBlock → K (a.put o.dst v') w') :
    if Region.wanted o (yielded ops a.tmps) = true then Oper.wp Try.prog o a w K Q else E := by
  obtain ⟨i5, hi0, hz0, hz1, hz2⟩ := info_parts infoB
  obtain ⟨p1, p2, p3, p4, p5⟩ := hL.parts
  refine step_append_in hgd s x 24 ho base 5 i5 _ 1 Try.underlying24 hi0 hz0 hz1 hz2 rfl v n _ hs hown oa m c (l'.map (Value.int .u8)) hx p4 (by rw [List.length_map]; exact p1) p5 (ints_oneCell _ _) (by unfold maxLen; omega) (by omega) hbase ?_
  intro v' w' h1 h2
  exact h v' w' (by rw [List.map_append]; exact h1) h2
theorem Bs.rb {w : World} {u : Value} {l : List Int} (h : Bs w u l) (w' : World) : Rb w.heap.size w' u := by
  intro a n c e hn
  obtain ⟨_, oa, cc, h1, h2, h3, h4, h5⟩ := h
  rw [h1] at e
  obtain ⟨rfl, rfl, rfl⟩ : oa = some a ∧ l.length = n ∧ cc = c := by simpa using e
  exact .inl (World.block_lt_of_cell? w _ (h5 a rfl 0 hn))
/-- A copy of the list of rows: new memory for the list, the rows as they were. -/
theorem wpList_append_rows {w : World} {ops : Array Oper} {rest : List Oper} {o : Oper} {a : Act} {Q : Exit → Act → World → Prop} (hgd : o.guard = none) (s x : Operand)
    (ho : o.op = .call { callee := .builtin .append, args := #[s, x], argTypes := #[25, 25] }) (hs : a.eval s = .slice none 0 0)
    (oa : Option Addr) (m c : Nat) (L : List (List Int)) (hx : a.eval x = .slice oa m c) (hl : L.length = m) (hL : Bss w (.slice oa m c) L) (hm : m ≤ 1000)
    (h : ∀ v' w' us, w'.ownsRow w.heap.size 24 1 v' m us → Gr w w' → (∀ i, i < m → Bs w' (us.getD i undef) (L.getD i []) ∧ Rb w.heap.size w' (us.getD i undef)) → wpList Try.prog ops Q rest (a.put o.dst v') w') : wpList Try.prog ops Q (o :: rest) a w := by
  obtain ⟨i0, hi0, hz0, hz1, hz2⟩ := info_parts info22
  obtain ⟨us, hv⟩ := hL.vals
  have hno : oa = none → m = 0 ∧ c = 0 := fun e => by
    obtain ⟨oa', c', he, h1, h2, h3, h4⟩ := hL
    obtain ⟨rfl, h5, rfl⟩ : oa = oa' ∧ m = L.length ∧ c = c' := by simpa using he
    have := h3 e
    omega
  refine wpList_append_in hgd s x 25 ho w.heap.size 24 i0 _ 24 Try.underlying25 hi0 hz0 hz1 hz2 rfl (.slice none 0 0) 0 [] hs (World.ownsRow_nil w _ 24 1) oa m c us hx hno (by rw [hv.1, hl]) hv.2.1 hv.2.2.2 (by unfold maxLen; omega) (by omega) (Nat.le_refl _) ?_
  intro v' w' hown hgrow
  rw [Nat.zero_add, List.nil_append] at hown
  have hg : Gr w w' := Gr.append (Gr.refl w) hgrow (fun _ h => by cases h)
  exact h v' w' us hown hg fun i hi => ⟨Bs.grown (hv.2.2.1 i (by omega)) hg, (hv.2.2.1 i (by omega)).rb w'⟩
theorem New.under {w w1 w2 : World} {v : Value} {l : List Int} (hg : Gr w w1) (h : New w1 w2 v l) : New w w2 v l := by
  obtain ⟨h1, h2, h3⟩ := h
  refine ⟨Gr.trans hg h1, h2, ?_⟩
  rcases h3 with h3 | ⟨g, c, cur, e1, e2, e3⟩
  · exact .inl h3
  · exact .inr ⟨g, c, cur, e1, Nat.le_trans hg.size e2, e3⟩
theorem zeroB (m : Nat) : Builtin.zeroCells (Value.int .u8 0).cells m = (List.replicate m (Value.int .u8 0)).toArray := by
  apply Array.ext
  · simp [Builtin.zeroCells, Value.cells]
  intro i h1 h2
  simp [Builtin.zeroCells, Value.cells, Nat.mod_one]
/-- append(v, make([]byte, m)...), v bytes of one's own. -/
theorem run_append_zeros (w : World) (ty : TypeId) (base : Nat) (v : Value) (n : Nat) (l : List Int) (hown : w.ownsRow base 5 1 v n (l.map (Value.int .u8))) (m : Nat) (hm : n + m ≤ 1000000) (hbase : base ≤ w.heap.size) :
    ∃ v' w', (Builtin.append_ #[24, 3] ty #[v, .int .i64 m]).run Try.prog w = .ok v' w' ∧ w'.ownsRow base 5 1 v' (n + m) ((l ++ List.replicate m 0).map (Value.int .u8)) ∧ w.grownBy w' v.ownBlock := by
  obtain ⟨i, hi, hz, hs, hb⟩ := info_parts infoB
  have ht := Try.underlying24
  have htn := Try.underlying3
  have hlen : ((l ++ List.replicate m 0).map (Value.int .u8)).length = n + m := by
    have := hown.1
    rw [List.length_map] at this
    rw [List.length_map, List.length_append, List.length_replicate]
    omega
  have hmap : (l ++ List.replicate m 0).map (Value.int .u8) = l.map (Value.int .u8) ++ List.replicate m (.int .u8 0) := by rw [List.map_append, List.map_replicate]
  have hln : (l.map (Value.int .u8)).length = n := by have := hown.1; omega
  have grown : ∀ (old : Nat) (row : Option Nat),
      (w.drew.alloc (.cells ((l.map (Value.int .u8)).toArray ++ Builtin.zeroCells (Value.int .u8 0).cells m ++ Builtin.zeroCells (Value.int .u8 0).cells (grownCap w (n + m) old 5 - (n + m))) 5)).ownsRow base 5 1
        (.slice (some ⟨w.heap.size, 0, none⟩) (n + m) (grownCap w (n + m) old 5)) (n + m) ((l ++ List.replicate m 0).map (Value.int .u8)) ∧
      w.grownBy (w.drew.alloc (.cells ((l.map (Value.int .u8)).toArray ++ Builtin.zeroCells (Value.int .u8 0).cells m ++ Builtin.zeroCells (Value.int .u8 0).cells (grownCap w (n + m) old 5 - (n + m))) 5)) row := by
    intro old row
    have hge := grownCap_ge w (n + m) old 5
    have hcm : grownCap w (n + m) old 5 ≤ maxLen := grownCap_le_maxLen w (n + m) old 5 (by unfold maxLen; omega)
    rw [zeroB, zeroB]
    refine ⟨⟨by rw [hlen, Nat.mul_one], .inr ⟨w.heap.size, _, _, rfl, hbase, heap_alloc_new w.drew _, hge, hcm, ?_, ?_⟩⟩, ⟨rfl, rfl, rfl, by simp, fun k hk _ => heap_alloc_old w.drew _ hk⟩⟩
    · simp only [Array.size_append, List.size_toArray, List.length_replicate, hln]
      omega
    · rw [hmap]
      simp only [Array.toList_append]
      rw [List.take_left' (by rw [List.length_append, hln, List.length_replicate, Nat.mul_one])]
  by_cases hm0 : m = 0
  · subst hm0
    rw [List.replicate_zero, List.append_nil] at *
    have hw : IntKind.i64.wrap (0 : Int) = 0 := by rw [IntKind.wrap_i64]; omega
    obtain ⟨_, ⟨rfl, rfl⟩ | ⟨g, cap, cur, rfl, hbg, hg, hnc, hcm, hcs, htake⟩⟩ := id hown
    · exact ⟨.slice none 0 0, w, by simp [Builtin.append_, run_underlying ht, run_underlying htn, sizeOf, typeInfo, hi, asInt, asIntOf, hw], hown, ⟨rfl, rfl, rfl, Nat.le_refl _, fun _ _ _ => rfl⟩⟩
    · exact ⟨_, w, by simp [Builtin.append_, run_underlying ht, run_underlying htn, sizeOf, typeInfo, hi, asInt, asIntOf, hw, hnc, storeCells], hown, ⟨rfl, rfl, rfl, Nat.le_refl _, fun _ _ _ => rfl⟩⟩
  · obtain ⟨_, ⟨rfl, rfl⟩ | ⟨g, cap, cur, rfl, hbg, hg, hnc, hcm, hcs, htake⟩⟩ := id hown
    · have hl0 : l = [] := by
        rw [List.length_map] at hln
        exact List.eq_nil_of_length_eq_zero hln
      subst hl0
      have hr := Lib.run_append_nil_zeros (P := Try.prog) w 24 3 ty 5 i _ .i64 .i64 ht htn hi hz m (by omega) (by rw [hs]; omega) (by omega) (by rw [hb]; omega)
      have hgr := grown 0 (Value.ownBlock (.slice none 0 0))
      simp only [Nat.zero_add, List.map_nil, Array.empty_append] at hgr ⊢
      exact ⟨_, _, hr, hgr.1, hgr.2⟩
    · by_cases hroom : n + m ≤ cap
      · have hw : IntKind.i64.wrap (m : Int) = m := by rw [IntKind.wrap_i64]; omega
        have hst := run_storeCells_at Try.prog g n 5 (List.replicate m (Value.int .u8 0)) 0 cur w hg (by rw [List.length_replicate]; omega) (by intro u hu; rw [(List.mem_replicate.1 hu).2]; rfl)
        simp only [Nat.add_zero] at hst
        have hneg : ¬ ((m : Int) < 0) := by omega
        have h48i : ¬ (281474976710656 < (m : Int)) := by omega
        refine ⟨.slice (some ⟨g, 0, none⟩) (n + m) cap, w.setRow g (cur.toList.take n ++ List.replicate m (Value.int .u8 0) ++ cur.toList.drop (n + m)).toArray, ?_, ?_, ?_⟩
        · simp [Builtin.append_, run_underlying ht, run_underlying htn, sizeOf, typeInfo, zeroValue, hi, hz, hs, hb, asInt, asIntOf, hw, hneg, h48i, hm0, hroom, Addr.add_lit, zeroB, hst]
        · refine ⟨by rw [hlen, Nat.mul_one], .inr ⟨g, cap, _, rfl, hbg, setRow_heap w g cur _ 5 _ hg, hroom, hcm, ?_, ?_⟩⟩
          · simp only [List.size_toArray, List.length_append, List.length_take, List.length_drop, Array.length_toList, List.length_replicate]
            omega
          · rw [hmap]
            simp only [List.append_assoc]
            rw [Nat.mul_one] at htake
            rw [htake, ← List.append_assoc, List.take_left' (by rw [List.length_append, hln, List.length_replicate, Nat.mul_one])]
        · exact ⟨rfl, rfl, rfl, by simp, fun k _ hk => setRow_other w g k _ (fun e => hk (by simp [Value.ownBlock, e]))⟩
      · have holds : ∀ j u, (l.map (Value.int .u8))[j]? = some u → w.cell? ((⟨g, 0, none⟩ : Addr).add j) = some u := hown.cells (g := g) rfl
        have hf := run_firstCells_some (P := Try.prog) w.drew i.size n ⟨g, 0, none⟩ n cap (l.map (Value.int .u8)) (by rw [hs, hln, Nat.mul_one]) (by simpa using holds)
        have hr := Lib.run_append_grow_zeros (P := Try.prog) w 24 3 ty 5 i _ .i64 .i64 ht htn hi hz (some ⟨g, 0, none⟩) n cap _ hf m (by omega) (by rw [hs]; omega) (by omega) (by omega) (by rw [hb]; omega) (by rw [hb]; exact growslice_fits (by omega) (by omega))
        have hgr := grown cap (Value.ownBlock (.slice (some ⟨g, 0, none⟩) n cap))
        exact ⟨_, _, hr, hgr.1, hgr.2⟩
theorem want_append_bytes {w : World} {ops : Array Oper} {rest : List Oper} {o : Oper} {a : Act} {Q : Exit → Act → World → Prop} (hw : Region.wanted o (yielded ops a.tmps) = true) (s x : Operand)
    (ho : o.op = .call { callee := .builtin .append, args := #[s, x], argTypes := #[24, 24] }) (base : Nat) (v : Value) (n : Nat) (l : List Int) (hs : a.eval s = v) (hown : w.ownsRow base 5 1 v n (l.map (Value.int .u8)))
    (oa : Option Addr) (m c : Nat) (l' : List Int) (hx : a.eval x = .slice oa m c) (hL : Bs w (.slice oa m c) l') (hm : n + m ≤ 1000000) (hbase : base ≤ w.heap.size)
    (h : ∀ v' w', w'.ownsRow base 5 1 v' (n + m) ((l ++ l').map (Value.int .u8)) → w.grownBy w' v.ownBlock → wpList Try.prog ops Q rest (a.put o.dst v') w') : wpList Try.prog ops Q (o :: rest) a w := by
  obtain ⟨i5, hi0, hz0, hz1, hz2⟩ := info_parts infoB
  obtain ⟨p1, p2, p3, p4, p5⟩ := hL.parts
  refine wpList_step fun K hK => ?_
  rw [if_pos hw]
  refine wp_append_in s x 24 ho base 5 i5 _ 1 Try.underlying24 hi0 hz0 hz1 hz2 rfl v n _ hs hown oa m c (l'.map (Value.int .u8)) hx p4 (by rw [List.length_map]; exact p1) p5 (ints_oneCell _ _) (by unfold maxLen; omega) (by omega) hbase ?_
  intro v' w' h1 h2
  exact hK _ _ (h v' w' (by rw [List.map_append]; exact h1) h2)
theorem want_append_zeros {w : World} {ops : Array Oper} {rest : List Oper} {o : Oper} {a : Act} {Q : Exit → Act → World → Prop} (hw : Region.wanted o (yielded ops a.tmps) = true) (s x : Operand)
    (ho : o.op = .call { callee := .builtin .append, args := #[s, x], argTypes := #[24, 3] }) (base : Nat) (v : Value) (n : Nat) (l : List Int) (hs : a.eval s = v) (hown : w.ownsRow base 5 1 v n (l.map (Value.int .u8)))
    (m : Nat) (hx : a.eval x = .int .i64 m) (hm : n + m ≤ 1000000) (hbase : base ≤ w.heap.size)
    (h : ∀ v' w', w'.ownsRow base 5 1 v' (n + m) ((l ++ List.replicate m 0).map (Value.int .u8)) → w.grownBy w' v.ownBlock → wpList Try.prog ops Q rest (a.put o.dst v') w') : wpList Try.prog ops Q (o :: rest) a w := by
  refine wpList_step fun K hK => ?_
  rw [if_pos hw]
  obtain ⟨v', w', hr, h2, h3⟩ := run_append_zeros w o.type base v n l hown m hm hbase
  unfold Oper.wp execOp
  simp only [ho, resolve, invoke, builtin, Sem.run_bind, Sem.run_pure, Result.andThen_ok, List.map_toArray, List.map_cons, List.map_nil, hs, hx, hr]
  exact hK _ _ (h v' w' h2 h3)
end Go.Proofs.Ytmbikmlknbinpaa
