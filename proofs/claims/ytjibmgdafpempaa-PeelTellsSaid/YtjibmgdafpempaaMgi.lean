/-
  Texts laid behind one another: Ye Nc Nd Az Rx Ne.
-/
import Derived.Test.YtjibmgdafpempaaMgh
import Derived.Test.YtjibmgdafpempaaMgd
import Derived.Laws.CopyOwn
import Derived.Test.YtjibmgdafpempaaMgf
import Derived.Lib.AppendZerosOnto
namespace Go.Proofs.Ytjibmgdafpempaa
open Go.RowKit

theorem sysWake_rank : rkL (matP 2 1 1 1 []) = 1 := by
  rw [matP_nil]
  have h := aheadP_in (K := 2) (H := 1) (S := 1) (by unfold MayP; omega)
  rw [show aheadP 2 1 1 = ahead 2 1 from h, ahead_rk]
theorem sysWake_len : (matP 2 1 1 1 []).length = 1 := by
  rw [matP_nil]
  have h := aheadP_in (K := 2) (H := 1) (S := 1) (by unfold MayP; omega)
  rw [show aheadP 2 1 1 = ahead 2 1 from h, ahead_length]
theorem sysWake_full : decide (FullP 2 1 1 1 []) = false := decide_eq_false fun h => by
  have h2 := h.2
  rw [sysWake_rank] at h2
  have : colsP 2 1 1 = 3 := by unfold colsP; rw [if_pos (by unfold MayP; omega)]; rfl
  omega
/-- 0, 1, .., n - 1, without k. -/
def lessI (n k : Nat) : List Int := (firstI n).filter fun i => decide (i ≠ (k : Int))
theorem lessI_succ (n k : Nat) : lessI (n + 1) k = if n = k then lessI n k else lessI n k ++ [(n : Int)] := by
  unfold lessI
  rw [firstI_succ, List.filter_append]
  by_cases e : n = k
  · subst e
    rw [if_pos rfl]
    simp
  · rw [if_neg e]
    have : ¬ ((n : Int) = (k : Int)) := by omega
    simp [this]
theorem lessI_le (n k : Nat) : (lessI n k).length ≤ n := by
  have := List.length_filter_le (fun i => decide (i ≠ (k : Int))) (firstI n)
  rw [firstI_length] at this
  exact this
theorem lessI_lt {n k : Nat} (h : k < n) : (lessI n k).length < n := by
  induction n with
  | zero => omega
  | succ n ih =>
    rw [lessI_succ]
    by_cases e : n = k
    · rw [if_pos e]
      have := lessI_le n k
      omega
    · rw [if_neg e, List.length_append]
      have := ih (by omega)
      simp
      omega
theorem lessI_i64 {n k : Nat} (h : n ≤ 1000) : ∀ x ∈ lessI n k, I64 x := fun x hx => firstI_i64 h x (List.mem_filter.1 hx).1
theorem few_not_full {K H : Nat} {S : Int} (hm : MayP K H S) (seed : Nat) (l : List Int) (h : l.length < K) : ¬ FullP K H S seed l := fun hf => by
  have h2 := hf.2
  have hw := rkL_le_rows (matP_wide hm seed l)
  have hl : (matP K H S seed l).length ≤ H + l.length := by
    rw [matP_in hm, List.length_append, ahead_length, List.length_map]
    have := List.length_filter_le (fun i => decide (MayI i)) l
    omega
  have : colsP K H S = K + H := by unfold colsP; rw [if_pos hm]
  omega
end Go.Proofs.Ytjibmgdafpempaa
namespace Go.Proofs.Ytjibmgdafpempaa
open Go.RowKit

/-- The contracts of package encode; At: how a Block lies in memory (which blocks are its own), its parameters, its seed and its middle symbols. -/
structure EncOk (At : World → Value → (Nat → Prop) → Nat → Nat → Nat → Nat → List (List Int) → Prop) : Prop where
  ptr : ∀ {w : World} {y : Value} {F : Nat → Prop} {K H S seed : Nat} {M : List (List Int)}, At w y F K H S seed M → ∃ a, y = .pointer (some a)
  lt : ∀ {w : World} {y : Value} {F : Nat → Prop} {K H S seed : Nat} {M : List (List Int)}, At w y F K H S seed M → ∀ k, F k → k < w.heap.size
  keep : ∀ {w w' : World} {y : Value} {F G : Nat → Prop} {K H S seed : Nat} {M : List (List Int)}, At w y F K H S seed M → Kp G w w' → (∀ k, F k → ¬ G k) → At w' y F K H S seed M
theorem Bs.addr {w : World} {oa : Option Addr} {m c : Nat} {l : List Int} (h : Bs w (.slice oa m c) l) (hm : 0 < m) : ∃ a, oa = some a := by
  obtain ⟨_, oa', c', he, h2, h3, h4, h5⟩ := h
  obtain ⟨rfl, rfl, rfl⟩ : oa = oa' ∧ m = l.length ∧ c = c' := by simpa using he
  cases oa with
  | none => have := h4 rfl; omega
  | some a => exact ⟨a, rfl⟩
theorem Bs.part {w : World} {b : Addr} {m c lo hi : Nat} {l : List Int} (h : Bs w (.slice (some b) m c) l) (h1 : lo ≤ hi) (h2 : hi ≤ m) : Bs w (.slice (if c = lo then some b else some (b.add lo)) (hi - lo) (c - lo)) ((l.drop lo).take (hi - lo)) := by
  obtain ⟨h0, oa', c', he, p2, p3, p4, p5⟩ := h
  obtain ⟨rfl, rfl, rfl⟩ : some b = oa' ∧ m = l.length ∧ c = c' := by simpa using he
  have hl : ((l.drop lo).take (hi - lo)).length = hi - lo := by rw [List.length_take, List.length_drop]; omega
  refine ⟨fun x hx => h0 x (List.mem_of_mem_drop (List.mem_of_mem_take hx)), _, _, by rw [hl], by rw [hl]; omega, by omega, (fun e => by split at e <;> cases e), fun a ha i hi2 => ?_⟩
  rw [hl] at hi2
  rw [if_neg (by omega)] at ha
  cases ha
  rw [Addr.add_add', p5 b rfl (lo + i) (by omega), List.getD_eq_getElem?_getD, List.getD_eq_getElem?_getD, List.getElem?_take_of_lt hi2, List.getElem?_drop]
theorem EncOk.grown {At : World → Value → (Nat → Prop) → Nat → Nat → Nat → Nat → List (List Int) → Prop} (E : EncOk At) {w w' : World} {y : Value} {F : Nat → Prop} {K H S s : Nat} {M : List (List Int)} (h : At w y F K H S s M) (hg : Gr w w') : At w' y F K H S s M :=
  E.keep h (hg.kp fun _ => False) fun _ _ e => e
/-- From a seed on, modulo 2^32. -/
def nthS (s i : Nat) : Nat := (s + i) % 4294967296
theorem nthS_lt (s i : Nat) : nthS s i < 4294967296 := Nat.mod_lt _ (by omega)
theorem nthS_back (s i : Nat) (h : i ≤ 24) : ((((nthS s i : Nat) : Int) - s) % 4294967296).toNat = i := by
  unfold nthS
  omega
theorem nthS_succ (s i : Nat) : IntKind.u32.wrap ((nthS s i : Int) + 1) = (nthS s (i + 1) : Int) := by
  simp [IntKind.wrap, IntKind.bits, IntKind.signed]
  unfold nthS
  omega
/-- So many bytes of a list, noughts behind. -/
def dataL (l : List Int) (n : Nat) : List Int := l.take n ++ List.replicate (n - l.length) 0
theorem dataL_length (l : List Int) (n : Nat) : (dataL l n).length = n := by
  unfold dataL
  rw [List.length_append, List.length_take, List.length_replicate]
  omega
theorem dataL_byt {l : List Int} (h : ∀ z ∈ l, Byt z) (n : Nat) : ∀ z ∈ dataL l n, Byt z := fun z hz => by
  unfold dataL at hz
  rw [List.mem_append] at hz
  rcases hz with hz | hz
  · exact h z (List.mem_of_mem_take hz)
  · exact replicate_byt _ z hz
theorem new_block {w W : World} {g n : Nat} {L : List Int} (hg : Gr w W) (hge : w.heap.size ≤ g) (hb : Blk W g L) (hl : L.length = n) (hB : ∀ z ∈ L, Byt z) (hn : n ≤ 1000000) : New w W (.slice (some ⟨g, 0, none⟩) n n) L :=
  ⟨hg, hB, .inr ⟨g, n, _, by rw [hl], hge, hb, by omega, by omega, fun i hi => rowB_get _ i hi⟩⟩
end Go.Proofs.Ytjibmgdafpempaa
namespace Go.Proofs.Ytjibmgdafpempaa
open Go.RowKit

theorem wake_at : atN 2 0 0 = [0, 1] := by decide +kernel
theorem wake_first : matP 1 1 2 0 (firstI 1) = [[3, 1], [1, 1]] := by
  have hm : MayP ((1 : Nat) : Int) ((1 : Nat) : Int) ((2 : Nat) : Int) := by unfold MayP; omega
  have h := firstM_is hm 0
  have hr := rowP_in hm (id := 0) (by unfold MayI; omega) 0
  have e : firstI 1 = [0] := by decide
  rw [e] at h ⊢
  have e2 : rowP ((1 : Nat) : Int) ((1 : Nat) : Int) ((2 : Nat) : Int) 0 0 = [1, 1] := by
    rw [hr]
    show onesL 2 (atN 2 0 0) = [1, 1]
    rw [wake_at]
    decide
  rw [ahead_one, List.map_cons, List.map_nil, e2] at h
  exact h
theorem wake_right : RightP 1 1 2 0 := by
  have hm : MayP ((1 : Nat) : Int) ((1 : Nat) : Int) ((2 : Nat) : Int) := by unfold MayP; omega
  refine ⟨hm, ?_⟩
  have hc : colsP 1 1 2 = 2 := by unfold colsP; rw [if_pos (by unfold MayP; omega)]; rfl
  rw [hc]
  show (rkL (matP 1 1 2 0 (firstI 1)) : Int) = 2
  rw [wake_first]
  have e0 : L.smul (fb 141) (L.vadd (vec [3, 1]) (vec [1, 1])) = L.unit 0 := funext fun j => by
    match j with
    | 0 => apply L.Fb.ext; decide +kernel
    | 1 => apply L.Fb.ext; decide +kernel
    | j + 2 => apply L.Fb.ext; show (L.mul (fb 141) (L.add (fb 0) (fb 0))).n = 0; decide +kernel
  have e1 : L.vadd (vec [1, 1]) (L.unit 0) = L.unit 1 := funext fun j => by
    match j with
    | 0 => apply L.Fb.ext; decide +kernel
    | 1 => apply L.Fb.ext; decide +kernel
    | j + 2 => apply L.Fb.ext; show (L.add (fb 0) L.zero).n = 0; decide +kernel
  have hA : ∀ x ∈ ([[3, 1], [1, 1]] : List (List Int)).map vec, L.Supp 2 x := by
    intro x hx
    obtain ⟨y, hy, rfl⟩ := List.mem_map.1 hx
    simp at hy
    rcases hy with rfl | rfl <;> exact vec_supp rfl
  have h0 : L.Sp (([[3, 1], [1, 1]] : List (List Int)).map vec) (L.unit 0) := by
    rw [← e0]
    exact L.Sp.smul _ (L.Sp.add (L.Sp.mem (by simp)) (L.Sp.mem (by simp)))
  have h1 : L.Sp (([[3, 1], [1, 1]] : List (List Int)).map vec) (L.unit 1) := by
    rw [← e1]
    exact L.Sp.add (L.Sp.mem (by simp)) h0
  have : rkL [[3, 1], [1, 1]] = 2 := L.rk_of_units hA fun i hi => by
    have : i = 0 ∨ i = 1 := by omega
    rcases this with rfl | rfl
    · exact h0
    · exact h1
  rw [this]
  rfl
end Go.Proofs.Ytjibmgdafpempaa
namespace Go.Proofs.Ytjibmgdafpempaa
open Go.RowKit

theorem bytes_cells {w : World} {o : Option Addr} {l : List Int} {n : Nat} (hl : l.length = n) (h : ∀ a, o = some a → ∀ i, i < n → w.cell? (a.add i) = some (.int .u8 (l.getD i 0))) :
    ∀ ad, o = some ad → ∀ i u, (l.map (Value.int .u8))[i]? = some u → w.cell? (ad.add i) = some u := by
  intro ad ha i u hu
  have hi : i < l.length := by
    have := (List.getElem?_eq_some_iff.1 hu).1
    rwa [List.length_map] at this
  rw [h ad ha i (by omega)]
  rw [List.getElem?_map, List.getElem?_eq_getElem hi] at hu
  rw [List.getD_eq_getElem?_getD, List.getElem?_eq_getElem hi]
  simpa using hu
theorem leadL_nought : ∀ l : List Int, leadL l = -1 → ∀ j, l.getD j 0 = 0
  | [], _, j => by simp
  | a :: l, h, j => by
    have hge := leadL_ge l
    unfold leadL at h
    split at h
    · rename_i ha
      split at h
      · rename_i hl
        cases j with
        | zero => simpa using ha
        | succ j => simpa using leadL_nought l hl j
      · omega
    · omega
theorem vec_nought {l : List Int} (h : leadL l = -1) : vec l = L.vzero := funext fun j => by
  show fb (l.getD j 0) = L.zero
  rw [leadL_nought l h j, fb_zero]
theorem vec_ne {l : List Int} (hb : ∀ x ∈ l, Byt x) (h : 0 ≤ leadL l) : vec l ≠ L.vzero := fun e => by
  have : leadL l = -1 := leadL_none l fun j _ => by
    have h1 : fb (l.getD j 0) = L.zero := congrFun e j
    exact fb_inj (getD_byt hb j) (by unfold Byt; omega) (by rw [h1, fb_zero])
  omega
theorem Bs.parts {w : World} {oa : Option Addr} {m c : Nat} {l : List Int} (h : Bs w (.slice oa m c) l) : l.length = m ∧ m ≤ c ∧ c ≤ 9223372036854775807 ∧ (oa = none → m = 0 ∧ c = 0) ∧ ∀ ad, oa = some ad → ∀ i u, (l.map (Value.int .u8))[i]? = some u → w.cell? (ad.add i) = some u := by
  obtain ⟨_, oa', c', he, h2, h3, h4, h5⟩ := h
  obtain ⟨rfl, rfl, rfl⟩ : oa = oa' ∧ m = l.length ∧ c = c' := by simpa using he
  exact ⟨rfl, h2, h3, fun e => ⟨by have := h4 e; omega, h4 e⟩, bytes_cells rfl h5⟩
/-- append of bytes that came in onto bytes of one's own. -/
theorem wpList_append_bytes {w : World} {ops : Array Oper} {rest : List Oper} {o : Oper} {a : Act} {Q : Exit → Act → World → Prop} (hgd : o.guard = none) (s x : Operand)
    (ho : o.op = .call { callee := .builtin .append, args := #[s, x], argTypes := #[24, 24] }) (base : Nat) (v : Value) (n : Nat) (l : List Int) (hs : a.eval s = v) (hown : w.ownsRow base 5 1 v n (l.map (Value.int .u8)))
    (oa : Option Addr) (m c : Nat) (l' : List Int) (hx : a.eval x = .slice oa m c) (hL : Bs w (.slice oa m c) l') (hm : n + m ≤ 1000000) (hbase : base ≤ w.heap.size)
    (h : ∀ v' w', w'.ownsRow base 5 1 v' (n + m) ((l ++ l').map (Value.int .u8)) → w.grownBy w' v.ownBlock → wpList Try.prog ops Q rest (a.put o.dst v') w') : wpList Try.prog ops Q (o :: rest) a w := by
  obtain ⟨i5, hi0, hz0, hz1, hz2⟩ := info_parts infoB
  obtain ⟨p1, p2, p3, p4, p5⟩ := hL.parts
  refine wpList_append_in hgd s x 24 ho base 5 i5 _ 1 Try.underlying24 hi0 hz0 hz1 hz2 rfl v n _ hs hown oa m c (l'.map (Value.int .u8)) hx p4 (by rw [List.length_map]; exact p1) p5 (ints_oneCell _ _) (by unfold maxLen; omega) (by omega) hbase ?_
  intro v' w' h1 h2
  exact h v' w' (by rw [List.map_append]; exact h1) h2
theorem step_append_bytes {w : World} {ops : Array Oper} {o : Oper} {a : Act} {K : Act → World → Prop} {Q : Exit → Act → World → Prop} {E : Prop} (hgd : o.guard = none) (s x : Operand)
    (ho : o.op = .call { callee := .builtin .append, args := #[s, x], argTypes := #[24, 24] }) (base : Nat) (v : Value) (n : Nat) (l : List Int) (hs : a.eval s = v) (hown : w.ownsRow base 5 1 v n (l.map (Value.int .u8)))
    (oa : Option Addr) (m c : Nat) (l' : List Int) (hx : a.eval x = .slice oa m c) (hL : Bs w (.slice oa m c) l') (hm : n + m ≤ 1000000) (hbase : base ≤ w.heap.size)
    (h : ∀ v' w', w'.ownsRow base 5 1 v' (n + m) ((l ++ l').map (Value.int .u8)) → w.grownBy w' v.ownBlock → K (a.put o.dst v') w') :
    if Region.wanted o (yielded ops a.tmps) = true then Oper.wp Try.prog o a w K Q else E := by
  obtain ⟨i5, hi0, hz0, hz1, hz2⟩ := info_parts infoB
  obtain ⟨p1, p2, p3, p4, p5⟩ := hL.parts
  refine step_append_in hgd s x 24 ho base 5 i5 _ 1 Try.underlying24 hi0 hz0 hz1 hz2 rfl v n _ hs hown oa m c (l'.map (Value.int .u8)) hx p4 (by rw [List.length_map]; exact p1) p5 (ints_oneCell _ _) (by unfold maxLen; omega) (by omega) hbase ?_
  intro v' w' h1 h2
  exact h v' w' (by rw [List.map_append]; exact h1) h2
theorem Bs.rb {w : World} {u : Value} {l : List Int} (h : Bs w u l) (w' : World) : Rb w.heap.size w' u := by
  intro a n c e hn
  obtain ⟨_, oa, cc, h1, h2, h3, h4, h5⟩ := h
  rw [h1] at e
  obtain ⟨rfl, rfl, rfl⟩ : oa = some a ∧ l.length = n ∧ cc = c := by simpa using e
  exact .inl (World.block_lt_of_cell? w _ (h5 a rfl 0 hn))
/-- A copy of the list of rows: new memory for the list, the rows as they were. -/
theorem wpList_append_rows {w : World} {ops : Array Oper} {rest : List Oper} {o : Oper} {a : Act} {Q : Exit → Act → World → Prop} (hgd : o.guard = none) (s x : Operand)
    (ho : o.op = .call { callee := .builtin .append, args := #[s, x], argTypes := #[30, 30] }) (hs : a.eval s = .slice none 0 0)
    (oa : Option Addr) (m c : Nat) (L : List (List Int)) (hx : a.eval x = .slice oa m c) (hl : L.length = m) (hL : Bss w (.slice oa m c) L) (hm : m ≤ 1000)
    (h : ∀ v' w' us, w'.ownsRow w.heap.size 24 1 v' m us → Gr w w' → (∀ i, i < m → Bs w' (us.getD i undef) (L.getD i []) ∧ Rb w.heap.size w' (us.getD i undef)) → wpList Try.prog ops Q rest (a.put o.dst v') w') : wpList Try.prog ops Q (o :: rest) a w := by
  obtain ⟨i0, hi0, hz0, hz1, hz2⟩ := info_parts info22
  obtain ⟨us, hv⟩ := hL.vals
  have hno : oa = none → m = 0 ∧ c = 0 := fun e => by
    obtain ⟨oa', c', he, h1, h2, h3, h4⟩ := hL
    obtain ⟨rfl, h5, rfl⟩ : oa = oa' ∧ m = L.length ∧ c = c' := by simpa using he
    have := h3 e
    omega
  refine wpList_append_in hgd s x 30 ho w.heap.size 24 i0 _ 24 Try.underlying30 hi0 hz0 hz1 hz2 rfl (.slice none 0 0) 0 [] hs (World.ownsRow_nil w _ 24 1) oa m c us hx hno (by rw [hv.1, hl]) hv.2.1 hv.2.2.2 (by unfold maxLen; omega) (by omega) (Nat.le_refl _) ?_
  intro v' w' hown hgrow
  rw [Nat.zero_add, List.nil_append] at hown
  have hg : Gr w w' := Gr.append (Gr.refl w) hgrow (fun _ h => by cases h)
  exact h v' w' us hown hg fun i hi => ⟨Bs.grown (hv.2.2.1 i (by omega)) hg, (hv.2.2.1 i (by omega)).rb w'⟩
theorem New.under {w w1 w2 : World} {v : Value} {l : List Int} (hg : Gr w w1) (h : New w1 w2 v l) : New w w2 v l := by
  obtain ⟨h1, h2, h3⟩ := h
  refine ⟨Gr.trans hg h1, h2, ?_⟩
  rcases h3 with h3 | ⟨g, c, cur, e1, e2, e3⟩
  · exact .inl h3
  · exact .inr ⟨g, c, cur, e1, Nat.le_trans hg.size e2, e3⟩
theorem zeroB (m : Nat) : Builtin.zeroCells (Value.int .u8 0).cells m = (List.replicate m (Value.int .u8 0)).toArray := by
  apply Array.ext
  · simp [Builtin.zeroCells, Value.cells]
  intro i h1 h2
  simp [Builtin.zeroCells, Value.cells, Nat.mod_one]
/-- append(v, make([]byte, m)...), v bytes of one's own. -/
theorem run_append_zeros (w : World) (ty : TypeId) (base : Nat) (v : Value) (n : Nat) (l : List Int) (hown : w.ownsRow base 5 1 v n (l.map (Value.int .u8))) (m : Nat) (hm : n + m ≤ 1000000) (hbase : base ≤ w.heap.size) :
    ∃ v' w', (Builtin.append_ #[24, 3] ty #[v, .int .i64 m]).run Try.prog w = .ok v' w' ∧ w'.ownsRow base 5 1 v' (n + m) ((l ++ List.replicate m 0).map (Value.int .u8)) ∧ w.grownBy w' v.ownBlock := by
  obtain ⟨i, hi, hz, hs, hb⟩ := info_parts infoB
  have ht := Try.underlying24
  have htn := Try.underlying3
  have hlen : ((l ++ List.replicate m 0).map (Value.int .u8)).length = n + m := by
    have := hown.1
    rw [List.length_map] at this
    rw [List.length_map, List.length_append, List.length_replicate]
    omega
  have hmap : (l ++ List.replicate m 0).map (Value.int .u8) = l.map (Value.int .u8) ++ List.replicate m (.int .u8 0) := by rw [List.map_append, List.map_replicate]
  have hln : (l.map (Value.int .u8)).length = n := by have := hown.1; omega
  have grown : ∀ (old : Nat) (row : Option Nat),
      (w.drew.alloc (.cells ((l.map (Value.int .u8)).toArray ++ Builtin.zeroCells (Value.int .u8 0).cells m ++ Builtin.zeroCells (Value.int .u8 0).cells (grownCap w (n + m) old 5 - (n + m))) 5)).ownsRow base 5 1
        (.slice (some ⟨w.heap.size, 0, none⟩) (n + m) (grownCap w (n + m) old 5)) (n + m) ((l ++ List.replicate m 0).map (Value.int .u8)) ∧
      w.grownBy (w.drew.alloc (.cells ((l.map (Value.int .u8)).toArray ++ Builtin.zeroCells (Value.int .u8 0).cells m ++ Builtin.zeroCells (Value.int .u8 0).cells (grownCap w (n + m) old 5 - (n + m))) 5)) row := by
    intro old row
    have hge := grownCap_ge w (n + m) old 5
    have hcm : grownCap w (n + m) old 5 ≤ maxLen := grownCap_le_maxLen w (n + m) old 5 (by unfold maxLen; omega)
    rw [zeroB, zeroB]
    refine ⟨⟨by rw [hlen, Nat.mul_one], .inr ⟨w.heap.size, _, _, rfl, hbase, heap_alloc_new w.drew _, hge, hcm, ?_, ?_⟩⟩, ⟨rfl, rfl, rfl, by simp, fun k hk _ => heap_alloc_old w.drew _ hk⟩⟩
    · simp only [Array.size_append, List.size_toArray, List.length_replicate, hln]
      omega
    · rw [hmap]
      simp only [Array.toList_append]
      rw [List.take_left' (by rw [List.length_append, hln, List.length_replicate, Nat.mul_one])]
  by_cases hm0 : m = 0
  · subst hm0
    rw [List.replicate_zero, List.append_nil] at *
    have hw : IntKind.i64.wrap (0 : Int) = 0 := by rw [IntKind.wrap_i64]; omega
    obtain ⟨_, ⟨rfl, rfl⟩ | ⟨g, cap, cur, rfl, hbg, hg, hnc, hcm, hcs, htake⟩⟩ := id hown
    · exact ⟨.slice none 0 0, w, by simp [Builtin.append_, run_underlying ht, run_underlying htn, sizeOf, typeInfo, hi, asInt, asIntOf, hw], hown, ⟨rfl, rfl, rfl, Nat.le_refl _, fun _ _ _ => rfl⟩⟩
    · exact ⟨_, w, by simp [Builtin.append_, run_underlying ht, run_underlying htn, sizeOf, typeInfo, hi, asInt, asIntOf, hw, hnc, storeCells], hown, ⟨rfl, rfl, rfl, Nat.le_refl _, fun _ _ _ => rfl⟩⟩
  · obtain ⟨_, ⟨rfl, rfl⟩ | ⟨g, cap, cur, rfl, hbg, hg, hnc, hcm, hcs, htake⟩⟩ := id hown
    · have hl0 : l = [] := by
        rw [List.length_map] at hln
        exact List.eq_nil_of_length_eq_zero hln
      subst hl0
      have hr := Lib.run_append_nil_zeros (P := Try.prog) w 24 3 ty 5 i _ .i64 .i64 ht htn hi hz m (by omega) (by rw [hs]; omega) (by omega) (by rw [hb]; omega)
      have hgr := grown 0 (Value.ownBlock (.slice none 0 0))
      simp only [Nat.zero_add, List.map_nil, Array.empty_append] at hgr ⊢
      exact ⟨_, _, hr, hgr.1, hgr.2⟩
    · by_cases hroom : n + m ≤ cap
      · have hw : IntKind.i64.wrap (m : Int) = m := by rw [IntKind.wrap_i64]; omega
        have hst := run_storeCells_at Try.prog g n 5 (List.replicate m (Value.int .u8 0)) 0 cur w hg (by rw [List.length_replicate]; omega) (by intro u hu; rw [(List.mem_replicate.1 hu).2]; rfl)
        simp only [Nat.add_zero] at hst
        have hneg : ¬ ((m : Int) < 0) := by omega
        have h48i : ¬ (281474976710656 < (m : Int)) := by omega
        refine ⟨.slice (some ⟨g, 0, none⟩) (n + m) cap, w.setRow g (cur.toList.take n ++ List.replicate m (Value.int .u8 0) ++ cur.toList.drop (n + m)).toArray, ?_, ?_, ?_⟩
        · simp [Builtin.append_, run_underlying ht, run_underlying htn, sizeOf, typeInfo, zeroValue, hi, hz, hs, hb, asInt, asIntOf, hw, hneg, h48i, hm0, hroom, Addr.add_lit, zeroB, hst]
        · refine ⟨by rw [hlen, Nat.mul_one], .inr ⟨g, cap, _, rfl, hbg, setRow_heap w g cur _ 5 _ hg, hroom, hcm, ?_, ?_⟩⟩
          · simp only [List.size_toArray, List.length_append, List.length_take, List.length_drop, Array.length_toList, List.length_replicate]
            omega
          · rw [hmap]
            simp only [List.append_assoc]
            rw [Nat.mul_one] at htake
            rw [htake, ← List.append_assoc, List.take_left' (by rw [List.length_append, hln, List.length_replicate, Nat.mul_one])]
        · exact ⟨rfl, rfl, rfl, by simp, fun k _ hk => setRow_other w g k _ (fun e => hk (by simp [Value.ownBlock, e]))⟩
      · have holds : ∀ j u, (l.map (Value.int .u8))[j]? = some u → w.cell? ((⟨g, 0, none⟩ : Addr).add j) = some u := hown.cells (g := g) rfl
        have hf := run_firstCells_some (P := Try.prog) w.drew i.size n ⟨g, 0, none⟩ n cap (l.map (Value.int .u8)) (by rw [hs, hln, Nat.mul_one]) (by simpa using holds)
        have hr := Lib.run_append_grow_zeros (P := Try.prog) w 24 3 ty 5 i _ .i64 .i64 ht htn hi hz (some ⟨g, 0, none⟩) n cap _ hf m (by omega) (by rw [hs]; omega) (by omega) (by omega) (by rw [hb]; omega) (by rw [hb]; exact growslice_fits (by omega) (by omega))
        have hgr := grown cap (Value.ownBlock (.slice (some ⟨g, 0, none⟩) n cap))
        exact ⟨_, _, hr, hgr.1, hgr.2⟩
theorem want_append_bytes {w : World} {ops : Array Oper} {rest : List Oper} {o : Oper} {a : Act} {Q : Exit → Act → World → Prop} (hw : Region.wanted o (yielded ops a.tmps) = true) (s x : Operand)
    (ho : o.op = .call { callee := .builtin .append, args := #[s, x], argTypes := #[24, 24] }) (base : Nat) (v : Value) (n : Nat) (l : List Int) (hs : a.eval s = v) (hown : w.ownsRow base 5 1 v n (l.map (Value.int .u8)))
    (oa : Option Addr) (m c : Nat) (l' : List Int) (hx : a.eval x = .slice oa m c) (hL : Bs w (.slice oa m c) l') (hm : n + m ≤ 1000000) (hbase : base ≤ w.heap.size)
    (h : ∀ v' w', w'.ownsRow base 5 1 v' (n + m) ((l ++ l').map (Value.int .u8)) → w.grownBy w' v.ownBlock → wpList Try.prog ops Q rest (a.put o.dst v') w') : wpList Try.prog ops Q (o :: rest) a w := by
  obtain ⟨i5, hi0, hz0, hz1, hz2⟩ := info_parts infoB
  obtain ⟨p1, p2, p3, p4, p5⟩ := hL.parts
  refine wpList_step fun K hK => ?_
  rw [if_pos hw]
  refine wp_append_in s x 24 ho base 5 i5 _ 1 Try.underlying24 hi0 hz0 hz1 hz2 rfl v n _ hs hown oa m c (l'.map (Value.int .u8)) hx p4 (by rw [List.length_map]; exact p1) p5 (ints_oneCell _ _) (by unfold maxLen; omega) (by omega) hbase ?_
  intro v' w' h1 h2
  exact hK _ _ (h v' w' (by rw [List.map_append]; exact h1) h2)
theorem want_append_zeros {w : World} {ops : Array Oper} {rest : List Oper} {o : Oper} {a : Act} {Q : Exit → Act → World → Prop} (hw : Region.wanted o (yielded ops a.tmps) = true) (s x : Operand)
    (ho : o.op = .call { callee := .builtin .append, args := #[s, x], argTypes := #[24, 3] }) (base : Nat) (v : Value) (n : Nat) (l : List Int) (hs : a.eval s = v) (hown : w.ownsRow base 5 1 v n (l.map (Value.int .u8)))
    (m : Nat) (hx : a.eval x = .int .i64 m) (hm : n + m ≤ 1000000) (hbase : base ≤ w.heap.size)
    (h : ∀ v' w', w'.ownsRow base 5 1 v' (n + m) ((l ++ List.replicate m 0).map (Value.int .u8)) → w.grownBy w' v.ownBlock → wpList Try.prog ops Q rest (a.put o.dst v') w') : wpList Try.prog ops Q (o :: rest) a w := by
  refine wpList_step fun K hK => ?_
  rw [if_pos hw]
  obtain ⟨v', w', hr, h2, h3⟩ := run_append_zeros w o.type base v n l hown m hm hbase
  unfold Oper.wp execOp
  simp only [ho, resolve, invoke, builtin, Sem.run_bind, Sem.run_pure, Result.andThen_ok, List.map_toArray, List.map_cons, List.map_nil, hs, hx, hr]
  exact hK _ _ (h v' w' h2 h3)
end Go.Proofs.Ytjibmgdafpempaa
namespace Go.Proofs.Ytjibmgdafpempaa
open Go.RowKit

/-- Rows in a block of one's own. -/
structure Rx (base : Nat) (W : World) (g n c k : Nat) (Lm : List (List Int)) (us : List Value) : Prop where
  own : W.ownsRow base 24 1 (.slice (some ⟨g, 0, none⟩) n c) n us
  row : ∀ i, i < n → Bs W (us.getD i undef) (Lm.getD i []) ∧ Rb base W (us.getD i undef)
  len : Lm.length = n
  wide : Wide k Lm
section
variable {base : Nat} {w0 W : World} {g n c k : Nat} {A Lm : List (List Int)} {us : List Value} {ps : List Nat} {col : Nat}
theorem Rx.cell (h : Rx base W g n c k Lm us) (i : Nat) (hi : i < n) :
    ∃ oi ci, us.getD i undef = .slice oi k ci ∧ W.cell? ⟨g, i, none⟩ = some (.slice oi k ci) ∧ ∀ j, j < k → ∃ a, oi = some a ∧ W.cell? (a.add j) = some (.int .u8 ((Lm.getD i []).getD j 0)) := by
  obtain ⟨g', c', he, _, _, _, _, hc⟩ := ownsRow_cell h.own (by omega)
  cases he
  have hb := (h.row i hi).1
  have hw := (h.wide.at i (by rw [h.len]; exact hi)).1
  obtain ⟨_, oi, ci, e, h1, _, h3, h4⟩ := hb
  rw [hw] at e h1 h4
  refine ⟨oi, ci, e, by rw [hc i hi, e], fun j hj => ?_⟩
  cases oi with
  | none => exact absurd (h3 rfl) (by omega)
  | some a => exact ⟨a, rfl, h4 a rfl j hj⟩
theorem Rx.frozen (h : Rx base W g n c k Lm us) (i : Nat) : W.frozen? ⟨g, i, none⟩ = false := by
  obtain ⟨_, ⟨he, _⟩ | ⟨g', c', cur, he, _, hg, _⟩⟩ := h.own
  · cases he
  · cases he
    exact frozen_of_row W g i _ _ hg
theorem Rx.low (h : Rx base W g n c k Lm us) : base ≤ g := (ownsRow_not_bytes h.own g rfl).1
theorem Rx.grow {W' : World} (h : Rx base W g n c k Lm us) (hg : Gr W W') : Rx base W' g n c k Lm us :=
  ⟨h.own.of_gr hg, fun i hi => Rb.gr (h.row i hi).1 (h.row i hi).2 hg, h.len, h.wide⟩
theorem Rx.put {u : Value} {l : List Int} (h : Rx base W g n c k Lm us) (i : Nat) (hi : i < n) (hb : Bs W u l) (hrb : Rb base W u) (hl : l.length = k) : Rx base (W.setCell ⟨g, i, none⟩ u) g n c k (Lm.set i l) (us.set i u) := by
  obtain ⟨h1, h2⟩ := Rws.set h.own h.len h.row i hi hb hrb
  exact ⟨h1, h2, by rw [List.length_set]; exact h.len, h.wide.set i hl hb.1⟩
theorem ownsRow_far {v : Value} {e : TypeId} {size m g' i : Nat} {u : Value} {xs : List Value} (h : W.ownsRow base e size v m xs) (hne : v.ownBlock ≠ some g') : (W.setCell ⟨g', i, none⟩ u).ownsRow base e size v m xs := by
  obtain ⟨h0, h1 | ⟨g, c, cur, rfl, hb, hg, h2⟩⟩ := h
  · exact ⟨h0, .inl h1⟩
  · refine ⟨h0, .inr ⟨g, c, cur, rfl, hb, ?_, h2⟩⟩
    rw [heap_setCell_other _ _ _ _ (fun e => hne (by subst e; rfl))]
    exact hg
/-- A store into another block of rows. -/
theorem row_far {g' i : Nat} {u v : Value} {l : List Int} (hb : Bs W v l) (hr : Rb base W v) (hrow : ∀ q, some g' = some q → base ≤ q ∧ ∀ cur, W.heap[q]? ≠ some (.cells cur 5 (0, 0))) : Bs (W.setCell ⟨g', i, none⟩ u) v l ∧ Rb base (W.setCell ⟨g', i, none⟩ u) v :=
  Rb.kept hb hr (row := some g') (fun j _ hne => heap_setCell_other _ _ _ _ (fun e => hne (by rw [e]))) hrow
theorem Rx.far {g' i : Nat} {u : Value} (h : Rx base W g n c k Lm us) (hne : g ≠ g') (hrow : ∀ q, some g' = some q → base ≤ q ∧ ∀ cur, W.heap[q]? ≠ some (.cells cur 5 (0, 0))) : Rx base (W.setCell ⟨g', i, none⟩ u) g n c k Lm us :=
  ⟨ownsRow_far h.own (fun e => hne (by cases e; rfl)), fun j hj => row_far (h.row j hj).1 (h.row j hj).2 hrow, h.len, h.wide⟩
theorem Mx.rx (h : Mx w0 W g n c k A Lm ps col us) : Rx w0.heap.size W g n c k Lm us := ⟨h.own, h.row, h.len, h.wide⟩
theorem Rx.mx (h : Rx w0.heap.size W g n c k Lm us) (he : L.Ech (A.map vec) (Lm.map vec) ps col) (hg : Gr w0 W) : Mx w0 W g n c k A Lm ps col us := ⟨h.own, h.row, h.len, h.wide, he, hg⟩
theorem Rx.blk (h : Rx base W g n c k Lm us) : ∀ q, some g = some q → base ≤ q ∧ ∀ cur, W.heap[q]? ≠ some (.cells cur 5 (0, 0)) := fun q e => by
  cases e
  exact ownsRow_not_bytes h.own g rfl
theorem Rx.some_cell (h : Rx base W g n c k Lm us) (i j : Nat) (u : Value) (hj : j < n) : ∃ y, (W.setCell ⟨g, i, none⟩ u).cell? ⟨g, j, none⟩ = some y := by
  obtain ⟨_, ⟨he, _⟩ | ⟨g', c', cur, he, _, hg, hh1, hh2, hh3, _⟩⟩ := h.own
  · cases he
  · cases he
    have h2 := heap_setCell_same W g i cur _ u hg
    rw [cell_of_row _ g j _ _ _ h2]
    have : j < (cur.setIfInBounds i u).size := by simp; omega
    exact ⟨_, by rw [Array.getElem?_eq_getElem this]⟩
end

/-- Since w0: X and Y are what A and B have become, alike. -/
structure Pr (w0 W : World) (gx cx gy cy n k m : Nat) (A B X Y : List (List Int)) (col : Nat) (us vs : List Value) : Prop where
  x : Rx w0.heap.size W gx n cx k X us
  y : Rx w0.heap.size W gy n cy m Y vs
  ne : gx ≠ gy
  gr : Gr w0 W
  ech : L.Ech (A.map vec) (X.map vec) (List.range col) col
  sat : ∀ M, L.Sat (X.map vec) (Y.map vec) M ↔ L.Sat (A.map vec) (B.map vec) M
section
variable {w0 W : World} {gx cx gy cy n k m : Nat} {A B X Y : List (List Int)} {col : Nat} {us vs : List Value}
theorem Pr.grow {W' : World} (h : Pr w0 W gx cx gy cy n k m A B X Y col us vs) (hg : Gr W W') : Pr w0 W' gx cx gy cy n k m A B X Y col us vs :=
  ⟨h.x.grow hg, h.y.grow hg, h.ne, Gr.trans h.gr hg, h.ech, h.sat⟩
theorem map_swap (X : List (List Int)) (a d : Nat) : ((X.set a (X.getD d [])).set d (X.getD a [])).map vec = ((X.map vec).set a (L.rowAt (X.map vec) d)).set d (L.rowAt (X.map vec) a) := by
  rw [List.map_set, List.map_set, rowAt_vec, rowAt_vec]
/-- Four stores: in both, two rows change places. -/
theorem Pr.swap (h : Pr w0 W gx cx gy cy n k m A B X Y col us vs) (a d : Nat) (ha : col ≤ a) (ha2 : a < n) (hd : col ≤ d) (hd2 : d < n) :
    Pr w0 ((((W.setCell ⟨gx, a, none⟩ (us.getD d undef)).setCell ⟨gx, d, none⟩ (us.getD a undef)).setCell ⟨gy, a, none⟩ (vs.getD d undef)).setCell ⟨gy, d, none⟩ (vs.getD a undef)) gx cx gy cy n k m A B
      ((X.set a (X.getD d [])).set d (X.getD a [])) ((Y.set a (Y.getD d [])).set d (Y.getD a [])) col ((us.set a (us.getD d undef)).set d (us.getD a undef)) ((vs.set a (vs.getD d undef)).set d (vs.getD a undef)) := by
  have hr : (List.range col).length = col := by simp
  have m1 := Mx.swap (h.x.mx h.ech h.gr) a d (by rw [hr]; exact ha) ha2 (by rw [hr]; exact hd) hd2
  have far1 : Rx w0.heap.size (W.setCell ⟨gx, a, none⟩ (us.getD d undef)) gx n cx k (X.set a (X.getD d [])) (us.set a (us.getD d undef)) :=
    h.x.put a ha2 (h.x.row d hd2).1 (h.x.row d hd2).2 (h.x.wide.at d (by rw [h.x.len]; exact hd2)).1
  have y2 := (h.y.far (i := a) (u := us.getD d undef) h.ne.symm h.x.blk).far (i := d) (u := us.getD a undef) h.ne.symm far1.blk
  have y3 := y2.put a ha2 (y2.row d hd2).1 (y2.row d hd2).2 (y2.wide.at d (by rw [y2.len]; exact hd2)).1
  have va := row_far (i := a) (u := vs.getD d undef) (y2.row a ha2).1 (y2.row a ha2).2 y2.blk
  have y4 := y3.put d hd2 va.1 va.2 (y2.wide.at a (by rw [y2.len]; exact ha2)).1
  have x3 := m1.rx.far (i := a) (u := vs.getD d undef) h.ne y2.blk
  have x4 := x3.far (i := d) (u := vs.getD a undef) h.ne y3.blk
  refine ⟨x4, y4, h.ne, Gr.setCell (Gr.setCell m1.gr h.y.low _) h.y.low _, m1.ech, fun M => ?_⟩
  rw [map_swap, map_swap, L.Sat.swap (by simp [h.x.len, h.y.len]) (by simp [h.x.len, ha2]) (by simp [h.x.len, hd2])]
  exact h.sat M
/-- Two stores: a row of each, times something. -/
theorem Pr.scaled {u v : Value} {z : Int} (h : Pr w0 W gx cx gy cy n k m A B X Y col us vs) (d : Nat) (hd : col ≤ d) (hd2 : d < n) (hz : Byt z) (hz0 : z ≠ 0)
    (hb : Bs W u (scaleL z (X.getD d []))) (hrb : Rb w0.heap.size W u) (hb' : Bs W v (scaleL z (Y.getD d []))) (hrb' : Rb w0.heap.size W v) :
    Pr w0 ((W.setCell ⟨gx, d, none⟩ u).setCell ⟨gy, d, none⟩ v) gx cx gy cy n k m A B (X.set d (scaleL z (X.getD d []))) (Y.set d (scaleL z (Y.getD d []))) col (us.set d u) (vs.set d v) := by
  have hr : (List.range col).length = col := by simp
  have m1 := Mx.scaled (h.x.mx h.ech h.gr) d (by rw [hr]; exact hd) hd2 hz hz0 hb hrb
  have y2 := h.y.far (i := d) (u := u) h.ne.symm h.x.blk
  have v2 := row_far (i := d) (u := u) hb' hrb' h.x.blk
  have wd := h.y.wide.at d (by rw [h.y.len]; exact hd2)
  have wx := h.x.wide.at d (by rw [h.x.len]; exact hd2)
  have y3 := y2.put d hd2 v2.1 v2.2 (by rw [scaleL_length]; exact wd.1)
  refine ⟨m1.rx.far h.ne y2.blk, y3, h.ne, Gr.setCell m1.gr h.y.low _, m1.ech, fun M => ?_⟩
  rw [List.map_set, List.map_set, vec_scale hz wx.2, vec_scale hz wd.2, ← rowAt_vec, ← rowAt_vec, L.Sat.scale (by simp [h.x.len, h.y.len]) (by simp [h.x.len, hd2]) (fb_ne hz hz0)]
  exact h.sat M
/-- Two stores: a row of each, plus another one times something. -/
theorem Pr.added {u v : Value} {z : Int} (h : Pr w0 W gx cx gy cy n k m A B X Y col us vs) (i d : Nat) (hd : col ≤ d) (hd2 : d < n) (hi : i < n) (hne : i ≠ d) (hz : Byt z)
    (hb : Bs W u (axL z (X.getD d []) (X.getD i []))) (hrb : Rb w0.heap.size W u) (hb' : Bs W v (axL z (Y.getD d []) (Y.getD i []))) (hrb' : Rb w0.heap.size W v) :
    Pr w0 ((W.setCell ⟨gx, i, none⟩ u).setCell ⟨gy, i, none⟩ v) gx cx gy cy n k m A B (X.set i (axL z (X.getD d []) (X.getD i []))) (Y.set i (axL z (Y.getD d []) (Y.getD i []))) col (us.set i u) (vs.set i v) := by
  have hr : (List.range col).length = col := by simp
  have m1 := Mx.added (h.x.mx h.ech h.gr) i d (by rw [hr]; exact hd) hd2 hi hne hz hb hrb
  have y2 := h.y.far (i := i) (u := u) h.ne.symm h.x.blk
  have v2 := row_far (i := i) (u := u) hb' hrb' h.x.blk
  have wd := h.y.wide.at d (by rw [h.y.len]; exact hd2)
  have wi := h.y.wide.at i (by rw [h.y.len]; exact hi)
  have xd := h.x.wide.at d (by rw [h.x.len]; exact hd2)
  have xi := h.x.wide.at i (by rw [h.x.len]; exact hi)
  have y3 := y2.put i hi v2.1 v2.2 (by rw [axL_length]; exact wd.1)
  refine ⟨m1.rx.far h.ne y2.blk, y3, h.ne, Gr.setCell m1.gr h.y.low _, m1.ech, fun M => ?_⟩
  rw [List.map_set, List.map_set, vec_ax hz xd.2 xi.2 (by rw [xd.1, xi.1]), vec_ax hz wd.2 wi.2 (by rw [wd.1, wi.1]), ← rowAt_vec, ← rowAt_vec, ← rowAt_vec, ← rowAt_vec,
    L.Sat.add (by simp [h.x.len, h.y.len]) (by simp [h.x.len, hd2]) (by simp [h.x.len, hi]) hne]
  exact h.sat M
/-- The next column is found. -/
theorem Pr.next (h : Pr w0 W gx cx gy cy n k m A B X Y col us vs) (hc : col < n) (h1 : (X.getD col []).getD col 0 = 1) (h0 : ∀ s, s < n → s ≠ col → (X.getD s []).getD col 0 = 0) : Pr w0 W gx cx gy cy n k m A B X Y (col + 1) us vs := by
  have hr : (List.range col).length = col := by simp
  refine ⟨h.x, h.y, h.ne, h.gr, ?_, h.sat⟩
  rw [List.range_succ]
  refine h.ech.next (by rw [hr, List.length_map, h.x.len]; exact hc) (by rw [at_vec, hr, h1, fb_one]) fun s hs => ?_
  rw [hr] at hs
  rw [at_vec]
  by_cases e : s < n
  · rw [h0 s e hs, fb_zero]
  · have hnil : X.getD s [] = [] := by
      rw [List.getD_eq_getElem?_getD, List.getElem?_eq_none (by rw [h.x.len]; omega)]
      rfl
    rw [hnil]
    rfl
theorem Pr.start (hx : Rx w0.heap.size W gx n cx k A us) (hy : Rx w0.heap.size W gy n cy m B vs) (hne : gx ≠ gy) (hg : Gr w0 W) : Pr w0 W gx cx gy cy n k m A B A B 0 us vs :=
  ⟨hx, hy, hne, hg, L.Ech.start _, fun _ => Iff.rfl⟩
/-- As long as not all are found there is one that begins there. -/
theorem Pr.pivot {rkZ : Nat} (h : Pr w0 W gx cx gy cy n k m A B X Y col us vs) (hA : Wide k A) (hr : rkZ = k) (he : rkZ = L.rk (A.map vec)) (hc : col < k) : ∃ s, col ≤ s ∧ s < n ∧ (X.getD s []).getD col 0 ≠ 0 := by
  obtain ⟨s, h1, h2, h3⟩ := h.ech.pivot hA.supp (by rw [← he, hr]) hc
  refine ⟨s, h1, by rw [List.length_map, h.x.len] at h2; exact h2, fun e => h3 ?_⟩
  rw [at_vec, e, fb_zero]
end
theorem add_nought (a : Addr) : a.add 0 = a := by
  unfold Addr.add
  split <;> simp_all
/-- Through an append to another row. -/
theorem ownsRow_through {base : Nat} {w w' : World} {e : TypeId} {size : Nat} {v : Value} {n : Nat} {xs : List Value} {row : Option Nat} (h : w.ownsRow base e size v n xs) (hg : w.grownBy w' row) (hne : v.ownBlock = none ∨ v.ownBlock ≠ row) : w'.ownsRow base e size v n xs := by
  obtain ⟨h0, h1 | ⟨g, c, cur, rfl, hb, hgg, h2⟩⟩ := h
  · exact ⟨h0, .inl h1⟩
  · refine ⟨h0, .inr ⟨g, c, cur, rfl, hb, ?_, h2⟩⟩
    rw [hg.block g (Array.getElem?_eq_some_iff.1 hgg).1 (fun e => by
      rcases hne with hne | hne
      · cases hne
      · exact hne e)]
    exact hgg
theorem ownsRow_lt {base : Nat} {w : World} {e : TypeId} {size : Nat} {v : Value} {n : Nat} {xs : List Value} (h : w.ownsRow base e size v n xs) : ∀ g, v.ownBlock = some g → g < w.heap.size := by
  intro g hg
  obtain ⟨_, ⟨rfl, _⟩ | ⟨g', c, cur, rfl, _, hgg, _⟩⟩ := h
  · cases hg
  · cases hg
    exact (Array.getElem?_eq_some_iff.1 hgg).1
theorem Rws.through {base : Nat} {w w' : World} {v : Value} {L : List (List Int)} {row : Option Nat} (h : Rws base w v L) (hg : w.grownBy w' row) (hne : v.ownBlock = none ∨ v.ownBlock ≠ row)
    (hrow : ∀ g, row = some g → base ≤ g ∧ ∀ cur, w.heap[g]? ≠ some (.cells cur 5 (0, 0))) : Rws base w' v L := by
  obtain ⟨us, ho, hr⟩ := h
  exact ⟨us, ownsRow_through ho hg hne, fun i hi => Rb.kept (hr i hi).1 (hr i hi).2 hg.block hrow⟩
theorem Rws.gr {base : Nat} {w w' : World} {v : Value} {L : List (List Int)} (h : Rws base w v L) (hg : Gr w w') : Rws base w' v L := by
  obtain ⟨us, ho, hr⟩ := h
  exact ⟨us, ho.of_gr hg, fun i hi => Rb.gr (hr i hi).1 (hr i hi).2 hg⟩
theorem Tri.of {w W : World} {a b : Addr} {u v : Value} (p1 : w.cell? a = some u) (p2 : w.cell? b = some v) (g : Gr w W) : W.cell? a = some u ∧ W.cell? b = some v ∧ Hid (Gr w W) := ⟨cell_grown g p1, cell_grown g p2, Lib.hid g⟩
/-- Two slices of rows lie apart. -/
def Apart2 (x y : Value) : Prop := ∀ g, x.ownBlock = some g → y.ownBlock ≠ some g
theorem Apart2.ne {x y : Value} (h : Apart2 x y) : y.ownBlock = none ∨ y.ownBlock ≠ x.ownBlock := by
  cases hx : x.ownBlock with
  | none => cases hy : y.ownBlock with
    | none => exact .inl rfl
    | some g => exact .inr (by simp)
  | some g => exact .inr (h g hx)
end Go.Proofs.Ytjibmgdafpempaa
namespace Go.Proofs.Ytjibmgdafpempaa
open Go.RowKit

/-- append of one row onto rows of one's own, and what it leaves of other rows. -/
theorem wpList_append_rowA {w : World} {ops : Array Oper} {rest : List Oper} {o : Oper} {a : Act} {Q : Exit → Act → World → Prop} (hgd : o.guard = none) (s x : Operand)
    (ho : o.op = .call { callee := .builtin .append, args := #[s, x], argTypes := #[30, 30] }) (base : Nat) (v : Value) (L : List (List Int)) (hs : a.eval s = v) (hR : Rws base w v L)
    (g : Nat) (u : Value) (l : List Int) (hx : a.eval x = .slice (some ⟨g, 0, none⟩) 1 1) (hc : w.cell? ⟨g, 0, none⟩ = some u) (hb : Bs w u l) (hrb : Rb base w u) (hm : L.length ≤ 100000) (hbase : base ≤ w.heap.size)
    (h : ∀ v' w', Rws base w' v' (L ++ [l]) → (∀ w0, Gr w0 w → w0.heap.size ≤ base → Gr w0 w') → Ke 24 w w' → (∀ v2 L2, Rws base w v2 L2 → Apart2 v v2 → Rws base w' v2 L2 ∧ Apart2 v' v2) → wpList Try.prog ops Q rest (a.put o.dst v') w') : wpList Try.prog ops Q (o :: rest) a w := by
  obtain ⟨i0, hi0, hz0, hz1, hz2⟩ := info_parts info22
  obtain ⟨us, hown, hr⟩ := hR
  obtain ⟨ou, cu, hf⟩ := hb.form
  refine wpList_append_lies w hgd s x 30 ho base 24 i0 _ 1 24 Try.underlying30 hi0 hz0 hz1 hz2 rfl (by omega) v L.length us hs hown ⟨g, 0, none⟩ 1 1 [u] hx rfl (fun j y hj => by
    cases j with
    | zero =>
      obtain rfl : u = y := by simpa using hj
      exact hc
    | succ j => simp at hj) (by intro y hy; obtain rfl : y = u := by simpa using hy
                                rw [hf]; rfl) (by omega) (by unfold maxLen; omega) (by omega) hbase _ rfl ?_
  intro gg cap w' h1 h2 h3 _
  refine h _ w' (Rws.append hown hr hb hrb h1 h2) (fun w0 hg hb => gr_by_own hg h2 hown hb) (Ke.of_own hown h2) fun v2 L2 hR2 hap => ⟨hR2.through h2 hap.ne (ownsRow_not_bytes hown), fun q e1 e2 => ?_⟩
  have e1' : q = gg := by simpa [Value.ownBlock] using e1.symm
  subst e1'
  rcases h3 with h3 | h3
  · exact hap q h3 e2
  · obtain ⟨us2, ho2, _⟩ := hR2
    have := ownsRow_lt ho2 q e2
    omega
theorem sum_back {x y : List Int} (hl : x.length = y.length) : (lst y.length fun i => addZ (y.getD i 0) (x.getD i 0)) = sumL x y := by
  unfold sumL
  rw [hl]
  exact lst_congr _ _ _ fun i _ => addZ_comm _ _
theorem addL_length {S : Nat} {M : List (List Int)} (hM : Wide S M) : ∀ A : List Int, (∀ x ∈ A, 0 ≤ x ∧ x < (M.length : Int)) → (addL S M A).length = S := fun A => by
  suffices ∀ s : List Int, s.length = S → (∀ x ∈ A, 0 ≤ x ∧ x < (M.length : Int)) → (A.foldl (fun s i => sumL (M.getD i.toNat []) s) s).length = S from this _ (by simp)
  induction A with
  | nil => intro s hs _; exact hs
  | cons a A ih =>
    intro s _ hA
    have ha := hA a (by simp)
    rw [List.foldl_cons]
    exact ih _ (by rw [sumL_length]; exact (hM.at a.toNat (by omega)).1) fun x hx => hA x (by simp [hx])
theorem Bss.len3 {w : World} {o : Option Addr} {m c : Nat} {L : List (List Int)} (h : Bss w (.slice o m c) L) : m = L.length := by
  obtain ⟨oa, ca, he, _⟩ := h
  simp at he
  exact he.2.1
end Go.Proofs.Ytjibmgdafpempaa
