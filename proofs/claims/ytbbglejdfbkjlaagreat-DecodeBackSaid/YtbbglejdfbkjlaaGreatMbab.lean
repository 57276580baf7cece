/-
  Texts laid behind one another: Aq Yj Td Tl Ch Cw Ci St Sl Sp Rv Rw Rk Rl Cp Ss So Ev My Cs.
-/
import Derived.Test.YtbbglejdfbkjlaaGreatMbaa
import Derived.Laws.AppendOwnNone
import Derived.Deep.AppendLies
import Derived.Deep.DeepCutAuto
import Derived.OpenShut
import Derived.Laws.CopyOwn
import Derived.Deep.RegionHeld3
import Derived.Deep.QuietTactic
import Derived.BigQuiet
namespace Go.Proofs.YtbbglejdfbkjlaaGreat
open Go.RowKit
theorem Addr.add_add' (a : Addr) (m n : Nat) : (a.add m).add n = a.add (m + n) := by
 unfold Addr.add
 by_cases h1 : m = 0
 ·subst h1
  simp
 ·by_cases h2 : n = 0
  ·subst h2
   simp
  ·simp [h1, h2]
   omega
theorem _root_.Go.World.ownsRow.of_gr {w w' : World} {base : Nat} {e : TypeId} {size : Nat} {v : Value} {n : Nat} {xs : List Value} (h : w.ownsRow base e size v n xs) (hg : Gr w w') : w'.ownsRow base e size v n xs := by
 obtain ⟨h0, h1 | ⟨g, c, cur, rfl, hb, hgg, h2⟩⟩ := h
 ·exact ⟨h0, .inl h1⟩
 ·exact ⟨h0, .inr ⟨g, c, cur, rfl, hb, keptRow hg hgg, h2⟩⟩
theorem ownsRow_base {w : World} {base : Nat} {e : TypeId} {size : Nat} {v : Value} {n : Nat} {us : List Value} (h : w.ownsRow base e size v n us) : ∀ g, v.ownBlock = some g → base ≤ g := by
 intro g hg
 obtain ⟨_, ⟨rfl, _⟩ | ⟨g', c, cur, rfl, hb, _⟩⟩ := h
 ·simp [Value.ownBlock] at hg
 ·simp [Value.ownBlock] at hg
  omega
theorem run_append_in {P : Program} {w : World} (base : Nat) (t ty e : TypeId) (i : TypeInfo) (z : Value) (bytes : Nat) (ht : P.underlying t = some (.slice e)) (hi : P.info? e = some i) (hz : i.zero = some z)
  (hsize : i.size = 1) (hby : i.bytes = bytes) (hzs : z.cells.size = 1) (v : Value) (n : Nat) (xs : List Value) (hown : w.ownsRow base e 1 v n xs)
  (oa : Option Addr) (m c : Nat) (news : List Value) (hno : oa = none → m = 0 ∧ c = 0) (hl : news.length = m) (hnews : ∀ ad, oa = some ad → ∀ j u, news[j]? = some u → w.cell? (ad.add j) = some u) (h1 : ∀ u ∈ news, u.oneCell' = true)
  (h63 : n + m ≤ maxLen) (hbytes : (n + m) * bytes ≤ 140737488355328) (hbase : base ≤ w.heap.size) :
  ∃ v' w', (Builtin.append_ #[t, t] ty #[v, .slice oa m c]).run P w = .ok v' w' ∧ w'.ownsRow base e 1 v' (n + m) (xs ++ news) ∧ w.grownBy w' v.ownBlock := by
 cases oa with
 | none =>
  obtain ⟨rfl, rfl⟩ := hno rfl
  obtain rfl : news = [] := List.eq_nil_of_length_eq_zero hl
  refine ⟨v, w, run_append_owned_none (P := P) (w := w) base t ty e i 1 ht hi v n xs hown, by rw [List.append_nil]; exact hown, ⟨rfl, rfl, rfl, Nat.le_refl _, fun _ _ _ => rfl⟩⟩
 | some ad =>
  obtain ⟨v', w', hr, h2, h3, _⟩ := run_append_own (P := P) w base t ty e i z 1 bytes ht hi hz hsize hby hzs (by omega) v n xs hown ad m c news (by omega) (hnews ad rfl) h1 h63 hbytes hbase
  exact ⟨v', w', hr, h2, h3⟩
theorem wp_append_in {P : Program} {w : World} {o : Oper} {a : Act} {K : Act → World → Prop} {Q : Exit → Act → World → Prop} (s x : Operand) (t : TypeId)
  (ho : o.op = .call { callee := .builtin .append, args := #[s, x], argTypes := #[t, t] })
  (base : Nat) (e : TypeId) (i : TypeInfo) (z : Value) (bytes : Nat) (ht : P.underlying t = some (.slice e)) (hi : P.info? e = some i) (hz : i.zero = some z)
  (hsize : i.size = 1) (hby : i.bytes = bytes) (hzs : z.cells.size = 1) (v : Value) (n : Nat) (xs : List Value) (hs : a.eval s = v) (hown : w.ownsRow base e 1 v n xs)
  (oa : Option Addr) (m c : Nat) (news : List Value) (hx : a.eval x = .slice oa m c) (hno : oa = none → m = 0 ∧ c = 0) (hl : news.length = m) (hnews : ∀ ad, oa = some ad → ∀ j u, news[j]? = some u → w.cell? (ad.add j) = some u) (h1 : ∀ u ∈ news, u.oneCell' = true)
  (h63 : n + m ≤ maxLen) (hbytes : (n + m) * bytes ≤ 140737488355328) (hbase : base ≤ w.heap.size)
  (h : ∀ v' w', w'.ownsRow base e 1 v' (n + m) (xs ++ news) → w.grownBy w' v.ownBlock → K (a.put o.dst v') w') : o.wp P a w K Q := by
 obtain ⟨v', w', hr, h2, h3⟩ := run_append_in (P := P) (w := w) base t o.type e i z bytes ht hi hz hsize hby hzs v n xs hown oa m c news hno hl hnews h1 h63 hbytes hbase
 unfold Oper.wp execOp
 simp only [ho, resolve, invoke, builtin, Sem.run_bind, Sem.run_pure, Result.andThen_ok, List.map_toArray, List.map_cons, List.map_nil, hs, hx, hr]
 exact h v' w' h2 h3
theorem wpList_append_in {P : Program} {w : World} {ops : Array Oper} {rest : List Oper} {o : Oper} {a : Act} {Q : Exit → Act → World → Prop} (hgd : o.guard = none) (s x : Operand) (t : TypeId)
  (ho : o.op = .call { callee := .builtin .append, args := #[s, x], argTypes := #[t, t] })
  (base : Nat) (e : TypeId) (i : TypeInfo) (z : Value) (bytes : Nat) (ht : P.underlying t = some (.slice e)) (hi : P.info? e = some i) (hz : i.zero = some z)
  (hsize : i.size = 1) (hby : i.bytes = bytes) (hzs : z.cells.size = 1) (v : Value) (n : Nat) (xs : List Value) (hs : a.eval s = v) (hown : w.ownsRow base e 1 v n xs)
  (oa : Option Addr) (m c : Nat) (news : List Value) (hx : a.eval x = .slice oa m c) (hno : oa = none → m = 0 ∧ c = 0) (hl : news.length = m) (hnews : ∀ ad, oa = some ad → ∀ j u, news[j]? = some u → w.cell? (ad.add j) = some u) (h1 : ∀ u ∈ news, u.oneCell' = true)
  (h63 : n + m ≤ maxLen) (hbytes : (n + m) * bytes ≤ 140737488355328) (hbase : base ≤ w.heap.size)
  (h : ∀ v' w', w'.ownsRow base e 1 v' (n + m) (xs ++ news) → w.grownBy w' v.ownBlock → wpList P ops Q rest (a.put o.dst v') w') : wpList P ops Q (o :: rest) a w :=
 wpList_plain hgd fun _ hK => wp_append_in s x t ho base e i z bytes ht hi hz hsize hby hzs v n xs hs hown oa m c news hx hno hl hnews h1 h63 hbytes hbase fun v' w' h2 h3 => hK _ _ (h v' w' h2 h3)
theorem step_append_in {P : Program} {w : World} {ops : Array Oper} {o : Oper} {a : Act} {K : Act → World → Prop} {Q : Exit → Act → World → Prop} {E : Prop} (hgd : o.guard = none) (s x : Operand) (t : TypeId)
  (ho : o.op = .call { callee := .builtin .append, args := #[s, x], argTypes := #[t, t] })
  (base : Nat) (e : TypeId) (i : TypeInfo) (z : Value) (bytes : Nat) (ht : P.underlying t = some (.slice e)) (hi : P.info? e = some i) (hz : i.zero = some z)
  (hsize : i.size = 1) (hby : i.bytes = bytes) (hzs : z.cells.size = 1) (v : Value) (n : Nat) (xs : List Value) (hs : a.eval s = v) (hown : w.ownsRow base e 1 v n xs)
  (oa : Option Addr) (m c : Nat) (news : List Value) (hx : a.eval x = .slice oa m c) (hno : oa = none → m = 0 ∧ c = 0) (hl : news.length = m) (hnews : ∀ ad, oa = some ad → ∀ j u, news[j]? = some u → w.cell? (ad.add j) = some u) (h1 : ∀ u ∈ news, u.oneCell' = true)
  (h63 : n + m ≤ maxLen) (hbytes : (n + m) * bytes ≤ 140737488355328) (hbase : base ≤ w.heap.size)
  (h : ∀ v' w', w'.ownsRow base e 1 v' (n + m) (xs ++ news) → w.grownBy w' v.ownBlock → K (a.put o.dst v') w') :
  if Region.wanted o (yielded ops a.tmps) = true then Oper.wp P o a w K Q else E := by
 have hw : Region.wanted o (yielded ops a.tmps) = true := by simp [Region.wanted, hgd]
 rw [if_pos hw]
 exact wp_append_in s x t ho base e i z bytes ht hi hz hsize hby hzs v n xs hs hown oa m c news hx hno hl hnews h1 h63 hbytes hbase h
end Go.Proofs.YtbbglejdfbkjlaaGreat
namespace Go.Proofs.YtbbglejdfbkjlaaGreat
open Go.RowKit
theorem ints_cells {w : World} {o : Option Addr} {l : List Int} {n : Nat} (hl : l.length = n) (h : ∀ a, o = some a → ∀ i, i < n → w.cell? (a.add i) = some (.int .i64 (l.getD i 0))) :
  ∀ ad, o = some ad → ∀ i u, (l.map (Value.int .i64))[i]? = some u → w.cell? (ad.add i) = some u := by
 intro ad ha i u hu
 have hi : i < l.length := by
  have := (List.getElem?_eq_some_iff.1 hu).1
  rwa [List.length_map] at this
 rw [h ad ha i (by omega)]
 rw [List.getElem?_map, List.getElem?_eq_getElem hi] at hu
 rw [List.getD_eq_getElem?_getD, List.getElem?_eq_getElem hi]
 simpa using hu
theorem Zs.parts {w : World} {oa : Option Addr} {m c : Nat} {l : List Int} (h : Zs w (.slice oa m c) l) : l.length = m ∧ m ≤ c ∧ c ≤ 9223372036854775807 ∧ (oa = none → m = 0 ∧ c = 0) ∧ ∀ ad, oa = some ad → ∀ i u, (l.map (Value.int .i64))[i]? = some u → w.cell? (ad.add i) = some u := by
 obtain ⟨_, oa', c', he, h2, h3, h4, h5⟩ := h
 obtain ⟨rfl, rfl, rfl⟩ : oa = oa' ∧ m = l.length ∧ c = c' := by simpa using he
 exact ⟨rfl, h2, h3, fun e => ⟨by have := h4 e; omega, h4 e⟩, ints_cells rfl h5⟩
theorem Zs.cellAt {w : World} {a : Addr} {m c : Nat} {l : List Int} (h : Zs w (.slice (some a) m c) l) {i : Nat} (hi : i < m) : w.cell? (a.add i) = some (.int .i64 (l.getD i 0)) := by
 obtain ⟨_, oa', c', he, h2, h3, h4, h5⟩ := h
 obtain ⟨rfl, rfl, rfl⟩ : some a = oa' ∧ m = l.length ∧ c = c' := by simpa using he
 exact h5 a rfl i hi
theorem Zs.addr {w : World} {oa : Option Addr} {m c : Nat} {l : List Int} (h : Zs w (.slice oa m c) l) (hm : 0 < m) : ∃ a, oa = some a := by
 obtain ⟨p1, _, _, p4, _⟩ := h.parts
 cases oa with
 | none => have := (p4 rfl).1; omega
 | some a => exact ⟨a, rfl⟩
theorem gr_by_own {w0 w w' : World} {base : Nat} {e : TypeId} {v : Value} {n : Nat} {us : List Value} (h : Gr w0 w) (hg : w.grownBy w' v.ownBlock) (ho : w.ownsRow base e 1 v n us) (hb : w0.heap.size ≤ base) : Gr w0 w' :=
 Gr.append h hg fun g hv => by have := ownsRow_base ho g hv; omega
theorem own_through {base : Nat} {w w' : World} {e : TypeId} {size : Nat} {v : Value} {n : Nat} {xs : List Value} {row : Option Nat} (h : w.ownsRow base e size v n xs) (hg : w.grownBy w' row) (hne : ∀ g, v.ownBlock = some g → row ≠ some g) : w'.ownsRow base e size v n xs := by
 obtain ⟨h0, h1 | ⟨g, c, cur, rfl, hb, hgg, h2⟩⟩ := h
 ·exact ⟨h0, .inl h1⟩
 ·refine ⟨h0, .inr ⟨g, c, cur, rfl, hb, ?_, h2⟩⟩
  rw [hg.block g (Array.getElem?_eq_some_iff.1 hgg).1 (fun e => hne g rfl e.symm)]
  exact hgg
theorem wpList_append_int {w : World} {ops : Array Oper} {rest : List Oper} {o : Oper} {a : Act} {Q : Exit → Act → World → Prop} (hgd : o.guard = none) (s x : Operand)
  (ho : o.op = .call { callee := .builtin .append, args := #[s, x], argTypes := #[26, 26] }) (base : Nat) (v : Value) (n : Nat) (l : List Int) (hs : a.eval s = v) (hown : w.ownsRow base 3 1 v n (l.map (Value.int .i64)))
  (g0 : Nat) (k : Int) (hx : a.eval x = .slice (some ⟨g0, 0, none⟩) 1 1) (hc : w.cell? ⟨g0, 0, none⟩ = some (.int .i64 k)) (hm : n ≤ 1000000) (hbase : base ≤ w.heap.size)
  (h : ∀ g cap w', w'.ownsRow base 3 1 (.slice (some ⟨g, 0, none⟩) (n + 1) cap) (n + 1) ((l ++ [k]).map (Value.int .i64)) → w.grownBy w' v.ownBlock → (v.ownBlock = some g ∨ g = w.heap.size) → wpList Tryz.prog ops Q rest (a.put o.dst (.slice (some ⟨g, 0, none⟩) (n + 1) cap)) w') : wpList Tryz.prog ops Q (o :: rest) a w := by
 obtain ⟨i5, hi0, hz0, hz1, hz2⟩ := info_parts infoZ
 refine wpList_append_lies w hgd s x 26 ho base 3 i5 _ 1 8 Tryz.underlying26 hi0 hz0 hz1 hz2 rfl (by omega) v n _ hs hown ⟨g0, 0, none⟩ 1 1 [.int .i64 k] hx rfl (fun j u hj => by
   cases j with
   | zero =>
     obtain rfl : Value.int .i64 k = u := by simpa using hj
     exact hc
   | succ j => simp at hj) (by simp [Value.oneCell']) (by omega) (by unfold maxLen; omega) (by omega) hbase _ rfl ?_
 intro g cap w' h1 h2 h3 _
 exact h g cap w' (by rw [List.map_append]; exact h1) h2 h3
def Ke (e : TypeId) (w w' : World) : Prop := w.heap.size ≤ w'.heap.size ∧ ∀ (k : Nat) (c : Array Value) (t : TypeId) (fr : Nat × Nat), w.heap[k]? = some (Obj.cells c t fr) → t ≠ e → w'.heap[k]? = some (Obj.cells c t fr)
theorem Ke.of_own {w w' : World} {base : Nat} {e : TypeId} {v : Value} {n : Nat} {us : List Value} (ho : w.ownsRow base e 1 v n us) (hg : w.grownBy w' v.ownBlock) : Ke e w w' := ⟨hg.size, fun k c t fr hk ht => by
  rw [hg.block k (Array.getElem?_eq_some_iff.1 hk).1 (fun h => ?_)]
  · exact hk
  · obtain ⟨_, ⟨rfl, _⟩ | ⟨g', c', cur, rfl, hb, hgg, _⟩⟩ := ho
    · cases h
    · simp [Value.ownBlock] at h
      subst h
      rw [hk] at hgg
      simp at hgg
      exact ht hgg.2.1⟩
theorem owns_zs {base n : Nat} {w : World} {v : Value} {l : List Int} (ho : w.ownsRow base 3 1 v n (l.map (Value.int .i64))) (hl : l.length = n) (hr : ∀ x ∈ l, I64 x) : Zs w v l := by
 obtain ⟨h0, ⟨rfl, rfl⟩ | ⟨g, c, cur, rfl, hb, hg, h1, h2, h3, h4⟩⟩ := ho
 ·obtain rfl : l = [] := List.eq_nil_of_length_eq_zero hl
  exact Zs.nil w
 ·unfold maxLen at h2
  refine ⟨hr, some ⟨g, 0, none⟩, c, by rw [hl], by omega, h2, (fun h => by cases h), fun a ha i hi => ?_⟩
  cases ha
  rw [Addr.add_mid, Nat.zero_add, cell_of_row w g i _ _ _ hg]
  have hi2 : i < cur.toList.length := by simp; omega
  have e : (cur.toList.take (n * 1))[i]? = some (.int .i64 (l.getD i 0)) := by
   rw [h4, List.getElem?_map, List.getElem?_eq_getElem hi, List.getD_eq_getElem?_getD, List.getElem?_eq_getElem hi]
   rfl
  rw [List.getElem?_take_of_lt (by omega)] at e
  simpa using e
end Go.Proofs.YtbbglejdfbkjlaaGreat
namespace Go.Proofs.YtbbglejdfbkjlaaGreat
open Go.RowKit
def lastZ' (t : List Int) : Int := t.getD (t.length - 1) 0
def drawV (t : List Int) (s : Nat) : Int := if t = [] then 0 else T.deg t (belowV s (lastZ' t))
def drawS (t : List Int) (s : Nat) : Nat := if t = [] then s else belowS s (lastZ' t)
def tabV (N j : Nat) : List Int := (List.range j).map fun i => ((T.sum N (i + 1) : Nat) : Int)
theorem tabV_succ (N j : Nat) : tabV N (j + 1) = tabV N j ++ [((T.sum N j : Nat) : Int) + (T.weight N (j + 1) : Nat)] := by
 unfold tabV
 rw [List.range_succ, List.map_append]
 rfl
end Go.Proofs.YtbbglejdfbkjlaaGreat
namespace Go.Proofs.YtbbglejdfbkjlaaGreat
open Go.RowKit
theorem tabZ_rng {N : Nat} (h1 : 1 ≤ N) (h2 : N ≤ 64) : ∀ x ∈ T.tabZ N, 0 ≤ x ∧ x < 8388608 := by
 intro x hx
 obtain ⟨i, hi, rfl⟩ := List.mem_map.1 hx
 have := T.sum_le h1 h2 (i := i + 1) (by have := List.mem_range.1 hi; omega)
 omega
structure SolOk (At : World → Value → (Nat → Prop) → Nat → Prop) : Prop where
 table : ∀ (l : Int) (w : World), I64 l → Calls Tryz.prog 115 #[.int .i64 l] w fun e w' => ∃ v, e = .returned v ∧ Zs w' v (T.tab l) ∧ Gr w w'
 degree : ∀ (v : Value) (l x : Int) (w : World), I64 l → I64 x → Zs w v (T.tab l) → Calls Tryz.prog 138 #[v, .int .i64 x] w fun e w' => e = .returned (.int .i64 (T.deg (T.tab l) x)) ∧ Gr w w'
 draw : ∀ (v d : Value) (l : Int) (F : Nat → Prop) (s : Nat) (w : World), I64 l → s < 18446744073709551616 → Zs w v (T.tab l) → AwayZ F v → At w d F s →
  Calls Tryz.prog 114 #[v, d] w fun e w' => e = .returned (.int .i64 (drawV (T.tab l) s)) ∧ At w' d F (drawS (T.tab l) s) ∧ Kp F w w'
end Go.Proofs.YtbbglejdfbkjlaaGreat
namespace Go.Proofs.YtbbglejdfbkjlaaGreat
open Go.RowKit
namespace C
def st (s : Nat) : Nat → Nat
 | 0 => s
 | i + 1 => nextS (st s i)
theorem st_lt {s : Nat} (h : s < 18446744073709551616) : ∀ i, st s i < 18446744073709551616
 | 0 => h
 | _ + 1 => nextS_lt _
def swap (l : List Int) (i j : Nat) : List Int := (l.set i (l.getD j 0)).set j (l.getD i 0)
def pick (s n i : Nat) : Nat := i + topS (nextS (st s i)) % (n - i)
def shuf (s n : Nat) : Nat → List Int
 | 0 => (List.range n).map fun i : Nat => (i : Int)
 | i + 1 => swap (shuf s n i) i (pick s n i)
theorem pick_lt {s n i : Nat} (h : i < n) : i ≤ pick s n i ∧ pick s n i < n := by
 unfold pick
 have := Nat.mod_lt (topS (nextS (st s i))) (by omega : 0 < n - i)
 omega
theorem swap_length (l : List Int) (i j : Nat) : (swap l i j).length = l.length := by simp [swap]
theorem swap_getD (l : List Int) (i j : Nat) (hi : i < l.length) (hj : j < l.length) (k : Nat) : (swap l i j).getD k 0 = if k = j then l.getD i 0 else if k = i then l.getD j 0 else l.getD k 0 := by
 unfold swap
 by_cases e : k = j
 ·subst e
  rw [if_pos rfl, List.getD_eq_getElem?_getD, List.getElem?_set_self (by simp; exact hj)]
  rfl
 ·rw [if_neg e, List.getD_eq_getElem?_getD, List.getElem?_set_ne (fun c => e c.symm)]
  by_cases e2 : k = i
  ·subst e2
   rw [if_pos rfl, List.getElem?_set_self hi]
   rfl
  ·rw [if_neg e2, List.getElem?_set_ne (fun c => e2 c.symm), List.getD_eq_getElem?_getD]
theorem shuf_length (s n : Nat) : ∀ i, (shuf s n i).length = n
 | 0 => by simp [shuf]
 | i + 1 => by
  show (swap _ _ _).length = n
  rw [swap_length, shuf_length s n i]
structure Inj (n : Nat) (l : List Int) : Prop where
 len : l.length = n
 rng : ∀ i, i < n → 0 ≤ l.getD i 0 ∧ l.getD i 0 < n
 inj : ∀ i j, i < n → j < n → l.getD i 0 = l.getD j 0 → i = j
theorem Inj.swap {n : Nat} {l : List Int} (h : Inj n l) {i j : Nat} (hi : i < n) (hj : j < n) : Inj n (C.swap l i j) := by
 have hl := h.len
 have hg := swap_getD l i j (by omega) (by omega)
 refine ⟨by rw [swap_length, hl], fun k hk => ?_, fun k m hk hm e => ?_⟩
 ·rw [hg k]
  split
  ·exact h.rng i hi
  ·split
   ·exact h.rng j hj
   ·exact h.rng k hk
 ·rw [hg k, hg m] at e
  split at e <;> rename_i e1
  ·split at e <;> rename_i e2
   ·omega
   ·split at e <;> rename_i e3
    ·have := h.inj i j hi hj e; omega
    ·have := h.inj i m hi hm e; omega
  ·split at e <;> rename_i e4
   ·split at e <;> rename_i e2
    ·have := h.inj j i hj hi e; omega
    ·split at e <;> rename_i e3
     ·omega
     ·have := h.inj j m hj hm e; omega
   ·split at e <;> rename_i e2
    ·have := h.inj k i hk hi e; omega
    ·split at e <;> rename_i e3
     ·have := h.inj k j hk hj e; omega
     ·exact h.inj k m hk hm e
theorem range_getD {n i : Nat} (h : i < n) : ((List.range n).map fun i : Nat => (i : Int)).getD i 0 = i := by
 rw [List.getD_eq_getElem?_getD, List.getElem?_map, List.getElem?_range h]
 rfl
theorem shuf_inj (s n : Nat) : ∀ i, i ≤ n → Inj n (shuf s n i)
 | 0, _ => ⟨by simp [shuf], fun i hi => by
     show 0 ≤ ((List.range n).map fun i : Nat => (i : Int)).getD i 0 ∧ _
     rw [range_getD hi]
     exact ⟨by omega, by show ((List.range n).map fun i : Nat => (i : Int)).getD i 0 < _; rw [range_getD hi]; omega⟩, fun i j hi hj e => by
     have e' : ((List.range n).map fun i : Nat => (i : Int)).getD i 0 = ((List.range n).map fun i : Nat => (i : Int)).getD j 0 := e
     rw [range_getD hi, range_getD hj] at e'
     omega⟩
 | i + 1, h => (shuf_inj s n i (by omega)).swap (by omega) (pick_lt (by omega)).2
def ins (x : Int) : List Int → List Int
 | [] => [x]
 | a :: t => if x ≤ a then x :: a :: t else a :: ins x t
def isort : List Int → List Int
 | [] => []
 | a :: t => ins a (isort t)
theorem ins_length (x : Int) : ∀ l, (ins x l).length = l.length + 1
 | [] => rfl
 | a :: t => by
  unfold ins
  split
  ·rfl
  ·simp [ins_length x t]
theorem isort_length : ∀ l, (isort l).length = l.length
 | [] => rfl
 | a :: t => by
  show (ins a (isort t)).length = _
  rw [ins_length, isort_length t]
  rfl
theorem mem_ins (x y : Int) : ∀ l, y ∈ ins x l ↔ y = x ∨ y ∈ l
 | [] => by simp [ins]
 | a :: t => by
  unfold ins
  split
  ·simp
  ·rw [List.mem_cons, mem_ins x y t, List.mem_cons]
   constructor
   ·rintro (h | h | h)
    ·exact .inr (.inl h)
    ·exact .inl h
    ·exact .inr (.inr h)
   ·rintro (h | h | h)
    ·exact .inr (.inl h)
    ·exact .inl h
    ·exact .inr (.inr h)
theorem mem_isort (y : Int) : ∀ l, y ∈ isort l ↔ y ∈ l
 | [] => Iff.rfl
 | a :: t => by
  show y ∈ ins a (isort t) ↔ _
  rw [mem_ins, mem_isort y t, List.mem_cons]
theorem ins_sorted (x : Int) : ∀ l, l.Pairwise (· < ·) → x ∉ l → (ins x l).Pairwise (· < ·)
 | [], _, _ => by simp [ins]
 | a :: t, h, hn => by
  obtain ⟨h1, h2⟩ := List.pairwise_cons.1 h
  have hne : x ≠ a := fun e => hn (by rw [e]; simp)
  unfold ins
  split
  ·refine List.pairwise_cons.2 ⟨fun y hy => ?_, h⟩
   rcases List.mem_cons.1 hy with rfl | hy
   ·omega
   ·have := h1 y hy; omega
  ·refine List.pairwise_cons.2 ⟨fun y hy => ?_, ins_sorted x t h2 (fun c => hn (by simp [c]))⟩
   rcases (mem_ins x y t).1 hy with rfl | hy
   ·omega
   ·exact h1 y hy
theorem isort_sorted : ∀ l : List Int, l.Nodup → (isort l).Pairwise (· < ·)
 | [], _ => List.Pairwise.nil
 | a :: t, h => by
  obtain ⟨h1, h2⟩ := List.nodup_cons.1 h
  exact ins_sorted a _ (isort_sorted t h2) (fun c => h1 ((mem_isort a t).1 c))
theorem rise_ext : ∀ (a b : List Int), a.Pairwise (· < ·) → b.Pairwise (· < ·) → (∀ x, x ∈ a ↔ x ∈ b) → a = b
 | [], [], _, _, _ => rfl
 | [], y :: b, _, _, h => by have := (h y).2 (by simp); simp at this
 | x :: a, [], _, _, h => by have := (h x).1 (by simp); simp at this
 | x :: a, y :: b, ha, hb, h => by
  obtain ⟨a1, a2⟩ := List.pairwise_cons.1 ha
  obtain ⟨b1, b2⟩ := List.pairwise_cons.1 hb
  have exy : x = y := by
   have h1 : x ∈ y :: b := (h x).1 (by simp)
   have h2 : y ∈ x :: a := (h y).2 (by simp)
   rcases List.mem_cons.1 h1 with e | h1
   ·exact e
   ·rcases List.mem_cons.1 h2 with e | h2
    ·exact e.symm
    ·have := b1 x h1
     have := a1 y h2
     omega
  subst exy
  rw [rise_ext a b a2 b2 fun z => ?_]
  constructor
  ·intro hz
   rcases List.mem_cons.1 ((h z).1 (by simp [hz])) with e | hz'
   ·have := a1 z hz; omega
   ·exact hz'
  ·intro hz
   rcases List.mem_cons.1 ((h z).2 (by simp [hz])) with e | hz'
   ·have := b1 z hz; omega
   ·exact hz'
def some (s n k : Nat) : List Int := isort ((shuf s n k).take k)
theorem Inj.nodup {n : Nat} {l : List Int} (h : Inj n l) : l.Nodup := by
 rw [List.nodup_iff_pairwise_ne, List.pairwise_iff_getElem]
 intro i j hi hj hij e
 have hl := h.len
 have := h.inj i j (by omega) (by omega) (by
   rw [List.getD_eq_getElem?_getD, List.getD_eq_getElem?_getD, List.getElem?_eq_getElem hi, List.getElem?_eq_getElem hj]
   simpa using e)
 omega
theorem some_length {s n k : Nat} (h : k ≤ n) : (some s n k).length = k := by
 unfold some
 rw [isort_length, List.length_take, shuf_length]
 omega
theorem some_sorted {s n k : Nat} (h : k ≤ n) : (some s n k).Pairwise (· < ·) := isort_sorted _ ((shuf_inj s n k h).nodup.sublist (List.take_sublist _ _))
theorem some_mem {s n k : Nat} (h : k ≤ n) (x : Int) : x ∈ some s n k ↔ ∃ i, i < k ∧ (shuf s n k).getD i 0 = x := by
 unfold some
 rw [mem_isort]
 constructor
 ·intro hx
  obtain ⟨i, hi, rfl⟩ := List.getElem_of_mem hx
  rw [List.length_take, shuf_length] at hi
  refine ⟨i, by omega, ?_⟩
  rw [List.getElem_take, List.getD_eq_getElem?_getD, List.getElem?_eq_getElem (by rw [shuf_length]; omega)]
  rfl
 ·rintro ⟨i, hi, rfl⟩
  rw [List.getD_eq_getElem?_getD, List.getElem?_eq_getElem (by rw [shuf_length]; omega)]
  exact List.mem_of_getElem? (i := i) (by rw [List.getElem?_take_of_lt hi, List.getElem?_eq_getElem (by rw [shuf_length]; omega)]; rfl)
theorem some_rng {s n k : Nat} (h : k ≤ n) {x : Int} (hx : x ∈ some s n k) : 0 ≤ x ∧ x < n := by
 obtain ⟨i, hi, rfl⟩ := (some_mem h x).1 hx
 exact (shuf_inj s n k h).rng i (by omega)
def May (n k : Int) : Prop := 0 ≤ n ∧ n ≤ 64 ∧ 0 ≤ k ∧ k ≤ n
instance (n k : Int) : Decidable (May n k) := by unfold May; infer_instance
def someZ (s : Nat) (n k : Int) : List Int := if May n k then some s n.toNat k.toNat else []
def someS (s : Nat) (n k : Int) : Nat := if May n k then st s k.toNat else s
end C
end Go.Proofs.YtbbglejdfbkjlaaGreat
namespace Go.Proofs.YtbbglejdfbkjlaaGreat
open Go.RowKit
def Rising (l : List Int) : Prop := ∀ i, i + 1 < l.length → l.getD i 0 < l.getD (i + 1) 0
theorem rising_of {l : List Int} (h : l.Pairwise (· < ·)) : Rising l := fun i hi => by
 have := List.pairwise_iff_getElem.1 h i (i + 1) (by omega) hi (by omega)
 rw [List.getD_eq_getElem?_getD, List.getD_eq_getElem?_getD, List.getElem?_eq_getElem (by omega : i < l.length), List.getElem?_eq_getElem hi]
 simpa using this
end Go.Proofs.YtbbglejdfbkjlaaGreat
namespace Go.Proofs.YtbbglejdfbkjlaaGreat
open Go.RowKit
namespace C
theorem pick_below {s n i : Nat} (h : i < n) : (i : Int) + belowV (st s i) ((n : Int) - i) = (pick s n i : Nat) ∧ belowS (st s i) ((n : Int) - i) = st s (i + 1) := by
 have e : (n : Int) - i = ((n - i : Nat) : Int) := by omega
 refine ⟨?_, ?_⟩
 ·unfold belowV pick
  rw [if_neg (by omega), e]
  omega
 ·unfold belowS
  rw [if_neg (by omega)]
  rfl
end C
def Iz (W : World) (g c n : Nat) (L : List Int) : Prop :=
 L.length = n ∧ n ≤ c ∧ c ≤ 9223372036854775807 ∧ ∃ cur : Array Value, W.heap[g]? = some (.cells cur 3 (0, 0)) ∧ cur.size = c ∧ ∀ i, i < n → cur[i]? = some (.int .i64 (L.getD i 0))
theorem Iz.cell {W : World} {g c n : Nat} {L : List Int} (h : Iz W g c n L) (i : Nat) (hi : i < n) : W.cell? ⟨g, i, none⟩ = some (.int .i64 (L.getD i 0)) := by
 obtain ⟨_, _, _, cur, hg, hs, hc⟩ := h
 rw [cell_of_row W g i _ _ _ hg]
 exact hc i hi
theorem Iz.frozen {W : World} {g c n : Nat} {L : List Int} (h : Iz W g c n L) (i : Nat) : W.frozen? ⟨g, i, none⟩ = false := by
 obtain ⟨_, _, _, cur, hg, _, _⟩ := h
 exact frozen_of_row W g i _ _ hg
theorem Iz.set {W : World} {g c n : Nat} {L : List Int} (h : Iz W g c n L) (i : Nat) (hi : i < n) (x : Int) : Iz (W.setCell ⟨g, i, none⟩ (.int .i64 x)) g c n (L.set i x) := by
 obtain ⟨h1, h2, h3, cur, hg, hs, hc⟩ := h
 refine ⟨by rw [List.length_set]; exact h1, h2, h3, cur.setIfInBounds i (.int .i64 x), heap_setCell_same _ _ _ _ _ _ hg, by simpa using hs, fun k hk => ?_⟩
 by_cases e : k = i
 ·subst e
  rw [Array.getElem?_setIfInBounds_self_of_lt (by omega), List.getD_eq_getElem?_getD, List.getElem?_set_self (by omega)]
  rfl
 ·rw [Array.getElem?_setIfInBounds_ne (fun c => e c.symm), hc k hk, List.getD_eq_getElem?_getD, List.getD_eq_getElem?_getD, List.getElem?_set_ne (fun c => e c.symm)]
theorem Iz.swap {W : World} {g c n : Nat} {L : List Int} (h : Iz W g c n L) (i j : Nat) (hi : i < n) (hj : j < n) :
  Iz ((W.setCell ⟨g, i, none⟩ (.int .i64 (L.getD j 0))).setCell ⟨g, j, none⟩ (.int .i64 (L.getD i 0))) g c n (C.swap L i j) :=
 (h.set i hi (L.getD j 0)).set j hj (L.getD i 0)
theorem Iz.any {W : World} {g c n : Nat} {L : List Int} (h : Iz W g c n L) (i j : Nat) (x : Int) (hi : i < n) (hj : j < n) : ∃ y, (W.setCell ⟨g, i, none⟩ (.int .i64 x)).cell? ⟨g, j, none⟩ = some y :=
 ⟨_, (h.set i hi x).cell j hj⟩
theorem Iz.kp {F : Nat → Prop} {W W' : World} {g c n : Nat} {L : List Int} (h : Iz W g c n L) (hk : Kp F W W') (hn : ¬ F g) : Iz W' g c n L := by
 obtain ⟨h1, h2, h3, cur, hg, hs, hc⟩ := h
 exact ⟨h1, h2, h3, cur, hk.block hg hn, hs, hc⟩
theorem Iz.zs {W : World} {g c n : Nat} {L : List Int} (h : Iz W g c n L) (k : Nat) (hk : k ≤ n) (hb : ∀ x ∈ L, I64 x) : Zs W (.slice (some ⟨g, 0, none⟩) k c) (L.take k) := by
 have hl : (L.take k).length = k := by rw [List.length_take, h.1]; omega
 refine ⟨fun x hx => hb x (List.mem_of_mem_take hx), some ⟨g, 0, none⟩, c, by rw [hl], by rw [hl]; have := h.2.1; omega, h.2.2.1, (fun e => by cases e), fun a ha i hi => ?_⟩
 cases ha
 rw [hl] at hi
 rw [Addr.add_mid, Nat.zero_add, h.cell i (by omega), List.getD_eq_getElem?_getD, List.getD_eq_getElem?_getD, List.getElem?_take_of_lt hi]
theorem Iz.of_own {base n : Nat} {w : World} {v : Value} {l : List Int} (ho : w.ownsRow base 3 1 v n (l.map (Value.int .i64))) (hl : l.length = n) (h0 : 0 < n) : ∃ g c, v = .slice (some ⟨g, 0, none⟩) n c ∧ base ≤ g ∧ Iz w g c n l := by
 obtain ⟨_, ⟨rfl, rfl⟩ | ⟨g, c, cur, rfl, hb, hg, h1, h2, h3, h4⟩⟩ := ho
 ·omega
 ·unfold maxLen at h2
  refine ⟨g, c, rfl, hb, hl, h1, h2, cur, hg, by omega, fun i hi => ?_⟩
  have hi2 : i < cur.toList.length := by simp; omega
  have e : (cur.toList.take (n * 1))[i]? = some (.int .i64 (l.getD i 0)) := by
   rw [h4, List.getElem?_map, List.getElem?_eq_getElem (by omega), List.getD_eq_getElem?_getD, List.getElem?_eq_getElem (by omega)]
   rfl
  rw [List.getElem?_take_of_lt (by omega)] at e
  simpa using e
theorem Kp.setNew {F : Nat → Prop} {w W : World} (h : Kp F w W) {g : Nat} (hg : w.heap.size ≤ g) (i : Nat) (v : Value) : Kp F w (W.setCell ⟨g, i, none⟩ v) :=
 h.trans (Kp.set W g i v) fun k e => .inr (by omega)
def OwnZ (base : Nat) (w : World) (v : Value) (l : List Int) : Prop :=
 (∀ x ∈ l, I64 x) ∧ ((v = .slice none 0 0 ∧ l = []) ∨ ∃ g c C, v = .slice (some ⟨g, 0, none⟩) l.length c ∧ base ≤ g ∧ l.length ≤ c ∧ c ≤ 9223372036854775807 ∧ Iz w g C l.length l)
theorem OwnZ.zs {base : Nat} {w : World} {v : Value} {l : List Int} (h : OwnZ base w v l) : Zs w v l := by
 obtain ⟨hr, ⟨rfl, rfl⟩ | ⟨g, c, C, rfl, _, h2, h3, h4⟩⟩ := h
 ·exact Zs.nil w
 ·refine ⟨hr, some ⟨g, 0, none⟩, c, rfl, h2, h3, (fun e => by cases e), fun a ha i hi => ?_⟩
  cases ha
  rw [Addr.add_mid, Nat.zero_add]
  exact h4.cell i hi
theorem OwnZ.away {base : Nat} {w : World} {v : Value} {l : List Int} {F : Nat → Prop} (h : OwnZ base w v l) (hF : ∀ k, F k → k < base) : AwayZ F v := fun a m c hv _ hf => by
 obtain ⟨_, ⟨rfl, _⟩ | ⟨g, c', C, rfl, h1, _⟩⟩ := h
 ·cases hv
 ·cases hv
  have h3 : g < base := hF g hf
  omega
def upTo (n : Nat) : List Int := (List.range n).map fun i : Nat => (i : Int)
theorem upTo_succ (n : Nat) : upTo (n + 1) = upTo n ++ [(n : Int)] := by
 unfold upTo
 rw [List.range_succ, List.map_append]
 rfl
end Go.Proofs.YtbbglejdfbkjlaaGreat
namespace Go.Proofs.YtbbglejdfbkjlaaGreat
open Go.RowKit
def addZ (a b : Int) : Int := ((a.toNat ^^^ b.toNat : Nat) : Int)
theorem addZ_byt {a b : Int} (ha : Byt a) (hb : Byt b) : Byt (addZ a b) := by
 unfold Byt at *
 have h := M.xor_lt (x := a.toNat) (y := b.toNat) (by omega) (by omega)
 unfold addZ
 omega
def St (w0 w : World) (f : Value) : Prop := Gr w0 w ∧ IsF w f
theorem new_st (w : World) : Calls Tryz.prog 65 #[] w fun e w' => ∃ b, e = .returned (.pointer (some ⟨b, 0, none⟩)) ∧ St w w' (.pointer (some ⟨b, 0, none⟩)) :=
 (new_any w).mono fun _ _ ⟨b, he, hf, hg⟩ => ⟨b, he, hg, Or.inr ⟨b, rfl, hf⟩⟩
theorem byt_of_wf {a : Int} (h : (Lit.int .u8 a).wf = true) : Byt a := by
 have := bounds_u8 h
 unfold Byt
 omega
theorem byt_nat {a : Int} (h : Byt a) : ∃ x : Nat, a = x ∧ x < 256 := by
 unfold Byt at h
 exact ⟨a.toNat, by omega, by omega⟩
/-! ### The laws of a field, on integers -/
theorem addZ_comm (a b : Int) : addZ a b = addZ b a := by
 unfold addZ
 rw [Nat.xor_comm]
theorem addZ_assoc (a b c : Int) : addZ (addZ a b) c = addZ a (addZ b c) := by
 unfold addZ
 rw [Int.toNat_natCast, Int.toNat_natCast, Nat.xor_assoc]
theorem addZ_self (a : Int) : addZ a a = 0 := by
 unfold addZ
 rw [Nat.xor_self]
 rfl
theorem mulZ_comm (a b : Int) : mulZ a b = mulZ b a := by
 unfold mulZ
 rw [M.mulN_comm]
theorem mulZ_one (a : Int) (ha : Byt a) : mulZ a 1 = a := by
 unfold Byt at *
 unfold mulZ
 rw [show (1 : Int).toNat = 1 from rfl, M.mulN_one _ (by omega)]
 omega
theorem mulZ_zero (a : Int) : mulZ a 0 = 0 := by simp [mulZ, M.mulN_zero_right]
theorem mulZ_inv (a : Int) (ha : Byt a) (h0 : a ≠ 0) : mulZ a (invZ a) = 1 := by
 unfold Byt at ha
 unfold mulZ invZ
 rw [Int.toNat_natCast, M.mulN_inv _ (by omega) (by omega)]
 rfl
theorem xorZ (a b : Int) (ha : Byt a) (hb : Byt b) : bits BinOp.xor IntKind.u8 a b = addZ a b := by
 unfold Byt at *
 exact u8_xor a b (by omega) (by omega) (by omega) (by omega)
end Go.Proofs.YtbbglejdfbkjlaaGreat
namespace Go.Proofs.YtbbglejdfbkjlaaGreat
open Go.RowKit
def Bs (w : World) (v : Value) (l : List Int) : Prop :=
 (∀ x ∈ l, Byt x) ∧ ∃ oa c, v = .slice oa l.length c ∧ l.length ≤ c ∧ c ≤ 9223372036854775807 ∧ (oa = none → c = 0) ∧ ∀ a, oa = some a → ∀ i, i < l.length → w.cell? (a.add i) = some (.int .u8 (l.getD i 0))
theorem Bs.nil (w : World) : Bs w (.slice none 0 0) [] := ⟨by simp, none, 0, rfl, by simp, by omega, fun _ => rfl, fun a h => by cases h⟩
theorem Bs.byt {w : World} {v : Value} {l : List Int} (h : Bs w v l) (i : Nat) : Byt (l.getD i 0) := by
 by_cases hi : i < l.length
 ·rw [List.getD_eq_getElem?_getD, List.getElem?_eq_getElem hi]
  exact h.1 _ (List.getElem_mem hi)
 ·rw [List.getD_eq_getElem?_getD, List.getElem?_eq_none (by omega)]
  unfold Byt
  simp
theorem Bs.at {w : World} {v : Value} {l : List Int} (h : Bs w v l) (hl : 0 < l.length) :
  ∃ a c, v = .slice (some a) l.length c ∧ l.length ≤ c ∧ c ≤ 9223372036854775807 ∧ ∀ i, i < l.length → w.cell? (a.add i) = some (.int .u8 (l.getD i 0)) := by
 obtain ⟨_, oa, c, h1, h2, h3, h4, h5⟩ := h
 cases oa with
 | none => exact absurd (h4 rfl) (by omega)
 | some a => exact ⟨a, c, h1, h2, h3, h5 a rfl⟩
theorem cell_grown {w w' : World} (hg : Gr w w') {a : Addr} {x : Value} (h : w.cell? a = some x) : w'.cell? a = some x := by
 obtain ⟨b, o, s⟩ := a
 have hs : s = none := by simpa using World.cell?_spot h
 subst hs
 cases ho : w.heap[b]? with
 | none => simp [World.cell?, ho] at h
 | some ob =>
  cases ob with
  | cells c t fr =>
   rw [cell_of_row w' b _ c t fr (keptRow hg ho)]
   rw [cell_of_row w b _ c t fr ho] at h
   exact h
  | _ => simp [World.cell?, ho] at h
theorem Bs.grown {w w' : World} {v : Value} {l : List Int} (h : Bs w v l) (hg : Gr w w') : Bs w' v l := by
 obtain ⟨h0, oa, c, h1, h2, h3, h4, h5⟩ := h
 exact ⟨h0, oa, c, h1, h2, h3, h4, fun a ha i hi => cell_grown hg (h5 a ha i hi)⟩
theorem eq_of_getD {x y : List Int} (hl : y.length = x.length) (h : ∀ j, j < x.length → x.getD j 0 = y.getD j 0) : x = y := by
 apply List.ext_getElem hl.symm
 intro j h1 h2
 have := h j h1
 rw [List.getD_eq_getElem?_getD, List.getD_eq_getElem?_getD, List.getElem?_eq_getElem h1, List.getElem?_eq_getElem h2] at this
 simpa using this
set_option maxHeartbeats 400000 in
theorem same_core (a b : Addr) (n ca cb : Nat) (x y : List Int) (w : World) (hn : x.length = n) (hl : y.length = n) (hx : n ≤ ca) (hy : n ≤ cb) (hm : ca ≤ 9223372036854775807)
  (hxc : ∀ i, i < n → w.cell? (a.add i) = some (.int .u8 (x.getD i 0))) (hyc : ∀ i, i < n → w.cell? (b.add i) = some (.int .u8 (y.getD i 0))) :
  Calls Tryz.prog 19 #[.slice (some a) n ca, .slice (some b) n cb] w fun e w' => e = .returned (.bool (x == y)) ∧ Gr w w' := by
 have HX := Lib.hid hxc
 have HY := Lib.hid hyc
 have HL := Lib.hid hl
 have HN := Lib.hid hn
 clear hxc hyc hl hn
 go_enter Tryz.func19, Tryz.ntmps19
 go_wp2
 go_loopw [13] (fun i wr => ∃ k : Nat, k ≤ n ∧ i = .int .i64 k ∧ (∃ d, wr = w.drewN d) ∧ (∀ j, j < k → x.getD j 0 = y.getD j 0)) (fun i _ => n - (intOf i).toNat)
 case atStart => exact ⟨0, by omega, rfl, ⟨0, rfl⟩, by omega⟩
 case round =>
  obtain ⟨k, hk, rfl, ⟨d, rfl⟩, hs⟩ := hrel
  have HS := Lib.hid hs
  clear hs
  by_cases hlt : k < n
  ·have h1 := HX.out k hlt
   have h2 := HY.out k hlt
   obtain ⟨p, hp⟩ : ∃ p, x.getD k 0 = p := ⟨_, rfl⟩
   obtain ⟨q, hq⟩ : ∃ q, y.getD k 0 = q := ⟨_, rfl⟩
   rw [hp] at h1
   rw [hq] at h2
   have HP := Lib.hid hp
   have HQ := Lib.hid hq
   clear hp hq
   by_cases he : p = q
   ·subst he
    go_wp2
    go_quiet (fail)
    go_wp2
    refine ⟨⟨k + 1, by omega, by go_num, ⟨_, rfl⟩, fun j hj => ?_⟩, by simp [intOf]; omega⟩
    by_cases e : j = k
    ·rw [e, HP.out, HQ.out]
    ·exact HS.out j (by omega)
   ·have hb : (p != q) = true := by simpa using he
    have HE := Lib.hid he
    clear he
    go_wp2
    go_quiet (fail)
    go_wp2
    go_ret
    have hne : (x == y) = false := by
     rw [beq_eq_false_iff_ne]
     intro c
     apply HE.out
     rw [← HP.out, ← HQ.out, c]
    exact ⟨by rw [hne]; rfl, Gr.refl _⟩
  ·obtain rfl : k = n := by omega
   go_wp2
   go_ret
   have he : x = y := eq_of_getD (by rw [HL.out, HN.out]) (fun j hj => HS.out j (by rw [HN.out] at hj; exact hj))
   exact ⟨by rw [he]; simp, Gr.refl _⟩
set_option maxHeartbeats 400000 in
theorem same_any (va vb : Value) (x y : List Int) (w : World) (ha : Bs w va x) (hb : Bs w vb y) :
  Calls Tryz.prog 19 #[va, vb] w fun e w' => e = .returned (.bool (x == y)) ∧ Gr w w' := by
 by_cases hl : y.length = x.length
 ·by_cases h0 : 0 < x.length
  ·obtain ⟨a, ca, rfl, h1, h2, h3⟩ := Bs.at ha h0
   obtain ⟨b, cb, rfl, h4, h5, h6⟩ := Bs.at hb (by omega)
   rw [hl]
   rw [hl] at h4 h6
   exact same_core a b x.length ca cb x y w rfl hl h1 h4 h2 h3 h6
  ·obtain rfl : x = [] := List.eq_nil_of_length_eq_zero (by omega)
   obtain rfl : y = [] := List.eq_nil_of_length_eq_zero (by simpa using hl)
   obtain ⟨_, oa, ca, rfl, _, _, _, _⟩ := ha
   obtain ⟨_, ob, cb, rfl, _, _, _, _⟩ := hb
   go_enter Tryz.func19, Tryz.ntmps19
   go_wp2
   go_loopw [13] (fun i wr => i = .int .i64 0 ∧ wr = w) (fun _ _ => 0)
   case atStart => exact ⟨rfl, rfl⟩
   case round =>
    obtain ⟨rfl, rfl⟩ := hrel
    go_wp2
    go_ret
    exact ⟨rfl, Gr.refl _⟩
 ·have hne : (x == y) = false := by
   rw [beq_eq_false_iff_ne]
   intro c
   rw [c] at hl
   exact hl rfl
  obtain ⟨_, oa, ca, rfl, h1, h2, _, _⟩ := ha
  obtain ⟨_, ob, cb, rfl, h3, h4, _, _⟩ := hb
  rw [hne]
  generalize x.length = n at *
  generalize y.length = m at *
  have ht : ((n : Int) != m) = true := by simp; omega
  go_enter Tryz.func19, Tryz.ntmps19
  go_wp2
  go_ret
  exact ⟨rfl, Gr.refl _⟩
end Go.Proofs.YtbbglejdfbkjlaaGreat
namespace Go.Proofs.YtbbglejdfbkjlaaGreat
open Go.RowKit
def rowB (L : List Int) : Array Value := (L.map (Value.int .u8)).toArray
theorem rowB_size (L : List Int) : (rowB L).size = L.length := by simp [rowB]
theorem rowB_get (L : List Int) (i : Nat) (h : i < L.length) : (rowB L)[i]? = some (.int .u8 (L.getD i 0)) := by
 simp [rowB, h]
theorem rowB_set (L : List Int) (i : Nat) (x : Int) : (rowB L).setIfInBounds i (.int .u8 x) = rowB (L.set i x) := by
 simp [rowB, List.map_set]
theorem rowB_made (n : Nat) : madeCells #[.int .u8 0] n = rowB (List.replicate n 0) := by
 apply Array.ext'
 rw [toList_madeCells_one]
 simp [rowB]
def Blk (w : World) (g : Nat) (L : List Int) : Prop := w.heap[g]? = some (.cells (rowB L) 5 (0, 0))
theorem Blk.grown {w w' : World} {g : Nat} {L : List Int} (h : Blk w g L) (hg : Gr w w') : Blk w' g L := keptRow hg h
theorem Blk.cell {w : World} {g : Nat} {L : List Int} (h : Blk w g L) (i : Nat) (hi : i < L.length) : w.cell? ⟨g, i, none⟩ = some (.int .u8 (L.getD i 0)) := by
 rw [cell_of_row w g i _ _ _ h, rowB_get L i hi]
theorem Blk.bs {w : World} {g : Nat} {L : List Int} (h : Blk w g L) (l : List Int) (c : Nat) (hl : l.length ≤ L.length) (hlc : l.length ≤ c) (hc : c ≤ 9223372036854775807) (hb : ∀ x ∈ l, Byt x) (he : ∀ i, i < l.length → L.getD i 0 = l.getD i 0) :
  Bs w (.slice (some ⟨g, 0, none⟩) l.length c) l :=
 ⟨hb, some ⟨g, 0, none⟩, c, rfl, hlc, hc, (fun h => by cases h), fun a ha i hi => by
   cases ha
   rw [Addr.add_mid, Nat.zero_add, Blk.cell h i (by omega), he i hi]⟩
theorem info5 : (Tryz.prog.info? 5).map (fun i => (i.zero, i.size, i.bytes)) = some (some (.int .u8 0), 1, 1) := by kernel_rfl
theorem make22 (l c : Nat) (h : l ≤ c) (hc : c ≤ 281474976710656) (w : World) :
  (Instr.makeSlice 25 (.int .i64 (l : Int)) (.int .i64 (c : Int))).run Tryz.prog w = .ok (.slice (some ⟨w.heap.size, 0, none⟩) l c) (w.alloc (.cells (rowB (List.replicate c 0)) 5)) := by
 obtain ⟨i, hi, hzz⟩ := Option.map_eq_some_iff.1 info5
 simp only [Prod.mk.injEq] at hzz
 obtain ⟨hz, hs, hb⟩ := hzz
 have hr := run_make (P := Tryz.prog) w 25 5 i _ Tryz.underlying25 hi hz .i64 .i64 l c (by omega) (by omega) (by rw [hb]; omega) (by omega)
 rw [Int.toNat_natCast, Int.toNat_natCast, hs, Nat.mul_one] at hr
 rw [hr, ← rowB_made]
 rfl
def marks (m : Int) : Nat → List Int
 | 0 => [0, 0]
 | 1 => [m, 0]
 | _ => [m, m]
end Go.Proofs.YtbbglejdfbkjlaaGreat
namespace Go.Proofs.YtbbglejdfbkjlaaGreat
open Go.RowKit
def lst (n : Nat) (f : Nat → Int) : List Int := (List.range n).map f
theorem lst_length (n : Nat) (f : Nat → Int) : (lst n f).length = n := by simp [lst]
theorem lst_getD (n : Nat) (f : Nat → Int) (i : Nat) (h : i < n) : (lst n f).getD i 0 = f i := by simp [lst, h]
theorem lst_congr (n : Nat) (f f' : Nat → Int) (h : ∀ j, j < n → f j = f' j) : lst n f = lst n f' :=
 List.map_congr_left fun j hj => h j (List.mem_range.1 hj)
theorem lst_set (n : Nat) (f : Nat → Int) (k : Nat) (v : Int) : (lst n f).set k v = lst n (fun j => if j = k then v else f j) := by
 apply List.ext_getElem
 ·simp [lst]
 intro j h1 h2
 simp only [lst, List.getElem_set, List.getElem_map, List.getElem_range]
 by_cases e : k = j
 ·rw [if_pos e, if_pos e.symm]
 ·rw [if_neg e, if_neg (fun c => e c.symm)]
theorem lst_byt {n : Nat} {f : Nat → Int} (h : ∀ i, i < n → Byt (f i)) : ∀ x ∈ lst n f, Byt x := by
 intro x hx
 simp [lst] at hx
 obtain ⟨i, hi, rfl⟩ := hx
 exact h i hi
def part (f : Nat → Int) (k : Nat) : Nat → Int := fun j => if j < k then f j else 0
theorem part_set (n : Nat) (f : Nat → Int) (k : Nat) : (lst n (part f k)).set k (f k) = lst n (part f (k + 1)) := by
 rw [lst_set]
 apply lst_congr
 intro j _
 unfold part
 by_cases e : j = k
 ·rw [if_pos e, if_pos (by omega), e]
 ·by_cases h : j < k
  ·rw [if_neg e, if_pos h, if_pos (by omega)]
  ·rw [if_neg e, if_neg h, if_neg (by omega)]
theorem part_nil (n : Nat) (f : Nat → Int) : List.replicate n 0 = lst n (part f 0) := by
 apply List.ext_getElem
 ·simp [lst]
 intro j h1 h2
 simp [lst, part]
theorem part_all (n : Nat) (f : Nat → Int) : lst n (part f n) = lst n f := lst_congr n _ _ fun j h => by simp [part, h]
theorem far_of {w : World} {g k : Nat} {a : Addr} {v : Value} (hg : w.heap.size ≤ g) (h : w.cell? a = some v) : a ≠ ⟨g, k, none⟩ := by
 intro c
 subst c
 have := World.block_lt_of_cell? w _ h
 simp at this
 omega
theorem cell_set_far {W : World} {x y : Addr} {v u : Value} (h : W.cell? x = some u) (hne : x ≠ y) : (W.setCell y v).drew.cell? x = some u := by
 rw [World.cell?_drew, World.cell?_setCell_other _ _ _ _ hne.symm]
 exact h
def Making (w : World) (g n : Nat) (f : Nat → Int) (k : Nat) (wr : World) : Prop := Gr w wr ∧ w.heap.size ≤ g ∧ Blk wr g (lst n (part f k))
theorem Making.store {w wr : World} {g n k : Nat} {f : Nat → Int} (h : Making w g n f k wr) : Making w g n f (k + 1) (wr.setCell ⟨g, k, none⟩ (.int .u8 (f k))) := by
 obtain ⟨h1, h2, h3⟩ := h
 refine ⟨Gr.setCell h1 h2 _, h2, ?_⟩
 unfold Blk at *
 rw [heap_setCell_same _ _ _ _ _ _ h3, rowB_set, part_set]
theorem Making.drew {w wr : World} {g n k : Nat} {f : Nat → Int} (h : Making w g n f k wr) : Making w g n f k wr.drew := ⟨Gr.drew h.1, h.2.1, h.2.2⟩
end Go.Proofs.YtbbglejdfbkjlaaGreat
namespace Go.Proofs.YtbbglejdfbkjlaaGreat
open Go.RowKit
theorem addZ_zero_left (a : Int) (ha : Byt a) : addZ 0 a = a := by
 unfold Byt at ha
 unfold addZ
 rw [show (0 : Int).toNat = 0 from rfl, Nat.zero_xor]
 omega
theorem replicate_getD (n i : Nat) : (List.replicate n (0 : Int)).getD i 0 = 0 := by
 rw [List.getD_eq_getElem?_getD, List.getElem?_replicate]
 split <;> rfl
def leadL : List Int → Int
 | [] => -1
 | a :: l => if a = 0 then (if leadL l = -1 then -1 else leadL l + 1) else 0
theorem leadL_ge : ∀ l, -1 ≤ leadL l
 | [] => by simp [leadL]
 | a :: l => by
  have := leadL_ge l
  unfold leadL
  split <;> (try split) <;> omega
theorem leadL_at : ∀ (l : List Int) (k : Nat), k < l.length → (∀ j, j < k → l.getD j 0 = 0) → l.getD k 0 ≠ 0 → leadL l = k
 | [], k, h, _, _ => by simp at h
 | a :: l, 0, _, _, h => by
  simp at h
  simp [leadL, h]
 | a :: l, k + 1, hk, h0, h => by
  have ha : a = 0 := by simpa using h0 0 (by omega)
  have := leadL_at l k (by simpa using hk) (fun j hj => by simpa using h0 (j + 1) (by omega)) (by simpa using h)
  subst ha
  have h2 := leadL_ge l
  simp only [leadL]
  rw [if_pos trivial, if_neg (by omega), this]
  omega
theorem leadL_none : ∀ (l : List Int), (∀ j, j < l.length → l.getD j 0 = 0) → leadL l = -1
 | [], _ => rfl
 | a :: l, h => by
  have ha : a = 0 := by simpa using h 0 (by simp)
  have := leadL_none l (fun j hj => by simpa using h (j + 1) (by simpa using hj))
  simp [leadL, ha, this]
end Go.Proofs.YtbbglejdfbkjlaaGreat
namespace Go.Proofs.YtbbglejdfbkjlaaGreat
open Go.RowKit
def New (w w' : World) (v : Value) (l : List Int) : Prop :=
 Gr w w' ∧ (∀ x ∈ l, Byt x) ∧ ((l = [] ∧ ∃ oa c, v = .slice oa 0 c ∧ (oa = none → c = 0) ∧ c ≤ 9223372036854775807) ∨
   ∃ g c cur, v = .slice (some ⟨g, 0, none⟩) l.length c ∧ w.heap.size ≤ g ∧ w'.heap[g]? = some (.cells cur 5 (0, 0)) ∧ l.length ≤ c ∧ c ≤ 9223372036854775807 ∧ ∀ i, i < l.length → cur[i]? = some (.int .u8 (l.getD i 0)))
theorem New.bs {w w' : World} {v : Value} {l : List Int} (h : New w w' v l) : Bs w' v l := by
 obtain ⟨_, hb, h | h⟩ := h
 ·obtain ⟨rfl, oa, c, rfl, h1, h2⟩ := h
  exact ⟨by simp, oa, c, rfl, by simp, h2, h1, fun a _ i hi => by simp at hi⟩
 ·obtain ⟨g, c, cur, rfl, _, h2, h3, h4, h5⟩ := h
  exact ⟨hb, some ⟨g, 0, none⟩, c, rfl, h3, h4, (fun h => by cases h), fun a ha i hi => by
    cases ha
    rw [Addr.add_mid, Nat.zero_add, cell_of_row w' g i _ _ _ h2, h5 i hi]⟩
def sumL (x y : List Int) : List Int := lst x.length fun i => addZ (x.getD i 0) (y.getD i 0)
def scaleL (c : Int) (x : List Int) : List Int := lst x.length fun i => mulZ c (x.getD i 0)
def axL (c : Int) (x y : List Int) : List Int := lst x.length fun i => addZ (y.getD i 0) (mulZ c (x.getD i 0))
def unitL (n at' : Nat) : List Int := lst n fun i => if i = at' then 1 else 0
theorem sumL_length (x y : List Int) : (sumL x y).length = x.length := lst_length _ _
theorem scaleL_length (c : Int) (x : List Int) : (scaleL c x).length = x.length := lst_length _ _
theorem axL_length (c : Int) (x y : List Int) : (axL c x y).length = x.length := lst_length _ _
end Go.Proofs.YtbbglejdfbkjlaaGreat
namespace Go.Proofs.YtbbglejdfbkjlaaGreat
open Go.RowKit
theorem Bs.slice {w : World} {a : Addr} {m cap : Nat} {t : List Int} (h : Bs w (.slice (some a) m cap) t) (hm : t.length = m) (lo hi : Nat) (h1 : lo ≤ hi) (h2 : hi ≤ m) :
  Bs w (.slice (if cap = lo then some a else some (a.add lo)) (hi - lo) (cap - lo)) ((t.drop lo).take (hi - lo)) := by
 obtain ⟨hb, oa, c, he, h3, h4, h5, h6⟩ := h
 cases he
 have hlen : ((t.drop lo).take (hi - lo)).length = hi - lo := by simp; omega
 refine ⟨fun x hx => hb x (List.mem_of_mem_drop (List.mem_of_mem_take hx)), _, cap - lo, by rw [hlen], by rw [hlen]; omega, by omega, ?_, ?_⟩
 ·intro hn
  split at hn <;> cases hn
 ·intro a' ha i hi2
  rw [hlen] at hi2
  rw [if_neg (by omega)] at ha
  cases ha
  rw [Addr.add_add', h6 a rfl (lo + i) (by omega)]
  congr 2
  rw [List.getD_eq_getElem?_getD, List.getD_eq_getElem?_getD, List.getElem?_take_of_lt hi2, List.getElem?_drop]
theorem ext_getD {x y : List Int} (hl : x.length = y.length) (h : ∀ i, i < x.length → x.getD i 0 = y.getD i 0) : x = y := eq_of_getD hl.symm h
theorem sumL_getD (x y : List Int) (i : Nat) (h : i < x.length) : (sumL x y).getD i 0 = addZ (x.getD i 0) (y.getD i 0) := lst_getD _ _ i h
theorem scaleL_getD (c : Int) (x : List Int) (i : Nat) (h : i < x.length) : (scaleL c x).getD i 0 = mulZ c (x.getD i 0) := lst_getD _ _ i h
theorem axL_getD (c : Int) (x y : List Int) (i : Nat) (h : i < x.length) : (axL c x y).getD i 0 = addZ (y.getD i 0) (mulZ c (x.getD i 0)) := lst_getD _ _ i h
theorem addZ_zero (a : Int) (ha : Byt a) : addZ a 0 = a := by rw [addZ_comm, addZ_zero_left a ha]
end Go.Proofs.YtbbglejdfbkjlaaGreat
namespace Go.Proofs.YtbbglejdfbkjlaaGreat
open Go.RowKit
theorem New.of_owns {w0 w : World} {g cap : Nat} {l : List Int} (hg : Gr w0 w) (hb : ∀ x ∈ l, Byt x) (h : w.ownsRow w0.heap.size 5 1 (.slice (some ⟨g, 0, none⟩) l.length cap) l.length (l.map (Value.int .u8))) : w0.heap.size ≤ g ∧ New w0 w (.slice (some ⟨g, 0, none⟩) l.length cap) l := by
 obtain ⟨_, h | h⟩ := h
 ·simp at h
 ·obtain ⟨g', cap', cur, he, h1, h2, h3, h4, _, h5⟩ := h
  simp only [Value.slice.injEq, Option.some.injEq, Addr.mk.injEq, and_true, true_and] at he
  obtain ⟨rfl, rfl⟩ := he
  refine ⟨h1, hg, hb, Or.inr ⟨g, cap, cur, rfl, h1, h2, h3, by unfold maxLen at h4; omega, fun i hi => ?_⟩⟩
  rw [Nat.mul_one] at h5
  have : (cur.toList.take l.length)[i]? = (l.map (Value.int .u8))[i]? := by rw [h5]
  rw [List.getElem?_take_of_lt hi] at this
  simpa [hi] using this
end Go.Proofs.YtbbglejdfbkjlaaGreat
namespace Go.Proofs.YtbbglejdfbkjlaaGreat
open Go.RowKit
def Bss (w : World) (v : Value) (L : List (List Int)) : Prop :=
 ∃ oa c, v = .slice oa L.length c ∧ L.length ≤ c ∧ c ≤ 9223372036854775807 ∧ (oa = none → c = 0) ∧ ∀ a, oa = some a → ∀ i, i < L.length → ∃ u, w.cell? (a.add i) = some u ∧ Bs w u (L.getD i [])
theorem Bss.nil (w : World) : Bss w (.slice none 0 0) [] := ⟨none, 0, rfl, by simp, by omega, fun _ => rfl, fun a h => by cases h⟩
theorem Bss.grown {w w' : World} {v : Value} {L : List (List Int)} (h : Bss w v L) (hg : Gr w w') : Bss w' v L := by
 obtain ⟨oa, c, h1, h2, h3, h4, h5⟩ := h
 refine ⟨oa, c, h1, h2, h3, h4, fun a ha i hi => ?_⟩
 obtain ⟨u, hu, hb⟩ := h5 a ha i hi
 exact ⟨u, cell_grown hg hu, Bs.grown hb hg⟩
theorem Bss.at {w : World} {v : Value} {L : List (List Int)} (h : Bss w v L) (hl : 0 < L.length) :
  ∃ a c, v = .slice (some a) L.length c ∧ L.length ≤ c ∧ c ≤ 9223372036854775807 ∧ ∀ i, i < L.length → ∃ u, w.cell? (a.add i) = some u ∧ Bs w u (L.getD i []) := by
 obtain ⟨oa, c, h1, h2, h3, h4, h5⟩ := h
 cases oa with
 | none => exact absurd (h4 rfl) (by omega)
 | some a => exact ⟨a, c, h1, h2, h3, h5 a rfl⟩
end Go.Proofs.YtbbglejdfbkjlaaGreat
namespace Go.Proofs.YtbbglejdfbkjlaaGreat
open Go.RowKit
def Rb (base : Nat) (w : World) (u : Value) : Prop := ∀ a n c, u = .slice (some a) n c → 0 < n → a.block < base ∨ ∃ cur, w.heap[a.block]? = some (.cells cur 5 (0, 0))
def Rws (base : Nat) (w : World) (v : Value) (L : List (List Int)) : Prop :=
 ∃ us, w.ownsRow base 25 1 v L.length us ∧ ∀ i, i < L.length → Bs w (us.getD i undef) (L.getD i []) ∧ Rb base w (us.getD i undef)
theorem Rws.nil (base : Nat) (w : World) : Rws base w (.slice none 0 0) [] := ⟨[], World.ownsRow_nil w base 25 1, fun i hi => absurd hi (by simp)⟩
theorem ownsRow_cell {w : World} {base : Nat} {e : TypeId} {v : Value} {n : Nat} {us : List Value} (h : w.ownsRow base e 1 v n us) (hn : 0 < n) :
  ∃ g c, v = .slice (some ⟨g, 0, none⟩) n c ∧ n ≤ c ∧ c ≤ maxLen ∧ base ≤ g ∧ us.length = n ∧ ∀ i, i < n → w.cell? ⟨g, i, none⟩ = some (us.getD i undef) := by
 obtain ⟨hl, ⟨_, h0⟩ | ⟨g, c, cur, rfl, hb, hg, h1, h2, h3, h4⟩⟩ := h
 ·omega
 ·refine ⟨g, c, rfl, h1, h2, hb, by omega, fun i hi => ?_⟩
  rw [cell_of_row w g i _ _ _ hg, ← h4]
  rw [Nat.mul_one] at h3 ⊢
  have hi2 : i < cur.toList.length := by simp; omega
  rw [List.getD_eq_getElem?_getD, List.getElem?_take_of_lt hi]
  simp [show i < cur.size by omega]
theorem Rws.bss {base : Nat} {w : World} {v : Value} {L : List (List Int)} (h : Rws base w v L) : Bss w v L := by
 obtain ⟨us, ho, hr⟩ := h
 by_cases h0 : 0 < L.length
 ·obtain ⟨g, c, rfl, h1, h2, _, _, h3⟩ := ownsRow_cell ho h0
  refine ⟨some ⟨g, 0, none⟩, c, rfl, h1, by unfold maxLen at h2; omega, (fun h => by cases h), fun a ha i hi => ?_⟩
  cases ha
  rw [Addr.add_mid, Nat.zero_add]
  exact ⟨_, h3 i hi, (hr i hi).1⟩
 ·obtain rfl : L = [] := List.eq_nil_of_length_eq_zero (by omega)
  obtain ⟨_, ⟨rfl, _⟩ | ⟨g, c, cur, rfl, hb, hg, h1, h2, h3, h4⟩⟩ := ho
  ·exact Bss.nil w
  ·exact ⟨some ⟨g, 0, none⟩, c, rfl, h1, by unfold maxLen at h2; omega, (fun h => by cases h), fun a ha i hi => by simp at hi⟩
theorem Rb.kept {base : Nat} {w w' : World} {u : Value} {l : List Int} {row : Option Nat} (hb : Bs w u l) (hr : Rb base w u)
  (hk : ∀ k, k < w.heap.size → some k ≠ row → w'.heap[k]? = w.heap[k]?) (hrow : ∀ g, row = some g → base ≤ g ∧ ∀ cur, w.heap[g]? ≠ some (.cells cur 5 (0, 0))) : Bs w' u l ∧ Rb base w' u := by
 have far : ∀ a n c, u = .slice (some a) n c → 0 < n → a.block < w.heap.size → w'.heap[a.block]? = w.heap[a.block]? := by
  intro a n c hu hn hlt
  refine hk _ hlt fun e => ?_
  obtain ⟨h1, h2⟩ := hrow a.block e.symm
  rcases hr a n c hu hn with h | ⟨cur, h⟩
  ·omega
  ·exact h2 cur h
 obtain ⟨h0, oa, c, rfl, h2, h3, h4, h5⟩ := hb
 refine ⟨⟨h0, oa, c, rfl, h2, h3, h4, fun a ha i hi => ?_⟩, fun a n c' hu hn => ?_⟩
 ·have hc := h5 a ha i hi
  subst ha
  have hlt := World.block_lt_of_cell? w _ hc
  have hbl : (a.add i).block = a.block := by unfold Addr.add; split <;> rfl
  rw [hbl] at hlt
  rw [World.cell?_of_block (w := w) (w' := w') (a := a.add i) (by rw [hbl]; exact far a _ _ rfl (by omega) hlt)]
  exact hc
 ·rcases hr a n c' hu hn with h | ⟨cur, h⟩
  ·exact .inl h
  ·refine .inr ⟨cur, ?_⟩
   have hlt : a.block < w.heap.size := by
    rcases Nat.lt_or_ge a.block w.heap.size with hlt | hge
    ·exact hlt
    ·rw [Array.getElem?_eq_none hge] at h
     cases h
   rw [far a n c' hu hn hlt, h]
theorem Rb.gr {base : Nat} {w w' : World} {u : Value} {l : List Int} (hb : Bs w u l) (hr : Rb base w u) (hg : Gr w w') : Bs w' u l ∧ Rb base w' u :=
 Rb.kept (row := none) hb hr (fun k hk _ => hg.2.2.2.2 k hk) (fun g h => by cases h)
theorem ownsRow_not_bytes {w : World} {base : Nat} {v : Value} {n : Nat} {us : List Value} (h : w.ownsRow base 25 1 v n us) : ∀ g, v.ownBlock = some g → base ≤ g ∧ ∀ cur, w.heap[g]? ≠ some (.cells cur 5 (0, 0)) := by
 intro g hg
 obtain ⟨_, ⟨rfl, _⟩ | ⟨g', c, cur, rfl, hb, hgg, _⟩⟩ := h
 ·cases hg
 ·simp [Value.ownBlock] at hg
  subst hg
  refine ⟨hb, fun cur' => ?_⟩
  rw [hgg]
  simp
theorem Rws.append {base : Nat} {w w' : World} {v v' u : Value} {L : List (List Int)} {l : List Int} {us : List Value} (ho : w.ownsRow base 25 1 v L.length us) (hr : ∀ i, i < L.length → Bs w (us.getD i undef) (L.getD i []) ∧ Rb base w (us.getD i undef))
  (hb : Bs w u l) (hrb : Rb base w u) (hown : w'.ownsRow base 25 1 v' (L.length + 1) (us ++ [u])) (hg : w.grownBy w' v.ownBlock) : Rws base w' v' (L ++ [l]) := by
 have hlen : us.length = L.length := by have := ho.1; omega
 have hrow := ownsRow_not_bytes ho
 refine ⟨us ++ [u], by rw [List.length_append]; exact hown, fun i hi => ?_⟩
 rw [List.length_append, List.length_singleton] at hi
 by_cases e : i < L.length
 ·rw [List.getD_eq_getElem?_getD, List.getD_eq_getElem?_getD, List.getElem?_append_left (by omega), List.getElem?_append_left e, ← List.getD_eq_getElem?_getD, ← List.getD_eq_getElem?_getD]
  exact Rb.kept (hr i e).1 (hr i e).2 hg.block hrow
 ·obtain rfl : i = L.length := by omega
  have e1 : (us ++ [u]).getD L.length undef = u := by rw [List.getD_eq_getElem?_getD, List.getElem?_append_right (by omega), hlen]; simp
  have e2 : (L ++ [l]).getD L.length [] = l := by rw [List.getD_eq_getElem?_getD, List.getElem?_append_right (by omega)]; simp
  rw [e1, e2]
  exact Rb.kept hb hrb hg.block hrow
def Rn (base : Nat) (w : World) (u : Value) : Prop := ∀ a n c, u = .slice (some a) n c → 0 < n → base ≤ a.block ∧ ∃ cur, w.heap[a.block]? = some (.cells cur 5 (0, 0))
def RwsN (base : Nat) (w : World) (v : Value) (L : List (List Int)) : Prop :=
 ∃ us, w.ownsRow base 25 1 v L.length us ∧ ∀ i, i < L.length → Bs w (us.getD i undef) (L.getD i []) ∧ Rn base w (us.getD i undef)
theorem RwsN.rws {base : Nat} {w : World} {v : Value} {L : List (List Int)} (h : RwsN base w v L) : Rws base w v L := by
 obtain ⟨us, h1, h2⟩ := h
 exact ⟨us, h1, fun i hi => ⟨(h2 i hi).1, fun a n c e hn => .inr ((h2 i hi).2 a n c e hn).2⟩⟩
theorem RwsN.bss {base : Nat} {w : World} {v : Value} {L : List (List Int)} (h : RwsN base w v L) : Bss w v L := h.rws.bss
theorem info22 : (Tryz.prog.info? 25).map (fun i => (i.zero, i.size, i.bytes)) = some (some (.slice none 0 0), 1, 24) := by kernel_rfl
end Go.Proofs.YtbbglejdfbkjlaaGreat
namespace Go.Proofs.YtbbglejdfbkjlaaGreat
open Go.RowKit
theorem ownsRow_form {w : World} {base : Nat} {e : TypeId} {v : Value} {n : Nat} {us : List Value} (h : w.ownsRow base e 1 v n us) : ∃ oa c, v = .slice oa n c := by
 obtain ⟨_, ⟨rfl, rfl⟩ | ⟨g, c, cur, rfl, _⟩⟩ := h
 ·exact ⟨_, _, rfl⟩
 ·exact ⟨_, _, rfl⟩
theorem Bs.form {w : World} {v : Value} {l : List Int} (h : Bs w v l) : ∃ oa c, v = .slice oa l.length c := by
 obtain ⟨_, oa, c, h, _⟩ := h
 exact ⟨oa, c, h⟩
end Go.Proofs.YtbbglejdfbkjlaaGreat
namespace Go.Proofs.YtbbglejdfbkjlaaGreat
open Go.RowKit
def mayL (L : List (List Int)) : Bool := L.all fun r => r.length == (L.getD 0 []).length && decide (r.length ≤ 64)
theorem mayL_false {L : List (List Int)} (i : Nat) (hi : i < L.length) (h : ¬ ((L.getD i []).length = (L.getD 0 []).length ∧ (L.getD i []).length ≤ 64)) : mayL L = false := by
 rw [← Bool.not_eq_true]
 intro c
 unfold mayL at c
 rw [List.all_eq_true] at c
 have := c (L.getD i []) (by rw [List.getD_eq_getElem?_getD, List.getElem?_eq_getElem hi]; exact List.getElem_mem hi)
 simp at this
 exact h (by simpa using this)
theorem mayL_true {L : List (List Int)} (h : ∀ i, i < L.length → (L.getD i []).length = (L.getD 0 []).length ∧ (L.getD i []).length ≤ 64) : mayL L = true := by
 unfold mayL
 rw [List.all_eq_true]
 intro r hr
 obtain ⟨i, hi, rfl⟩ := List.getElem_of_mem hr
 have := h i hi
 rw [List.getD_eq_getElem?_getD, List.getElem?_eq_getElem hi] at this
 simpa using this
theorem mayL_at {L : List (List Int)} (h : mayL L = true) (i : Nat) (hi : i < L.length) : (L.getD i []).length = (L.getD 0 []).length ∧ (L.getD i []).length ≤ 64 := by
 unfold mayL at h
 rw [List.all_eq_true] at h
 have := h (L.getD i []) (by rw [List.getD_eq_getElem?_getD, List.getElem?_eq_getElem hi]; exact List.getElem_mem hi)
 simpa using this
end Go.Proofs.YtbbglejdfbkjlaaGreat
namespace Go.Proofs.YtbbglejdfbkjlaaGreat
open Go.RowKit
theorem New.rb {w w' : World} {v : Value} {l : List Int} (h : New w w' v l) (base : Nat) : Rb base w' v := by
 intro a n c hv hn
 obtain ⟨_, _, ⟨rfl, oa, c', rfl, _⟩ | ⟨g, c', cur, rfl, _, h2, _⟩⟩ := h
 ·cases hv
  omega
 ·cases hv
  exact .inr ⟨cur, h2⟩
end Go.Proofs.YtbbglejdfbkjlaaGreat
