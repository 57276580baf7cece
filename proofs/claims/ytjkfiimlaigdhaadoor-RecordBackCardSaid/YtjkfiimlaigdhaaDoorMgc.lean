/-
  Texts laid behind one another: Rw Rk Aq Rl Re Cp Ss So Ev My Cs.
-/
import Derived.Test.YtjkfiimlaigdhaaDoorMgb
import Derived.Test.YtjkfiimlaigdhaaDoorMga
import Derived.Laws.AppendOwnNone
import Derived.Deep.AppendLies
import Derived.Deep.QuietTactic
import Derived.BigQuiet
namespace Go.Proofs.YtjkfiimlaigdhaaDoor
open Go.RowKit

theorem addZ_zero_left (a : Int) (ha : Byt a) : addZ 0 a = a := by
  unfold Byt at ha
  unfold addZ
  rw [show (0 : Int).toNat = 0 from rfl, Nat.zero_xor]
  omega
theorem mulZ_one_left (a : Int) (ha : Byt a) : mulZ 1 a = a := by rw [mulZ_comm, mulZ_one a ha]
theorem replicate_getD (n i : Nat) : (List.replicate n (0 : Int)).getD i 0 = 0 := by
  rw [List.getD_eq_getElem?_getD, List.getElem?_replicate]
  split <;> rfl
theorem Mine.bs {w w' : World} {e : Ending} {l : List Int} (h : Mine w w' e l) (hb : ∀ x ∈ l, Byt x) (hn : l.length ≤ 9223372036854775807) : ∃ v, e = .returned v ∧ Bs w' v l := by
  obtain ⟨g, he, _, hk, _⟩ := h
  exact ⟨_, he, Blk.bs hk l _ (Nat.le_refl _) (Nat.le_refl _) hn hb fun _ _ => rfl⟩

/-- What the first k places come to. -/
def dotL (x y : List Int) : Nat → Int
  | 0 => 0
  | k + 1 => addZ (dotL x y k) (mulZ (x.getD k 0) (y.getD k 0))
theorem dotL_byt (x y : List Int) : ∀ k, Byt (dotL x y k)
  | 0 => by unfold Byt; simp [dotL]
  | k + 1 => addZ_byt (dotL_byt x y k) (mulZ_byt _ _)
/-- Where a row begins: the place of the first that is not 0; -1: none. -/
def leadL : List Int → Int
  | [] => -1
  | a :: l => if a = 0 then (if leadL l = -1 then -1 else leadL l + 1) else 0
theorem leadL_ge : ∀ l, -1 ≤ leadL l
  | [] => by simp [leadL]
  | a :: l => by
    have := leadL_ge l
    unfold leadL
    split <;> (try split) <;> omega
theorem leadL_at : ∀ (l : List Int) (k : Nat), k < l.length → (∀ j, j < k → l.getD j 0 = 0) → l.getD k 0 ≠ 0 → leadL l = k
  | [], k, h, _, _ => by simp at h
  | a :: l, 0, _, _, h => by
    simp at h
    simp [leadL, h]
  | a :: l, k + 1, hk, h0, h => by
    have ha : a = 0 := by simpa using h0 0 (by omega)
    have := leadL_at l k (by simpa using hk) (fun j hj => by simpa using h0 (j + 1) (by omega)) (by simpa using h)
    subst ha
    have h2 := leadL_ge l
    simp only [leadL]
    rw [if_pos trivial, if_neg (by omega), this]
    omega
theorem leadL_none : ∀ (l : List Int), (∀ j, j < l.length → l.getD j 0 = 0) → leadL l = -1
  | [], _ => rfl
  | a :: l, h => by
    have ha : a = 0 := by simpa using h 0 (by simp)
    have := leadL_none l (fun j hj => by simpa using h (j + 1) (by simpa using hj))
    simp [leadL, ha, this]
end Go.Proofs.YtjkfiimlaigdhaaDoor
namespace Go.Proofs.YtjkfiimlaigdhaaDoor
open Go.RowKit

/-- v is new memory since w (or has no elements), and reads as l in w'. -/
def New (w w' : World) (v : Value) (l : List Int) : Prop :=
  Gr w w' ∧ (∀ x ∈ l, Byt x) ∧ ((l = [] ∧ ∃ oa c, v = .slice oa 0 c ∧ (oa = none → c = 0) ∧ c ≤ 9223372036854775807) ∨
    ∃ g c cur, v = .slice (some ⟨g, 0, none⟩) l.length c ∧ w.heap.size ≤ g ∧ w'.heap[g]? = some (.cells cur 5 (0, 0)) ∧ l.length ≤ c ∧ c ≤ 9223372036854775807 ∧ ∀ i, i < l.length → cur[i]? = some (.int .u8 (l.getD i 0)))
theorem New.bs {w w' : World} {v : Value} {l : List Int} (h : New w w' v l) : Bs w' v l := by
  obtain ⟨_, hb, h | h⟩ := h
  · obtain ⟨rfl, oa, c, rfl, h1, h2⟩ := h
    exact ⟨by simp, oa, c, rfl, by simp, h2, h1, fun a _ i hi => by simp at hi⟩
  · obtain ⟨g, c, cur, rfl, _, h2, h3, h4, h5⟩ := h
    exact ⟨hb, some ⟨g, 0, none⟩, c, rfl, h3, h4, (fun h => by cases h), fun a ha i hi => by
      cases ha
      rw [Addr.add_mid, Nat.zero_add, cell_of_row w' g i _ _ _ h2, h5 i hi]⟩
theorem New.grown {w w' : World} {v : Value} {l : List Int} (h : New w w' v l) : Gr w w' := h.1

def sumL (x y : List Int) : List Int := lst x.length fun i => addZ (x.getD i 0) (y.getD i 0)
def scaleL (c : Int) (x : List Int) : List Int := lst x.length fun i => mulZ c (x.getD i 0)
def axL (c : Int) (x y : List Int) : List Int := lst x.length fun i => addZ (y.getD i 0) (mulZ c (x.getD i 0))
def unitL (n at' : Nat) : List Int := lst n fun i => if i = at' then 1 else 0
theorem sumL_length (x y : List Int) : (sumL x y).length = x.length := lst_length _ _
theorem scaleL_length (c : Int) (x : List Int) : (scaleL c x).length = x.length := lst_length _ _
theorem axL_length (c : Int) (x y : List Int) : (axL c x y).length = x.length := lst_length _ _

/-- The contracts of package row. -/
structure RowOk : Prop where
/-- All of these read so. -/
def Al (w : World) (L : List (Value × List Int)) : Prop := ∀ p ∈ L, Bs w p.1 p.2
theorem Al.grown {w w' : World} {L : List (Value × List Int)} (h : Al w L) (hg : Gr w w') : Al w' L := fun p hp => Bs.grown (h p hp) hg
theorem Al.cons {w : World} {L : List (Value × List Int)} {v : Value} {l : List Int} (h : Bs w v l) (hL : Al w L) : Al w ((v, l) :: L) := fun p hp => by
  rcases List.mem_cons.1 hp with rfl | hp
  · exact h
  · exact hL p hp

theorem lit_bs1 {w : World} (l : List Int) (hb : ∀ x ∈ l, Byt x) (hn : l.length ≤ 1000) : Bs (w.alloc (.cells (rowB l) 5)) (.slice (some ⟨w.heap.size, 0, none⟩) l.length l.length) l :=
  Blk.bs (L := l) (heap_alloc_new _ _) l _ (Nat.le_refl _) (Nat.le_refl _) (by omega) hb fun _ _ => rfl
theorem lit_bs {w : World} (l m : List Int) (hb : ∀ x ∈ l, Byt x) (hn : l.length ≤ 1000) : Bs ((w.alloc (.cells (rowB l) 5)).alloc (.cells (rowB m) 5)) (.slice (some ⟨w.heap.size, 0, none⟩) l.length l.length) l :=
  Blk.bs (L := l) (heap_alloc2_old _ _ _) l _ (Nat.le_refl _) (Nat.le_refl _) (by omega) hb fun _ _ => rfl
theorem lit_bs2 {w : World} (l m : List Int) (hb : ∀ x ∈ m, Byt x) (hn : m.length ≤ 1000) : Bs ((w.alloc (.cells (rowB l) 5)).alloc (.cells (rowB m) 5)) (.slice (some ⟨w.heap.size + 1, 0, none⟩) m.length m.length) m :=
  Blk.bs (L := m) (heap_alloc2_new _ _ _) m _ (Nat.le_refl _) (Nat.le_refl _) (by omega) hb fun _ _ => rfl
end Go.Proofs.YtjkfiimlaigdhaaDoor
namespace Go.Proofs.YtjkfiimlaigdhaaDoor
open Go.RowKit

theorem Addr.add_add' (a : Addr) (m n : Nat) : (a.add m).add n = a.add (m + n) := by
  unfold Addr.add
  by_cases h1 : m = 0
  · subst h1
    simp
  · by_cases h2 : n = 0
    · subst h2
      simp
    · simp [h1, h2]
      omega
theorem _root_.Go.World.ownsRow.of_gr {w w' : World} {base : Nat} {e : TypeId} {size : Nat} {v : Value} {n : Nat} {xs : List Value} (h : w.ownsRow base e size v n xs) (hg : Gr w w') : w'.ownsRow base e size v n xs := by
  obtain ⟨h0, h1 | ⟨g, c, cur, rfl, hb, hgg, h2⟩⟩ := h
  · exact ⟨h0, .inl h1⟩
  · exact ⟨h0, .inr ⟨g, c, cur, rfl, hb, keptRow hg hgg, h2⟩⟩
theorem ownsRow_base {w : World} {base : Nat} {e : TypeId} {size : Nat} {v : Value} {n : Nat} {us : List Value} (h : w.ownsRow base e size v n us) : ∀ g, v.ownBlock = some g → base ≤ g := by
  intro g hg
  obtain ⟨_, ⟨rfl, _⟩ | ⟨g', c, cur, rfl, hb, _⟩⟩ := h
  · simp [Value.ownBlock] at hg
  · simp [Value.ownBlock] at hg
    omega
theorem run_append_in {P : Program} {w : World} (base : Nat) (t ty e : TypeId) (i : TypeInfo) (z : Value) (bytes : Nat) (ht : P.underlying t = some (.slice e)) (hi : P.info? e = some i) (hz : i.zero = some z)
    (hsize : i.size = 1) (hby : i.bytes = bytes) (hzs : z.cells.size = 1) (v : Value) (n : Nat) (xs : List Value) (hown : w.ownsRow base e 1 v n xs)
    (oa : Option Addr) (m c : Nat) (news : List Value) (hno : oa = none → m = 0 ∧ c = 0) (hl : news.length = m) (hnews : ∀ ad, oa = some ad → ∀ j u, news[j]? = some u → w.cell? (ad.add j) = some u) (h1 : ∀ u ∈ news, u.oneCell' = true)
    (h63 : n + m ≤ maxLen) (hbytes : (n + m) * bytes ≤ 140737488355328) (hbase : base ≤ w.heap.size) :
    ∃ v' w', (Builtin.append_ #[t, t] ty #[v, .slice oa m c]).run P w = .ok v' w' ∧ w'.ownsRow base e 1 v' (n + m) (xs ++ news) ∧ w.grownBy w' v.ownBlock := by
  cases oa with
  | none =>
    obtain ⟨rfl, rfl⟩ := hno rfl
    obtain rfl : news = [] := List.eq_nil_of_length_eq_zero hl
    refine ⟨v, w, run_append_owned_none (P := P) (w := w) base t ty e i 1 ht hi v n xs hown, by rw [List.append_nil]; exact hown, ⟨rfl, rfl, rfl, Nat.le_refl _, fun _ _ _ => rfl⟩⟩
  | some ad =>
    obtain ⟨v', w', hr, h2, h3, _⟩ := run_append_own (P := P) w base t ty e i z 1 bytes ht hi hz hsize hby hzs (by omega) v n xs hown ad m c news (by omega) (hnews ad rfl) h1 h63 hbytes hbase
    exact ⟨v', w', hr, h2, h3⟩
theorem wp_append_in {P : Program} {w : World} {o : Oper} {a : Act} {K : Act → World → Prop} {Q : Exit → Act → World → Prop} (s x : Operand) (t : TypeId)
    (ho : o.op = .call { callee := .builtin .append, args := #[s, x], argTypes := #[t, t] })
    (base : Nat) (e : TypeId) (i : TypeInfo) (z : Value) (bytes : Nat) (ht : P.underlying t = some (.slice e)) (hi : P.info? e = some i) (hz : i.zero = some z)
    (hsize : i.size = 1) (hby : i.bytes = bytes) (hzs : z.cells.size = 1) (v : Value) (n : Nat) (xs : List Value) (hs : a.eval s = v) (hown : w.ownsRow base e 1 v n xs)
    (oa : Option Addr) (m c : Nat) (news : List Value) (hx : a.eval x = .slice oa m c) (hno : oa = none → m = 0 ∧ c = 0) (hl : news.length = m) (hnews : ∀ ad, oa = some ad → ∀ j u, news[j]? = some u → w.cell? (ad.add j) = some u) (h1 : ∀ u ∈ news, u.oneCell' = true)
    (h63 : n + m ≤ maxLen) (hbytes : (n + m) * bytes ≤ 140737488355328) (hbase : base ≤ w.heap.size)
    (h : ∀ v' w', w'.ownsRow base e 1 v' (n + m) (xs ++ news) → w.grownBy w' v.ownBlock → K (a.put o.dst v') w') : o.wp P a w K Q := by
  obtain ⟨v', w', hr, h2, h3⟩ := run_append_in (P := P) (w := w) base t o.type e i z bytes ht hi hz hsize hby hzs v n xs hown oa m c news hno hl hnews h1 h63 hbytes hbase
  unfold Oper.wp execOp
  simp only [ho, resolve, invoke, builtin, Sem.run_bind, Sem.run_pure, Result.andThen_ok, List.map_toArray, List.map_cons, List.map_nil, hs, hx, hr]
  exact h v' w' h2 h3
theorem wpList_append_in {P : Program} {w : World} {ops : Array Oper} {rest : List Oper} {o : Oper} {a : Act} {Q : Exit → Act → World → Prop} (hgd : o.guard = none) (s x : Operand) (t : TypeId)
    (ho : o.op = .call { callee := .builtin .append, args := #[s, x], argTypes := #[t, t] })
    (base : Nat) (e : TypeId) (i : TypeInfo) (z : Value) (bytes : Nat) (ht : P.underlying t = some (.slice e)) (hi : P.info? e = some i) (hz : i.zero = some z)
    (hsize : i.size = 1) (hby : i.bytes = bytes) (hzs : z.cells.size = 1) (v : Value) (n : Nat) (xs : List Value) (hs : a.eval s = v) (hown : w.ownsRow base e 1 v n xs)
    (oa : Option Addr) (m c : Nat) (news : List Value) (hx : a.eval x = .slice oa m c) (hno : oa = none → m = 0 ∧ c = 0) (hl : news.length = m) (hnews : ∀ ad, oa = some ad → ∀ j u, news[j]? = some u → w.cell? (ad.add j) = some u) (h1 : ∀ u ∈ news, u.oneCell' = true)
    (h63 : n + m ≤ maxLen) (hbytes : (n + m) * bytes ≤ 140737488355328) (hbase : base ≤ w.heap.size)
    (h : ∀ v' w', w'.ownsRow base e 1 v' (n + m) (xs ++ news) → w.grownBy w' v.ownBlock → wpList P ops Q rest (a.put o.dst v') w') : wpList P ops Q (o :: rest) a w :=
  wpList_plain hgd fun _ hK => wp_append_in s x t ho base e i z bytes ht hi hz hsize hby hzs v n xs hs hown oa m c news hx hno hl hnews h1 h63 hbytes hbase fun v' w' h2 h3 => hK _ _ (h v' w' h2 h3)
theorem step_append_in {P : Program} {w : World} {ops : Array Oper} {o : Oper} {a : Act} {K : Act → World → Prop} {Q : Exit → Act → World → Prop} {E : Prop} (hgd : o.guard = none) (s x : Operand) (t : TypeId)
    (ho : o.op = .call { callee := .builtin .append, args := #[s, x], argTypes := #[t, t] })
    (base : Nat) (e : TypeId) (i : TypeInfo) (z : Value) (bytes : Nat) (ht : P.underlying t = some (.slice e)) (hi : P.info? e = some i) (hz : i.zero = some z)
    (hsize : i.size = 1) (hby : i.bytes = bytes) (hzs : z.cells.size = 1) (v : Value) (n : Nat) (xs : List Value) (hs : a.eval s = v) (hown : w.ownsRow base e 1 v n xs)
    (oa : Option Addr) (m c : Nat) (news : List Value) (hx : a.eval x = .slice oa m c) (hno : oa = none → m = 0 ∧ c = 0) (hl : news.length = m) (hnews : ∀ ad, oa = some ad → ∀ j u, news[j]? = some u → w.cell? (ad.add j) = some u) (h1 : ∀ u ∈ news, u.oneCell' = true)
    (h63 : n + m ≤ maxLen) (hbytes : (n + m) * bytes ≤ 140737488355328) (hbase : base ≤ w.heap.size)
    (h : ∀ v' w', w'.ownsRow base e 1 v' (n + m) (xs ++ news) → w.grownBy w' v.ownBlock → K (a.put o.dst v') w') :
    if Region.wanted o (yielded ops a.tmps) = true then Oper.wp P o a w K Q else E := by
  have hw : Region.wanted o (yielded ops a.tmps) = true := by simp [Region.wanted, hgd]
  rw [if_pos hw]
  exact wp_append_in s x t ho base e i z bytes ht hi hz hsize hby hzs v n xs hs hown oa m c news hx hno hl hnews h1 h63 hbytes hbase h
end Go.Proofs.YtjkfiimlaigdhaaDoor
namespace Go.Proofs.YtjkfiimlaigdhaaDoor
open Go.RowKit

theorem Bs.slice {w : World} {a : Addr} {m cap : Nat} {t : List Int} (h : Bs w (.slice (some a) m cap) t) (hm : t.length = m) (lo hi : Nat) (h1 : lo ≤ hi) (h2 : hi ≤ m) :
    Bs w (.slice (if cap = lo then some a else some (a.add lo)) (hi - lo) (cap - lo)) ((t.drop lo).take (hi - lo)) := by
  obtain ⟨hb, oa, c, he, h3, h4, h5, h6⟩ := h
  cases he
  have hlen : ((t.drop lo).take (hi - lo)).length = hi - lo := by simp; omega
  refine ⟨fun x hx => hb x (List.mem_of_mem_drop (List.mem_of_mem_take hx)), _, cap - lo, by rw [hlen], by rw [hlen]; omega, by omega, ?_, ?_⟩
  · intro hn
    split at hn <;> cases hn
  · intro a' ha i hi2
    rw [hlen] at hi2
    rw [if_neg (by omega)] at ha
    cases ha
    rw [Addr.add_add', h6 a rfl (lo + i) (by omega)]
    congr 2
    rw [List.getD_eq_getElem?_getD, List.getD_eq_getElem?_getD, List.getElem?_take_of_lt hi2, List.getElem?_drop]
theorem Bs.pre {w : World} {a : Addr} {m cap : Nat} {t : List Int} (h : Bs w (.slice (some a) m cap) t) (hm : t.length = m) (n : Nat) (hn : n ≤ m) : Bs w (.slice (some a) n cap) (t.take n) := by
  obtain ⟨hb, oa, c, he, h3, h4, h5, h6⟩ := h
  cases he
  have hlen : (t.take n).length = n := by rw [List.length_take]; omega
  refine ⟨fun x hx => hb x (List.mem_of_mem_take hx), some a, cap, by rw [hlen], by rw [hlen]; omega, h4, (fun h => by cases h), fun a' ha i hi => ?_⟩
  cases ha
  rw [hlen] at hi
  rw [h6 a rfl i (by omega), List.getD_eq_getElem?_getD, List.getD_eq_getElem?_getD, List.getElem?_take_of_lt hi]
theorem same_eq {va vb : Value} {x y : List Int} {w : World} (ha : Bs w va x) (hb : Bs w vb y) (he : x = y) :
    Calls Tryd.prog 14 #[va, vb] w fun e w' => e = .returned (.bool true) ∧ Gr w w' :=
  (same_any va vb x y w ha hb).mono fun _ _ ⟨h, hg⟩ => ⟨by rw [h, he]; simp, hg⟩
theorem ext_getD {x y : List Int} (hl : x.length = y.length) (h : ∀ i, i < x.length → x.getD i 0 = y.getD i 0) : x = y := eq_of_getD hl.symm h
theorem sumL_getD (x y : List Int) (i : Nat) (h : i < x.length) : (sumL x y).getD i 0 = addZ (x.getD i 0) (y.getD i 0) := lst_getD _ _ i h
theorem scaleL_getD (c : Int) (x : List Int) (i : Nat) (h : i < x.length) : (scaleL c x).getD i 0 = mulZ c (x.getD i 0) := lst_getD _ _ i h
theorem axL_getD (c : Int) (x y : List Int) (i : Nat) (h : i < x.length) : (axL c x y).getD i 0 = addZ (y.getD i 0) (mulZ c (x.getD i 0)) := lst_getD _ _ i h
theorem sumL_comm (A B : List Int) (h : A.length = B.length) : sumL A B = sumL B A :=
  ext_getD (by simp [sumL_length, h]) fun i hi => by
    rw [sumL_length] at hi
    rw [sumL_getD _ _ _ hi, sumL_getD _ _ _ (by omega), addZ_comm]
theorem addZ_zero (a : Int) (ha : Byt a) : addZ a 0 = a := by rw [addZ_comm, addZ_zero_left a ha]
theorem sumL_twice (A B : List Int) (hb : ∀ i, Byt (A.getD i 0)) : sumL (sumL A B) B = A :=
  ext_getD (by simp [sumL_length]) fun i hi => by
    rw [sumL_length, sumL_length] at hi
    rw [sumL_getD _ _ _ (by rw [sumL_length]; exact hi), sumL_getD _ _ _ hi, addZ_assoc, addZ_self, addZ_zero _ (hb i)]
theorem axL_sum (c : Int) (A B E : List Int) (h : A.length = B.length) (h2 : A.length = E.length) (hA : ∀ i, Byt (A.getD i 0)) (hB : ∀ i, Byt (B.getD i 0)) : axL c (sumL A B) E = axL c B (axL c A E) :=
  ext_getD (by simp [sumL_length, axL_length, h]) fun i hi => by
    rw [axL_length, sumL_length] at hi
    rw [axL_getD _ _ _ _ (by rw [sumL_length]; exact hi), axL_getD _ _ _ _ (by omega), axL_getD _ _ _ _ hi, sumL_getD _ _ _ hi, mulZ_addZ _ _ _ (hA i) (hB i), addZ_assoc]
theorem scaleL_scale (c d : Int) (A : List Int) : scaleL c (scaleL d A) = scaleL (mulZ c d) A :=
  ext_getD (by simp [scaleL_length]) fun i hi => by
    rw [scaleL_length, scaleL_length] at hi
    rw [scaleL_getD _ _ _ (by rw [scaleL_length]; exact hi), scaleL_getD _ _ _ hi, scaleL_getD _ _ _ hi, mulZ_assoc]

theorem within_gr (x n : Int) (h1 : 1 ≤ n) (h2 : n ≤ 1000000) (w : World) :
    Calls Tryd.prog 9 #[.int .i64 x, .int .i64 n] w fun e w' => e = .returned (.int .i64 (x % n)) ∧ Gr w w' :=
  (within_any x n h1 h2 w).mono fun _ _ ⟨he, hw⟩ => ⟨he, hw ▸ Gr.refl _⟩
theorem Bs.cell_at {w : World} {a : Addr} {n c : Nat} {A : List Int} (h : Bs w (.slice (some a) n c) A) (i : Nat) (hi : i < A.length) : w.cell? (a.add i) = some (.int .u8 (A.getD i 0)) := by
  obtain ⟨_, oa, c', he, _, _, _, h6⟩ := h
  obtain ⟨rfl, _, _⟩ : some a = oa ∧ n = A.length ∧ c = c' := by simpa using he
  exact h6 a rfl i hi
theorem unitL_length (n k : Nat) : (unitL n k).length = n := lst_length _ _
theorem addZ_swap (a b c d : Int) : addZ (addZ a b) (addZ c d) = addZ (addZ a c) (addZ b d) := by
  rw [addZ_assoc, ← addZ_assoc b, addZ_comm b c, addZ_assoc c, ← addZ_assoc]
theorem dot_axpy (c : Int) (A B E : List Int) (hA : ∀ i, Byt (A.getD i 0)) (hB : ∀ i, Byt (B.getD i 0)) (hE : ∀ i, Byt (E.getD i 0)) :
    ∀ k, k ≤ A.length → dotL (axL c A B) E k = addZ (mulZ c (dotL E A k)) (dotL B E k)
  | 0, _ => by simp [dotL, mulZ_zero, addZ_self]
  | k + 1, h => by
    have ih := dot_axpy c A B E hA hB hE k (by omega)
    have e1 : mulZ (addZ (B.getD k 0) (mulZ c (A.getD k 0))) (E.getD k 0) = addZ (mulZ c (mulZ (E.getD k 0) (A.getD k 0))) (mulZ (B.getD k 0) (E.getD k 0)) := by
      rw [mulZ_comm _ (E.getD k 0), mulZ_addZ _ _ _ (hB k) (mulZ_byt _ _), addZ_comm, mulZ_comm (E.getD k 0) (B.getD k 0), mulZ_comm (E.getD k 0) (mulZ c _), mulZ_assoc, mulZ_comm (A.getD k 0)]
    simp only [dotL]
    rw [ih, axL_getD _ _ _ _ (by omega), e1, mulZ_addZ _ _ _ (dotL_byt _ _ _) (mulZ_byt _ _), addZ_swap]
theorem unitL_getD (n k i : Nat) (h : i < n) : (unitL n k).getD i 0 = if i = k then 1 else 0 := lst_getD _ _ i h
theorem dot_unit (n k : Nat) (A : List Int) (hA : ∀ i, Byt (A.getD i 0)) (hk : k < n) : ∀ j, j ≤ n → dotL (unitL n k) A j = if k < j then A.getD k 0 else 0
  | 0, _ => by simp [dotL]
  | j + 1, h => by
    have ih := dot_unit n k A hA hk j (by omega)
    simp only [dotL]
    rw [ih, unitL_getD _ _ _ (by omega)]
    by_cases e : j = k
    · subst e
      rw [if_neg (by omega), if_pos rfl, if_pos (by omega), mulZ_one_left _ (hA j), addZ_zero_left _ (hA j)]
    · rw [if_neg e, mulZ_comm 0, mulZ_zero]
      by_cases h2 : k < j
      · rw [if_pos h2, if_pos (by omega), addZ_zero _ (hA k)]
      · rw [if_neg h2, if_neg (by omega)]
        exact addZ_self 0

end Go.Proofs.YtjkfiimlaigdhaaDoor
namespace Go.Proofs.YtjkfiimlaigdhaaDoor
open Go.RowKit

/-- Since w0 only new memory was made; f is a Field; the values of L read as their lists; the blocks of K hold their bytes. -/
def Env (w0 w : World) (f : Value) (L : List (Value × List Int)) (K : List (Nat × List Int)) : Prop := St w0 w f ∧ Al w L ∧ ∀ p ∈ K, Blk w p.1 p.2
theorem Env.step {w0 w w' : World} {f : Value} {L : List (Value × List Int)} {K : List (Nat × List Int)} (h : Env w0 w f L K) (hg : Gr w w') : Env w0 w' f L K :=
  ⟨St.step h.1 hg, Al.grown h.2.1 hg, fun p hp => Blk.grown (h.2.2 p hp) hg⟩
theorem Env.add {w0 w : World} {f v : Value} {l : List Int} {L : List (Value × List Int)} {K : List (Nat × List Int)} (h : Env w0 w f L K) (hb : Bs w v l) : Env w0 w f ((v, l) :: L) K :=
  ⟨h.1, Al.cons hb h.2.1, h.2.2⟩
theorem Env.addK {w0 w : World} {f : Value} {g : Nat} {l : List Int} {L : List (Value × List Int)} {K : List (Nat × List Int)} (h : Env w0 w f L K) (hb : Blk w g l) : Env w0 w f L ((g, l) :: K) :=
  ⟨h.1, h.2.1, fun p hp => by
    rcases List.mem_cons.1 hp with rfl | hp
    · exact hb
    · exact h.2.2 p hp⟩
theorem Env.f {w0 w : World} {f : Value} {L : List (Value × List Int)} {K : List (Nat × List Int)} (h : Env w0 w f L K) : IsF w f := h.1.2
theorem Env.bs {w0 w : World} {f : Value} {L : List (Value × List Int)} {K : List (Nat × List Int)} (h : Env w0 w f L K) (v : Value) (l : List Int) (hm : (v, l) ∈ L) : Bs w v l := h.2.1 (v, l) hm
theorem Env.blk {w0 w : World} {f : Value} {L : List (Value × List Int)} {K : List (Nat × List Int)} (h : Env w0 w f L K) (g : Nat) (l : List Int) (hm : (g, l) ∈ K) : Blk w g l := h.2.2 (g, l) hm
theorem New.empty {w w' : World} {v : Value} (h : New w w' v []) : ∃ oa c, v = .slice oa 0 c := by
  obtain ⟨_, _, h | h⟩ := h
  · obtain ⟨_, oa, c, rfl, _⟩ := h
    exact ⟨oa, c, rfl⟩
  · obtain ⟨g, c, _, rfl, _⟩ := h
    exact ⟨_, c, rfl⟩
theorem New.shape {w w' : World} {v : Value} {l : List Int} (h : New w w' v l) (hl : 0 < l.length) : ∃ g c, v = .slice (some ⟨g, 0, none⟩) l.length c ∧ l.length ≤ c ∧ c ≤ 9223372036854775807 := by
  obtain ⟨_, _, h | h⟩ := h
  · obtain ⟨rfl, _⟩ := h
    simp at hl
  · obtain ⟨g, c, _, rfl, _, _, h1, h2, _⟩ := h
    exact ⟨g, c, rfl, h1, h2⟩
theorem Mine.out {w w' : World} {e : Ending} {l : List Int} (h : Mine w w' e l) (hb : ∀ x ∈ l, Byt x) (hn : l.length ≤ 9223372036854775807) : ∃ v, e = .returned v ∧ Bs w' v l ∧ Gr w w' := by
  obtain ⟨g, he, _, hk, hg⟩ := h
  exact ⟨_, he, Blk.bs hk l _ (Nat.le_refl _) (Nat.le_refl _) hn hb fun _ _ => rfl, hg⟩
theorem leadL_unit (n k : Nat) (h : k < n) : leadL (unitL n k) = k :=
  leadL_at _ k (by rw [unitL_length]; exact h) (fun j hj => by rw [unitL_getD _ _ _ (by omega), if_neg (by omega)]) (by rw [unitL_getD _ _ _ h, if_pos rfl]; omega)
theorem leadL_behind (n k m : Nat) (h : k < n) : leadL (((unitL n k).drop (k + 1)).take m) = -1 :=
  leadL_none _ fun j hj => by
    have : j < m ∧ k + 1 + j < n := by
      rw [List.length_take, List.length_drop, unitL_length] at hj
      omega
    rw [List.getD_eq_getElem?_getD, List.getElem?_take_of_lt this.1, List.getElem?_drop, ← List.getD_eq_getElem?_getD, unitL_getD _ _ _ this.2, if_neg (by omega)]
end Go.Proofs.YtjkfiimlaigdhaaDoor
namespace Go.Proofs.YtjkfiimlaigdhaaDoor
open Go.RowKit

/-- What an owned row of bytes reads as. -/
theorem New.of_owns {w0 w : World} {g cap : Nat} {l : List Int} (hg : Gr w0 w) (hb : ∀ x ∈ l, Byt x) (h : w.ownsRow w0.heap.size 5 1 (.slice (some ⟨g, 0, none⟩) l.length cap) l.length (l.map (Value.int .u8))) : w0.heap.size ≤ g ∧ New w0 w (.slice (some ⟨g, 0, none⟩) l.length cap) l := by
  obtain ⟨_, h | h⟩ := h
  · simp at h
  · obtain ⟨g', cap', cur, he, h1, h2, h3, h4, _, h5⟩ := h
    simp only [Value.slice.injEq, Option.some.injEq, Addr.mk.injEq, and_true, true_and] at he
    obtain ⟨rfl, rfl⟩ := he
    refine ⟨h1, hg, hb, Or.inr ⟨g, cap, cur, rfl, h1, h2, h3, by unfold maxLen at h4; omega, fun i hi => ?_⟩⟩
    rw [Nat.mul_one] at h5
    have : (cur.toList.take l.length)[i]? = (l.map (Value.int .u8))[i]? := by rw [h5]
    rw [List.getElem?_take_of_lt hi] at this
    simpa [hi] using this
end Go.Proofs.YtjkfiimlaigdhaaDoor
namespace Go.Proofs.YtjkfiimlaigdhaaDoor
open Go.RowKit

/-- v is a slice of slices of bytes that reads as L in w. -/
def Bss (w : World) (v : Value) (L : List (List Int)) : Prop :=
  ∃ oa c, v = .slice oa L.length c ∧ L.length ≤ c ∧ c ≤ 9223372036854775807 ∧ (oa = none → c = 0) ∧ ∀ a, oa = some a → ∀ i, i < L.length → ∃ u, w.cell? (a.add i) = some u ∧ Bs w u (L.getD i [])
theorem Bss.nil (w : World) : Bss w (.slice none 0 0) [] := ⟨none, 0, rfl, by simp, by omega, fun _ => rfl, fun a h => by cases h⟩
theorem Bss.grown {w w' : World} {v : Value} {L : List (List Int)} (h : Bss w v L) (hg : Gr w w') : Bss w' v L := by
  obtain ⟨oa, c, h1, h2, h3, h4, h5⟩ := h
  refine ⟨oa, c, h1, h2, h3, h4, fun a ha i hi => ?_⟩
  obtain ⟨u, hu, hb⟩ := h5 a ha i hi
  exact ⟨u, cell_grown hg hu, Bs.grown hb hg⟩
theorem Bss.at {w : World} {v : Value} {L : List (List Int)} (h : Bss w v L) (hl : 0 < L.length) :
    ∃ a c, v = .slice (some a) L.length c ∧ L.length ≤ c ∧ c ≤ 9223372036854775807 ∧ ∀ i, i < L.length → ∃ u, w.cell? (a.add i) = some u ∧ Bs w u (L.getD i []) := by
  obtain ⟨oa, c, h1, h2, h3, h4, h5⟩ := h
  cases oa with
  | none => exact absurd (h4 rfl) (by omega)
  | some a => exact ⟨a, c, h1, h2, h3, h5 a rfl⟩
theorem eq_of_getL {x y : List (List Int)} (hl : y.length = x.length) (h : ∀ j, j < x.length → x.getD j [] = y.getD j []) : x = y := by
  apply List.ext_getElem hl.symm
  intro j h1 h2
  have := h j h1
  rw [List.getD_eq_getElem?_getD, List.getD_eq_getElem?_getD, List.getElem?_eq_getElem h1, List.getElem?_eq_getElem h2] at this
  simpa using this

theorem Two.gr {wr w1 : World} {P Q : Prop} (h : P ∧ Q ∧ Hid (Gr wr w1)) : Gr wr w1 := h.2.2.out
theorem Two.keep {wr w1 w2 : World} {a b : Addr} {u v : Value} (h : w1.cell? a = some u ∧ w1.cell? b = some v ∧ Hid (Gr wr w1)) (hg : Gr w1 w2) : w2.cell? a = some u ∧ w2.cell? b = some v ∧ Hid (Gr wr w2) :=
  ⟨cell_grown hg h.1, cell_grown hg h.2.1, Lib.hid (Gr.trans h.2.2.out hg)⟩
end Go.Proofs.YtjkfiimlaigdhaaDoor
namespace Go.Proofs.YtjkfiimlaigdhaaDoor
open Go.RowKit

/-- The row u has no cell in a block that is not of bytes, unless that is below base. -/
def Rb (base : Nat) (w : World) (u : Value) : Prop := ∀ a n c, u = .slice (some a) n c → 0 < n → a.block < base ∨ ∃ cur, w.heap[a.block]? = some (.cells cur 5 (0, 0))
/-- v is a slice of rows in memory from base on, and reads as L in w. -/
def Rws (base : Nat) (w : World) (v : Value) (L : List (List Int)) : Prop :=
  ∃ us, w.ownsRow base 25 1 v L.length us ∧ ∀ i, i < L.length → Bs w (us.getD i undef) (L.getD i []) ∧ Rb base w (us.getD i undef)
theorem Rws.nil (base : Nat) (w : World) : Rws base w (.slice none 0 0) [] := ⟨[], World.ownsRow_nil w base 25 1, fun i hi => absurd hi (by simp)⟩
theorem ownsRow_cell {w : World} {base : Nat} {e : TypeId} {v : Value} {n : Nat} {us : List Value} (h : w.ownsRow base e 1 v n us) (hn : 0 < n) :
    ∃ g c, v = .slice (some ⟨g, 0, none⟩) n c ∧ n ≤ c ∧ c ≤ maxLen ∧ base ≤ g ∧ us.length = n ∧ ∀ i, i < n → w.cell? ⟨g, i, none⟩ = some (us.getD i undef) := by
  obtain ⟨hl, ⟨_, h0⟩ | ⟨g, c, cur, rfl, hb, hg, h1, h2, h3, h4⟩⟩ := h
  · omega
  · refine ⟨g, c, rfl, h1, h2, hb, by omega, fun i hi => ?_⟩
    rw [cell_of_row w g i _ _ _ hg, ← h4]
    rw [Nat.mul_one] at h3 ⊢
    have hi2 : i < cur.toList.length := by simp; omega
    rw [List.getD_eq_getElem?_getD, List.getElem?_take_of_lt hi]
    simp [show i < cur.size by omega]
theorem Rws.bss {base : Nat} {w : World} {v : Value} {L : List (List Int)} (h : Rws base w v L) : Bss w v L := by
  obtain ⟨us, ho, hr⟩ := h
  by_cases h0 : 0 < L.length
  · obtain ⟨g, c, rfl, h1, h2, _, _, h3⟩ := ownsRow_cell ho h0
    refine ⟨some ⟨g, 0, none⟩, c, rfl, h1, by unfold maxLen at h2; omega, (fun h => by cases h), fun a ha i hi => ?_⟩
    cases ha
    rw [Addr.add_mid, Nat.zero_add]
    exact ⟨_, h3 i hi, (hr i hi).1⟩
  · obtain rfl : L = [] := List.eq_nil_of_length_eq_zero (by omega)
    obtain ⟨_, ⟨rfl, _⟩ | ⟨g, c, cur, rfl, hb, hg, h1, h2, h3, h4⟩⟩ := ho
    · exact Bss.nil w
    · exact ⟨some ⟨g, 0, none⟩, c, rfl, h1, by unfold maxLen at h2; omega, (fun h => by cases h), fun a ha i hi => by simp at hi⟩
/-- Where all but one block is as it was, and that one holds no bytes and lies from base on, rows are as they were. -/
theorem Rb.kept {base : Nat} {w w' : World} {u : Value} {l : List Int} {row : Option Nat} (hb : Bs w u l) (hr : Rb base w u)
    (hk : ∀ k, k < w.heap.size → some k ≠ row → w'.heap[k]? = w.heap[k]?) (hrow : ∀ g, row = some g → base ≤ g ∧ ∀ cur, w.heap[g]? ≠ some (.cells cur 5 (0, 0))) : Bs w' u l ∧ Rb base w' u := by
  have far : ∀ a n c, u = .slice (some a) n c → 0 < n → a.block < w.heap.size → w'.heap[a.block]? = w.heap[a.block]? := by
    intro a n c hu hn hlt
    refine hk _ hlt fun e => ?_
    obtain ⟨h1, h2⟩ := hrow a.block e.symm
    rcases hr a n c hu hn with h | ⟨cur, h⟩
    · omega
    · exact h2 cur h
  obtain ⟨h0, oa, c, rfl, h2, h3, h4, h5⟩ := hb
  refine ⟨⟨h0, oa, c, rfl, h2, h3, h4, fun a ha i hi => ?_⟩, fun a n c' hu hn => ?_⟩
  · have hc := h5 a ha i hi
    subst ha
    have hlt := World.block_lt_of_cell? w _ hc
    have hbl : (a.add i).block = a.block := by unfold Addr.add; split <;> rfl
    rw [hbl] at hlt
    rw [World.cell?_of_block (w := w) (w' := w') (a := a.add i) (by rw [hbl]; exact far a _ _ rfl (by omega) hlt)]
    exact hc
  · rcases hr a n c' hu hn with h | ⟨cur, h⟩
    · exact .inl h
    · refine .inr ⟨cur, ?_⟩
      have hlt : a.block < w.heap.size := by
        rcases Nat.lt_or_ge a.block w.heap.size with hlt | hge
        · exact hlt
        · rw [Array.getElem?_eq_none hge] at h
          cases h
      rw [far a n c' hu hn hlt, h]
theorem Rb.gr {base : Nat} {w w' : World} {u : Value} {l : List Int} (hb : Bs w u l) (hr : Rb base w u) (hg : Gr w w') : Bs w' u l ∧ Rb base w' u :=
  Rb.kept (row := none) hb hr (fun k hk _ => hg.2.2.2.2 k hk) (fun g h => by cases h)
theorem ownsRow_not_bytes {w : World} {base : Nat} {v : Value} {n : Nat} {us : List Value} (h : w.ownsRow base 25 1 v n us) : ∀ g, v.ownBlock = some g → base ≤ g ∧ ∀ cur, w.heap[g]? ≠ some (.cells cur 5 (0, 0)) := by
  intro g hg
  obtain ⟨_, ⟨rfl, _⟩ | ⟨g', c, cur, rfl, hb, hgg, _⟩⟩ := h
  · cases hg
  · simp [Value.ownBlock] at hg
    subst hg
    refine ⟨hb, fun cur' => ?_⟩
    rw [hgg]
    simp
/-- Behind an append of one row. -/
theorem Rws.append {base : Nat} {w w' : World} {v v' u : Value} {L : List (List Int)} {l : List Int} {us : List Value} (ho : w.ownsRow base 25 1 v L.length us) (hr : ∀ i, i < L.length → Bs w (us.getD i undef) (L.getD i []) ∧ Rb base w (us.getD i undef))
    (hb : Bs w u l) (hrb : Rb base w u) (hown : w'.ownsRow base 25 1 v' (L.length + 1) (us ++ [u])) (hg : w.grownBy w' v.ownBlock) : Rws base w' v' (L ++ [l]) := by
  have hlen : us.length = L.length := by have := ho.1; omega
  have hrow := ownsRow_not_bytes ho
  refine ⟨us ++ [u], by rw [List.length_append]; exact hown, fun i hi => ?_⟩
  rw [List.length_append, List.length_singleton] at hi
  by_cases e : i < L.length
  · rw [List.getD_eq_getElem?_getD, List.getD_eq_getElem?_getD, List.getElem?_append_left (by omega), List.getElem?_append_left e, ← List.getD_eq_getElem?_getD, ← List.getD_eq_getElem?_getD]
    exact Rb.kept (hr i e).1 (hr i e).2 hg.block hrow
  · obtain rfl : i = L.length := by omega
    have e1 : (us ++ [u]).getD L.length undef = u := by rw [List.getD_eq_getElem?_getD, List.getElem?_append_right (by omega), hlen]; simp
    have e2 : (L ++ [l]).getD L.length [] = l := by rw [List.getD_eq_getElem?_getD, List.getElem?_append_right (by omega)]; simp
    rw [e1, e2]
    exact Rb.kept hb hrb hg.block hrow
/-- The row lies in memory of bytes, from base on. -/
def Rn (base : Nat) (w : World) (u : Value) : Prop := ∀ a n c, u = .slice (some a) n c → 0 < n → base ≤ a.block ∧ ∃ cur, w.heap[a.block]? = some (.cells cur 5 (0, 0))
/-- v is a slice of rows, all of it in memory from base on, and reads as L in w. -/
def RwsN (base : Nat) (w : World) (v : Value) (L : List (List Int)) : Prop :=
  ∃ us, w.ownsRow base 25 1 v L.length us ∧ ∀ i, i < L.length → Bs w (us.getD i undef) (L.getD i []) ∧ Rn base w (us.getD i undef)
theorem RwsN.rws {base : Nat} {w : World} {v : Value} {L : List (List Int)} (h : RwsN base w v L) : Rws base w v L := by
  obtain ⟨us, h1, h2⟩ := h
  exact ⟨us, h1, fun i hi => ⟨(h2 i hi).1, fun a n c e hn => .inr ((h2 i hi).2 a n c e hn).2⟩⟩
theorem RwsN.bss {base : Nat} {w : World} {v : Value} {L : List (List Int)} (h : RwsN base w v L) : Bss w v L := h.rws.bss
theorem info22 : (Tryd.prog.info? 25).map (fun i => (i.zero, i.size, i.bytes)) = some (some (.slice none 0 0), 1, 24) := by kernel_rfl
end Go.Proofs.YtjkfiimlaigdhaaDoor
namespace Go.Proofs.YtjkfiimlaigdhaaDoor
open Go.RowKit

/-- The first k rows of n bytes each. -/
def chunk (n : Nat) (l : List Int) (k : Nat) : List (List Int) := (List.range k).map fun i => (l.drop (n * i)).take n
theorem chunk_length (n : Nat) (l : List Int) (k : Nat) : (chunk n l k).length = k := by simp [chunk]
theorem chunk_succ (n : Nat) (l : List Int) (k : Nat) : chunk n l (k + 1) = chunk n l k ++ [(l.drop (n * k)).take n] := by
  simp [chunk, List.range_succ]
/-- How many rows there are. -/
def evenN (n : Nat) (l : List Int) : Nat := min 14 (l.length / n)
def evenL (n : Nat) (l : List Int) : List (List Int) := chunk n l (evenN n l)
theorem Bs.drop {w : World} {a : Addr} {m cap : Nat} {t : List Int} (h : Bs w (.slice (some a) m cap) t) (hm : t.length = m) (n : Nat) (hn : n ≤ m) :
    Bs w (.slice (if cap = n then some a else some (a.add n)) (m - n) (cap - n)) (t.drop n) := by
  have := Bs.slice h hm n m hn (Nat.le_refl _)
  rwa [List.take_of_length_le (by simp; omega)] at this
theorem Bs.head {w : World} {a : Addr} {m cap : Nat} {t : List Int} (h : Bs w (.slice (some a) m cap) t) (hm : t.length = m) (n : Nat) (hn : n ≤ m) :
    Bs w (.slice (some a) n n) (t.take n) := by
  obtain ⟨hb, oa, c, he, h3, h4, h5, h6⟩ := h
  cases he
  have hlen : (t.take n).length = n := by rw [List.length_take]; omega
  refine ⟨fun x hx => hb x (List.mem_of_mem_take hx), some a, n, by rw [hlen], by omega, by omega, (fun h => by cases h), fun a' ha i hi => ?_⟩
  cases ha
  rw [hlen] at hi
  rw [h6 a rfl i (by omega), List.getD_eq_getElem?_getD, List.getD_eq_getElem?_getD, List.getElem?_take_of_lt hi]
theorem Bs.low {w : World} {a : Addr} {n c : Nat} {l : List Int} (h : Bs w (.slice (some a) n c) l) (hn : 0 < n) : a.block < w.heap.size := by
  obtain ⟨_, oa, c', he, _, _, _, h6⟩ := h
  obtain ⟨rfl, rfl, _⟩ : some a = oa ∧ n = l.length ∧ c = c' := by simpa using he
  have := World.block_lt_of_cell? w _ (h6 a rfl 0 hn)
  have hbl : (a.add 0).block = a.block := by unfold Addr.add; split <;> rfl
  rwa [hbl] at this
theorem ownsRow_form {w : World} {base : Nat} {e : TypeId} {v : Value} {n : Nat} {us : List Value} (h : w.ownsRow base e 1 v n us) : ∃ oa c, v = .slice oa n c := by
  obtain ⟨_, ⟨rfl, rfl⟩ | ⟨g, c, cur, rfl, _⟩⟩ := h
  · exact ⟨_, _, rfl⟩
  · exact ⟨_, _, rfl⟩
theorem Bs.form {w : World} {v : Value} {l : List Int} (h : Bs w v l) : ∃ oa c, v = .slice oa l.length c := by
  obtain ⟨_, oa, c, h, _⟩ := h
  exact ⟨oa, c, h⟩
def lenOf : Value → Nat
  | .slice _ n _ => n
  | _ => 0
end Go.Proofs.YtjkfiimlaigdhaaDoor
namespace Go.Proofs.YtjkfiimlaigdhaaDoor
open Go.RowKit

def mayL (L : List (List Int)) : Bool := L.all fun r => r.length == (L.getD 0 []).length && decide (r.length ≤ 64)
theorem mayL_false {L : List (List Int)} (i : Nat) (hi : i < L.length) (h : ¬ ((L.getD i []).length = (L.getD 0 []).length ∧ (L.getD i []).length ≤ 64)) : mayL L = false := by
  rw [← Bool.not_eq_true]
  intro c
  unfold mayL at c
  rw [List.all_eq_true] at c
  have := c (L.getD i []) (by rw [List.getD_eq_getElem?_getD, List.getElem?_eq_getElem hi]; exact List.getElem_mem hi)
  simp at this
  exact h (by simpa using this)
theorem mayL_true {L : List (List Int)} (h : ∀ i, i < L.length → (L.getD i []).length = (L.getD 0 []).length ∧ (L.getD i []).length ≤ 64) : mayL L = true := by
  unfold mayL
  rw [List.all_eq_true]
  intro r hr
  obtain ⟨i, hi, rfl⟩ := List.getElem_of_mem hr
  have := h i hi
  rw [List.getD_eq_getElem?_getD, List.getElem?_eq_getElem hi] at this
  simpa using this
theorem mayL_at {L : List (List Int)} (h : mayL L = true) (i : Nat) (hi : i < L.length) : (L.getD i []).length = (L.getD 0 []).length ∧ (L.getD i []).length ≤ 64 := by
  unfold mayL at h
  rw [List.all_eq_true] at h
  have := h (L.getD i []) (by rw [List.getD_eq_getElem?_getD, List.getElem?_eq_getElem hi]; exact List.getElem_mem hi)
  simpa using this
theorem Two.drew {w1 : World} {P Q : World → Prop} (h : P w1 ∧ Q w1) (hp : P w1 → P w1.drew) (hq : Q w1 → Q w1.drew) : P w1.drew ∧ Q w1.drew := ⟨hp h.1, hq h.2⟩
end Go.Proofs.YtjkfiimlaigdhaaDoor
namespace Go.Proofs.YtjkfiimlaigdhaaDoor
open Go.RowKit

theorem New.rb {w w' : World} {v : Value} {l : List Int} (h : New w w' v l) (base : Nat) : Rb base w' v := by
  intro a n c hv hn
  obtain ⟨_, _, ⟨rfl, oa, c', rfl, _⟩ | ⟨g, c', cur, rfl, _, h2, _⟩⟩ := h
  · cases hv
    omega
  · cases hv
    exact .inr ⟨cur, h2⟩
end Go.Proofs.YtjkfiimlaigdhaaDoor
