/-
  Texts laid behind one another: Jb Yi Rd Ra Yc.
-/
import Derived.Test.YtbbglejdfbkjlaaGreatMtaf
import Derived.Deep.CutBlock
import Derived.Test.YtbbglejdfbkjlaaGreatMtab
import Derived.Test.YtbbglejdfbkjlaaGreatMtad
import Derived.Test.YtbbglejdfbkjlaaGreatMtae
import Derived.BigRegion
import Derived.Deep.RegionLaw
import Derived.Laws.AppendOwnNone
import Derived.Deep.DeepCutAuto
namespace Go.Proofs.YtbbglejdfbkjlaaGreat
open Go.RowKit
theorem add_noughtY (a : Addr) : a.add 0 = a := by simp [Addr.add]
theorem Bs.block_lt {w : World} {v : Value} {l : List Int} (h : Bs w v l) {a : Addr} {n c : Nat} (e : v = .slice (some a) n c) (hm : 0 < n) : a.block < w.heap.size := by
 subst e
 obtain ⟨_, oa', c', he, h2, h3, h4, h5⟩ := h
 cases he
 have hz := h5 a rfl 0 hm
 rw [add_noughtY] at hz
 exact World.block_lt_of_cell? _ _ hz
theorem Rb.of_lt {w : World} {v : Value} {l : List Int} (h : Bs w v l) : Rb w.heap.size w v := fun a n c e hm => .inl (by
  subst e
  obtain ⟨_, oa', c', he, h2, h3, h4, h5⟩ := h
  cases he
  have hz := h5 a rfl 0 hm
  rw [add_noughtY] at hz
  exact World.block_lt_of_cell? _ _ hz)
def SyAt (w : World) (b o i : Nat) (q : Symb) : Prop := ∃ od nd cd, w.cell? ⟨b, o + i * 2, none⟩ = some (.int .i64 q.i) ∧ w.cell? ⟨b, o + i * 2 + 1, none⟩ = some (.slice od nd cd) ∧ I64 q.i ∧ Bs w (.slice od nd cd) q.d
theorem SyAt.grown {w w' : World} {b o i : Nat} {q : Symb} (h : SyAt w b o i q) (hg : Gr w w') : SyAt w' b o i q := by
 obtain ⟨od, nd, cd, h1, h2, h3, h4⟩ := h
 exact ⟨od, nd, cd, cell_gr hg h1, cell_gr hg h2, h3, h4.grown hg⟩
def Syms (w : World) (v : Value) (L : List Symb) : Prop :=
 ∃ oa c, v = .slice oa L.length c ∧ L.length ≤ c ∧ c ≤ 9223372036854775807 ∧ (oa = none → c = 0) ∧ (0 < L.length → ∃ b o, oa = some ⟨b, o, none⟩ ∧ ∀ i, i < L.length → SyAt w b o i (L.getD i noY))
theorem Syms.grown {w w' : World} {v : Value} {L : List Symb} (h : Syms w v L) (hg : Gr w w') : Syms w' v L := by
 obtain ⟨oa, c, h1, h2, h3, h4, h5⟩ := h
 refine ⟨oa, c, h1, h2, h3, h4, fun h0 => ?_⟩
 obtain ⟨b, o, q1, q2⟩ := h5 h0
 exact ⟨b, o, q1, fun i hi => (q2 i hi).grown hg⟩
theorem Syms.nil (w : World) : Syms w (.slice none 0 0) [] := ⟨none, 0, rfl, by simp, by omega, fun _ => rfl, fun h => by simp at h⟩
theorem Syms.form {w : World} {v : Value} {L : List Symb} (h : Syms w v L) : ∃ o c, v = .slice o L.length c := by
 obtain ⟨oa, c, h1, _⟩ := h
 exact ⟨oa, c, h1⟩
theorem Syms.lay {w : World} {oa : Option Addr} {m c : Nat} {L : List Symb} (h : Syms w (.slice oa m c) L) (hm : 0 < m) : ∃ b o, oa = some ⟨b, o, none⟩ ∧ ∀ i, i < m → SyAt w b o i (L.getD i noY) := by
 obtain ⟨oa', c', he, h2, h3, h4, h5⟩ := h
 obtain ⟨rfl, rfl, rfl⟩ : oa = oa' ∧ m = L.length ∧ c = c' := by simpa using he
 exact h5 hm
theorem Syms.at {w : World} {b o m c : Nat} {L : List Symb} (h : Syms w (.slice (some ⟨b, o, none⟩) m c) L) {i : Nat} (hi : i < m) : SyAt w b o i (L.getD i noY) := by
 obtain ⟨b', o', he, h2⟩ := h.lay (by omega)
 simp at he
 obtain ⟨rfl, rfl⟩ := he
 exact h2 i hi
theorem Syms.byt {w : World} {v : Value} {L : List Symb} (h : Syms w v L) : ∀ q ∈ L, ∀ z ∈ q.d, Byt z := fun q hq => by
 obtain ⟨i, hi, rfl⟩ := List.getElem_of_mem hq
 obtain ⟨oa, c, rfl, _, _, _, h5⟩ := h
 obtain ⟨b, o, _, h6⟩ := h5 (by omega)
 obtain ⟨_, _, _, _, _, _, h7⟩ := h6 i hi
 rw [List.getD_eq_getElem?_getD, List.getElem?_eq_getElem hi] at h7
 exact h7.1
theorem getD_memY {L : List Symb} {i : Nat} (h : i < L.length) : L.getD i noY ∈ L := by
 rw [List.getD_eq_getElem?_getD, List.getElem?_eq_getElem h]
 exact List.getElem_mem h
def SyVal (P : Nat → Prop) (base : Nat) (w : World) (uc ud : Value) (q : Symb) : Prop := uc = .int .i64 q.i ∧ I64 q.i ∧ Bs w ud q.d ∧ Rb base w ud ∧ ∀ a n c, ud = .slice (some a) n c → 0 < n → P a.block
theorem SyVal.gr {P : Nat → Prop} {base : Nat} {w w' : World} {uc ud : Value} {q : Symb} (h : SyVal P base w uc ud q) (hg : Gr w w') : SyVal P base w' uc ud q :=
 ⟨h.1, h.2.1, (Rb.gr h.2.2.1 h.2.2.2.1 hg).1, (Rb.gr h.2.2.1 h.2.2.2.1 hg).2, h.2.2.2.2⟩
def SymsO (P : Nat → Prop) (base : Nat) (w : World) (v : Value) (L : List Symb) : Prop := ∃ us, w.ownsRow base 30 2 v L.length us ∧ ∀ i, i < L.length → SyVal P base w (us.getD (i * 2) undef) (us.getD (i * 2 + 1) undef) (L.getD i noY)
theorem SymsO.nil {P : Nat → Prop} (base : Nat) (w : World) : SymsO P base w (.slice none 0 0) [] := ⟨[], World.ownsRow_nil _ _ _ _, fun i hi => by simp at hi⟩
theorem SymsO.grown {P : Nat → Prop} {base : Nat} {w w' : World} {v : Value} {L : List Symb} (h : SymsO P base w v L) (hg : Gr w w') : SymsO P base w' v L := by
 obtain ⟨us, ho, hr⟩ := h
 exact ⟨us, ho.of_gr hg, fun i hi => (hr i hi).gr hg⟩
theorem SymsO.form {P : Nat → Prop} {base : Nat} {w : World} {v : Value} {L : List Symb} (h : SymsO P base w v L) : ∃ o c, v = .slice o L.length c := by
 obtain ⟨us, ⟨_, ⟨rfl, h⟩ | ⟨g, c, cur, rfl, _⟩⟩, _⟩ := h
 ·exact ⟨none, 0, by rw [h]⟩
 ·exact ⟨_, _, rfl⟩
theorem SymsO.syms {P : Nat → Prop} {base : Nat} {w : World} {v : Value} {L : List Symb} (h : SymsO P base w v L) : Syms w v L := by
 obtain ⟨us, ⟨hlen, ⟨rfl, h0⟩ | ⟨g, c, cur, rfl, h1, h2, h3, h4, h5, h6⟩⟩, hr⟩ := h
 ·obtain rfl : L = [] := List.eq_nil_of_length_eq_zero h0
  exact Syms.nil w
 ·refine ⟨_, c, rfl, h3, by unfold maxLen at h4; omega, (fun e => by cases e), fun _ => ⟨g, 0, rfl, fun i hi => ?_⟩⟩
  obtain ⟨e1, z1, z3, _⟩ := hr i hi
  obtain ⟨od, cd, e2⟩ := z3.form
  have hcell : ∀ j, j < L.length * 2 → w.cell? ⟨g, j, none⟩ = some (us.getD j undef) := fun j hj => by
   rw [cell_of_row _ _ _ _ _ _ h2]
   have e : (cur.toList.take (L.length * 2))[j]? = us[j]? := by rw [h6]
   rw [List.getElem?_take_of_lt hj] at e
   have hus : j < us.length := by omega
   rw [List.getD_eq_getElem?_getD, List.getElem?_eq_getElem hus]
   rw [List.getElem?_eq_getElem hus] at e
   simpa using e
  rw [e2] at z3
  exact ⟨od, _, cd, by rw [Nat.zero_add, hcell _ (by omega), e1], by rw [Nat.zero_add, hcell _ (by omega), e2], z1, z3⟩
theorem infoY : (Tryz.prog.info? 30).map (fun i => (i.zero.map (·.cells.size), i.size, i.bytes)) = some (some 2, 2, 32) := by kernel_rfl
theorem sy_not {w : World} {base : Nat} {v : Value} {n : Nat} {us : List Value} (h : w.ownsRow base 30 2 v n us) {t : TypeId} (ht : t ≠ 30) : ∀ g, v.ownBlock = some g → base ≤ g ∧ ∀ cur, w.heap[g]? ≠ some (.cells cur t (0, 0)) := by
 intro g hg
 obtain ⟨_, ⟨rfl, _⟩ | ⟨g', c, cur, rfl, hb, hgg, _⟩⟩ := h
 ·cases hg
 ·simp [Value.ownBlock] at hg
  subst hg
  refine ⟨hb, fun cur' e => ?_⟩
  rw [hgg] at e
  simp at e
  exact ht e.2.symm
theorem SyVal.kept {P : Nat → Prop} {base : Nat} {w w' : World} {uc ud v : Value} {q : Symb} {n : Nat} {us : List Value} (h : SyVal P base w uc ud q) (ho : w.ownsRow base 30 2 v n us) (hg : w.grownBy w' v.ownBlock) : SyVal P base w' uc ud q :=
 ⟨h.1, h.2.1, (Rb.kept h.2.2.1 h.2.2.2.1 hg.block (sy_not ho (by decide))).1, (Rb.kept h.2.2.1 h.2.2.2.1 hg.block (sy_not ho (by decide))).2, h.2.2.2.2⟩
theorem sy_base {w : World} {base : Nat} {v : Value} {n : Nat} {us : List Value} (h : w.ownsRow base 30 2 v n us) : ∀ g, v.ownBlock = some g → base ≤ g := by
 intro g hg
 obtain ⟨_, ⟨rfl, _⟩ | ⟨g', c, cur, rfl, hb, hgg, _⟩⟩ := h
 ·cases hg
 ·simp [Value.ownBlock] at hg
  omega
theorem wpList_append_sy {P : Nat → Prop} {w : World} {ops : Array Oper} {rest : List Oper} {o : Oper} {a : Act} {Q : Exit → Act → World → Prop} (hgd : o.guard = none) (s x : Operand)
  (ho : o.op = .call { callee := .builtin .append, args := #[s, x], argTypes := #[27, 27] }) (base : Nat) (v : Value) (L : List Symb) (hs : a.eval s = v) (hR : SymsO P base w v L)
  (g : Nat) (uc ud : Value) (q : Symb) (hx : a.eval x = .slice (some ⟨g, 0, none⟩) 1 1) (hc : w.cell? ⟨g, 0, none⟩ = some uc) (hd : w.cell? ⟨g, 1, none⟩ = some ud) (hq : SyVal P base w uc ud q) (hm : L.length ≤ 100000) (hbase : base ≤ w.heap.size)
  (h : ∀ v' w', SymsO P base w' v' (L ++ [q]) → (∀ w0, Gr w0 w → w0.heap.size ≤ base → Gr w0 w') → w.grownBy w' v.ownBlock → (∀ t : TypeId, t ≠ 30 → ∀ g, v.ownBlock = some g → base ≤ g ∧ ∀ cur, w.heap[g]? ≠ some (.cells cur t (0, 0))) → wpList Tryz.prog ops Q rest (a.put o.dst v') w') : wpList Tryz.prog ops Q (o :: rest) a w := by
 obtain ⟨i, hi, hzz⟩ := Option.map_eq_some_iff.1 infoY
 simp only [Prod.mk.injEq] at hzz
 obtain ⟨hz0, hz1, hz2⟩ := hzz
 obtain ⟨z, hz, hzs⟩ := Option.map_eq_some_iff.1 hz0
 obtain ⟨us, hown, hr⟩ := hR
 have e1 := hq.1
 obtain ⟨od, cd, e2⟩ := hq.2.2.1.form
 refine wpList_append_own w hgd s x 27 ho base 30 i z 2 32 Tryz.underlying27 hi hz hz1 hz2 hzs (by omega) v L.length us hs hown ⟨g, 0, none⟩ 1 1 [uc, ud] hx rfl (fun j u hj => by
   match j, hj with
   | 0, hj =>
     obtain rfl : uc = u := by simpa using hj
     exact hc
   | 1, hj =>
     obtain rfl : ud = u := by simpa using hj
     exact hd
   | j + 2, hj => simp at hj) (fun u hu => by
     simp at hu
     rcases hu with rfl | rfl
     · rw [e1]; rfl
     · rw [e2]; rfl) (by unfold maxLen; omega) (by omega) hbase ?_
 intro v' w' h1 h2 _
 have hlen : us.length = L.length * 2 := hown.1
 refine h v' w' ⟨us ++ [uc, ud], by rw [List.length_append]; exact h1, fun k hk => ?_⟩ (fun w0 hg hb => Gr.append hg h2 fun k hv => by have := sy_base hown k hv; omega) h2 (fun t ht => sy_not hown ht)
 rw [List.length_append, List.length_singleton] at hk
 by_cases e : k < L.length
 ·rw [List.getD_eq_getElem?_getD, List.getD_eq_getElem?_getD, List.getD_eq_getElem?_getD, List.getElem?_append_left (by omega), List.getElem?_append_left (by omega), List.getElem?_append_left e, ← List.getD_eq_getElem?_getD, ← List.getD_eq_getElem?_getD, ← List.getD_eq_getElem?_getD]
  exact (hr k e).kept hown h2
 ·obtain rfl : k = L.length := by omega
  have d1 : (us ++ [uc, ud]).getD (L.length * 2) undef = uc := by rw [List.getD_eq_getElem?_getD, List.getElem?_append_right (by omega), hlen, Nat.sub_self]; rfl
  have d2 : (us ++ [uc, ud]).getD (L.length * 2 + 1) undef = ud := by rw [List.getD_eq_getElem?_getD, List.getElem?_append_right (by omega), hlen, Nat.add_sub_cancel_left]; rfl
  have d3 : (L ++ [q]).getD L.length noY = q := by rw [List.getD_eq_getElem?_getD, List.getElem?_append_right (by omega)]; simp
  rw [d1, d2, d3]
  exact hq.kept hown h2
theorem run_append_inY {P : Program} {w : World} (base : Nat) (t ty e : TypeId) (i : TypeInfo) (z : Value) (size bytes : Nat) (ht : P.underlying t = some (.slice e)) (hi : P.info? e = some i) (hz : i.zero = some z)
  (hsize : i.size = size) (hby : i.bytes = bytes) (hzs : z.cells.size = size) (hsz : 0 < size) (v : Value) (n : Nat) (xs : List Value) (hown : w.ownsRow base e size v n xs)
  (oa : Option Addr) (m c : Nat) (news : List Value) (hno : oa = none → m = 0 ∧ c = 0) (hl : news.length = m * size) (hnews : ∀ ad, oa = some ad → ∀ j u, news[j]? = some u → w.cell? (ad.add j) = some u) (h1 : ∀ u ∈ news, u.oneCell' = true)
  (h63 : n + m ≤ maxLen) (hbytes : (n + m) * bytes ≤ 140737488355328) (hbase : base ≤ w.heap.size) :
  ∃ v' w', (Builtin.append_ #[t, t] ty #[v, .slice oa m c]).run P w = .ok v' w' ∧ w'.ownsRow base e size v' (n + m) (xs ++ news) ∧ w.grownBy w' v.ownBlock := by
 cases oa with
 | none =>
  obtain ⟨rfl, rfl⟩ := hno rfl
  obtain rfl : news = [] := List.eq_nil_of_length_eq_zero (by rw [hl]; omega)
  refine ⟨v, w, run_append_owned_none (P := P) (w := w) base t ty e i size ht hi v n xs hown, by rw [List.append_nil]; exact hown, ⟨rfl, rfl, rfl, Nat.le_refl _, fun _ _ _ => rfl⟩⟩
 | some ad =>
  obtain ⟨v', w', hr, h2, h3, _⟩ := run_append_own (P := P) w base t ty e i z size bytes ht hi hz hsize hby hzs hsz v n xs hown ad m c news hl (hnews ad rfl) h1 h63 hbytes hbase
  exact ⟨v', w', hr, h2, h3⟩
def SymsV (P : Nat → Prop) (base : Nat) (w : World) (oa : Option Addr) (m : Nat) (L : List Symb) : Prop :=
 L.length = m ∧ (oa = none → m = 0) ∧ ∃ us : List Value, us.length = m * 2 ∧ (∀ ad, oa = some ad → ∀ j u, us[j]? = some u → w.cell? (ad.add j) = some u) ∧ ∀ i, i < m → SyVal P base w (us.getD (i * 2) undef) (us.getD (i * 2 + 1) undef) (L.getD i noY)
theorem SymsV.grown {P : Nat → Prop} {base m : Nat} {w w' : World} {oa : Option Addr} {L : List Symb} (h : SymsV P base w oa m L) (hg : Gr w w') : SymsV P base w' oa m L := by
 obtain ⟨h1, h2, us, h3, h4, h5⟩ := h
 exact ⟨h1, h2, us, h3, fun ad ha j u hu => cell_gr hg (h4 ad ha j u hu), fun i hi => (h5 i hi).gr hg⟩
theorem SymsV.nil {P : Nat → Prop} (base : Nat) (w : World) (oa : Option Addr) : SymsV P base w oa 0 [] := ⟨rfl, fun _ => rfl, [], rfl, fun ad _ j u hu => by simp at hu, fun i hi => by omega⟩
theorem SymsO.vals {P : Nat → Prop} {base n c : Nat} {w : World} {o : Option Addr} {L : List Symb} (h : SymsO P base w (.slice o n c) L) : SymsV P base w o n L := by
 have hf := h.form
 obtain ⟨o', c', hf⟩ := hf
 obtain ⟨rfl, rfl, rfl⟩ : o = o' ∧ n = L.length ∧ c = c' := by simpa using hf
 obtain ⟨us, ⟨hlen, ⟨he, h0⟩ | ⟨g, c, cur, he, h1, h2, h3, h4, h5, h6⟩⟩, hr⟩ := h
 ·obtain rfl : L = [] := List.eq_nil_of_length_eq_zero h0
  exact SymsV.nil _ _ _
 ·cases he
  refine ⟨rfl, (fun e => by cases e), us, hlen, fun ad ha j u hu => ?_, hr⟩
  cases ha
  rw [Addr.add_mid, Nat.zero_add, cell_of_row _ _ _ _ _ _ h2]
  have hj : j < us.length := (List.getElem?_eq_some_iff.1 hu).1
  have e : (cur.toList.take (L.length * 2))[j]? = us[j]? := by rw [h6]
  rw [List.getElem?_take_of_lt (by omega), hu] at e
  simpa using e
theorem Syms.vals {P : Nat → Prop} {w : World} {o : Option Addr} {n c : Nat} {L : List Symb} (h : Syms w (.slice o n c) L) (hP : ∀ k, k < w.heap.size → P k) : SymsV P w.heap.size w o n L := by
 obtain ⟨o', c', he, h2, h3, h4, h5⟩ := h
 obtain ⟨rfl, rfl, rfl⟩ : o = o' ∧ n = L.length ∧ c = c' := by simpa using he
 by_cases h0 : 0 < L.length
 ·obtain ⟨b, q, rfl, h6⟩ := h5 h0
  have hex : ∀ i, ∃ uc ud : Value, i < L.length → w.cell? ⟨b, q + i * 2, none⟩ = some uc ∧ w.cell? ⟨b, q + i * 2 + 1, none⟩ = some ud ∧ SyVal P w.heap.size w uc ud (L.getD i noY) := fun i => by
   by_cases hi : i < L.length
   ·obtain ⟨od, nd, cd, q1, q2, zc, zd⟩ := h6 i hi
    exact ⟨_, _, fun _ => ⟨q1, q2, rfl, zc, zd, Rb.of_lt zd, fun a n c e hm => hP _ (Bs.block_lt zd e hm)⟩⟩
   ·exact ⟨undef, undef, fun h => absurd h hi⟩
  let f : Nat → Value := fun j => if j % 2 = 0 then Classical.choose (hex (j / 2)) else Classical.choose (Classical.choose_spec (hex (j / 2)))
  have hf : ∀ i, i < L.length → w.cell? ⟨b, q + i * 2, none⟩ = some (f (i * 2)) ∧ w.cell? ⟨b, q + i * 2 + 1, none⟩ = some (f (i * 2 + 1)) ∧ SyVal P w.heap.size w (f (i * 2)) (f (i * 2 + 1)) (L.getD i noY) := fun i hi => by
   have e0 : f (i * 2) = Classical.choose (hex i) := by
    show (if i * 2 % 2 = 0 then Classical.choose (hex (i * 2 / 2)) else _) = _
    rw [if_pos (by omega), show i * 2 / 2 = i from by omega]
   have e1 : f (i * 2 + 1) = Classical.choose (Classical.choose_spec (hex i)) := by
    show (if (i * 2 + 1) % 2 = 0 then _ else Classical.choose (Classical.choose_spec (hex ((i * 2 + 1) / 2)))) = _
    rw [if_neg (by omega)]
    have : (i * 2 + 1) / 2 = i := by omega
    rw [this]
   rw [e0, e1]
   exact Classical.choose_spec (Classical.choose_spec (hex i)) hi
  refine ⟨rfl, (fun e => by cases e), (List.range (L.length * 2)).map f, by simp, fun ad ha j u hu => ?_, fun i hi => ?_⟩
  ·cases ha
   obtain ⟨hj, hu⟩ := List.getElem?_eq_some_iff.1 hu
   simp at hj hu
   subst hu
   rw [Addr.add_mid]
   by_cases e : j % 2 = 0
   ·have := (hf (j / 2) (by omega)).1
    rw [show j / 2 * 2 = j from by omega] at this
    exact this
   ·have := (hf (j / 2) (by omega)).2.1
    rw [show j / 2 * 2 + 1 = j from by omega, Nat.add_assoc, show j / 2 * 2 + 1 = j from by omega] at this
    exact this
  ·have := (hf i hi).2.2
   rw [List.getD_eq_getElem?_getD, List.getD_eq_getElem?_getD, List.getElem?_map, List.getElem?_map, List.getElem?_range (by omega), List.getElem?_range (by omega)]
   exact this
 ·have : L = [] := List.eq_nil_of_length_eq_zero (by omega)
  subst this
  exact SymsV.nil _ _ _
theorem SymsV.one {P : Nat → Prop} {base m : Nat} {w : World} {us : List Value} {L : List Symb} (hl : us.length = m * 2) (h : ∀ i, i < m → SyVal P base w (us.getD (i * 2) undef) (us.getD (i * 2 + 1) undef) (L.getD i noY)) : ∀ u ∈ us, u.oneCell' = true := fun u hu => by
 obtain ⟨j, hj, rfl⟩ := List.getElem_of_mem hu
 have hq := h (j / 2) (by omega)
 have e1 := hq.1
 obtain ⟨od, cd, e2⟩ := hq.2.2.1.form
 have e : us[j] = us.getD j undef := by rw [List.getD_eq_getElem?_getD, List.getElem?_eq_getElem hj]; rfl
 rw [e]
 by_cases e0 : j % 2 = 0
 ·rw [show j / 2 * 2 = j from by omega] at e1
  rw [e1]
  rfl
 ·rw [show j / 2 * 2 + 1 = j from by omega] at e2
  rw [e2]
  rfl
theorem run_append_sys {P : Nat → Prop} {w : World} (ty : TypeId) (base : Nat) (v : Value) (L M : List Symb) (hR : SymsO P base w v L)
  (oa : Option Addr) (m c : Nat) (hV : SymsV P base w oa m M) (hc : oa = none → c = 0) (hm : L.length + m ≤ 100000) (hbase : base ≤ w.heap.size) :
  ∃ v' w', (Builtin.append_ #[27, 27] ty #[v, .slice oa m c]).run Tryz.prog w = .ok v' w' ∧ SymsO P base w' v' (L ++ M) ∧ (∀ w0, Gr w0 w → w0.heap.size ≤ base → Gr w0 w') ∧ w.grownBy w' v.ownBlock ∧ ∀ t : TypeId, t ≠ 30 → ∀ g, v.ownBlock = some g → base ≤ g ∧ ∀ cur, w.heap[g]? ≠ some (.cells cur t (0, 0)) := by
 obtain ⟨i, hi, hzz⟩ := Option.map_eq_some_iff.1 infoY
 simp only [Prod.mk.injEq] at hzz
 obtain ⟨hz0, hz1, hz2⟩ := hzz
 obtain ⟨z, hz, hzs⟩ := Option.map_eq_some_iff.1 hz0
 obtain ⟨us, hown, hr⟩ := hR
 obtain ⟨hML, hno, ns, hnl, hnc, hnv⟩ := hV
 obtain ⟨v', w', hrun, h1, h2⟩ := run_append_inY (P := Tryz.prog) (w := w) base 27 ty 30 i z 2 32 Tryz.underlying27 hi hz hz1 hz2 hzs (by omega) v L.length us hown oa m c ns (fun e => ⟨hno e, hc e⟩) hnl hnc (SymsV.one hnl hnv) (by unfold maxLen; omega) (by omega) hbase
 have hlen : us.length = L.length * 2 := hown.1
 refine ⟨v', w', hrun, ⟨us ++ ns, by rw [List.length_append, hML]; exact h1, fun k hk => ?_⟩, (fun w0 hg hb => Gr.append hg h2 fun k hv => by have := sy_base hown k hv; omega), h2, (fun t ht => sy_not hown ht)⟩
 rw [List.length_append] at hk
 by_cases e : k < L.length
 ·rw [List.getD_eq_getElem?_getD, List.getD_eq_getElem?_getD, List.getD_eq_getElem?_getD, List.getElem?_append_left (by omega), List.getElem?_append_left (by omega), List.getElem?_append_left e, ← List.getD_eq_getElem?_getD, ← List.getD_eq_getElem?_getD, ← List.getD_eq_getElem?_getD]
  exact (hr k e).kept hown h2
 ·obtain ⟨q, rfl⟩ : ∃ q, k = L.length + q := ⟨k - L.length, by omega⟩
  have d1 : (us ++ ns).getD ((L.length + q) * 2) undef = ns.getD (q * 2) undef := by rw [List.getD_eq_getElem?_getD, List.getElem?_append_right (by omega), hlen, show (L.length + q) * 2 - L.length * 2 = q * 2 from by omega, ← List.getD_eq_getElem?_getD]
  have d2 : (us ++ ns).getD ((L.length + q) * 2 + 1) undef = ns.getD (q * 2 + 1) undef := by rw [List.getD_eq_getElem?_getD, List.getElem?_append_right (by omega), hlen, show (L.length + q) * 2 + 1 - L.length * 2 = q * 2 + 1 from by omega, ← List.getD_eq_getElem?_getD]
  have d3 : (L ++ M).getD (L.length + q) noY = M.getD q noY := by rw [List.getD_eq_getElem?_getD, List.getElem?_append_right (by omega), Nat.add_sub_cancel_left, ← List.getD_eq_getElem?_getD]
  rw [d1, d2, d3]
  exact (hnv q (by omega)).kept hown h2
theorem wp_append_sys {P : Nat → Prop} {w : World} {o : Oper} {a : Act} {K : Act → World → Prop} {Q : Exit → Act → World → Prop} (s x : Operand)
  (ho : o.op = .call { callee := .builtin .append, args := #[s, x], argTypes := #[27, 27] }) (base : Nat) (v : Value) (L M : List Symb) (hs : a.eval s = v) (hR : SymsO P base w v L)
  (oa : Option Addr) (m c : Nat) (hx : a.eval x = .slice oa m c) (hV : SymsV P base w oa m M) (hc : oa = none → c = 0) (hm : L.length + m ≤ 100000) (hbase : base ≤ w.heap.size)
  (h : ∀ v' w', SymsO P base w' v' (L ++ M) → (∀ w0, Gr w0 w → w0.heap.size ≤ base → Gr w0 w') → w.grownBy w' v.ownBlock → (∀ t : TypeId, t ≠ 30 → ∀ g, v.ownBlock = some g → base ≤ g ∧ ∀ cur, w.heap[g]? ≠ some (.cells cur t (0, 0))) → K (a.put o.dst v') w') : o.wp Tryz.prog a w K Q := by
 obtain ⟨v', w', hrun, h1, h2, h3, h4⟩ := run_append_sys o.type base v L M hR oa m c hV hc hm hbase
 unfold Oper.wp execOp
 simp only [ho, resolve, invoke, builtin, Sem.run_bind, Sem.run_pure, Result.andThen_ok, List.map_toArray, List.map_cons, List.map_nil, hs, hx, hrun]
 exact h v' w' h1 h2 h3 h4
theorem wpList_append_sys {P : Nat → Prop} {w : World} {ops : Array Oper} {rest : List Oper} {o : Oper} {a : Act} {Q : Exit → Act → World → Prop} (hgd : o.guard = none) (s x : Operand)
  (ho : o.op = .call { callee := .builtin .append, args := #[s, x], argTypes := #[27, 27] }) (base : Nat) (v : Value) (L M : List Symb) (hs : a.eval s = v) (hR : SymsO P base w v L)
  (oa : Option Addr) (m c : Nat) (hx : a.eval x = .slice oa m c) (hV : SymsV P base w oa m M) (hc : oa = none → c = 0) (hm : L.length + m ≤ 100000) (hbase : base ≤ w.heap.size)
  (h : ∀ v' w', SymsO P base w' v' (L ++ M) → (∀ w0, Gr w0 w → w0.heap.size ≤ base → Gr w0 w') → w.grownBy w' v.ownBlock → (∀ t : TypeId, t ≠ 30 → ∀ g, v.ownBlock = some g → base ≤ g ∧ ∀ cur, w.heap[g]? ≠ some (.cells cur t (0, 0))) → wpList Tryz.prog ops Q rest (a.put o.dst v') w') : wpList Tryz.prog ops Q (o :: rest) a w :=
 wpList_plain hgd fun _ hK => wp_append_sys s x ho base v L M hs hR oa m c hx hV hc hm hbase fun v' w' h1 h2 h3 h4 => hK _ _ (h v' w' h1 h2 h3 h4)
theorem SyVal.mono {P : Nat → Prop} {base base' : Nat} {w : World} {uc ud : Value} {q : Symb} (h : SyVal P base w uc ud q) (hb : base ≤ base') : SyVal P base' w uc ud q :=
 ⟨h.1, h.2.1, h.2.2.1, fun a n c e hm => (h.2.2.2.1 a n c e hm).imp (fun hl => Nat.lt_of_lt_of_le hl hb) id, h.2.2.2.2⟩
theorem SymsV.mono {P : Nat → Prop} {base base' m : Nat} {w : World} {oa : Option Addr} {L : List Symb} (h : SymsV P base w oa m L) (hb : base ≤ base') : SymsV P base' w oa m L := by
 obtain ⟨h1, h2, us, h3, h4, h5⟩ := h
 exact ⟨h1, h2, us, h3, h4, fun i hi => (h5 i hi).mono hb⟩
theorem SymsO.block {P : Nat → Prop} {base g n c : Nat} {w : World} {L : List Symb} (h : SymsO P base w (.slice (some ⟨g, 0, none⟩) n c) L) : base ≤ g ∧ ∃ cur, w.heap[g]? = some (.cells cur 30 (0, 0)) := by
 obtain ⟨us, ⟨_, ⟨he, _⟩ | ⟨g', c', cur, he, h1, h2, _⟩⟩, _⟩ := h
 ·cases he
 ·cases he
  exact ⟨h1, cur, h2⟩
theorem SymsO.bent {P : Nat → Prop} {base g n c k : Nat} {w W : World} {L : List Symb} {ud : Value} {d : List Int} (h : SymsO P base w (.slice (some ⟨g, 0, none⟩) n c) L) (hk : k < n)
  (hW : ∀ cur, w.heap[g]? = some (.cells cur 30 (0, 0)) → W.heap[g]? = some (.cells (cur.setIfInBounds (k * 2 + 1) ud) 30 (0, 0)))
  (hB : ∀ b, b < w.heap.size → some b ≠ some g → W.heap[b]? = w.heap[b]?) (hd : Bs W ud d) (hr : Rb base W ud) (hp : ∀ a n c, ud = .slice (some a) n c → 0 < n → P a.block) :
  SymsO P base W (.slice (some ⟨g, 0, none⟩) n c) (L.set k ⟨(L.getD k noY).i, d⟩) := by
 have hform := h.form
 obtain ⟨us, ho, hv⟩ := h
 have hno := fun (t : TypeId) (ht : t ≠ 30) => sy_not ho ht
 obtain rfl : n = L.length := by
  obtain ⟨o', c', hf⟩ := hform
  cases hf
  rfl
 obtain ⟨hlen, ⟨he, _⟩ | ⟨g', c', cur, he, h1, h2, h3, h4, h5, h6⟩⟩ := ho
 ·cases he
 ·cases he
  have hown : ∀ g', (some g : Option Nat) = some g' → (Value.slice (some ⟨g, 0, none⟩) L.length c).ownBlock = some g' := fun g' e => e
  refine ⟨us.set (k * 2 + 1) ud, ⟨by rw [List.length_set, List.length_set]; exact hlen, .inr ⟨g, c, _, by rw [List.length_set], h1, hW _ h2, by rw [List.length_set]; exact h3, h4, by simp [h5], ?_⟩⟩, fun i hi => ?_⟩
  ·rw [List.length_set, Array.toList_setIfInBounds, List.take_set, h6]
  ·rw [List.length_set] at hi
   have hq := hv i hi
   have e0 : (us.set (k * 2 + 1) ud).getD (i * 2) undef = us.getD (i * 2) undef := by
    rw [List.getD_eq_getElem?_getD, List.getElem?_set_ne (by omega), ← List.getD_eq_getElem?_getD]
   by_cases e : i = k
   ·subst e
    have e1 : (us.set (i * 2 + 1) ud).getD (i * 2 + 1) undef = ud := by
     rw [List.getD_eq_getElem?_getD, List.getElem?_set_self (by omega)]
     rfl
    have e2 : (L.set i ⟨(L.getD i noY).i, d⟩).getD i noY = ⟨(L.getD i noY).i, d⟩ := by
     rw [List.getD_eq_getElem?_getD, List.getElem?_set_self hi]
     rfl
    rw [e0, e1, e2]
    exact ⟨hq.1, hq.2.1, hd, hr, hp⟩
   ·have hb := Rb.kept (row := some g) hq.2.2.1 hq.2.2.2.1 hB fun g' e => hno _ (by decide) g' (hown g' e)
    have e1 : (us.set (k * 2 + 1) ud).getD (i * 2 + 1) undef = us.getD (i * 2 + 1) undef := by
     rw [List.getD_eq_getElem?_getD, List.getElem?_set_ne (by omega), ← List.getD_eq_getElem?_getD]
    have e2 : (L.set k ⟨(L.getD k noY).i, d⟩).getD i noY = L.getD i noY := by
     rw [List.getD_eq_getElem?_getD, List.getElem?_set_ne (fun c => e c.symm), ← List.getD_eq_getElem?_getD]
    rw [e0, e1, e2]
    exact ⟨hq.1, hq.2.1, hb.1, hb.2, hq.2.2.2.2⟩
theorem SymsO.own_lt {P : Nat → Prop} {base : Nat} {w : World} {v : Value} {L : List Symb} (h : SymsO P base w v L) : ∀ g, v.ownBlock = some g → g < w.heap.size := by
 intro g hg
 obtain ⟨us, ⟨_, ⟨rfl, _⟩ | ⟨g', c, cur, rfl, hb, hgg, _⟩⟩, _⟩ := h
 ·cases hg
 ·simp [Value.ownBlock] at hg
  subst hg
  exact (Array.getElem?_eq_some_iff.1 hgg).1
theorem SymsO.lies {P : Nat → Prop} {base n c : Nat} {w : World} {o : Option Addr} {L : List Symb} (h : SymsO P base w (.slice o n c) L) : (o = none ∧ n = 0 ∧ c = 0) ∨ ∃ g, o = some ⟨g, 0, none⟩ ∧ n ≤ c := by
 obtain ⟨us, ⟨_, ⟨he, h0⟩ | ⟨g, c', cur, he, h1, h2, h3, _⟩⟩, _⟩ := h
 ·cases he
  exact .inl ⟨rfl, rfl, rfl⟩
 ·cases he
  exact .inr ⟨g, rfl, h3⟩
theorem SyVal.imp {P P' : Nat → Prop} {base : Nat} {w : World} {uc ud : Value} {q : Symb} (h : SyVal P base w uc ud q) (hP : ∀ k, P k → P' k) : SyVal P' base w uc ud q :=
 ⟨h.1, h.2.1, h.2.2.1, h.2.2.2.1, fun a n c e hm => hP _ (h.2.2.2.2 a n c e hm)⟩
theorem SymsV.imp {P P' : Nat → Prop} {base m : Nat} {w : World} {oa : Option Addr} {L : List Symb} (h : SymsV P base w oa m L) (hP : ∀ k, P k → P' k) : SymsV P' base w oa m L := by
 obtain ⟨h1, h2, us, h3, h4, h5⟩ := h
 exact ⟨h1, h2, us, h3, h4, fun i hi => (h5 i hi).imp hP⟩
end Go.Proofs.YtbbglejdfbkjlaaGreat
namespace Go.Proofs.YtbbglejdfbkjlaaGreat
open Go.RowKit
theorem Bss.rowAt {w : World} {a : Addr} {m c : Nat} {L : List (List Int)} (h : Bss w (.slice (some a) m c) L) {i : Nat} (hi : i < m) : ∃ u, w.cell? (a.add i) = some u ∧ Bs w u (L.getD i []) := by
 obtain ⟨oa', c', he, h2, h3, h4, h5⟩ := h
 obtain ⟨rfl, rfl, rfl⟩ : some a = oa' ∧ m = L.length ∧ c = c' := by simpa using he
 exact h5 a rfl i hi
theorem Bss.addr {w : World} {oa : Option Addr} {m c : Nat} {L : List (List Int)} (h : Bss w (.slice oa m c) L) (hm : 0 < m) : ∃ a, oa = some a := by
 obtain ⟨oa', c', he, h2, h3, h4, h5⟩ := h
 obtain ⟨rfl, rfl, rfl⟩ : oa = oa' ∧ m = L.length ∧ c = c' := by simpa using he
 cases oa with
 | none => have := h4 rfl; omega
 | some a => exact ⟨a, rfl⟩
theorem Bs.form4 {w : World} {v : Value} {l : List Int} (h : Bs w v l) : ∃ o m c, v = .slice o m c := by
 obtain ⟨o, c, h⟩ := h.form
 exact ⟨o, _, c, h⟩
theorem Rws.grown {base : Nat} {w w' : World} {v : Value} {L : List (List Int)} (h : Rws base w v L) (hg : Gr w w') : Rws base w' v L := by
 obtain ⟨us, ho, hr⟩ := h
 exact ⟨us, ho.of_gr hg, fun i hi => Rb.gr (hr i hi).1 (hr i hi).2 hg⟩
theorem Rws.form3 {base : Nat} {w : World} {v : Value} {L : List (List Int)} (h : Rws base w v L) : ∃ o c, v = .slice o L.length c := by
 obtain ⟨us, ho, hr⟩ := h
 exact ownsRow_form ho
theorem Rws.form4 {base : Nat} {w : World} {v : Value} {L : List (List Int)} (h : Rws base w v L) : ∃ o m c, v = .slice o m c := by
 obtain ⟨o, c, h⟩ := h.form3
 exact ⟨o, _, c, h⟩
theorem wpList_append_row {w : World} {ops : Array Oper} {rest : List Oper} {o : Oper} {a : Act} {Q : Exit → Act → World → Prop} (hgd : o.guard = none) (s x : Operand)
  (ho : o.op = .call { callee := .builtin .append, args := #[s, x], argTypes := #[65, 65] }) (base : Nat) (v : Value) (L : List (List Int)) (hs : a.eval s = v) (hR : Rws base w v L)
  (g : Nat) (u : Value) (l : List Int) (hx : a.eval x = .slice (some ⟨g, 0, none⟩) 1 1) (hc : w.cell? ⟨g, 0, none⟩ = some u) (hb : Bs w u l) (hrb : Rb base w u) (hm : L.length ≤ 100000) (hbase : base ≤ w.heap.size)
  (h : ∀ v' w', Rws base w' v' (L ++ [l]) → (∀ w0, Gr w0 w → w0.heap.size ≤ base → Gr w0 w') → Ke 25 w w' → wpList Tryz.prog ops Q rest (a.put o.dst v') w') : wpList Tryz.prog ops Q (o :: rest) a w := by
 obtain ⟨i0, hi0, hz0, hz1, hz2⟩ := info_parts info22
 obtain ⟨us, hown, hr⟩ := hR
 obtain ⟨ou, cu, hf⟩ := hb.form
 refine wpList_append_in hgd s x 65 ho base 25 i0 _ 24 Tryz.underlying65 hi0 hz0 hz1 hz2 rfl v L.length us hs hown (some ⟨g, 0, none⟩) 1 1 [u] hx (fun e => by cases e) rfl (fun ad ha j y hj => by
   cases ha
   cases j with
   | zero =>
     obtain rfl : u = y := by simpa using hj
     exact hc
   | succ j => simp at hj) (by intro y hy; obtain rfl : y = u := by simpa using hy
                               rw [hf]; rfl) (by unfold maxLen; omega) (by omega) hbase ?_
 intro v' w' h1 h2
 exact h v' w' (Rws.append hown hr hb hrb h1 h2) (fun w0 hg hb => gr_by_own hg h2 hown hb) (Ke.of_own hown h2)
end Go.Proofs.YtbbglejdfbkjlaaGreat
namespace Go.Proofs.YtbbglejdfbkjlaaGreat
open Go.RowKit
theorem info5' : (Tryz.prog.info? 5).map (fun i => (i.zero, i.size, i.bytes)) = some (some (.int .u8 0), 1, 1) := by kernel_rfl
set_option maxRecDepth 100000 in
set_option maxHeartbeats 3200000 in
theorem refReduce_any (va : Value) (A : List (List Int)) (w : World) (h : Bss w va A) (hl : A.length ≤ 1000) (hby : ∀ r ∈ A, ∀ x ∈ r, Byt x) (hmay : mayL A = true) :
  Calls Tryz.prog 108 #[va] w fun e w' => ∃ v R, e = .returned v ∧ Rws w.heap.size w' v R ∧ Gr w w' ∧ IsRed (A.getD 0 []).length A R := by
 obtain ⟨i0, hi0, hz0, hz1, hz2⟩ := info_parts info22
 have I0 := Lib.hid hi0
 have I1 := Lib.hid hz0
 have I2 := Lib.hid hz1
 have I3 := Lib.hid hz2
 clear hi0 hz0 hz1 hz2
 obtain ⟨i5, hi0, hz0, hz1, hz2⟩ := info_parts info5'
 have J0 := Lib.hid hi0
 have J1 := Lib.hid hz0
 have J2 := Lib.hid hz1
 have J3 := Lib.hid hz2
 clear hi0 hz0 hz1 hz2
 have HW := Lib.hid (Wide.of_may hmay hby)
 have hk64 : A.length = 0 ∨ (A.getD 0 []).length ≤ 64 := by
  by_cases h0 : 0 < A.length
  ·exact .inr (mayL_at hmay 0 h0).2
  ·exact .inl (by omega)
 have HS := Lib.hid h
 have HM := Lib.hid hmay
 obtain ⟨oa, c0, rfl, h1, h2, h3, h4⟩ := h
 have HA := Lib.hid h4
 generalize hn : A.length = n at *
 generalize hkk : (A.getD 0 []).length = k at *
 have HN := Lib.hid hn
 have HKK := Lib.hid hkk
 have hoa : n = 0 ∨ ∃ a, oa = some a := by
  cases oa with
  | none => exact .inl (by have := h3 rfl; omega)
  | some a => exact .inr ⟨a, rfl⟩
 clear h3 h4 hn hkk hmay hby
 go_enter Tryz.func108, Tryz.ntmps108
 go_wp2_with (go_at_call 70; refine (mayMat_any _ A w HS.out (by rw [HN.out]; omega)).mono ?_; rintro e w1 ⟨rfl, hg1⟩; rw [HM.out]; have G1 := Lib.hid hg1; clear hg1)
 go_loopw [3, 15] (fun o i wr => ∃ j : Nat, j ≤ n ∧ i = .int .i64 j ∧ Rws w.heap.size wr o (A.take j) ∧ Gr w wr) (fun _ i _ => n - (intOf i).toNat)
 case atStart => exact ⟨0, by omega, rfl, Rws.nil _ _, G1.out⟩
 case round =>
  obtain ⟨j, hj, rfl, hrs, hg⟩ := hrel
  by_cases hlt : j < n
  ·obtain ⟨a, rfl⟩ : ∃ a, oa = some a := by
    rcases hoa with c1 | c1
    ·omega
    ·exact c1
   obtain ⟨u, q0, hu⟩ := HA.out a rfl j hlt
   have q1 := cell_grown hg q0
   have hlk : (A.take j).length = j := by rw [List.length_take, HN.out]; omega
   obtain ⟨us, ho, hr⟩ := hrs
   obtain ⟨oo, co, rfl⟩ := ownsRow_form ho
   obtain ⟨hwl, hwb⟩ := HW.out.at j (by rw [HN.out]; exact hlt)
   obtain ⟨_, ou, cu, rfl, m1, m2, m3, m4⟩ := Bs.grown hu hg
   rw [hwl] at q1 m1 m4
   rw [hlk] at ho hr ⊢
   have HO := Lib.hid ho
   have HRR := Lib.hid hr
   have HG := Lib.hid hg
   have HLK := Lib.hid hlk
   have hk64' : k ≤ 64 := by omega
   have fin : ∀ (v1 : Value) (w1 : World), New wr w1 v1 (A.getD j []) → ∀ gg cap w2,
     w2.ownsRow w.heap.size 25 1 (.slice (some ⟨gg, 0, none⟩) (j + 1) cap) (j + 1) (us ++ [v1]) → (w1.alloc (.cells #[v1] 25)).grownBy w2 (Value.slice oo j co).ownBlock →
     Rws w.heap.size w2 (.slice (some ⟨gg, 0, none⟩) (j + 1) cap) (A.take (j + 1)) ∧ Gr w w2 := by
    intro v1 w1 hnw gg cap w2 hown1 hgrow
    have hg1w : Gr wr (w1.alloc (.cells #[v1] 25)) := Gr.alloc hnw.1 _ _
    have hgw1 : Gr w1 (w1.alloc (.cells #[v1] 25)) := Gr.alloc (Gr.refl _) _ _
    have hrow : ∀ g, (Value.slice oo j co).ownBlock = some g → w.heap.size ≤ g := fun g hg => (ownsRow_not_bytes HO.out g hg).1
    have hnb := Rb.gr (New.bs hnw) (New.rb hnw w.heap.size) hgw1
    have hap := Rws.append (L := A.take j) (l := A.getD j []) (by rw [HLK.out]; exact (HO.out.of_gr hnw.1).alloc _) (fun i hi => Rb.gr (HRR.out i (by rwa [HLK.out] at hi)).1 (HRR.out i (by rwa [HLK.out] at hi)).2 hg1w)
     hnb.1 hnb.2 (by rw [HLK.out]; exact hown1) hgrow
    have htk : A.take j ++ [A.getD j []] = A.take (j + 1) := by
     rw [List.take_add_one, List.getD_eq_getElem?_getD, List.getElem?_eq_getElem (by rw [HN.out]; exact hlt)]
     rfl
    rw [htk] at hap
    exact ⟨hap, Gr.append (Gr.trans HG.out hg1w) hgrow hrow⟩
   have FIN := Lib.hid fin
   have NW : Hid (∀ (v1 : Value) (w1 : World), w1.ownsRow wr.heap.size 5 1 v1 k ((A.getD j []).map (Value.int .u8)) → Gr wr w1 → New wr w1 v1 (A.getD j [])) := Lib.hid (fun v1 w1 h1 h2 => New.of_row h2 hwb (by rw [hwl]; exact h1))
   have NC : Hid (∀ a, ou = some a → ∀ i u, ((A.getD j []).map (Value.int .u8))[i]? = some u → wr.cell? (a.add i) = some u) := Lib.hid (fun a ha i u hu => by
     have hi : i < (A.getD j []).length := by
       have := (List.getElem?_eq_some_iff.1 hu).1
       rwa [List.length_map] at this
     rw [m4 a ha i (by omega)]
     rw [List.getElem?_map, List.getElem?_eq_getElem hi] at hu
     rw [List.getD_eq_getElem?_getD, List.getElem?_eq_getElem hi]
     simpa using hu)
   have NL : Hid (((A.getD j []).map (Value.int .u8)).length = k * 1) := Lib.hid (by rw [List.length_map, hwl]; omega)
   have N1 : Hid (∀ u ∈ (A.getD j []).map (Value.int .u8), u.oneCell' = true) := Lib.hid (ints_oneCell _ _)
   clear fin ho hr hg hlk hwl hwb m4 hu q0
   generalize (A.getD j []).map (Value.int .u8) = cs at *
   cases ou with
   | none =>
    obtain rfl : cu = 0 := m3 rfl
    obtain rfl : k = 0 := by omega
    go_wp2_with (first
      | (at_builtin; refine wpList_append_own_none rfl _ _ 25 rfl wr.heap.size 5 i5 1 Tryz.underlying25 J0.out (.slice none 0 0) 0 [] rfl (World.ownsRow_nil _ _ _ _) rfl ?_)
      | (at_builtin; refine wpList_append_lies _ rfl _ _ _ rfl w.heap.size 25 i0 _ 1 24 Tryz.underlying65 I0.out I1.out I2.out I3.out rfl (by omega) (.slice oo j co) j us rfl (HO.out.alloc _)
            ⟨wr.heap.size, 0, none⟩ 1 1 [.slice none 0 0] rfl rfl (World.news_of_block (cs := #[.slice none 0 0]) (t := 25) (fr := (0, 0)) (heap_alloc_new wr _)) (by simp [Value.oneCell'])
            (by omega) (by unfold maxLen; omega) (by omega) (by have := HG.out.size; simp; omega) (wr.heap.size + 1) (by simp) ?_; intro gg cap w2 hown2 hgrow2 hat hlt2))
    have hcs : cs = [] := List.eq_nil_of_length_eq_zero (by have := NL.out; omega)
    obtain ⟨f1, f2⟩ := FIN.out _ _ (NW.out _ wr (by rw [hcs]; exact World.ownsRow_nil _ _ _ _) (Gr.refl _)) _ _ _ hown2 hgrow2
    exact ⟨⟨j + 1, by omega, by go_num, f1, f2⟩, by simp [intOf]; omega⟩
   | some b =>
    go_wp2_with (first
      | (at_builtin; refine wpList_append_own _ rfl _ _ 25 rfl wr.heap.size 5 i5 _ 1 1 Tryz.underlying25 J0.out J1.out J2.out J3.out rfl (by omega) (.slice none 0 0) 0 [] rfl (World.ownsRow_nil _ _ _ _) b k cu cs rfl NL.out (NC.out b rfl) N1.out (by unfold maxLen; omega) (by omega) (Nat.le_refl _) ?_; intro v1 w1 hown1 hgrow1 hnil1; clear hnil1; rw [Nat.zero_add, List.nil_append] at hown1; obtain ⟨o1, c1, rfl⟩ := ownsRow_form hown1; have H1 := Lib.hid hown1; have H2 := Lib.hid hgrow1; clear hown1 hgrow1)
      | (at_builtin; refine wpList_append_lies _ rfl _ _ _ rfl w.heap.size 25 i0 _ 1 24 Tryz.underlying65 I0.out I1.out I2.out I3.out rfl (by omega) (.slice oo j co) j us rfl (((HO.out.of_gr (Gr.append (Gr.refl wr) H2.out (fun _ h => by cases h)))).alloc _)
            ⟨w1.heap.size, 0, none⟩ 1 1 [.slice o1 k c1] rfl rfl (World.news_of_block (cs := #[.slice o1 k c1]) (t := 25) (fr := (0, 0)) (heap_alloc_new w1 _)) (by simp [Value.oneCell'])
            (by omega) (by unfold maxLen; omega) (by omega) (by have := HG.out.size; have := H2.out.size; simp; omega) (w1.heap.size + 1) (by simp) ?_; intro gg cap w2 hown2 hgrow2 hat hlt2))
    have hgw := Gr.append (Gr.refl wr) H2.out (fun _ h => by cases h)
    obtain ⟨f1, f2⟩ := FIN.out _ _ (NW.out _ _ H1.out hgw) _ _ _ hown2 hgrow2
    exact ⟨⟨j + 1, by omega, by go_num, f1, f2⟩, by simp [intOf]; omega⟩
  ·obtain rfl : n = j := by omega
   rw [List.take_of_length_le (by rw [HN.out]; omega)] at hrs
   have HR := Lib.hid hrs
   have HG := Lib.hid hg
   clear hrs hg
   go_wp2
   by_cases hn0 : n = 0
   ·subst hn0
    obtain rfl : A = [] := List.eq_nil_of_length_eq_zero HN.out
    have hred : IsRed k [] [] := ⟨(by intro r hr; cases hr), [], rfl, L.Rref.nil, L.Same.refl _⟩
    have HRED := Lib.hid hred
    obtain ⟨us, ho, _⟩ := HR.out
    have HO := Lib.hid ho
    obtain ⟨_, ⟨rfl, _⟩ | ⟨g, c, cur, rfl, _, _, _, hc2, _⟩⟩ := ho
    ·clear hred HR HS HA
     go_loopw [5, 6] (fun dd cc W => dd = .int .i64 0 ∧ cc = .int .i64 0 ∧ W = wr) (fun _ _ _ => 0)
     case atStart => exact ⟨rfl, rfl, rfl⟩
     case round =>
      obtain ⟨rfl, rfl, rfl⟩ := hrel
      go_wp2
      go_ret
      exact ⟨_, rfl, [], ⟨us, HO.out, fun i hi => absurd hi (by simp)⟩, HG.out, HRED.out⟩
    ·unfold maxLen at hc2
     clear hred HR HS HA
     go_loopw [5, 6] (fun dd cc W => dd = .int .i64 0 ∧ cc = .int .i64 0 ∧ W = wr) (fun _ _ _ => 0)
     case atStart => exact ⟨rfl, rfl, rfl⟩
     case round =>
      obtain ⟨rfl, rfl, rfl⟩ := hrel
      go_wp2
      go_ret
      exact ⟨_, rfl, [], ⟨us, HO.out, fun i hi => absurd hi (by simp)⟩, HG.out, HRED.out⟩
   ·have hk64' : k ≤ 64 := by omega
    obtain ⟨us, ho, hr⟩ := HR.out
    rw [HN.out] at ho hr
    obtain ⟨g, c, rfl, c1, c2, _, _, _⟩ := ownsRow_cell ho (by omega)
    have hx : Mx w wr g n c k A A [] 0 us := ⟨ho, hr, HN.out, HW.out, L.Ech.start _, HG.out⟩
    have HX := Lib.hid hx
    unfold maxLen at c2
    clear hx ho hr HR HG hk64 hoa HS
    go_loopw [5, 6] (fun d cc W => ∃ (cl : Nat) (Lm : List (List Int)) (ps : List Nat) (us : List Value), cl ≤ k ∧ cc = .int .i64 cl ∧ d = .int .i64 (ps.length : Nat) ∧ Mx w W g n c k A Lm ps cl us) (fun _ cc _ => k - (intOf cc).toNat)
    case atStart => exact ⟨0, A, [], us, by omega, rfl, rfl, HX.out⟩
    case round =>
     clear HX
     obtain ⟨cl, Lm, ps, us, hcl, rfl, rfl, hx⟩ := hrel
     have HX := Lib.hid hx
     obtain ⟨o0, c0', _, q0, _⟩ := hx.cell 0 (by omega)
     have hdn : ps.length ≤ n := by have := hx.ech.le; rw [List.length_map, hx.len] at this; exact this
     generalize hd : ps.length = d at *
     have HD := Lib.hid hd
     clear hx hd
     have hnp : 0 < n := by omega
     have hdc : d ≤ c := by omega
     by_cases hend : cl < k
     ·go_wp2
      go_loopw [7, 8] (fun a i W => W = wr ∧ ∃ ii : Nat, ii ≤ n ∧ d ≤ ii ∧ i = .int .i64 ii ∧ ((a = .int .i64 (-1) ∧ ∀ s, d ≤ s → s < ii → (Lm.getD s []).getD cl 0 = 0) ∨ ∃ t : Nat, a = .int .i64 t ∧ d ≤ t ∧ t < ii ∧ (Lm.getD t []).getD cl 0 ≠ 0)) (fun _ i _ => n - (intOf i).toNat)
      case atStart => exact ⟨rfl, d, hdn, Nat.le_refl _, rfl, .inl ⟨rfl, by omega⟩⟩
      case round =>
       obtain ⟨rfl, ii, hii, hdi, rfl, ht⟩ := hrel
       by_cases hlt : ii < n
       ·obtain ⟨oi, ci, _, e1, e2⟩ := HX.out.cell ii hlt
        obtain ⟨b, rfl, e3⟩ := e2 cl hend
        have hbb := HX.out.wide.byt ii cl
        have HT := Lib.hid ht
        clear e2 ht
        obtain ⟨z, hz⟩ : ∃ z, (Lm.getD ii []).getD cl 0 = z := ⟨_, rfl⟩
        rw [hz] at e3 hbb
        have HZ := Lib.hid hz
        clear hz
        by_cases hz0 : z = 0
        ·subst hz0
         go_wp2
         refine ⟨⟨trivial, ii + 1, by omega, by omega, by go_num, ?_⟩, by simp [intOf]; omega⟩
         rcases HT.out with ⟨rfl, h0⟩ | ⟨t, rfl, t1, t2, t3⟩
         ·refine .inl ⟨rfl, fun s s1 s2 => ?_⟩
          by_cases e : s = ii
          ·rw [e, HZ.out]
          ·exact h0 s s1 (by omega)
         ·exact .inr ⟨t, rfl, t1, by omega, t3⟩
        ·have hzb : (z != 0) = true := by simpa using hz0
         rcases HT.out with ⟨rfl, h0⟩ | ⟨t, rfl, t1, t2, t3⟩
         ·clear h0 HT
          go_wp2
          exact ⟨⟨trivial, ii + 1, by omega, by omega, by go_num, .inr ⟨ii, rfl, hdi, by omega, by rw [HZ.out]; exact hz0⟩⟩, by simp [intOf]; omega⟩
         ·have H3 := Lib.hid t3
          clear t3 HT
          go_wp2
          exact ⟨⟨trivial, ii + 1, by omega, by omega, by go_num, .inr ⟨t, rfl, t1, by omega, H3.out⟩⟩, by simp [intOf]; omega⟩
       ·obtain rfl : n = ii := by omega
        rcases ht with ⟨rfl, h0⟩ | ⟨t, rfl, t1, t2, t3⟩
        ·have H0 := Lib.hid h0
         clear h0
         go_wp2
         refine ⟨⟨cl + 1, Lm, ps, us, by omega, by go_num, by rw [HD.out], HX.out.to (HX.out.ech.skip fun s hs => ?_)⟩, by simp [intOf]; omega⟩
         rw [at_vec]
         by_cases e : s < n
         ·rw [H0.out s (by rw [← HD.out]; exact hs) e, fb_zero]
         ·have hnil : Lm.getD s [] = [] := by
           rw [List.getD_eq_getElem?_getD, List.getElem?_eq_none (by rw [HX.out.len]; omega)]
           rfl
          rw [hnil]
          rfl
        ·have H0 := Lib.hid t3
         clear t3
         obtain ⟨oa1, ca1, ea, qa, _⟩ := HX.out.cell t t2
         obtain ⟨od1, cd1, ed, qd, _⟩ := HX.out.cell d (by omega)
         have ft := HX.out.frozen t
         have fd := HX.out.frozen d
         have HEA := Lib.hid ea
         have HED := Lib.hid ed
         clear ea ed
         have hd1 : d < n := by omega
         obtain ⟨y, hy⟩ : ∃ y, (wr.setCell ⟨g, t, none⟩ (.slice od1 k cd1)).cell? ⟨g, d, none⟩ = some y := by
          obtain ⟨_, ⟨he, _⟩ | ⟨g', c', cur, he, _, hg, hh1, hh2, hh3, _⟩⟩ := HX.out.own
          ·cases he
          ·cases he
           have h2 := heap_setCell_same wr g t cur _ (.slice od1 k cd1) hg
           rw [cell_of_row _ g d _ _ _ h2]
           have : d < (cur.setIfInBounds t (.slice od1 k cd1)).size := by simp; omega
           exact ⟨_, by rw [Array.getElem?_eq_getElem this]⟩
         go_wp2
         go_region
         have hsw := (HX.out.swap t d (by rw [HD.out]; exact t1) t2 (by rw [HD.out]; omega) hd1).grow (Gr.drew (Gr.refl _))
         rw [HEA.out, HED.out] at hsw
         have hz1 : (((Lm.set t (Lm.getD d [])).set d (Lm.getD t [])).getD d []).getD cl 0 ≠ 0 := by
          rw [getD_set_self _ _ _ (by rw [List.length_set, HX.out.len]; exact hd1)]
          exact H0.out
         have H1 := Lib.hid hsw
         have HZ1 := Lib.hid hz1
         clear hsw hz1 hy q0 ft fd qa qd HEA HED H0 HX
         generalize ((wr.setCell ⟨g, t, none⟩ (.slice od1 k cd1)).setCell ⟨g, d, none⟩ (.slice oa1 k ca1)).drew = W1 at *
         generalize (us.set t (.slice od1 k cd1)).set d (.slice oa1 k ca1) = us1 at *
         generalize (Lm.set t (Lm.getD d [])).set d (Lm.getD t []) = L1 at *
         obtain ⟨ob1, cb1, eb1, qb1, rb1⟩ := H1.out.cell d hd1
         obtain ⟨b1, rfl, rq1⟩ := rb1 cl hend
         have fr1 := H1.out.frozen d
         have hbz := H1.out.wide.byt d cl
         have hrow := (H1.out.row d hd1).1
         rw [eb1] at hrow
         have HROW := Lib.hid hrow
         have HLK : Hid ((L1.getD d []).length = k) := Lib.hid (H1.out.wide.at d (by rw [H1.out.len]; exact hd1)).1
         clear rb1 hrow eb1
         generalize hzz : (L1.getD d []).getD cl 0 = z at *
         have HZZ := Lib.hid hzz
         clear hzz
         go_upto_region 21 with fail
         go_cut [] (fun wx => ∃ L2 us2, Mx w wx g n c k A L2 ps cl us2 ∧ (L2.getD d []).getD cl 0 = 1)
         case first =>
          go_region_law (first
            | ((try go_simp); go_at_call 72; refine (refInv_any z hbz _).mono ?_; rintro e w' ⟨rfl, rfl⟩)
            | ((try go_simp); go_at_call 73; refine (refScale_new (invZ z) _ (L1.getD d []) _ (invZ_byt z) (Bs.grown HROW.out (Gr.drew (Gr.refl _))) (by rw [HLK.out]; omega)).mono ?_; rintro e w2 ⟨v2, rfl, hnw⟩; obtain ⟨o2, m2, c2', rfl⟩ := New.form3 hnw; have hc2 := cell_grown hnw.1 qb1; have hf2 := frozen_grown hnw.1 qb1 fr1; have HNW := Lib.hid hnw; clear hnw))
          all_goals
           go_wp2_with fail
           go_meet
           refine ⟨_, _, ((H1.out.grow (Gr.trans (Gr.drew (Gr.refl _)) HNW.out.1)).scaled d (by rw [HD.out]; exact Nat.le_refl _) hd1 (invZ_byt z) (invZ_ne hbz HZ1.out) (New.bs HNW.out) (New.rb HNW.out _)), ?_⟩
           rw [getD_set_self _ _ _ (by rw [H1.out.len]; exact hd1), scaleL_getD _ _ _ (by rw [HLK.out]; exact hend), HZZ.out, inv_mulZ hbz HZ1.out]
         case rest =>
          clear H1 HZ1 qb1 rq1 fr1 hbz HROW HLK HZZ
          obtain ⟨L2, us2, hx2, hone⟩ := hcut
          have H2 := Lib.hid hx2
          have HONE := Lib.hid hone
          clear hx2 hone
          go_wp2
          go_loopw [94] (fun i W => ∃ (j : Nat) (L3 : List (List Int)) (us3 : List Value), j ≤ n ∧ i = .int .i64 j ∧ Mx w W g n c k A L3 ps cl us3 ∧ (L3.getD d []).getD cl 0 = 1 ∧ ∀ s, s < j → s ≠ d → (L3.getD s []).getD cl 0 = 0) (fun i _ => n - (intOf i).toNat)
          case atStart => exact ⟨0, L2, us2, by omega, rfl, H2.out, HONE.out, by omega⟩
          case round =>
           clear H2 HONE
           obtain ⟨j, L3, us3, hj, rfl, hx3, hone, hzs⟩ := hrel
           have H3 := Lib.hid hx3
           have HONE := Lib.hid hone
           have HZS := Lib.hid hzs
           clear hx3 hone hzs
           by_cases hlt : j < n
           ·by_cases hjd : j = d
            ·obtain rfl : d = j := hjd.symm
             clear hjd
             go_wp2
             refine ⟨⟨d + 1, L3, us3, by omega, by go_num, H3.out, HONE.out, fun s s1 s2 => HZS.out s (by omega) s2⟩, by simp [intOf]; omega⟩
            ·have hjd' : ((j : Int) != d) = true := by simp; omega
             obtain ⟨oj, cj, ej, qj, rj⟩ := H3.out.cell j hlt
             obtain ⟨bj, rfl, rqj⟩ := rj cl hend
             have hbz := H3.out.wide.byt j cl
             generalize hzz : (L3.getD j []).getD cl 0 = z at *
             have HZZ := Lib.hid hzz
             have HEJ := Lib.hid ej
             have HJD := Lib.hid hjd
             clear rj hzz ej hjd
             by_cases hz0 : z = 0
             ·subst hz0
              go_wp2
              refine ⟨⟨j + 1, L3, us3, by omega, by go_num, H3.out, HONE.out, fun s s1 s2 => ?_⟩, by simp [intOf]; omega⟩
              by_cases e : s = j
              ·rw [e, HZZ.out]
              ·exact HZS.out s (by omega) s2
             ·have hzb : (z != 0) = true := by simpa using hz0
              obtain ⟨od, cd, ed, qd, _⟩ := H3.out.cell d hd1
              have fj := H3.out.frozen j
              have hrj := (H3.out.row j hlt).1
              have hrd := (H3.out.row d hd1).1
              rw [HEJ.out] at hrj
              rw [ed] at hrd
              have RJ := Lib.hid hrj
              have RD := Lib.hid hrd
              have WJ : Hid ((L3.getD j []).length = k) := Lib.hid (H3.out.wide.at j (by rw [H3.out.len]; exact hlt)).1
              have WD : Hid ((L3.getD d []).length = k) := Lib.hid (H3.out.wide.at d (by rw [H3.out.len]; exact hd1)).1
              clear hrj hrd ed hz0
              go_wp2
              go_region_law (first
                | ((try go_simp); go_at_call 74; refine (refAxpy_new z _ _ (L3.getD d []) (L3.getD j []) _ hbz (Bs.grown RD.out (Gr.drew (Gr.refl _))) (Bs.grown RJ.out (Gr.drew (Gr.refl _))) (by rw [WJ.out, WD.out]) (by rw [WD.out]; omega)).mono ?_; rintro e w2 ⟨v2, rfl, hnw⟩; obtain ⟨o2, m2, c2', rfl⟩ := New.form3 hnw; have hc2 := cell_grown hnw.1 qj; have hf2 := frozen_grown hnw.1 qj fj; have HNW := Lib.hid hnw; clear hnw))
              all_goals
               go_wp2_with fail
               refine ⟨⟨j + 1, _, _, by omega, by go_num, (H3.out.grow (Gr.trans (Gr.drew (Gr.refl _)) HNW.out.1)).added j d (by rw [HD.out]; exact Nat.le_refl _) hd1 hlt HJD.out hbz (New.bs HNW.out) (New.rb HNW.out _), ?_, fun s s1 s2 => ?_⟩, by simp [intOf]; omega⟩
               ·rw [getD_set_ne _ _ _ _ HJD.out, HONE.out]
               ·by_cases e : s = j
                ·rw [e, getD_set_self _ _ _ (by rw [H3.out.len]; exact hlt), axL_getD _ _ _ _ (by rw [WD.out]; exact hend), HONE.out, HZZ.out, mulZ_one z hbz, addZ_self]
                ·rw [getD_set_ne _ _ _ _ (fun c => e c.symm)]
                 exact HZS.out s (by omega) s2
           ·obtain rfl : n = j := by omega
            go_wp2
            refine ⟨⟨cl + 1, L3, ps ++ [cl], us3, by omega, by go_num, by rw [List.length_append, HD.out]; rfl, H3.out.to (H3.out.ech.next ?_ ?_ fun s hs => ?_)⟩, by simp [intOf]; omega⟩
            ·rw [List.length_map, H3.out.len, HD.out]; exact hd1
            ·rw [at_vec, HD.out, HONE.out, fb_one]
            ·rw [at_vec]
             by_cases e : s < n
             ·rw [HZS.out s e (by rw [← HD.out]; exact hs), fb_zero]
             ·have hnil : L3.getD s [] = [] := by
               rw [List.getD_eq_getElem?_getD, List.getElem?_eq_none (by rw [H3.out.len]; omega)]
               rfl
              rw [hnil]
              rfl
     ·obtain rfl : k = cl := by omega
      go_wp2
      go_ret
      obtain ⟨r1, r2, r3⟩ := HX.out.out
      rw [HD.out] at r1 r3
      exact ⟨_, _, rfl, r1, r2, r3⟩
end Go.Proofs.YtbbglejdfbkjlaaGreat
namespace Go.Proofs.YtbbglejdfbkjlaaGreat
open Go.RowKit
set_option maxHeartbeats 400000 in
theorem refRank_any (va : Value) (A : List (List Int)) (w : World) (h : Bss w va A) (hl : A.length ≤ 1000) (hmay : mayL A = true) :
  Calls Tryz.prog 71 #[va] w fun e w' => e = .returned (.int .i64 (rkL A)) ∧ Gr w w' := by
 have HS := Lib.hid h
 have HM := Lib.hid hmay
 clear h hmay
 go_enter Tryz.func71, Tryz.ntmps71
 go_wp2_with fail
 refine (refReduce_any va A w HS.out hl HS.out.byt HM.out).mono ?_
 rintro e w1 ⟨v, R, rfl, hv, hg, hred⟩
 have hrk : rkL A = R.length := hred.rank
 obtain ⟨o, c, rfl, h1, h2, _, _⟩ := hv.bss
 have HG := Lib.hid hg
 have HRK := Lib.hid hrk
 clear hred hrk hg hv
 generalize R.length = s at *
 go_wp2_with fail
 go_ret
 exact ⟨by rw [HRK.out]; rfl, HG.out⟩
end Go.Proofs.YtbbglejdfbkjlaaGreat
namespace Go.Proofs.YtbbglejdfbkjlaaGreat
open Go.RowKit
set_option maxRecDepth 100000 in
set_option maxHeartbeats 1600000 in
theorem refMatrix_in (K H : Nat) (S : Int) (seed : Nat) (v : Value) (l : List Int) (w : World) (hm : MayP K H S) (hs : seed < 4294967296) (hz : Zs w v l) (hl : l.length ≤ 900) :
  Calls Tryz.prog 42 #[par K H S, .int .u32 (seed : Int), v] w fun e w' => ∃ u, e = .returned u ∧ Bss w' u (matP K H S seed l) ∧ Gr w w' := by
 have hd := decide_eq_true hm
 have HM := Lib.hid hm
 have HAH := Lib.hid fun W : World => refAhead_in K H S W hm
 obtain ⟨n, hn⟩ : ∃ n, l.length = n := ⟨_, rfl⟩
 obtain ⟨hzi, oa, ca, rfl, z2, z3, z4, z5⟩ := hz
 rw [hn] at z2 z5 hl ⊢
 have HI := Lib.hid hzi
 have HC := Lib.hid z5
 have HN := Lib.hid hn
 have hoa : n = 0 ∨ ∃ a, oa = some a := by
  cases oa with
  | none => exact .inl (by have := z4 rfl; omega)
  | some a => exact .inr ⟨a, rfl⟩
 have P0 : Hid (Par (w.alloc (.cells #[.int .i64 (K : Int), .int .i64 (H : Int), .int .i64 S] 23)) w.heap.size K H S) := Lib.hid (heap_alloc_new _ _)
 have HG0 : Hid (Gr w (w.alloc (.cells #[.int .i64 (K : Int), .int .i64 (H : Int), .int .i64 S] 23))) := Lib.hid (Gr.alloc (Gr.refl _) _ _)
 clear hzi z5 hn z4 z2 z3 hm
 go_enter Tryz.func42, Tryz.ntmps42
 go_wp2_with fail
 generalize w.alloc (.cells #[.int .i64 (K : Int), .int .i64 (H : Int), .int .i64 S] 23) = W0 at *
 generalize hgp : w.heap.size = gp at *
 refine (refMay_any K H S _).mono ?_
 rw [hd]
 rintro e w1 ⟨rfl, hg1⟩
 have P1 := Lib.hid (P0.out.grown hg1)
 have HG1 := Lib.hid (Gr.trans HG0.out hg1)
 clear hg1 P0 HG0
 have c0 := P1.out.cell0
 have c1 := P1.out.cell1
 have c2 := P1.out.cell2
 go_wp2_with fail
 refine (HAH.out _).mono ?_
 rintro e w2 ⟨v2, rfl, hr2, hg2⟩
 have P2 := Lib.hid (P1.out.grown hg2)
 have HG2 := Lib.hid (Gr.trans HG1.out hg2)
 have R2 : Hid (Rws w1.heap.size w2 v2 (matP K H S seed (l.take 0))) := Lib.hid (by
   rw [List.take_zero, matP_in HM.out]
   simpa using hr2)
 have HB : Hid (w.heap.size ≤ w1.heap.size) := Lib.hid HG1.out.size
 have HB2 : Hid (w1.heap.size ≤ w2.heap.size) := Lib.hid hg2.size
 generalize w1.heap.size = b1 at *
 obtain ⟨o2, m2, c2', rfl⟩ := R2.out.form4
 clear hr2 hg2 P1 HG1 c0 c1 c2
 go_wp2_with fail
 go_loopw [7, 17] (fun ov iv W => ∃ i : Nat, i ≤ n ∧ iv = .int .i64 i ∧ Rws b1 W ov (matP K H S seed (l.take i)) ∧ Par W gp K H S ∧ Gr w W ∧ b1 ≤ W.heap.size) (fun _ iv _ => n - (intOf iv).toNat)
 case atStart => exact ⟨0, by omega, rfl, R2.out, P2.out, HG2.out, HB2.out⟩
 case round =>
  clear R2 P2 HG2
  obtain ⟨wo, hwo⟩ : ∃ x, x = wr := ⟨_, rfl⟩
  subst hwo
  obtain ⟨i, hin, rfl, hr, hp, hg, hb1⟩ := hrel
  obtain ⟨oo, mo, co, rfl⟩ := hr.form4
  have c0 := hp.cell0
  have c1 := hp.cell1
  have c2 := hp.cell2
  have HR := Lib.hid hr
  have HP := Lib.hid hp
  have HG := Lib.hid hg
  have HB1 := Lib.hid hb1
  clear hr hp hg hb1
  by_cases hlt : i < n
  ·obtain ⟨a, rfl⟩ : ∃ a, oa = some a := by
    rcases hoa with c1 | c1
    ·omega
    ·exact c1
   have q1 := cell_grown HG.out (HC.out a rfl i hlt)
   obtain ⟨x, hx⟩ : ∃ x, l.getD i 0 = x := ⟨_, rfl⟩
   rw [hx] at q1
   have hxi : I64 x := by rw [← hx]; exact HI.out _ (by rw [List.getD_eq_getElem?_getD, List.getElem?_eq_getElem (by rw [HN.out]; exact hlt)]; exact List.getElem_mem _)
   have HXI := Lib.hid hxi
   have HML := Lib.hid (matP_length K H S seed (l.take i))
   have HLL : Hid ((l.take i).length = i) := Lib.hid (by rw [List.length_take, HN.out]; omega)
   have HS : Hid (matP K H S seed (l.take (i + 1)) = matP K H S seed (l.take i) ++ if MayP K H S ∧ MayI x then [rowP K H S seed x] else []) := Lib.hid (by
     rw [List.take_add_one, List.getElem?_eq_getElem (by rw [HN.out]; exact hlt), ← hx, List.getD_eq_getElem?_getD, List.getElem?_eq_getElem (by rw [HN.out]; exact hlt)]
     exact matP_snoc K H S seed (l.take i) _)
   clear hx
   go_wp2_with fail
   refine (refMayID_any x _).mono ?_
   rintro e w' ⟨rfl, rfl⟩
   by_cases hi : MayI x
   ·have hdi := decide_eq_true hi
    have HII := Lib.hid hi
    rw [hdi]
    clear hi hdi
    go_wp2_with fail
    refine (refRow_new K H S seed x _ hs).mono ?_
    rintro e w3 ⟨v3, rfl, hn3⟩
    obtain ⟨o3, m3, c3, rfl⟩ := New.form3 hn3
    have NW := Lib.hid hn3
    have HR3 := Lib.hid (HR.out.grown hn3.1)
    have HP3 := Lib.hid (HP.out.grown hn3.1)
    have HG3 := Lib.hid (Gr.trans HG.out hn3.1)
    have HB3 : Hid (b1 ≤ w3.heap.size) := Lib.hid (Nat.le_trans HB1.out hn3.1.size)
    clear hn3 HR HP HG HB1 c0 c1 c2
    go_wp2_with (at_builtin; refine wpList_append_row rfl _ _ rfl b1 (.slice oo mo co) (matP K H S seed (l.take i)) rfl (HR3.out.grown (Gr.alloc (Gr.refl _) _ _)) w3.heap.size (.slice o3 m3 c3) (rowP K H S seed x) rfl (by rw [cell_of_row _ _ 0 _ _ _ (heap_alloc_new w3 _)]; rfl) (Bs.grown (New.bs NW.out) (Gr.alloc (Gr.refl _) _ _)) (Rb.gr (New.bs NW.out) (New.rb NW.out b1) (Gr.alloc (Gr.refl _) _ _)).2 (by have := HML.out; rw [HLL.out] at this; omega) (by have := HB3.out; simp; omega) ?_; intro v5 w5 hr5 hg5 hk5; have R5 := Lib.hid hr5; have G5 := Lib.hid hg5; have K5 := Lib.hid hk5; clear hr5 hg5 hk5)
    have hg3 : Gr w (w3.alloc (.cells #[.slice o3 m3 c3] 25)) := Gr.alloc HG3.out _ _
    exact ⟨⟨i + 1, by omega, by go_num, by rw [HS.out, if_pos ⟨HM.out, HII.out⟩]; exact R5.out, K5.out.2 _ _ _ _ (HP3.out.grown (Gr.alloc (Gr.refl _) _ _)) (by decide), G5.out w hg3 HB.out, Nat.le_trans HB3.out (Nat.le_trans (by simp) K5.out.1)⟩, by simp [intOf]; omega⟩
   ·have hdi := decide_eq_false hi
    have HII := Lib.hid hi
    rw [hdi]
    clear hi hdi
    go_wp2_with fail
    exact ⟨⟨i + 1, by omega, by go_num, by rw [HS.out, if_neg (fun h => HII.out h.2), List.append_nil]; exact HR.out, HP.out, HG.out, HB1.out⟩, by simp [intOf]; omega⟩
  ·obtain rfl : i = n := by omega
   go_wp2_with fail
   go_ret
   refine ⟨_, rfl, ?_, HG.out⟩
   have := HR.out.bss
   rwa [List.take_of_length_le (by rw [HN.out]; exact Nat.le_refl _)] at this
set_option maxRecDepth 100000 in
set_option maxHeartbeats 400000 in
theorem refMatrix_ne (K H S : Int) (seed : Nat) (v : Value) (l : List Int) (w : World) (hm : ¬ MayP K H S) (hz : Zs w v l) :
  Calls Tryz.prog 42 #[par K H S, .int .u32 (seed : Int), v] w fun e w' => e = .returned (.slice none 0 0) ∧ Gr w w' := by
 have hd := decide_eq_false hm
 obtain ⟨o, c, rfl⟩ := hz.form
 have HG0 : Hid (Gr w (w.alloc (.cells #[.int .i64 K, .int .i64 H, .int .i64 S] 23))) := Lib.hid (Gr.alloc (Gr.refl _) _ _)
 clear hm hz
 go_enter Tryz.func42, Tryz.ntmps42
 go_wp2_with fail
 refine (refMay_any K H S _).mono ?_
 rw [hd]
 rintro e w1 ⟨rfl, hg1⟩
 have HG1 := Lib.hid (Gr.trans HG0.out hg1)
 clear hg1
 go_wp2_with fail
 go_ret
 exact ⟨rfl, HG1.out⟩
theorem refMatrix_any (K H S : Int) (seed : Nat) (v : Value) (l : List Int) (w : World) (hs : seed < 4294967296) (hz : Zs w v l) (hl : l.length ≤ 900) :
  Calls Tryz.prog 42 #[par K H S, .int .u32 (seed : Int), v] w fun e w' => ∃ u, e = .returned u ∧ Bss w' u (matP K H S seed l) ∧ Gr w w' := by
 by_cases hm : MayP K H S
 ·obtain ⟨k, rfl⟩ : ∃ k : Nat, K = k := ⟨K.toNat, by have := hm.1; omega⟩
  obtain ⟨h, rfl⟩ : ∃ h : Nat, H = h := ⟨H.toNat, by have := hm.2.2.1; omega⟩
  exact refMatrix_in k h S seed v l w hm hs hz hl
 ·rw [matP_ne hm]
  refine (refMatrix_ne K H S seed v l w hm hz).mono ?_
  rintro e w' ⟨rfl, hg⟩
  exact ⟨_, rfl, Bss.nil _, hg⟩
end Go.Proofs.YtbbglejdfbkjlaaGreat
