/-
  Texts laid behind one another: Ql Qm Ia Ib Ic.
-/
import Derived.Test.YtdmcncpndogdlaaMgk
import Derived.Test.YtdmcncpndogdlaaMge
namespace Go.Proofs.Ytdmcncpndogdlaa
open Go.RowKit

theorem good_may {N S : Nat} {vs : List (List Int)} {L : List Eqn} (hN : N ≤ 64) (h : ∀ q ∈ L, GoodE N S vs q) : MayEqs (N : Int) L ∧ ∀ q ∈ L, dlen L = S := by
  have hd : ∀ q ∈ L, dlen L = S := fun q hq => by
    cases L with
    | nil => cases hq
    | cons a t => exact (h a (by simp)).2.1
  exact ⟨⟨by omega, by omega, fun q hq => ⟨(h q hq).1, by rw [(h q hq).2.1, hd q hq]⟩⟩, hd⟩
theorem rising_pw {c : List Int} (h : Rising c) : c.Pairwise (· < ·) := by
  rw [List.pairwise_iff_getElem]
  have key : ∀ d i, i + 1 + d < c.length → c.getD i 0 < c.getD (i + 1 + d) 0 := by
    intro d
    induction d with
    | zero => intro i hi; exact h i hi
    | succ d ih => intro i hi; exact Int.lt_trans (ih i (by omega)) (h (i + 1 + d) (by omega))
  intro i j hi hj hij
  have := key (j - i - 1) i (by omega)
  rw [show i + 1 + (j - i - 1) = j from by omega, List.getD_eq_getElem?_getD, List.getD_eq_getElem?_getD, List.getElem?_eq_getElem hi, List.getElem?_eq_getElem hj] at this
  exact this
theorem openL_may {n : Int} {kn : List Bool} {c : List Int} (h : MayRow n c) : MayRow n (openL kn c) :=
  ⟨fun x hx => h.1 x (List.mem_filter.1 hx).1, rising_of ((rising_pw h.2).sublist List.filter_sublist)⟩
theorem openL_cols (kn : List Bool) (c : List Int) : (openL kn c).map Int.toNat = (c.map Int.toNat).filter fun x => !(kn.getD x false) := by
  unfold openL
  rw [List.filter_map]
  rfl
/-- What peeling tells of rows that some values make. -/
structure PeelT (N S : Nat) (vs : List (List Int)) (L : List Eqn) (kn : List Bool) (us : List (List Int)) (rs : List Eqn) : Prop where
  len : kn.length = N
  ulen : us.length = N
  val : ∀ c, kn.getD c false = true → us.getD c [] = vs.getD c []
  no : ∀ c, kn.getD c false = false → us.getD c [] = []
  der : ∀ c, kn.getD c false = true ↔ PL.Der (L.map toE) c
  left : rs = leftE kn us L
  two : ∀ r ∈ rs, 2 ≤ r.c.length ∧ GoodE N S vs r ∧ ∀ x ∈ r.c, kn.getD x.toNat false = false
theorem peel_true {N S : Nat} {vs : List (List Int)} {L : List Eqn} {kn : List Bool} {us : List (List Int)} {rs : List Eqn} {e : Int} (hN : N ≤ 64) (hw : Wide S vs) (hvl : vs.length = N) (hL : ∀ q ∈ L, GoodE N S vs q) (h : PeelSays N L kn us rs e) : e = 0 ∧ PeelT N S vs L kn us rs := by
  obtain ⟨hm, hd⟩ := good_may hN hL
  have hh : PL.Holds VT (L.map toE) (valV vs) := PL.Holds.of_all VT fun q hq => by
    obtain ⟨r, hr, rfl⟩ := List.mem_map.1 hq
    exact (hL r hr).2.2.2.symm
  have hnd : ∀ q, q ∈ L.map toE → q.cols.Nodup := fun q hq => by
    obtain ⟨r, hr, rfl⟩ := List.mem_map.1 hq
    exact mayRow_nodup (hm.2.2 r hr).1
  rcases h with ⟨a0, _⟩ | ⟨_, a1, _⟩ | ⟨_, a1, a2, a3⟩
  · exact absurd hm a0
  · exact absurd ⟨_, hh⟩ a1
  · refine ⟨a1, ?_⟩
    rw [Int.toNat_natCast] at a2
    have hS : ∀ c, PL.Der (L.map toE) c → dlen L = S := fun c hc => by
      cases hc with
      | by_row q c hq _ _ =>
        obtain ⟨r, hr, _⟩ := List.mem_map.1 hq
        exact hd r hr
    have hlt : ∀ c, PL.Der (L.map toE) c → c < N := fun c hc => PL.Der.lt (fun q hq d hdq => by
      obtain ⟨r, hr, rfl⟩ := List.mem_map.1 hq
      obtain ⟨x, hx, rfl⟩ := List.mem_map.1 hdq
      have := (hL r hr).1.1 x hx
      omega) hc
    have hv : ∀ c, kn.getD c false = true → us.getD c [] = vs.getD c [] := fun c hc => by
      have hder := (a2.der c).1 hc
      obtain ⟨h1, h2⟩ := a2.val.2 c hc
      have h3 := hw (vs.getD c []) (by
        have := hlt c hder
        rw [List.getD_eq_getElem?_getD, List.getElem?_eq_getElem (by omega)]
        exact List.getElem_mem _)
      exact vec_inj (by rw [h1, h3.1, hS c hder]) h2 h3.2 (PL.Holds.unique VT hnd a2.holds hh hder)
    refine ⟨a2.len, by rw [a2.val.1, a2.len], hv, a2.no, a2.der, a3, fun r hr => ?_⟩
    rw [a3] at hr
    obtain ⟨q, hq, rfl⟩ := List.mem_map.1 hr
    obtain ⟨hq, hpos⟩ := List.mem_filter.1 hq
    have hpos : 0 < (openL kn q.c).length := by simpa using hpos
    obtain ⟨g1, g2, g3, g4⟩ := hL q hq
    have hro := restL_ok a2.val q.c q.d (by rw [g2, hd q hq]) g3
    refine ⟨?_, ⟨openL_may g1, by rw [hro.1, hd q hq], hro.2, ?_⟩, fun x hx => (openL_mem.1 hx).2⟩
    · rcases Nat.lt_or_ge 1 (openL kn q.c).length with h2 | h2
      · exact h2
      · obtain ⟨x, hx⟩ : ∃ x, openL kn q.c = [x] := List.length_eq_one_iff.1 (by omega)
        have hxm : x ∈ openL kn q.c := by rw [hx]; simp
        obtain ⟨hxc, hxk⟩ := openL_mem.1 hxm
        have hdx : PL.Der (L.map toE) x.toNat := .by_row (toE q) x.toNat (List.mem_map.2 ⟨q, hq, rfl⟩) (List.mem_map.2 ⟨x, hxc, rfl⟩) fun d hdq hne => by
          obtain ⟨y, hy, rfl⟩ := List.mem_map.1 hdq
          rw [← a2.der]
          cases hk : kn.getD y.toNat false
          · have : y ∈ openL kn q.c := openL_mem.2 ⟨hy, hk⟩
            rw [hx] at this
            obtain rfl : y = x := by simpa using this
            exact absurd rfl hne
          · rfl
        rw [← a2.der, hxk] at hdx
        cases hdx
    · show vec (restL kn us q.c q.d) = PL.tot VT (valV vs) ((openL kn q.c).map Int.toNat)
      have hr := PL.rest_holds VT (k := fun x => kn.getD x false) (v := valV us) (v0 := valV vs) (q := toE q) g4.symm fun c _ hk => by
        show vec (us.getD c []) = vec (vs.getD c [])
        rw [hv c hk]
      rw [openL_cols, vec_rest a2.val q.c q.d (by rw [g2, hd q hq]) g3]
      exact hr.symm
end Go.Proofs.Ytdmcncpndogdlaa
namespace Go.Proofs.Ytdmcncpndogdlaa
open Go.RowKit

theorem run_append_inS {P : Program} {w : World} (base : Nat) (t ty e : TypeId) (i : TypeInfo) (z : Value) (size bytes : Nat) (ht : P.underlying t = some (.slice e)) (hi : P.info? e = some i) (hz : i.zero = some z)
    (hsize : i.size = size) (hby : i.bytes = bytes) (hzs : z.cells.size = size) (hsz : 0 < size) (v : Value) (n : Nat) (xs : List Value) (hown : w.ownsRow base e size v n xs)
    (oa : Option Addr) (m c : Nat) (news : List Value) (hno : oa = none → m = 0 ∧ c = 0) (hl : news.length = m * size) (hnews : ∀ ad, oa = some ad → ∀ j u, news[j]? = some u → w.cell? (ad.add j) = some u) (h1 : ∀ u ∈ news, u.oneCell' = true)
    (h63 : n + m ≤ maxLen) (hbytes : (n + m) * bytes ≤ 140737488355328) (hbase : base ≤ w.heap.size) :
    ∃ v' w', (Builtin.append_ #[t, t] ty #[v, .slice oa m c]).run P w = .ok v' w' ∧ w'.ownsRow base e size v' (n + m) (xs ++ news) ∧ w.grownBy w' v.ownBlock := by
  cases oa with
  | none =>
    obtain ⟨rfl, rfl⟩ := hno rfl
    obtain rfl : news = [] := List.eq_nil_of_length_eq_zero (by rw [hl]; omega)
    refine ⟨v, w, run_append_owned_none (P := P) (w := w) base t ty e i size ht hi v n xs hown, by rw [List.append_nil]; exact hown, ⟨rfl, rfl, rfl, Nat.le_refl _, fun _ _ _ => rfl⟩⟩
  | some ad =>
    obtain ⟨v', w', hr, h2, h3, _⟩ := run_append_own (P := P) w base t ty e i z size bytes ht hi hz hsize hby hzs hsz v n xs hown ad m c news hl (hnews ad rfl) h1 h63 hbytes hbase
    exact ⟨v', w', hr, h2, h3⟩
/-- Rows of ones as values, from an address on. -/
def EqsV (base : Nat) (w : World) (oa : Option Addr) (m : Nat) (L : List Eqn) : Prop :=
  L.length = m ∧ (oa = none → m = 0) ∧ ∃ us : List Value, us.length = m * 2 ∧ (∀ ad, oa = some ad → ∀ j u, us[j]? = some u → w.cell? (ad.add j) = some u) ∧ ∀ i, i < m → EqVal base w (us.getD (i * 2) undef) (us.getD (i * 2 + 1) undef) (L.getD i noE)
theorem EqsV.grown {base m : Nat} {w w' : World} {oa : Option Addr} {L : List Eqn} (h : EqsV base w oa m L) (hg : Gr w w') : EqsV base w' oa m L := by
  obtain ⟨h1, h2, us, h3, h4, h5⟩ := h
  exact ⟨h1, h2, us, h3, fun ad ha j u hu => cell_gr hg (h4 ad ha j u hu), fun i hi => (h5 i hi).gr hg⟩
theorem EqsV.nil (base : Nat) (w : World) (oa : Option Addr) : EqsV base w oa 0 [] := ⟨rfl, fun _ => rfl, [], rfl, fun ad _ j u hu => by simp at hu, fun i hi => by omega⟩
/-- Rows that came in: their memory was there. -/
theorem Eqs.vals {w : World} {o : Option Addr} {n c : Nat} {L : List Eqn} (h : Eqs w (.slice o n c) L) : EqsV w.heap.size w o n L := by
  obtain ⟨o', c', he, h2, h3, h4, h5⟩ := h
  obtain ⟨rfl, rfl, rfl⟩ : o = o' ∧ n = L.length ∧ c = c' := by simpa using he
  by_cases h0 : 0 < L.length
  · obtain ⟨b, q, rfl, h6⟩ := h5 h0
    have hex : ∀ i, ∃ uc ud : Value, i < L.length → w.cell? ⟨b, q + i * 2, none⟩ = some uc ∧ w.cell? ⟨b, q + i * 2 + 1, none⟩ = some ud ∧ EqVal w.heap.size w uc ud (L.getD i noE) := fun i => by
      by_cases hi : i < L.length
      · obtain ⟨oc, nc, cc, od, nd, cd, q1, q2, zc, zd⟩ := h6 i hi
        refine ⟨_, _, fun _ => ⟨q1, q2, zc, fun a m c' e hm => .inl ?_, zd, zd.rb w⟩⟩
        cases e
        have hz := zc.cellAt (i := 0) hm
        exact World.block_lt_of_cell? _ _ (by rw [add_nought] at hz; exact hz)
      · exact ⟨undef, undef, fun h => absurd h hi⟩
    let f : Nat → Value := fun j => if j % 2 = 0 then Classical.choose (hex (j / 2)) else Classical.choose (Classical.choose_spec (hex (j / 2)))
    have hf : ∀ i, i < L.length → w.cell? ⟨b, q + i * 2, none⟩ = some (f (i * 2)) ∧ w.cell? ⟨b, q + i * 2 + 1, none⟩ = some (f (i * 2 + 1)) ∧ EqVal w.heap.size w (f (i * 2)) (f (i * 2 + 1)) (L.getD i noE) := fun i hi => by
      have e0 : f (i * 2) = Classical.choose (hex i) := by
        show (if i * 2 % 2 = 0 then Classical.choose (hex (i * 2 / 2)) else _) = _
        rw [if_pos (by omega), show i * 2 / 2 = i from by omega]
      have e1 : f (i * 2 + 1) = Classical.choose (Classical.choose_spec (hex i)) := by
        show (if (i * 2 + 1) % 2 = 0 then _ else Classical.choose (Classical.choose_spec (hex ((i * 2 + 1) / 2)))) = _
        rw [if_neg (by omega)]
        have : (i * 2 + 1) / 2 = i := by omega
        rw [this]
      rw [e0, e1]
      exact Classical.choose_spec (Classical.choose_spec (hex i)) hi
    refine ⟨rfl, (fun e => by cases e), (List.range (L.length * 2)).map f, by simp, fun ad ha j u hu => ?_, fun i hi => ?_⟩
    · cases ha
      obtain ⟨hj, hu⟩ := List.getElem?_eq_some_iff.1 hu
      simp at hj hu
      subst hu
      rw [Addr.add_mid]
      by_cases e : j % 2 = 0
      · have := (hf (j / 2) (by omega)).1
        rw [show j / 2 * 2 = j from by omega] at this
        exact this
      · have := (hf (j / 2) (by omega)).2.1
        rw [show j / 2 * 2 + 1 = j from by omega, Nat.add_assoc, show j / 2 * 2 + 1 = j from by omega] at this
        exact this
    · have := (hf i hi).2.2
      rw [List.getD_eq_getElem?_getD, List.getD_eq_getElem?_getD, List.getElem?_map, List.getElem?_map, List.getElem?_range (by omega), List.getElem?_range (by omega)]
      exact this
  · have : L = [] := List.eq_nil_of_length_eq_zero (by omega)
    subst this
    exact EqsV.nil _ _ _
theorem EqsV.one {base m : Nat} {w : World} {us : List Value} {L : List Eqn} (hl : us.length = m * 2) (h : ∀ i, i < m → EqVal base w (us.getD (i * 2) undef) (us.getD (i * 2 + 1) undef) (L.getD i noE)) : ∀ u ∈ us, u.oneCell' = true := fun u hu => by
  obtain ⟨j, hj, rfl⟩ := List.getElem_of_mem hu
  have hq := h (j / 2) (by omega)
  obtain ⟨oc, cc, e1⟩ := hq.1.form
  obtain ⟨od, cd, e2⟩ := hq.2.2.1.form
  have e : us[j] = us.getD j undef := by rw [List.getD_eq_getElem?_getD, List.getElem?_eq_getElem hj]; rfl
  rw [e]
  by_cases e0 : j % 2 = 0
  · rw [show j / 2 * 2 = j from by omega] at e1
    rw [e1]
    rfl
  · rw [show j / 2 * 2 + 1 = j from by omega] at e2
    rw [e2]
    rfl
theorem EqsV.single {base g : Nat} {w : World} {uc ud : Value} {q : Eqn} (hc : w.cell? ⟨g, 0, none⟩ = some uc) (hd : w.cell? ⟨g, 1, none⟩ = some ud) (h : EqVal base w uc ud q) : EqsV base w (some ⟨g, 0, none⟩) 1 [q] := by
  refine ⟨rfl, (fun e => by cases e), [uc, ud], rfl, fun ad ha j u hj => ?_, fun i hi => ?_⟩
  · cases ha
    match j, hj with
    | 0, hj =>
      obtain rfl : uc = u := by simpa using hj
      exact hc
    | 1, hj =>
      obtain rfl : ud = u := by simpa using hj
      exact hd
    | j + 2, hj => simp at hj
  · obtain rfl : i = 0 := by omega
    exact h
theorem EqVal.mono {base base' : Nat} {w : World} {uc ud : Value} {q : Eqn} (h : EqVal base w uc ud q) (hb : base ≤ base') : EqVal base' w uc ud q :=
  ⟨h.1, fun a n c e hm => (h.2.1 a n c e hm).imp (fun hl => Nat.lt_of_lt_of_le hl hb) id, h.2.2.1, fun a n c e hm => (h.2.2.2 a n c e hm).imp (fun hl => Nat.lt_of_lt_of_le hl hb) id⟩
theorem EqsV.mono {base base' m : Nat} {w : World} {oa : Option Addr} {L : List Eqn} (h : EqsV base w oa m L) (hb : base ≤ base') : EqsV base' w oa m L := by
  obtain ⟨h1, h2, us, h3, h4, h5⟩ := h
  exact ⟨h1, h2, us, h3, h4, fun i hi => (h5 i hi).mono hb⟩
/-- The rows from k on. -/
theorem EqsV.drop {base m : Nat} {w : World} {b : Addr} {L : List Eqn} (h : EqsV base w (some b) m L) (k : Nat) : EqsV base w (some (b.add (k * 2))) (m - k) (L.drop k) := by
  obtain ⟨h1, h2, us, h3, h4, h5⟩ := h
  refine ⟨by rw [List.length_drop, h1], (fun e => by cases e), us.drop (k * 2), by rw [List.length_drop, h3]; omega, fun ad ha j u hu => ?_, fun i hi => ?_⟩
  · cases ha
    rw [Addr.add_add']
    rw [List.getElem?_drop] at hu
    exact h4 b rfl _ u hu
  · rw [List.getD_eq_getElem?_getD, List.getD_eq_getElem?_getD, List.getD_eq_getElem?_getD, List.getElem?_drop, List.getElem?_drop, List.getElem?_drop, ← List.getD_eq_getElem?_getD, ← List.getD_eq_getElem?_getD, ← List.getD_eq_getElem?_getD]
    have := h5 (k + i) (by omega)
    rw [show (k + i) * 2 = k * 2 + i * 2 from by omega, Nat.add_assoc] at this
    exact this
end Go.Proofs.Ytdmcncpndogdlaa
namespace Go.Proofs.Ytdmcncpndogdlaa
open Go.RowKit

/-- v is a slice of slices of ints that reads as L in w. -/
def Zss (w : World) (v : Value) (L : List (List Int)) : Prop :=
  ∃ oa c, v = .slice oa L.length c ∧ L.length ≤ c ∧ c ≤ 9223372036854775807 ∧ (oa = none → c = 0) ∧ ∀ a, oa = some a → ∀ i, i < L.length → ∃ u, w.cell? (a.add i) = some u ∧ Zs w u (L.getD i [])
theorem Zss.nil (w : World) : Zss w (.slice none 0 0) [] := ⟨none, 0, rfl, by simp, by omega, fun _ => rfl, fun a h => by cases h⟩
theorem Zss.grown {w w' : World} {v : Value} {L : List (List Int)} (h : Zss w v L) (hg : Gr w w') : Zss w' v L := by
  obtain ⟨oa, c, h1, h2, h3, h4, h5⟩ := h
  refine ⟨oa, c, h1, h2, h3, h4, fun a ha i hi => ?_⟩
  obtain ⟨u, hu, hb⟩ := h5 a ha i hi
  exact ⟨u, cell_grown hg hu, Zs.grown hb hg⟩
theorem Zss.at {w : World} {v : Value} {L : List (List Int)} (h : Zss w v L) (hl : 0 < L.length) :
    ∃ a c, v = .slice (some a) L.length c ∧ L.length ≤ c ∧ c ≤ 9223372036854775807 ∧ ∀ i, i < L.length → ∃ u, w.cell? (a.add i) = some u ∧ Zs w u (L.getD i []) := by
  obtain ⟨oa, c, h1, h2, h3, h4, h5⟩ := h
  cases oa with
  | none => exact absurd (h4 rfl) (by omega)
  | some a => exact ⟨a, c, h1, h2, h3, h5 a rfl⟩
set_option maxHeartbeats 400000 in
theorem rowsZ_core (a b : Addr) (n ca cb : Nat) (A B : List (List Int)) (w : World) (hn : A.length = n) (hl : B.length = n) (hx : n ≤ ca) (hy : n ≤ cb) (hm : ca ≤ 9223372036854775807)
    (hxc : ∀ i, i < n → ∃ u, w.cell? (a.add i) = some u ∧ Zs w u (A.getD i [])) (hyc : ∀ i, i < n → ∃ u, w.cell? (b.add i) = some u ∧ Zs w u (B.getD i [])) :
    Calls Try.prog 14 #[.slice (some a) n ca, .slice (some b) n cb] w fun e w' => e = .returned (.bool (A == B)) ∧ Gr w w' := by
  have HX := Lib.hid hxc
  have HY := Lib.hid hyc
  have HL := Lib.hid hl
  have HN := Lib.hid hn
  clear hxc hyc hl hn
  go_enter Try.func14, Try.ntmps14
  go_wp2
  go_loopw [13] (fun i wr => ∃ k : Nat, k ≤ n ∧ i = .int .i64 k ∧ Gr w wr ∧ (∀ j, j < k → A.getD j [] = B.getD j [])) (fun i _ => n - (intOf i).toNat)
  case atStart => exact ⟨0, by omega, rfl, Gr.refl _, by omega⟩
  case round =>
    obtain ⟨k, hk, rfl, hg, hs⟩ := hrel
    have HS := Lib.hid hs
    have G := Lib.hid hg
    clear hs hg
    by_cases hlt : k < n
    · obtain ⟨u, h1, hu⟩ := HX.out k hlt
      obtain ⟨v, h2, hv⟩ := HY.out k hlt
      have q1 := cell_grown G.out h1
      have q2 := cell_grown G.out h2
      have U := Lib.hid (Zs.grown hu G.out)
      have V := Lib.hid (Zs.grown hv G.out)
      obtain ⟨p, hp⟩ : ∃ p, A.getD k [] = p := ⟨_, rfl⟩
      obtain ⟨q, hq⟩ : ∃ q, B.getD k [] = q := ⟨_, rfl⟩
      rw [hp] at U
      rw [hq] at V
      have HP := Lib.hid hp
      have HQ := Lib.hid hq
      clear hp hq h1 h2 hu hv
      go_wp2
      go_region_held3 (fun W => W.cell? (a.add k) = some u ∧ W.cell? (b.add k) = some v ∧ Hid (Gr wr W)) (first | exact ⟨q1, q2, Lib.hid (Gr.refl _)⟩ | exact Two.keep (by assumption) hg | exact Two.keep (by assumption) (Gr.drew (Gr.refl _)) | go_keep)
        (first | (go_at_call 17; refine (sameZ_any u v p q _ (Zs.grown U.out (Two.gr (by assumption))) (Zs.grown V.out (Two.gr (by assumption)))).mono ?_; rintro e w' ⟨rfl, hg⟩))
      have hZ := Lib.hid (Two.gr (wr := wr) (by assumption))
      obtain ⟨bb, hbb⟩ : ∃ bb, (p == q) = bb := ⟨_, rfl⟩
      rw [hbb]
      have HE := Lib.hid hbb
      clear hbb
      cases bb with
      | true =>
        have he : p = q := by simpa using HE.out
        go_wp2
        refine ⟨⟨k + 1, by omega, by go_num, Gr.trans G.out hZ.out, fun j hj => ?_⟩, by simp [intOf]; omega⟩
        by_cases e : j = k
        · rw [e, HP.out, HQ.out, he]
        · exact HS.out j (by omega)
      | false =>
        go_wp2
        go_ret
        have hne : (A == B) = false := by
          rw [beq_eq_false_iff_ne]
          intro c
          have h3 : p ≠ q := by simpa using HE.out
          apply h3
          rw [← HP.out, ← HQ.out, c]
        exact ⟨by rw [hne]; rfl, Gr.trans G.out hZ.out⟩
    · obtain rfl : k = n := by omega
      go_wp2
      go_ret
      have he : A = B := eq_of_getL (by rw [HL.out, HN.out]) (fun j hj => HS.out j (by rw [HN.out] at hj; exact hj))
      exact ⟨by rw [he]; simp, G.out⟩
set_option maxHeartbeats 400000 in
theorem rowsZ_any (va vb : Value) (A B : List (List Int)) (w : World) (ha : Zss w va A) (hb : Zss w vb B) :
    Calls Try.prog 14 #[va, vb] w fun e w' => e = .returned (.bool (A == B)) ∧ Gr w w' := by
  by_cases hl : B.length = A.length
  · by_cases h0 : 0 < A.length
    · obtain ⟨a, ca, rfl, h1, h2, h3⟩ := Zss.at ha h0
      obtain ⟨b, cb, rfl, h4, h5, h6⟩ := Zss.at hb (by omega)
      rw [hl]
      rw [hl] at h4 h6
      exact rowsZ_core a b A.length ca cb A B w rfl hl h1 h4 h2 h3 h6
    · obtain rfl : A = [] := List.eq_nil_of_length_eq_zero (by omega)
      obtain rfl : B = [] := List.eq_nil_of_length_eq_zero (by simpa using hl)
      obtain ⟨oa, ca, rfl, _, _, _, _⟩ := ha
      obtain ⟨ob, cb, rfl, _, _, _, _⟩ := hb
      go_enter Try.func14, Try.ntmps14
      go_wp2
      go_loopw [13] (fun i wr => i = .int .i64 0 ∧ wr = w) (fun _ _ => 0)
      case atStart => exact ⟨rfl, rfl⟩
      case round =>
        obtain ⟨rfl, rfl⟩ := hrel
        go_wp2
        go_ret
        exact ⟨rfl, Gr.refl _⟩
  · have hne : (A == B) = false := by
      rw [beq_eq_false_iff_ne]
      intro c
      rw [c] at hl
      exact hl rfl
    obtain ⟨oa, ca, rfl, h1, h2, _, _⟩ := ha
    obtain ⟨ob, cb, rfl, h3, h4, _, _⟩ := hb
    rw [hne]
    generalize A.length = n at *
    generalize B.length = m at *
    have ht : ((n : Int) != m) = true := by simp; omega
    go_enter Try.func14, Try.ntmps14
    go_wp2
    go_ret
    exact ⟨rfl, Gr.refl _⟩
theorem Zss.form {w : World} {v : Value} {L : List (List Int)} (h : Zss w v L) : ∃ o c, v = .slice o L.length c := by
  obtain ⟨oa, c, h1, _⟩ := h
  exact ⟨oa, c, h1⟩
theorem Zss.len {w : World} {o : Option Addr} {m c : Nat} {L : List (List Int)} (h : Zss w (.slice o m c) L) : L.length = m := by
  obtain ⟨oa, c', he, _⟩ := h
  cases he
  rfl
theorem Zss.addr {w : World} {oa : Option Addr} {m c : Nat} {L : List (List Int)} (h : Zss w (.slice oa m c) L) (hm : 0 < m) : ∃ a, oa = some a := by
  obtain ⟨oa', c', he, h2, _, h4, _⟩ := h
  cases he
  cases oa with
  | none => exact absurd (h4 rfl) (by omega)
  | some a => exact ⟨a, rfl⟩
theorem Zss.rowAt {w : World} {a : Addr} {m c : Nat} {L : List (List Int)} (h : Zss w (.slice (some a) m c) L) {i : Nat} (hi : i < m) : ∃ u, w.cell? (a.add i) = some u ∧ Zs w u (L.getD i []) := by
  obtain ⟨oa', c', he, h2, _, h4, h5⟩ := h
  cases he
  exact h5 a rfl i hi
theorem getD_memL {L : List (List Int)} {i : Nat} (h : i < L.length) : L.getD i [] ∈ L := by
  rw [List.getD_eq_getElem?_getD, List.getElem?_eq_getElem h]
  exact List.getElem_mem h
/-- Rows of ints as values, from an address on. -/
def ZsV (base : Nat) (w : World) (oa : Option Addr) (m : Nat) (L : List (List Int)) : Prop :=
  L.length = m ∧ (oa = none → m = 0) ∧ ∃ us : List Value, us.length = m ∧ (∀ ad, oa = some ad → ∀ j u, us[j]? = some u → w.cell? (ad.add j) = some u) ∧ ∀ i, i < m → Zs w (us.getD i undef) (L.getD i []) ∧ Rz base w (us.getD i undef)
theorem ZsV.grown {base m : Nat} {w w' : World} {oa : Option Addr} {L : List (List Int)} (h : ZsV base w oa m L) (hg : Gr w w') : ZsV base w' oa m L := by
  obtain ⟨h1, h2, us, h3, h4, h5⟩ := h
  exact ⟨h1, h2, us, h3, fun ad ha j u hu => cell_gr hg (h4 ad ha j u hu), fun i hi => Rz.gr (h5 i hi).1 (h5 i hi).2 hg⟩
theorem ZsV.mono {base base' m : Nat} {w : World} {oa : Option Addr} {L : List (List Int)} (h : ZsV base w oa m L) (hb : base ≤ base') : ZsV base' w oa m L := by
  obtain ⟨h1, h2, us, h3, h4, h5⟩ := h
  exact ⟨h1, h2, us, h3, h4, fun i hi => ⟨(h5 i hi).1, fun a n c e hm => ((h5 i hi).2 a n c e hm).imp (fun hl => Nat.lt_of_lt_of_le hl hb) id⟩⟩
theorem ZsV.nil (base : Nat) (w : World) (oa : Option Addr) : ZsV base w oa 0 [] := ⟨rfl, fun _ => rfl, [], rfl, fun ad _ j u hu => by simp at hu, fun i hi => by omega⟩
theorem ZsV.single {base g : Nat} {w : World} {u : Value} {l : List Int} (hc : w.cell? ⟨g, 0, none⟩ = some u) (hz : Zs w u l) (hr : Rz base w u) : ZsV base w (some ⟨g, 0, none⟩) 1 [l] := by
  refine ⟨rfl, (fun e => by cases e), [u], rfl, fun ad ha j y hj => ?_, fun i hi => ?_⟩
  · cases ha
    match j, hj with
    | 0, hj =>
      obtain rfl : u = y := by simpa using hj
      exact hc
    | j + 1, hj => simp at hj
  · obtain rfl : i = 0 := by omega
    exact ⟨hz, hr⟩
theorem ZsV.drop {base m : Nat} {w : World} {b : Addr} {L : List (List Int)} (h : ZsV base w (some b) m L) (k : Nat) : ZsV base w (some (b.add k)) (m - k) (L.drop k) := by
  obtain ⟨h1, h2, us, h3, h4, h5⟩ := h
  refine ⟨by rw [List.length_drop, h1], (fun e => by cases e), us.drop k, by rw [List.length_drop, h3], fun ad ha j u hu => ?_, fun i hi => ?_⟩
  · cases ha
    rw [Addr.add_add']
    rw [List.getElem?_drop] at hu
    exact h4 b rfl _ u hu
  · rw [List.getD_eq_getElem?_getD, List.getD_eq_getElem?_getD, List.getElem?_drop, List.getElem?_drop, ← List.getD_eq_getElem?_getD, ← List.getD_eq_getElem?_getD]
    exact h5 (k + i) (by omega)
theorem ZsV.take {base m : Nat} {w : World} {o : Option Addr} {L : List (List Int)} (h : ZsV base w o m L) (k : Nat) (hk : k ≤ m) : ZsV base w o k (L.take k) := by
  obtain ⟨h1, h2, us, h3, h4, h5⟩ := h
  refine ⟨by rw [List.length_take]; omega, (fun e => by have := h2 e; omega), us.take k, by rw [List.length_take]; omega, fun ad ha j u hu => ?_, fun i hi => ?_⟩
  · rw [List.getElem?_take] at hu
    split at hu
    · exact h4 ad ha j u hu
    · cases hu
  · rw [List.getD_eq_getElem?_getD, List.getD_eq_getElem?_getD, List.getElem?_take_of_lt hi, List.getElem?_take_of_lt hi, ← List.getD_eq_getElem?_getD, ← List.getD_eq_getElem?_getD]
    exact h5 i (by omega)
theorem ZsV.zss {base m c : Nat} {w : World} {o : Option Addr} {L : List (List Int)} (h : ZsV base w o m L) (hc : m ≤ c) (hc2 : c ≤ 9223372036854775807) (hn : o = none → c = 0) : Zss w (.slice o m c) L := by
  obtain ⟨h1, h2, us, h3, h4, h5⟩ := h
  refine ⟨o, c, by rw [h1], by rw [h1]; exact hc, hc2, hn, fun a ha i hi => ⟨us.getD i undef, h4 a ha i _ ?_, (h5 i (by omega)).1⟩⟩
  rw [List.getD_eq_getElem?_getD, List.getElem?_eq_getElem (by omega)]
  rfl
/-- Rows that came in: their memory was there. -/
theorem Zss.vals {w : World} {o : Option Addr} {n c : Nat} {L : List (List Int)} (h : Zss w (.slice o n c) L) : ZsV w.heap.size w o n L := by
  obtain ⟨o', c', he, h2, h3, h4, h5⟩ := h
  obtain ⟨rfl, rfl, rfl⟩ : o = o' ∧ n = L.length ∧ c = c' := by simpa using he
  cases o with
  | none =>
    have := h4 rfl
    have : L = [] := List.eq_nil_of_length_eq_zero (by omega)
    subst this
    exact ZsV.nil _ _ _
  | some a =>
    have hex : ∀ i, ∃ u : Value, i < L.length → w.cell? (a.add i) = some u ∧ Zs w u (L.getD i []) := fun i => by
      by_cases hi : i < L.length
      · obtain ⟨u, h⟩ := h5 a rfl i hi
        exact ⟨u, fun _ => h⟩
      · exact ⟨undef, fun h => absurd h hi⟩
    have hf := fun i => Classical.choose_spec (hex i)
    refine ⟨rfl, (fun e => by cases e), (List.range L.length).map fun i => Classical.choose (hex i), by simp, fun ad ha j u hu => ?_, fun i hi => ?_⟩
    · cases ha
      obtain ⟨hj, hu⟩ := List.getElem?_eq_some_iff.1 hu
      simp at hj hu
      subst hu
      exact (hf j hj).1
    · rw [List.getD_eq_getElem?_getD, List.getElem?_map, List.getElem?_range hi]
      have hz := (hf i hi).2
      refine ⟨hz, fun ad m c' e hm => .inl ?_⟩
      have e' : Classical.choose (hex i) = .slice (some ad) m c' := e
      rw [e'] at hz
      have hz2 := hz.cellAt (i := 0) hm
      rw [add_nought] at hz2
      exact World.block_lt_of_cell? _ _ hz2
/-- Rows of ints in memory of one's own. -/
def ZwO (base : Nat) (w : World) (v : Value) (L : List (List Int)) : Prop := ∃ us, w.ownsRow base 23 1 v L.length us ∧ ∀ i, i < L.length → Zs w (us.getD i undef) (L.getD i []) ∧ Rz base w (us.getD i undef)
theorem ZwO.nil (base : Nat) (w : World) : ZwO base w (.slice none 0 0) [] := ⟨[], World.ownsRow_nil _ _ _ _, fun i hi => by simp at hi⟩
theorem ZwO.grown {base : Nat} {w w' : World} {v : Value} {L : List (List Int)} (h : ZwO base w v L) (hg : Gr w w') : ZwO base w' v L := by
  obtain ⟨us, ho, hr⟩ := h
  exact ⟨us, ho.of_gr hg, fun i hi => Rz.gr (hr i hi).1 (hr i hi).2 hg⟩
theorem ZwO.form {base : Nat} {w : World} {v : Value} {L : List (List Int)} (h : ZwO base w v L) : ∃ o c, v = .slice o L.length c := by
  obtain ⟨us, ⟨_, ⟨rfl, h⟩ | ⟨g, c, cur, rfl, _⟩⟩, _⟩ := h
  · exact ⟨none, 0, by rw [h]⟩
  · exact ⟨_, _, rfl⟩
theorem ZwO.lies {base n c : Nat} {w : World} {o : Option Addr} {L : List (List Int)} (h : ZwO base w (.slice o n c) L) : (o = none ∧ n = 0 ∧ c = 0) ∨ ∃ g, o = some ⟨g, 0, none⟩ ∧ n ≤ c ∧ c ≤ 9223372036854775807 := by
  obtain ⟨us, ⟨_, ⟨he, h0⟩ | ⟨g, c', cur, he, h1, h2, h3, h4, _⟩⟩, _⟩ := h
  · cases he
    exact .inl ⟨rfl, rfl, rfl⟩
  · cases he
    exact .inr ⟨g, rfl, h3, by unfold maxLen at h4; omega⟩
theorem ZwO.own_lt {base : Nat} {w : World} {v : Value} {L : List (List Int)} (h : ZwO base w v L) : ∀ g, v.ownBlock = some g → base ≤ g ∧ g < w.heap.size := by
  intro g hg
  obtain ⟨us, ⟨_, ⟨rfl, _⟩ | ⟨g', c, cur, rfl, hb, hgg, _⟩⟩, _⟩ := h
  · cases hg
  · simp [Value.ownBlock] at hg
    subst hg
    exact ⟨hb, (Array.getElem?_eq_some_iff.1 hgg).1⟩
theorem ZwO.vals {base n c : Nat} {w : World} {o : Option Addr} {L : List (List Int)} (h : ZwO base w (.slice o n c) L) : ZsV base w o n L := by
  obtain ⟨o', c', hf⟩ := h.form
  obtain ⟨rfl, rfl, rfl⟩ : o = o' ∧ n = L.length ∧ c = c' := by simpa using hf
  obtain ⟨us, ho, hr⟩ := h
  by_cases h0 : 0 < L.length
  · obtain ⟨g, c', he, _, _, _, hl, hc⟩ := ownsRow_cell ho h0
    cases he
    refine ⟨rfl, (fun e => by cases e), us, hl, fun ad ha j u hu => ?_, hr⟩
    cases ha
    have hj : j < us.length := (List.getElem?_eq_some_iff.1 hu).1
    rw [Addr.add_mid, Nat.zero_add, hc j (by omega), List.getD_eq_getElem?_getD, hu]
    rfl
  · obtain rfl : L = [] := List.eq_nil_of_length_eq_zero (by omega)
    exact ZsV.nil _ _ _
theorem ZwO.zss {base : Nat} {w : World} {v : Value} {L : List (List Int)} (h : ZwO base w v L) : Zss w v L := by
  obtain ⟨o, c, rfl⟩ := h.form
  rcases h.lies with ⟨rfl, h1, rfl⟩ | ⟨g, rfl, h1, h2⟩
  · exact h.vals.zss (by omega) (by omega) fun _ => rfl
  · exact h.vals.zss h1 h2 fun e => by cases e
theorem infoZZ : (Try.prog.info? 23).map (fun i => (i.zero, i.size, i.bytes)) = some (some (.slice none 0 0), 1, 24) := by kernel_rfl
theorem own_not {w : World} {base : Nat} {e : TypeId} {size : Nat} {v : Value} {n : Nat} {us : List Value} (h : w.ownsRow base e size v n us) {t : TypeId} (ht : t ≠ e) : ∀ g, v.ownBlock = some g → base ≤ g ∧ ∀ cur, w.heap[g]? ≠ some (.cells cur t (0, 0)) := by
  intro g hg
  obtain ⟨_, ⟨rfl, _⟩ | ⟨g', c, cur, rfl, hb, hgg, _⟩⟩ := h
  · cases hg
  · simp [Value.ownBlock] at hg
    subst hg
    refine ⟨hb, fun cur' e => ?_⟩
    rw [hgg] at e
    simp at e
    exact ht e.2.symm
theorem run_append_zss {w : World} (ty : TypeId) (base : Nat) (v : Value) (L M : List (List Int)) (hR : ZwO base w v L)
    (oa : Option Addr) (m c : Nat) (hV : ZsV base w oa m M) (hc : oa = none → c = 0) (hm : L.length + m ≤ 100000) (hbase : base ≤ w.heap.size) :
    ∃ v' w', (Builtin.append_ #[22, 22] ty #[v, .slice oa m c]).run Try.prog w = .ok v' w' ∧ ZwO base w' v' (L ++ M) ∧ (∀ w0, Gr w0 w → w0.heap.size ≤ base → Gr w0 w') ∧ w.grownBy w' v.ownBlock := by
  obtain ⟨i, hi, hz, hz1, hz2⟩ := info_parts infoZZ
  obtain ⟨us, hown, hr⟩ := hR
  obtain ⟨hML, hno, ns, hnl, hnc, hnv⟩ := hV
  obtain ⟨v', w', hrun, h1, h2⟩ := run_append_inS (P := Try.prog) (w := w) base 22 ty 23 i _ 1 24 Try.underlying22 hi hz hz1 hz2 rfl (by omega) v L.length us hown oa m c ns (fun e => ⟨hno e, hc e⟩) (by rw [hnl, Nat.mul_one]) hnc (fun u hu => by
    obtain ⟨j, hj, rfl⟩ := List.getElem_of_mem hu
    obtain ⟨o', c', e⟩ := (hnv j (by omega)).1.form
    rw [List.getD_eq_getElem?_getD, List.getElem?_eq_getElem hj] at e
    simp only [Option.getD_some] at e
    rw [e]
    rfl) (by unfold maxLen; omega) (by omega) hbase
  have hlen : us.length = L.length := by have := hown.1; omega
  have hkeep : ∀ (u : Value) (l : List Int), Zs w u l → Rz base w u → Zs w' u l ∧ Rz base w' u := fun u l hzu hru => Rz.kept hzu hru h2.block (own_not hown (by decide))
  refine ⟨v', w', hrun, ⟨us ++ ns, by rw [List.length_append, hML]; exact h1, fun k hk => ?_⟩, (fun w0 hg hb => Gr.append hg h2 fun k hv => Nat.le_trans hb (own_not hown (t := 0) (by decide) k hv).1), h2⟩
  rw [List.length_append] at hk
  by_cases e : k < L.length
  · rw [List.getD_eq_getElem?_getD, List.getD_eq_getElem?_getD, List.getElem?_append_left (by omega), List.getElem?_append_left e, ← List.getD_eq_getElem?_getD, ← List.getD_eq_getElem?_getD]
    exact hkeep _ _ (hr k e).1 (hr k e).2
  · obtain ⟨q, rfl⟩ : ∃ q, k = L.length + q := ⟨k - L.length, by omega⟩
    have d1 : (us ++ ns).getD (L.length + q) undef = ns.getD q undef := by rw [List.getD_eq_getElem?_getD, List.getElem?_append_right (by omega), hlen, Nat.add_sub_cancel_left, ← List.getD_eq_getElem?_getD]
    have d3 : (L ++ M).getD (L.length + q) [] = M.getD q [] := by rw [List.getD_eq_getElem?_getD, List.getElem?_append_right (by omega), Nat.add_sub_cancel_left, ← List.getD_eq_getElem?_getD]
    rw [d1, d3]
    exact hkeep _ _ (hnv q (by omega)).1 (hnv q (by omega)).2
theorem wp_append_zss {w : World} {o : Oper} {a : Act} {K : Act → World → Prop} {Q : Exit → Act → World → Prop} (s x : Operand)
    (ho : o.op = .call { callee := .builtin .append, args := #[s, x], argTypes := #[22, 22] }) (base : Nat) (v : Value) (L M : List (List Int)) (hs : a.eval s = v) (hR : ZwO base w v L)
    (oa : Option Addr) (m c : Nat) (hx : a.eval x = .slice oa m c) (hV : ZsV base w oa m M) (hc : oa = none → c = 0) (hm : L.length + m ≤ 100000) (hbase : base ≤ w.heap.size)
    (h : ∀ v' w', ZwO base w' v' (L ++ M) → (∀ w0, Gr w0 w → w0.heap.size ≤ base → Gr w0 w') → w.grownBy w' v.ownBlock → K (a.put o.dst v') w') : o.wp Try.prog a w K Q := by
  obtain ⟨v', w', hrun, h1, h2, h3⟩ := run_append_zss o.type base v L M hR oa m c hV hc hm hbase
  unfold Oper.wp execOp
  simp only [ho, resolve, invoke, builtin, Sem.run_bind, Sem.run_pure, Result.andThen_ok, List.map_toArray, List.map_cons, List.map_nil, hs, hx, hrun]
  exact h v' w' h1 h2 h3
theorem wpList_append_zss {w : World} {ops : Array Oper} {rest : List Oper} {o : Oper} {a : Act} {Q : Exit → Act → World → Prop} (hgd : o.guard = none) (s x : Operand)
    (ho : o.op = .call { callee := .builtin .append, args := #[s, x], argTypes := #[22, 22] }) (base : Nat) (v : Value) (L M : List (List Int)) (hs : a.eval s = v) (hR : ZwO base w v L)
    (oa : Option Addr) (m c : Nat) (hx : a.eval x = .slice oa m c) (hV : ZsV base w oa m M) (hc : oa = none → c = 0) (hm : L.length + m ≤ 100000) (hbase : base ≤ w.heap.size)
    (h : ∀ v' w', ZwO base w' v' (L ++ M) → (∀ w0, Gr w0 w → w0.heap.size ≤ base → Gr w0 w') → w.grownBy w' v.ownBlock → wpList Try.prog ops Q rest (a.put o.dst v') w') : wpList Try.prog ops Q (o :: rest) a w :=
  wpList_plain hgd fun _ hK => wp_append_zss s x ho base v L M hs hR oa m c hx hV hc hm hbase fun v' w' h1 h2 h3 => hK _ _ (h v' w' h1 h2 h3)
theorem step_append_zss {w : World} {ops : Array Oper} {o : Oper} {a : Act} {K : Act → World → Prop} {Q : Exit → Act → World → Prop} {E : Prop} (hgd : o.guard = none) (s x : Operand)
    (ho : o.op = .call { callee := .builtin .append, args := #[s, x], argTypes := #[22, 22] }) (base : Nat) (v : Value) (L M : List (List Int)) (hs : a.eval s = v) (hR : ZwO base w v L)
    (oa : Option Addr) (m c : Nat) (hx : a.eval x = .slice oa m c) (hV : ZsV base w oa m M) (hc : oa = none → c = 0) (hm : L.length + m ≤ 100000) (hbase : base ≤ w.heap.size)
    (h : ∀ v' w', ZwO base w' v' (L ++ M) → (∀ w0, Gr w0 w → w0.heap.size ≤ base → Gr w0 w') → w.grownBy w' v.ownBlock → K (a.put o.dst v') w') :
    if Region.wanted o (yielded ops a.tmps) = true then Oper.wp Try.prog o a w K Q else E := by
  have hw : Region.wanted o (yielded ops a.tmps) = true := by simp [Region.wanted, hgd]
  rw [if_pos hw]
  exact wp_append_zss s x ho base v L M hs hR oa m c hx hV hc hm hbase h
end Go.Proofs.Ytdmcncpndogdlaa
namespace Go.Proofs.Ytdmcncpndogdlaa
open Go.RowKit

namespace PN
def isOne (dn us : List Bool) (R : List (List Int)) (i : Nat) : Bool := !(us.getD i false) && decide ((openL dn (R.getD i [])).length = 1)
/-- The first of the first k rows that is not used and has one column alone. -/
def firstTo (dn us : List Bool) (R : List (List Int)) : Nat → Option Nat
  | 0 => none
  | k + 1 => match firstTo dn us R k with
    | some i => some i
    | none => if isOne dn us R k = true then some k else none
def colOf (dn : List Bool) (R : List (List Int)) (i : Nat) : Int := (openL dn (R.getD i [])).getD 0 0
/-- In how many of the first k rows that are not used a column stands. -/
def cntTo (dn us : List Bool) (R : List (List Int)) : Nat → Nat → Nat
  | 0, _ => 0
  | k + 1, c => cntTo dn us R k c + (if us.getD k false = false ∧ (c : Int) ∈ openL dn (R.getD k []) then 1 else 0)
/-- The least of the first columns that stands in the most rows. -/
def bestTo (dn : List Bool) (f : Nat → Nat) : Nat → Option Nat
  | 0 => none
  | c + 1 => if dn.getD c false = true then bestTo dn f c else match bestTo dn f c with
    | none => some c
    | some b => if f b < f c then some c else some b
structure St where
  dn : List Bool
  us : List Bool
  steps : List (Int × Int)
  dead : List Int
def start (n m : Nat) : St := ⟨List.replicate n false, List.replicate m false, [], []⟩
def next (n : Nat) (R : List (List Int)) (s : St) : St :=
  match firstTo s.dn s.us R R.length with
  | some i => ⟨s.dn.set (colOf s.dn R i).toNat true, s.us.set i true, s.steps ++ [((i : Int), colOf s.dn R i)], s.dead⟩
  | none => match bestTo s.dn (cntTo s.dn s.us R R.length) n with
    | some b => ⟨s.dn.set b true, s.us, s.steps, s.dead ++ [(b : Int)]⟩
    | none => s
def run (n : Nat) (R : List (List Int)) : Nat → St
  | 0 => start n R.length
  | t + 1 => next n R (run n R t)
/-- Rows that are not used. -/
def leftTo (us : List Bool) : Nat → List Int
  | 0 => []
  | k + 1 => leftTo us k ++ (if us.getD k false = true then [] else [(k : Int)])
theorem leftTo_le (us : List Bool) : ∀ k, (leftTo us k).length ≤ k
  | 0 => Nat.le_refl _
  | k + 1 => by
    have := leftTo_le us k
    show (leftTo us k ++ _).length ≤ _
    rw [List.length_append]
    split <;> simp <;> omega
theorem leftTo_mem (us : List Bool) : ∀ k x, x ∈ leftTo us k ↔ ∃ i : Nat, i < k ∧ us.getD i false = false ∧ x = (i : Int)
  | 0, x => ⟨fun h => (by cases h), fun ⟨i, h, _⟩ => by omega⟩
  | k + 1, x => by
    show x ∈ leftTo us k ++ _ ↔ _
    rw [List.mem_append, leftTo_mem us k x]
    constructor
    · rintro (⟨i, h1, h2, h3⟩ | h)
      · exact ⟨i, by omega, h2, h3⟩
      · split at h
        · cases h
        · rename_i hne
          exact ⟨k, by omega, by simpa using hne, by simpa using h⟩
    · rintro ⟨i, h1, h2, h3⟩
      by_cases e : i = k
      · right
        subst e
        rw [if_neg (by rw [h2]; simp), h3]
        simp
      · exact .inl ⟨i, by omega, h2, h3⟩
def May (n : Int) (R : List (List Int)) : Prop := 0 ≤ n ∧ n ≤ 64 ∧ ∀ c ∈ R, MayRow n c
def unkN (dn : List Bool) (n : Nat) : Nat := ((List.range n).filter fun i => !(dn.getD i false)).length
theorem unkN_set {dn : List Bool} {n x : Nat} (hl : dn.length = n) (hx : x < n) (hk : dn.getD x false = false) : unkN (dn.set x true) n + 1 = unkN dn n := by
  unfold unkN
  have h1 : ∀ m, x < m → m ≤ n → ((List.range m).filter fun i => !((dn.set x true).getD i false)).length + 1 = ((List.range m).filter fun i => !(dn.getD i false)).length := by
    intro m
    induction m with
    | zero => intro h; omega
    | succ m ih =>
      intro h hm
      rw [List.range_succ, List.filter_append, List.filter_append, List.length_append, List.length_append]
      by_cases e : x = m
      · subst e
        have h2 : ((List.range x).filter fun i => !((dn.set x true).getD i false)) = (List.range x).filter fun i => !(dn.getD i false) := by
          apply List.filter_congr
          intro i hi
          have hi := List.mem_range.1 hi
          rw [getD_set_neT (by omega)]
        rw [h2, List.filter_cons_of_neg (by rw [getD_set_selfT (by omega)]; simp), List.filter_cons_of_pos (by rw [hk]; rfl)]
        simp
      · have h3 := ih (by omega) (by omega)
        have h4 : (dn.set x true).getD m false = dn.getD m false := getD_set_neT (by omega) _
        have h5 : ([m].filter fun i => !((dn.set x true).getD i false)) = [m].filter fun i => !(dn.getD i false) := by
          apply List.filter_congr
          intro i hi
          obtain rfl := List.mem_singleton.1 hi
          rw [h4]
        rw [h5]
        omega
  exact h1 n hx (Nat.le_refl _)
theorem firstTo_spec (dn us : List Bool) (R : List (List Int)) : ∀ k, (∀ i, firstTo dn us R k = some i → i < k ∧ isOne dn us R i = true ∧ ∀ j, j < i → isOne dn us R j = false) ∧ (firstTo dn us R k = none → ∀ j, j < k → isOne dn us R j = false)
  | 0 => ⟨(fun i h => by cases h), (fun _ j hj => by omega)⟩
  | k + 1 => by
    obtain ⟨h1, h2⟩ := firstTo_spec dn us R k
    unfold firstTo
    cases hf : firstTo dn us R k with
    | some i =>
      obtain ⟨a, b, c⟩ := h1 i hf
      exact ⟨(fun j hj => by cases hj; exact ⟨by omega, b, c⟩), (fun h => by cases h)⟩
    | none =>
      have hn := h2 hf
      by_cases e : isOne dn us R k = true
      · simp only [e, if_true]
        exact ⟨(fun j hj => by cases hj; exact ⟨by omega, e, hn⟩), (fun h => by cases h)⟩
      · have e' : isOne dn us R k = false := by simpa using e
        simp only [e', Bool.false_eq_true, if_false]
        refine ⟨(fun j hj => by cases hj), fun _ j hj => ?_⟩
        by_cases ej : j = k
        · rw [ej]; exact e'
        · exact hn j (by omega)
theorem bestTo_spec (dn : List Bool) (f : Nat → Nat) : ∀ n, (∀ b, bestTo dn f n = some b → b < n ∧ dn.getD b false = false ∧ (∀ c, c < n → dn.getD c false = false → f c ≤ f b) ∧ ∀ c, c < b → dn.getD c false = false → f c < f b) ∧ (bestTo dn f n = none → ∀ c, c < n → dn.getD c false = true)
  | 0 => ⟨(fun b h => by cases h), (fun _ c hc => by omega)⟩
  | n + 1 => by
    obtain ⟨h1, h2⟩ := bestTo_spec dn f n
    unfold bestTo
    by_cases e : dn.getD n false = true
    · rw [if_pos e]
      refine ⟨fun b hb => ?_, fun hb c hc => ?_⟩
      · obtain ⟨a, b', c, d⟩ := h1 b hb
        refine ⟨by omega, b', fun x hx hd => ?_, d⟩
        by_cases ex : x = n
        · rw [ex, e] at hd; cases hd
        · exact c x (by omega) hd
      · by_cases ec : c = n
        · rw [ec]; exact e
        · exact h2 hb c (by omega)
    · have e' : dn.getD n false = false := by simpa using e
      rw [if_neg e]
      cases hf : bestTo dn f n with
      | none =>
        have hn := h2 hf
        refine ⟨fun b hb => ?_, fun h => by cases h⟩
        cases hb
        refine ⟨by omega, e', fun x hx hd => ?_, fun x hx hd => ?_⟩
        · by_cases ex : x = n
          · rw [ex]; exact Nat.le_refl _
          · rw [hn x (by omega)] at hd; cases hd
        · rw [hn x hx] at hd; cases hd
      | some b0 =>
        obtain ⟨a, b', c, d⟩ := h1 b0 hf
        by_cases el : f b0 < f n
        · simp only [el, if_true]
          refine ⟨fun b hb => ?_, fun h => by cases h⟩
          cases hb
          refine ⟨by omega, e', fun x hx hd => ?_, fun x hx hd => ?_⟩
          · by_cases ex : x = n
            · rw [ex]; exact Nat.le_refl _
            · have := c x (by omega) hd; omega
          · have := c x hx hd; omega
        · simp only [el, if_false]
          refine ⟨fun b hb => ?_, fun h => by cases h⟩
          cases hb
          refine ⟨by omega, b', fun x hx hd => ?_, d⟩
          by_cases ex : x = n
          · rw [ex]; omega
          · exact c x (by omega) hd
theorem bestTo_some {dn : List Bool} {f : Nat → Nat} {n : Nat} (h : 0 < unkN dn n) : ∃ b, bestTo dn f n = some b := by
  cases hb : bestTo dn f n with
  | some b => exact ⟨b, rfl⟩
  | none =>
    have hn := (bestTo_spec dn f n).2 hb
    unfold unkN at h
    have : (List.range n).filter (fun i => !(dn.getD i false)) = [] := by
      rw [List.filter_eq_nil_iff]
      intro i hi
      rw [hn i (List.mem_range.1 hi)]
      simp
    rw [this] at h
    simp at h
/-- What stands in one column alone of a row. -/
theorem one_col {n : Nat} {dn us : List Bool} {R : List (List Int)} (hR : ∀ c ∈ R, MayRow n c) {i : Nat} (hi : i < R.length) (h : isOne dn us R i = true) :
    us.getD i false = false ∧ openL dn (R.getD i []) = [colOf dn R i] ∧ 0 ≤ colOf dn R i ∧ colOf dn R i < (n : Int) ∧ dn.getD (colOf dn R i).toNat false = false := by
  unfold isOne at h
  simp only [Bool.and_eq_true, Bool.not_eq_true', decide_eq_true_eq] at h
  obtain ⟨h1, h2⟩ := h
  obtain ⟨x, hx⟩ := List.length_eq_one_iff.1 h2
  have hc : colOf dn R i = x := by
    unfold colOf
    rw [hx]
    rfl
  have hm : x ∈ openL dn (R.getD i []) := by rw [hx]; simp
  obtain ⟨hm1, hm2⟩ := openL_mem.1 hm
  have := (hR _ (getD_memL hi)).1 x hm1
  rw [hc, hx]
  exact ⟨h1, rfl, this.1, this.2, hm2⟩
/-- What holds of each state. -/
structure Inv (n : Nat) (R : List (List Int)) (t : Nat) (s : St) : Prop where
  dn : s.dn.length = n
  us : s.us.length = R.length
  unk : unkN s.dn n + t = n
  cnt : s.steps.length + s.dead.length = t
theorem unkN_start (n : Nat) : unkN (List.replicate n false) n = n := by
  unfold unkN
  rw [List.filter_eq_self.2 fun i _ => by rw [rep_false]; rfl]
  simp
theorem run_inv {n : Nat} {R : List (List Int)} (hR : ∀ c ∈ R, MayRow n c) : ∀ t, t ≤ n → Inv n R t (run n R t)
  | 0, _ => ⟨by simp [run, start], by simp [run, start], by show unkN (List.replicate n false) n + 0 = n; rw [unkN_start]; rfl, rfl⟩
  | t + 1, ht => by
    have h := run_inv hR t (by omega)
    show Inv n R (t + 1) (next n R (run n R t))
    unfold next
    cases hf : firstTo (run n R t).dn (run n R t).us R R.length with
    | some i =>
      obtain ⟨h1, h2, _⟩ := (firstTo_spec _ _ R R.length).1 i hf
      obtain ⟨_, _, h3, h4, h5⟩ := one_col hR h1 h2
      have h6 := unkN_set h.dn (x := (colOf (run n R t).dn R i).toNat) (by omega) h5
      exact ⟨by simp [h.dn], by simp [h.us], by have := h.unk; show unkN (List.set _ _ _) n + _ = n; omega, by have := h.cnt; simp; omega⟩
    | none =>
      obtain ⟨b, hb⟩ := bestTo_some (f := cntTo (run n R t).dn (run n R t).us R R.length) (dn := (run n R t).dn) (n := n) (by have := h.unk; omega)
      obtain ⟨h1, h2, _⟩ := (bestTo_spec _ _ n).1 b hb
      have h6 := unkN_set h.dn h1 h2
      simp only [hb]
      exact ⟨by simp [h.dn], h.us, by have := h.unk; show unkN (List.set _ _ _) n + _ = n; omega, by have := h.cnt; simp; omega⟩
/-- A place in a list, or -1. -/
def rowZ : Option Nat → Int
  | none => -1
  | some i => i
theorem rowZ_neg (o : Option Nat) : rowZ o < 0 ↔ o = none := by
  cases o with
  | none => simp [rowZ]
  | some i => simp [rowZ]
def colZ (dn : List Bool) (R : List (List Int)) : Option Nat → Int
  | none => -1
  | some i => colOf dn R i
def cntL (n : Nat) (f : Nat → Nat) : List Int := (List.range n).map fun c => (f c : Int)
theorem cntL_length (n : Nat) (f : Nat → Nat) : (cntL n f).length = n := by simp [cntL]
theorem cntL_get {n : Nat} {f : Nat → Nat} {c : Nat} (h : c < n) : (cntL n f).getD c 0 = (f c : Int) := by simp [cntL, h]
theorem cntL_congr {n : Nat} {f f' : Nat → Nat} (h : ∀ c, c < n → f c = f' c) : cntL n f = cntL n f' := by
  unfold cntL
  apply List.map_congr_left
  intro c hc
  rw [h c (List.mem_range.1 hc)]
theorem cntL_set {n : Nat} {f : Nat → Nat} {c : Nat} (_ : c < n) (y : Nat) : (cntL n f).set c (y : Int) = cntL n fun x => if x = c then y else f x := by
  apply List.ext_getElem (by simp [cntL])
  intro i h1 h2
  rw [List.getElem_set]
  simp only [cntL, List.getElem_map, List.getElem_range]
  by_cases e : i = c
  · rw [if_pos e.symm, if_pos e]
  · rw [if_neg (fun h => e h.symm), if_neg e]
/-- Counted: the first p of some columns, one more each. -/
def cntP (f : Nat → Nat) (o : List Int) (p : Nat) (c : Nat) : Nat := f c + (if (c : Int) ∈ o.take p then 1 else 0)
theorem cntP_zero (f : Nat → Nat) (o : List Int) : cntP f o 0 = f := funext fun c => by simp [cntP]
theorem cntP_step {f : Nat → Nat} {o : List Int} {p c : Nat} (hp : p < o.length) (hn : o.Nodup) (hc : o.getD p 0 = (c : Int)) : (fun x => if x = c then cntP f o p c + 1 else cntP f o p x) = cntP f o (p + 1) := funext fun x => by
  have ht := take_snoc o p 0 hp
  rw [hc] at ht
  unfold cntP
  rw [ht]
  have hno : (c : Int) ∉ o.take p := fun h => by
    obtain ⟨i, hi, he⟩ := List.getElem_of_mem h
    rw [List.length_take] at hi
    rw [List.getElem_take] at he
    have h2 : o[p] = (c : Int) := by
      rw [List.getD_eq_getElem?_getD, List.getElem?_eq_getElem hp] at hc
      exact hc
    have := (List.nodup_iff_pairwise_ne.1 hn)
    rw [List.pairwise_iff_getElem] at this
    exact this i p (by omega) hp (by omega) (by rw [he, h2])
  by_cases e : x = c
  · subst e
    rw [if_pos rfl, if_neg hno, if_pos (by simp)]
  · rw [if_neg e]
    congr 1
    have : ((x : Int) ∈ o.take p ++ [(c : Int)]) ↔ (x : Int) ∈ o.take p := by
      rw [List.mem_append, List.mem_singleton]
      exact ⟨fun h => h.elim id fun h => absurd (by omega : x = c) e, .inl⟩
    simp only [this]
theorem cntTo_skip {dn us : List Bool} {R : List (List Int)} {k : Nat} (h : us.getD k false = true) : cntTo dn us R (k + 1) = cntTo dn us R k := funext fun c => by
  show cntTo dn us R k c + _ = _
  rw [if_neg (fun e => by rw [h] at e; cases e.1), Nat.add_zero]
theorem cntTo_more {dn us : List Bool} {R : List (List Int)} {k : Nat} (h : us.getD k false = false) : cntTo dn us R (k + 1) = cntP (cntTo dn us R k) (openL dn (R.getD k [])) (openL dn (R.getD k [])).length := funext fun c => by
  show cntTo dn us R k c + _ = cntTo dn us R k c + _
  rw [List.take_length]
  simp only [h, true_and]
theorem firstTo_skip {dn us : List Bool} {R : List (List Int)} {k : Nat} (h : isOne dn us R k = false) : firstTo dn us R (k + 1) = firstTo dn us R k := by
  show (match firstTo dn us R k with | some i => some i | none => if isOne dn us R k = true then some k else none) = _
  rw [h]
  cases firstTo dn us R k <;> rfl
theorem firstTo_had {dn us : List Bool} {R : List (List Int)} {k i : Nat} (h : firstTo dn us R k = some i) : firstTo dn us R (k + 1) = some i := by
  show (match firstTo dn us R k with | some i => some i | none => if isOne dn us R k = true then some k else none) = _
  rw [h]
theorem firstTo_hit {dn us : List Bool} {R : List (List Int)} {k : Nat} (h : firstTo dn us R k = none) (h1 : isOne dn us R k = true) : firstTo dn us R (k + 1) = some k := by
  show (match firstTo dn us R k with | some i => some i | none => if isOne dn us R k = true then some k else none) = _
  rw [h, h1]
  rfl
theorem cntTo_le (dn us : List Bool) (R : List (List Int)) (c : Nat) : ∀ k, cntTo dn us R k c ≤ k
  | 0 => Nat.le_refl _
  | k + 1 => by
    have := cntTo_le dn us R c k
    show cntTo dn us R k c + _ ≤ _
    split <;> omega
theorem next_some {n : Nat} {R : List (List Int)} {s : St} {i : Nat} (h : firstTo s.dn s.us R R.length = some i) : next n R s = ⟨s.dn.set (colOf s.dn R i).toNat true, s.us.set i true, s.steps ++ [((i : Int), colOf s.dn R i)], s.dead⟩ := by
  unfold next
  rw [h]
theorem next_none {n : Nat} {R : List (List Int)} {s : St} {b : Nat} (h : firstTo s.dn s.us R R.length = none) (hb : bestTo s.dn (cntTo s.dn s.us R R.length) n = some b) : next n R s = ⟨s.dn.set b true, s.us, s.steps, s.dead ++ [(b : Int)]⟩ := by
  unfold next
  rw [h]
  simp only [hb]
/-- What a plan tells. -/
def steps (n : Nat) (R : List (List Int)) : List (Int × Int) := (run n R n).steps
def dead (n : Nat) (R : List (List Int)) : List Int := (run n R n).dead
def left (n : Nat) (R : List (List Int)) : List Int := leftTo (run n R n).us R.length
theorem left_i64 (us : List Bool) (k : Nat) (hk : k ≤ 1000000) : ∀ x ∈ leftTo us k, I64 x := fun x hx => by
  obtain ⟨i, h1, _, rfl⟩ := (leftTo_mem us k x).1 hx
  exact ⟨by omega, by omega⟩
/-- What is told, or put off, is a column. -/
theorem run_rng {n : Nat} {R : List (List Int)} (hR : ∀ c ∈ R, MayRow n c) : ∀ t, t ≤ n → (∀ x ∈ (run n R t).dead, 0 ≤ x ∧ x < (n : Int)) ∧ ∀ p ∈ (run n R t).steps, 0 ≤ p.1 ∧ p.1 < (R.length : Int) ∧ 0 ≤ p.2 ∧ p.2 < (n : Int)
  | 0, _ => ⟨fun x hx => (by cases hx), fun p hp => by cases hp⟩
  | t + 1, ht => by
    obtain ⟨h1, h2⟩ := run_rng hR t (by omega)
    have h := run_inv hR t (by omega)
    show (∀ x ∈ (next n R (run n R t)).dead, _) ∧ ∀ p ∈ (next n R (run n R t)).steps, _
    cases hf : firstTo (run n R t).dn (run n R t).us R R.length with
    | some i =>
      rw [next_some hf]
      obtain ⟨a1, a2, _⟩ := (firstTo_spec _ _ R R.length).1 i hf
      obtain ⟨_, _, a3, a4, _⟩ := one_col hR a1 a2
      refine ⟨h1, fun p hp => ?_⟩
      rcases List.mem_append.1 hp with hp | hp
      · exact h2 p hp
      · obtain rfl := List.mem_singleton.1 hp
        exact ⟨by show (0 : Int) ≤ (i : Int); omega, by show (i : Int) < _; omega, a3, a4⟩
    | none =>
      obtain ⟨b, hb⟩ := bestTo_some (f := cntTo (run n R t).dn (run n R t).us R R.length) (dn := (run n R t).dn) (n := n) (by have := h.unk; omega)
      rw [next_none hf hb]
      have a1 := ((bestTo_spec _ _ n).1 b hb).1
      refine ⟨fun x hx => ?_, h2⟩
      rcases List.mem_append.1 hx with hx | hx
      · exact h1 x hx
      · obtain rfl := List.mem_singleton.1 hx
        omega
theorem dead_i64 {n : Nat} {R : List (List Int)} {de : List Int} (h : May n R) (hd : (run n R n).dead = de) : ∀ x ∈ de, I64 x := fun x hx => by
  rw [← hd] at hx
  have := (run_rng h.2.2 n (Nat.le_refl _)).1 x hx
  have := h.2.1
  exact ⟨by omega, by omega⟩
end PN
end Go.Proofs.Ytdmcncpndogdlaa
namespace Go.Proofs.Ytdmcncpndogdlaa
open Go.RowKit

def stepC (p : Int × Int) : List Value := [.int .i64 p.1, .int .i64 p.2]
/-- Steps in memory of one's own. -/
def StepsO (base : Nat) (w : World) (v : Value) (L : List (Int × Int)) : Prop := w.ownsRow base 40 2 v L.length (L.flatMap stepC)
/-- v is a slice of steps that reads as L in w. -/
def Stp (w : World) (v : Value) (L : List (Int × Int)) : Prop :=
  ∃ oa c, v = .slice oa L.length c ∧ L.length ≤ c ∧ c ≤ 9223372036854775807 ∧ (oa = none → c = 0) ∧ (0 < L.length → ∃ b o, oa = some ⟨b, o, none⟩ ∧ ∀ i, i < L.length → w.cell? ⟨b, o + i * 2, none⟩ = some (.int .i64 (L.getD i (0, 0)).1) ∧ w.cell? ⟨b, o + i * 2 + 1, none⟩ = some (.int .i64 (L.getD i (0, 0)).2))
theorem Stp.grown {w w' : World} {v : Value} {L : List (Int × Int)} (h : Stp w v L) (hg : Gr w w') : Stp w' v L := by
  obtain ⟨oa, c, h1, h2, h3, h4, h5⟩ := h
  refine ⟨oa, c, h1, h2, h3, h4, fun h0 => ?_⟩
  obtain ⟨b, o, q1, q2⟩ := h5 h0
  exact ⟨b, o, q1, fun i hi => ⟨cell_gr hg (q2 i hi).1, cell_gr hg (q2 i hi).2⟩⟩
theorem Stp.nil (w : World) : Stp w (.slice none 0 0) [] := ⟨none, 0, rfl, by simp, by omega, fun _ => rfl, fun h => by simp at h⟩
theorem Stp.form {w : World} {v : Value} {L : List (Int × Int)} (h : Stp w v L) : ∃ o c, v = .slice o L.length c := by
  obtain ⟨oa, c, h1, _⟩ := h
  exact ⟨oa, c, h1⟩
theorem stepC_get : ∀ (L : List (Int × Int)) (i : Nat), i < L.length → (L.flatMap stepC)[i * 2]? = some (.int .i64 (L.getD i (0, 0)).1) ∧ (L.flatMap stepC)[i * 2 + 1]? = some (.int .i64 (L.getD i (0, 0)).2)
  | [], i, h => by simp at h
  | p :: L, 0, _ => ⟨rfl, rfl⟩
  | p :: L, i + 1, h => by
    rw [List.length_cons] at h
    have h2 := stepC_get L i (by omega)
    have e : (p :: L).flatMap stepC = .int .i64 p.1 :: .int .i64 p.2 :: L.flatMap stepC := rfl
    rw [e, show (i + 1) * 2 = i * 2 + 1 + 1 from by omega, List.getElem?_cons_succ, List.getElem?_cons_succ, List.getElem?_cons_succ, List.getElem?_cons_succ]
    exact h2
theorem StepsO.nil (base : Nat) (w : World) : StepsO base w (.slice none 0 0) [] := World.ownsRow_nil _ _ _ _
theorem StepsO.form {base : Nat} {w : World} {v : Value} {L : List (Int × Int)} (h : StepsO base w v L) : ∃ o c, v = .slice o L.length c := by
  obtain ⟨_, ⟨rfl, h⟩ | ⟨g, c, cur, rfl, _⟩⟩ := h
  · exact ⟨none, 0, by rw [h]⟩
  · exact ⟨_, _, rfl⟩
theorem StepsO.stp {base : Nat} {w : World} {v : Value} {L : List (Int × Int)} (h : StepsO base w v L) : Stp w v L := by
  obtain ⟨hlen, ⟨rfl, h0⟩ | ⟨g, c, cur, rfl, h1, h2, h3, h4, h5, h6⟩⟩ := h
  · obtain rfl : L = [] := List.eq_nil_of_length_eq_zero h0
    exact Stp.nil w
  · have hcell : ∀ j, j < L.length * 2 → w.cell? ⟨g, j, none⟩ = (L.flatMap stepC)[j]? := fun j hj => by
      rw [cell_of_row _ _ _ _ _ _ h2, ← h6, List.getElem?_take_of_lt hj]
      simp
    refine ⟨_, c, rfl, h3, by unfold maxLen at h4; omega, (fun e => by cases e), fun _ => ⟨g, 0, rfl, fun i hi => ?_⟩⟩
    have hs := stepC_get L i hi
    rw [Nat.zero_add]
    exact ⟨by rw [hcell _ (by omega)]; exact hs.1, by rw [hcell _ (by omega)]; exact hs.2⟩
theorem infoSt : (Try.prog.info? 40).map (fun i => (i.zero.map (·.cells.size), i.size, i.bytes)) = some (some 2, 2, 16) := by kernel_rfl
theorem wpList_append_step {w : World} {ops : Array Oper} {rest : List Oper} {o : Oper} {a : Act} {Q : Exit → Act → World → Prop} (hgd : o.guard = none) (s x : Operand)
    (ho : o.op = .call { callee := .builtin .append, args := #[s, x], argTypes := #[29, 29] }) (base : Nat) (v : Value) (L : List (Int × Int)) (hs : a.eval s = v) (hR : StepsO base w v L)
    (g : Nat) (p : Int × Int) (hx : a.eval x = .slice (some ⟨g, 0, none⟩) 1 1) (hc : w.cell? ⟨g, 0, none⟩ = some (.int .i64 p.1)) (hd : w.cell? ⟨g, 1, none⟩ = some (.int .i64 p.2)) (hm : L.length ≤ 100000) (hbase : base ≤ w.heap.size)
    (h : ∀ v' w', StepsO base w' v' (L ++ [p]) → w.grownBy w' v.ownBlock → wpList Try.prog ops Q rest (a.put o.dst v') w') : wpList Try.prog ops Q (o :: rest) a w := by
  obtain ⟨i, hi, hzz⟩ := Option.map_eq_some_iff.1 infoSt
  simp only [Prod.mk.injEq] at hzz
  obtain ⟨hz0, hz1, hz2⟩ := hzz
  obtain ⟨z, hz, hzs⟩ := Option.map_eq_some_iff.1 hz0
  refine wpList_append_own w hgd s x 29 ho base 40 i z 2 16 Try.underlying29 hi hz hz1 hz2 hzs (by omega) v L.length _ hs hR ⟨g, 0, none⟩ 1 1 (stepC p) hx rfl (fun j u hj => by
    match j, hj with
    | 0, hj =>
      obtain rfl : Value.int .i64 p.1 = u := by simpa [stepC] using hj
      exact hc
    | 1, hj =>
      obtain rfl : Value.int .i64 p.2 = u := by simpa [stepC] using hj
      exact hd
    | j + 2, hj => simp [stepC] at hj) (fun u hu => by
      simp [stepC] at hu
      rcases hu with rfl | rfl <;> rfl) (by unfold maxLen; omega) (by omega) hbase ?_
  intro v' w' h1 h2 _
  refine h v' w' ?_ h2
  unfold StepsO
  rw [List.length_append, List.flatMap_append, List.flatMap_singleton]
  exact h1
theorem Blz.putP {w : World} {g : Nat} {L : List Int} (h : Blz w g L) (i : Nat) (x : Int) : Blz (w.setCell ⟨g, i, none⟩ (.int .i64 x)) g (L.set i x) := by
  unfold Blz at *
  rw [heap_setCell_same _ _ _ _ _ _ h, rowZ_set]
theorem Blz.frzP {w : World} {g : Nat} {L : List Int} (h : Blz w g L) (i : Nat) : w.frozen? ⟨g, i, none⟩ = false := frozen_of_row w g i _ _ h
/-- A plan under way: what is done, what is used, and the plan itself, since w0. -/
structure PlanAt (w0 W : World) (gk gu go : Nat) (dn us : List Bool) (sv dv lv : Value) (st : List (Int × Int)) (de le : List Int) : Prop where
  k : Blt W gk dn
  u : Blt W gu us
  o : W.heap[go]? = some (.cells #[sv, dv, lv] 31 (0, 0))
  s : StepsO w0.heap.size W sv st
  d : W.ownsRow w0.heap.size 3 1 dv de.length (de.map (Value.int .i64))
  l : W.ownsRow w0.heap.size 3 1 lv le.length (le.map (Value.int .i64))
  sep : ∀ g, dv.ownBlock = some g → lv.ownBlock ≠ some g
  ku : gk ≠ gu
  klow : w0.heap.size ≤ gk
  ulow : w0.heap.size ≤ gu
  olow : w0.heap.size ≤ go
  gr : Gr w0 W
section
variable {w0 W W' : World} {gk gu go : Nat} {dn us : List Bool} {sv dv lv : Value} {st : List (Int × Int)} {de le : List Int}
theorem keep_block {W W' : World} {row : Option Nat} {g : Nat} {cur : Array Value} {t : TypeId} (h : W.heap[g]? = some (.cells cur t (0, 0))) (hg : W.grownBy W' row) (hn : row ≠ some g) : W'.heap[g]? = some (.cells cur t (0, 0)) := by
  rw [hg.block g (Array.getElem?_eq_some_iff.1 h).1 (fun e => hn e.symm)]
  exact h
theorem own_other {W W' : World} {base base' : Nat} {e e' : TypeId} {size size' n n' : Nat} {v v' : Value} {xs xs' : List Value} (h : W.ownsRow base e size v n xs) (h' : W.ownsRow base' e' size' v' n' xs') (hne : e ≠ e') (hg : W.grownBy W' v'.ownBlock) : W'.ownsRow base e size v n xs := by
  refine own_through h hg fun g hv hv' => ?_
  obtain ⟨_, ⟨rfl, _⟩ | ⟨g1, c, cur, rfl, _, hgg, _⟩⟩ := h
  · cases hv
  · simp [Value.ownBlock] at hv
    subst hv
    exact own_type h' hgg hne hv'
theorem PlanAt.grown (h : PlanAt w0 W gk gu go dn us sv dv lv st de le) (hg : Gr W W') : PlanAt w0 W' gk gu go dn us sv dv lv st de le :=
  ⟨h.k.grown hg, h.u.grown hg, keptRow hg h.o, h.s.of_gr hg, h.d.of_gr hg, h.l.of_gr hg, h.sep, h.ku, h.klow, h.ulow, h.olow, h.gr.trans hg⟩
theorem PlanAt.ne (h : PlanAt w0 W gk gu go dn us sv dv lv st de le) : gk ≠ go ∧ gu ≠ go := by
  have h1 := h.k
  have h2 := h.u
  unfold Blt at h1 h2
  constructor
  · intro e
    rw [e, h.o] at h1
    simp at h1
  · intro e
    rw [e, h.o] at h2
    simp at h2
theorem own_set {base n g o : Nat} {e t : TypeId} {size : Nat} {v x : Value} {xs : List Value} {cur : Array Value} (h : W.ownsRow base e size v n xs) (hg : W.heap[g]? = some (.cells cur t (0, 0))) (ht : t ≠ e) : (W.setCell ⟨g, o, none⟩ x).ownsRow base e size v n xs := by
  obtain ⟨h0, h1 | ⟨g', c, cur', rfl, hb, hgg, h2⟩⟩ := h
  · exact ⟨h0, .inl h1⟩
  · refine ⟨h0, .inr ⟨g', c, cur', rfl, hb, ?_, h2⟩⟩
    rw [heap_setCell_other _ _ _ _ (fun e' => ?_)]
    · exact hgg
    · have e' : g' = g := e'
      rw [e', hg] at hgg
      simp at hgg
      exact ht hgg.2
theorem PlanAt.putK (h : PlanAt w0 W gk gu go dn us sv dv lv st de le) (x : Nat) : PlanAt w0 (W.setCell ⟨gk, x, none⟩ (.bool true)) gk gu go (dn.set x true) us sv dv lv st de le := by
  have hk := h.k
  unfold Blt at hk
  refine ⟨h.k.set x true, ?_, ?_, own_set h.s hk (by decide), own_set h.d hk (by decide), own_set h.l hk (by decide), h.sep, h.ku, h.klow, h.ulow, h.olow, Gr.setCell h.gr h.klow _⟩
  · unfold Blt
    rw [heap_setCell_other _ _ _ _ (fun e => h.ku (by have e : gu = gk := e; exact e.symm))]
    exact h.u
  · rw [heap_setCell_other _ _ _ _ (fun e => h.ne.1 (by have e : go = gk := e; exact e.symm))]
    exact h.o
theorem PlanAt.putU (h : PlanAt w0 W gk gu go dn us sv dv lv st de le) (x : Nat) : PlanAt w0 (W.setCell ⟨gu, x, none⟩ (.bool true)) gk gu go dn (us.set x true) sv dv lv st de le := by
  have hk := h.u
  unfold Blt at hk
  refine ⟨?_, h.u.set x true, ?_, own_set h.s hk (by decide), own_set h.d hk (by decide), own_set h.l hk (by decide), h.sep, h.ku, h.klow, h.ulow, h.olow, Gr.setCell h.gr h.ulow _⟩
  · unfold Blt
    rw [heap_setCell_other _ _ _ _ (fun e => h.ku (by have e : gk = gu := e; exact e))]
    exact h.k
  · rw [heap_setCell_other _ _ _ _ (fun e => h.ne.2 (by have e : go = gu := e; exact e.symm))]
    exact h.o
theorem PlanAt.putO (h : PlanAt w0 W gk gu go dn us sv dv lv st de le) (i : Nat) (x : Value) : Blt (W.setCell ⟨go, i, none⟩ x) gk dn ∧ Blt (W.setCell ⟨go, i, none⟩ x) gu us ∧ (W.setCell ⟨go, i, none⟩ x).heap[go]? = some (.cells ((#[sv, dv, lv] : Array Value).setIfInBounds i x) 31 (0, 0)) ∧ Gr w0 (W.setCell ⟨go, i, none⟩ x) := by
  refine ⟨?_, ?_, heap_setCell_same _ _ _ _ _ _ h.o, Gr.setCell h.gr h.olow _⟩
  · unfold Blt
    rw [heap_setCell_other _ _ _ _ h.ne.1]
    exact h.k
  · unfold Blt
    rw [heap_setCell_other _ _ _ _ h.ne.2]
    exact h.u
theorem PlanAt.cellO (h : PlanAt w0 W gk gu go dn us sv dv lv st de le) : W.cell? ⟨go, 0, none⟩ = some sv ∧ W.cell? ⟨go, 1, none⟩ = some dv ∧ W.cell? ⟨go, 2, none⟩ = some lv := by
  have hc := fun k => cell_of_row W go k _ _ _ h.o
  exact ⟨by rw [hc]; rfl, by rw [hc]; rfl, by rw [hc]; rfl⟩
theorem PlanAt.afterS (h : PlanAt w0 W gk gu go dn us sv dv lv st de le) (hg : W.grownBy W' sv.ownBlock) : W'.cell? ⟨go, 0, none⟩ = some sv ∧ W'.frozen? ⟨go, 0, none⟩ = false := by
  have ho := keep_block h.o hg (own_type h.s h.o (by decide))
  exact ⟨by rw [cell_of_row _ _ _ _ _ _ ho]; rfl, frozen_of_row _ _ _ _ _ ho⟩
theorem PlanAt.afterD (h : PlanAt w0 W gk gu go dn us sv dv lv st de le) (hg : W.grownBy W' dv.ownBlock) : W'.cell? ⟨go, 1, none⟩ = some dv ∧ W'.frozen? ⟨go, 1, none⟩ = false := by
  have ho := keep_block h.o hg (own_type h.d h.o (by decide))
  exact ⟨by rw [cell_of_row _ _ _ _ _ _ ho]; rfl, frozen_of_row _ _ _ _ _ ho⟩
theorem PlanAt.afterL (h : PlanAt w0 W gk gu go dn us sv dv lv st de le) (hg : W.grownBy W' lv.ownBlock) : W'.cell? ⟨go, 2, none⟩ = some lv ∧ W'.frozen? ⟨go, 2, none⟩ = false := by
  have ho := keep_block h.o hg (own_type h.l h.o (by decide))
  exact ⟨by rw [cell_of_row _ _ _ _ _ _ ho]; rfl, frozen_of_row _ _ _ _ _ ho⟩
/-- One step more. -/
theorem PlanAt.step (h : PlanAt w0 W gk gu go dn us sv dv lv st de le) {sv' : Value} {p : Int × Int} (hs : StepsO w0.heap.size W' sv' (st ++ [p])) (hg : W.grownBy W' sv.ownBlock) : PlanAt w0 (W'.setCell ⟨go, 0, none⟩ sv') gk gu go dn us sv' dv lv (st ++ [p]) de le := by
  have hk := h.k
  have hu := h.u
  unfold Blt at hk hu
  have hko := keep_block hk hg (own_type h.s hk (by decide))
  have huo := keep_block hu hg (own_type h.s hu (by decide))
  have hoo := keep_block h.o hg (own_type h.s h.o (by decide))
  have hg2 : Gr w0 W' := Gr.append h.gr hg fun g hv => ownsRow_base h.s g hv
  refine ⟨?_, ?_, heap_setCell_same _ _ _ _ _ _ hoo, own_set hs hoo (by decide), own_set (own_other h.d h.s (by decide) hg) hoo (by decide), own_set (own_other h.l h.s (by decide) hg) hoo (by decide), h.sep, h.ku, h.klow, h.ulow, h.olow, Gr.setCell hg2 h.olow _⟩
  · unfold Blt
    rw [heap_setCell_other _ _ _ _ h.ne.1]
    exact hko
  · unfold Blt
    rw [heap_setCell_other _ _ _ _ h.ne.2]
    exact huo
/-- One column more that is put off. -/
theorem PlanAt.off (h : PlanAt w0 W gk gu go dn us sv dv lv st de le) {dv' : Value} {x : Int} {g' : Nat} (hs : W'.ownsRow w0.heap.size 3 1 dv' (de ++ [x]).length ((de ++ [x]).map (Value.int .i64))) (hg : W.grownBy W' dv.ownBlock) (hv : dv'.ownBlock = some g') (hl : dv.ownBlock = some g' ∨ g' = W.heap.size) : PlanAt w0 (W'.setCell ⟨go, 1, none⟩ dv') gk gu go dn us sv dv' lv st (de ++ [x]) le := by
  have hk := h.k
  have hu := h.u
  unfold Blt at hk hu
  have hko := keep_block hk hg (own_type h.d hk (by decide))
  have huo := keep_block hu hg (own_type h.d hu (by decide))
  have hoo := keep_block h.o hg (own_type h.d h.o (by decide))
  have hg2 : Gr w0 W' := Gr.append h.gr hg fun g hv => ownsRow_base h.d g hv
  obtain ⟨hl1, hl2⟩ := own_sep h.l (fun g h1 h2 => h.sep g h2 h1) hg hl
  refine ⟨?_, ?_, heap_setCell_same _ _ _ _ _ _ hoo, own_set (own_other h.s h.d (by decide) hg) hoo (by decide), own_set hs hoo (by decide), own_set hl1 hoo (by decide), (fun g h1 h2 => by rw [hv] at h1; cases h1; exact hl2 h2), h.ku, h.klow, h.ulow, h.olow, Gr.setCell hg2 h.olow _⟩
  · unfold Blt
    rw [heap_setCell_other _ _ _ _ h.ne.1]
    exact hko
  · unfold Blt
    rw [heap_setCell_other _ _ _ _ h.ne.2]
    exact huo
/-- One row more that is left. -/
theorem PlanAt.more (h : PlanAt w0 W gk gu go dn us sv dv lv st de le) {lv' : Value} {x : Int} {g' : Nat} (hs : W'.ownsRow w0.heap.size 3 1 lv' (le ++ [x]).length ((le ++ [x]).map (Value.int .i64))) (hg : W.grownBy W' lv.ownBlock) (hv : lv'.ownBlock = some g') (hl : lv.ownBlock = some g' ∨ g' = W.heap.size) : PlanAt w0 (W'.setCell ⟨go, 2, none⟩ lv') gk gu go dn us sv dv lv' st de (le ++ [x]) := by
  have hk := h.k
  have hu := h.u
  unfold Blt at hk hu
  have hko := keep_block hk hg (own_type h.l hk (by decide))
  have huo := keep_block hu hg (own_type h.l hu (by decide))
  have hoo := keep_block h.o hg (own_type h.l h.o (by decide))
  have hg2 : Gr w0 W' := Gr.append h.gr hg fun g hv => ownsRow_base h.l g hv
  obtain ⟨hl1, hl2⟩ := own_sep h.d (fun g h1 h2 => h.sep g h1 h2) hg hl
  refine ⟨?_, ?_, heap_setCell_same _ _ _ _ _ _ hoo, own_set (own_other h.s h.l (by decide) hg) hoo (by decide), own_set hl1 hoo (by decide), own_set hs hoo (by decide), (fun g h1 h2 => by rw [hv] at h2; cases h2; exact hl2 h1), h.ku, h.klow, h.ulow, h.olow, Gr.setCell hg2 h.olow _⟩
  · unfold Blt
    rw [heap_setCell_other _ _ _ _ h.ne.1]
    exact hko
  · unfold Blt
    rw [heap_setCell_other _ _ _ _ h.ne.2]
    exact huo
end
end Go.Proofs.Ytdmcncpndogdlaa
