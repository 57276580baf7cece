/-
  Texts laid behind one another: Ql Qm Ro.
-/
import Derived.Test.YtjibmgdafpempaaMgk
import Derived.Test.YtjibmgdafpempaaMgd
namespace Go.Proofs.Ytjibmgdafpempaa
open Go.RowKit

set_option maxHeartbeats 400000 in
theorem same_coreQ (a b : Addr) (n ca cb : Nat) (x y : List Int) (w : World) (hn : x.length = n) (hl : y.length = n) (hx : n ≤ ca) (hy : n ≤ cb) (hm : ca ≤ 9223372036854775807)
    (hxc : ∀ i, i < n → w.cell? (a.add i) = some (.int .u8 (x.getD i 0))) (hyc : ∀ i, i < n → w.cell? (b.add i) = some (.int .u8 (y.getD i 0))) :
    Calls Try.prog 17 #[.slice (some a) n ca, .slice (some b) n cb] w fun e w' => e = .returned (.bool (x == y)) ∧ ∃ m, w' = w.drewN m := by
  have HX := Lib.hid hxc
  have HY := Lib.hid hyc
  have HL := Lib.hid hl
  have HN := Lib.hid hn
  clear hxc hyc hl hn
  go_enter Try.func17, Try.ntmps17
  go_wp2
  go_loopw [13] (fun i wr => ∃ k : Nat, k ≤ n ∧ i = .int .i64 k ∧ (∃ d, wr = w.drewN d) ∧ (∀ j, j < k → x.getD j 0 = y.getD j 0)) (fun i _ => n - (intOf i).toNat)
  case atStart => exact ⟨0, by omega, rfl, ⟨0, rfl⟩, by omega⟩
  case round =>
    obtain ⟨k, hk, rfl, ⟨d, rfl⟩, hs⟩ := hrel
    have HS := Lib.hid hs
    clear hs
    by_cases hlt : k < n
    · have h1 := HX.out k hlt
      have h2 := HY.out k hlt
      obtain ⟨p, hp⟩ : ∃ p, x.getD k 0 = p := ⟨_, rfl⟩
      obtain ⟨q, hq⟩ : ∃ q, y.getD k 0 = q := ⟨_, rfl⟩
      rw [hp] at h1
      rw [hq] at h2
      have HP := Lib.hid hp
      have HQ := Lib.hid hq
      clear hp hq
      by_cases he : p = q
      · subst he
        go_wp2
        go_quiet (fail)
        go_wp2
        refine ⟨⟨k + 1, by omega, by go_num, ⟨_, rfl⟩, fun j hj => ?_⟩, by simp [intOf]; omega⟩
        by_cases e : j = k
        · rw [e, HP.out, HQ.out]
        · exact HS.out j (by omega)
      · have hb : (p != q) = true := by simpa using he
        have HE := Lib.hid he
        clear he
        go_wp2
        go_quiet (fail)
        go_wp2
        go_ret
        have hne : (x == y) = false := by
          rw [beq_eq_false_iff_ne]
          intro c
          apply HE.out
          rw [← HP.out, ← HQ.out, c]
        exact ⟨by rw [hne]; rfl, _, World.drewN_drewN _ _ _⟩
    · obtain rfl : k = n := by omega
      go_wp2
      go_ret
      have he : x = y := eq_of_getD (by rw [HL.out, HN.out]) (fun j hj => HS.out j (by rw [HN.out] at hj; exact hj))
      exact ⟨by rw [he]; simp, _, rfl⟩
set_option maxHeartbeats 400000 in
theorem same_quiet (va vb : Value) (x y : List Int) (w : World) (ha : Bs w va x) (hb : Bs w vb y) :
    Calls Try.prog 17 #[va, vb] w fun e w' => e = .returned (.bool (x == y)) ∧ ∃ m, w' = w.drewN m := by
  by_cases hl : y.length = x.length
  · by_cases h0 : 0 < x.length
    · obtain ⟨a, ca, rfl, h1, h2, h3⟩ := Bs.at ha h0
      obtain ⟨b, cb, rfl, h4, h5, h6⟩ := Bs.at hb (by omega)
      rw [hl]
      rw [hl] at h4 h6
      exact same_coreQ a b x.length ca cb x y w rfl hl h1 h4 h2 h3 h6
    · obtain rfl : x = [] := List.eq_nil_of_length_eq_zero (by omega)
      obtain rfl : y = [] := List.eq_nil_of_length_eq_zero (by simpa using hl)
      obtain ⟨_, oa, ca, rfl, _, _, _, _⟩ := ha
      obtain ⟨_, ob, cb, rfl, _, _, _, _⟩ := hb
      go_enter Try.func17, Try.ntmps17
      go_wp2
      go_loopw [13] (fun i wr => i = .int .i64 0 ∧ wr = w.drewN 0) (fun _ _ => 0)
      case atStart => exact ⟨rfl, rfl⟩
      case round =>
        obtain ⟨rfl, rfl⟩ := hrel
        go_wp2
        go_ret
        exact ⟨rfl, _, rfl⟩
  · have hne : (x == y) = false := by
      rw [beq_eq_false_iff_ne]
      intro c
      rw [c] at hl
      exact hl rfl
    obtain ⟨_, oa, ca, rfl, h1, h2, _, _⟩ := ha
    obtain ⟨_, ob, cb, rfl, h3, h4, _, _⟩ := hb
    rw [hne]
    generalize x.length = n at *
    generalize y.length = m at *
    have ht : ((n : Int) != m) = true := by simp; omega
    go_enter Try.func17, Try.ntmps17
    go_wp2
    go_ret
    exact ⟨rfl, 0, rfl⟩
theorem good_may {N S : Nat} {vs : List (List Int)} {L : List Eqn} (hN : N ≤ 64) (h : ∀ q ∈ L, GoodE N S vs q) : MayEqs (N : Int) L ∧ ∀ q ∈ L, dlen L = S := by
  have hd : ∀ q ∈ L, dlen L = S := fun q hq => by
    cases L with
    | nil => cases hq
    | cons a t => exact (h a (by simp)).2.1
  exact ⟨⟨by omega, by omega, fun q hq => ⟨(h q hq).1, by rw [(h q hq).2.1, hd q hq]⟩⟩, hd⟩
theorem rising_pw {c : List Int} (h : Rising c) : c.Pairwise (· < ·) := by
  rw [List.pairwise_iff_getElem]
  have key : ∀ d i, i + 1 + d < c.length → c.getD i 0 < c.getD (i + 1 + d) 0 := by
    intro d
    induction d with
    | zero => intro i hi; exact h i hi
    | succ d ih => intro i hi; exact Int.lt_trans (ih i (by omega)) (h (i + 1 + d) (by omega))
  intro i j hi hj hij
  have := key (j - i - 1) i (by omega)
  rw [show i + 1 + (j - i - 1) = j from by omega, List.getD_eq_getElem?_getD, List.getD_eq_getElem?_getD, List.getElem?_eq_getElem hi, List.getElem?_eq_getElem hj] at this
  exact this
theorem openL_may {n : Int} {kn : List Bool} {c : List Int} (h : MayRow n c) : MayRow n (openL kn c) :=
  ⟨fun x hx => h.1 x (List.mem_filter.1 hx).1, rising_of ((rising_pw h.2).sublist List.filter_sublist)⟩
theorem openL_cols (kn : List Bool) (c : List Int) : (openL kn c).map Int.toNat = (c.map Int.toNat).filter fun x => !(kn.getD x false) := by
  unfold openL
  rw [List.filter_map]
  rfl
/-- What peeling tells of rows that some values make. -/
structure PeelT (N S : Nat) (vs : List (List Int)) (L : List Eqn) (kn : List Bool) (us : List (List Int)) (rs : List Eqn) : Prop where
  len : kn.length = N
  ulen : us.length = N
  val : ∀ c, kn.getD c false = true → us.getD c [] = vs.getD c []
  no : ∀ c, kn.getD c false = false → us.getD c [] = []
  der : ∀ c, kn.getD c false = true ↔ PL.Der (L.map toE) c
  left : rs = leftE kn us L
  two : ∀ r ∈ rs, 2 ≤ r.c.length ∧ GoodE N S vs r ∧ ∀ x ∈ r.c, kn.getD x.toNat false = false
theorem peel_true {N S : Nat} {vs : List (List Int)} {L : List Eqn} {kn : List Bool} {us : List (List Int)} {rs : List Eqn} {e : Int} (hN : N ≤ 64) (hw : Wide S vs) (hvl : vs.length = N) (hL : ∀ q ∈ L, GoodE N S vs q) (h : PeelSays N L kn us rs e) : e = 0 ∧ PeelT N S vs L kn us rs := by
  obtain ⟨hm, hd⟩ := good_may hN hL
  have hh : PL.Holds VT (L.map toE) (valV vs) := PL.Holds.of_all VT fun q hq => by
    obtain ⟨r, hr, rfl⟩ := List.mem_map.1 hq
    exact (hL r hr).2.2.2.symm
  have hnd : ∀ q, q ∈ L.map toE → q.cols.Nodup := fun q hq => by
    obtain ⟨r, hr, rfl⟩ := List.mem_map.1 hq
    exact mayRow_nodup (hm.2.2 r hr).1
  rcases h with ⟨a0, _⟩ | ⟨_, a1, _⟩ | ⟨_, a1, a2, a3⟩
  · exact absurd hm a0
  · exact absurd ⟨_, hh⟩ a1
  · refine ⟨a1, ?_⟩
    rw [Int.toNat_natCast] at a2
    have hS : ∀ c, PL.Der (L.map toE) c → dlen L = S := fun c hc => by
      cases hc with
      | by_row q c hq _ _ =>
        obtain ⟨r, hr, _⟩ := List.mem_map.1 hq
        exact hd r hr
    have hlt : ∀ c, PL.Der (L.map toE) c → c < N := fun c hc => PL.Der.lt (fun q hq d hdq => by
      obtain ⟨r, hr, rfl⟩ := List.mem_map.1 hq
      obtain ⟨x, hx, rfl⟩ := List.mem_map.1 hdq
      have := (hL r hr).1.1 x hx
      omega) hc
    have hv : ∀ c, kn.getD c false = true → us.getD c [] = vs.getD c [] := fun c hc => by
      have hder := (a2.der c).1 hc
      obtain ⟨h1, h2⟩ := a2.val.2 c hc
      have h3 := hw (vs.getD c []) (by
        have := hlt c hder
        rw [List.getD_eq_getElem?_getD, List.getElem?_eq_getElem (by omega)]
        exact List.getElem_mem _)
      exact vec_inj (by rw [h1, h3.1, hS c hder]) h2 h3.2 (PL.Holds.unique VT hnd a2.holds hh hder)
    refine ⟨a2.len, by rw [a2.val.1, a2.len], hv, a2.no, a2.der, a3, fun r hr => ?_⟩
    rw [a3] at hr
    obtain ⟨q, hq, rfl⟩ := List.mem_map.1 hr
    obtain ⟨hq, hpos⟩ := List.mem_filter.1 hq
    have hpos : 0 < (openL kn q.c).length := by simpa using hpos
    obtain ⟨g1, g2, g3, g4⟩ := hL q hq
    have hro := restL_ok a2.val q.c q.d (by rw [g2, hd q hq]) g3
    refine ⟨?_, ⟨openL_may g1, by rw [hro.1, hd q hq], hro.2, ?_⟩, fun x hx => (openL_mem.1 hx).2⟩
    · rcases Nat.lt_or_ge 1 (openL kn q.c).length with h2 | h2
      · exact h2
      · obtain ⟨x, hx⟩ : ∃ x, openL kn q.c = [x] := List.length_eq_one_iff.1 (by omega)
        have hxm : x ∈ openL kn q.c := by rw [hx]; simp
        obtain ⟨hxc, hxk⟩ := openL_mem.1 hxm
        have hdx : PL.Der (L.map toE) x.toNat := .by_row (toE q) x.toNat (List.mem_map.2 ⟨q, hq, rfl⟩) (List.mem_map.2 ⟨x, hxc, rfl⟩) fun d hdq hne => by
          obtain ⟨y, hy, rfl⟩ := List.mem_map.1 hdq
          rw [← a2.der]
          cases hk : kn.getD y.toNat false
          · have : y ∈ openL kn q.c := openL_mem.2 ⟨hy, hk⟩
            rw [hx] at this
            obtain rfl : y = x := by simpa using this
            exact absurd rfl hne
          · rfl
        rw [← a2.der, hxk] at hdx
        cases hdx
    · show vec (restL kn us q.c q.d) = PL.tot VT (valV vs) ((openL kn q.c).map Int.toNat)
      have hr := PL.rest_holds VT (k := fun x => kn.getD x false) (v := valV us) (v0 := valV vs) (q := toE q) g4.symm fun c _ hk => by
        show vec (us.getD c []) = vec (vs.getD c [])
        rw [hv c hk]
      rw [openL_cols, vec_rest a2.val q.c q.d (by rw [g2, hd q hq]) g3]
      exact hr.symm
end Go.Proofs.Ytjibmgdafpempaa
namespace Go.Proofs.Ytjibmgdafpempaa
open Go.RowKit

theorem run_append_inS {P : Program} {w : World} (base : Nat) (t ty e : TypeId) (i : TypeInfo) (z : Value) (size bytes : Nat) (ht : P.underlying t = some (.slice e)) (hi : P.info? e = some i) (hz : i.zero = some z)
    (hsize : i.size = size) (hby : i.bytes = bytes) (hzs : z.cells.size = size) (hsz : 0 < size) (v : Value) (n : Nat) (xs : List Value) (hown : w.ownsRow base e size v n xs)
    (oa : Option Addr) (m c : Nat) (news : List Value) (hno : oa = none → m = 0 ∧ c = 0) (hl : news.length = m * size) (hnews : ∀ ad, oa = some ad → ∀ j u, news[j]? = some u → w.cell? (ad.add j) = some u) (h1 : ∀ u ∈ news, u.oneCell' = true)
    (h63 : n + m ≤ maxLen) (hbytes : (n + m) * bytes ≤ 140737488355328) (hbase : base ≤ w.heap.size) :
    ∃ v' w', (Builtin.append_ #[t, t] ty #[v, .slice oa m c]).run P w = .ok v' w' ∧ w'.ownsRow base e size v' (n + m) (xs ++ news) ∧ w.grownBy w' v.ownBlock := by
  cases oa with
  | none =>
    obtain ⟨rfl, rfl⟩ := hno rfl
    obtain rfl : news = [] := List.eq_nil_of_length_eq_zero (by rw [hl]; omega)
    refine ⟨v, w, run_append_owned_none (P := P) (w := w) base t ty e i size ht hi v n xs hown, by rw [List.append_nil]; exact hown, ⟨rfl, rfl, rfl, Nat.le_refl _, fun _ _ _ => rfl⟩⟩
  | some ad =>
    obtain ⟨v', w', hr, h2, h3, _⟩ := run_append_own (P := P) w base t ty e i z size bytes ht hi hz hsize hby hzs hsz v n xs hown ad m c news hl (hnews ad rfl) h1 h63 hbytes hbase
    exact ⟨v', w', hr, h2, h3⟩
/-- Rows of ones as values, from an address on. -/
def EqsV (base : Nat) (w : World) (oa : Option Addr) (m : Nat) (L : List Eqn) : Prop :=
  L.length = m ∧ (oa = none → m = 0) ∧ ∃ us : List Value, us.length = m * 2 ∧ (∀ ad, oa = some ad → ∀ j u, us[j]? = some u → w.cell? (ad.add j) = some u) ∧ ∀ i, i < m → EqVal base w (us.getD (i * 2) undef) (us.getD (i * 2 + 1) undef) (L.getD i noE)
theorem EqsV.grown {base m : Nat} {w w' : World} {oa : Option Addr} {L : List Eqn} (h : EqsV base w oa m L) (hg : Gr w w') : EqsV base w' oa m L := by
  obtain ⟨h1, h2, us, h3, h4, h5⟩ := h
  exact ⟨h1, h2, us, h3, fun ad ha j u hu => cell_gr hg (h4 ad ha j u hu), fun i hi => (h5 i hi).gr hg⟩
theorem EqsV.nil (base : Nat) (w : World) (oa : Option Addr) : EqsV base w oa 0 [] := ⟨rfl, fun _ => rfl, [], rfl, fun ad _ j u hu => by simp at hu, fun i hi => by omega⟩
theorem EqsO.vals {base n c : Nat} {w : World} {o : Option Addr} {L : List Eqn} (h : EqsO base w (.slice o n c) L) : EqsV base w o n L := by
  have hf := h.form
  obtain ⟨o', c', hf⟩ := hf
  obtain ⟨rfl, rfl, rfl⟩ : o = o' ∧ n = L.length ∧ c = c' := by simpa using hf
  obtain ⟨us, ⟨hlen, ⟨he, h0⟩ | ⟨g, c, cur, he, h1, h2, h3, h4, h5, h6⟩⟩, hr⟩ := h
  · obtain rfl : L = [] := List.eq_nil_of_length_eq_zero h0
    exact EqsV.nil _ _ _
  · cases he
    refine ⟨rfl, (fun e => by cases e), us, hlen, fun ad ha j u hu => ?_, hr⟩
    cases ha
    rw [Addr.add_mid, Nat.zero_add, cell_of_row _ _ _ _ _ _ h2]
    have hj : j < us.length := (List.getElem?_eq_some_iff.1 hu).1
    have e : (cur.toList.take (L.length * 2))[j]? = us[j]? := by rw [h6]
    rw [List.getElem?_take_of_lt (by omega), hu] at e
    simpa using e
/-- Rows that came in: their memory was there. -/
theorem Eqs.vals {w : World} {o : Option Addr} {n c : Nat} {L : List Eqn} (h : Eqs w (.slice o n c) L) : EqsV w.heap.size w o n L := by
  obtain ⟨o', c', he, h2, h3, h4, h5⟩ := h
  obtain ⟨rfl, rfl, rfl⟩ : o = o' ∧ n = L.length ∧ c = c' := by simpa using he
  by_cases h0 : 0 < L.length
  · obtain ⟨b, q, rfl, h6⟩ := h5 h0
    have hex : ∀ i, ∃ uc ud : Value, i < L.length → w.cell? ⟨b, q + i * 2, none⟩ = some uc ∧ w.cell? ⟨b, q + i * 2 + 1, none⟩ = some ud ∧ EqVal w.heap.size w uc ud (L.getD i noE) := fun i => by
      by_cases hi : i < L.length
      · obtain ⟨oc, nc, cc, od, nd, cd, q1, q2, zc, zd⟩ := h6 i hi
        refine ⟨_, _, fun _ => ⟨q1, q2, zc, fun a m c' e hm => .inl ?_, zd, zd.rb w⟩⟩
        cases e
        have hz := zc.cellAt (i := 0) hm
        exact World.block_lt_of_cell? _ _ (by rw [add_nought] at hz; exact hz)
      · exact ⟨undef, undef, fun h => absurd h hi⟩
    let f : Nat → Value := fun j => if j % 2 = 0 then Classical.choose (hex (j / 2)) else Classical.choose (Classical.choose_spec (hex (j / 2)))
    have hf : ∀ i, i < L.length → w.cell? ⟨b, q + i * 2, none⟩ = some (f (i * 2)) ∧ w.cell? ⟨b, q + i * 2 + 1, none⟩ = some (f (i * 2 + 1)) ∧ EqVal w.heap.size w (f (i * 2)) (f (i * 2 + 1)) (L.getD i noE) := fun i hi => by
      have e0 : f (i * 2) = Classical.choose (hex i) := by
        show (if i * 2 % 2 = 0 then Classical.choose (hex (i * 2 / 2)) else _) = _
        rw [if_pos (by omega), show i * 2 / 2 = i from by omega]
      have e1 : f (i * 2 + 1) = Classical.choose (Classical.choose_spec (hex i)) := by
        show (if (i * 2 + 1) % 2 = 0 then _ else Classical.choose (Classical.choose_spec (hex ((i * 2 + 1) / 2)))) = _
        rw [if_neg (by omega)]
        have : (i * 2 + 1) / 2 = i := by omega
        rw [this]
      rw [e0, e1]
      exact Classical.choose_spec (Classical.choose_spec (hex i)) hi
    refine ⟨rfl, (fun e => by cases e), (List.range (L.length * 2)).map f, by simp, fun ad ha j u hu => ?_, fun i hi => ?_⟩
    · cases ha
      obtain ⟨hj, hu⟩ := List.getElem?_eq_some_iff.1 hu
      simp at hj hu
      subst hu
      rw [Addr.add_mid]
      by_cases e : j % 2 = 0
      · have := (hf (j / 2) (by omega)).1
        rw [show j / 2 * 2 = j from by omega] at this
        exact this
      · have := (hf (j / 2) (by omega)).2.1
        rw [show j / 2 * 2 + 1 = j from by omega, Nat.add_assoc, show j / 2 * 2 + 1 = j from by omega] at this
        exact this
    · have := (hf i hi).2.2
      rw [List.getD_eq_getElem?_getD, List.getD_eq_getElem?_getD, List.getElem?_map, List.getElem?_map, List.getElem?_range (by omega), List.getElem?_range (by omega)]
      exact this
  · have : L = [] := List.eq_nil_of_length_eq_zero (by omega)
    subst this
    exact EqsV.nil _ _ _
theorem EqsV.one {base m : Nat} {w : World} {us : List Value} {L : List Eqn} (hl : us.length = m * 2) (h : ∀ i, i < m → EqVal base w (us.getD (i * 2) undef) (us.getD (i * 2 + 1) undef) (L.getD i noE)) : ∀ u ∈ us, u.oneCell' = true := fun u hu => by
  obtain ⟨j, hj, rfl⟩ := List.getElem_of_mem hu
  have hq := h (j / 2) (by omega)
  obtain ⟨oc, cc, e1⟩ := hq.1.form
  obtain ⟨od, cd, e2⟩ := hq.2.2.1.form
  have e : us[j] = us.getD j undef := by rw [List.getD_eq_getElem?_getD, List.getElem?_eq_getElem hj]; rfl
  rw [e]
  by_cases e0 : j % 2 = 0
  · rw [show j / 2 * 2 = j from by omega] at e1
    rw [e1]
    rfl
  · rw [show j / 2 * 2 + 1 = j from by omega] at e2
    rw [e2]
    rfl
theorem run_append_eqs {w : World} (ty : TypeId) (base : Nat) (v : Value) (L M : List Eqn) (hR : EqsO base w v L)
    (oa : Option Addr) (m c : Nat) (hV : EqsV base w oa m M) (hc : oa = none → c = 0) (hm : L.length + m ≤ 100000) (hbase : base ≤ w.heap.size) :
    ∃ v' w', (Builtin.append_ #[22, 22] ty #[v, .slice oa m c]).run Try.prog w = .ok v' w' ∧ EqsO base w' v' (L ++ M) ∧ (∀ w0, Gr w0 w → w0.heap.size ≤ base → Gr w0 w') ∧ w.grownBy w' v.ownBlock ∧ ∀ t : TypeId, t ≠ 27 → ∀ g, v.ownBlock = some g → base ≤ g ∧ ∀ cur, w.heap[g]? ≠ some (.cells cur t (0, 0)) := by
  obtain ⟨i, hi, hzz⟩ := Option.map_eq_some_iff.1 infoE
  simp only [Prod.mk.injEq] at hzz
  obtain ⟨hz0, hz1, hz2⟩ := hzz
  obtain ⟨z, hz, hzs⟩ := Option.map_eq_some_iff.1 hz0
  obtain ⟨us, hown, hr⟩ := hR
  obtain ⟨hML, hno, ns, hnl, hnc, hnv⟩ := hV
  obtain ⟨v', w', hrun, h1, h2⟩ := run_append_inS (P := Try.prog) (w := w) base 22 ty 27 i z 2 48 Try.underlying22 hi hz hz1 hz2 hzs (by omega) v L.length us hown oa m c ns (fun e => ⟨hno e, hc e⟩) hnl hnc (EqsV.one hnl hnv) (by unfold maxLen; omega) (by omega) hbase
  have hlen : us.length = L.length * 2 := hown.1
  refine ⟨v', w', hrun, ⟨us ++ ns, by rw [List.length_append, hML]; exact h1, fun k hk => ?_⟩, (fun w0 hg hb => Gr.append hg h2 fun k hv => by have := eq_base hown k hv; omega), h2, (fun t ht => eq_not hown ht)⟩
  rw [List.length_append] at hk
  by_cases e : k < L.length
  · rw [List.getD_eq_getElem?_getD, List.getD_eq_getElem?_getD, List.getD_eq_getElem?_getD, List.getElem?_append_left (by omega), List.getElem?_append_left (by omega), List.getElem?_append_left e, ← List.getD_eq_getElem?_getD, ← List.getD_eq_getElem?_getD, ← List.getD_eq_getElem?_getD]
    exact (hr k e).kept hown h2
  · obtain ⟨q, rfl⟩ : ∃ q, k = L.length + q := ⟨k - L.length, by omega⟩
    have d1 : (us ++ ns).getD ((L.length + q) * 2) undef = ns.getD (q * 2) undef := by rw [List.getD_eq_getElem?_getD, List.getElem?_append_right (by omega), hlen, show (L.length + q) * 2 - L.length * 2 = q * 2 from by omega, ← List.getD_eq_getElem?_getD]
    have d2 : (us ++ ns).getD ((L.length + q) * 2 + 1) undef = ns.getD (q * 2 + 1) undef := by rw [List.getD_eq_getElem?_getD, List.getElem?_append_right (by omega), hlen, show (L.length + q) * 2 + 1 - L.length * 2 = q * 2 + 1 from by omega, ← List.getD_eq_getElem?_getD]
    have d3 : (L ++ M).getD (L.length + q) noE = M.getD q noE := by rw [List.getD_eq_getElem?_getD, List.getElem?_append_right (by omega), Nat.add_sub_cancel_left, ← List.getD_eq_getElem?_getD]
    rw [d1, d2, d3]
    exact (hnv q (by omega)).kept hown h2
theorem wp_append_eqs {w : World} {o : Oper} {a : Act} {K : Act → World → Prop} {Q : Exit → Act → World → Prop} (s x : Operand)
    (ho : o.op = .call { callee := .builtin .append, args := #[s, x], argTypes := #[22, 22] }) (base : Nat) (v : Value) (L M : List Eqn) (hs : a.eval s = v) (hR : EqsO base w v L)
    (oa : Option Addr) (m c : Nat) (hx : a.eval x = .slice oa m c) (hV : EqsV base w oa m M) (hc : oa = none → c = 0) (hm : L.length + m ≤ 100000) (hbase : base ≤ w.heap.size)
    (h : ∀ v' w', EqsO base w' v' (L ++ M) → (∀ w0, Gr w0 w → w0.heap.size ≤ base → Gr w0 w') → w.grownBy w' v.ownBlock → (∀ t : TypeId, t ≠ 27 → ∀ g, v.ownBlock = some g → base ≤ g ∧ ∀ cur, w.heap[g]? ≠ some (.cells cur t (0, 0))) → K (a.put o.dst v') w') : o.wp Try.prog a w K Q := by
  obtain ⟨v', w', hrun, h1, h2, h3, h4⟩ := run_append_eqs o.type base v L M hR oa m c hV hc hm hbase
  unfold Oper.wp execOp
  simp only [ho, resolve, invoke, builtin, Sem.run_bind, Sem.run_pure, Result.andThen_ok, List.map_toArray, List.map_cons, List.map_nil, hs, hx, hrun]
  exact h v' w' h1 h2 h3 h4
theorem wpList_append_eqs {w : World} {ops : Array Oper} {rest : List Oper} {o : Oper} {a : Act} {Q : Exit → Act → World → Prop} (hgd : o.guard = none) (s x : Operand)
    (ho : o.op = .call { callee := .builtin .append, args := #[s, x], argTypes := #[22, 22] }) (base : Nat) (v : Value) (L M : List Eqn) (hs : a.eval s = v) (hR : EqsO base w v L)
    (oa : Option Addr) (m c : Nat) (hx : a.eval x = .slice oa m c) (hV : EqsV base w oa m M) (hc : oa = none → c = 0) (hm : L.length + m ≤ 100000) (hbase : base ≤ w.heap.size)
    (h : ∀ v' w', EqsO base w' v' (L ++ M) → (∀ w0, Gr w0 w → w0.heap.size ≤ base → Gr w0 w') → w.grownBy w' v.ownBlock → (∀ t : TypeId, t ≠ 27 → ∀ g, v.ownBlock = some g → base ≤ g ∧ ∀ cur, w.heap[g]? ≠ some (.cells cur t (0, 0))) → wpList Try.prog ops Q rest (a.put o.dst v') w') : wpList Try.prog ops Q (o :: rest) a w :=
  wpList_plain hgd fun _ hK => wp_append_eqs s x ho base v L M hs hR oa m c hx hV hc hm hbase fun v' w' h1 h2 h3 h4 => hK _ _ (h v' w' h1 h2 h3 h4)
theorem step_append_eqs {w : World} {ops : Array Oper} {o : Oper} {a : Act} {K : Act → World → Prop} {Q : Exit → Act → World → Prop} {E : Prop} (hgd : o.guard = none) (s x : Operand)
    (ho : o.op = .call { callee := .builtin .append, args := #[s, x], argTypes := #[22, 22] }) (base : Nat) (v : Value) (L M : List Eqn) (hs : a.eval s = v) (hR : EqsO base w v L)
    (oa : Option Addr) (m c : Nat) (hx : a.eval x = .slice oa m c) (hV : EqsV base w oa m M) (hc : oa = none → c = 0) (hm : L.length + m ≤ 100000) (hbase : base ≤ w.heap.size)
    (h : ∀ v' w', EqsO base w' v' (L ++ M) → (∀ w0, Gr w0 w → w0.heap.size ≤ base → Gr w0 w') → w.grownBy w' v.ownBlock → K (a.put o.dst v') w') :
    if Region.wanted o (yielded ops a.tmps) = true then Oper.wp Try.prog o a w K Q else E := by
  have hw : Region.wanted o (yielded ops a.tmps) = true := by simp [Region.wanted, hgd]
  rw [if_pos hw]
  exact wp_append_eqs s x ho base v L M hs hR oa m c hx hV hc hm hbase fun v' w' h1 h2 h3 _ => h v' w' h1 h2 h3
theorem EqsV.single {base g : Nat} {w : World} {uc ud : Value} {q : Eqn} (hc : w.cell? ⟨g, 0, none⟩ = some uc) (hd : w.cell? ⟨g, 1, none⟩ = some ud) (h : EqVal base w uc ud q) : EqsV base w (some ⟨g, 0, none⟩) 1 [q] := by
  refine ⟨rfl, (fun e => by cases e), [uc, ud], rfl, fun ad ha j u hj => ?_, fun i hi => ?_⟩
  · cases ha
    match j, hj with
    | 0, hj =>
      obtain rfl : uc = u := by simpa using hj
      exact hc
    | 1, hj =>
      obtain rfl : ud = u := by simpa using hj
      exact hd
    | j + 2, hj => simp at hj
  · obtain rfl : i = 0 := by omega
    exact h
theorem EqVal.mono {base base' : Nat} {w : World} {uc ud : Value} {q : Eqn} (h : EqVal base w uc ud q) (hb : base ≤ base') : EqVal base' w uc ud q :=
  ⟨h.1, fun a n c e hm => (h.2.1 a n c e hm).imp (fun hl => Nat.lt_of_lt_of_le hl hb) id, h.2.2.1, fun a n c e hm => (h.2.2.2 a n c e hm).imp (fun hl => Nat.lt_of_lt_of_le hl hb) id⟩
theorem EqsV.mono {base base' m : Nat} {w : World} {oa : Option Addr} {L : List Eqn} (h : EqsV base w oa m L) (hb : base ≤ base') : EqsV base' w oa m L := by
  obtain ⟨h1, h2, us, h3, h4, h5⟩ := h
  exact ⟨h1, h2, us, h3, h4, fun i hi => (h5 i hi).mono hb⟩
/-- The rows from k on. -/
theorem EqsV.drop {base m : Nat} {w : World} {b : Addr} {L : List Eqn} (h : EqsV base w (some b) m L) (k : Nat) : EqsV base w (some (b.add (k * 2))) (m - k) (L.drop k) := by
  obtain ⟨h1, h2, us, h3, h4, h5⟩ := h
  refine ⟨by rw [List.length_drop, h1], (fun e => by cases e), us.drop (k * 2), by rw [List.length_drop, h3]; omega, fun ad ha j u hu => ?_, fun i hi => ?_⟩
  · cases ha
    rw [Addr.add_add']
    rw [List.getElem?_drop] at hu
    exact h4 b rfl _ u hu
  · rw [List.getD_eq_getElem?_getD, List.getD_eq_getElem?_getD, List.getD_eq_getElem?_getD, List.getElem?_drop, List.getElem?_drop, List.getElem?_drop, ← List.getD_eq_getElem?_getD, ← List.getD_eq_getElem?_getD, ← List.getD_eq_getElem?_getD]
    have := h5 (k + i) (by omega)
    rw [show (k + i) * 2 = k * 2 + i * 2 from by omega, Nat.add_assoc] at this
    exact this
end Go.Proofs.Ytjibmgdafpempaa
namespace Go.Proofs.Ytjibmgdafpempaa
open Go.RowKit

/-- A Field that has its tables. -/
def Fd (w : World) (f : Value) : Prop := ∃ b, f = .pointer (some ⟨b, 0, none⟩) ∧ FieldAt w b
theorem Fd.grown {w w' : World} {f : Value} (h : Fd w f) (hg : Gr w w') : Fd w' f := by
  obtain ⟨b, h1, h2⟩ := h
  exact ⟨b, h1, FieldAt.grown h2 hg⟩
theorem New.of_blk {w w' : World} {g n : Nat} {l : List Int} (hg : Gr w w') (hb : ∀ x ∈ l, Byt x) (hs : w.heap.size ≤ g) (hk : Blk w' g l) (hl : l.length = n) (hn : n ≤ 1000000) : New w w' (.slice (some ⟨g, 0, none⟩) n n) l := by
  subst hl
  exact ⟨hg, hb, Or.inr ⟨g, l.length, rowB l, rfl, hs, hk, Nat.le_refl _, by omega, fun i hi => rowB_get l i hi⟩⟩
theorem New.nought {w w' : World} (hg : Gr w w') : New w w' (.slice none 0 0) [] := ⟨hg, by simp, Or.inl ⟨rfl, none, 0, rfl, fun _ => rfl, by omega⟩⟩
theorem New.made0 {w w' : World} {g : Nat} (hg : Gr w w') : New w w' (.slice (some ⟨g, 0, none⟩) 0 0) [] := ⟨hg, by simp, Or.inl ⟨rfl, _, 0, rfl, fun _ => rfl, by omega⟩⟩
theorem Making.drawn {w wr : World} {g n k : Nat} {f : Nat → Int} (h : Making w g n f k wr) (d : Nat) : Making w g n f k (wr.drewN d) := by
  obtain ⟨h1, h2, h3⟩ := h
  exact ⟨h1, h2, h3⟩
def sumF (x y : List Int) : Nat → Int := fun i => addZ (x.getD i 0) (y.getD i 0)
theorem sumF_byt {x y : List Int} {n : Nat} (hx : ∀ i, Byt (x.getD i 0)) (hy : ∀ i, Byt (y.getD i 0)) : ∀ z ∈ lst n (sumF x y), Byt z := lst_byt fun i _ => addZ_byt (hx i) (hy i)

set_option maxHeartbeats 400000 in
theorem sum_core (a b : Addr) (n ca cb : Nat) (x y : List Int) (w : World) (hx : ∀ i, Byt (x.getD i 0)) (hy : ∀ i, Byt (y.getD i 0)) (hn : n ≤ 1000000)
    (hxc : ∀ i, i < n → w.cell? (a.add i) = some (.int .u8 (x.getD i 0))) (hyc : ∀ i, i < n → w.cell? (b.add i) = some (.int .u8 (y.getD i 0))) :
    Calls Try.prog 35 #[.slice (some a) n ca, .slice (some b) n cb] w fun e w' => ∃ v, e = .returned (.tuple #[v, .bool true]) ∧ New w w' v (lst n (sumF x y)) := by
  have HXB := Lib.hid hx
  have HYB := Lib.hid hy
  have HX := Lib.hid hxc
  have HY := Lib.hid hyc
  have hmk := make22 n n (by omega) (by omega)
  clear hx hy hxc hyc
  have HB : Hid (Making w w.heap.size n (sumF x y) 0 (w.alloc (.cells (rowB (List.replicate n 0)) 5))) :=
    Lib.hid ⟨Gr.alloc (Gr.refl _) _ _, Nat.le_refl _, by rw [← part_nil]; exact heap_alloc_new _ _⟩
  generalize rowB (List.replicate n 0) = cur at *
  go_enter Try.func35, Try.ntmps35
  go_wp2
  clear hmk
  generalize hW : w.alloc (.cells cur 5) = W at *
  generalize hG : w.heap.size = g at *
  go_loopw [19] (fun i wr => ∃ k : Nat, k ≤ n ∧ i = .int .i64 k ∧ Making w g n (sumF x y) k wr) (fun i _ => n - (intOf i).toNat)
  case atStart => exact ⟨0, by omega, rfl, HB.out⟩
  case round =>
    clear HB
    obtain ⟨k, hk, rfl, hm⟩ := hrel
    obtain ⟨hg, hge, hblk⟩ := hm
    by_cases hlt : k < n
    · have q1 := cell_grown hg (HX.out k hlt)
      have q2 := cell_grown hg (HY.out k hlt)
      have q3 := Blk.cell hblk k (by rw [lst_length]; exact hlt)
      have q4 := frozen_of_row wr g k _ _ hblk
      have n1 : a.add k ≠ ⟨g, k, none⟩ := far_of hge (HX.out k hlt)
      have n2 : b.add k ≠ ⟨g, k, none⟩ := far_of hge (HY.out k hlt)
      have M0 : Hid (Making w g n (sumF x y) k wr) := Lib.hid ⟨hg, hge, hblk⟩
      have E : Hid (addZ (x.getD k 0) (y.getD k 0) = sumF x y k) := Lib.hid rfl
      have hp := HXB.out k
      have hq := HYB.out k
      clear hg hge hblk
      generalize (lst n (part (sumF x y) k)).getD k 0 = old at *
      generalize x.getD k 0 = p at *
      generalize y.getD k 0 = q at *
      go_wp2
      go_region_held3 (fun W => W.cell? (a.add k) = some (.int .u8 p) ∧ W.cell? (b.add k) = some (.int .u8 q)) (first | exact ⟨cell_set_far q1 n1, cell_set_far q2 n2⟩ | go_keep)
        (first | (go_at_call 37; refine (add_any _ p q hp hq _).mono ?_; rintro e w' ⟨rfl, rfl⟩))
      have E2 : ((p.toNat ^^^ q.toNat : Nat) : Int) = sumF x y k := E.out
      rw [E2]
      go_wp2
      exact ⟨⟨k + 1, by omega, by go_num, Making.drew (Making.store M0.out)⟩, by simp [intOf]; omega⟩
    · obtain rfl : k = n := by omega
      rw [part_all] at hblk
      have G := Lib.hid hg
      have K := Lib.hid hblk
      clear hg hblk
      go_wp2
      go_ret2
      exact ⟨_, rfl, New.of_blk G.out (sumF_byt HXB.out HYB.out) hge K.out (lst_length _ _) hn⟩

def axF (c : Int) (x y : List Int) : Nat → Int := fun i => addZ (y.getD i 0) (mulZ c (x.getD i 0))
theorem axF_byt {c : Int} {x y : List Int} {n : Nat} (hy : ∀ i, Byt (y.getD i 0)) : ∀ z ∈ lst n (axF c x y), Byt z := lst_byt fun i _ => addZ_byt (hy i) (mulZ_byt _ _)
theorem cell_set_farN {W : World} {x y : Addr} {v u : Value} {d : Nat} (h : W.cell? x = some u) (hne : x ≠ y) : ((W.drewN d).setCell y v).drew.cell? x = some u := cell_set_far (by exact h) hne
def scF (c : Int) (x : List Int) : Nat → Int := fun i => mulZ c (x.getD i 0)
set_option maxHeartbeats 400000 in
theorem lead_core (a : Addr) (n ca : Nat) (x : List Int) (w : World) (hl : x.length = n) (hn : n ≤ 1000000)
    (hxc : ∀ i, i < n → w.cell? (a.add i) = some (.int .u8 (x.getD i 0))) :
    Calls Try.prog 32 #[.slice (some a) n ca] w fun e w' => e = .returned (.int .i64 (leadL x)) ∧ Gr w w' := by
  have HX := Lib.hid hxc
  have HL := Lib.hid hl
  clear hxc hl
  go_enter Try.func32, Try.ntmps32
  go_wp2
  go_loop [7] (fun i => ∃ k : Nat, k ≤ n ∧ i = .int .i64 k ∧ (∀ j, j < k → x.getD j 0 = 0)) (fun i => n - (intOf i).toNat)
  case atStart => exact ⟨0, by omega, rfl, by omega⟩
  case round =>
    obtain ⟨k, hk, rfl, hs⟩ := hrel
    have S := Lib.hid hs
    clear hs
    by_cases hlt : k < n
    · have q1 := HX.out k hlt
      by_cases hz : x.getD k 0 = 0
      · rw [hz] at q1
        have Z := Lib.hid hz
        clear hz
        go_wp2
        refine ⟨⟨k + 1, by omega, by go_num, fun j hj => ?_⟩, by simp [intOf]; omega⟩
        by_cases e : j = k
        · rw [e, Z.out]
        · exact S.out j (by omega)
      · have E : Hid (leadL x = k) := Lib.hid (leadL_at x k (by rw [HL.out]; exact hlt) S.out hz)
        have hb : (x.getD k 0 != 0) = true := by simpa using hz
        clear hz
        generalize x.getD k 0 = p at *
        go_wp2
        go_ret
        exact ⟨by rw [E.out]; rfl, Gr.refl _⟩
    · obtain rfl : k = n := by omega
      go_wp2
      go_ret
      exact ⟨by rw [leadL_none x (by rw [HL.out]; exact S.out)]; rfl, Gr.refl _⟩
set_option maxHeartbeats 400000 in
theorem lead_none (oa : Option Addr) (ca : Nat) (w : World) :
    Calls Try.prog 32 #[.slice oa 0 ca] w fun e w' => e = .returned (.int .i64 (-1)) ∧ Gr w w' := by
  go_enter Try.func32, Try.ntmps32
  go_wp2
  go_loop [7] (fun i => i = .int .i64 0) (fun _ => 0)
  case atStart => exact rfl
  case round =>
    subst hrel
    go_wp2
    go_ret
    exact ⟨rfl, Gr.refl _⟩

set_option maxHeartbeats 400000 in
theorem sum_none (oa ob : Option Addr) (ca cb : Nat) (w : World) :
    Calls Try.prog 35 #[.slice oa 0 ca, .slice ob 0 cb] w fun e w' => ∃ v, e = .returned (.tuple #[v, .bool true]) ∧ New w w' v [] := by
  have hmk : ∀ w, (Instr.makeSlice 24 (.int .i64 0) (.int .i64 0)).run Try.prog w = .ok (.slice (some ⟨w.heap.size, 0, none⟩) 0 0) (w.alloc (.cells (rowB []) 5)) := fun w => make22 0 0 (by omega) (by omega) w
  generalize rowB [] = cur at *
  go_enter Try.func35, Try.ntmps35
  go_wp2
  clear hmk
  go_loopw [19] (fun i wr => i = .int .i64 0 ∧ wr = w.alloc (.cells cur 5)) (fun _ _ => 0)
  case atStart => exact ⟨rfl, rfl⟩
  case round =>
    obtain ⟨rfl, rfl⟩ := hrel
    go_wp2
    go_ret2
    exact ⟨_, rfl, New.made0 (Gr.alloc (Gr.refl _) _ _)⟩
set_option maxHeartbeats 400000 in
theorem sum_ne (oa ob : Option Addr) (n m ca cb : Nat) (w : World) (h : m ≠ n) :
    Calls Try.prog 35 #[.slice oa n ca, .slice ob m cb] w fun e w' => ∃ v, e = .returned (.tuple #[v, .bool false]) ∧ New w w' v [] := by
  have hb : ((n : Int) != (m : Int)) = true := by simpa using (by omega : (n : Int) ≠ m)
  clear h
  go_enter Try.func35, Try.ntmps35
  go_wp2
  go_ret2
  exact ⟨_, rfl, New.nought (Gr.refl _)⟩
theorem unitL_set (n k : Nat) : (List.replicate n (0 : Int)).set k 1 = unitL n k := by
  unfold unitL lst
  apply List.ext_getElem
  · simp
  intro j h1 h2
  simp only [List.getElem_set, List.getElem_replicate, List.getElem_map, List.getElem_range]
  by_cases e : k = j
  · rw [if_pos e, if_pos e.symm]
  · rw [if_neg e, if_neg (fun c => e c.symm)]
theorem unitL_byt (n k : Nat) : ∀ z ∈ unitL n k, Byt z := lst_byt fun i _ => by
  unfold Byt
  split <;> omega
theorem lst_eq_sum (x y : List Int) : lst x.length (sumF x y) = sumL x y := rfl
theorem lst_eq_ax (c : Int) (x y : List Int) : lst x.length (axF c x y) = axL c x y := rfl
theorem lst_eq_sc (c : Int) (x : List Int) : lst x.length (scF c x) = scaleL c x := rfl
theorem ok_sum : ∀ (va vb : Value) (x y : List Int) (w : World), Bs w va x → Bs w vb y → x.length ≤ 1000000 → y.length = x.length →
    Calls Try.prog 35 #[va, vb] w fun e w' => ∃ v, e = .returned (.tuple #[v, .bool true]) ∧ New w w' v (sumL x y) :=
  fun va vb x y w ha hb hn hl => by
    rw [← lst_eq_sum]
    by_cases h0 : 0 < x.length
    · obtain ⟨a, ca, rfl, _, _, h3⟩ := Bs.at ha h0
      obtain ⟨b, cb, rfl, _, _, h6⟩ := Bs.at hb (by omega)
      rw [hl] at h6 ⊢
      exact sum_core a b x.length ca cb x y w (Bs.byt ha) (Bs.byt hb) hn h3 h6
    · obtain rfl : x = [] := List.eq_nil_of_length_eq_zero (by omega)
      obtain rfl : y = [] := List.eq_nil_of_length_eq_zero hl
      obtain ⟨_, oa, ca, rfl, _, _, _, _⟩ := ha
      obtain ⟨_, ob, cb, rfl, _, _, _, _⟩ := hb
      exact sum_none oa ob ca cb w
theorem ok_sumNe : ∀ (va vb : Value) (x y : List Int) (w : World), Bs w va x → Bs w vb y → x.length ≤ 1000000 → y.length ≤ 1000000 → y.length ≠ x.length →
    Calls Try.prog 35 #[va, vb] w fun e w' => ∃ v, e = .returned (.tuple #[v, .bool false]) ∧ New w w' v [] :=
  fun va vb x y w ha hb _ _ hl => by
    obtain ⟨_, oa, ca, rfl, _, _, _, _⟩ := ha
    obtain ⟨_, ob, cb, rfl, _, _, _, _⟩ := hb
    exact sum_ne oa ob _ _ ca cb w hl
theorem ok_lead : ∀ (va : Value) (x : List Int) (w : World), Bs w va x → x.length ≤ 1000000 →
    Calls Try.prog 32 #[va] w fun e w' => e = .returned (.int .i64 (leadL x)) ∧ Gr w w' :=
  fun va x w ha hn => by
    by_cases h0 : 0 < x.length
    · obtain ⟨a, ca, rfl, _, _, h3⟩ := Bs.at ha h0
      exact lead_core a x.length ca x w rfl hn h3
    · obtain rfl : x = [] := List.eq_nil_of_length_eq_zero (by omega)
      obtain ⟨_, oa, ca, rfl, _, _, _, _⟩ := ha
      exact lead_none oa ca w
end Go.Proofs.Ytjibmgdafpempaa
