/-
  Texts laid behind one another: Jk Ap Jb Yi Hd Yd Nc.
-/
import Derived.Test.YtbbglejdfbkjlaaGreatMbad
import Derived.Test.YtbbglejdfbkjlaaGreatMbab
import Derived.Laws.AppendOwnNone
import Derived.Deep.AppendLies
import Derived.Deep.RegionHeld3
import Derived.Deep.CutBlock
import Derived.Test.YtbbglejdfbkjlaaGreatMbaa
import Derived.BigRegion
import Derived.Deep.RegionLaw
import Derived.Deep.DeepCutAuto
import Derived.Test.YtbbglejdfbkjlaaGreatProg
import Derived.Laws.CopyOwn
namespace Go.Proofs.YtbbglejdfbkjlaaGreat
open Go.RowKit
theorem same_rows {K H S seed : Nat} (hm : MayP K H S) (i : Int) (hi : MayI i) (l : List Int) : L.Same ((matP K H S seed (i :: l)).map vec) (vec (rowP K H S seed i) :: (matP K H S seed l).map vec) := L.Same.of_mem fun x => by
 rw [List.mem_cons]
 constructor
 ·intro hx
  obtain ⟨r, hr, rfl⟩ := List.mem_map.1 hx
  rcases (matP_mem hm).1 hr with hr | ⟨j, h1, h2, rfl⟩
  ·exact .inr (List.mem_map.2 ⟨r, (matP_mem hm).2 (.inl hr), rfl⟩)
  ·rcases List.mem_cons.1 h1 with rfl | h1
   ·exact .inl rfl
   ·exact .inr (List.mem_map.2 ⟨_, (matP_mem hm).2 (.inr ⟨j, h1, h2, rfl⟩), rfl⟩)
 ·rintro (rfl | hx)
  ·exact List.mem_map.2 ⟨_, (matP_mem hm).2 (.inr ⟨i, by simp, hi, rfl⟩), rfl⟩
  ·obtain ⟨r, hr, rfl⟩ := List.mem_map.1 hx
   refine List.mem_map.2 ⟨r, ?_, rfl⟩
   rcases (matP_mem hm).1 hr with hr | ⟨j, h1, h2, h3⟩
   ·exact (matP_mem hm).2 (.inl hr)
   ·exact (matP_mem hm).2 (.inr ⟨j, by simp [h1], h2, h3⟩)
theorem bent_exists {K H S seed : Nat} {Y : List Symb} {M : List (List Int)} (hm : MayP K H S) (h : IsMidY K H S seed Y M) (hY : ∀ i ∈ idsY Y, MayI i) {q : Symb} (hq : MayI q.i) (hl : q.d.length = S)
  (hf : FullP K H S seed (q.i :: idsY Y)) (hn : ¬ FullP K H S seed (idsY Y)) : ∃ M', IsMidY K H S seed (q :: Y) M' := by
 have hw := matP_wide hm seed (idsY Y)
 have hA := hw.supp
 have hv : L.Supp (K + H) (vec (rowP K H S seed q.i)) := vec_supp (rowP_wide hm hq seed).1
 have h1 := fullP_rk hf
 unfold rkL at h1
 rw [L.rk_same (same_rows hm q.i hq (idsY Y))] at h1
 have h2 : L.rk ((matP K H S seed (idsY Y)).map vec) ≠ K + H := fun c => hn (fullP_of_rk hm c)
 have h3 := L.rk_cons hA hv
 have h4 : ¬ L.Sp ((matP K H S seed (idsY Y)).map vec) (vec (rowP K H S seed q.i)) := fun c => h2 (by rw [← h3.1 c]; exact h1)
 have h5 := h3.2 h4
 obtain ⟨R, hR, hlen⟩ := L.red_exists hA
 have hs := L.red_supp hR hA
 have hBs : ∀ x ∈ L.rows R ++ [vec (rowP K H S seed q.i)], L.Supp (K + H) x := fun x hx => by
  rcases List.mem_append.1 hx with hx | hx
  ·exact hs x hx
  ·obtain rfl : x = _ := by simpa using hx
   exact hv
 have hBl : (L.rows R ++ [vec (rowP K H S seed q.i)]).length = K + H := by
  have : (L.rows R).length = R.length := List.length_map _
  rw [List.length_append, this, List.length_singleton]
  omega
 have hBr : L.rk (L.rows R ++ [vec (rowP K H S seed q.i)]) = K + H := by
  rw [← h1]
  refine L.rk_same (L.Same.trans (L.Same.of_mem fun x => ?_) (L.Same.cons hR.2 _))
  simp only [List.mem_append, List.mem_cons, List.not_mem_nil, or_false]
  exact Or.comm
 have hCs : ∀ x ∈ (L.rows R).map (fun a => L.lc a (M.map vec)) ++ [vec q.d], L.Supp S x := fun x hx => by
  rcases List.mem_append.1 hx with hx | hx
  ·obtain ⟨a, _, rfl⟩ := List.mem_map.1 hx
   exact L.lc_supp h.wide.supp a
  ·obtain rfl : x = _ := by simpa using hx
   exact vec_supp hl
 obtain ⟨X, x1, x2, x3⟩ := L.square hBs hBl hBr (C := (L.rows R).map (fun a => L.lc a (M.map vec)) ++ [vec q.d]) (by
   rw [List.length_append, List.length_map, ← hBl, List.length_append]
   rfl) hCs
 obtain ⟨M', m1, m2⟩ := vecs_back (S := S) X x2
 unfold L.mulM at x3
 rw [List.map_append, List.map_singleton] at x3
 obtain ⟨x4, x5⟩ := List.append_inj x3 (by simp)
 rw [← m2] at x4 x5
 have h6 : ∀ a ∈ L.rows R, L.lc a (M'.map vec) = L.lc a (M.map vec) := fun a ha => List.map_inj_left.1 x4 a ha
 have h7 : ∀ r ∈ matP K H S seed (idsY Y), L.lc (vec r) (M'.map vec) = L.lc (vec r) (M.map vec) := fun r hr =>
  L.lc_span_eq h6 ((hR.2 _).2 (L.Sp.mem (List.mem_map.2 ⟨r, hr, rfl⟩)))
 refine ⟨M', by rw [← x1, ← m2, List.length_map], m1, fun r hr => ?_, fun p hp => ?_⟩
 ·rw [h7 r ((matP_mem hm).2 (.inl hr)), h.ahead r hr]
 ·rcases List.mem_cons.1 hp with rfl | hp
  ·simpa using x5
  ·have hpi : p.i ∈ idsY Y := List.mem_map.2 ⟨p, hp, rfl⟩
   rw [h7 _ ((matP_mem hm).2 (.inr ⟨p.i, hpi, hY _ hpi, rfl⟩)), h.rows p hp]
theorem firstI_mem {n : Nat} {i : Int} : i ∈ firstI n ↔ 0 ≤ i ∧ i < n := by
 unfold firstI
 rw [List.mem_map]
 constructor
 ·rintro ⟨a, h1, rfl⟩
  have := List.mem_range.1 h1
  omega
 ·intro h
  exact ⟨i.toNat, List.mem_range.2 (by omega), by omega⟩
theorem set_symY {K H S seed n k : Nat} {M : List (List Int)} (hk : k < n) (d : List Int) {oth : List Int} (ho : ∀ i : Int, i ∈ oth ↔ i ∈ firstI n ∧ i ≠ (k : Int)) (q : Symb) :
  q ∈ (symY K H S seed M (firstI n)).set k ⟨k, d⟩ ↔ q ∈ (⟨k, d⟩ : Symb) :: symY K H S seed M oth := by
 have hlen : (symY K H S seed M (firstI n)).length = n := by rw [symY_length, firstI_length]
 have hat : ∀ j, j < n → (symY K H S seed M (firstI n))[j]? = some ⟨(j : Int), symP K H S seed M j⟩ := fun j hj => by
  unfold symY firstI
  rw [List.getElem?_map, List.getElem?_map, List.getElem?_range hj]
  rfl
 rw [List.mem_cons]
 constructor
 ·intro h
  obtain ⟨j, hj, rfl⟩ := List.getElem_of_mem h
  rw [List.length_set, hlen] at hj
  rw [List.getElem_set]
  by_cases e : k = j
  ·rw [if_pos e]
   exact .inl rfl
  ·rw [if_neg e]
   right
   have h1 := hat j hj
   rw [List.getElem?_eq_getElem (by rw [hlen]; exact hj)] at h1
   rw [Option.some.inj h1]
   exact List.mem_map.2 ⟨(j : Int), (ho j).2 ⟨firstI_mem.2 (by omega), by omega⟩, rfl⟩
 ·rintro (rfl | h)
  ·exact List.mem_iff_getElem?.2 ⟨k, by rw [List.getElem?_set_self (by rw [hlen]; exact hk)]⟩
  ·obtain ⟨i, hi, rfl⟩ := List.mem_map.1 h
   obtain ⟨h1, h2⟩ := (ho i).1 hi
   have h3 := firstI_mem.1 h1
   refine List.mem_iff_getElem?.2 ⟨i.toNat, ?_⟩
   rw [List.getElem?_set_ne (by omega), hat i.toNat (by omega), show ((i.toNat : Nat) : Int) = i from by omega]
theorem dec_clash {K H S seed n k : Nat} {D : List Int} {M : List (List Int)} (hr : RightP K H S seed) (h : IsMid K H S seed D M) (hKn : K ≤ n) (hn : n ≤ 1000) (hk : k < n) {d : List Int} (hdl : d.length = S) (hdb : ∀ z ∈ d, Byt z)
  {oth : List Int} (ho : ∀ i : Int, i ∈ oth ↔ i ∈ firstI n ∧ i ≠ (k : Int)) {e : Int} {out : List Int} (hs : DecSays K H S seed ((symY K H S seed M (firstI n)).set k ⟨k, d⟩) e out) :
  ((d ≠ symP K H S seed M k ∧ FullP K H S seed oth) → e = 10 ∧ out = []) ∧ (¬ (d ≠ symP K H S seed M k ∧ FullP K H S seed oth) → e = 0 ∧ out.length = K * S) := by
 have hm := hr.1
 have hs := hs.congr (Y' := ⟨k, d⟩ :: symY K H S seed M oth) (set_symY hk d ho)
 have hki : MayI (k : Int) := may_of_lt hn hk
 have hoi : ∀ i ∈ oth, MayI i := fun i hi => firstI_may hn i ((ho i).1 hi).1
 have hA : AllY K H S (⟨k, d⟩ :: symY K H S seed M oth) := ⟨hm, fun q hq => by
   rcases List.mem_cons.1 hq with rfl | hq
   · exact ⟨hki, by show ((d.length : Nat) : Int) = S; rw [hdl]⟩
   · exact (symY_all (seed := seed) hm h.wide h.len hoi).2 q hq⟩
 have hids : idsY (⟨k, d⟩ :: symY K H S seed M oth) = (k : Int) :: oth := by
  show (k : Int) :: idsY (symY K H S seed M oth) = _
  rw [symY_ids]
 have hF : FullP K H S seed ((k : Int) :: oth) := by
  unfold RightP at hr
  rw [Int.toNat_natCast] at hr
  refine fullP_mono (fun i _ hi => ?_) hr
  have h1 := firstI_mem.1 hi
  by_cases c : i = (k : Int)
  ·rw [c]
   simp
  ·exact List.mem_cons_of_mem _ ((ho i).2 ⟨firstI_mem.2 (by omega), c⟩)
 have hsym := sym_is (seed := seed) hm h.wide h.len hki
 have hy := h.midY hm hoi
 unfold DecSays at hs
 rw [hids, Int.toNat_natCast, Int.toNat_natCast, Int.toNat_natCast] at hs
 rcases hs with ⟨a1, _⟩ | ⟨_, a0, _⟩ | ⟨_, _, a2, M', a3, a4⟩ | ⟨_, _, a2, a3, a4⟩
 ·exact absurd hA a1
 ·exact absurd hF a0
 ·refine ⟨fun ⟨c1, c2⟩ => absurd ?_ c1, fun _ => ⟨a2, by rw [a4, outY_length hm a3.wide a3.len]⟩⟩
  have h8 : IsMidY K H S seed (symY K H S seed M oth) M' := ⟨a3.len, a3.wide, a3.ahead, fun q hq => a3.rows q (by simp [hq])⟩
  have h9 : M' = M := IsMidY.unique (by rw [symY_ids]; exact c2) h8 hy
  have h10 := a3.rows ⟨k, d⟩ (by simp)
  rw [h9] at h10
  exact vec_inj (by rw [hdl, hsym.1]) hdb hsym.2.1 (by rw [hsym.2.2, ← h10])
 ·refine ⟨fun _ => ⟨a2, a3⟩, fun c => absurd ?_ a4⟩
  by_cases hd : d = symP K H S seed M k
  ·refine ⟨M, h.len, h.wide, h.aheadRow hm, fun q hq => ?_⟩
   rcases List.mem_cons.1 hq with rfl | hq
   ·rw [hd]
    exact hsym.2.2.symm
   ·exact hy.rows q hq
  ·exact bent_exists hm hy (by rw [symY_ids]; exact hoi) (q := ⟨k, d⟩) hki hdl (by rw [symY_ids]; exact hF) (by rw [symY_ids]; exact fun c2 => c ⟨hd, c2⟩)
def srcY (S : Nat) (D : List Int) (l : List Nat) : List Symb := l.map fun i : Nat => ⟨(i : Int), srcL S D i⟩
theorem srcY_snoc (S : Nat) (D : List Int) (l : List Nat) (i : Nat) : srcY S D (l ++ [i]) = srcY S D l ++ [⟨(i : Int), srcL S D i⟩] := by simp [srcY]
theorem srcY_all {K H S : Nat} {D : List Int} (hm : MayP K H S) (hD : D.length = K * S) {l : List Nat} (hl : ∀ i ∈ l, i < K) : AllY K H S (srcY S D l) := ⟨hm, fun q hq => by
  obtain ⟨i, hi, rfl⟩ := List.mem_map.1 hq
  exact ⟨may_of_lt (by unfold MayP at hm; omega) (hl i hi), by show (((srcL S D i).length : Nat) : Int) = S; rw [srcL_length hD (hl i hi)]⟩⟩
theorem dec_all {K H S seed : Nat} {D : List Int} (hr : RightP K H S seed) (hD : D.length = K * S) (hb : ∀ z ∈ D, Byt z) {e : Int} {out : List Int} (hs : DecSays K H S seed (srcY S D (List.range K)) e out) : e = 0 ∧ out = D := by
 have hm := hr.1
 have hK : K ≤ 1000 := by unfold MayP at hm; omega
 obtain ⟨M, h⟩ := mid_exists hr hD hb
 have e1 : srcY S D (List.range K) = symY K H S seed M (firstI K) := by
  unfold srcY symY firstI
  rw [List.map_map]
  refine List.map_congr_left fun i hi => ?_
  show (⟨(i : Int), srcL S D i⟩ : Symb) = ⟨(i : Int), symP K H S seed M (i : Int)⟩
  rw [h.first hm hD hb (List.mem_range.1 hi)]
 rw [e1] at hs
 have hF := hr
 unfold RightP at hF
 rw [Int.toNat_natCast] at hF
 exact (dec_back hm h hD hb (firstI_may hK) hs).1 hF
theorem dec_less {K H S seed : Nat} {D : List Int} (hm : MayP K H S) (hD : D.length = K * S) {l : List Nat} (hl : ∀ i ∈ l, i < K) (hn : l.length < K) {e : Int} {out : List Int} (hs : DecSays K H S seed (srcY S D l) e out) : e = 9 ∧ out = [] := by
 have hids : (idsY (srcY S D l)).length = l.length := by simp [idsY, srcY]
 have hno : ¬ FullP K H S seed (idsY (srcY S D l)) := few_not hm (by rw [hids]; exact hn)
 rcases hs with ⟨a1, _⟩ | ⟨_, _, a2, a3⟩ | ⟨_, a0, _⟩ | ⟨_, a0, _⟩
 ·exact absurd (srcY_all hm hD hl) a1
 ·exact ⟨a2, a3⟩
 ·exact absurd a0 hno
 ·exact absurd a0 hno
def butN (k i : Nat) : List Nat := (List.range i).filter fun j => decide (j ≠ k)
theorem butN_succ (k i : Nat) : butN k (i + 1) = if i = k then butN k i else butN k i ++ [i] := by
 unfold butN
 rw [List.range_succ, List.filter_append]
 by_cases e : i = k
 ·rw [if_pos e]
  simp [e]
 ·rw [if_neg e]
  simp [e]
theorem butN_lt {k i : Nat} : ∀ j ∈ butN k i, j < i := fun _ hj => List.mem_range.1 (List.mem_filter.1 hj).1
theorem butN_le (k i : Nat) : (butN k i).length ≤ i := by
 have := List.length_filter_le (fun j => decide (j ≠ k)) (List.range i)
 unfold butN
 rw [List.length_range] at this
 exact this
theorem butN_less {k i : Nat} (h : k < i) : (butN k i).length < i := by
 have h1 : (butN k i).length < (List.range i).length := List.length_filter_lt_length_iff_exists.2 ⟨k, List.mem_range.2 h, by simp⟩
 rwa [List.length_range] at h1
theorem butN_mem {k i : Nat} {x : Int} : x ∈ (butN k i).map (fun j : Nat => (j : Int)) ↔ x ∈ firstI i ∧ x ≠ (k : Int) := by
 rw [List.mem_map, firstI_mem]
 unfold butN
 constructor
 ·rintro ⟨a, h1, rfl⟩
  obtain ⟨h2, h3⟩ := List.mem_filter.1 h1
  have := List.mem_range.1 h2
  have := of_decide_eq_true h3
  omega
 ·rintro ⟨⟨h1, h2⟩, h3⟩
  exact ⟨x.toNat, List.mem_filter.2 ⟨List.mem_range.2 (by omega), decide_eq_true (by omega)⟩, by omega⟩
end Go.Proofs.YtbbglejdfbkjlaaGreat
namespace Go.Proofs.YtbbglejdfbkjlaaGreat
open Go.RowKit
def Vals (w : World) (oa : Option Addr) (us : List Value) (L : List (List Int)) : Prop :=
 us.length = L.length ∧ (∀ ad, oa = some ad → ∀ j u, us[j]? = some u → w.cell? (ad.add j) = some u) ∧ (∀ i, i < L.length → Bs w (us.getD i undef) (L.getD i [])) ∧ ∀ u ∈ us, u.oneCell' = true
theorem Vals.grown {w w' : World} {oa : Option Addr} {us : List Value} {L : List (List Int)} (h : Vals w oa us L) (hg : Gr w w') : Vals w' oa us L :=
 ⟨h.1, fun ad ha j u hu => cell_grown hg (h.2.1 ad ha j u hu), fun i hi => Bs.grown (h.2.2.1 i hi) hg, h.2.2.2⟩
theorem Bss.vals {w : World} {oa : Option Addr} {n c : Nat} {L : List (List Int)} (h : Bss w (.slice oa n c) L) : ∃ us, Vals w oa us L := by
 obtain ⟨oa', c', he, h2, h3, h4, h5⟩ := h
 obtain ⟨rfl, rfl, rfl⟩ : oa = oa' ∧ n = L.length ∧ c = c' := by simpa using he
 cases oa with
 | none =>
  have : L = [] := List.eq_nil_of_length_eq_zero (by have := h4 rfl; omega)
  subst this
  exact ⟨[], rfl, (fun ad ha => by cases ha), (fun i hi => by simp at hi), by simp⟩
 | some a =>
  have hex : ∀ i, ∃ u, i < L.length → w.cell? (a.add i) = some u ∧ Bs w u (L.getD i []) := fun i => by
   by_cases hi : i < L.length
   ·obtain ⟨u, h⟩ := h5 a rfl i hi
    exact ⟨u, fun _ => h⟩
   ·exact ⟨undef, fun h => absurd h hi⟩
  have hf := fun i => Classical.choose_spec (hex i)
  have hget : ∀ i, i < L.length → ((List.range L.length).map fun i => Classical.choose (hex i)).getD i undef = Classical.choose (hex i) := fun i hi => by
   rw [List.getD_eq_getElem?_getD, List.getElem?_map, List.getElem?_range hi]
   rfl
  refine ⟨(List.range L.length).map fun i => Classical.choose (hex i), by simp, fun ad ha j u hu => ?_, fun i hi => ?_, fun u hu => ?_⟩
  ·cases ha
   rw [List.getElem?_map] at hu
   by_cases hj : j < L.length
   ·rw [List.getElem?_range hj] at hu
    simp at hu
    rw [← hu]
    exact (hf j hj).1
   ·rw [List.getElem?_eq_none (by simp; omega)] at hu
    cases hu
  ·rw [hget i hi]
   exact (hf i hi).2
  ·obtain ⟨i, hi, rfl⟩ := List.mem_map.1 hu
   obtain ⟨o, cc, he⟩ := ((hf i (List.mem_range.1 hi)).2).form
   rw [he]
   rfl
theorem owns_bss {base n : Nat} {w : World} {v : Value} {us : List Value} {L : List (List Int)} (ho : w.ownsRow base 25 1 v n us) (hl : L.length = n) (hr : ∀ i, i < L.length → Bs w (us.getD i undef) (L.getD i [])) : Bss w v L := by
 subst hl
 by_cases h0 : 0 < L.length
 ·obtain ⟨g, c, rfl, h1, h2, h3, h4, h5⟩ := ownsRow_cell ho h0
  refine ⟨some ⟨g, 0, none⟩, c, rfl, h1, by unfold maxLen at h2; omega, (fun h => by cases h), fun a ha i hi => ?_⟩
  cases ha
  rw [Addr.add_mid, Nat.zero_add]
  exact ⟨_, h5 i hi, hr i hi⟩
 ·have : L = [] := List.eq_nil_of_length_eq_zero (by omega)
  subst this
  obtain ⟨_, ⟨rfl, _⟩ | ⟨g, c, cur, rfl, _, _, _, h2, _⟩⟩ := ho
  ·exact Bss.nil w
  ·exact ⟨_, c, rfl, by simp, by unfold maxLen at h2; omega, (fun h => by cases h), fun a _ i hi => by simp at hi⟩
end Go.Proofs.YtbbglejdfbkjlaaGreat
namespace Go.Proofs.YtbbglejdfbkjlaaGreat
open Go.RowKit
theorem add_noughtY (a : Addr) : a.add 0 = a := by simp [Addr.add]
theorem Bs.block_lt {w : World} {v : Value} {l : List Int} (h : Bs w v l) {a : Addr} {n c : Nat} (e : v = .slice (some a) n c) (hm : 0 < n) : a.block < w.heap.size := by
 subst e
 obtain ⟨_, oa', c', he, h2, h3, h4, h5⟩ := h
 cases he
 have hz := h5 a rfl 0 hm
 rw [add_noughtY] at hz
 exact World.block_lt_of_cell? _ _ hz
theorem Rb.of_lt {w : World} {v : Value} {l : List Int} (h : Bs w v l) : Rb w.heap.size w v := fun a n c e hm => .inl (by
  subst e
  obtain ⟨_, oa', c', he, h2, h3, h4, h5⟩ := h
  cases he
  have hz := h5 a rfl 0 hm
  rw [add_noughtY] at hz
  exact World.block_lt_of_cell? _ _ hz)
def SyAt (w : World) (b o i : Nat) (q : Symb) : Prop := ∃ od nd cd, w.cell? ⟨b, o + i * 2, none⟩ = some (.int .i64 q.i) ∧ w.cell? ⟨b, o + i * 2 + 1, none⟩ = some (.slice od nd cd) ∧ I64 q.i ∧ Bs w (.slice od nd cd) q.d
theorem SyAt.grown {w w' : World} {b o i : Nat} {q : Symb} (h : SyAt w b o i q) (hg : Gr w w') : SyAt w' b o i q := by
 obtain ⟨od, nd, cd, h1, h2, h3, h4⟩ := h
 exact ⟨od, nd, cd, cell_gr hg h1, cell_gr hg h2, h3, h4.grown hg⟩
def Syms (w : World) (v : Value) (L : List Symb) : Prop :=
 ∃ oa c, v = .slice oa L.length c ∧ L.length ≤ c ∧ c ≤ 9223372036854775807 ∧ (oa = none → c = 0) ∧ (0 < L.length → ∃ b o, oa = some ⟨b, o, none⟩ ∧ ∀ i, i < L.length → SyAt w b o i (L.getD i noY))
theorem Syms.grown {w w' : World} {v : Value} {L : List Symb} (h : Syms w v L) (hg : Gr w w') : Syms w' v L := by
 obtain ⟨oa, c, h1, h2, h3, h4, h5⟩ := h
 refine ⟨oa, c, h1, h2, h3, h4, fun h0 => ?_⟩
 obtain ⟨b, o, q1, q2⟩ := h5 h0
 exact ⟨b, o, q1, fun i hi => (q2 i hi).grown hg⟩
theorem Syms.nil (w : World) : Syms w (.slice none 0 0) [] := ⟨none, 0, rfl, by simp, by omega, fun _ => rfl, fun h => by simp at h⟩
theorem Syms.form {w : World} {v : Value} {L : List Symb} (h : Syms w v L) : ∃ o c, v = .slice o L.length c := by
 obtain ⟨oa, c, h1, _⟩ := h
 exact ⟨oa, c, h1⟩
theorem Syms.lay {w : World} {oa : Option Addr} {m c : Nat} {L : List Symb} (h : Syms w (.slice oa m c) L) (hm : 0 < m) : ∃ b o, oa = some ⟨b, o, none⟩ ∧ ∀ i, i < m → SyAt w b o i (L.getD i noY) := by
 obtain ⟨oa', c', he, h2, h3, h4, h5⟩ := h
 obtain ⟨rfl, rfl, rfl⟩ : oa = oa' ∧ m = L.length ∧ c = c' := by simpa using he
 exact h5 hm
theorem Syms.at {w : World} {b o m c : Nat} {L : List Symb} (h : Syms w (.slice (some ⟨b, o, none⟩) m c) L) {i : Nat} (hi : i < m) : SyAt w b o i (L.getD i noY) := by
 obtain ⟨b', o', he, h2⟩ := h.lay (by omega)
 simp at he
 obtain ⟨rfl, rfl⟩ := he
 exact h2 i hi
theorem Syms.byt {w : World} {v : Value} {L : List Symb} (h : Syms w v L) : ∀ q ∈ L, ∀ z ∈ q.d, Byt z := fun q hq => by
 obtain ⟨i, hi, rfl⟩ := List.getElem_of_mem hq
 obtain ⟨oa, c, rfl, _, _, _, h5⟩ := h
 obtain ⟨b, o, _, h6⟩ := h5 (by omega)
 obtain ⟨_, _, _, _, _, _, h7⟩ := h6 i hi
 rw [List.getD_eq_getElem?_getD, List.getElem?_eq_getElem hi] at h7
 exact h7.1
theorem getD_memY {L : List Symb} {i : Nat} (h : i < L.length) : L.getD i noY ∈ L := by
 rw [List.getD_eq_getElem?_getD, List.getElem?_eq_getElem h]
 exact List.getElem_mem h
def SyVal (P : Nat → Prop) (base : Nat) (w : World) (uc ud : Value) (q : Symb) : Prop := uc = .int .i64 q.i ∧ I64 q.i ∧ Bs w ud q.d ∧ Rb base w ud ∧ ∀ a n c, ud = .slice (some a) n c → 0 < n → P a.block
theorem SyVal.gr {P : Nat → Prop} {base : Nat} {w w' : World} {uc ud : Value} {q : Symb} (h : SyVal P base w uc ud q) (hg : Gr w w') : SyVal P base w' uc ud q :=
 ⟨h.1, h.2.1, (Rb.gr h.2.2.1 h.2.2.2.1 hg).1, (Rb.gr h.2.2.1 h.2.2.2.1 hg).2, h.2.2.2.2⟩
def SymsO (P : Nat → Prop) (base : Nat) (w : World) (v : Value) (L : List Symb) : Prop := ∃ us, w.ownsRow base 30 2 v L.length us ∧ ∀ i, i < L.length → SyVal P base w (us.getD (i * 2) undef) (us.getD (i * 2 + 1) undef) (L.getD i noY)
theorem SymsO.nil {P : Nat → Prop} (base : Nat) (w : World) : SymsO P base w (.slice none 0 0) [] := ⟨[], World.ownsRow_nil _ _ _ _, fun i hi => by simp at hi⟩
theorem SymsO.grown {P : Nat → Prop} {base : Nat} {w w' : World} {v : Value} {L : List Symb} (h : SymsO P base w v L) (hg : Gr w w') : SymsO P base w' v L := by
 obtain ⟨us, ho, hr⟩ := h
 exact ⟨us, ho.of_gr hg, fun i hi => (hr i hi).gr hg⟩
theorem SymsO.form {P : Nat → Prop} {base : Nat} {w : World} {v : Value} {L : List Symb} (h : SymsO P base w v L) : ∃ o c, v = .slice o L.length c := by
 obtain ⟨us, ⟨_, ⟨rfl, h⟩ | ⟨g, c, cur, rfl, _⟩⟩, _⟩ := h
 ·exact ⟨none, 0, by rw [h]⟩
 ·exact ⟨_, _, rfl⟩
theorem SymsO.syms {P : Nat → Prop} {base : Nat} {w : World} {v : Value} {L : List Symb} (h : SymsO P base w v L) : Syms w v L := by
 obtain ⟨us, ⟨hlen, ⟨rfl, h0⟩ | ⟨g, c, cur, rfl, h1, h2, h3, h4, h5, h6⟩⟩, hr⟩ := h
 ·obtain rfl : L = [] := List.eq_nil_of_length_eq_zero h0
  exact Syms.nil w
 ·refine ⟨_, c, rfl, h3, by unfold maxLen at h4; omega, (fun e => by cases e), fun _ => ⟨g, 0, rfl, fun i hi => ?_⟩⟩
  obtain ⟨e1, z1, z3, _⟩ := hr i hi
  obtain ⟨od, cd, e2⟩ := z3.form
  have hcell : ∀ j, j < L.length * 2 → w.cell? ⟨g, j, none⟩ = some (us.getD j undef) := fun j hj => by
   rw [cell_of_row _ _ _ _ _ _ h2]
   have e : (cur.toList.take (L.length * 2))[j]? = us[j]? := by rw [h6]
   rw [List.getElem?_take_of_lt hj] at e
   have hus : j < us.length := by omega
   rw [List.getD_eq_getElem?_getD, List.getElem?_eq_getElem hus]
   rw [List.getElem?_eq_getElem hus] at e
   simpa using e
  rw [e2] at z3
  exact ⟨od, _, cd, by rw [Nat.zero_add, hcell _ (by omega), e1], by rw [Nat.zero_add, hcell _ (by omega), e2], z1, z3⟩
theorem infoY : (Tryz.prog.info? 30).map (fun i => (i.zero.map (·.cells.size), i.size, i.bytes)) = some (some 2, 2, 32) := by kernel_rfl
theorem sy_not {w : World} {base : Nat} {v : Value} {n : Nat} {us : List Value} (h : w.ownsRow base 30 2 v n us) {t : TypeId} (ht : t ≠ 30) : ∀ g, v.ownBlock = some g → base ≤ g ∧ ∀ cur, w.heap[g]? ≠ some (.cells cur t (0, 0)) := by
 intro g hg
 obtain ⟨_, ⟨rfl, _⟩ | ⟨g', c, cur, rfl, hb, hgg, _⟩⟩ := h
 ·cases hg
 ·simp [Value.ownBlock] at hg
  subst hg
  refine ⟨hb, fun cur' e => ?_⟩
  rw [hgg] at e
  simp at e
  exact ht e.2.symm
theorem SyVal.kept {P : Nat → Prop} {base : Nat} {w w' : World} {uc ud v : Value} {q : Symb} {n : Nat} {us : List Value} (h : SyVal P base w uc ud q) (ho : w.ownsRow base 30 2 v n us) (hg : w.grownBy w' v.ownBlock) : SyVal P base w' uc ud q :=
 ⟨h.1, h.2.1, (Rb.kept h.2.2.1 h.2.2.2.1 hg.block (sy_not ho (by decide))).1, (Rb.kept h.2.2.1 h.2.2.2.1 hg.block (sy_not ho (by decide))).2, h.2.2.2.2⟩
theorem sy_base {w : World} {base : Nat} {v : Value} {n : Nat} {us : List Value} (h : w.ownsRow base 30 2 v n us) : ∀ g, v.ownBlock = some g → base ≤ g := by
 intro g hg
 obtain ⟨_, ⟨rfl, _⟩ | ⟨g', c, cur, rfl, hb, hgg, _⟩⟩ := h
 ·cases hg
 ·simp [Value.ownBlock] at hg
  omega
theorem wpList_append_sy {P : Nat → Prop} {w : World} {ops : Array Oper} {rest : List Oper} {o : Oper} {a : Act} {Q : Exit → Act → World → Prop} (hgd : o.guard = none) (s x : Operand)
  (ho : o.op = .call { callee := .builtin .append, args := #[s, x], argTypes := #[27, 27] }) (base : Nat) (v : Value) (L : List Symb) (hs : a.eval s = v) (hR : SymsO P base w v L)
  (g : Nat) (uc ud : Value) (q : Symb) (hx : a.eval x = .slice (some ⟨g, 0, none⟩) 1 1) (hc : w.cell? ⟨g, 0, none⟩ = some uc) (hd : w.cell? ⟨g, 1, none⟩ = some ud) (hq : SyVal P base w uc ud q) (hm : L.length ≤ 100000) (hbase : base ≤ w.heap.size)
  (h : ∀ v' w', SymsO P base w' v' (L ++ [q]) → (∀ w0, Gr w0 w → w0.heap.size ≤ base → Gr w0 w') → w.grownBy w' v.ownBlock → (∀ t : TypeId, t ≠ 30 → ∀ g, v.ownBlock = some g → base ≤ g ∧ ∀ cur, w.heap[g]? ≠ some (.cells cur t (0, 0))) → wpList Tryz.prog ops Q rest (a.put o.dst v') w') : wpList Tryz.prog ops Q (o :: rest) a w := by
 obtain ⟨i, hi, hzz⟩ := Option.map_eq_some_iff.1 infoY
 simp only [Prod.mk.injEq] at hzz
 obtain ⟨hz0, hz1, hz2⟩ := hzz
 obtain ⟨z, hz, hzs⟩ := Option.map_eq_some_iff.1 hz0
 obtain ⟨us, hown, hr⟩ := hR
 have e1 := hq.1
 obtain ⟨od, cd, e2⟩ := hq.2.2.1.form
 refine wpList_append_own w hgd s x 27 ho base 30 i z 2 32 Tryz.underlying27 hi hz hz1 hz2 hzs (by omega) v L.length us hs hown ⟨g, 0, none⟩ 1 1 [uc, ud] hx rfl (fun j u hj => by
   match j, hj with
   | 0, hj =>
     obtain rfl : uc = u := by simpa using hj
     exact hc
   | 1, hj =>
     obtain rfl : ud = u := by simpa using hj
     exact hd
   | j + 2, hj => simp at hj) (fun u hu => by
     simp at hu
     rcases hu with rfl | rfl
     · rw [e1]; rfl
     · rw [e2]; rfl) (by unfold maxLen; omega) (by omega) hbase ?_
 intro v' w' h1 h2 _
 have hlen : us.length = L.length * 2 := hown.1
 refine h v' w' ⟨us ++ [uc, ud], by rw [List.length_append]; exact h1, fun k hk => ?_⟩ (fun w0 hg hb => Gr.append hg h2 fun k hv => by have := sy_base hown k hv; omega) h2 (fun t ht => sy_not hown ht)
 rw [List.length_append, List.length_singleton] at hk
 by_cases e : k < L.length
 ·rw [List.getD_eq_getElem?_getD, List.getD_eq_getElem?_getD, List.getD_eq_getElem?_getD, List.getElem?_append_left (by omega), List.getElem?_append_left (by omega), List.getElem?_append_left e, ← List.getD_eq_getElem?_getD, ← List.getD_eq_getElem?_getD, ← List.getD_eq_getElem?_getD]
  exact (hr k e).kept hown h2
 ·obtain rfl : k = L.length := by omega
  have d1 : (us ++ [uc, ud]).getD (L.length * 2) undef = uc := by rw [List.getD_eq_getElem?_getD, List.getElem?_append_right (by omega), hlen, Nat.sub_self]; rfl
  have d2 : (us ++ [uc, ud]).getD (L.length * 2 + 1) undef = ud := by rw [List.getD_eq_getElem?_getD, List.getElem?_append_right (by omega), hlen, Nat.add_sub_cancel_left]; rfl
  have d3 : (L ++ [q]).getD L.length noY = q := by rw [List.getD_eq_getElem?_getD, List.getElem?_append_right (by omega)]; simp
  rw [d1, d2, d3]
  exact hq.kept hown h2
theorem run_append_inY {P : Program} {w : World} (base : Nat) (t ty e : TypeId) (i : TypeInfo) (z : Value) (size bytes : Nat) (ht : P.underlying t = some (.slice e)) (hi : P.info? e = some i) (hz : i.zero = some z)
  (hsize : i.size = size) (hby : i.bytes = bytes) (hzs : z.cells.size = size) (hsz : 0 < size) (v : Value) (n : Nat) (xs : List Value) (hown : w.ownsRow base e size v n xs)
  (oa : Option Addr) (m c : Nat) (news : List Value) (hno : oa = none → m = 0 ∧ c = 0) (hl : news.length = m * size) (hnews : ∀ ad, oa = some ad → ∀ j u, news[j]? = some u → w.cell? (ad.add j) = some u) (h1 : ∀ u ∈ news, u.oneCell' = true)
  (h63 : n + m ≤ maxLen) (hbytes : (n + m) * bytes ≤ 140737488355328) (hbase : base ≤ w.heap.size) :
  ∃ v' w', (Builtin.append_ #[t, t] ty #[v, .slice oa m c]).run P w = .ok v' w' ∧ w'.ownsRow base e size v' (n + m) (xs ++ news) ∧ w.grownBy w' v.ownBlock := by
 cases oa with
 | none =>
  obtain ⟨rfl, rfl⟩ := hno rfl
  obtain rfl : news = [] := List.eq_nil_of_length_eq_zero (by rw [hl]; omega)
  refine ⟨v, w, run_append_owned_none (P := P) (w := w) base t ty e i size ht hi v n xs hown, by rw [List.append_nil]; exact hown, ⟨rfl, rfl, rfl, Nat.le_refl _, fun _ _ _ => rfl⟩⟩
 | some ad =>
  obtain ⟨v', w', hr, h2, h3, _⟩ := run_append_own (P := P) w base t ty e i z size bytes ht hi hz hsize hby hzs hsz v n xs hown ad m c news hl (hnews ad rfl) h1 h63 hbytes hbase
  exact ⟨v', w', hr, h2, h3⟩
def SymsV (P : Nat → Prop) (base : Nat) (w : World) (oa : Option Addr) (m : Nat) (L : List Symb) : Prop :=
 L.length = m ∧ (oa = none → m = 0) ∧ ∃ us : List Value, us.length = m * 2 ∧ (∀ ad, oa = some ad → ∀ j u, us[j]? = some u → w.cell? (ad.add j) = some u) ∧ ∀ i, i < m → SyVal P base w (us.getD (i * 2) undef) (us.getD (i * 2 + 1) undef) (L.getD i noY)
theorem SymsV.grown {P : Nat → Prop} {base m : Nat} {w w' : World} {oa : Option Addr} {L : List Symb} (h : SymsV P base w oa m L) (hg : Gr w w') : SymsV P base w' oa m L := by
 obtain ⟨h1, h2, us, h3, h4, h5⟩ := h
 exact ⟨h1, h2, us, h3, fun ad ha j u hu => cell_gr hg (h4 ad ha j u hu), fun i hi => (h5 i hi).gr hg⟩
theorem SymsV.nil {P : Nat → Prop} (base : Nat) (w : World) (oa : Option Addr) : SymsV P base w oa 0 [] := ⟨rfl, fun _ => rfl, [], rfl, fun ad _ j u hu => by simp at hu, fun i hi => by omega⟩
theorem SymsO.vals {P : Nat → Prop} {base n c : Nat} {w : World} {o : Option Addr} {L : List Symb} (h : SymsO P base w (.slice o n c) L) : SymsV P base w o n L := by
 have hf := h.form
 obtain ⟨o', c', hf⟩ := hf
 obtain ⟨rfl, rfl, rfl⟩ : o = o' ∧ n = L.length ∧ c = c' := by simpa using hf
 obtain ⟨us, ⟨hlen, ⟨he, h0⟩ | ⟨g, c, cur, he, h1, h2, h3, h4, h5, h6⟩⟩, hr⟩ := h
 ·obtain rfl : L = [] := List.eq_nil_of_length_eq_zero h0
  exact SymsV.nil _ _ _
 ·cases he
  refine ⟨rfl, (fun e => by cases e), us, hlen, fun ad ha j u hu => ?_, hr⟩
  cases ha
  rw [Addr.add_mid, Nat.zero_add, cell_of_row _ _ _ _ _ _ h2]
  have hj : j < us.length := (List.getElem?_eq_some_iff.1 hu).1
  have e : (cur.toList.take (L.length * 2))[j]? = us[j]? := by rw [h6]
  rw [List.getElem?_take_of_lt (by omega), hu] at e
  simpa using e
theorem SymsV.one {P : Nat → Prop} {base m : Nat} {w : World} {us : List Value} {L : List Symb} (hl : us.length = m * 2) (h : ∀ i, i < m → SyVal P base w (us.getD (i * 2) undef) (us.getD (i * 2 + 1) undef) (L.getD i noY)) : ∀ u ∈ us, u.oneCell' = true := fun u hu => by
 obtain ⟨j, hj, rfl⟩ := List.getElem_of_mem hu
 have hq := h (j / 2) (by omega)
 have e1 := hq.1
 obtain ⟨od, cd, e2⟩ := hq.2.2.1.form
 have e : us[j] = us.getD j undef := by rw [List.getD_eq_getElem?_getD, List.getElem?_eq_getElem hj]; rfl
 rw [e]
 by_cases e0 : j % 2 = 0
 ·rw [show j / 2 * 2 = j from by omega] at e1
  rw [e1]
  rfl
 ·rw [show j / 2 * 2 + 1 = j from by omega] at e2
  rw [e2]
  rfl
theorem run_append_sys {P : Nat → Prop} {w : World} (ty : TypeId) (base : Nat) (v : Value) (L M : List Symb) (hR : SymsO P base w v L)
  (oa : Option Addr) (m c : Nat) (hV : SymsV P base w oa m M) (hc : oa = none → c = 0) (hm : L.length + m ≤ 100000) (hbase : base ≤ w.heap.size) :
  ∃ v' w', (Builtin.append_ #[27, 27] ty #[v, .slice oa m c]).run Tryz.prog w = .ok v' w' ∧ SymsO P base w' v' (L ++ M) ∧ (∀ w0, Gr w0 w → w0.heap.size ≤ base → Gr w0 w') ∧ w.grownBy w' v.ownBlock ∧ ∀ t : TypeId, t ≠ 30 → ∀ g, v.ownBlock = some g → base ≤ g ∧ ∀ cur, w.heap[g]? ≠ some (.cells cur t (0, 0)) := by
 obtain ⟨i, hi, hzz⟩ := Option.map_eq_some_iff.1 infoY
 simp only [Prod.mk.injEq] at hzz
 obtain ⟨hz0, hz1, hz2⟩ := hzz
 obtain ⟨z, hz, hzs⟩ := Option.map_eq_some_iff.1 hz0
 obtain ⟨us, hown, hr⟩ := hR
 obtain ⟨hML, hno, ns, hnl, hnc, hnv⟩ := hV
 obtain ⟨v', w', hrun, h1, h2⟩ := run_append_inY (P := Tryz.prog) (w := w) base 27 ty 30 i z 2 32 Tryz.underlying27 hi hz hz1 hz2 hzs (by omega) v L.length us hown oa m c ns (fun e => ⟨hno e, hc e⟩) hnl hnc (SymsV.one hnl hnv) (by unfold maxLen; omega) (by omega) hbase
 have hlen : us.length = L.length * 2 := hown.1
 refine ⟨v', w', hrun, ⟨us ++ ns, by rw [List.length_append, hML]; exact h1, fun k hk => ?_⟩, (fun w0 hg hb => Gr.append hg h2 fun k hv => by have := sy_base hown k hv; omega), h2, (fun t ht => sy_not hown ht)⟩
 rw [List.length_append] at hk
 by_cases e : k < L.length
 ·rw [List.getD_eq_getElem?_getD, List.getD_eq_getElem?_getD, List.getD_eq_getElem?_getD, List.getElem?_append_left (by omega), List.getElem?_append_left (by omega), List.getElem?_append_left e, ← List.getD_eq_getElem?_getD, ← List.getD_eq_getElem?_getD, ← List.getD_eq_getElem?_getD]
  exact (hr k e).kept hown h2
 ·obtain ⟨q, rfl⟩ : ∃ q, k = L.length + q := ⟨k - L.length, by omega⟩
  have d1 : (us ++ ns).getD ((L.length + q) * 2) undef = ns.getD (q * 2) undef := by rw [List.getD_eq_getElem?_getD, List.getElem?_append_right (by omega), hlen, show (L.length + q) * 2 - L.length * 2 = q * 2 from by omega, ← List.getD_eq_getElem?_getD]
  have d2 : (us ++ ns).getD ((L.length + q) * 2 + 1) undef = ns.getD (q * 2 + 1) undef := by rw [List.getD_eq_getElem?_getD, List.getElem?_append_right (by omega), hlen, show (L.length + q) * 2 + 1 - L.length * 2 = q * 2 + 1 from by omega, ← List.getD_eq_getElem?_getD]
  have d3 : (L ++ M).getD (L.length + q) noY = M.getD q noY := by rw [List.getD_eq_getElem?_getD, List.getElem?_append_right (by omega), Nat.add_sub_cancel_left, ← List.getD_eq_getElem?_getD]
  rw [d1, d2, d3]
  exact (hnv q (by omega)).kept hown h2
theorem wp_append_sys {P : Nat → Prop} {w : World} {o : Oper} {a : Act} {K : Act → World → Prop} {Q : Exit → Act → World → Prop} (s x : Operand)
  (ho : o.op = .call { callee := .builtin .append, args := #[s, x], argTypes := #[27, 27] }) (base : Nat) (v : Value) (L M : List Symb) (hs : a.eval s = v) (hR : SymsO P base w v L)
  (oa : Option Addr) (m c : Nat) (hx : a.eval x = .slice oa m c) (hV : SymsV P base w oa m M) (hc : oa = none → c = 0) (hm : L.length + m ≤ 100000) (hbase : base ≤ w.heap.size)
  (h : ∀ v' w', SymsO P base w' v' (L ++ M) → (∀ w0, Gr w0 w → w0.heap.size ≤ base → Gr w0 w') → w.grownBy w' v.ownBlock → (∀ t : TypeId, t ≠ 30 → ∀ g, v.ownBlock = some g → base ≤ g ∧ ∀ cur, w.heap[g]? ≠ some (.cells cur t (0, 0))) → K (a.put o.dst v') w') : o.wp Tryz.prog a w K Q := by
 obtain ⟨v', w', hrun, h1, h2, h3, h4⟩ := run_append_sys o.type base v L M hR oa m c hV hc hm hbase
 unfold Oper.wp execOp
 simp only [ho, resolve, invoke, builtin, Sem.run_bind, Sem.run_pure, Result.andThen_ok, List.map_toArray, List.map_cons, List.map_nil, hs, hx, hrun]
 exact h v' w' h1 h2 h3 h4
theorem step_append_sys {P : Nat → Prop} {w : World} {ops : Array Oper} {o : Oper} {a : Act} {K : Act → World → Prop} {Q : Exit → Act → World → Prop} {E : Prop} (hgd : o.guard = none) (s x : Operand)
  (ho : o.op = .call { callee := .builtin .append, args := #[s, x], argTypes := #[27, 27] }) (base : Nat) (v : Value) (L M : List Symb) (hs : a.eval s = v) (hR : SymsO P base w v L)
  (oa : Option Addr) (m c : Nat) (hx : a.eval x = .slice oa m c) (hV : SymsV P base w oa m M) (hc : oa = none → c = 0) (hm : L.length + m ≤ 100000) (hbase : base ≤ w.heap.size)
  (h : ∀ v' w', SymsO P base w' v' (L ++ M) → (∀ w0, Gr w0 w → w0.heap.size ≤ base → Gr w0 w') → w.grownBy w' v.ownBlock → K (a.put o.dst v') w') :
  if Region.wanted o (yielded ops a.tmps) = true then Oper.wp Tryz.prog o a w K Q else E := by
 have hw : Region.wanted o (yielded ops a.tmps) = true := by simp [Region.wanted, hgd]
 rw [if_pos hw]
 exact wp_append_sys s x ho base v L M hs hR oa m c hx hV hc hm hbase fun v' w' h1 h2 h3 _ => h v' w' h1 h2 h3
theorem SyVal.mono {P : Nat → Prop} {base base' : Nat} {w : World} {uc ud : Value} {q : Symb} (h : SyVal P base w uc ud q) (hb : base ≤ base') : SyVal P base' w uc ud q :=
 ⟨h.1, h.2.1, h.2.2.1, fun a n c e hm => (h.2.2.2.1 a n c e hm).imp (fun hl => Nat.lt_of_lt_of_le hl hb) id, h.2.2.2.2⟩
theorem SymsV.mono {P : Nat → Prop} {base base' m : Nat} {w : World} {oa : Option Addr} {L : List Symb} (h : SymsV P base w oa m L) (hb : base ≤ base') : SymsV P base' w oa m L := by
 obtain ⟨h1, h2, us, h3, h4, h5⟩ := h
 exact ⟨h1, h2, us, h3, h4, fun i hi => (h5 i hi).mono hb⟩
theorem SymsV.drop {P : Nat → Prop} {base m : Nat} {w : World} {b : Addr} {L : List Symb} (h : SymsV P base w (some b) m L) (k : Nat) : SymsV P base w (some (b.add (k * 2))) (m - k) (L.drop k) := by
 obtain ⟨h1, h2, us, h3, h4, h5⟩ := h
 refine ⟨by rw [List.length_drop, h1], (fun e => by cases e), us.drop (k * 2), by rw [List.length_drop, h3]; omega, fun ad ha j u hu => ?_, fun i hi => ?_⟩
 ·cases ha
  rw [Addr.add_add']
  rw [List.getElem?_drop] at hu
  exact h4 b rfl _ u hu
 ·rw [List.getD_eq_getElem?_getD, List.getD_eq_getElem?_getD, List.getD_eq_getElem?_getD, List.getElem?_drop, List.getElem?_drop, List.getElem?_drop, ← List.getD_eq_getElem?_getD, ← List.getD_eq_getElem?_getD, ← List.getD_eq_getElem?_getD]
  have := h5 (k + i) (by omega)
  rw [show (k + i) * 2 = k * 2 + i * 2 from by omega, Nat.add_assoc] at this
  exact this
theorem SymsO.own_lt {P : Nat → Prop} {base : Nat} {w : World} {v : Value} {L : List Symb} (h : SymsO P base w v L) : ∀ g, v.ownBlock = some g → g < w.heap.size := by
 intro g hg
 obtain ⟨us, ⟨_, ⟨rfl, _⟩ | ⟨g', c, cur, rfl, hb, hgg, _⟩⟩, _⟩ := h
 ·cases hg
 ·simp [Value.ownBlock] at hg
  subst hg
  exact (Array.getElem?_eq_some_iff.1 hgg).1
theorem SymsO.lies {P : Nat → Prop} {base n c : Nat} {w : World} {o : Option Addr} {L : List Symb} (h : SymsO P base w (.slice o n c) L) : (o = none ∧ n = 0 ∧ c = 0) ∨ ∃ g, o = some ⟨g, 0, none⟩ ∧ n ≤ c := by
 obtain ⟨us, ⟨_, ⟨he, h0⟩ | ⟨g, c', cur, he, h1, h2, h3, _⟩⟩, _⟩ := h
 ·cases he
  exact .inl ⟨rfl, rfl, rfl⟩
 ·cases he
  exact .inr ⟨g, rfl, h3⟩
theorem SyVal.imp {P P' : Nat → Prop} {base : Nat} {w : World} {uc ud : Value} {q : Symb} (h : SyVal P base w uc ud q) (hP : ∀ k, P k → P' k) : SyVal P' base w uc ud q :=
 ⟨h.1, h.2.1, h.2.2.1, h.2.2.2.1, fun a n c e hm => hP _ (h.2.2.2.2 a n c e hm)⟩
theorem SymsV.imp {P P' : Nat → Prop} {base m : Nat} {w : World} {oa : Option Addr} {L : List Symb} (h : SymsV P base w oa m L) (hP : ∀ k, P k → P' k) : SymsV P' base w oa m L := by
 obtain ⟨h1, h2, us, h3, h4, h5⟩ := h
 exact ⟨h1, h2, us, h3, h4, fun i hi => (h5 i hi).imp hP⟩
end Go.Proofs.YtbbglejdfbkjlaaGreat
namespace Go.Proofs.YtbbglejdfbkjlaaGreat
open Go.RowKit
theorem Bss.rowAt {w : World} {a : Addr} {m c : Nat} {L : List (List Int)} (h : Bss w (.slice (some a) m c) L) {i : Nat} (hi : i < m) : ∃ u, w.cell? (a.add i) = some u ∧ Bs w u (L.getD i []) := by
 obtain ⟨oa', c', he, h2, h3, h4, h5⟩ := h
 obtain ⟨rfl, rfl, rfl⟩ : some a = oa' ∧ m = L.length ∧ c = c' := by simpa using he
 exact h5 a rfl i hi
theorem Bss.addr {w : World} {oa : Option Addr} {m c : Nat} {L : List (List Int)} (h : Bss w (.slice oa m c) L) (hm : 0 < m) : ∃ a, oa = some a := by
 obtain ⟨oa', c', he, h2, h3, h4, h5⟩ := h
 obtain ⟨rfl, rfl, rfl⟩ : oa = oa' ∧ m = L.length ∧ c = c' := by simpa using he
 cases oa with
 | none => have := h4 rfl; omega
 | some a => exact ⟨a, rfl⟩
theorem Bs.form4 {w : World} {v : Value} {l : List Int} (h : Bs w v l) : ∃ o m c, v = .slice o m c := by
 obtain ⟨o, c, h⟩ := h.form
 exact ⟨o, _, c, h⟩
theorem Rws.grown {base : Nat} {w w' : World} {v : Value} {L : List (List Int)} (h : Rws base w v L) (hg : Gr w w') : Rws base w' v L := by
 obtain ⟨us, ho, hr⟩ := h
 exact ⟨us, ho.of_gr hg, fun i hi => Rb.gr (hr i hi).1 (hr i hi).2 hg⟩
theorem Rws.form3 {base : Nat} {w : World} {v : Value} {L : List (List Int)} (h : Rws base w v L) : ∃ o c, v = .slice o L.length c := by
 obtain ⟨us, ho, hr⟩ := h
 exact ownsRow_form ho
theorem Rws.form4 {base : Nat} {w : World} {v : Value} {L : List (List Int)} (h : Rws base w v L) : ∃ o m c, v = .slice o m c := by
 obtain ⟨o, c, h⟩ := h.form3
 exact ⟨o, _, c, h⟩
theorem wpList_append_row {w : World} {ops : Array Oper} {rest : List Oper} {o : Oper} {a : Act} {Q : Exit → Act → World → Prop} (hgd : o.guard = none) (s x : Operand)
  (ho : o.op = .call { callee := .builtin .append, args := #[s, x], argTypes := #[65, 65] }) (base : Nat) (v : Value) (L : List (List Int)) (hs : a.eval s = v) (hR : Rws base w v L)
  (g : Nat) (u : Value) (l : List Int) (hx : a.eval x = .slice (some ⟨g, 0, none⟩) 1 1) (hc : w.cell? ⟨g, 0, none⟩ = some u) (hb : Bs w u l) (hrb : Rb base w u) (hm : L.length ≤ 100000) (hbase : base ≤ w.heap.size)
  (h : ∀ v' w', Rws base w' v' (L ++ [l]) → (∀ w0, Gr w0 w → w0.heap.size ≤ base → Gr w0 w') → Ke 25 w w' → wpList Tryz.prog ops Q rest (a.put o.dst v') w') : wpList Tryz.prog ops Q (o :: rest) a w := by
 obtain ⟨i0, hi0, hz0, hz1, hz2⟩ := info_parts info22
 obtain ⟨us, hown, hr⟩ := hR
 obtain ⟨ou, cu, hf⟩ := hb.form
 refine wpList_append_in hgd s x 65 ho base 25 i0 _ 24 Tryz.underlying65 hi0 hz0 hz1 hz2 rfl v L.length us hs hown (some ⟨g, 0, none⟩) 1 1 [u] hx (fun e => by cases e) rfl (fun ad ha j y hj => by
   cases ha
   cases j with
   | zero =>
     obtain rfl : u = y := by simpa using hj
     exact hc
   | succ j => simp at hj) (by intro y hy; obtain rfl : y = u := by simpa using hy
                               rw [hf]; rfl) (by unfold maxLen; omega) (by omega) hbase ?_
 intro v' w' h1 h2
 exact h v' w' (Rws.append hown hr hb hrb h1 h2) (fun w0 hg hb => gr_by_own hg h2 hown hb) (Ke.of_own hown h2)
end Go.Proofs.YtbbglejdfbkjlaaGreat
namespace Go.Proofs.YtbbglejdfbkjlaaGreat
theorem wpAnyH_skip {P : Program} {md : Region.Mode} {ops : Array Oper} {Q : Exit → Act → World → Prop} {S : World → Prop} {i d : Nat} {oi : Oper} {fuel : Nat} {listed : Array Bool} {a : Act} {w : World} (hi : ops[i]? = some oi) (hd : oi.dst = some d)
  (hs : Region.noSelect ops = true) (hf : Region.free md ops listed i = true) (hr : (Region.ready md ops listed).contains i = true)
  (hQ : ∀ c a w, Q (.panic c) (a.put oi.dst undef) w → Q (.panic c) a w) (hw : Region.wanted oi (yielded ops a.tmps) = false) (hS : S w)
  (h : wpAnyH P md ops Q S fuel (listed.setIfInBounds i true) { a with tmps := a.tmps.setIfInBounds d undef } w) : wpAnyH P md ops Q S (fuel + 1) listed a w :=
 wpAnyH_take hi hs hf hr hQ (.inr ⟨hw, rfl⟩) hS (by rw [hd]; exact h)
theorem wpAnyH_yield {P : Program} {md : Region.Mode} {ops : Array Oper} {Q : Exit → Act → World → Prop} {S : World → Prop} {i d : Nat} {oi : Oper} {v : Value} {fuel : Nat} {listed : Array Bool} {a : Act} {w : World} (hi : ops[i]? = some oi) (hd : oi.dst = some d)
  (hs : Region.noSelect ops = true) (hf : Region.free md ops listed i = true) (hr : (Region.ready md ops listed).contains i = true)
  (hQ : ∀ c a w, Q (.panic c) (a.put oi.dst v) w → Q (.panic c) a w) (hy : YieldsIf P ops S oi v a) (hS : S w)
  (h : wpAnyH P md ops Q S fuel (listed.setIfInBounds i true) { a with tmps := a.tmps.setIfInBounds d v } w) : wpAnyH P md ops Q S (fuel + 1) listed a w :=
 wpAnyH_take hi hs hf hr hQ hy hS (by rw [hd]; exact h)
end Go.Proofs.YtbbglejdfbkjlaaGreat
namespace Go.Proofs.YtbbglejdfbkjlaaGreat
open Go.RowKit
structure SystemOk : Prop where
 matrix : ∀ (K H S : Int) (seed : Nat) (v : Value) (l : List Int) (w : World), seed < 4294967296 → Zs w v l → l.length ≤ 900 →
  Calls Tryz.prog 32 #[par K H S, .int .u32 (seed : Int), v] w fun e w' => ∃ u, e = .returned u ∧ Bss w' u (matP K H S seed l) ∧ Gr w w'
 rank : ∀ (K H S : Int) (seed : Nat) (v : Value) (l : List Int) (w : World), seed < 4294967296 → Zs w v l → l.length ≤ 900 →
  Calls Tryz.prog 28 #[par K H S, .int .u32 (seed : Int), v] w fun e w' => e = .returned (.int .i64 (rkL (matP K H S seed l))) ∧ Gr w w'
 full : ∀ (K H S : Int) (seed : Nat) (v : Value) (l : List Int) (w : World), seed < 4294967296 → Zs w v l → l.length ≤ 900 →
  Calls Tryz.prog 21 #[par K H S, .int .u32 (seed : Int), v] w fun e w' => e = .returned (.bool (decide (FullP K H S seed l))) ∧ Gr w w'
 right : ∀ (K H S : Int) (seed : Nat) (w : World), seed < 4294967296 →
  Calls Tryz.prog 30 #[par K H S, .int .u32 (seed : Int)] w fun e w' => e = .returned (.bool (decide (RightP K H S seed))) ∧ Gr w w'
end Go.Proofs.YtbbglejdfbkjlaaGreat
namespace Go.Proofs.YtbbglejdfbkjlaaGreat
open Go.RowKit
structure EncOk (At : World → Value → (Nat → Prop) → Nat → Nat → Nat → Nat → List (List Int) → Prop) : Prop where
 ptr : ∀ {w : World} {y : Value} {F : Nat → Prop} {K H S seed : Nat} {M : List (List Int)}, At w y F K H S seed M → ∃ a, y = .pointer (some a)
 lt : ∀ {w : World} {y : Value} {F : Nat → Prop} {K H S seed : Nat} {M : List (List Int)}, At w y F K H S seed M → ∀ k, F k → k < w.heap.size
 keep : ∀ {w w' : World} {y : Value} {F G : Nat → Prop} {K H S seed : Nat} {M : List (List Int)}, At w y F K H S seed M → Kp G w w' → (∀ k, F k → ¬ G k) → At w' y F K H S seed M
 newArg : ∀ (K H S : Int) (seed : Nat) (v : Value) (D : List Int) (w : World), seed < 4294967296 → Bs w v D → D.length ≤ 100000 → ¬ (MayP K H S ∧ (D.length : Int) = K * S) →
  Calls Tryz.prog 12 #[par K H S, .int .u32 (seed : Int), v] w fun e w' => e = .returned (.tuple #[.pointer none, .int .i64 1]) ∧ Gr w w'
 newSeed : ∀ (K H S : Nat) (seed : Nat) (v : Value) (D : List Int) (w : World), seed < 4294967296 → Bs w v D → MayP K H S → D.length = K * S → ¬ RightP K H S seed →
  Calls Tryz.prog 12 #[par K H S, .int .u32 (seed : Int), v] w fun e w' => e = .returned (.tuple #[.pointer none, .int .i64 8]) ∧ Gr w w'
 new : ∀ (K H S : Nat) (seed : Nat) (v : Value) (D : List Int) (w : World), seed < 4294967296 → Bs w v D → MayP K H S → D.length = K * S → RightP K H S seed →
  Calls Tryz.prog 12 #[par K H S, .int .u32 (seed : Int), v] w fun e w' => ∃ y F M, e = .returned (.tuple #[y, .int .i64 0]) ∧ IsMid K H S seed D M ∧ At w' y F K H S seed M ∧ Gr w w' ∧ ∀ k, F k → w.heap.size ≤ k
 symbol : ∀ (y : Value) (F : Nat → Prop) (K H S seed : Nat) (M : List (List Int)) (id : Int) (w : World), MayP K H S → seed < 4294967296 → At w y F K H S seed M → Wide S M → M.length = K + H → I64 id →
  Calls Tryz.prog 22 #[y, .int .i64 id] w fun e w' => ∃ v, e = .returned v ∧ New w w' v (symP K H S seed M id)
 symbolNil : ∀ (id : Int) (w : World), I64 id → Calls Tryz.prog 22 #[.pointer none, .int .i64 id] w fun e w' => ∃ v, e = .returned v ∧ New w w' v []
theorem Bs.addr {w : World} {oa : Option Addr} {m c : Nat} {l : List Int} (h : Bs w (.slice oa m c) l) (hm : 0 < m) : ∃ a, oa = some a := by
 obtain ⟨_, oa', c', he, h2, h3, h4, h5⟩ := h
 obtain ⟨rfl, rfl, rfl⟩ : oa = oa' ∧ m = l.length ∧ c = c' := by simpa using he
 cases oa with
 | none => have := h4 rfl; omega
 | some a => exact ⟨a, rfl⟩
theorem Bs.part {w : World} {b : Addr} {m c lo hi : Nat} {l : List Int} (h : Bs w (.slice (some b) m c) l) (h1 : lo ≤ hi) (h2 : hi ≤ m) : Bs w (.slice (if c = lo then some b else some (b.add lo)) (hi - lo) (c - lo)) ((l.drop lo).take (hi - lo)) := by
 obtain ⟨h0, oa', c', he, p2, p3, p4, p5⟩ := h
 obtain ⟨rfl, rfl, rfl⟩ : some b = oa' ∧ m = l.length ∧ c = c' := by simpa using he
 have hl : ((l.drop lo).take (hi - lo)).length = hi - lo := by rw [List.length_take, List.length_drop]; omega
 refine ⟨fun x hx => h0 x (List.mem_of_mem_drop (List.mem_of_mem_take hx)), _, _, by rw [hl], by rw [hl]; omega, by omega, (fun e => by split at e <;> cases e), fun a ha i hi2 => ?_⟩
 rw [hl] at hi2
 rw [if_neg (by omega)] at ha
 cases ha
 rw [Addr.add_add', p5 b rfl (lo + i) (by omega), List.getD_eq_getElem?_getD, List.getD_eq_getElem?_getD, List.getElem?_take_of_lt hi2, List.getElem?_drop]
theorem EncOk.grown {At : World → Value → (Nat → Prop) → Nat → Nat → Nat → Nat → List (List Int) → Prop} (E : EncOk At) {w w' : World} {y : Value} {F : Nat → Prop} {K H S s : Nat} {M : List (List Int)} (h : At w y F K H S s M) (hg : Gr w w') : At w' y F K H S s M :=
 E.keep h (hg.kp fun _ => False) fun _ _ e => e
def nthS (s i : Nat) : Nat := (s + i) % 4294967296
theorem nthS_lt (s i : Nat) : nthS s i < 4294967296 := Nat.mod_lt _ (by omega)
theorem nthS_back (s i : Nat) (h : i ≤ 24) : ((((nthS s i : Nat) : Int) - s) % 4294967296).toNat = i := by
 unfold nthS
 omega
theorem nthS_succ (s i : Nat) : IntKind.u32.wrap ((nthS s i : Int) + 1) = (nthS s (i + 1) : Int) := by
 simp [IntKind.wrap, IntKind.bits, IntKind.signed]
 unfold nthS
 omega
set_option maxRecDepth 100000 in
set_option maxHeartbeats 800000 in
theorem seed_any (O : SystemOk) (K H S sd : Int) (w : World) :
  Calls Tryz.prog 11 #[par K H S, .int .u64 sd] w fun e w' => ∃ t : Nat, e = .returned (.int .u32 (t : Int)) ∧ t < 4294967296 ∧ Gr w w' := by
 have HO := Lib.hid O
 clear O
 obtain ⟨s0, hs0, hs1⟩ : ∃ s : Nat, sd % 4294967296 = s ∧ s < 4294967296 := ⟨(sd % 4294967296).toNat, by omega, by omega⟩
 have hw32 : IntKind.u32.wrap sd = (s0 : Int) := by rw [← hs0]; simp [IntKind.wrap, IntKind.bits, IntKind.signed]
 have h24 : IntKind.u32.wrap ((s0 : Int) + 24) = (nthS s0 24 : Int) := by simp [IntKind.wrap, IntKind.bits, IntKind.signed, nthS]
 have HP0 : Hid (Par (w.alloc (.cells #[.int .i64 K, .int .i64 H, .int .i64 S] 23)) w.heap.size K H S) := Lib.hid (heap_alloc_new _ _)
 have HG0 : Hid (Gr w (w.alloc (.cells #[.int .i64 K, .int .i64 H, .int .i64 S] 23))) := Lib.hid (Gr.alloc (Gr.refl _) _ _)
 have h00 : nthS s0 0 = s0 := by unfold nthS; omega
 have H00 := Lib.hid h00
 clear h00
 go_enter Tryz.func11, Tryz.ntmps11
 go_wp2_with fail
 generalize w.alloc (.cells #[.int .i64 K, .int .i64 H, .int .i64 S] 23) = W0 at *
 generalize w.heap.size = gp at *
 go_loopw [5] (fun iv W => ∃ i : Nat, i ≤ 24 ∧ iv = .int .u32 (nthS s0 i : Int) ∧ Gr W0 W) (fun iv _ => 24 - ((intOf iv - s0) % 4294967296).toNat)
 case atStart => exact ⟨0, by omega, by rw [H00.out], Gr.refl _⟩
 case round =>
  obtain ⟨wo, hwo⟩ : ∃ x, x = wr := ⟨_, rfl⟩
  subst hwo
  obtain ⟨i, hi, rfl, hg⟩ := hrel
  have HG := Lib.hid (Gr.trans HG0.out hg)
  have HGI := Lib.hid hg
  have HP := Lib.hid (HP0.out.grown hg)
  clear hg
  have c0 := HP.out.cell0
  have c1 := HP.out.cell1
  have c2 := HP.out.cell2
  by_cases hlt : i < 24
  ·have hne : nthS s0 i ≠ nthS s0 24 := by unfold nthS; omega
   have hne2 : ((nthS s0 i : Int) == (nthS s0 24 : Int)) = false := by rw [beq_eq_false_iff_ne]; omega
   have hsu := nthS_succ s0 i
   have hb1 := nthS_back s0 i (by omega)
   have hb2 := nthS_back s0 (i + 1) (by omega)
   have HB1 := Lib.hid hb1
   have HB2 := Lib.hid hb2
   have HLT := Lib.hid (nthS_lt s0 i)
   clear hb1 hb2
   obtain ⟨q, hq⟩ : ∃ q, nthS s0 i = q := ⟨_, rfl⟩
   obtain ⟨q1, hq1⟩ : ∃ q, nthS s0 (i + 1) = q := ⟨_, rfl⟩
   obtain ⟨q2, hq2⟩ : ∃ q, nthS s0 24 = q := ⟨_, rfl⟩
   rw [hq, hq2] at hne hne2
   rw [hq, hq1] at hsu
   rw [hq] at HB1 HLT
   rw [hq1] at HB2
   rw [hq2] at h24
   have HQ1 := Lib.hid hq1
   rw [hq]
   clear hq hq1 hq2
   go_wp2_with fail
   refine (HO.out.right K H S q _ HLT.out).mono ?_
   by_cases hr : RightP K H S q
   ·rw [decide_eq_true hr]
    rintro e w2 ⟨rfl, hg2⟩
    have HG2 := Lib.hid (Gr.trans HG.out hg2)
    clear hg2 hr
    go_wp2_with fail
    go_ret
    exact ⟨q, rfl, HLT.out, HG2.out⟩
   ·rw [decide_eq_false hr]
    rintro e w2 ⟨rfl, hg2⟩
    have HG2 := Lib.hid (Gr.trans HGI.out hg2)
    clear hg2 hr
    go_wp2_with fail
    exact ⟨⟨i + 1, by omega, by rw [HQ1.out], HG2.out⟩, by simp [intOf]; rw [HB1.out, HB2.out]; omega⟩
  ·obtain rfl : i = 24 := by omega
   go_wp2_with fail
   go_ret
   exact ⟨s0, rfl, hs1, HG.out⟩
def dataL (l : List Int) (n : Nat) : List Int := l.take n ++ List.replicate (n - l.length) 0
theorem dataL_length (l : List Int) (n : Nat) : (dataL l n).length = n := by
 unfold dataL
 rw [List.length_append, List.length_take, List.length_replicate]
 omega
theorem dataL_byt {l : List Int} (h : ∀ z ∈ l, Byt z) (n : Nat) : ∀ z ∈ dataL l n, Byt z := fun z hz => by
 unfold dataL at hz
 rw [List.mem_append] at hz
 rcases hz with hz | hz
 ·exact h z (List.mem_of_mem_take hz)
 ·exact replicate_byt _ z hz
theorem new_block {w W : World} {g n : Nat} {L : List Int} (hg : Gr w W) (hge : w.heap.size ≤ g) (hb : Blk W g L) (hl : L.length = n) (hB : ∀ z ∈ L, Byt z) (hn : n ≤ 1000000) : New w W (.slice (some ⟨g, 0, none⟩) n n) L :=
 ⟨hg, hB, .inr ⟨g, n, _, by rw [hl], hge, hb, by omega, by omega, fun i hi => rowB_get _ i hi⟩⟩
set_option maxRecDepth 100000 in
set_option maxHeartbeats 800000 in
theorem data_any (v : Value) (l : List Int) (n : Nat) (w : World) (hb : Bs w v l) (h1 : 1 ≤ n) (h2 : n ≤ 1000) :
  Calls Tryz.prog 13 #[v, .int .i64 (n : Int)] w fun e w' => ∃ u, e = .returned u ∧ New w w' u (dataL l n) := by
 have HBY := Lib.hid hb.1
 have hmk := make22 n n (by omega) (by omega)
 have hsz : (Tryz.prog.info? 5).map (·.size) = some 1 := by kernel_rfl
 have SZ := Lib.hid hsz
 have hB := heap_alloc_new w (.cells (rowB (List.replicate n 0)) 5)
 have HB := Lib.hid hB
 clear hsz hB
 by_cases h0 : 0 < l.length
 ·obtain ⟨a, c, rfl, _, _, h3⟩ := Bs.at hb h0
  obtain ⟨m, hm⟩ : ∃ m, l.length = m := ⟨_, rfl⟩
  rw [hm] at h3 ⊢
  have HM := Lib.hid hm
  have HC := Lib.hid h3
  have HS : Hid (((l.take n).map (Value.int .u8)).length = Nat.min m n) := Lib.hid (by rw [List.length_map, List.length_take, HM.out]; exact Nat.min_comm _ _)
  have HF : Hid (0 + ((l.take n).map (Value.int .u8)).length ≤ (rowB (List.replicate n 0)).size) := Lib.hid (by rw [List.length_map, List.length_take, rowB_size, List.length_replicate]; omega)
  have H1 : Hid (∀ v ∈ (l.take n).map (Value.int .u8), v.oneCell' = true) := Lib.hid (by
    intro v hv
    obtain ⟨x, _, rfl⟩ := List.mem_map.1 hv
    rfl)
  have HV : Hid (∀ j v, ((l.take n).map (Value.int .u8))[j]? = some v → (w.alloc (.cells (rowB (List.replicate n 0)) 5)).cell? (a.add j) = some v) := Lib.hid (by
    intro j v hv
    have hj := (List.getElem?_eq_some_iff.1 hv).1
    rw [List.length_map, List.length_take, HM.out] at hj
    rw [cell_grown (Gr.alloc (Gr.refl _) _ _) (HC.out j (by omega))]
    rw [List.getElem?_map, List.getElem?_take_of_lt (by omega), List.getElem?_eq_getElem (by rw [HM.out]; omega)] at hv
    rw [List.getD_eq_getElem?_getD, List.getElem?_eq_getElem (by rw [HM.out]; omega)]
    simpa using hv)
  have HR : Hid (((l.take n).map (Value.int .u8) ++ List.drop ((l.take n).map (Value.int .u8)).length (rowB (List.replicate n 0)).toList).toArray = rowB (dataL l n)) := Lib.hid (by
    unfold dataL rowB
    simp only [List.map_append, List.map_replicate, List.length_map, List.length_take, List.drop_replicate]
    congr 3
    omega)
  clear h3 hb
  generalize (l.take n).map (Value.int .u8) = cs at *
  generalize rowB (List.replicate n 0) = cur at *
  go_enter Tryz.func13, Tryz.ntmps13
  go_wp2_with (refine wpList_copy_own rfl _ _ 25 25 rfl 5 Tryz.underlying25 SZ.out w.heap.size 0 n n a m c rfl rfl cur 5 HB.out cs HS.out HV.out HF.out H1.out ?_)
  rw [World.setRow_alloc_new, HR.out]
  clear HR H1 HV HF HS HB SZ HC hmk
  go_wp2_with fail
  go_ret
  exact ⟨_, rfl, new_block (Gr.alloc (Gr.refl _) _ _) (Nat.le_refl _) (heap_alloc_new _ _) (dataL_length _ _) (dataL_byt HBY.out n) (by omega)⟩
 ·obtain rfl : l = [] := List.eq_nil_of_length_eq_zero (by omega)
  obtain ⟨_, oa, c, rfl, _, _, _, _⟩ := hb
  have HR : Hid (rowB (List.replicate n 0) = rowB (dataL [] n)) := Lib.hid (by unfold dataL; simp)
  generalize rowB (List.replicate n 0) = cur at *
  clear HB
  go_enter Tryz.func13, Tryz.ntmps13
  go_wp2_with (refine wpList_copy_nothing rfl _ _ 25 25 rfl 5 Tryz.underlying25 SZ.out _ _ _ _ _ _ rfl rfl rfl ?_)
  go_ret
  rw [HR.out]
  exact ⟨_, rfl, new_block (Gr.alloc (Gr.refl _) _ _) (Nat.le_refl _) (heap_alloc_new _ _) (dataL_length _ _) (dataL_byt HBY.out n) (by omega)⟩
end Go.Proofs.YtbbglejdfbkjlaaGreat
