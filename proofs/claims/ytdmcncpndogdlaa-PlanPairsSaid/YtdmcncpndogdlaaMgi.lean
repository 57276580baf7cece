/-
  Texts laid behind one another: Ye Nc Nd Az Rx Ne.
-/
import Derived.Test.YtdmcncpndogdlaaMgh
import Derived.Test.YtdmcncpndogdlaaMgd
import Derived.Laws.CopyOwn
import Derived.Test.YtdmcncpndogdlaaMgf
import Derived.Lib.AppendZerosOnto
namespace Go.Proofs.Ytdmcncpndogdlaa
open Go.RowKit

theorem sysWake_rank : rkL (matP 2 1 1 1 []) = 1 := by
  rw [matP_nil]
  have h := aheadP_in (K := 2) (H := 1) (S := 1) (by unfold MayP; omega)
  rw [show aheadP 2 1 1 = ahead 2 1 from h, ahead_rk]
theorem sysWake_len : (matP 2 1 1 1 []).length = 1 := by
  rw [matP_nil]
  have h := aheadP_in (K := 2) (H := 1) (S := 1) (by unfold MayP; omega)
  rw [show aheadP 2 1 1 = ahead 2 1 from h, ahead_length]
theorem sysWake_full : decide (FullP 2 1 1 1 []) = false := decide_eq_false fun h => by
  have h2 := h.2
  rw [sysWake_rank] at h2
  have : colsP 2 1 1 = 3 := by unfold colsP; rw [if_pos (by unfold MayP; omega)]; rfl
  omega
/-- 0, 1, .., n - 1, without k. -/
def lessI (n k : Nat) : List Int := (firstI n).filter fun i => decide (i ≠ (k : Int))
theorem lessI_succ (n k : Nat) : lessI (n + 1) k = if n = k then lessI n k else lessI n k ++ [(n : Int)] := by
  unfold lessI
  rw [firstI_succ, List.filter_append]
  by_cases e : n = k
  · subst e
    rw [if_pos rfl]
    simp
  · rw [if_neg e]
    have : ¬ ((n : Int) = (k : Int)) := by omega
    simp [this]
theorem lessI_le (n k : Nat) : (lessI n k).length ≤ n := by
  have := List.length_filter_le (fun i => decide (i ≠ (k : Int))) (firstI n)
  rw [firstI_length] at this
  exact this
theorem lessI_lt {n k : Nat} (h : k < n) : (lessI n k).length < n := by
  induction n with
  | zero => omega
  | succ n ih =>
    rw [lessI_succ]
    by_cases e : n = k
    · rw [if_pos e]
      have := lessI_le n k
      omega
    · rw [if_neg e, List.length_append]
      have := ih (by omega)
      simp
      omega
theorem lessI_i64 {n k : Nat} (h : n ≤ 1000) : ∀ x ∈ lessI n k, I64 x := fun x hx => firstI_i64 h x (List.mem_filter.1 hx).1
theorem few_not_full {K H : Nat} {S : Int} (hm : MayP K H S) (seed : Nat) (l : List Int) (h : l.length < K) : ¬ FullP K H S seed l := fun hf => by
  have h2 := hf.2
  have hw := rkL_le_rows (matP_wide hm seed l)
  have hl : (matP K H S seed l).length ≤ H + l.length := by
    rw [matP_in hm, List.length_append, ahead_length, List.length_map]
    have := List.length_filter_le (fun i => decide (MayI i)) l
    omega
  have : colsP K H S = K + H := by unfold colsP; rw [if_pos hm]
  omega
end Go.Proofs.Ytdmcncpndogdlaa
namespace Go.Proofs.Ytdmcncpndogdlaa
open Go.RowKit

/-- The contracts of package encode; At: how a Block lies in memory (which blocks are its own), its parameters, its seed and its middle symbols. -/
structure EncOk (At : World → Value → (Nat → Prop) → Nat → Nat → Nat → Nat → List (List Int) → Prop) : Prop where
  ptr : ∀ {w : World} {y : Value} {F : Nat → Prop} {K H S seed : Nat} {M : List (List Int)}, At w y F K H S seed M → ∃ a, y = .pointer (some a)
  lt : ∀ {w : World} {y : Value} {F : Nat → Prop} {K H S seed : Nat} {M : List (List Int)}, At w y F K H S seed M → ∀ k, F k → k < w.heap.size
  keep : ∀ {w w' : World} {y : Value} {F G : Nat → Prop} {K H S seed : Nat} {M : List (List Int)}, At w y F K H S seed M → Kp G w w' → (∀ k, F k → ¬ G k) → At w' y F K H S seed M
theorem Bs.addr {w : World} {oa : Option Addr} {m c : Nat} {l : List Int} (h : Bs w (.slice oa m c) l) (hm : 0 < m) : ∃ a, oa = some a := by
  obtain ⟨_, oa', c', he, h2, h3, h4, h5⟩ := h
  obtain ⟨rfl, rfl, rfl⟩ : oa = oa' ∧ m = l.length ∧ c = c' := by simpa using he
  cases oa with
  | none => have := h4 rfl; omega
  | some a => exact ⟨a, rfl⟩
theorem Bs.part {w : World} {b : Addr} {m c lo hi : Nat} {l : List Int} (h : Bs w (.slice (some b) m c) l) (h1 : lo ≤ hi) (h2 : hi ≤ m) : Bs w (.slice (if c = lo then some b else some (b.add lo)) (hi - lo) (c - lo)) ((l.drop lo).take (hi - lo)) := by
  obtain ⟨h0, oa', c', he, p2, p3, p4, p5⟩ := h
  obtain ⟨rfl, rfl, rfl⟩ : some b = oa' ∧ m = l.length ∧ c = c' := by simpa using he
  have hl : ((l.drop lo).take (hi - lo)).length = hi - lo := by rw [List.length_take, List.length_drop]; omega
  refine ⟨fun x hx => h0 x (List.mem_of_mem_drop (List.mem_of_mem_take hx)), _, _, by rw [hl], by rw [hl]; omega, by omega, (fun e => by split at e <;> cases e), fun a ha i hi2 => ?_⟩
  rw [hl] at hi2
  rw [if_neg (by omega)] at ha
  cases ha
  rw [Addr.add_add', p5 b rfl (lo + i) (by omega), List.getD_eq_getElem?_getD, List.getD_eq_getElem?_getD, List.getElem?_take_of_lt hi2, List.getElem?_drop]
theorem EncOk.grown {At : World → Value → (Nat → Prop) → Nat → Nat → Nat → Nat → List (List Int) → Prop} (E : EncOk At) {w w' : World} {y : Value} {F : Nat → Prop} {K H S s : Nat} {M : List (List Int)} (h : At w y F K H S s M) (hg : Gr w w') : At w' y F K H S s M :=
  E.keep h (hg.kp fun _ => False) fun _ _ e => e
/-- From a seed on, modulo 2^32. -/
def nthS (s i : Nat) : Nat := (s + i) % 4294967296
theorem nthS_lt (s i : Nat) : nthS s i < 4294967296 := Nat.mod_lt _ (by omega)
theorem nthS_back (s i : Nat) (h : i ≤ 24) : ((((nthS s i : Nat) : Int) - s) % 4294967296).toNat = i := by
  unfold nthS
  omega
theorem nthS_succ (s i : Nat) : IntKind.u32.wrap ((nthS s i : Int) + 1) = (nthS s (i + 1) : Int) := by
  simp [IntKind.wrap, IntKind.bits, IntKind.signed]
  unfold nthS
  omega
/-- So many bytes of a list, noughts behind. -/
def dataL (l : List Int) (n : Nat) : List Int := l.take n ++ List.replicate (n - l.length) 0
theorem dataL_length (l : List Int) (n : Nat) : (dataL l n).length = n := by
  unfold dataL
  rw [List.length_append, List.length_take, List.length_replicate]
  omega
theorem dataL_byt {l : List Int} (h : ∀ z ∈ l, Byt z) (n : Nat) : ∀ z ∈ dataL l n, Byt z := fun z hz => by
  unfold dataL at hz
  rw [List.mem_append] at hz
  rcases hz with hz | hz
  · exact h z (List.mem_of_mem_take hz)
  · exact replicate_byt _ z hz
theorem new_block {w W : World} {g n : Nat} {L : List Int} (hg : Gr w W) (hge : w.heap.size ≤ g) (hb : Blk W g L) (hl : L.length = n) (hB : ∀ z ∈ L, Byt z) (hn : n ≤ 1000000) : New w W (.slice (some ⟨g, 0, none⟩) n n) L :=
  ⟨hg, hB, .inr ⟨g, n, _, by rw [hl], hge, hb, by omega, by omega, fun i hi => rowB_get _ i hi⟩⟩
end Go.Proofs.Ytdmcncpndogdlaa
namespace Go.Proofs.Ytdmcncpndogdlaa
open Go.RowKit

theorem wake_at : atN 2 0 0 = [0, 1] := by decide +kernel
theorem wake_first : matP 1 1 2 0 (firstI 1) = [[3, 1], [1, 1]] := by
  have hm : MayP ((1 : Nat) : Int) ((1 : Nat) : Int) ((2 : Nat) : Int) := by unfold MayP; omega
  have h := firstM_is hm 0
  have hr := rowP_in hm (id := 0) (by unfold MayI; omega) 0
  have e : firstI 1 = [0] := by decide
  rw [e] at h ⊢
  have e2 : rowP ((1 : Nat) : Int) ((1 : Nat) : Int) ((2 : Nat) : Int) 0 0 = [1, 1] := by
    rw [hr]
    show onesL 2 (atN 2 0 0) = [1, 1]
    rw [wake_at]
    decide
  rw [ahead_one, List.map_cons, List.map_nil, e2] at h
  exact h
theorem wake_right : RightP 1 1 2 0 := by
  have hm : MayP ((1 : Nat) : Int) ((1 : Nat) : Int) ((2 : Nat) : Int) := by unfold MayP; omega
  refine ⟨hm, ?_⟩
  have hc : colsP 1 1 2 = 2 := by unfold colsP; rw [if_pos (by unfold MayP; omega)]; rfl
  rw [hc]
  show (rkL (matP 1 1 2 0 (firstI 1)) : Int) = 2
  rw [wake_first]
  have e0 : L.smul (fb 141) (L.vadd (vec [3, 1]) (vec [1, 1])) = L.unit 0 := funext fun j => by
    match j with
    | 0 => apply L.Fb.ext; decide +kernel
    | 1 => apply L.Fb.ext; decide +kernel
    | j + 2 => apply L.Fb.ext; show (L.mul (fb 141) (L.add (fb 0) (fb 0))).n = 0; decide +kernel
  have e1 : L.vadd (vec [1, 1]) (L.unit 0) = L.unit 1 := funext fun j => by
    match j with
    | 0 => apply L.Fb.ext; decide +kernel
    | 1 => apply L.Fb.ext; decide +kernel
    | j + 2 => apply L.Fb.ext; show (L.add (fb 0) L.zero).n = 0; decide +kernel
  have hA : ∀ x ∈ ([[3, 1], [1, 1]] : List (List Int)).map vec, L.Supp 2 x := by
    intro x hx
    obtain ⟨y, hy, rfl⟩ := List.mem_map.1 hx
    simp at hy
    rcases hy with rfl | rfl <;> exact vec_supp rfl
  have h0 : L.Sp (([[3, 1], [1, 1]] : List (List Int)).map vec) (L.unit 0) := by
    rw [← e0]
    exact L.Sp.smul _ (L.Sp.add (L.Sp.mem (by simp)) (L.Sp.mem (by simp)))
  have h1 : L.Sp (([[3, 1], [1, 1]] : List (List Int)).map vec) (L.unit 1) := by
    rw [← e1]
    exact L.Sp.add (L.Sp.mem (by simp)) h0
  have : rkL [[3, 1], [1, 1]] = 2 := L.rk_of_units hA fun i hi => by
    have : i = 0 ∨ i = 1 := by omega
    rcases this with rfl | rfl
    · exact h0
    · exact h1
  rw [this]
  rfl
end Go.Proofs.Ytdmcncpndogdlaa
namespace Go.Proofs.Ytdmcncpndogdlaa
open Go.RowKit

theorem bytes_cells {w : World} {o : Option Addr} {l : List Int} {n : Nat} (hl : l.length = n) (h : ∀ a, o = some a → ∀ i, i < n → w.cell? (a.add i) = some (.int .u8 (l.getD i 0))) :
    ∀ ad, o = some ad → ∀ i u, (l.map (Value.int .u8))[i]? = some u → w.cell? (ad.add i) = some u := by
  intro ad ha i u hu
  have hi : i < l.length := by
    have := (List.getElem?_eq_some_iff.1 hu).1
    rwa [List.length_map] at this
  rw [h ad ha i (by omega)]
  rw [List.getElem?_map, List.getElem?_eq_getElem hi] at hu
  rw [List.getD_eq_getElem?_getD, List.getElem?_eq_getElem hi]
  simpa using hu
theorem leadL_nought : ∀ l : List Int, leadL l = -1 → ∀ j, l.getD j 0 = 0
  | [], _, j => by simp
  | a :: l, h, j => by
    have hge := leadL_ge l
    unfold leadL at h
    split at h
    · rename_i ha
      split at h
      · rename_i hl
        cases j with
        | zero => simpa using ha
        | succ j => simpa using leadL_nought l hl j
      · omega
    · omega
theorem vec_nought {l : List Int} (h : leadL l = -1) : vec l = L.vzero := funext fun j => by
  show fb (l.getD j 0) = L.zero
  rw [leadL_nought l h j, fb_zero]
theorem vec_ne {l : List Int} (hb : ∀ x ∈ l, Byt x) (h : 0 ≤ leadL l) : vec l ≠ L.vzero := fun e => by
  have : leadL l = -1 := leadL_none l fun j _ => by
    have h1 : fb (l.getD j 0) = L.zero := congrFun e j
    exact fb_inj (getD_byt hb j) (by unfold Byt; omega) (by rw [h1, fb_zero])
  omega
theorem Bs.parts {w : World} {oa : Option Addr} {m c : Nat} {l : List Int} (h : Bs w (.slice oa m c) l) : l.length = m ∧ m ≤ c ∧ c ≤ 9223372036854775807 ∧ (oa = none → m = 0 ∧ c = 0) ∧ ∀ ad, oa = some ad → ∀ i u, (l.map (Value.int .u8))[i]? = some u → w.cell? (ad.add i) = some u := by
  obtain ⟨_, oa', c', he, h2, h3, h4, h5⟩ := h
  obtain ⟨rfl, rfl, rfl⟩ : oa = oa' ∧ m = l.length ∧ c = c' := by simpa using he
  exact ⟨rfl, h2, h3, fun e => ⟨by have := h4 e; omega, h4 e⟩, bytes_cells rfl h5⟩
theorem Bs.rb {w : World} {u : Value} {l : List Int} (h : Bs w u l) (w' : World) : Rb w.heap.size w' u := by
  intro a n c e hn
  obtain ⟨_, oa, cc, h1, h2, h3, h4, h5⟩ := h
  rw [h1] at e
  obtain ⟨rfl, rfl, rfl⟩ : oa = some a ∧ l.length = n ∧ cc = c := by simpa using e
  exact .inl (World.block_lt_of_cell? w _ (h5 a rfl 0 hn))
theorem New.under {w w1 w2 : World} {v : Value} {l : List Int} (hg : Gr w w1) (h : New w1 w2 v l) : New w w2 v l := by
  obtain ⟨h1, h2, h3⟩ := h
  refine ⟨Gr.trans hg h1, h2, ?_⟩
  rcases h3 with h3 | ⟨g, c, cur, e1, e2, e3⟩
  · exact .inl h3
  · exact .inr ⟨g, c, cur, e1, Nat.le_trans hg.size e2, e3⟩
theorem zeroB (m : Nat) : Builtin.zeroCells (Value.int .u8 0).cells m = (List.replicate m (Value.int .u8 0)).toArray := by
  apply Array.ext
  · simp [Builtin.zeroCells, Value.cells]
  intro i h1 h2
  simp [Builtin.zeroCells, Value.cells, Nat.mod_one]
end Go.Proofs.Ytdmcncpndogdlaa
namespace Go.Proofs.Ytdmcncpndogdlaa
open Go.RowKit

section
variable {base : Nat} {w0 W : World} {g n c k : Nat} {A Lm : List (List Int)} {us : List Value} {ps : List Nat} {col : Nat}
theorem ownsRow_far {v : Value} {e : TypeId} {size m g' i : Nat} {u : Value} {xs : List Value} (h : W.ownsRow base e size v m xs) (hne : v.ownBlock ≠ some g') : (W.setCell ⟨g', i, none⟩ u).ownsRow base e size v m xs := by
  obtain ⟨h0, h1 | ⟨g, c, cur, rfl, hb, hg, h2⟩⟩ := h
  · exact ⟨h0, .inl h1⟩
  · refine ⟨h0, .inr ⟨g, c, cur, rfl, hb, ?_, h2⟩⟩
    rw [heap_setCell_other _ _ _ _ (fun e => hne (by subst e; rfl))]
    exact hg
/-- A store into another block of rows. -/
theorem row_far {g' i : Nat} {u v : Value} {l : List Int} (hb : Bs W v l) (hr : Rb base W v) (hrow : ∀ q, some g' = some q → base ≤ q ∧ ∀ cur, W.heap[q]? ≠ some (.cells cur 5 (0, 0))) : Bs (W.setCell ⟨g', i, none⟩ u) v l ∧ Rb base (W.setCell ⟨g', i, none⟩ u) v :=
  Rb.kept hb hr (row := some g') (fun j _ hne => heap_setCell_other _ _ _ _ (fun e => hne (by rw [e]))) hrow
end

section
variable {w0 W : World} {gx cx gy cy n k m : Nat} {A B X Y : List (List Int)} {col : Nat} {us vs : List Value}
theorem map_swap (X : List (List Int)) (a d : Nat) : ((X.set a (X.getD d [])).set d (X.getD a [])).map vec = ((X.map vec).set a (L.rowAt (X.map vec) d)).set d (L.rowAt (X.map vec) a) := by
  rw [List.map_set, List.map_set, rowAt_vec, rowAt_vec]
end
theorem add_nought (a : Addr) : a.add 0 = a := by
  unfold Addr.add
  split <;> simp_all
/-- Through an append to another row. -/
theorem ownsRow_through {base : Nat} {w w' : World} {e : TypeId} {size : Nat} {v : Value} {n : Nat} {xs : List Value} {row : Option Nat} (h : w.ownsRow base e size v n xs) (hg : w.grownBy w' row) (hne : v.ownBlock = none ∨ v.ownBlock ≠ row) : w'.ownsRow base e size v n xs := by
  obtain ⟨h0, h1 | ⟨g, c, cur, rfl, hb, hgg, h2⟩⟩ := h
  · exact ⟨h0, .inl h1⟩
  · refine ⟨h0, .inr ⟨g, c, cur, rfl, hb, ?_, h2⟩⟩
    rw [hg.block g (Array.getElem?_eq_some_iff.1 hgg).1 (fun e => by
      rcases hne with hne | hne
      · cases hne
      · exact hne e)]
    exact hgg
theorem ownsRow_lt {base : Nat} {w : World} {e : TypeId} {size : Nat} {v : Value} {n : Nat} {xs : List Value} (h : w.ownsRow base e size v n xs) : ∀ g, v.ownBlock = some g → g < w.heap.size := by
  intro g hg
  obtain ⟨_, ⟨rfl, _⟩ | ⟨g', c, cur, rfl, _, hgg, _⟩⟩ := h
  · cases hg
  · cases hg
    exact (Array.getElem?_eq_some_iff.1 hgg).1
theorem Tri.of {w W : World} {a b : Addr} {u v : Value} (p1 : w.cell? a = some u) (p2 : w.cell? b = some v) (g : Gr w W) : W.cell? a = some u ∧ W.cell? b = some v ∧ Hid (Gr w W) := ⟨cell_grown g p1, cell_grown g p2, Lib.hid g⟩
/-- Two slices of rows lie apart. -/
def Apart2 (x y : Value) : Prop := ∀ g, x.ownBlock = some g → y.ownBlock ≠ some g
theorem Apart2.ne {x y : Value} (h : Apart2 x y) : y.ownBlock = none ∨ y.ownBlock ≠ x.ownBlock := by
  cases hx : x.ownBlock with
  | none => cases hy : y.ownBlock with
    | none => exact .inl rfl
    | some g => exact .inr (by simp)
  | some g => exact .inr (h g hx)
end Go.Proofs.Ytdmcncpndogdlaa
namespace Go.Proofs.Ytdmcncpndogdlaa
open Go.RowKit

theorem sum_back {x y : List Int} (hl : x.length = y.length) : (lst y.length fun i => addZ (y.getD i 0) (x.getD i 0)) = sumL x y := by
  unfold sumL
  rw [hl]
  exact lst_congr _ _ _ fun i _ => addZ_comm _ _
theorem addL_length {S : Nat} {M : List (List Int)} (hM : Wide S M) : ∀ A : List Int, (∀ x ∈ A, 0 ≤ x ∧ x < (M.length : Int)) → (addL S M A).length = S := fun A => by
  suffices ∀ s : List Int, s.length = S → (∀ x ∈ A, 0 ≤ x ∧ x < (M.length : Int)) → (A.foldl (fun s i => sumL (M.getD i.toNat []) s) s).length = S from this _ (by simp)
  induction A with
  | nil => intro s hs _; exact hs
  | cons a A ih =>
    intro s _ hA
    have ha := hA a (by simp)
    rw [List.foldl_cons]
    exact ih _ (by rw [sumL_length]; exact (hM.at a.toNat (by omega)).1) fun x hx => hA x (by simp [hx])
theorem Bss.len3 {w : World} {o : Option Addr} {m c : Nat} {L : List (List Int)} (h : Bss w (.slice o m c) L) : m = L.length := by
  obtain ⟨oa, ca, he, _⟩ := h
  simp at he
  exact he.2.1
end Go.Proofs.Ytdmcncpndogdlaa
