/-
  Texts laid behind one another: Pw Co Px La Lb Py Lc Ld Ya Na.
-/
import Derived.Test.YtdmcncpndogdlaaMgf
import Derived.Test.YtdmcncpndogdlaaMga
import Derived.Test.YtdmcncpndogdlaaMgb
import Derived.Test.YtdmcncpndogdlaaMgd
import Derived.Deep.DeepCutAuto
import Derived.Test.YtdmcncpndogdlaaMgc
import Derived.Test.YtdmcncpndogdlaaMge
namespace Go.Proofs.Ytdmcncpndogdlaa
open Go.RowKit

/-- Parameters, as they are handed in. -/
abbrev par (K H S : Int) : Value := .agg #[.int .i64 K, .int .i64 H, .int .i64 S]
def MayP (K H S : Int) : Prop := 1 ≤ K ∧ K ≤ 16 ∧ 1 ≤ H ∧ H ≤ 4 ∧ 1 ≤ S ∧ S ≤ 24
instance (K H S : Int) : Decidable (MayP K H S) := by unfold MayP; exact inferInstance
def colsP (K H S : Int) : Int := if MayP K H S then K + H else 0
def aheadP (K H S : Int) : List (List Int) := if MayP K H S then ahead K.toNat H.toNat else []
end Go.Proofs.Ytdmcncpndogdlaa
namespace Go.Proofs.Ytdmcncpndogdlaa
open Go.RowKit

def blkOf : Value → Option Nat
  | .slice (some a) _ _ => some a.block
  | _ => none
/-- Each row lies in a block of its own, from base on. -/
def Own (base : Nat) (w : World) (us : List Value) : Prop :=
  (∀ i, i < us.length → ∃ g m c, us.getD i undef = .slice (some ⟨g, 0, none⟩) m c ∧ base ≤ g ∧ g < w.heap.size) ∧
  ∀ i j, i < j → j < us.length → blkOf (us.getD i undef) ≠ blkOf (us.getD j undef)
theorem Own.nil (base : Nat) (w : World) : Own base w [] := ⟨fun i hi => by simp at hi, fun i j _ hj => by simp at hj⟩
theorem getD_append_left' {us : List Value} {u : Value} {i : Nat} (h : i < us.length) : (us ++ [u]).getD i undef = us.getD i undef := by
  rw [List.getD_eq_getElem?_getD, List.getElem?_append_left h, ← List.getD_eq_getElem?_getD]
theorem getD_append_last' (us : List Value) (u : Value) : (us ++ [u]).getD us.length undef = u := by
  rw [List.getD_eq_getElem?_getD, List.getElem?_append_right (Nat.le_refl _)]
  simp
theorem Own.append {base g m c : Nat} {w w1 w2 : World} {us : List Value} (h : Own base w us) (hg : w.heap.size ≤ g) (hg2 : g < w1.heap.size) (hb : base ≤ g) (_ : w.heap.size ≤ w1.heap.size) (h2 : w1.heap.size ≤ w2.heap.size) :
    Own base w2 (us ++ [.slice (some ⟨g, 0, none⟩) m c]) := by
  obtain ⟨ha, hd⟩ := h
  refine ⟨fun i hi => ?_, fun i j hij hj => ?_⟩
  · rw [List.length_append, List.length_singleton] at hi
    by_cases e : i < us.length
    · obtain ⟨g', m', c', q1, q2, q3⟩ := ha i e
      exact ⟨g', m', c', by rw [getD_append_left' e]; exact q1, q2, by omega⟩
    · obtain rfl : i = us.length := by omega
      exact ⟨g, m, c, getD_append_last' _ _, hb, by omega⟩
  · rw [List.length_append, List.length_singleton] at hj
    by_cases e : j < us.length
    · rw [getD_append_left' e, getD_append_left' (by omega)]
      exact hd i j hij e
    · obtain rfl : j = us.length := by omega
      rw [getD_append_last', getD_append_left' hij]
      obtain ⟨g', m', c', q1, q2, q3⟩ := ha i hij
      rw [q1]
      simp [blkOf]
      omega
end Go.Proofs.Ytdmcncpndogdlaa
namespace Go.Proofs.Ytdmcncpndogdlaa
open Go.RowKit

theorem ahead_end (K H h : Nat) : (lst (K + H) (part (aheadF K h) K)).set (K + h) 1 = aheadRow K H h := by
  rw [lst_set]
  apply lst_congr
  intro j hj
  unfold part aheadF
  by_cases e : j = K + h
  · rw [if_pos e, if_neg (by omega), if_pos e]
  · rw [if_neg e]
    by_cases c : j < K
    · rw [if_pos c]
    · rw [if_neg c, if_neg c, if_neg e]
end Go.Proofs.Ytdmcncpndogdlaa
namespace Go.Proofs.Ytdmcncpndogdlaa
open Go.RowKit

theorem tab_length_le' (l : Int) : (T.tab l).length ≤ 64 := by
  by_cases h : 1 ≤ l ∧ l ≤ 64
  · obtain ⟨N, rfl⟩ : ∃ N : Nat, l = N := ⟨l.toNat, by omega⟩
    rw [T.tab_in (by omega) (by omega), T.tabZ_length]
    omega
  · rw [T.tab_out h]
    simp
theorem degA_le : ∀ (t : List Int) (x : Int) (k : Nat), 0 ≤ T.degA t x k ∧ T.degA t x k ≤ (k + t.length : Nat)
  | [], x, k => by simp [T.degA]
  | a :: t, x, k => by
    have ih := degA_le t x (k + 1)
    unfold T.degA
    split
    · simp; omega
    · simp at ih ⊢
      omega
theorem drawV_le (t : List Int) (s : Nat) : 0 ≤ drawV t s ∧ drawV t s ≤ t.length := by
  unfold drawV
  split
  · omega
  · unfold T.deg
    split
    · omega
    · have := degA_le t (belowV s (lastZ' t)) 0
      simpa using this
def MayI (id : Int) : Prop := 0 ≤ id ∧ id ≤ 65535
instance (id : Int) : Decidable (MayI id) := by unfold MayI; exact inferInstance
/-- The state that a symbol's Draw begins with. -/
def mixS (seed : Nat) (id : Nat) : Nat := seed ^^^ (id * 2654435761 % 4294967296)
theorem mixS_lt {seed : Nat} (h : seed < 4294967296) (id : Nat) : mixS seed id < 4294967296 := by
  unfold mixS
  exact Nat.xor_lt_two_pow (n := 32) h (Nat.mod_lt _ (by omega))
/-- The places of the row of a symbol, N columns. -/
def atN (N seed id : Nat) : List Int := C.someZ (drawS (T.tab N) (nextS (mixS seed id))) N (drawV (T.tab N) (nextS (mixS seed id)))
def atP (K H S : Int) (seed : Nat) (id : Int) : List Int := if MayP K H S ∧ MayI id then atN (K.toNat + H.toNat) seed id.toNat else []
end Go.Proofs.Ytdmcncpndogdlaa
namespace Go.Proofs.Ytdmcncpndogdlaa
open Go.RowKit

theorem someZ_rng (s : Nat) (n k : Int) : ∀ x ∈ C.someZ s n k, 0 ≤ x ∧ x < n := fun x hx => by
  unfold C.someZ at hx
  by_cases h : C.May n k
  · rw [if_pos h] at hx
    obtain ⟨h1, h2, h3, h4⟩ := h
    have := C.some_rng (n := n.toNat) (k := k.toNat) (by omega) hx
    omega
  · rw [if_neg h] at hx
    cases hx
theorem someZ_len (s : Nat) (n k : Int) : (C.someZ s n k).length ≤ 64 := by
  unfold C.someZ
  by_cases h : C.May n k
  · rw [if_pos h]
    obtain ⟨h1, h2, h3, h4⟩ := h
    rw [C.some_length (by omega)]
    omega
  · rw [if_neg h]
    simp
theorem atN_rng (N seed id : Nat) : ∀ x ∈ atN N seed id, 0 ≤ x ∧ x < (N : Int) := someZ_rng _ _ _
/-- A 1 at each place of L. -/
def onesL (N : Nat) (L : List Int) : List Int := lst N fun j => if (j : Int) ∈ L then 1 else 0
def rowP (K H S : Int) (seed : Nat) (id : Int) : List Int := if MayP K H S ∧ MayI id then onesL (K.toNat + H.toNat) (atN (K.toNat + H.toNat) seed id.toNat) else []
theorem onesL_length (N : Nat) (L : List Int) : (onesL N L).length = N := lst_length _ _
theorem onesL_byt (N : Nat) (L : List Int) : ∀ z ∈ onesL N L, Byt z := lst_byt fun i _ => by
  show Byt (if (i : Int) ∈ L then 1 else 0)
  split <;> (unfold Byt; omega)
theorem onesL_nil (N : Nat) : onesL N [] = List.replicate N 0 := by
  rw [part_nil N (fun _ => 0)]
  apply lst_congr
  intro j _
  simp [part]
theorem onesL_next {N : Nat} {L : List Int} {q : Nat} (h : q < N) : (onesL N L).set q 1 = onesL N (L ++ [(q : Int)]) := by
  unfold onesL
  rw [lst_set]
  apply lst_congr
  intro j _
  by_cases e : j = q
  · subst e
    simp
  · rw [if_neg e]
    have e2 : ¬ ((j : Int) = (q : Int)) := by omega
    simp [e2]
end Go.Proofs.Ytdmcncpndogdlaa
namespace Go.Proofs.Ytdmcncpndogdlaa
open Go.RowKit

theorem Bss.form3 {w : World} {v : Value} {L : List (List Int)} (h : Bss w v L) : ∃ o m c, v = .slice o m c := by
  obtain ⟨o, c, h, _⟩ := h
  exact ⟨o, _, c, h⟩
/-- The contracts of package pre. -/
structure PreOk : Prop where
theorem aheadP_in {K H : Nat} {S : Int} (h : MayP K H S) : aheadP K H S = ahead K H := by
  unfold aheadP
  rw [if_pos h, Int.toNat_natCast, Int.toNat_natCast]
theorem may_params {a b c : Nat} (ha : a < 16) (hb : b < 4) (hc : c < 24) : MayP ((1 + a : Nat) : Int) ((1 + b : Nat) : Int) ((1 + c : Nat) : Int) := by
  unfold MayP
  omega
theorem ahead_one : ahead 1 1 = [[3, 1]] := by
  have h3 : expZ 1 = 3 := by decide +kernel
  simp [ahead, aheadRow, lst, aheadF, List.range_succ, h3]
end Go.Proofs.Ytdmcncpndogdlaa
namespace Go.Proofs.Ytdmcncpndogdlaa
open Go.RowKit

/-- The contracts of package lt: what is told is new memory. -/
structure LtOk : Prop where
theorem atP_i64 (K H S : Int) (seed : Nat) (id : Int) : ∀ x ∈ atP K H S seed id, I64 x := fun x hx => by
  unfold atP at hx
  split at hx
  · rename_i h
    have h1 := atN_rng _ _ _ x hx
    obtain ⟨⟨_, h2, _, h3, _⟩, _⟩ := h
    exact ⟨by omega, by omega⟩
  · cases hx
theorem at_wake : atP 2 1 1 7 3 = [2] := by
  have h : atN 3 7 3 = [2] := by decide +kernel
  unfold atP
  rw [if_pos (by unfold MayP MayI; omega)]
  exact h
theorem row_wake : rowP 2 1 1 7 3 = [0, 0, 1] := by
  have h : onesL 3 (atN 3 7 3) = [0, 0, 1] := by decide +kernel
  unfold rowP
  rw [if_pos (by unfold MayP MayI; omega)]
  exact h
theorem owns_ints {base n : Nat} {w : World} {v : Value} {l : List Int} (ho : w.ownsRow base 3 1 v n (l.map (Value.int .i64))) (hl : l.length = n) (hr : ∀ x ∈ l, I64 x) : Zs w v l := owns_zs ho hl hr
end Go.Proofs.Ytdmcncpndogdlaa
namespace Go.Proofs.Ytdmcncpndogdlaa
open Go.RowKit

theorem tab_pos {N : Nat} (h1 : 1 ≤ N) (h2 : N ≤ 64) {j : Nat} (hj : j < N) : 1 ≤ (T.tabZ N).getD j 0 := by
  rw [T.tabZ_at hj]
  have := T.sum_lt h1 h2 (j + 1) 0 (by omega) (by omega)
  omega
theorem someZ_some {s n k : Nat} (h1 : n ≤ 64) (h2 : k ≤ n) : C.someZ s n k = C.some s n k := by
  unfold C.someZ
  rw [if_pos ⟨by omega, by omega, by omega, by omega⟩, Int.toNat_natCast, Int.toNat_natCast]
theorem belowV_lt (s : Nat) {n : Int} (h : 0 < n) : belowV s n < n := by
  unfold belowV
  rw [if_neg (by omega)]
  exact Int.emod_lt_of_pos _ h
theorem drawV_pos {N : Nat} (h1 : 1 ≤ N) (h2 : N ≤ 64) (s : Nat) : 1 ≤ drawV (T.tab N) s := by
  have hl := T.tabZ_length N
  have hne : T.tabZ N ≠ [] := fun e => by rw [e] at hl; simp at hl; omega
  have hp := tab_pos h1 h2 (j := N - 1) (by omega)
  rw [T.tab_in h1 h2]
  unfold drawV
  rw [if_neg hne]
  have hlast : lastZ' (T.tabZ N) = (T.tabZ N).getD (N - 1) 0 := by unfold lastZ'; rw [hl]
  obtain ⟨j, _, h⟩ := T.deg_some (t := T.tabZ N) (x := belowV s (lastZ' (T.tabZ N))) (belowV_rng _ _).1 (by omega) (by
    rw [hl, ← hlast]
    exact belowV_lt _ (by omega))
  rw [h]
  omega
theorem atN_some {N : Nat} (h1 : 1 ≤ N) (h2 : N ≤ 64) (seed id : Nat) : ∃ s k : Nat, 1 ≤ k ∧ k ≤ N ∧ atN N seed id = C.some s N k := by
  have ha := drawV_pos h1 h2 (nextS (mixS seed id))
  have hb := (drawV_le (T.tab N) (nextS (mixS seed id))).2
  rw [T.tab_in h1 h2, T.tabZ_length] at hb
  rw [T.tab_in h1 h2] at ha
  unfold atN
  rw [T.tab_in h1 h2]
  obtain ⟨k, hk⟩ : ∃ k : Nat, drawV (T.tabZ N) (nextS (mixS seed id)) = k := ⟨(drawV (T.tabZ N) (nextS (mixS seed id))).toNat, by omega⟩
  rw [hk] at ha hb ⊢
  exact ⟨_, k, by omega, by omega, someZ_some h2 (by omega)⟩
theorem atN_len {N : Nat} (h1 : 1 ≤ N) (h2 : N ≤ 64) (seed id : Nat) : 1 ≤ (atN N seed id).length ∧ (atN N seed id).length ≤ N := by
  obtain ⟨s, k, ha, hb, h⟩ := atN_some h1 h2 seed id
  rw [h, C.some_length hb]
  exact ⟨ha, hb⟩
theorem atN_rising {N : Nat} (h1 : 1 ≤ N) (h2 : N ≤ 64) (seed id : Nat) : Rising (atN N seed id) := by
  obtain ⟨s, k, _, hb, h⟩ := atN_some h1 h2 seed id
  rw [h]
  exact rising_of (C.some_sorted hb)
set_option maxHeartbeats 400000 in
theorem member_not (v : Value) (l : List Int) (x : Int) (w : World) (h : Zs w v l) (hx : x ∉ l) (h0 : 0 < l.length) (hl : l.length ≤ 1000) :
    Calls Try.prog 16 #[v, .int .i64 x] w fun e w' => e = .returned (.bool false) ∧ Gr w w' := by
  have hno : ∀ k, k < l.length → l.getD k 0 ≠ x := fun k hk e => hx (by
    rw [← e, List.getD_eq_getElem?_getD, List.getElem?_eq_getElem hk]
    exact List.getElem_mem hk)
  obtain ⟨a, c, rfl, h1, h2, h3⟩ := Zs.at h h0
  obtain ⟨n, hn⟩ : ∃ n, l.length = n := ⟨_, rfl⟩
  rw [hn] at h1 h3 hl hno ⊢
  have HC := Lib.hid h3
  have HX := Lib.hid hno
  clear h h3 hn hx hno h0
  go_enter Try.func16, Try.ntmps16
  go_wp2
  go_loopw [8] (fun i wr => wr = w ∧ ∃ k : Nat, k ≤ n ∧ i = .int .i64 k) (fun i _ => n - (intOf i).toNat)
  case atStart => exact ⟨rfl, 0, by omega, rfl⟩
  case round =>
    obtain ⟨rfl, k, hk, rfl⟩ := hrel
    by_cases hlt : k < n
    · have q := HC.out k hlt
      have hxy := HX.out k hlt
      obtain ⟨y, hy⟩ : ∃ y, l.getD k 0 = y := ⟨_, rfl⟩
      rw [hy] at q hxy
      have hb : (y == x) = false := by simpa using hxy
      clear hy
      go_wp2
      exact ⟨⟨trivial, k + 1, by omega, by go_num⟩, by simp [intOf]; omega⟩
    · go_wp2
      go_ret
      exact ⟨rfl, Gr.refl _⟩
theorem memberB_any (v : Value) (l : List Int) (x : Int) (w : World) (h : Zs w v l) (h0 : 0 < l.length) (hl : l.length ≤ 1000) :
    Calls Try.prog 16 #[v, .int .i64 x] w fun e w' => e = .returned (.bool (decide (x ∈ l))) ∧ Gr w w' := by
  by_cases hx : x ∈ l
  · rw [decide_eq_true hx]
    exact member_any v l x w h hx hl
  · rw [decide_eq_false hx]
    exact member_not v l x w h hx h0 hl
end Go.Proofs.Ytdmcncpndogdlaa
namespace Go.Proofs.Ytdmcncpndogdlaa
open Go.RowKit

/-- The matrix of symbols. -/
def matP (K H S : Int) (seed : Nat) (ids : List Int) : List (List Int) :=
  if MayP K H S then ahead K.toNat H.toNat ++ (ids.filter fun i => decide (MayI i)).map (rowP K H S seed) else []
/-- 0, 1, .., n - 1. -/
def firstI (n : Nat) : List Int := (List.range n).map fun i : Nat => (i : Int)
theorem firstI_length (n : Nat) : (firstI n).length = n := by simp [firstI]
theorem firstI_succ (n : Nat) : firstI (n + 1) = firstI n ++ [(n : Int)] := by simp [firstI, List.range_succ]
theorem firstI_i64 {n : Nat} (h : n ≤ 1000) : ∀ x ∈ firstI n, I64 x := fun x hx => by
  simp only [firstI, List.mem_map, List.mem_range] at hx
  obtain ⟨a, h1, rfl⟩ := hx
  exact ⟨by omega, by omega⟩
/-- All of the rank. -/
def FullP (K H S : Int) (seed : Nat) (ids : List Int) : Prop := MayP K H S ∧ (rkL (matP K H S seed ids) : Int) = colsP K H S
noncomputable instance (K H S : Int) (seed : Nat) (ids : List Int) : Decidable (FullP K H S seed ids) := by unfold FullP; exact inferInstance
/-- The first symbols do. -/
def RightP (K H S : Int) (seed : Nat) : Prop := FullP K H S seed (firstI K.toNat)
noncomputable instance (K H S : Int) (seed : Nat) : Decidable (RightP K H S seed) := by unfold RightP; exact inferInstance
theorem matP_in {K H : Nat} {S : Int} (hm : MayP K H S) (seed : Nat) (ids : List Int) : matP K H S seed ids = ahead K H ++ (ids.filter fun i => decide (MayI i)).map (rowP K H S seed) := by
  unfold matP
  rw [if_pos hm, Int.toNat_natCast, Int.toNat_natCast]
theorem rowP_in {K H : Nat} {S id : Int} (hm : MayP K H S) (hi : MayI id) (seed : Nat) : rowP K H S seed id = onesL (K + H) (atN (K + H) seed id.toNat) := by
  unfold rowP
  rw [if_pos ⟨hm, hi⟩, Int.toNat_natCast, Int.toNat_natCast]
theorem rowP_wide {K H : Nat} {S id : Int} (hm : MayP K H S) (hi : MayI id) (seed : Nat) : (rowP K H S seed id).length = K + H ∧ ∀ z ∈ rowP K H S seed id, Byt z := by
  rw [rowP_in hm hi]
  exact ⟨onesL_length _ _, onesL_byt _ _⟩
theorem matP_wide {K H : Nat} {S : Int} (hm : MayP K H S) (seed : Nat) (ids : List Int) : Wide (K + H) (matP K H S seed ids) := fun r hr => by
  rw [matP_in hm, List.mem_append] at hr
  rcases hr with hr | hr
  · exact ahead_wide K H r hr
  · obtain ⟨i, hi, rfl⟩ := List.mem_map.1 hr
    exact rowP_wide hm (of_decide_eq_true (List.mem_filter.1 hi).2) seed
theorem matP_may (K H S : Int) (seed : Nat) (ids : List Int) : mayL (matP K H S seed ids) = true := by
  by_cases hm : MayP K H S
  · have h0 := hm
    unfold MayP at h0
    obtain ⟨k, rfl⟩ : ∃ k : Nat, K = k := ⟨K.toNat, by omega⟩
    obtain ⟨h, rfl⟩ : ∃ h : Nat, H = h := ⟨H.toNat, by omega⟩
    exact (matP_wide hm seed ids).may (by omega)
  · unfold matP
    rw [if_neg hm]
    rfl
theorem matP_length (K H S : Int) (seed : Nat) (ids : List Int) : (matP K H S seed ids).length ≤ 4 + ids.length := by
  unfold matP
  split
  · rename_i hm
    unfold MayP at hm
    have := List.length_filter_le (fun i => decide (MayI i)) ids
    rw [List.length_append, ahead_length, List.length_map]
    omega
  · simp
theorem matP_snoc (K H S : Int) (seed : Nat) (ids : List Int) (id : Int) : matP K H S seed (ids ++ [id]) = matP K H S seed ids ++ (if MayP K H S ∧ MayI id then [rowP K H S seed id] else []) := by
  unfold matP
  by_cases hm : MayP K H S
  · rw [if_pos hm, if_pos hm, List.filter_append, List.map_append, ← List.append_assoc]
    by_cases hi : MayI id
    · rw [if_pos ⟨hm, hi⟩]
      simp [hi]
    · rw [if_neg (fun e => hi e.2)]
      simp [hi]
  · rw [if_neg hm, if_neg hm, if_neg (fun e => hm e.1)]
    rfl
theorem matP_nil (K H S : Int) (seed : Nat) : matP K H S seed [] = aheadP K H S := by
  unfold matP aheadP
  simp
theorem matP_ne {K H S : Int} (hm : ¬ MayP K H S) (seed : Nat) (ids : List Int) : matP K H S seed ids = [] := by
  unfold matP
  rw [if_neg hm]
theorem rkL_snoc {n : Nat} {A : List (List Int)} {x : List Int} (hA : Wide n A) (hx : x.length = n) : rkL A ≤ rkL (A ++ [x]) ∧ rkL (A ++ [x]) ≤ rkL A + 1 := by
  have hs : L.Same ((A ++ [x]).map vec) (vec x :: A.map vec) := L.Same.of_mem fun y => by
    simp only [List.map_append, List.mem_append, List.map_cons, List.map_nil, List.mem_cons, List.not_mem_nil, or_false]
    exact Or.comm
  have hv : L.Supp n (vec x) := vec_supp hx
  have h := L.rk_cons hA.supp hv
  unfold rkL
  rw [L.rk_same hs]
  by_cases c : L.Sp (A.map vec) (vec x)
  · rw [h.1 c]; omega
  · rw [h.2 c]; omega
/-- The rank hangs on which IDs there are alone. -/
theorem rk_matP_mem {K H S : Int} {seed : Nat} {l l' : List Int} (h : ∀ i, MayI i → (i ∈ l ↔ i ∈ l')) : rkL (matP K H S seed l) = rkL (matP K H S seed l') := by
  by_cases hm : MayP K H S
  · unfold matP
    rw [if_pos hm, if_pos hm]
    refine L.rk_same (L.Same.of_mem fun x => ?_)
    simp only [List.map_append, List.mem_append, List.map_map, List.mem_map, List.mem_filter, decide_eq_true_eq]
    constructor
    · rintro (h1 | ⟨i, ⟨h1, h2⟩, h3⟩)
      · exact .inl h1
      · exact .inr ⟨i, ⟨(h i h2).1 h1, h2⟩, h3⟩
    · rintro (h1 | ⟨i, ⟨h1, h2⟩, h3⟩)
      · exact .inl h1
      · exact .inr ⟨i, ⟨(h i h2).2 h1, h2⟩, h3⟩
  · rw [matP_ne hm, matP_ne hm]
theorem fullP_mem {K H S : Int} {seed : Nat} {l l' : List Int} (h : ∀ i, MayI i → (i ∈ l ↔ i ∈ l')) : FullP K H S seed l ↔ FullP K H S seed l' := by
  unfold FullP
  rw [rk_matP_mem h]
/-- The IDs of numbers. -/
def idN (x : Int) : Int := if x.tmod 7 = 5 then x.tdiv 7 % 65536 else if x.tmod 7 = 6 then x else x.tdiv 7 % 40
def idsL (l : List Int) (n : Nat) : List Int := (l.take n).map idN
theorem idN_i64 {x : Int} (h : I64 x) : I64 (idN x) := by
  unfold idN
  split
  · exact ⟨by omega, by omega⟩
  · split
    · exact h
    · exact ⟨by omega, by omega⟩
theorem idsL_i64 {l : List Int} (h : ∀ x ∈ l, I64 x) (n : Nat) : ∀ x ∈ idsL l n, I64 x := fun x hx => by
  obtain ⟨y, hy, rfl⟩ := List.mem_map.1 hx
  exact idN_i64 (h y (List.mem_of_mem_take hy))
theorem idsL_length (l : List Int) (n : Nat) : (idsL l n).length = min n l.length := by simp [idsL]
theorem idsL_le (l : List Int) (n : Nat) : (idsL l n).length ≤ n := by rw [idsL_length]; omega
theorem idsL_succ {l : List Int} {n : Nat} (h : n < l.length) : idsL l (n + 1) = idsL l n ++ [idN (l.getD n 0)] := by
  unfold idsL
  rw [List.take_add_one, List.getElem?_eq_getElem h, List.map_append, List.getD_eq_getElem?_getD, List.getElem?_eq_getElem h]
  rfl
end Go.Proofs.Ytdmcncpndogdlaa
namespace Go.Proofs.Ytdmcncpndogdlaa
open Go.RowKit

/-- The sum of the middle symbols at places. -/
def addL (S : Nat) (M : List (List Int)) (A : List Int) : List Int := A.foldl (fun s i => sumL (M.getD i.toNat []) s) (List.replicate S 0)
theorem addL_nil (S : Nat) (M : List (List Int)) : addL S M [] = List.replicate S 0 := rfl
theorem addL_snoc (S : Nat) (M : List (List Int)) (A : List Int) (i : Int) : addL S M (A ++ [i]) = sumL (M.getD i.toNat []) (addL S M A) := by
  unfold addL
  rw [List.foldl_append]
  rfl
theorem replicate_byt (S : Nat) : ∀ z ∈ List.replicate S (0 : Int), Byt z := fun z hz => by
  rw [List.eq_of_mem_replicate hz]
  unfold Byt
  omega
theorem sumL_byt {x y : List Int} (hx : ∀ z ∈ x, Byt z) (hy : ∀ z ∈ y, Byt z) : ∀ z ∈ sumL x y, Byt z := lst_byt fun i _ => addZ_byt (getD_byt hx i) (getD_byt hy i)
theorem vec_noughts (S : Nat) : vec (List.replicate S 0) = L.vzero := funext fun j => by
  show fb ((List.replicate S (0 : Int)).getD j 0) = L.zero
  rw [List.getD_eq_getElem?_getD, List.getElem?_replicate]
  split <;> rfl
theorem vec_ones_snoc {N q : Nat} {A : List Int} (hq : q < N) (hn : (q : Int) ∉ A) : vec (onesL N (A ++ [(q : Int)])) = L.vadd (vec (onesL N A)) (L.unit q) := funext fun j => by
  show fb ((onesL N (A ++ [(q : Int)])).getD j 0) = L.add (fb ((onesL N A).getD j 0)) (L.unit q j)
  by_cases hj : j < N
  · unfold onesL
    rw [lst_getD _ _ _ hj, lst_getD _ _ _ hj]
    unfold L.unit
    by_cases e : j = q
    · subst e
      rw [if_pos rfl, if_neg hn, if_pos (by simp), fb_zero, L.zero_add, fb_one]
    · rw [if_neg e, L.add_zero]
      have : ((j : Int) ∈ A ++ [(q : Int)]) = ((j : Int) ∈ A) := by
        simp only [List.mem_append, List.mem_singleton, eq_iff_iff]
        constructor
        · rintro (h | h)
          · exact h
          · omega
        · exact .inl
      simp only [this]
  · rw [getD_out (by rw [onesL_length]; omega), getD_out (by rw [onesL_length]; omega), fb_zero, L.zero_add]
    show L.zero = L.unit q j
    unfold L.unit
    rw [if_neg (by omega)]
/-- What is summed at places is what their row comes to. -/
theorem addL_is {N S : Nat} {M : List (List Int)} (hM : Wide S M) (hl : M.length = N) {A : List Int} (hA : ∀ x ∈ A, 0 ≤ x ∧ x < (N : Int)) (hn : A.Nodup) :
    (addL S M A).length = S ∧ (∀ z ∈ addL S M A, Byt z) ∧ vec (addL S M A) = L.lc (vec (onesL N A)) (M.map vec) := by
  suffices ∀ n, n ≤ A.length → (addL S M (A.take n)).length = S ∧ (∀ z ∈ addL S M (A.take n), Byt z) ∧ vec (addL S M (A.take n)) = L.lc (vec (onesL N (A.take n))) (M.map vec) by
    have := this A.length (Nat.le_refl _)
    rwa [List.take_length] at this
  intro n
  induction n with
  | zero =>
    intro _
    rw [List.take_zero, addL_nil, onesL_nil, vec_noughts, vec_noughts, L.lc_zero]
    exact ⟨by simp, replicate_byt S, rfl⟩
  | succ n ih =>
    intro hle
    obtain ⟨h1, h2, h3⟩ := ih (by omega)
    have hx := hA (A[n]'(by omega)) (List.getElem_mem _)
    obtain ⟨q, hq⟩ : ∃ q : Nat, A[n]'(by omega) = (q : Int) := ⟨(A[n]'(by omega)).toNat, by omega⟩
    have hqN : q < N := by omega
    have htk : A.take (n + 1) = A.take n ++ [(q : Int)] := by
      rw [List.take_add_one, List.getElem?_eq_getElem (by omega), hq]
      rfl
    have hni : (q : Int) ∉ A.take n := by
      intro hm
      rw [List.mem_take_iff_getElem] at hm
      obtain ⟨i, hi, he⟩ := hm
      have := (List.getElem_inj (xs := A) (h₀ := by omega) (h₁ := by omega) hn).1 (he.trans hq.symm)
      omega
    have hmq := hM.at q (by omega)
    rw [htk, addL_snoc, Int.toNat_natCast]
    refine ⟨by rw [sumL_length]; exact hmq.1, sumL_byt hmq.2 h2, ?_⟩
    rw [vec_sum hmq.2 h2 (by rw [hmq.1, h1]), vec_ones_snoc hqN hni, L.lc_add, L.lc_unit, rowAt_vec, ← h3, L.vadd_comm]
/-- The i-th source symbol. -/
def srcL (S : Nat) (D : List Int) (i : Nat) : List Int := (D.drop (i * S)).take S
/-- What the middle symbols come to. -/
def rhsL (K H S : Nat) (D : List Int) : List (List Int) := List.replicate H (List.replicate S 0) ++ (List.range K).map (srcL S D)
theorem srcL_length {K S i : Nat} {D : List Int} (hD : D.length = K * S) (hi : i < K) : (srcL S D i).length = S := by
  unfold srcL
  have : (i + 1) * S ≤ K * S := Nat.mul_le_mul_right S (by omega)
  rw [Nat.add_mul, Nat.one_mul] at this
  rw [List.length_take, List.length_drop, hD]
  omega
theorem srcL_byt {S i : Nat} {D : List Int} (hb : ∀ z ∈ D, Byt z) : ∀ z ∈ srcL S D i, Byt z := fun z hz => hb z (List.mem_of_mem_drop (List.mem_of_mem_take hz))
theorem rhsL_wide {K H S : Nat} {D : List Int} (hD : D.length = K * S) (hb : ∀ z ∈ D, Byt z) : Wide S (rhsL K H S D) := fun r hr => by
  unfold rhsL at hr
  rw [List.mem_append] at hr
  rcases hr with hr | hr
  · rw [List.eq_of_mem_replicate hr]
    exact ⟨by simp, replicate_byt S⟩
  · obtain ⟨i, hi, rfl⟩ := List.mem_map.1 hr
    exact ⟨srcL_length hD (List.mem_range.1 hi), srcL_byt hb⟩
theorem rhsL_length (K H S : Nat) (D : List Int) : (rhsL K H S D).length = H + K := by simp [rhsL]
theorem fb_back (x : L.Fb) : fb (x.n : Int) = x ∧ Byt (x.n : Int) := by
  have := x.lt
  refine ⟨?_, by unfold Byt; omega⟩
  apply L.Fb.ext
  show ((x.n : Int)).toNat % 256 = x.n
  rw [Int.toNat_natCast]
  omega
theorem vec_back {n : Nat} {v : L.V} (h : L.Supp n v) : ∃ l : List Int, l.length = n ∧ (∀ z ∈ l, Byt z) ∧ vec l = v := by
  refine ⟨lst n fun j => ((v j).n : Int), lst_length _ _, lst_byt fun i _ => (fb_back (v i)).2, funext fun j => ?_⟩
  show fb ((lst n fun j => ((v j).n : Int)).getD j 0) = v j
  by_cases hj : j < n
  · rw [lst_getD _ _ _ hj, (fb_back (v j)).1]
  · rw [getD_out (by rw [lst_length]; omega), fb_zero, h j (by omega)]
theorem vecs_back {S : Nat} : ∀ X : List L.V, (∀ x ∈ X, L.Supp S x) → ∃ M : List (List Int), Wide S M ∧ M.map vec = X
  | [], _ => ⟨[], Wide.nil S, rfl⟩
  | x :: X, h => by
    obtain ⟨M, h1, h2⟩ := vecs_back X fun y hy => h y (by simp [hy])
    obtain ⟨l, h3, h4, h5⟩ := vec_back (h x (by simp))
    refine ⟨l :: M, fun r hr => ?_, by rw [List.map_cons, h5, h2]⟩
    rcases List.mem_cons.1 hr with rfl | hr
    · exact ⟨h3, h4⟩
    · exact h1 r hr
/-- M are the middle symbols. -/
structure IsMid (K H S : Nat) (seed : Nat) (D : List Int) (M : List (List Int)) : Prop where
  len : M.length = K + H
  wide : Wide S M
  mul : IsMul S (matP K H S seed (firstI K)) M (rhsL K H S D)
theorem firstI_may {n : Nat} (h : n ≤ 1000) : ∀ x ∈ firstI n, MayI x := fun x hx => by
  simp only [firstI, List.mem_map, List.mem_range] at hx
  obtain ⟨a, h1, rfl⟩ := hx
  unfold MayI
  omega
theorem firstM_is {K H S : Nat} (hm : MayP K H S) (seed : Nat) : matP K H S seed (firstI K) = ahead K H ++ (firstI K).map (rowP K H S seed) := by
  rw [matP_in hm]
  congr 2
  refine List.filter_eq_self.2 fun x hx => decide_eq_true (firstI_may (by have := hm.2.1; omega) x hx)
theorem firstM_length {K H S : Nat} (hm : MayP K H S) (seed : Nat) : (matP K H S seed (firstI K)).length = H + K := by
  rw [firstM_is hm, List.length_append, ahead_length, List.length_map, firstI_length]
theorem right_rk {K H S : Nat} {seed : Nat} (hr : RightP K H S seed) : rkL (matP K H S seed (firstI K)) = K + H := by
  unfold RightP at hr
  rw [Int.toNat_natCast] at hr
  have h := hr.2
  have : colsP K H S = K + H := by unfold colsP; rw [if_pos hr.1]
  omega
theorem mid_exists {K H S seed : Nat} {D : List Int} (hr : RightP K H S seed) (hD : D.length = K * S) (hb : ∀ z ∈ D, Byt z) : ∃ M, IsMid K H S seed D M := by
  have hm := hr.1
  have hw := matP_wide hm seed (firstI K)
  obtain ⟨X, h1, h2, h3⟩ := L.square hw.supp (by rw [List.length_map, firstM_length hm, Nat.add_comm]) (right_rk hr) (C := (rhsL K H S D).map vec) (by rw [List.length_map, rhsL_length, Nat.add_comm]) (rhsL_wide hD hb).supp
  obtain ⟨M, m1, m2⟩ := vecs_back (S := S) X h2
  refine ⟨M, ⟨by rw [← h1, ← m2, List.length_map], m1, rhsL_wide hD hb, ?_⟩⟩
  rw [m2, h3]
theorem IsMid.unique {K H S seed : Nat} {D : List Int} {M M' : List (List Int)} (hr : RightP K H S seed) (h : IsMid K H S seed D M) (h' : IsMid K H S seed D M') : M = M' := by
  have hw := matP_wide hr.1 seed (firstI K)
  refine map_vec_inj h.wide h'.wide (L.mul_unique hw.supp (right_rk hr) (by rw [List.length_map, h.len]) (by rw [List.length_map, h'.len]) ?_)
  rw [← h.mul.2, ← h'.mul.2]
end Go.Proofs.Ytdmcncpndogdlaa
