/-
  Texts laid behind one another: St Sl Sp Rv Rw Rk Aq Rl.
-/
import Derived.Test.YtmbikmlknbinpaaMga
import Derived.OpenShut
import Derived.Laws.CopyOwn
import Derived.Deep.RegionHeld3
import Derived.Laws.AppendOwnNone
import Derived.Deep.AppendLies
import Derived.Deep.QuietTactic
import Derived.BigQuiet
namespace Go.Proofs.Ytmbikmlknbinpaa
open Go.RowKit

/-- The sum, on integers. -/
def addZ (a b : Int) : Int := ((a.toNat ^^^ b.toNat : Nat) : Int)
theorem addZ_byt {a b : Int} (ha : Byt a) (hb : Byt b) : Byt (addZ a b) := by
  unfold Byt at *
  have h := M.xor_lt (x := a.toNat) (y := b.toNat) (by omega) (by omega)
  unfold addZ
  omega
/-- From w0 on only new memory was made, and f is a Field (nil, or with its tables) in w. -/
def St (w0 w : World) (f : Value) : Prop := Gr w0 w ∧ IsF w f
theorem St.step {w0 w w' : World} {f : Value} (h : St w0 w f) (hg : Gr w w') : St w0 w' f := ⟨Gr.trans h.1 hg, IsF.grown h.2 hg⟩
theorem within_st {w0 w : World} {f : Value} {x n : Int} (h1 : 1 ≤ n) (h2 : n ≤ 1000000) (h : St w0 w f) :
    Calls Try.prog 17 #[.int .i64 x, .int .i64 n] w fun e w' => e = .returned (.int .i64 (x % n)) ∧ St w0 w' f :=
  (within_any x n h1 h2 w).mono fun _ _ ⟨he, hw⟩ => ⟨he, hw ▸ h⟩

theorem byt_of_wf {a : Int} (h : (Lit.int .u8 a).wf = true) : Byt a := by
  have := bounds_u8 h
  unfold Byt
  omega
theorem byt_nat {a : Int} (h : Byt a) : ∃ x : Nat, a = x ∧ x < 256 := by
  unfold Byt at h
  exact ⟨a.toNat, by omega, by omega⟩

/-! ### The laws of a field, on integers -/
theorem addZ_comm (a b : Int) : addZ a b = addZ b a := by
  unfold addZ
  rw [Nat.xor_comm]
theorem addZ_assoc (a b c : Int) : addZ (addZ a b) c = addZ a (addZ b c) := by
  unfold addZ
  rw [Int.toNat_natCast, Int.toNat_natCast, Nat.xor_assoc]
theorem addZ_self (a : Int) : addZ a a = 0 := by
  unfold addZ
  rw [Nat.xor_self]
  rfl
theorem mulZ_comm (a b : Int) : mulZ a b = mulZ b a := by
  unfold mulZ
  rw [M.mulN_comm]
theorem mulZ_assoc (a b c : Int) : mulZ (mulZ a b) c = mulZ a (mulZ b c) := by
  unfold mulZ
  rw [Int.toNat_natCast, Int.toNat_natCast, M.mulN_assoc]
theorem mulZ_addZ (a b c : Int) (hb : Byt b) (hc : Byt c) : mulZ a (addZ b c) = addZ (mulZ a b) (mulZ a c) := by
  unfold Byt at *
  unfold mulZ addZ
  rw [Int.toNat_natCast, Int.toNat_natCast, Int.toNat_natCast, M.mulN_xor _ _ _ (by omega) (by omega)]
theorem mulZ_one (a : Int) (ha : Byt a) : mulZ a 1 = a := by
  unfold Byt at *
  unfold mulZ
  rw [show (1 : Int).toNat = 1 from rfl, M.mulN_one _ (by omega)]
  omega
theorem sqZ_add (a b : Int) (ha : Byt a) (hb : Byt b) : mulZ (addZ a b) (addZ a b) = addZ (mulZ a a) (mulZ b b) := by
  unfold Byt at *
  unfold mulZ addZ
  rw [Int.toNat_natCast, Int.toNat_natCast, Int.toNat_natCast, M.sq_xor _ _ (by omega) (by omega)]
theorem sqZ_inj (a b : Int) (ha : Byt a) (hb : Byt b) (h : mulZ a a = mulZ b b) : a = b := by
  unfold Byt at *
  unfold mulZ at h
  have := M.sq_inj a.toNat b.toNat (by omega) (by omega) (by omega)
  omega
/-- To square k times, on integers. -/
def sqsZ (k : Nat) (a : Int) : Int := ((M.sqs k a.toNat : Nat) : Int)
theorem sqsZ_zero (a : Int) (ha : Byt a) : sqsZ 0 a = a := by
  unfold Byt at ha
  show ((a.toNat : Nat) : Int) = a
  omega
theorem sqsZ_succ (k : Nat) (a : Int) : sqsZ (k + 1) a = mulZ (sqsZ k a) (sqsZ k a) := rfl
theorem sqsZ_eight (a : Int) (ha : Byt a) : sqsZ 8 a = a := by
  unfold Byt at ha
  unfold sqsZ
  rw [M.sqs_eight _ (by omega)]
  omega
theorem sqsZ_byt (k : Nat) (a : Int) (ha : Byt a) : Byt (sqsZ k a) := by
  cases k with
  | zero => rw [sqsZ_zero a ha]; exact ha
  | succ k => rw [sqsZ_succ]; exact mulZ_byt _ _
theorem mulZ_zero (a : Int) : mulZ a 0 = 0 := by simp [mulZ, M.mulN_zero_right]
theorem mulZ_inv (a : Int) (ha : Byt a) (h0 : a ≠ 0) : mulZ a (invZ a) = 1 := by
  unfold Byt at ha
  unfold mulZ invZ
  rw [Int.toNat_natCast, M.mulN_inv _ (by omega) (by omega)]
  rfl
theorem invZ_inv (a : Int) (ha : Byt a) : invZ (invZ a) = a := by
  unfold Byt at ha
  unfold invZ
  rw [Int.toNat_natCast, M.inv_inv _ (by omega)]
  omega
theorem invZ_unique (a b : Int) (ha : Byt a) (hb : Byt b) (h : mulZ a b = 1) : b = invZ a := by
  unfold Byt at ha hb
  unfold mulZ at h
  unfold invZ
  rw [← M.inv_unique a.toNat b.toNat (by omega) (by omega) (by omega)]
  omega
theorem divZ_back (a b : Int) (ha : Byt a) (hb : Byt b) (h0 : b ≠ 0) : mulZ (mulZ a (invZ b)) b = a := by
  unfold Byt at ha hb
  unfold mulZ invZ
  rw [Int.toNat_natCast, Int.toNat_natCast, M.div_back _ _ (by omega) (by omega) (by omega)]
  omega
theorem mulZ_nought (a b : Int) (ha : Byt a) (hb : Byt b) (h0 : b ≠ 0) : (mulZ a b == 0) = (a == 0) := by
  unfold Byt at ha hb
  have h := M.mulN_eq_zero a.toNat b.toNat
  by_cases e : a = 0
  · subst e
    rw [mulZ_comm, mulZ_zero]
  · rw [beq_eq_false_iff_ne.2 e]
    apply beq_eq_false_iff_ne.2
    intro c
    unfold mulZ at c
    have := h.1 (by omega)
    omega
theorem expZ_add (m n : Int) : mulZ (expZ m) (expZ n) = expZ (m + n) := by
  unfold mulZ expZ
  rw [Int.toNat_natCast, Int.toNat_natCast, M.mul_ex _ _ (by omega) (by omega), show ((m % 255).toNat + (n % 255).toNat) % 255 = ((m + n) % 255).toNat from by omega]
theorem expZ_neg (m : Int) : mulZ (expZ m) (expZ (-m)) = 1 := by
  rw [expZ_add, show m + -m = 0 from by omega]
  decide +kernel
theorem expZ_round (m : Int) : expZ (m + 255) = expZ m := by
  unfold expZ
  rw [show (m + 255) % 255 = m % 255 from by omega]

/-- A row of n bools: at j what g says of j. -/
def tabB (n : Nat) (g : Nat → Bool) : Array Value := ((List.range n).map fun j => Value.bool (g j)).toArray
theorem tabB_size (n : Nat) (g : Nat → Bool) : (tabB n g).size = n := by simp [tabB]
theorem tabB_get (n : Nat) (g : Nat → Bool) (j : Nat) (h : j < n) : (tabB n g)[j]? = some (.bool (g j)) := by
  simp [tabB, h]
theorem tabB_set (n : Nat) (g : Nat → Bool) (k : Nat) (v : Bool) (h : k < n) : (tabB n g).setIfInBounds k (.bool v) = tabB n (fun j => if j = k then v else g j) := by
  apply Array.ext_getElem?
  intro j
  rw [Array.getElem?_setIfInBounds, tabB_size]
  by_cases hj : j < n
  · rw [tabB_get n g j hj, tabB_get n _ j hj]
    by_cases e : k = j
    · subst e
      simp [h]
    · rw [if_neg e, if_neg (fun x => e x.symm)]
  · have h1 : (tabB n g)[j]? = none := by rw [Array.getElem?_eq_none]; rw [tabB_size]; omega
    have h2 : (tabB n (fun j => if j = k then v else g j))[j]? = none := by rw [Array.getElem?_eq_none]; rw [tabB_size]; omega
    rw [if_neg (by omega), h1, h2]
theorem tabB_congr (n : Nat) (g g' : Nat → Bool) (h : ∀ j, j < n → g j = g' j) : tabB n g = tabB n g' := by
  unfold tabB
  congr 1
  exact List.map_congr_left fun j hj => by rw [h j (List.mem_range.1 hj)]
/-- Which bytes the first k powers are. -/
def hadB (k : Nat) : Nat → Bool := fun x => decide (x ≠ 0 ∧ M.lgN x < k)
theorem hadB_nil : tabB 256 (fun _ => false) = tabB 256 (hadB 0) := tabB_congr 256 _ _ fun j _ => by simp [hadB]
theorem hadB_set (k : Nat) (h : k < 255) : (tabB 256 (hadB k)).setIfInBounds (M.exN k) (.bool true) = tabB 256 (hadB (k + 1)) := by
  rw [tabB_set 256 _ _ _ (M.exN_lt k)]
  apply tabB_congr
  intro x hx
  obtain ⟨h1, h2⟩ := M.lg_ex k h
  unfold hadB
  by_cases e : x = M.exN k
  · subst e
    rw [if_pos rfl]
    symm
    simp [h1, h2]
  · rw [if_neg e]
    have : x ≠ 0 → M.lgN x ≠ k := fun h0 c => e (by rw [← c]; exact (M.ex_lg x hx h0).1.symm)
    by_cases h0 : x = 0
    · simp [h0]
    · have h3 := this h0
      have h4 : (M.lgN x < k) ↔ (M.lgN x < k + 1) := by omega
      simp [h0, h4]
theorem hadB_not (k : Nat) (h : k < 255) : hadB k (M.exN k) = false := by
  obtain ⟨h1, h2⟩ := M.lg_ex k h
  unfold hadB
  simp [h1]
theorem expZ_nat (k : Nat) (h : k < 255) : expZ k = ((M.exN k : Nat) : Int) := by
  unfold expZ
  rw [show ((k : Int) % 255).toNat = k from by omega]
theorem lgZ_ex (k : Nat) (h : k < 255) : lgZ ((M.exN k : Nat) : Int) = k := by
  unfold lgZ
  rw [Int.toNat_natCast, (M.lg_ex k h).1]
theorem St.at {w0 w : World} {b : Nat} (h : St w0 w (.pointer (some ⟨b, 0, none⟩))) : FieldAt w b := by
  rcases h.2 with h | ⟨b', h, hf⟩
  · cases h
  · cases h
    exact hf
theorem xorZ (a b : Int) (ha : Byt a) (hb : Byt b) : bits BinOp.xor IntKind.u8 a b = addZ a b := by
  unfold Byt at *
  exact u8_xor a b (by omega) (by omega) (by omega) (by omega)
theorem lgZ_bd (a : Int) : 0 ≤ lgZ a ∧ lgZ a ≤ 255 := by
  have := M.lgN_lt a.toNat
  unfold lgZ
  omega
theorem lgZ_zero : lgZ 0 = 0 := by
  unfold lgZ
  rw [show (0 : Int).toNat = 0 from rfl, M.lgN_zero]
  rfl
theorem maxLg (a : Int) : (if 0 < lgZ a then lgZ a else 0) = lgZ a := by
  have h := lgZ_bd a
  by_cases e : 0 < lgZ a
  · rw [if_pos e]
  · rw [if_neg e]
    omega
end Go.Proofs.Ytmbikmlknbinpaa
namespace Go.Proofs.Ytmbikmlknbinpaa
open Go.RowKit

/-- v is a slice of bytes that reads as l in w. -/
def Bs (w : World) (v : Value) (l : List Int) : Prop :=
  (∀ x ∈ l, Byt x) ∧ ∃ oa c, v = .slice oa l.length c ∧ l.length ≤ c ∧ c ≤ 9223372036854775807 ∧ (oa = none → c = 0) ∧ ∀ a, oa = some a → ∀ i, i < l.length → w.cell? (a.add i) = some (.int .u8 (l.getD i 0))
theorem Bs.nil (w : World) : Bs w (.slice none 0 0) [] := ⟨by simp, none, 0, rfl, by simp, by omega, fun _ => rfl, fun a h => by cases h⟩
theorem Bs.byt {w : World} {v : Value} {l : List Int} (h : Bs w v l) (i : Nat) : Byt (l.getD i 0) := by
  by_cases hi : i < l.length
  · rw [List.getD_eq_getElem?_getD, List.getElem?_eq_getElem hi]
    exact h.1 _ (List.getElem_mem hi)
  · rw [List.getD_eq_getElem?_getD, List.getElem?_eq_none (by omega)]
    unfold Byt
    simp
theorem Bs.at {w : World} {v : Value} {l : List Int} (h : Bs w v l) (hl : 0 < l.length) :
    ∃ a c, v = .slice (some a) l.length c ∧ l.length ≤ c ∧ c ≤ 9223372036854775807 ∧ ∀ i, i < l.length → w.cell? (a.add i) = some (.int .u8 (l.getD i 0)) := by
  obtain ⟨_, oa, c, h1, h2, h3, h4, h5⟩ := h
  cases oa with
  | none => exact absurd (h4 rfl) (by omega)
  | some a => exact ⟨a, c, h1, h2, h3, h5 a rfl⟩
theorem cell_grown {w w' : World} (hg : Gr w w') {a : Addr} {x : Value} (h : w.cell? a = some x) : w'.cell? a = some x := by
  obtain ⟨b, o, s⟩ := a
  have hs : s = none := by simpa using World.cell?_spot h
  subst hs
  cases ho : w.heap[b]? with
  | none => simp [World.cell?, ho] at h
  | some ob =>
    cases ob with
    | cells c t fr =>
      rw [cell_of_row w' b _ c t fr (keptRow hg ho)]
      rw [cell_of_row w b _ c t fr ho] at h
      exact h
    | _ => simp [World.cell?, ho] at h
theorem Bs.grown {w w' : World} {v : Value} {l : List Int} (h : Bs w v l) (hg : Gr w w') : Bs w' v l := by
  obtain ⟨h0, oa, c, h1, h2, h3, h4, h5⟩ := h
  exact ⟨h0, oa, c, h1, h2, h3, h4, fun a ha i hi => cell_grown hg (h5 a ha i hi)⟩

theorem eq_of_getD {x y : List Int} (hl : y.length = x.length) (h : ∀ j, j < x.length → x.getD j 0 = y.getD j 0) : x = y := by
  apply List.ext_getElem hl.symm
  intro j h1 h2
  have := h j h1
  rw [List.getD_eq_getElem?_getD, List.getD_eq_getElem?_getD, List.getElem?_eq_getElem h1, List.getElem?_eq_getElem h2] at this
  simpa using this

set_option maxHeartbeats 400000 in
theorem same_core (a b : Addr) (n ca cb : Nat) (x y : List Int) (w : World) (hn : x.length = n) (hl : y.length = n) (hx : n ≤ ca) (hy : n ≤ cb) (hm : ca ≤ 9223372036854775807)
    (hxc : ∀ i, i < n → w.cell? (a.add i) = some (.int .u8 (x.getD i 0))) (hyc : ∀ i, i < n → w.cell? (b.add i) = some (.int .u8 (y.getD i 0))) :
    Calls Try.prog 20 #[.slice (some a) n ca, .slice (some b) n cb] w fun e w' => e = .returned (.bool (x == y)) ∧ Gr w w' := by
  have HX := Lib.hid hxc
  have HY := Lib.hid hyc
  have HL := Lib.hid hl
  have HN := Lib.hid hn
  clear hxc hyc hl hn
  go_enter Try.func20, Try.ntmps20
  go_wp2
  go_loopw [13] (fun i wr => ∃ k : Nat, k ≤ n ∧ i = .int .i64 k ∧ (∃ d, wr = w.drewN d) ∧ (∀ j, j < k → x.getD j 0 = y.getD j 0)) (fun i _ => n - (intOf i).toNat)
  case atStart => exact ⟨0, by omega, rfl, ⟨0, rfl⟩, by omega⟩
  case round =>
    obtain ⟨k, hk, rfl, ⟨d, rfl⟩, hs⟩ := hrel
    have HS := Lib.hid hs
    clear hs
    by_cases hlt : k < n
    · have h1 := HX.out k hlt
      have h2 := HY.out k hlt
      obtain ⟨p, hp⟩ : ∃ p, x.getD k 0 = p := ⟨_, rfl⟩
      obtain ⟨q, hq⟩ : ∃ q, y.getD k 0 = q := ⟨_, rfl⟩
      rw [hp] at h1
      rw [hq] at h2
      have HP := Lib.hid hp
      have HQ := Lib.hid hq
      clear hp hq
      by_cases he : p = q
      · subst he
        go_wp2
        go_quiet (fail)
        go_wp2
        refine ⟨⟨k + 1, by omega, by go_num, ⟨_, rfl⟩, fun j hj => ?_⟩, by simp [intOf]; omega⟩
        by_cases e : j = k
        · rw [e, HP.out, HQ.out]
        · exact HS.out j (by omega)
      · have hb : (p != q) = true := by simpa using he
        have HE := Lib.hid he
        clear he
        go_wp2
        go_quiet (fail)
        go_wp2
        go_ret
        have hne : (x == y) = false := by
          rw [beq_eq_false_iff_ne]
          intro c
          apply HE.out
          rw [← HP.out, ← HQ.out, c]
        exact ⟨by rw [hne]; rfl, Gr.refl _⟩
    · obtain rfl : k = n := by omega
      go_wp2
      go_ret
      have he : x = y := eq_of_getD (by rw [HL.out, HN.out]) (fun j hj => HS.out j (by rw [HN.out] at hj; exact hj))
      exact ⟨by rw [he]; simp, Gr.refl _⟩
set_option maxHeartbeats 400000 in
theorem same_any (va vb : Value) (x y : List Int) (w : World) (ha : Bs w va x) (hb : Bs w vb y) :
    Calls Try.prog 20 #[va, vb] w fun e w' => e = .returned (.bool (x == y)) ∧ Gr w w' := by
  by_cases hl : y.length = x.length
  · by_cases h0 : 0 < x.length
    · obtain ⟨a, ca, rfl, h1, h2, h3⟩ := Bs.at ha h0
      obtain ⟨b, cb, rfl, h4, h5, h6⟩ := Bs.at hb (by omega)
      rw [hl]
      rw [hl] at h4 h6
      exact same_core a b x.length ca cb x y w rfl hl h1 h4 h2 h3 h6
    · obtain rfl : x = [] := List.eq_nil_of_length_eq_zero (by omega)
      obtain rfl : y = [] := List.eq_nil_of_length_eq_zero (by simpa using hl)
      obtain ⟨_, oa, ca, rfl, _, _, _, _⟩ := ha
      obtain ⟨_, ob, cb, rfl, _, _, _, _⟩ := hb
      go_enter Try.func20, Try.ntmps20
      go_wp2
      go_loopw [13] (fun i wr => i = .int .i64 0 ∧ wr = w) (fun _ _ => 0)
      case atStart => exact ⟨rfl, rfl⟩
      case round =>
        obtain ⟨rfl, rfl⟩ := hrel
        go_wp2
        go_ret
        exact ⟨rfl, Gr.refl _⟩
  · have hne : (x == y) = false := by
      rw [beq_eq_false_iff_ne]
      intro c
      rw [c] at hl
      exact hl rfl
    obtain ⟨_, oa, ca, rfl, h1, h2, _, _⟩ := ha
    obtain ⟨_, ob, cb, rfl, h3, h4, _, _⟩ := hb
    rw [hne]
    generalize x.length = n at *
    generalize y.length = m at *
    have ht : ((n : Int) != m) = true := by simp; omega
    go_enter Try.func20, Try.ntmps20
    go_wp2
    go_ret
    exact ⟨rfl, Gr.refl _⟩
end Go.Proofs.Ytmbikmlknbinpaa
namespace Go.Proofs.Ytmbikmlknbinpaa
open Go.RowKit

/-- A block's cells that are the bytes of a list. -/
def rowB (L : List Int) : Array Value := (L.map (Value.int .u8)).toArray
theorem rowB_size (L : List Int) : (rowB L).size = L.length := by simp [rowB]
theorem rowB_get (L : List Int) (i : Nat) (h : i < L.length) : (rowB L)[i]? = some (.int .u8 (L.getD i 0)) := by
  simp [rowB, h]
theorem rowB_set (L : List Int) (i : Nat) (x : Int) : (rowB L).setIfInBounds i (.int .u8 x) = rowB (L.set i x) := by
  simp [rowB, List.map_set]
theorem rowB_one (L : List Int) : (rowB L).all (·.oneCell') = true := by
  rw [Array.all_eq_true_iff_forall_mem]
  intro v hv
  simp [rowB] at hv
  obtain ⟨j, _, rfl⟩ := hv
  rfl
theorem rowB_made (n : Nat) : madeCells #[.int .u8 0] n = rowB (List.replicate n 0) := by
  apply Array.ext'
  rw [toList_madeCells_one]
  simp [rowB]
/-- Block g is whole, of bytes L. -/
def Blk (w : World) (g : Nat) (L : List Int) : Prop := w.heap[g]? = some (.cells (rowB L) 5 (0, 0))
theorem Blk.grown {w w' : World} {g : Nat} {L : List Int} (h : Blk w g L) (hg : Gr w w') : Blk w' g L := keptRow hg h
theorem Blk.cell {w : World} {g : Nat} {L : List Int} (h : Blk w g L) (i : Nat) (hi : i < L.length) : w.cell? ⟨g, i, none⟩ = some (.int .u8 (L.getD i 0)) := by
  rw [cell_of_row w g i _ _ _ h, rowB_get L i hi]
theorem Blk.bs {w : World} {g : Nat} {L : List Int} (h : Blk w g L) (l : List Int) (c : Nat) (hl : l.length ≤ L.length) (hlc : l.length ≤ c) (hc : c ≤ 9223372036854775807) (hb : ∀ x ∈ l, Byt x) (he : ∀ i, i < l.length → L.getD i 0 = l.getD i 0) :
    Bs w (.slice (some ⟨g, 0, none⟩) l.length c) l :=
  ⟨hb, some ⟨g, 0, none⟩, c, rfl, hlc, hc, (fun h => by cases h), fun a ha i hi => by
    cases ha
    rw [Addr.add_mid, Nat.zero_add, Blk.cell h i (by omega), he i hi]⟩
theorem info5 : (Try.prog.info? 5).map (fun i => (i.zero, i.size, i.bytes)) = some (some (.int .u8 0), 1, 1) := by kernel_rfl
theorem make22 (l c : Nat) (h : l ≤ c) (hc : c ≤ 281474976710656) (w : World) :
    (Instr.makeSlice 24 (.int .i64 (l : Int)) (.int .i64 (c : Int))).run Try.prog w = .ok (.slice (some ⟨w.heap.size, 0, none⟩) l c) (w.alloc (.cells (rowB (List.replicate c 0)) 5)) := by
  obtain ⟨i, hi, hzz⟩ := Option.map_eq_some_iff.1 info5
  simp only [Prod.mk.injEq] at hzz
  obtain ⟨hz, hs, hb⟩ := hzz
  have hr := run_make (P := Try.prog) w 24 5 i _ Try.underlying24 hi hz .i64 .i64 l c (by omega) (by omega) (by rw [hb]; omega) (by omega)
  rw [Int.toNat_natCast, Int.toNat_natCast, hs, Nat.mul_one] at hr
  rw [hr, ← rowB_made]
  rfl

/-- What stands in the two places behind, when k of them are set. -/
def marks (m : Int) : Nat → List Int
  | 0 => [0, 0]
  | 1 => [m, 0]
  | _ => [m, m]
theorem marks_length (m : Int) (k : Nat) : (marks m k).length = 2 := by
  unfold marks
  split <;> rfl
theorem marks_set (l : List Int) (n : Nat) (m : Int) (k : Nat) (hn : l.length = n) (h : k < 2) : (l ++ marks m k).set (n + k) m = l ++ marks m (k + 1) := by
  subst hn
  rw [List.set_append, if_neg (by omega), Nat.add_sub_cancel_left]
  have : k = 0 ∨ k = 1 := by omega
  rcases this with rfl | rfl <;> rfl
def spW (w : World) (L : List Int) : World := w.alloc (.cells (rowB L) 5)
set_option maxHeartbeats 400000 in
theorem spare_core (a : Addr) (n c : Nat) (l : List Int) (m : Int) (w : World) (hn : l.length = n) (h2 : n ≤ 281474976710000) (h0 : 0 < n)
    (hc : ∀ i, i < n → w.cell? (a.add i) = some (.int .u8 (l.getD i 0))) :
    Calls Try.prog 10 #[.slice (some a) n c, .int .u8 m] w fun e w' => ∃ g, e = .returned (.slice (some ⟨g, 0, none⟩) n (n + 2)) ∧ w.heap.size ≤ g ∧ Blk w' g (l ++ [m, m]) ∧ Gr w w' := by
  have HC := Lib.hid hc
  have HN := Lib.hid hn
  have hmk := make22 n (n + 2) (by omega) (by omega)
  rw [show ((n + 2 : Nat) : Int) = (n : Int) + 2 from by omega] at hmk
  clear hc hn
  go_enter Try.func10, Try.ntmps10
  have hsz : (Try.prog.info? 5).map (·.size) = some 1 := by kernel_rfl
  have SZ := Lib.hid hsz
  clear hsz
  have hB := heap_alloc_new w (.cells (rowB (List.replicate (n + 2) 0)) 5)
  have HB := Lib.hid hB
  clear hB
  have HS : Hid ((l.map (Value.int .u8)).length = Nat.min n n) := Lib.hid (by rw [List.length_map, HN.out]; simp)
  have HF : Hid (0 + (l.map (Value.int .u8)).length ≤ (rowB (List.replicate (n + 2) 0)).size) := Lib.hid (by rw [List.length_map, HN.out, rowB_size, List.length_replicate]; omega)
  have H1 : Hid (∀ v ∈ l.map (Value.int .u8), v.oneCell' = true) := Lib.hid (by
    intro v hv
    simp at hv
    obtain ⟨j, _, rfl⟩ := hv
    rfl)
  have HV : Hid (∀ j v, (l.map (Value.int .u8))[j]? = some v → (w.alloc (.cells (rowB (List.replicate (n + 2) 0)) 5)).cell? (a.add j) = some v) := Lib.hid (by
    intro j v hv
    have hj : j < n := by
      have := (List.getElem?_eq_some_iff.1 hv).1
      rw [List.length_map, HN.out] at this
      exact this
    have := HC.out j hj
    rw [cell_grown (Gr.alloc (Gr.refl _) _ _) this]
    simp [HN.out, hj] at hv
    rw [← hv]
    simp [HN.out, hj])
  have HR : Hid ((l.map (Value.int .u8) ++ List.drop (l.map (Value.int .u8)).length (rowB (List.replicate (n + 2) 0)).toList).toArray = rowB (l ++ marks m 0)) := Lib.hid (by
    simp [rowB, HN.out, marks])
  generalize l.map (Value.int .u8) = cs at *
  generalize rowB (List.replicate (n + 2) 0) = cur at *
  go_wp2_with (refine wpList_copy_own rfl _ _ 24 24 rfl 5 Try.underlying24 SZ.out w.heap.size 0 n (n + 2) a n c rfl rfl cur 5 HB.out cs HS.out HV.out HF.out H1.out ?_)
  rw [World.setRow_alloc_new, HR.out]
  clear HR H1 HV HF HS HB SZ HC hmk
  go_loopw [7] (fun i wr => ∃ k : Nat, k ≤ 2 ∧ i = .int .i64 ((n + k : Nat) : Int) ∧ wr = spW w (l ++ marks m k)) (fun i _ => n + 2 - (intOf i).toNat)
  case atStart => exact ⟨0, by omega, rfl, rfl⟩
  case round =>
    obtain ⟨k, hk, rfl, rfl⟩ := hrel
    unfold spW
    by_cases hlt : k < 2
    · have hg : (rowB (l ++ marks m k))[n + k]? = some (.int .u8 ((l ++ marks m k).getD (n + k) 0)) := rowB_get _ _ (by rw [List.length_append, HN.out, marks_length]; omega)
      have HST : Hid ((rowB (l ++ marks m k)).setIfInBounds (n + k) (.int .u8 m) = rowB (l ++ marks m (k + 1))) := Lib.hid (by rw [rowB_set, marks_set l n m k HN.out hlt])
      generalize (l ++ marks m k).getD (n + k) 0 = old at *
      generalize rowB (l ++ marks m k) = C at *
      go_wp2
      exact ⟨⟨k + 1, by omega, by go_num, by rw [HST.out]⟩, by simp [intOf]; omega⟩
    · obtain rfl : k = 2 := by omega
      go_wp2
      go_ret
      exact ⟨_, rfl, Nat.le_refl _, heap_alloc_new _ _, Gr.alloc (Gr.refl _) _ _⟩
set_option maxHeartbeats 400000 in
theorem spare_none (oa : Option Addr) (c : Nat) (m : Int) (w : World) :
    Calls Try.prog 10 #[.slice oa 0 c, .int .u8 m] w fun e w' => ∃ g, e = .returned (.slice (some ⟨g, 0, none⟩) 0 2) ∧ w.heap.size ≤ g ∧ Blk w' g [m, m] ∧ Gr w w' := by
  have hmk : ∀ w, (Instr.makeSlice 24 (.int .i64 0) (.int .i64 2)).run Try.prog w = .ok (.slice (some ⟨w.heap.size, 0, none⟩) 0 2) (w.alloc (.cells (rowB (List.replicate 2 0)) 5)) := fun w => make22 0 2 (by omega) (by omega) w
  have hsz : (Try.prog.info? 5).map (·.size) = some 1 := by kernel_rfl
  have SZ := Lib.hid hsz
  clear hsz
  have HR : Hid (rowB (List.replicate 2 0) = rowB (marks m 0)) := Lib.hid rfl
  generalize rowB (List.replicate 2 0) = cur at *
  go_enter Try.func10, Try.ntmps10
  go_wp2_with (refine wpList_copy_nothing rfl _ _ 24 24 rfl 5 Try.underlying24 SZ.out _ _ _ _ _ _ rfl rfl rfl ?_)
  rw [HR.out]
  clear HR SZ hmk
  go_loopw [7] (fun i wr => ∃ k : Nat, k ≤ 2 ∧ i = .int .i64 (k : Int) ∧ wr = spW w (marks m k)) (fun i _ => 2 - (intOf i).toNat)
  case atStart => exact ⟨0, by omega, rfl, rfl⟩
  case round =>
    obtain ⟨k, hk, rfl, rfl⟩ := hrel
    unfold spW
    by_cases hlt : k < 2
    · have hg : (rowB (marks m k))[k]? = some (.int .u8 ((marks m k).getD k 0)) := rowB_get _ _ (by rw [marks_length]; omega)
      have HST : Hid ((rowB (marks m k)).setIfInBounds k (.int .u8 m) = rowB (marks m (k + 1))) := Lib.hid (by rw [rowB_set]; have := marks_set [] 0 m k rfl hlt; simp at this; rw [this])
      generalize (marks m k).getD k 0 = old at *
      generalize rowB (marks m k) = C at *
      go_wp2
      exact ⟨⟨k + 1, by omega, by go_num, by rw [HST.out]⟩, by simp [intOf]; omega⟩
    · obtain rfl : k = 2 := by omega
      go_wp2
      go_ret
      exact ⟨_, rfl, Nat.le_refl _, heap_alloc_new _ _, Gr.alloc (Gr.refl _) _ _⟩
theorem spare_any (v : Value) (l : List Int) (m : Int) (w : World) (h : Bs w v l) (hc : l.length ≤ 281474976710000) :
    Calls Try.prog 10 #[v, .int .u8 m] w fun e w' => ∃ g, e = .returned (.slice (some ⟨g, 0, none⟩) l.length (l.length + 2)) ∧ w.heap.size ≤ g ∧ Blk w' g (l ++ [m, m]) ∧ Gr w w' := by
  by_cases h0 : 0 < l.length
  · obtain ⟨a, c, rfl, _, _, h3⟩ := Bs.at h h0
    exact spare_core a l.length c l m w rfl hc h0 h3
  · obtain rfl : l = [] := List.eq_nil_of_length_eq_zero (by omega)
    obtain ⟨_, oa, c, rfl, _, _, _, _⟩ := h
    exact spare_none oa c m w

theorem Blk.bs_pre {w : World} {g : Nat} {l r : List Int} (h : Blk w g (l ++ r)) (hb : ∀ x ∈ l, Byt x) (hn : (l ++ r).length ≤ 9223372036854775807) : Bs w (.slice (some ⟨g, 0, none⟩) l.length (l ++ r).length) l :=
  Blk.bs h l _ (by simp) (by simp) hn hb (fun i hi => by
    rw [List.getD_eq_getElem?_getD, List.getD_eq_getElem?_getD, List.getElem?_append_left hi])
set_option maxHeartbeats 400000 in
theorem kept_true (g : Nat) (l : List Int) (vw : Value) (m : Int) (w : World) (h : Blk w g (l ++ [m, m])) (hb : ∀ x ∈ l, Byt x) (hw : Bs w vw l) (hn : l.length ≤ 281474976710000) :
    Calls Try.prog 16 #[.slice (some ⟨g, 0, none⟩) l.length (l.length + 2), vw, .int .u8 m] w fun e w' => e = .returned (.bool true) ∧ Gr w w' := by
  have hB : Bs w (.slice (some ⟨g, 0, none⟩) l.length (l.length + 2)) l := by
    have := Blk.bs_pre h hb (by simp; omega)
    simpa using this
  have HS : Hid (Calls Try.prog 20 #[.slice (some ⟨g, 0, none⟩) l.length (l.length + 2), vw] w fun e w' => e = .returned (.bool true) ∧ Gr w w') := Lib.hid ((same_any _ _ l l w hB hw).mono fun _ _ ⟨he, hg⟩ => ⟨by rw [he]; simp, hg⟩)
  have HM : Hid (∀ k, k < 2 → (l ++ [m, m]).getD (l.length + k) 0 = m ∧ l.length + k < (l ++ [m, m]).length) := Lib.hid (fun k hk => by
    rw [List.getD_eq_getElem?_getD, List.getElem?_append_right (by omega), Nat.add_sub_cancel_left]
    have : k = 0 ∨ k = 1 := by omega
    rcases this with rfl | rfl <;> simp)
  have H := Lib.hid h
  clear h hB hb hw
  generalize l ++ [m, m] = L at *
  generalize l.length = n at *
  go_enter Try.func16, Try.ntmps16
  go_wp2_with (go_at_call 20; refine HS.out.mono ?_; rintro e w' ⟨rfl, hg⟩; have G := Lib.hid hg; clear hg)
  go_loop [8] (fun i => ∃ k : Nat, k ≤ 2 ∧ i = .int .i64 ((n + k : Nat) : Int)) (fun i => n + 2 - (intOf i).toNat)
  case atStart => exact ⟨0, by omega, rfl⟩
  case round =>
    obtain ⟨k, hk, rfl⟩ := hrel
    by_cases hlt : k < 2
    · have hc : w'.cell? ⟨g, n + k, none⟩ = some (.int .u8 m) := by
        rw [Blk.cell (Blk.grown H.out G.out) (n + k) (HM.out k hlt).2, (HM.out k hlt).1]
      go_wp2
      exact ⟨⟨k + 1, by omega, by go_num⟩, by simp [intOf]; omega⟩
    · obtain rfl : k = 2 := by omega
      go_wp2
      go_ret
      exact ⟨rfl, G.out⟩

set_option maxHeartbeats 400000 in
theorem cut_any (v : Value) (l : List Int) (n : Nat) (w : World) (h : Bs w v l) (hn : n ≤ 1000000) :
    Calls Try.prog 21 #[v, .int .i64 n] w fun e w' => ∃ v', e = .returned v' ∧ Bs w' v' (l.take n) ∧ w = w' := by
  obtain ⟨hb, oa, c, rfl, h1, h2, h3, h4⟩ := h
  have hlen : (l.take n).length = min l.length n := by rw [List.length_take, Nat.min_comm]
  have HR : Hid (Bs w (.slice oa (min l.length n) c) (l.take n)) := Lib.hid ⟨fun x hx => hb x (List.mem_of_mem_take hx), oa, c, by rw [hlen], by rw [hlen]; omega, h2, h3, fun a ha i hi => by
    rw [hlen] at hi
    rw [h4 a ha i (by omega), List.getD_eq_getElem?_getD, List.getD_eq_getElem?_getD, List.getElem?_take_of_lt (by omega)]⟩
  clear hlen h4 hb
  generalize l.take n = t at *
  generalize l.length = m at *
  by_cases hm : m ≤ n
  · go_enter Try.func21, Try.ntmps21
    go_wp2
    go_ret
    exact ⟨_, rfl, by rw [Nat.min_eq_left hm] at HR; exact HR.out, rfl⟩
  · go_enter Try.func21, Try.ntmps21
    go_wp2
    go_ret
    exact ⟨_, rfl, by rw [Nat.min_eq_right (by omega)] at HR; exact HR.out, rfl⟩
end Go.Proofs.Ytmbikmlknbinpaa
namespace Go.Proofs.Ytmbikmlknbinpaa
open Go.RowKit

/-- A list by its places. -/
def lst (n : Nat) (f : Nat → Int) : List Int := (List.range n).map f
theorem lst_length (n : Nat) (f : Nat → Int) : (lst n f).length = n := by simp [lst]
theorem lst_getD (n : Nat) (f : Nat → Int) (i : Nat) (h : i < n) : (lst n f).getD i 0 = f i := by simp [lst, h]
theorem lst_congr (n : Nat) (f f' : Nat → Int) (h : ∀ j, j < n → f j = f' j) : lst n f = lst n f' :=
  List.map_congr_left fun j hj => h j (List.mem_range.1 hj)
theorem lst_set (n : Nat) (f : Nat → Int) (k : Nat) (v : Int) : (lst n f).set k v = lst n (fun j => if j = k then v else f j) := by
  apply List.ext_getElem
  · simp [lst]
  intro j h1 h2
  simp only [lst, List.getElem_set, List.getElem_map, List.getElem_range]
  by_cases e : k = j
  · rw [if_pos e, if_pos e.symm]
  · rw [if_neg e, if_neg (fun c => e c.symm)]
theorem lst_self (l : List Int) : lst l.length (fun i => l.getD i 0) = l := by
  apply List.ext_getElem
  · simp [lst]
  intro j h1 h2
  simp [lst, h2]
theorem lst_byt {n : Nat} {f : Nat → Int} (h : ∀ i, i < n → Byt (f i)) : ∀ x ∈ lst n f, Byt x := by
  intro x hx
  simp [lst] at hx
  obtain ⟨i, hi, rfl⟩ := hx
  exact h i hi
/-- The first k places are made, the others are 0. -/
def part (f : Nat → Int) (k : Nat) : Nat → Int := fun j => if j < k then f j else 0
theorem part_set (n : Nat) (f : Nat → Int) (k : Nat) : (lst n (part f k)).set k (f k) = lst n (part f (k + 1)) := by
  rw [lst_set]
  apply lst_congr
  intro j _
  unfold part
  by_cases e : j = k
  · rw [if_pos e, if_pos (by omega), e]
  · by_cases h : j < k
    · rw [if_neg e, if_pos h, if_pos (by omega)]
    · rw [if_neg e, if_neg h, if_neg (by omega)]
theorem part_nil (n : Nat) (f : Nat → Int) : List.replicate n 0 = lst n (part f 0) := by
  apply List.ext_getElem
  · simp [lst]
  intro j h1 h2
  simp [lst, part]
theorem part_all (n : Nat) (f : Nat → Int) : lst n (part f n) = lst n f := lst_congr n _ _ fun j h => by simp [part, h]

theorem far_of {w : World} {g k : Nat} {a : Addr} {v : Value} (hg : w.heap.size ≤ g) (h : w.cell? a = some v) : a ≠ ⟨g, k, none⟩ := by
  intro c
  subst c
  have := World.block_lt_of_cell? w _ h
  simp at this
  omega
theorem cell_set_far {W : World} {x y : Addr} {v u : Value} (h : W.cell? x = some u) (hne : x ≠ y) : (W.setCell y v).drew.cell? x = some u := by
  rw [World.cell?_drew, World.cell?_setCell_other _ _ _ _ hne.symm]
  exact h
/-- c times a, plus b, place by place. -/
def axpyL (c : Int) (a b : List Int) : Nat → Int := fun i => addZ (b.getD i 0) (mulZ c (a.getD i 0))
/-- In wr there stands in block g what k rounds have made; only new memory was written since w. -/
def Making (w : World) (g n : Nat) (f : Nat → Int) (k : Nat) (wr : World) : Prop := Gr w wr ∧ w.heap.size ≤ g ∧ Blk wr g (lst n (part f k))
theorem Making.store {w wr : World} {g n k : Nat} {f : Nat → Int} (h : Making w g n f k wr) : Making w g n f (k + 1) (wr.setCell ⟨g, k, none⟩ (.int .u8 (f k))) := by
  obtain ⟨h1, h2, h3⟩ := h
  refine ⟨Gr.setCell h1 h2 _, h2, ?_⟩
  unfold Blk at *
  rw [heap_setCell_same _ _ _ _ _ _ h3, rowB_set, part_set]

theorem Making.drew {w wr : World} {g n k : Nat} {f : Nat → Int} (h : Making w g n f k wr) : Making w g n f k wr.drew := ⟨Gr.drew h.1, h.2.1, h.2.2⟩
/-- What a call hands back as a row of its own: a slice of a new block that holds just l. -/
def Mine (w w' : World) (e : Ending) (l : List Int) : Prop := ∃ g, e = .returned (.slice (some ⟨g, 0, none⟩) l.length l.length) ∧ w.heap.size ≤ g ∧ Blk w' g l ∧ Gr w w'
end Go.Proofs.Ytmbikmlknbinpaa
namespace Go.Proofs.Ytmbikmlknbinpaa
open Go.RowKit

theorem addZ_zero_left (a : Int) (ha : Byt a) : addZ 0 a = a := by
  unfold Byt at ha
  unfold addZ
  rw [show (0 : Int).toNat = 0 from rfl, Nat.zero_xor]
  omega
theorem mulZ_one_left (a : Int) (ha : Byt a) : mulZ 1 a = a := by rw [mulZ_comm, mulZ_one a ha]
theorem replicate_getD (n i : Nat) : (List.replicate n (0 : Int)).getD i 0 = 0 := by
  rw [List.getD_eq_getElem?_getD, List.getElem?_replicate]
  split <;> rfl
theorem Mine.bs {w w' : World} {e : Ending} {l : List Int} (h : Mine w w' e l) (hb : ∀ x ∈ l, Byt x) (hn : l.length ≤ 9223372036854775807) : ∃ v, e = .returned v ∧ Bs w' v l := by
  obtain ⟨g, he, _, hk, _⟩ := h
  exact ⟨_, he, Blk.bs hk l _ (Nat.le_refl _) (Nat.le_refl _) hn hb fun _ _ => rfl⟩

/-- What the first k places come to. -/
def dotL (x y : List Int) : Nat → Int
  | 0 => 0
  | k + 1 => addZ (dotL x y k) (mulZ (x.getD k 0) (y.getD k 0))
theorem dotL_byt (x y : List Int) : ∀ k, Byt (dotL x y k)
  | 0 => by unfold Byt; simp [dotL]
  | k + 1 => addZ_byt (dotL_byt x y k) (mulZ_byt _ _)
/-- Where a row begins: the place of the first that is not 0; -1: none. -/
def leadL : List Int → Int
  | [] => -1
  | a :: l => if a = 0 then (if leadL l = -1 then -1 else leadL l + 1) else 0
theorem leadL_ge : ∀ l, -1 ≤ leadL l
  | [] => by simp [leadL]
  | a :: l => by
    have := leadL_ge l
    unfold leadL
    split <;> (try split) <;> omega
theorem leadL_at : ∀ (l : List Int) (k : Nat), k < l.length → (∀ j, j < k → l.getD j 0 = 0) → l.getD k 0 ≠ 0 → leadL l = k
  | [], k, h, _, _ => by simp at h
  | a :: l, 0, _, _, h => by
    simp at h
    simp [leadL, h]
  | a :: l, k + 1, hk, h0, h => by
    have ha : a = 0 := by simpa using h0 0 (by omega)
    have := leadL_at l k (by simpa using hk) (fun j hj => by simpa using h0 (j + 1) (by omega)) (by simpa using h)
    subst ha
    have h2 := leadL_ge l
    simp only [leadL]
    rw [if_pos trivial, if_neg (by omega), this]
    omega
theorem leadL_none : ∀ (l : List Int), (∀ j, j < l.length → l.getD j 0 = 0) → leadL l = -1
  | [], _ => rfl
  | a :: l, h => by
    have ha : a = 0 := by simpa using h 0 (by simp)
    have := leadL_none l (fun j hj => by simpa using h (j + 1) (by simpa using hj))
    simp [leadL, ha, this]
end Go.Proofs.Ytmbikmlknbinpaa
namespace Go.Proofs.Ytmbikmlknbinpaa
open Go.RowKit

/-- v is new memory since w (or has no elements), and reads as l in w'. -/
def New (w w' : World) (v : Value) (l : List Int) : Prop :=
  Gr w w' ∧ (∀ x ∈ l, Byt x) ∧ ((l = [] ∧ ∃ oa c, v = .slice oa 0 c ∧ (oa = none → c = 0) ∧ c ≤ 9223372036854775807) ∨
    ∃ g c cur, v = .slice (some ⟨g, 0, none⟩) l.length c ∧ w.heap.size ≤ g ∧ w'.heap[g]? = some (.cells cur 5 (0, 0)) ∧ l.length ≤ c ∧ c ≤ 9223372036854775807 ∧ ∀ i, i < l.length → cur[i]? = some (.int .u8 (l.getD i 0)))
theorem New.bs {w w' : World} {v : Value} {l : List Int} (h : New w w' v l) : Bs w' v l := by
  obtain ⟨_, hb, h | h⟩ := h
  · obtain ⟨rfl, oa, c, rfl, h1, h2⟩ := h
    exact ⟨by simp, oa, c, rfl, by simp, h2, h1, fun a _ i hi => by simp at hi⟩
  · obtain ⟨g, c, cur, rfl, _, h2, h3, h4, h5⟩ := h
    exact ⟨hb, some ⟨g, 0, none⟩, c, rfl, h3, h4, (fun h => by cases h), fun a ha i hi => by
      cases ha
      rw [Addr.add_mid, Nat.zero_add, cell_of_row w' g i _ _ _ h2, h5 i hi]⟩
theorem New.grown {w w' : World} {v : Value} {l : List Int} (h : New w w' v l) : Gr w w' := h.1

def sumL (x y : List Int) : List Int := lst x.length fun i => addZ (x.getD i 0) (y.getD i 0)
def scaleL (c : Int) (x : List Int) : List Int := lst x.length fun i => mulZ c (x.getD i 0)
def axL (c : Int) (x y : List Int) : List Int := lst x.length fun i => addZ (y.getD i 0) (mulZ c (x.getD i 0))
def unitL (n at' : Nat) : List Int := lst n fun i => if i = at' then 1 else 0
theorem sumL_length (x y : List Int) : (sumL x y).length = x.length := lst_length _ _
theorem scaleL_length (c : Int) (x : List Int) : (scaleL c x).length = x.length := lst_length _ _
theorem axL_length (c : Int) (x y : List Int) : (axL c x y).length = x.length := lst_length _ _

/-- The contracts of package row. -/
structure RowOk : Prop where
/-- All of these read so. -/
def Al (w : World) (L : List (Value × List Int)) : Prop := ∀ p ∈ L, Bs w p.1 p.2
theorem Al.grown {w w' : World} {L : List (Value × List Int)} (h : Al w L) (hg : Gr w w') : Al w' L := fun p hp => Bs.grown (h p hp) hg
theorem Al.cons {w : World} {L : List (Value × List Int)} {v : Value} {l : List Int} (h : Bs w v l) (hL : Al w L) : Al w ((v, l) :: L) := fun p hp => by
  rcases List.mem_cons.1 hp with rfl | hp
  · exact h
  · exact hL p hp

theorem lit_bs1 {w : World} (l : List Int) (hb : ∀ x ∈ l, Byt x) (hn : l.length ≤ 1000) : Bs (w.alloc (.cells (rowB l) 5)) (.slice (some ⟨w.heap.size, 0, none⟩) l.length l.length) l :=
  Blk.bs (L := l) (heap_alloc_new _ _) l _ (Nat.le_refl _) (Nat.le_refl _) (by omega) hb fun _ _ => rfl
theorem lit_bs {w : World} (l m : List Int) (hb : ∀ x ∈ l, Byt x) (hn : l.length ≤ 1000) : Bs ((w.alloc (.cells (rowB l) 5)).alloc (.cells (rowB m) 5)) (.slice (some ⟨w.heap.size, 0, none⟩) l.length l.length) l :=
  Blk.bs (L := l) (heap_alloc2_old _ _ _) l _ (Nat.le_refl _) (Nat.le_refl _) (by omega) hb fun _ _ => rfl
theorem lit_bs2 {w : World} (l m : List Int) (hb : ∀ x ∈ m, Byt x) (hn : m.length ≤ 1000) : Bs ((w.alloc (.cells (rowB l) 5)).alloc (.cells (rowB m) 5)) (.slice (some ⟨w.heap.size + 1, 0, none⟩) m.length m.length) m :=
  Blk.bs (L := m) (heap_alloc2_new _ _ _) m _ (Nat.le_refl _) (Nat.le_refl _) (by omega) hb fun _ _ => rfl
end Go.Proofs.Ytmbikmlknbinpaa
namespace Go.Proofs.Ytmbikmlknbinpaa
open Go.RowKit

theorem Addr.add_add' (a : Addr) (m n : Nat) : (a.add m).add n = a.add (m + n) := by
  unfold Addr.add
  by_cases h1 : m = 0
  · subst h1
    simp
  · by_cases h2 : n = 0
    · subst h2
      simp
    · simp [h1, h2]
      omega
theorem _root_.Go.World.ownsRow.of_gr {w w' : World} {base : Nat} {e : TypeId} {size : Nat} {v : Value} {n : Nat} {xs : List Value} (h : w.ownsRow base e size v n xs) (hg : Gr w w') : w'.ownsRow base e size v n xs := by
  obtain ⟨h0, h1 | ⟨g, c, cur, rfl, hb, hgg, h2⟩⟩ := h
  · exact ⟨h0, .inl h1⟩
  · exact ⟨h0, .inr ⟨g, c, cur, rfl, hb, keptRow hg hgg, h2⟩⟩
theorem ownsRow_base {w : World} {base : Nat} {e : TypeId} {size : Nat} {v : Value} {n : Nat} {us : List Value} (h : w.ownsRow base e size v n us) : ∀ g, v.ownBlock = some g → base ≤ g := by
  intro g hg
  obtain ⟨_, ⟨rfl, _⟩ | ⟨g', c, cur, rfl, hb, _⟩⟩ := h
  · simp [Value.ownBlock] at hg
  · simp [Value.ownBlock] at hg
    omega
theorem run_append_in {P : Program} {w : World} (base : Nat) (t ty e : TypeId) (i : TypeInfo) (z : Value) (bytes : Nat) (ht : P.underlying t = some (.slice e)) (hi : P.info? e = some i) (hz : i.zero = some z)
    (hsize : i.size = 1) (hby : i.bytes = bytes) (hzs : z.cells.size = 1) (v : Value) (n : Nat) (xs : List Value) (hown : w.ownsRow base e 1 v n xs)
    (oa : Option Addr) (m c : Nat) (news : List Value) (hno : oa = none → m = 0 ∧ c = 0) (hl : news.length = m) (hnews : ∀ ad, oa = some ad → ∀ j u, news[j]? = some u → w.cell? (ad.add j) = some u) (h1 : ∀ u ∈ news, u.oneCell' = true)
    (h63 : n + m ≤ maxLen) (hbytes : (n + m) * bytes ≤ 140737488355328) (hbase : base ≤ w.heap.size) :
    ∃ v' w', (Builtin.append_ #[t, t] ty #[v, .slice oa m c]).run P w = .ok v' w' ∧ w'.ownsRow base e 1 v' (n + m) (xs ++ news) ∧ w.grownBy w' v.ownBlock := by
  cases oa with
  | none =>
    obtain ⟨rfl, rfl⟩ := hno rfl
    obtain rfl : news = [] := List.eq_nil_of_length_eq_zero hl
    refine ⟨v, w, run_append_owned_none (P := P) (w := w) base t ty e i 1 ht hi v n xs hown, by rw [List.append_nil]; exact hown, ⟨rfl, rfl, rfl, Nat.le_refl _, fun _ _ _ => rfl⟩⟩
  | some ad =>
    obtain ⟨v', w', hr, h2, h3, _⟩ := run_append_own (P := P) w base t ty e i z 1 bytes ht hi hz hsize hby hzs (by omega) v n xs hown ad m c news (by omega) (hnews ad rfl) h1 h63 hbytes hbase
    exact ⟨v', w', hr, h2, h3⟩
theorem wp_append_in {P : Program} {w : World} {o : Oper} {a : Act} {K : Act → World → Prop} {Q : Exit → Act → World → Prop} (s x : Operand) (t : TypeId)
    (ho : o.op = .call { callee := .builtin .append, args := #[s, x], argTypes := #[t, t] })
    (base : Nat) (e : TypeId) (i : TypeInfo) (z : Value) (bytes : Nat) (ht : P.underlying t = some (.slice e)) (hi : P.info? e = some i) (hz : i.zero = some z)
    (hsize : i.size = 1) (hby : i.bytes = bytes) (hzs : z.cells.size = 1) (v : Value) (n : Nat) (xs : List Value) (hs : a.eval s = v) (hown : w.ownsRow base e 1 v n xs)
    (oa : Option Addr) (m c : Nat) (news : List Value) (hx : a.eval x = .slice oa m c) (hno : oa = none → m = 0 ∧ c = 0) (hl : news.length = m) (hnews : ∀ ad, oa = some ad → ∀ j u, news[j]? = some u → w.cell? (ad.add j) = some u) (h1 : ∀ u ∈ news, u.oneCell' = true)
    (h63 : n + m ≤ maxLen) (hbytes : (n + m) * bytes ≤ 140737488355328) (hbase : base ≤ w.heap.size)
    (h : ∀ v' w', w'.ownsRow base e 1 v' (n + m) (xs ++ news) → w.grownBy w' v.ownBlock → K (a.put o.dst v') w') : o.wp P a w K Q := by
  obtain ⟨v', w', hr, h2, h3⟩ := run_append_in (P := P) (w := w) base t o.type e i z bytes ht hi hz hsize hby hzs v n xs hown oa m c news hno hl hnews h1 h63 hbytes hbase
  unfold Oper.wp execOp
  simp only [ho, resolve, invoke, builtin, Sem.run_bind, Sem.run_pure, Result.andThen_ok, List.map_toArray, List.map_cons, List.map_nil, hs, hx, hr]
  exact h v' w' h2 h3
theorem wpList_append_in {P : Program} {w : World} {ops : Array Oper} {rest : List Oper} {o : Oper} {a : Act} {Q : Exit → Act → World → Prop} (hgd : o.guard = none) (s x : Operand) (t : TypeId)
    (ho : o.op = .call { callee := .builtin .append, args := #[s, x], argTypes := #[t, t] })
    (base : Nat) (e : TypeId) (i : TypeInfo) (z : Value) (bytes : Nat) (ht : P.underlying t = some (.slice e)) (hi : P.info? e = some i) (hz : i.zero = some z)
    (hsize : i.size = 1) (hby : i.bytes = bytes) (hzs : z.cells.size = 1) (v : Value) (n : Nat) (xs : List Value) (hs : a.eval s = v) (hown : w.ownsRow base e 1 v n xs)
    (oa : Option Addr) (m c : Nat) (news : List Value) (hx : a.eval x = .slice oa m c) (hno : oa = none → m = 0 ∧ c = 0) (hl : news.length = m) (hnews : ∀ ad, oa = some ad → ∀ j u, news[j]? = some u → w.cell? (ad.add j) = some u) (h1 : ∀ u ∈ news, u.oneCell' = true)
    (h63 : n + m ≤ maxLen) (hbytes : (n + m) * bytes ≤ 140737488355328) (hbase : base ≤ w.heap.size)
    (h : ∀ v' w', w'.ownsRow base e 1 v' (n + m) (xs ++ news) → w.grownBy w' v.ownBlock → wpList P ops Q rest (a.put o.dst v') w') : wpList P ops Q (o :: rest) a w :=
  wpList_plain hgd fun _ hK => wp_append_in s x t ho base e i z bytes ht hi hz hsize hby hzs v n xs hs hown oa m c news hx hno hl hnews h1 h63 hbytes hbase fun v' w' h2 h3 => hK _ _ (h v' w' h2 h3)
theorem step_append_in {P : Program} {w : World} {ops : Array Oper} {o : Oper} {a : Act} {K : Act → World → Prop} {Q : Exit → Act → World → Prop} {E : Prop} (hgd : o.guard = none) (s x : Operand) (t : TypeId)
    (ho : o.op = .call { callee := .builtin .append, args := #[s, x], argTypes := #[t, t] })
    (base : Nat) (e : TypeId) (i : TypeInfo) (z : Value) (bytes : Nat) (ht : P.underlying t = some (.slice e)) (hi : P.info? e = some i) (hz : i.zero = some z)
    (hsize : i.size = 1) (hby : i.bytes = bytes) (hzs : z.cells.size = 1) (v : Value) (n : Nat) (xs : List Value) (hs : a.eval s = v) (hown : w.ownsRow base e 1 v n xs)
    (oa : Option Addr) (m c : Nat) (news : List Value) (hx : a.eval x = .slice oa m c) (hno : oa = none → m = 0 ∧ c = 0) (hl : news.length = m) (hnews : ∀ ad, oa = some ad → ∀ j u, news[j]? = some u → w.cell? (ad.add j) = some u) (h1 : ∀ u ∈ news, u.oneCell' = true)
    (h63 : n + m ≤ maxLen) (hbytes : (n + m) * bytes ≤ 140737488355328) (hbase : base ≤ w.heap.size)
    (h : ∀ v' w', w'.ownsRow base e 1 v' (n + m) (xs ++ news) → w.grownBy w' v.ownBlock → K (a.put o.dst v') w') :
    if Region.wanted o (yielded ops a.tmps) = true then Oper.wp P o a w K Q else E := by
  have hw : Region.wanted o (yielded ops a.tmps) = true := by simp [Region.wanted, hgd]
  rw [if_pos hw]
  exact wp_append_in s x t ho base e i z bytes ht hi hz hsize hby hzs v n xs hs hown oa m c news hx hno hl hnews h1 h63 hbytes hbase h
end Go.Proofs.Ytmbikmlknbinpaa
namespace Go.Proofs.Ytmbikmlknbinpaa
open Go.RowKit

theorem Bs.slice {w : World} {a : Addr} {m cap : Nat} {t : List Int} (h : Bs w (.slice (some a) m cap) t) (hm : t.length = m) (lo hi : Nat) (h1 : lo ≤ hi) (h2 : hi ≤ m) :
    Bs w (.slice (if cap = lo then some a else some (a.add lo)) (hi - lo) (cap - lo)) ((t.drop lo).take (hi - lo)) := by
  obtain ⟨hb, oa, c, he, h3, h4, h5, h6⟩ := h
  cases he
  have hlen : ((t.drop lo).take (hi - lo)).length = hi - lo := by simp; omega
  refine ⟨fun x hx => hb x (List.mem_of_mem_drop (List.mem_of_mem_take hx)), _, cap - lo, by rw [hlen], by rw [hlen]; omega, by omega, ?_, ?_⟩
  · intro hn
    split at hn <;> cases hn
  · intro a' ha i hi2
    rw [hlen] at hi2
    rw [if_neg (by omega)] at ha
    cases ha
    rw [Addr.add_add', h6 a rfl (lo + i) (by omega)]
    congr 2
    rw [List.getD_eq_getElem?_getD, List.getD_eq_getElem?_getD, List.getElem?_take_of_lt hi2, List.getElem?_drop]
theorem Bs.pre {w : World} {a : Addr} {m cap : Nat} {t : List Int} (h : Bs w (.slice (some a) m cap) t) (hm : t.length = m) (n : Nat) (hn : n ≤ m) : Bs w (.slice (some a) n cap) (t.take n) := by
  obtain ⟨hb, oa, c, he, h3, h4, h5, h6⟩ := h
  cases he
  have hlen : (t.take n).length = n := by rw [List.length_take]; omega
  refine ⟨fun x hx => hb x (List.mem_of_mem_take hx), some a, cap, by rw [hlen], by rw [hlen]; omega, h4, (fun h => by cases h), fun a' ha i hi => ?_⟩
  cases ha
  rw [hlen] at hi
  rw [h6 a rfl i (by omega), List.getD_eq_getElem?_getD, List.getD_eq_getElem?_getD, List.getElem?_take_of_lt hi]
theorem same_eq {va vb : Value} {x y : List Int} {w : World} (ha : Bs w va x) (hb : Bs w vb y) (he : x = y) :
    Calls Try.prog 20 #[va, vb] w fun e w' => e = .returned (.bool true) ∧ Gr w w' :=
  (same_any va vb x y w ha hb).mono fun _ _ ⟨h, hg⟩ => ⟨by rw [h, he]; simp, hg⟩
theorem ext_getD {x y : List Int} (hl : x.length = y.length) (h : ∀ i, i < x.length → x.getD i 0 = y.getD i 0) : x = y := eq_of_getD hl.symm h
theorem sumL_getD (x y : List Int) (i : Nat) (h : i < x.length) : (sumL x y).getD i 0 = addZ (x.getD i 0) (y.getD i 0) := lst_getD _ _ i h
theorem scaleL_getD (c : Int) (x : List Int) (i : Nat) (h : i < x.length) : (scaleL c x).getD i 0 = mulZ c (x.getD i 0) := lst_getD _ _ i h
theorem axL_getD (c : Int) (x y : List Int) (i : Nat) (h : i < x.length) : (axL c x y).getD i 0 = addZ (y.getD i 0) (mulZ c (x.getD i 0)) := lst_getD _ _ i h
theorem sumL_comm (A B : List Int) (h : A.length = B.length) : sumL A B = sumL B A :=
  ext_getD (by simp [sumL_length, h]) fun i hi => by
    rw [sumL_length] at hi
    rw [sumL_getD _ _ _ hi, sumL_getD _ _ _ (by omega), addZ_comm]
theorem addZ_zero (a : Int) (ha : Byt a) : addZ a 0 = a := by rw [addZ_comm, addZ_zero_left a ha]
theorem sumL_twice (A B : List Int) (hb : ∀ i, Byt (A.getD i 0)) : sumL (sumL A B) B = A :=
  ext_getD (by simp [sumL_length]) fun i hi => by
    rw [sumL_length, sumL_length] at hi
    rw [sumL_getD _ _ _ (by rw [sumL_length]; exact hi), sumL_getD _ _ _ hi, addZ_assoc, addZ_self, addZ_zero _ (hb i)]
theorem axL_sum (c : Int) (A B E : List Int) (h : A.length = B.length) (h2 : A.length = E.length) (hA : ∀ i, Byt (A.getD i 0)) (hB : ∀ i, Byt (B.getD i 0)) : axL c (sumL A B) E = axL c B (axL c A E) :=
  ext_getD (by simp [sumL_length, axL_length, h]) fun i hi => by
    rw [axL_length, sumL_length] at hi
    rw [axL_getD _ _ _ _ (by rw [sumL_length]; exact hi), axL_getD _ _ _ _ (by omega), axL_getD _ _ _ _ hi, sumL_getD _ _ _ hi, mulZ_addZ _ _ _ (hA i) (hB i), addZ_assoc]
theorem scaleL_scale (c d : Int) (A : List Int) : scaleL c (scaleL d A) = scaleL (mulZ c d) A :=
  ext_getD (by simp [scaleL_length]) fun i hi => by
    rw [scaleL_length, scaleL_length] at hi
    rw [scaleL_getD _ _ _ (by rw [scaleL_length]; exact hi), scaleL_getD _ _ _ hi, scaleL_getD _ _ _ hi, mulZ_assoc]

theorem within_gr (x n : Int) (h1 : 1 ≤ n) (h2 : n ≤ 1000000) (w : World) :
    Calls Try.prog 17 #[.int .i64 x, .int .i64 n] w fun e w' => e = .returned (.int .i64 (x % n)) ∧ Gr w w' :=
  (within_any x n h1 h2 w).mono fun _ _ ⟨he, hw⟩ => ⟨he, hw ▸ Gr.refl _⟩
theorem Bs.cell_at {w : World} {a : Addr} {n c : Nat} {A : List Int} (h : Bs w (.slice (some a) n c) A) (i : Nat) (hi : i < A.length) : w.cell? (a.add i) = some (.int .u8 (A.getD i 0)) := by
  obtain ⟨_, oa, c', he, _, _, _, h6⟩ := h
  obtain ⟨rfl, _, _⟩ : some a = oa ∧ n = A.length ∧ c = c' := by simpa using he
  exact h6 a rfl i hi
theorem unitL_length (n k : Nat) : (unitL n k).length = n := lst_length _ _
theorem addZ_swap (a b c d : Int) : addZ (addZ a b) (addZ c d) = addZ (addZ a c) (addZ b d) := by
  rw [addZ_assoc, ← addZ_assoc b, addZ_comm b c, addZ_assoc c, ← addZ_assoc]
theorem dot_axpy (c : Int) (A B E : List Int) (hA : ∀ i, Byt (A.getD i 0)) (hB : ∀ i, Byt (B.getD i 0)) (hE : ∀ i, Byt (E.getD i 0)) :
    ∀ k, k ≤ A.length → dotL (axL c A B) E k = addZ (mulZ c (dotL E A k)) (dotL B E k)
  | 0, _ => by simp [dotL, mulZ_zero, addZ_self]
  | k + 1, h => by
    have ih := dot_axpy c A B E hA hB hE k (by omega)
    have e1 : mulZ (addZ (B.getD k 0) (mulZ c (A.getD k 0))) (E.getD k 0) = addZ (mulZ c (mulZ (E.getD k 0) (A.getD k 0))) (mulZ (B.getD k 0) (E.getD k 0)) := by
      rw [mulZ_comm _ (E.getD k 0), mulZ_addZ _ _ _ (hB k) (mulZ_byt _ _), addZ_comm, mulZ_comm (E.getD k 0) (B.getD k 0), mulZ_comm (E.getD k 0) (mulZ c _), mulZ_assoc, mulZ_comm (A.getD k 0)]
    simp only [dotL]
    rw [ih, axL_getD _ _ _ _ (by omega), e1, mulZ_addZ _ _ _ (dotL_byt _ _ _) (mulZ_byt _ _), addZ_swap]
theorem unitL_getD (n k i : Nat) (h : i < n) : (unitL n k).getD i 0 = if i = k then 1 else 0 := lst_getD _ _ i h
theorem dot_unit (n k : Nat) (A : List Int) (hA : ∀ i, Byt (A.getD i 0)) (hk : k < n) : ∀ j, j ≤ n → dotL (unitL n k) A j = if k < j then A.getD k 0 else 0
  | 0, _ => by simp [dotL]
  | j + 1, h => by
    have ih := dot_unit n k A hA hk j (by omega)
    simp only [dotL]
    rw [ih, unitL_getD _ _ _ (by omega)]
    by_cases e : j = k
    · subst e
      rw [if_neg (by omega), if_pos rfl, if_pos (by omega), mulZ_one_left _ (hA j), addZ_zero_left _ (hA j)]
    · rw [if_neg e, mulZ_comm 0, mulZ_zero]
      by_cases h2 : k < j
      · rw [if_pos h2, if_pos (by omega), addZ_zero _ (hA k)]
      · rw [if_neg h2, if_neg (by omega)]
        exact addZ_self 0

end Go.Proofs.Ytmbikmlknbinpaa
