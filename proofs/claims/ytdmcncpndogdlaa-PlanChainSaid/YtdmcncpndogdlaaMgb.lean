/-
  Texts laid behind one another: Ops Ref Zp Qb Tb Aq.
-/
import Derived.Test.YtdmcncpndogdlaaMga
import Derived.Deep.QuietTactic
import Derived.BigQuiet
import Derived.Laws.CopyOwn
import Derived.Test.YtdmcncpndogdlaaProg
import Derived.Laws.AppendOwnNone
import Derived.Deep.AppendLies
namespace Go.Proofs.Ytdmcncpndogdlaa
open Go.RowKit

theorem FieldAt.ex {w : World} {b : Nat} (h : FieldAt w b) (i : Nat) (hi : i < 255) : w.cell? ⟨b, i, none⟩ = some (.int .u8 ((M.exN i : Nat) : Int)) := by
  have h1 := h i (.int .u8 ((M.exN i : Nat) : Int)) (by
    rw [Array.getElem?_toList, Array.getElem?_append, if_pos (by rw [tab_size]; exact hi)]
    exact tab_get 255 _ i hi)
  rwa [Nat.zero_add] at h1
theorem FieldAt.lg {w : World} {b : Nat} (h : FieldAt w b) (x : Nat) (hx : x < 256) : w.cell? ⟨b, 255 + x, none⟩ = some (.int .u8 ((M.lgN x : Nat) : Int)) := by
  have h1 := h (255 + x) (.int .u8 ((M.lgN x : Nat) : Int)) (by
    rw [Array.getElem?_toList, Array.getElem?_append, if_neg (by rw [tab_size]; omega), tab_size, Nat.add_sub_cancel_left]
    exact tab_get 256 _ x hx)
  rwa [Nat.zero_add] at h1
theorem FieldAt.grown {w w' : World} {b : Nat} (h : FieldAt w b) (hg : Gr w w') : FieldAt w' b := rangeAt_grown hg h
theorem FieldAt.put {w : World} {b g o : Nat} {u : Value} (h : FieldAt w b) (hne : b ≠ g) : FieldAt (w.setCell ⟨g, o, none⟩ u) b := fun j v hv => by
  rw [World.cell?_of_block (heap_setCell_other _ _ _ _ hne)]
  exact h j v hv

/-- f is nil, or points to a Field whose tables are made. -/
def IsF (w : World) (f : Value) : Prop := f = .pointer none ∨ ∃ b, f = .pointer (some ⟨b, 0, none⟩) ∧ FieldAt w b
theorem IsF.grown {w w' : World} {f : Value} (h : IsF w f) (hg : Gr w w') : IsF w' f := by
  rcases h with h | ⟨b, h1, h2⟩
  · exact Or.inl h
  · exact Or.inr ⟨b, h1, FieldAt.grown h2 hg⟩

/-- The product, on integers. -/
def mulZ (a b : Int) : Int := ((M.mulN a.toNat b.toNat : Nat) : Int)

/-- The byte that turns a into 1, on integers. -/
def invZ (a : Int) : Int := ((M.invN a.toNat : Nat) : Int)

theorem mulZ_byt (a b : Int) : Byt (mulZ a b) := by
  have := M.mulN_lt a.toNat b.toNat
  unfold Byt mulZ
  omega
theorem invZ_byt (a : Int) : Byt (invZ a) := by
  have := M.invN_lt a.toNat
  unfold Byt invZ
  omega


/-- The logarithm, 0 for 0, on integers. -/
def lgZ (a : Int) : Int := ((M.lgN a.toNat : Nat) : Int)

/-- 3^n, whatever n is, on integers. -/
def expZ (n : Int) : Int := ((M.exN (n % 255).toNat : Nat) : Int)
theorem expZ_byt (n : Int) : Byt (expZ n) := by
  have := M.exN_lt (n % 255).toNat
  unfold Byt expZ
  omega

end Go.Proofs.Ytdmcncpndogdlaa
namespace Go.Proofs.Ytdmcncpndogdlaa
open Go.RowKit

theorem shr_nat (y k : Nat) : ((y : Int) / 2 ^ k) = ((y / 2 ^ k : Nat) : Int) := by
  rw [Int.natCast_ediv, Int.natCast_pow]
  rfl
theorem bit8 (y k : Nat) (h : y < 256) : (bits BinOp.and IntKind.u8 ((y : Int) / 2 ^ k) 1 == 1) = y.testBit k := by
  have h2 : y / 2 ^ k < 256 := Nat.lt_of_le_of_lt (Nat.div_le_self _ _) h
  rw [shr_nat, show (1 : Int) = ((1 : Nat) : Int) from rfl, u8_and_nat _ 1 h2 (by omega), nat_mask1, Nat.testBit_eq_decide_div_mod_eq]
  by_cases e : y / 2 ^ k % 2 = 1
  · rw [e]; simp
  · rw [decide_eq_false e, show y / 2 ^ k % 2 = 0 from by omega]
    rfl
theorem bit16 (y k : Nat) (h : y < 65536) : (bits BinOp.and IntKind.u16 ((y : Int) / 2 ^ k) 1 == 1) = y.testBit k := by
  have h2 : y / 2 ^ k < 65536 := Nat.lt_of_le_of_lt (Nat.div_le_self _ _) h
  rw [shr_nat, show (1 : Int) = ((1 : Nat) : Int) from rfl, u16_and_nat _ 1 h2 (by omega), nat_mask1, Nat.testBit_eq_decide_div_mod_eq]
  by_cases e : y / 2 ^ k % 2 = 1
  · rw [e]; simp
  · rw [decide_eq_false e, show y / 2 ^ k % 2 = 0 from by omega]
    rfl
theorem pow_le7 (k : Nat) (h : k ≤ 7) : 2 ^ k ≤ 128 := Nat.pow_le_pow_right (n := 2) (by omega) h
theorem xor16 (c x k : Nat) (hc : c < 65536) (hx : x < 300) (hk : k ≤ 7) : bits BinOp.xor IntKind.u16 (c : Int) (IntKind.u16.wrap ((x : Int) * 2 ^ k)) = ((c ^^^ x * 2 ^ k : Nat) : Int) := by
  have h1 : x * 2 ^ k < 65536 := by
    have := Nat.mul_le_mul (Nat.le_of_lt hx) (pow_le7 k hk)
    omega
  rw [show (x : Int) * 2 ^ k = ((x * 2 ^ k : Nat) : Int) from by rw [Int.natCast_mul, Int.natCast_pow]; rfl, IntKind.wrap_u16, show ((x * 2 ^ k : Nat) : Int) % 65536 = ((x * 2 ^ k : Nat) : Int) from by omega]
  exact u16_xor_nat _ _ hc h1
theorem carry_lt (x y : Nat) (hx : x < 256) : ∀ k, k ≤ 8 → M.carry x y k < 65536
  | 0, _ => by simp [M.carry]
  | k + 1, h => by
    have ih := carry_lt x y hx k (by omega)
    have h1 : x * 2 ^ k < 65536 := by
      have := Nat.mul_le_mul (Nat.le_of_lt hx) (pow_le7 k (by omega))
      omega
    simp only [M.carry]
    split
    · exact Nat.xor_lt_two_pow (n := 16) ih h1
    · simpa using ih
theorem cut_lt (p : Nat) (hp : p < 65536) : ∀ k, k ≤ 8 → M.cutDown p k < 65536
  | 0, _ => hp
  | k + 1, h => by
    have ih := cut_lt p hp k (by omega)
    have h1 : 283 * 2 ^ (7 - k) < 65536 := by
      have := Nat.mul_le_mul (Nat.le_refl 283) (pow_le7 (7 - k) (by omega))
      omega
    simp only [M.cutDown]
    split
    · exact Nat.xor_lt_two_pow (n := 16) ih h1
    · simpa using ih
theorem carry_yes (x y k : Nat) (h : y.testBit k = true) : M.carry x y (k + 1) = M.carry x y k ^^^ x * 2 ^ k := by simp [M.carry, h]
theorem carry_no (x y k : Nat) (h : y.testBit k = false) : M.carry x y (k + 1) = M.carry x y k := by simp [M.carry, h]
theorem cut_yes (p m : Nat) (h8 : 8 ≤ m) (h15 : m ≤ 15) (h : (M.cutDown p (15 - m)).testBit m = true) : M.cutDown p (15 - (m - 1)) = M.cutDown p (15 - m) ^^^ 283 * 2 ^ (m - 8) := by
  rw [show 15 - (m - 1) = (15 - m) + 1 from by omega]
  simp only [M.cutDown]
  rw [show 15 - (15 - m) = m from by omega, show 7 - (15 - m) = m - 8 from by omega, if_pos h]
theorem cut_no (p m : Nat) (h8 : 8 ≤ m) (h15 : m ≤ 15) (h : (M.cutDown p (15 - m)).testBit m = false) : M.cutDown p (15 - (m - 1)) = M.cutDown p (15 - m) := by
  rw [show 15 - (m - 1) = (15 - m) + 1 from by omega]
  simp only [M.cutDown]
  rw [show 15 - (15 - m) = m from by omega, h]
  simp


theorem mul_one_iff (x k : Nat) (hx : x < 256) (hk : k < 256) (h0 : x ≠ 0) : M.mulN x k = 1 ↔ k = M.invN x :=
  ⟨fun h => M.inv_unique x k hx hk h, fun h => by rw [h]; exact M.mulN_inv x hx h0⟩




theorem within_fact (x n : Int) (h : 0 < n) : x.tmod n = x % n ∨ (x.tmod n < 0 ∧ x.tmod n + n = x % n) := by
  have h1 := Int.tmod_eq_emod (a := x) (b := n)
  have h2 := Int.emod_lt_of_pos x h
  have h3 : (n.natAbs : Int) = n := by omega
  split at h1
  · omega
  · omega
set_option maxRecDepth 100000 in
set_option maxHeartbeats 400000 in
theorem within_any (x n : Int) (h1 : 1 ≤ n) (h2 : n ≤ 1000000) (w : World) :
    Calls Try.prog 8 #[.int .i64 x, .int .i64 n] w fun e w' => e = .returned (.int .i64 (x % n)) ∧ w = w' := by
  have ht := within_fact x n (by omega)
  have h3 := Int.emod_lt_of_pos x (by omega : 0 < n)
  have h4 := Int.emod_nonneg x (by omega : n ≠ 0)
  have hn : (n == 0) = false := by simp; omega
  rcases ht with ht | ⟨ht, hu⟩
  · go_enter Try.func8, Try.ntmps8
    go_wp2_with fail
    go_ret
    exact ⟨rfl, rfl⟩
  · obtain ⟨r, hr⟩ : ∃ r, x.tmod n = r := ⟨_, rfl⟩
    rw [hr] at ht hu
    go_enter Try.func8, Try.ntmps8
    go_wp2_with fail
    go_ret
    exact ⟨rfl, rfl⟩

end Go.Proofs.Ytdmcncpndogdlaa
namespace Go.Proofs.Ytdmcncpndogdlaa
open Go.RowKit

theorem Zs.at {w : World} {v : Value} {l : List Int} (h : Zs w v l) (hl : 0 < l.length) :
    ∃ a c, v = .slice (some a) l.length c ∧ l.length ≤ c ∧ c ≤ 9223372036854775807 ∧ ∀ i, i < l.length → w.cell? (a.add i) = some (.int .i64 (l.getD i 0)) := by
  obtain ⟨_, oa, c, h1, h2, h3, h4, h5⟩ := h
  cases oa with
  | none => exact absurd (h4 rfl) (by omega)
  | some a => exact ⟨a, c, h1, h2, h3, h5 a rfl⟩
theorem Zs.form {w : World} {v : Value} {l : List Int} (h : Zs w v l) : ∃ oa c, v = .slice oa l.length c := by
  obtain ⟨_, oa, c, h1, _⟩ := h
  exact ⟨oa, c, h1⟩
theorem Zs.nil (w : World) : Zs w (.slice none 0 0) [] := ⟨by simp, none, 0, rfl, by simp, by omega, fun _ => rfl, fun a h => by cases h⟩
set_option maxHeartbeats 400000 in
theorem sameZ_core (a b : Addr) (n ca cb : Nat) (x y : List Int) (w : World) (hn : x.length = n) (hl : y.length = n) (hx : n ≤ ca) (hy : n ≤ cb) (hm : ca ≤ 9223372036854775807)
    (hxc : ∀ i, i < n → w.cell? (a.add i) = some (.int .i64 (x.getD i 0))) (hyc : ∀ i, i < n → w.cell? (b.add i) = some (.int .i64 (y.getD i 0))) :
    Calls Try.prog 17 #[.slice (some a) n ca, .slice (some b) n cb] w fun e w' => e = .returned (.bool (x == y)) ∧ Gr w w' := by
  have HX := Lib.hid hxc
  have HY := Lib.hid hyc
  have HL := Lib.hid hl
  have HN := Lib.hid hn
  clear hxc hyc hl hn
  go_enter Try.func17, Try.ntmps17
  go_wp2
  go_loopw [13] (fun i wr => ∃ k : Nat, k ≤ n ∧ i = .int .i64 k ∧ (∃ d, wr = w.drewN d) ∧ (∀ j, j < k → x.getD j 0 = y.getD j 0)) (fun i _ => n - (intOf i).toNat)
  case atStart => exact ⟨0, by omega, rfl, ⟨0, rfl⟩, by omega⟩
  case round =>
    obtain ⟨k, hk, rfl, ⟨d, rfl⟩, hs⟩ := hrel
    have HS := Lib.hid hs
    clear hs
    by_cases hlt : k < n
    · have h1 := HX.out k hlt
      have h2 := HY.out k hlt
      obtain ⟨p, hp⟩ : ∃ p, x.getD k 0 = p := ⟨_, rfl⟩
      obtain ⟨q, hq⟩ : ∃ q, y.getD k 0 = q := ⟨_, rfl⟩
      rw [hp] at h1
      rw [hq] at h2
      have HP := Lib.hid hp
      have HQ := Lib.hid hq
      clear hp hq
      by_cases he : p = q
      · subst he
        go_wp2
        go_quiet (fail)
        go_wp2
        refine ⟨⟨k + 1, by omega, by go_num, ⟨_, rfl⟩, fun j hj => ?_⟩, by simp [intOf]; omega⟩
        by_cases e : j = k
        · rw [e, HP.out, HQ.out]
        · exact HS.out j (by omega)
      · have hb : (p != q) = true := by simpa using he
        have HE := Lib.hid he
        clear he
        go_wp2
        go_quiet (fail)
        go_wp2
        go_ret
        have hne : (x == y) = false := by
          rw [beq_eq_false_iff_ne]
          intro c
          apply HE.out
          rw [← HP.out, ← HQ.out, c]
        exact ⟨by rw [hne]; rfl, Gr.refl _⟩
    · obtain rfl : k = n := by omega
      go_wp2
      go_ret
      have he : x = y := eq_of_getD' (by rw [HL.out, HN.out]) (fun j hj => HS.out j (by rw [HN.out] at hj; exact hj))
      exact ⟨by rw [he]; simp, Gr.refl _⟩
set_option maxHeartbeats 400000 in
theorem sameZ_any (va vb : Value) (x y : List Int) (w : World) (ha : Zs w va x) (hb : Zs w vb y) :
    Calls Try.prog 17 #[va, vb] w fun e w' => e = .returned (.bool (x == y)) ∧ Gr w w' := by
  by_cases hl : y.length = x.length
  · by_cases h0 : 0 < x.length
    · obtain ⟨a, ca, rfl, h1, h2, h3⟩ := Zs.at ha h0
      obtain ⟨b, cb, rfl, h4, h5, h6⟩ := Zs.at hb (by omega)
      rw [hl]
      rw [hl] at h4 h6
      exact sameZ_core a b x.length ca cb x y w rfl hl h1 h4 h2 h3 h6
    · obtain rfl : x = [] := List.eq_nil_of_length_eq_zero (by omega)
      obtain rfl : y = [] := List.eq_nil_of_length_eq_zero (by simpa using hl)
      obtain ⟨_, oa, ca, rfl, _, _, _, _⟩ := ha
      obtain ⟨_, ob, cb, rfl, _, _, _, _⟩ := hb
      go_enter Try.func17, Try.ntmps17
      go_wp2
      go_loopw [13] (fun i wr => i = .int .i64 0 ∧ wr = w) (fun _ _ => 0)
      case atStart => exact ⟨rfl, rfl⟩
      case round =>
        obtain ⟨rfl, rfl⟩ := hrel
        go_wp2
        go_ret
        exact ⟨rfl, Gr.refl _⟩
  · have hne : (x == y) = false := by
      rw [beq_eq_false_iff_ne]
      intro c
      rw [c] at hl
      exact hl rfl
    obtain ⟨_, oa, ca, rfl, h1, h2, _, _⟩ := ha
    obtain ⟨_, ob, cb, rfl, h3, h4, _, _⟩ := hb
    rw [hne]
    generalize x.length = n at *
    generalize y.length = m at *
    have ht : ((n : Int) != m) = true := by simp; omega
    go_enter Try.func17, Try.ntmps17
    go_wp2
    go_ret
    exact ⟨rfl, Gr.refl _⟩
/-- A block's cells that are the bytes of a list. -/
def rowZ (L : List Int) : Array Value := (L.map (Value.int .i64)).toArray
theorem rowZ_size (L : List Int) : (rowZ L).size = L.length := by simp [rowZ]
theorem rowZ_get (L : List Int) (i : Nat) (h : i < L.length) : (rowZ L)[i]? = some (.int .i64 (L.getD i 0)) := by
  simp [rowZ, h]
theorem rowZ_set (L : List Int) (i : Nat) (x : Int) : (rowZ L).setIfInBounds i (.int .i64 x) = rowZ (L.set i x) := by
  simp [rowZ, List.map_set]
theorem rowZ_one (L : List Int) : (rowZ L).all (·.oneCell') = true := by
  rw [Array.all_eq_true_iff_forall_mem]
  intro v hv
  simp [rowZ] at hv
  obtain ⟨j, _, rfl⟩ := hv
  rfl
theorem rowZ_made (n : Nat) : madeCells #[.int .i64 0] n = rowZ (List.replicate n 0) := by
  apply Array.ext'
  rw [toList_madeCells_one]
  simp [rowZ]
/-- Block g is whole, of bytes L. -/
def Blz (w : World) (g : Nat) (L : List Int) : Prop := w.heap[g]? = some (.cells (rowZ L) 3 (0, 0))
theorem Blz.grown {w w' : World} {g : Nat} {L : List Int} (h : Blz w g L) (hg : Gr w w') : Blz w' g L := keptRow hg h
theorem Blz.cell {w : World} {g : Nat} {L : List Int} (h : Blz w g L) (i : Nat) (hi : i < L.length) : w.cell? ⟨g, i, none⟩ = some (.int .i64 (L.getD i 0)) := by
  rw [cell_of_row w g i _ _ _ h, rowZ_get L i hi]
theorem Blz.zs {w : World} {g : Nat} {L : List Int} (h : Blz w g L) (l : List Int) (c : Nat) (hl : l.length ≤ L.length) (hlc : l.length ≤ c) (hc : c ≤ 9223372036854775807) (hb : ∀ x ∈ l, I64 x) (he : ∀ i, i < l.length → L.getD i 0 = l.getD i 0) :
    Zs w (.slice (some ⟨g, 0, none⟩) l.length c) l :=
  ⟨hb, some ⟨g, 0, none⟩, c, rfl, hlc, hc, (fun h => by cases h), fun a ha i hi => by
    cases ha
    rw [Addr.add_mid, Nat.zero_add, Blz.cell h i (by omega), he i hi]⟩
theorem infoZ : (Try.prog.info? 3).map (fun i => (i.zero, i.size, i.bytes)) = some (some (.int .i64 0), 1, 8) := by kernel_rfl
theorem makeZ (l c : Nat) (h : l ≤ c) (hc : c ≤ 35184372088832) (w : World) :
    (Instr.makeSlice 23 (.int .i64 (l : Int)) (.int .i64 (c : Int))).run Try.prog w = .ok (.slice (some ⟨w.heap.size, 0, none⟩) l c) (w.alloc (.cells (rowZ (List.replicate c 0)) 3)) := by
  obtain ⟨i, hi, hzz⟩ := Option.map_eq_some_iff.1 infoZ
  simp only [Prod.mk.injEq] at hzz
  obtain ⟨hz, hs, hb⟩ := hzz
  have hr := run_make (P := Try.prog) w 23 3 i _ Try.underlying23 hi hz .i64 .i64 l c (by omega) (by omega) (by rw [hb]; omega) (by omega)
  rw [Int.toNat_natCast, Int.toNat_natCast, hs, Nat.mul_one] at hr
  rw [hr, ← rowZ_made]
  rfl

/-- What stands in the two places behind, when k of them are set. -/
def marksZ (m : Int) : Nat → List Int
  | 0 => [0, 0]
  | 1 => [m, 0]
  | _ => [m, m]
theorem marksZ_length (m : Int) (k : Nat) : (marksZ m k).length = 2 := by
  unfold marksZ
  split <;> rfl
theorem marksZ_set (l : List Int) (n : Nat) (m : Int) (k : Nat) (hn : l.length = n) (h : k < 2) : (l ++ marksZ m k).set (n + k) m = l ++ marksZ m (k + 1) := by
  subst hn
  rw [List.set_append, if_neg (by omega), Nat.add_sub_cancel_left]
  have : k = 0 ∨ k = 1 := by omega
  rcases this with rfl | rfl <;> rfl
def spWZ (w : World) (L : List Int) : World := w.alloc (.cells (rowZ L) 3)
set_option maxHeartbeats 400000 in
theorem spareZ_core (a : Addr) (n c : Nat) (l : List Int) (m : Int) (w : World) (hn : l.length = n) (h2 : n ≤ 35184372088000) (h0 : 0 < n)
    (hc : ∀ i, i < n → w.cell? (a.add i) = some (.int .i64 (l.getD i 0))) :
    Calls Try.prog 10 #[.slice (some a) n c, .int .i64 m] w fun e w' => ∃ g, e = .returned (.slice (some ⟨g, 0, none⟩) n (n + 2)) ∧ w.heap.size ≤ g ∧ Blz w' g (l ++ [m, m]) ∧ Gr w w' := by
  have HC := Lib.hid hc
  have HN := Lib.hid hn
  have hmk := makeZ n (n + 2) (by omega) (by omega)
  rw [show ((n + 2 : Nat) : Int) = (n : Int) + 2 from by omega] at hmk
  clear hc hn
  go_enter Try.func10, Try.ntmps10
  have hsz : (Try.prog.info? 3).map (·.size) = some 1 := by kernel_rfl
  have SZ := Lib.hid hsz
  clear hsz
  have hB := heap_alloc_new w (.cells (rowZ (List.replicate (n + 2) 0)) 3)
  have HB := Lib.hid hB
  clear hB
  have HS : Hid ((l.map (Value.int .i64)).length = Nat.min n n) := Lib.hid (by rw [List.length_map, HN.out]; simp)
  have HF : Hid (0 + (l.map (Value.int .i64)).length ≤ (rowZ (List.replicate (n + 2) 0)).size) := Lib.hid (by rw [List.length_map, HN.out, rowZ_size, List.length_replicate]; omega)
  have H1 : Hid (∀ v ∈ l.map (Value.int .i64), v.oneCell' = true) := Lib.hid (by
    intro v hv
    simp at hv
    obtain ⟨j, _, rfl⟩ := hv
    rfl)
  have HV : Hid (∀ j v, (l.map (Value.int .i64))[j]? = some v → (w.alloc (.cells (rowZ (List.replicate (n + 2) 0)) 3)).cell? (a.add j) = some v) := Lib.hid (by
    intro j v hv
    have hj : j < n := by
      have := (List.getElem?_eq_some_iff.1 hv).1
      rw [List.length_map, HN.out] at this
      exact this
    have := HC.out j hj
    rw [cell_gr (Gr.alloc (Gr.refl _) _ _) this]
    simp [HN.out, hj] at hv
    rw [← hv]
    simp [HN.out, hj])
  have HR : Hid ((l.map (Value.int .i64) ++ List.drop (l.map (Value.int .i64)).length (rowZ (List.replicate (n + 2) 0)).toList).toArray = rowZ (l ++ marksZ m 0)) := Lib.hid (by
    simp [rowZ, HN.out, marksZ])
  generalize l.map (Value.int .i64) = cs at *
  generalize rowZ (List.replicate (n + 2) 0) = cur at *
  go_wp2_with (refine wpList_copy_own rfl _ _ 23 23 rfl 3 Try.underlying23 SZ.out w.heap.size 0 n (n + 2) a n c rfl rfl cur 3 HB.out cs HS.out HV.out HF.out H1.out ?_)
  rw [World.setRow_alloc_new, HR.out]
  clear HR H1 HV HF HS HB SZ HC hmk
  go_loopw [7] (fun i wr => ∃ k : Nat, k ≤ 2 ∧ i = .int .i64 ((n + k : Nat) : Int) ∧ wr = spWZ w (l ++ marksZ m k)) (fun i _ => n + 2 - (intOf i).toNat)
  case atStart => exact ⟨0, by omega, rfl, rfl⟩
  case round =>
    obtain ⟨k, hk, rfl, rfl⟩ := hrel
    unfold spWZ
    by_cases hlt : k < 2
    · have hg : (rowZ (l ++ marksZ m k))[n + k]? = some (.int .i64 ((l ++ marksZ m k).getD (n + k) 0)) := rowZ_get _ _ (by rw [List.length_append, HN.out, marksZ_length]; omega)
      have HST : Hid ((rowZ (l ++ marksZ m k)).setIfInBounds (n + k) (.int .i64 m) = rowZ (l ++ marksZ m (k + 1))) := Lib.hid (by rw [rowZ_set, marksZ_set l n m k HN.out hlt])
      generalize (l ++ marksZ m k).getD (n + k) 0 = old at *
      generalize rowZ (l ++ marksZ m k) = C at *
      go_wp2
      exact ⟨⟨k + 1, by omega, by go_num, by rw [HST.out]⟩, by simp [intOf]; omega⟩
    · obtain rfl : k = 2 := by omega
      go_wp2
      go_ret
      exact ⟨_, rfl, Nat.le_refl _, heap_alloc_new _ _, Gr.alloc (Gr.refl _) _ _⟩
set_option maxHeartbeats 400000 in
theorem spareZ_none (oa : Option Addr) (c : Nat) (m : Int) (w : World) :
    Calls Try.prog 10 #[.slice oa 0 c, .int .i64 m] w fun e w' => ∃ g, e = .returned (.slice (some ⟨g, 0, none⟩) 0 2) ∧ w.heap.size ≤ g ∧ Blz w' g [m, m] ∧ Gr w w' := by
  have hmk : ∀ w, (Instr.makeSlice 23 (.int .i64 0) (.int .i64 2)).run Try.prog w = .ok (.slice (some ⟨w.heap.size, 0, none⟩) 0 2) (w.alloc (.cells (rowZ (List.replicate 2 0)) 3)) := fun w => makeZ 0 2 (by omega) (by omega) w
  have hsz : (Try.prog.info? 3).map (·.size) = some 1 := by kernel_rfl
  have SZ := Lib.hid hsz
  clear hsz
  have HR : Hid (rowZ (List.replicate 2 0) = rowZ (marksZ m 0)) := Lib.hid rfl
  generalize rowZ (List.replicate 2 0) = cur at *
  go_enter Try.func10, Try.ntmps10
  go_wp2_with (refine wpList_copy_nothing rfl _ _ 23 23 rfl 3 Try.underlying23 SZ.out _ _ _ _ _ _ rfl rfl rfl ?_)
  rw [HR.out]
  clear HR SZ hmk
  go_loopw [7] (fun i wr => ∃ k : Nat, k ≤ 2 ∧ i = .int .i64 (k : Int) ∧ wr = spWZ w (marksZ m k)) (fun i _ => 2 - (intOf i).toNat)
  case atStart => exact ⟨0, by omega, rfl, rfl⟩
  case round =>
    obtain ⟨k, hk, rfl, rfl⟩ := hrel
    unfold spWZ
    by_cases hlt : k < 2
    · have hg : (rowZ (marksZ m k))[k]? = some (.int .i64 ((marksZ m k).getD k 0)) := rowZ_get _ _ (by rw [marksZ_length]; omega)
      have HST : Hid ((rowZ (marksZ m k)).setIfInBounds k (.int .i64 m) = rowZ (marksZ m (k + 1))) := Lib.hid (by rw [rowZ_set]; have := marksZ_set [] 0 m k rfl hlt; simp at this; rw [this])
      generalize (marksZ m k).getD k 0 = old at *
      generalize rowZ (marksZ m k) = C at *
      go_wp2
      exact ⟨⟨k + 1, by omega, by go_num, by rw [HST.out]⟩, by simp [intOf]; omega⟩
    · obtain rfl : k = 2 := by omega
      go_wp2
      go_ret
      exact ⟨_, rfl, Nat.le_refl _, heap_alloc_new _ _, Gr.alloc (Gr.refl _) _ _⟩
theorem spareZ_any (v : Value) (l : List Int) (m : Int) (w : World) (h : Zs w v l) (hc : l.length ≤ 35184372088000) :
    Calls Try.prog 10 #[v, .int .i64 m] w fun e w' => ∃ g, e = .returned (.slice (some ⟨g, 0, none⟩) l.length (l.length + 2)) ∧ w.heap.size ≤ g ∧ Blz w' g (l ++ [m, m]) ∧ Gr w w' := by
  by_cases h0 : 0 < l.length
  · obtain ⟨a, c, rfl, _, _, h3⟩ := Zs.at h h0
    exact spareZ_core a l.length c l m w rfl hc h0 h3
  · obtain rfl : l = [] := List.eq_nil_of_length_eq_zero (by omega)
    obtain ⟨_, oa, c, rfl, _, _, _, _⟩ := h
    exact spareZ_none oa c m w

theorem Blz.zs_pre {w : World} {g : Nat} {l r : List Int} (h : Blz w g (l ++ r)) (hb : ∀ x ∈ l, I64 x) (hn : (l ++ r).length ≤ 9223372036854775807) : Zs w (.slice (some ⟨g, 0, none⟩) l.length (l ++ r).length) l :=
  Blz.zs h l _ (by simp) (by simp) hn hb (fun i hi => by
    rw [List.getD_eq_getElem?_getD, List.getD_eq_getElem?_getD, List.getElem?_append_left hi])
theorem ownsRow_form'' {w : World} {base : Nat} {e : TypeId} {v : Value} {n : Nat} {us : List Value} (h : w.ownsRow base e 1 v n us) : ∃ oa c, v = .slice oa n c := by
  obtain ⟨_, ⟨rfl, rfl⟩ | ⟨g, c, cur, rfl, _⟩⟩ := h
  · exact ⟨_, _, rfl⟩
  · exact ⟨_, _, rfl⟩
end Go.Proofs.Ytdmcncpndogdlaa
namespace Go.Proofs.Ytdmcncpndogdlaa
open Go.RowKit

/-- v is a slice of truth values that reads as l in w. -/
def Bl (w : World) (v : Value) (l : List Bool) : Prop :=
  ∃ oa c, v = .slice oa l.length c ∧ l.length ≤ c ∧ c ≤ 9223372036854775807 ∧ (oa = none → c = 0) ∧ ∀ a, oa = some a → ∀ i, i < l.length → w.cell? (a.add i) = some (.bool (l.getD i false))
theorem Bl.grown {w w' : World} {v : Value} {l : List Bool} (h : Bl w v l) (hg : Gr w w') : Bl w' v l := by
  obtain ⟨oa, c, h1, h2, h3, h4, h5⟩ := h
  exact ⟨oa, c, h1, h2, h3, h4, fun a ha i hi => cell_gr hg (h5 a ha i hi)⟩
theorem Bl.nil (w : World) : Bl w (.slice none 0 0) [] := ⟨none, 0, rfl, by simp, by omega, fun _ => rfl, fun a h => by cases h⟩
theorem Bl.form3 {w : World} {v : Value} {l : List Bool} (h : Bl w v l) : ∃ o c, v = .slice o l.length c := by
  obtain ⟨oa, c, h1, _⟩ := h
  exact ⟨oa, c, h1⟩
theorem Bl.addr {w : World} {oa : Option Addr} {m c : Nat} {l : List Bool} (h : Bl w (.slice oa m c) l) (hm : 0 < m) : ∃ a, oa = some a := by
  obtain ⟨oa', c', he, h2, h3, h4, h5⟩ := h
  obtain ⟨rfl, rfl, rfl⟩ : oa = oa' ∧ m = l.length ∧ c = c' := by simpa using he
  cases oa with
  | none => have := h4 rfl; omega
  | some a => exact ⟨a, rfl⟩
theorem Bl.cellAt {w : World} {a : Addr} {m c : Nat} {l : List Bool} (h : Bl w (.slice (some a) m c) l) {i : Nat} (hi : i < m) : w.cell? (a.add i) = some (.bool (l.getD i false)) := by
  obtain ⟨oa', c', he, h2, h3, h4, h5⟩ := h
  obtain ⟨rfl, rfl, rfl⟩ : some a = oa' ∧ m = l.length ∧ c = c' := by simpa using he
  exact h5 a rfl i hi
theorem Bl.len {w : World} {oa : Option Addr} {m c : Nat} {l : List Bool} (h : Bl w (.slice oa m c) l) : l.length = m := by
  obtain ⟨oa', c', he, _⟩ := h
  simp at he
  exact he.2.1.symm
theorem eq_of_getDb : ∀ {x y : List Bool}, x.length = y.length → (∀ j, j < y.length → x.getD j false = y.getD j false) → x = y
  | [], [], _, _ => rfl
  | [], _ :: _, h, _ => by simp at h
  | _ :: _, [], h, _ => by simp at h
  | a :: x, b :: y, h, hj => by
    have h0 := hj 0 (by simp)
    simp at h0
    rw [h0, eq_of_getDb (x := x) (y := y) (by simpa using h) fun j hlt => by simpa using hj (j + 1) (by simpa using hlt)]
/-- A block's cells that are the truth values of a list. -/
def rowT (L : List Bool) : Array Value := (L.map Value.bool).toArray
theorem rowT_size (L : List Bool) : (rowT L).size = L.length := by simp [rowT]
theorem rowT_get (L : List Bool) (i : Nat) (h : i < L.length) : (rowT L)[i]? = some (.bool (L.getD i false)) := by
  simp [rowT, h]
theorem rowT_set (L : List Bool) (i : Nat) (x : Bool) : (rowT L).setIfInBounds i (.bool x) = rowT (L.set i x) := by
  simp [rowT, List.map_set]
theorem rowT_made (n : Nat) : madeCells #[.bool false] n = rowT (List.replicate n false) := by
  apply Array.ext'
  rw [toList_madeCells_one]
  simp [rowT]
/-- Block g is whole, of truth values L. -/
def Blt (w : World) (g : Nat) (L : List Bool) : Prop := w.heap[g]? = some (.cells (rowT L) 4 (0, 0))
theorem Blt.grown {w w' : World} {g : Nat} {L : List Bool} (h : Blt w g L) (hg : Gr w w') : Blt w' g L := keptRow hg h
theorem Blt.cell {w : World} {g : Nat} {L : List Bool} (h : Blt w g L) (i : Nat) (hi : i < L.length) : w.cell? ⟨g, i, none⟩ = some (.bool (L.getD i false)) := by
  rw [cell_of_row w g i _ _ _ h, rowT_get L i hi]
theorem Blt.frozen {w : World} {g : Nat} {L : List Bool} (h : Blt w g L) (i : Nat) : w.frozen? ⟨g, i, none⟩ = false := frozen_of_row w g i _ _ h
theorem Blt.set {w : World} {g : Nat} {L : List Bool} (h : Blt w g L) (i : Nat) (x : Bool) : Blt (w.setCell ⟨g, i, none⟩ (.bool x)) g (L.set i x) := by
  unfold Blt at *
  rw [heap_setCell_same _ _ _ _ _ _ h, rowT_set]
theorem Blt.bl {w : World} {g : Nat} {L : List Bool} (h : Blt w g L) (hn : L.length ≤ 1000000) : Bl w (.slice (some ⟨g, 0, none⟩) L.length L.length) L :=
  ⟨_, _, rfl, Nat.le_refl _, by omega, (fun e => by cases e), fun a ha i hi => by
    cases ha
    rw [Addr.add_mid, Nat.zero_add, Blt.cell h i hi]⟩
theorem infoT : (Try.prog.info? 4).map (fun i => (i.zero, i.size, i.bytes)) = some (some (.bool false), 1, 1) := by kernel_rfl
theorem makeT (l : Nat) (hc : l ≤ 1000000) (w : World) :
    (Instr.makeSlice 48 (.int .i64 (l : Int)) (.int .i64 (l : Int))).run Try.prog w = .ok (.slice (some ⟨w.heap.size, 0, none⟩) l l) (w.alloc (.cells (rowT (List.replicate l false)) 4)) := by
  obtain ⟨i, hi, hzz⟩ := Option.map_eq_some_iff.1 infoT
  simp only [Prod.mk.injEq] at hzz
  obtain ⟨hz, hs, hb⟩ := hzz
  have hr := run_make (P := Try.prog) w 48 4 i _ Try.underlying48 hi hz .i64 .i64 l l (by omega) (by omega) (by rw [hb]; omega) (by omega)
  rw [Int.toNat_natCast, hs, Nat.mul_one] at hr
  rw [hr, ← rowT_made]
  rfl
end Go.Proofs.Ytdmcncpndogdlaa
namespace Go.Proofs.Ytdmcncpndogdlaa.T

/-- The least number whose square is not below l (l up to 64). -/
def root (l : Nat) : Nat := ((List.range 9).find? fun r => decide (l ≤ r * r)).getD 0
/-- The number of binary digits. -/
def digits : Nat → Nat → Nat
  | 0, _ => 0
  | n + 1, x => if x = 0 then 0 else digits n (x / 2) + 1
def peak (l : Nat) : Nat := l / root l
/-- The weight of k, with l columns. -/
def weight (l k : Nat) : Nat :=
  (if 1 < k then 1048576 / (k * (k - 1)) else 1048576 / l) + (if k < peak l then 1048576 * root l / (l * k) else 0) + (if k = peak l then 1048576 * root l * digits 9 (root l) / l else 0)
def sum (l : Nat) : Nat → Nat
  | 0 => 0
  | k + 1 => sum l k + weight l (k + 1)
/-- The table, for l from 1 to 64. -/
def tabZ (l : Nat) : List Int := (List.range l).map fun i => ((sum l (i + 1) : Nat) : Int)
def tab (l : Int) : List Int := if 1 ≤ l ∧ l ≤ 64 then tabZ l.toNat else []
theorem tab_in {l : Nat} (h1 : 1 ≤ l) (h2 : l ≤ 64) : tab l = tabZ l := by
  unfold tab
  rw [if_pos ⟨by omega, by omega⟩, Int.toNat_natCast]
theorem tab_out {l : Int} (h : ¬ (1 ≤ l ∧ l ≤ 64)) : tab l = [] := if_neg h
theorem tabZ_length (l : Nat) : (tabZ l).length = l := by simp [tabZ]
theorem tabZ_at {l i : Nat} (h : i < l) : (tabZ l).getD i 0 = ((sum l (i + 1) : Nat) : Int) := by
  unfold tabZ
  rw [List.getD_eq_getElem?_getD, List.getElem?_map, List.getElem?_range h]
  rfl
theorem weight_pos {l k : Nat} (h1 : 1 ≤ l) (h2 : l ≤ 64) (_ : 1 ≤ k) (h4 : k ≤ 64) : 1 ≤ weight l k := by
  unfold weight
  have : 1 ≤ (if 1 < k then 1048576 / (k * (k - 1)) else 1048576 / l) := by
    split
    · have : k * (k - 1) ≤ 64 * 63 := Nat.mul_le_mul h4 (by omega)
      exact (Nat.le_div_iff_mul_le (Nat.mul_pos (by omega) (by omega))).2 (by omega)
    · exact (Nat.le_div_iff_mul_le (by omega)).2 (by omega)
  omega
theorem sum_lt {l : Nat} (h1 : 1 ≤ l) (h2 : l ≤ 64) : ∀ j i, i < j → j ≤ l → sum l i < sum l j
  | 0, _, h, _ => absurd h (by omega)
  | j + 1, i, h, hj => by
    have hw := weight_pos h1 h2 (k := j + 1) (by omega) (by omega)
    show sum l i < sum l j + weight l (j + 1)
    by_cases e : i = j
    · subst e; omega
    · have := sum_lt h1 h2 j i (by omega) (by omega)
      omega
set_option maxRecDepth 100000 in
theorem sum_top : ∀ l, l < 65 → sum l l < 8388608 := by decide +kernel
set_option maxRecDepth 100000 in
theorem weight_two : ∀ l, l < 65 → ∀ k, k < 65 → 2 ≤ k → k < l → k + 1 ≠ peak l → weight l (k + 1) ≤ weight l 2 := by decide +kernel
set_option maxRecDepth 100000 in
theorem root_ok : ∀ l, l < 65 → 1 ≤ l → l ≤ root l * root l ∧ 1 ≤ root l ∧ root l ≤ 8 ∧ ∀ r, r < 9 → r < root l → r * r < l := by decide +kernel
theorem root_eq {l r : Nat} (h1 : 1 ≤ l) (h2 : l ≤ 64) (h : l ≤ r * r) (hm : ∀ i, i < r → i * i < l) : r = root l := by
  obtain ⟨q1, q2, q3, q4⟩ := root_ok l (by omega) h1
  apply Classical.byContradiction
  intro e
  rcases Nat.lt_or_gt_of_ne e with c | c
  · have := q4 r (by omega) c
    omega
  · have := hm (root l) c
    omega
theorem digits_ok' : ∀ r, r < 9 → 1 ≤ r → ∀ j, j < 5 → r / 2 ^ j = 0 → ((List.range j).all fun i => r / 2 ^ i != 0) = true → digits 9 r = j := by decide +kernel
theorem digits_ok {r j : Nat} (h1 : r < 9) (h2 : 1 ≤ r) (h3 : j < 5) (h4 : r / 2 ^ j = 0) (h5 : ∀ i, i < j → r / 2 ^ i ≠ 0) : digits 9 r = j :=
  digits_ok' r h1 h2 j h3 h4 (List.all_eq_true.2 fun i hi => by simpa using h5 i (List.mem_range.1 hi))
theorem half_ok : ∀ r, r < 9 → ∀ j, j < 5 → r / 2 ^ j ≠ 0 → j < 4 := by decide +kernel
theorem digits_le : ∀ r, r < 9 → digits 9 r ≤ 4 := by decide +kernel
theorem sum_le {l : Nat} (h1 : 1 ≤ l) (h2 : l ≤ 64) {i : Nat} (hi : i ≤ l) : sum l i < 8388608 := by
  have := sum_top l (by omega)
  by_cases e : i = l
  · rw [e]; exact this
  · have := sum_lt h1 h2 l i (by omega) (Nat.le_refl _)
    omega
/-- The degree of a number. -/
def degA : List Int → Int → Nat → Int
  | [], _, _ => 0
  | a :: t, x, k => if x < a then ((k + 1 : Nat) : Int) else degA t x (k + 1)
def deg (t : List Int) (x : Int) : Int := if x < 0 then 0 else degA t x 0
theorem degA_at : ∀ (t : List Int) (x : Int) (k j : Nat), j < t.length → (∀ i, i < j → t.getD i 0 ≤ x) → x < t.getD j 0 → degA t x k = ((k + j + 1 : Nat) : Int)
  | [], _, _, _, h, _, _ => absurd h (by simp)
  | a :: t, x, k, 0, _, _, h => by
    have : x < a := by simpa using h
    unfold degA
    rw [if_pos this]
  | a :: t, x, k, j + 1, hj, hb, h => by
    have h0 : a ≤ x := by simpa using hb 0 (by omega)
    unfold degA
    rw [if_neg (by omega), degA_at t x (k + 1) j (by simpa using hj) (fun i hi => by simpa using hb (i + 1) (by omega)) (by simpa using h)]
    congr 1
    omega
theorem degA_none : ∀ (t : List Int) (x : Int) (k : Nat), (∀ i, i < t.length → t.getD i 0 ≤ x) → degA t x k = 0
  | [], _, _, _ => rfl
  | a :: t, x, k, h => by
    have h0 : a ≤ x := by simpa using h 0 (by simp)
    unfold degA
    rw [if_neg (by omega)]
    exact degA_none t x (k + 1) fun i hi => by simpa using h (i + 1) (by simpa using hi)
theorem deg_at {t : List Int} {x : Int} {j : Nat} (h0 : 0 ≤ x) (hj : j < t.length) (hb : ∀ i, i < j → t.getD i 0 ≤ x) (h : x < t.getD j 0) : deg t x = ((j + 1 : Nat) : Int) := by
  unfold deg
  rw [if_neg (by omega), degA_at t x 0 j hj hb h, Nat.zero_add]
theorem deg_none {t : List Int} {x : Int} (hb : ∀ i, i < t.length → t.getD i 0 ≤ x) : deg t x = 0 := by
  unfold deg
  split
  · rfl
  · exact degA_none t x 0 hb
theorem deg_low {t : List Int} {x : Int} (h : x < 0) : deg t x = 0 := if_pos h
theorem deg_nil (x : Int) : deg [] x = 0 := deg_none fun i hi => absurd hi (by simp)
theorem least {P : Nat → Prop} : ∀ n, P n → ∃ j, j ≤ n ∧ P j ∧ ∀ i, i < j → ¬ P i := by
  intro n
  induction n using Nat.strongRecOn with
  | _ n ih =>
    intro h
    by_cases hex : ∃ i, i < n ∧ P i
    · obtain ⟨i, hi, hp⟩ := hex
      obtain ⟨j, h1, h2, h3⟩ := ih i hi hp
      exact ⟨j, by omega, h2, h3⟩
    · exact ⟨n, Nat.le_refl _, h, fun i hi hp => hex ⟨i, hi, hp⟩⟩
/-- Below the last number there is a degree. -/
theorem deg_some {t : List Int} {x : Int} (h0 : 0 ≤ x) (hl : 0 < t.length) (hx : x < t.getD (t.length - 1) 0) : ∃ j, j < t.length ∧ deg t x = ((j + 1 : Nat) : Int) := by
  obtain ⟨j, hj, h1, h2⟩ := least (P := fun j => x < t.getD j 0) (t.length - 1) hx
  exact ⟨j, by omega, deg_at h0 (by omega) (fun i hi => by have := h2 i hi; omega) h1⟩
end Go.Proofs.Ytdmcncpndogdlaa.T
namespace Go.Proofs.Ytdmcncpndogdlaa
open Go.RowKit

theorem Addr.add_add' (a : Addr) (m n : Nat) : (a.add m).add n = a.add (m + n) := by
  unfold Addr.add
  by_cases h1 : m = 0
  · subst h1
    simp
  · by_cases h2 : n = 0
    · subst h2
      simp
    · simp [h1, h2]
      omega
theorem _root_.Go.World.ownsRow.of_gr {w w' : World} {base : Nat} {e : TypeId} {size : Nat} {v : Value} {n : Nat} {xs : List Value} (h : w.ownsRow base e size v n xs) (hg : Gr w w') : w'.ownsRow base e size v n xs := by
  obtain ⟨h0, h1 | ⟨g, c, cur, rfl, hb, hgg, h2⟩⟩ := h
  · exact ⟨h0, .inl h1⟩
  · exact ⟨h0, .inr ⟨g, c, cur, rfl, hb, keptRow hg hgg, h2⟩⟩
theorem ownsRow_base {w : World} {base : Nat} {e : TypeId} {size : Nat} {v : Value} {n : Nat} {us : List Value} (h : w.ownsRow base e size v n us) : ∀ g, v.ownBlock = some g → base ≤ g := by
  intro g hg
  obtain ⟨_, ⟨rfl, _⟩ | ⟨g', c, cur, rfl, hb, _⟩⟩ := h
  · simp [Value.ownBlock] at hg
  · simp [Value.ownBlock] at hg
    omega
theorem run_append_in {P : Program} {w : World} (base : Nat) (t ty e : TypeId) (i : TypeInfo) (z : Value) (bytes : Nat) (ht : P.underlying t = some (.slice e)) (hi : P.info? e = some i) (hz : i.zero = some z)
    (hsize : i.size = 1) (hby : i.bytes = bytes) (hzs : z.cells.size = 1) (v : Value) (n : Nat) (xs : List Value) (hown : w.ownsRow base e 1 v n xs)
    (oa : Option Addr) (m c : Nat) (news : List Value) (hno : oa = none → m = 0 ∧ c = 0) (hl : news.length = m) (hnews : ∀ ad, oa = some ad → ∀ j u, news[j]? = some u → w.cell? (ad.add j) = some u) (h1 : ∀ u ∈ news, u.oneCell' = true)
    (h63 : n + m ≤ maxLen) (hbytes : (n + m) * bytes ≤ 140737488355328) (hbase : base ≤ w.heap.size) :
    ∃ v' w', (Builtin.append_ #[t, t] ty #[v, .slice oa m c]).run P w = .ok v' w' ∧ w'.ownsRow base e 1 v' (n + m) (xs ++ news) ∧ w.grownBy w' v.ownBlock := by
  cases oa with
  | none =>
    obtain ⟨rfl, rfl⟩ := hno rfl
    obtain rfl : news = [] := List.eq_nil_of_length_eq_zero hl
    refine ⟨v, w, run_append_owned_none (P := P) (w := w) base t ty e i 1 ht hi v n xs hown, by rw [List.append_nil]; exact hown, ⟨rfl, rfl, rfl, Nat.le_refl _, fun _ _ _ => rfl⟩⟩
  | some ad =>
    obtain ⟨v', w', hr, h2, h3, _⟩ := run_append_own (P := P) w base t ty e i z 1 bytes ht hi hz hsize hby hzs (by omega) v n xs hown ad m c news (by omega) (hnews ad rfl) h1 h63 hbytes hbase
    exact ⟨v', w', hr, h2, h3⟩
theorem wp_append_in {P : Program} {w : World} {o : Oper} {a : Act} {K : Act → World → Prop} {Q : Exit → Act → World → Prop} (s x : Operand) (t : TypeId)
    (ho : o.op = .call { callee := .builtin .append, args := #[s, x], argTypes := #[t, t] })
    (base : Nat) (e : TypeId) (i : TypeInfo) (z : Value) (bytes : Nat) (ht : P.underlying t = some (.slice e)) (hi : P.info? e = some i) (hz : i.zero = some z)
    (hsize : i.size = 1) (hby : i.bytes = bytes) (hzs : z.cells.size = 1) (v : Value) (n : Nat) (xs : List Value) (hs : a.eval s = v) (hown : w.ownsRow base e 1 v n xs)
    (oa : Option Addr) (m c : Nat) (news : List Value) (hx : a.eval x = .slice oa m c) (hno : oa = none → m = 0 ∧ c = 0) (hl : news.length = m) (hnews : ∀ ad, oa = some ad → ∀ j u, news[j]? = some u → w.cell? (ad.add j) = some u) (h1 : ∀ u ∈ news, u.oneCell' = true)
    (h63 : n + m ≤ maxLen) (hbytes : (n + m) * bytes ≤ 140737488355328) (hbase : base ≤ w.heap.size)
    (h : ∀ v' w', w'.ownsRow base e 1 v' (n + m) (xs ++ news) → w.grownBy w' v.ownBlock → K (a.put o.dst v') w') : o.wp P a w K Q := by
  obtain ⟨v', w', hr, h2, h3⟩ := run_append_in (P := P) (w := w) base t o.type e i z bytes ht hi hz hsize hby hzs v n xs hown oa m c news hno hl hnews h1 h63 hbytes hbase
  unfold Oper.wp execOp
  simp only [ho, resolve, invoke, builtin, Sem.run_bind, Sem.run_pure, Result.andThen_ok, List.map_toArray, List.map_cons, List.map_nil, hs, hx, hr]
  exact h v' w' h2 h3
theorem wpList_append_in {P : Program} {w : World} {ops : Array Oper} {rest : List Oper} {o : Oper} {a : Act} {Q : Exit → Act → World → Prop} (hgd : o.guard = none) (s x : Operand) (t : TypeId)
    (ho : o.op = .call { callee := .builtin .append, args := #[s, x], argTypes := #[t, t] })
    (base : Nat) (e : TypeId) (i : TypeInfo) (z : Value) (bytes : Nat) (ht : P.underlying t = some (.slice e)) (hi : P.info? e = some i) (hz : i.zero = some z)
    (hsize : i.size = 1) (hby : i.bytes = bytes) (hzs : z.cells.size = 1) (v : Value) (n : Nat) (xs : List Value) (hs : a.eval s = v) (hown : w.ownsRow base e 1 v n xs)
    (oa : Option Addr) (m c : Nat) (news : List Value) (hx : a.eval x = .slice oa m c) (hno : oa = none → m = 0 ∧ c = 0) (hl : news.length = m) (hnews : ∀ ad, oa = some ad → ∀ j u, news[j]? = some u → w.cell? (ad.add j) = some u) (h1 : ∀ u ∈ news, u.oneCell' = true)
    (h63 : n + m ≤ maxLen) (hbytes : (n + m) * bytes ≤ 140737488355328) (hbase : base ≤ w.heap.size)
    (h : ∀ v' w', w'.ownsRow base e 1 v' (n + m) (xs ++ news) → w.grownBy w' v.ownBlock → wpList P ops Q rest (a.put o.dst v') w') : wpList P ops Q (o :: rest) a w :=
  wpList_plain hgd fun _ hK => wp_append_in s x t ho base e i z bytes ht hi hz hsize hby hzs v n xs hs hown oa m c news hx hno hl hnews h1 h63 hbytes hbase fun v' w' h2 h3 => hK _ _ (h v' w' h2 h3)
theorem step_append_in {P : Program} {w : World} {ops : Array Oper} {o : Oper} {a : Act} {K : Act → World → Prop} {Q : Exit → Act → World → Prop} {E : Prop} (hgd : o.guard = none) (s x : Operand) (t : TypeId)
    (ho : o.op = .call { callee := .builtin .append, args := #[s, x], argTypes := #[t, t] })
    (base : Nat) (e : TypeId) (i : TypeInfo) (z : Value) (bytes : Nat) (ht : P.underlying t = some (.slice e)) (hi : P.info? e = some i) (hz : i.zero = some z)
    (hsize : i.size = 1) (hby : i.bytes = bytes) (hzs : z.cells.size = 1) (v : Value) (n : Nat) (xs : List Value) (hs : a.eval s = v) (hown : w.ownsRow base e 1 v n xs)
    (oa : Option Addr) (m c : Nat) (news : List Value) (hx : a.eval x = .slice oa m c) (hno : oa = none → m = 0 ∧ c = 0) (hl : news.length = m) (hnews : ∀ ad, oa = some ad → ∀ j u, news[j]? = some u → w.cell? (ad.add j) = some u) (h1 : ∀ u ∈ news, u.oneCell' = true)
    (h63 : n + m ≤ maxLen) (hbytes : (n + m) * bytes ≤ 140737488355328) (hbase : base ≤ w.heap.size)
    (h : ∀ v' w', w'.ownsRow base e 1 v' (n + m) (xs ++ news) → w.grownBy w' v.ownBlock → K (a.put o.dst v') w') :
    if Region.wanted o (yielded ops a.tmps) = true then Oper.wp P o a w K Q else E := by
  have hw : Region.wanted o (yielded ops a.tmps) = true := by simp [Region.wanted, hgd]
  rw [if_pos hw]
  exact wp_append_in s x t ho base e i z bytes ht hi hz hsize hby hzs v n xs hs hown oa m c news hx hno hl hnews h1 h63 hbytes hbase h
end Go.Proofs.Ytdmcncpndogdlaa
