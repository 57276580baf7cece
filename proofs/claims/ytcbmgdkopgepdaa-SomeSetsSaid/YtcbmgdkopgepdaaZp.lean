/-
  The verifier's comparison of two slices of ints, and its copies with spare room.
-/
import Derived.Test.YtcbmgdkopgepdaaZs
import Derived.Test.YtcbmgdkopgepdaaUs
import Derived.Test.YtcbmgdkopgepdaaRef
import Derived.Deep.QuietTactic
import Derived.BigQuiet
import Derived.Laws.CopyOwn
namespace Go.Proofs.Ytcbmgdkopgepdaa
open Go.RowKit

theorem Zs.at {w : World} {v : Value} {l : List Int} (h : Zs w v l) (hl : 0 < l.length) :
    ∃ a c, v = .slice (some a) l.length c ∧ l.length ≤ c ∧ c ≤ 9223372036854775807 ∧ ∀ i, i < l.length → w.cell? (a.add i) = some (.int .i64 (l.getD i 0)) := by
  obtain ⟨_, oa, c, h1, h2, h3, h4, h5⟩ := h
  cases oa with
  | none => exact absurd (h4 rfl) (by omega)
  | some a => exact ⟨a, c, h1, h2, h3, h5 a rfl⟩
theorem Zs.form {w : World} {v : Value} {l : List Int} (h : Zs w v l) : ∃ oa c, v = .slice oa l.length c := by
  obtain ⟨_, oa, c, h1, _⟩ := h
  exact ⟨oa, c, h1⟩
theorem Zs.nil (w : World) : Zs w (.slice none 0 0) [] := ⟨by simp, none, 0, rfl, by simp, by omega, fun _ => rfl, fun a h => by cases h⟩
set_option maxHeartbeats 400000 in
theorem sameZ_core (a b : Addr) (n ca cb : Nat) (x y : List Int) (w : World) (hn : x.length = n) (hl : y.length = n) (hx : n ≤ ca) (hy : n ≤ cb) (hm : ca ≤ 9223372036854775807)
    (hxc : ∀ i, i < n → w.cell? (a.add i) = some (.int .i64 (x.getD i 0))) (hyc : ∀ i, i < n → w.cell? (b.add i) = some (.int .i64 (y.getD i 0))) :
    Calls Try.prog 9 #[.slice (some a) n ca, .slice (some b) n cb] w fun e w' => e = .returned (.bool (x == y)) ∧ Gr w w' := by
  have HX := Lib.hid hxc
  have HY := Lib.hid hyc
  have HL := Lib.hid hl
  have HN := Lib.hid hn
  clear hxc hyc hl hn
  go_enter Try.func9, Try.ntmps9
  go_wp2
  go_loopw [13] (fun i wr => ∃ k : Nat, k ≤ n ∧ i = .int .i64 k ∧ (∃ d, wr = w.drewN d) ∧ (∀ j, j < k → x.getD j 0 = y.getD j 0)) (fun i _ => n - (intOf i).toNat)
  case atStart => exact ⟨0, by omega, rfl, ⟨0, rfl⟩, by omega⟩
  case round =>
    obtain ⟨k, hk, rfl, ⟨d, rfl⟩, hs⟩ := hrel
    have HS := Lib.hid hs
    clear hs
    by_cases hlt : k < n
    · have h1 := HX.out k hlt
      have h2 := HY.out k hlt
      obtain ⟨p, hp⟩ : ∃ p, x.getD k 0 = p := ⟨_, rfl⟩
      obtain ⟨q, hq⟩ : ∃ q, y.getD k 0 = q := ⟨_, rfl⟩
      rw [hp] at h1
      rw [hq] at h2
      have HP := Lib.hid hp
      have HQ := Lib.hid hq
      clear hp hq
      by_cases he : p = q
      · subst he
        go_wp2
        go_quiet (fail)
        go_wp2
        refine ⟨⟨k + 1, by omega, by go_num, ⟨_, rfl⟩, fun j hj => ?_⟩, by simp [intOf]; omega⟩
        by_cases e : j = k
        · rw [e, HP.out, HQ.out]
        · exact HS.out j (by omega)
      · have hb : (p != q) = true := by simpa using he
        have HE := Lib.hid he
        clear he
        go_wp2
        go_quiet (fail)
        go_wp2
        go_ret
        have hne : (x == y) = false := by
          rw [beq_eq_false_iff_ne]
          intro c
          apply HE.out
          rw [← HP.out, ← HQ.out, c]
        exact ⟨by rw [hne]; rfl, Gr.refl _⟩
    · obtain rfl : k = n := by omega
      go_wp2
      go_ret
      have he : x = y := eq_of_getD' (by rw [HL.out, HN.out]) (fun j hj => HS.out j (by rw [HN.out] at hj; exact hj))
      exact ⟨by rw [he]; simp, Gr.refl _⟩
set_option maxHeartbeats 400000 in
theorem sameZ_any (va vb : Value) (x y : List Int) (w : World) (ha : Zs w va x) (hb : Zs w vb y) :
    Calls Try.prog 9 #[va, vb] w fun e w' => e = .returned (.bool (x == y)) ∧ Gr w w' := by
  by_cases hl : y.length = x.length
  · by_cases h0 : 0 < x.length
    · obtain ⟨a, ca, rfl, h1, h2, h3⟩ := Zs.at ha h0
      obtain ⟨b, cb, rfl, h4, h5, h6⟩ := Zs.at hb (by omega)
      rw [hl]
      rw [hl] at h4 h6
      exact sameZ_core a b x.length ca cb x y w rfl hl h1 h4 h2 h3 h6
    · obtain rfl : x = [] := List.eq_nil_of_length_eq_zero (by omega)
      obtain rfl : y = [] := List.eq_nil_of_length_eq_zero (by simpa using hl)
      obtain ⟨_, oa, ca, rfl, _, _, _, _⟩ := ha
      obtain ⟨_, ob, cb, rfl, _, _, _, _⟩ := hb
      go_enter Try.func9, Try.ntmps9
      go_wp2
      go_loopw [13] (fun i wr => i = .int .i64 0 ∧ wr = w) (fun _ _ => 0)
      case atStart => exact ⟨rfl, rfl⟩
      case round =>
        obtain ⟨rfl, rfl⟩ := hrel
        go_wp2
        go_ret
        exact ⟨rfl, Gr.refl _⟩
  · have hne : (x == y) = false := by
      rw [beq_eq_false_iff_ne]
      intro c
      rw [c] at hl
      exact hl rfl
    obtain ⟨_, oa, ca, rfl, h1, h2, _, _⟩ := ha
    obtain ⟨_, ob, cb, rfl, h3, h4, _, _⟩ := hb
    rw [hne]
    generalize x.length = n at *
    generalize y.length = m at *
    have ht : ((n : Int) != m) = true := by simp; omega
    go_enter Try.func9, Try.ntmps9
    go_wp2
    go_ret
    exact ⟨rfl, Gr.refl _⟩
/-- A block's cells that are the bytes of a list. -/
def rowZ (L : List Int) : Array Value := (L.map (Value.int .i64)).toArray
theorem rowZ_size (L : List Int) : (rowZ L).size = L.length := by simp [rowZ]
theorem rowZ_get (L : List Int) (i : Nat) (h : i < L.length) : (rowZ L)[i]? = some (.int .i64 (L.getD i 0)) := by
  simp [rowZ, h]
theorem rowZ_set (L : List Int) (i : Nat) (x : Int) : (rowZ L).setIfInBounds i (.int .i64 x) = rowZ (L.set i x) := by
  simp [rowZ, List.map_set]
theorem rowZ_one (L : List Int) : (rowZ L).all (·.oneCell') = true := by
  rw [Array.all_eq_true_iff_forall_mem]
  intro v hv
  simp [rowZ] at hv
  obtain ⟨j, _, rfl⟩ := hv
  rfl
theorem rowZ_made (n : Nat) : madeCells #[.int .i64 0] n = rowZ (List.replicate n 0) := by
  apply Array.ext'
  rw [toList_madeCells_one]
  simp [rowZ]
/-- Block g is whole, of bytes L. -/
def Blz (w : World) (g : Nat) (L : List Int) : Prop := w.heap[g]? = some (.cells (rowZ L) 3 (0, 0))
theorem Blz.grown {w w' : World} {g : Nat} {L : List Int} (h : Blz w g L) (hg : Gr w w') : Blz w' g L := keptRow hg h
theorem Blz.cell {w : World} {g : Nat} {L : List Int} (h : Blz w g L) (i : Nat) (hi : i < L.length) : w.cell? ⟨g, i, none⟩ = some (.int .i64 (L.getD i 0)) := by
  rw [cell_of_row w g i _ _ _ h, rowZ_get L i hi]
theorem Blz.zs {w : World} {g : Nat} {L : List Int} (h : Blz w g L) (l : List Int) (c : Nat) (hl : l.length ≤ L.length) (hlc : l.length ≤ c) (hc : c ≤ 9223372036854775807) (hb : ∀ x ∈ l, I64 x) (he : ∀ i, i < l.length → L.getD i 0 = l.getD i 0) :
    Zs w (.slice (some ⟨g, 0, none⟩) l.length c) l :=
  ⟨hb, some ⟨g, 0, none⟩, c, rfl, hlc, hc, (fun h => by cases h), fun a ha i hi => by
    cases ha
    rw [Addr.add_mid, Nat.zero_add, Blz.cell h i (by omega), he i hi]⟩
theorem infoZ : (Try.prog.info? 3).map (fun i => (i.zero, i.size, i.bytes)) = some (some (.int .i64 0), 1, 8) := by kernel_rfl
theorem makeZ (l c : Nat) (h : l ≤ c) (hc : c ≤ 35184372088832) (w : World) :
    (Instr.makeSlice 34 (.int .i64 (l : Int)) (.int .i64 (c : Int))).run Try.prog w = .ok (.slice (some ⟨w.heap.size, 0, none⟩) l c) (w.alloc (.cells (rowZ (List.replicate c 0)) 3)) := by
  obtain ⟨i, hi, hzz⟩ := Option.map_eq_some_iff.1 infoZ
  simp only [Prod.mk.injEq] at hzz
  obtain ⟨hz, hs, hb⟩ := hzz
  have hr := run_make (P := Try.prog) w 34 3 i _ Try.underlying34 hi hz .i64 .i64 l c (by omega) (by omega) (by rw [hb]; omega) (by omega)
  rw [Int.toNat_natCast, Int.toNat_natCast, hs, Nat.mul_one] at hr
  rw [hr, ← rowZ_made]
  rfl

/-- What stands in the two places behind, when k of them are set. -/
def marksZ (m : Int) : Nat → List Int
  | 0 => [0, 0]
  | 1 => [m, 0]
  | _ => [m, m]
theorem marksZ_length (m : Int) (k : Nat) : (marksZ m k).length = 2 := by
  unfold marksZ
  split <;> rfl
theorem marksZ_set (l : List Int) (n : Nat) (m : Int) (k : Nat) (hn : l.length = n) (h : k < 2) : (l ++ marksZ m k).set (n + k) m = l ++ marksZ m (k + 1) := by
  subst hn
  rw [List.set_append, if_neg (by omega), Nat.add_sub_cancel_left]
  have : k = 0 ∨ k = 1 := by omega
  rcases this with rfl | rfl <;> rfl
def spWZ (w : World) (L : List Int) : World := w.alloc (.cells (rowZ L) 3)
theorem Blz.zs_pre {w : World} {g : Nat} {l r : List Int} (h : Blz w g (l ++ r)) (hb : ∀ x ∈ l, I64 x) (hn : (l ++ r).length ≤ 9223372036854775807) : Zs w (.slice (some ⟨g, 0, none⟩) l.length (l ++ r).length) l :=
  Blz.zs h l _ (by simp) (by simp) hn hb (fun i hi => by
    rw [List.getD_eq_getElem?_getD, List.getD_eq_getElem?_getD, List.getElem?_append_left hi])
theorem ownsRow_form'' {w : World} {base : Nat} {e : TypeId} {v : Value} {n : Nat} {us : List Value} (h : w.ownsRow base e 1 v n us) : ∃ oa c, v = .slice oa n c := by
  obtain ⟨_, ⟨rfl, rfl⟩ | ⟨g, c, cur, rfl, _⟩⟩ := h
  · exact ⟨_, _, rfl⟩
  · exact ⟨_, _, rfl⟩
end Go.Proofs.Ytcbmgdkopgepdaa
