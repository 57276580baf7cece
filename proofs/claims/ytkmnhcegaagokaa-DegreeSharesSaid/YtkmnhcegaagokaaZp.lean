/-
  The verifier's comparison of two slices of ints, and its copies with spare room.
-/
import Derived.Test.YtkmnhcegaagokaaZs
import Derived.Test.YtkmnhcegaagokaaUs
import Derived.Test.YtkmnhcegaagokaaRef
import Derived.Deep.QuietTactic
import Derived.BigQuiet
import Derived.Laws.CopyOwn
namespace Go.Proofs.Ytkmnhcegaagokaa
open Go.RowKit

theorem Zs.at {w : World} {v : Value} {l : List Int} (h : Zs w v l) (hl : 0 < l.length) :
    ∃ a c, v = .slice (some a) l.length c ∧ l.length ≤ c ∧ c ≤ 9223372036854775807 ∧ ∀ i, i < l.length → w.cell? (a.add i) = some (.int .i64 (l.getD i 0)) := by
  obtain ⟨_, oa, c, h1, h2, h3, h4, h5⟩ := h
  cases oa with
  | none => exact absurd (h4 rfl) (by omega)
  | some a => exact ⟨a, c, h1, h2, h3, h5 a rfl⟩
theorem Zs.form {w : World} {v : Value} {l : List Int} (h : Zs w v l) : ∃ oa c, v = .slice oa l.length c := by
  obtain ⟨_, oa, c, h1, _⟩ := h
  exact ⟨oa, c, h1⟩
theorem Zs.nil (w : World) : Zs w (.slice none 0 0) [] := ⟨by simp, none, 0, rfl, by simp, by omega, fun _ => rfl, fun a h => by cases h⟩
set_option maxHeartbeats 400000 in
theorem sameZ_core (a b : Addr) (n ca cb : Nat) (x y : List Int) (w : World) (hn : x.length = n) (hl : y.length = n) (hx : n ≤ ca) (hy : n ≤ cb) (hm : ca ≤ 9223372036854775807)
    (hxc : ∀ i, i < n → w.cell? (a.add i) = some (.int .i64 (x.getD i 0))) (hyc : ∀ i, i < n → w.cell? (b.add i) = some (.int .i64 (y.getD i 0))) :
    Calls Try.prog 10 #[.slice (some a) n ca, .slice (some b) n cb] w fun e w' => e = .returned (.bool (x == y)) ∧ Gr w w' := by
  have HX := Lib.hid hxc
  have HY := Lib.hid hyc
  have HL := Lib.hid hl
  have HN := Lib.hid hn
  clear hxc hyc hl hn
  go_enter Try.func10, Try.ntmps10
  go_wp2
  go_loopw [13] (fun i wr => ∃ k : Nat, k ≤ n ∧ i = .int .i64 k ∧ (∃ d, wr = w.drewN d) ∧ (∀ j, j < k → x.getD j 0 = y.getD j 0)) (fun i _ => n - (intOf i).toNat)
  case atStart => exact ⟨0, by omega, rfl, ⟨0, rfl⟩, by omega⟩
  case round =>
    obtain ⟨k, hk, rfl, ⟨d, rfl⟩, hs⟩ := hrel
    have HS := Lib.hid hs
    clear hs
    by_cases hlt : k < n
    · have h1 := HX.out k hlt
      have h2 := HY.out k hlt
      obtain ⟨p, hp⟩ : ∃ p, x.getD k 0 = p := ⟨_, rfl⟩
      obtain ⟨q, hq⟩ : ∃ q, y.getD k 0 = q := ⟨_, rfl⟩
      rw [hp] at h1
      rw [hq] at h2
      have HP := Lib.hid hp
      have HQ := Lib.hid hq
      clear hp hq
      by_cases he : p = q
      · subst he
        go_wp2
        go_quiet (fail)
        go_wp2
        refine ⟨⟨k + 1, by omega, by go_num, ⟨_, rfl⟩, fun j hj => ?_⟩, by simp [intOf]; omega⟩
        by_cases e : j = k
        · rw [e, HP.out, HQ.out]
        · exact HS.out j (by omega)
      · have hb : (p != q) = true := by simpa using he
        have HE := Lib.hid he
        clear he
        go_wp2
        go_quiet (fail)
        go_wp2
        go_ret
        have hne : (x == y) = false := by
          rw [beq_eq_false_iff_ne]
          intro c
          apply HE.out
          rw [← HP.out, ← HQ.out, c]
        exact ⟨by rw [hne]; rfl, Gr.refl _⟩
    · obtain rfl : k = n := by omega
      go_wp2
      go_ret
      have he : x = y := eq_of_getD' (by rw [HL.out, HN.out]) (fun j hj => HS.out j (by rw [HN.out] at hj; exact hj))
      exact ⟨by rw [he]; simp, Gr.refl _⟩
set_option maxHeartbeats 400000 in
theorem sameZ_any (va vb : Value) (x y : List Int) (w : World) (ha : Zs w va x) (hb : Zs w vb y) :
    Calls Try.prog 10 #[va, vb] w fun e w' => e = .returned (.bool (x == y)) ∧ Gr w w' := by
  by_cases hl : y.length = x.length
  · by_cases h0 : 0 < x.length
    · obtain ⟨a, ca, rfl, h1, h2, h3⟩ := Zs.at ha h0
      obtain ⟨b, cb, rfl, h4, h5, h6⟩ := Zs.at hb (by omega)
      rw [hl]
      rw [hl] at h4 h6
      exact sameZ_core a b x.length ca cb x y w rfl hl h1 h4 h2 h3 h6
    · obtain rfl : x = [] := List.eq_nil_of_length_eq_zero (by omega)
      obtain rfl : y = [] := List.eq_nil_of_length_eq_zero (by simpa using hl)
      obtain ⟨_, oa, ca, rfl, _, _, _, _⟩ := ha
      obtain ⟨_, ob, cb, rfl, _, _, _, _⟩ := hb
      go_enter Try.func10, Try.ntmps10
      go_wp2
      go_loopw [13] (fun i wr => i = .int .i64 0 ∧ wr = w) (fun _ _ => 0)
      case atStart => exact ⟨rfl, rfl⟩
      case round =>
        obtain ⟨rfl, rfl⟩ := hrel
        go_wp2
        go_ret
        exact ⟨rfl, Gr.refl _⟩
  · have hne : (x == y) = false := by
      rw [beq_eq_false_iff_ne]
      intro c
      rw [c] at hl
      exact hl rfl
    obtain ⟨_, oa, ca, rfl, h1, h2, _, _⟩ := ha
    obtain ⟨_, ob, cb, rfl, h3, h4, _, _⟩ := hb
    rw [hne]
    generalize x.length = n at *
    generalize y.length = m at *
    have ht : ((n : Int) != m) = true := by simp; omega
    go_enter Try.func10, Try.ntmps10
    go_wp2
    go_ret
    exact ⟨rfl, Gr.refl _⟩
/-- A block's cells that are the bytes of a list. -/
def rowZ (L : List Int) : Array Value := (L.map (Value.int .i64)).toArray
theorem rowZ_size (L : List Int) : (rowZ L).size = L.length := by simp [rowZ]
theorem rowZ_get (L : List Int) (i : Nat) (h : i < L.length) : (rowZ L)[i]? = some (.int .i64 (L.getD i 0)) := by
  simp [rowZ, h]
theorem rowZ_set (L : List Int) (i : Nat) (x : Int) : (rowZ L).setIfInBounds i (.int .i64 x) = rowZ (L.set i x) := by
  simp [rowZ, List.map_set]
theorem rowZ_one (L : List Int) : (rowZ L).all (·.oneCell') = true := by
  rw [Array.all_eq_true_iff_forall_mem]
  intro v hv
  simp [rowZ] at hv
  obtain ⟨j, _, rfl⟩ := hv
  rfl
theorem rowZ_made (n : Nat) : madeCells #[.int .i64 0] n = rowZ (List.replicate n 0) := by
  apply Array.ext'
  rw [toList_madeCells_one]
  simp [rowZ]
/-- Block g is whole, of bytes L. -/
def Blz (w : World) (g : Nat) (L : List Int) : Prop := w.heap[g]? = some (.cells (rowZ L) 3 (0, 0))
theorem Blz.grown {w w' : World} {g : Nat} {L : List Int} (h : Blz w g L) (hg : Gr w w') : Blz w' g L := keptRow hg h
theorem Blz.cell {w : World} {g : Nat} {L : List Int} (h : Blz w g L) (i : Nat) (hi : i < L.length) : w.cell? ⟨g, i, none⟩ = some (.int .i64 (L.getD i 0)) := by
  rw [cell_of_row w g i _ _ _ h, rowZ_get L i hi]
theorem Blz.zs {w : World} {g : Nat} {L : List Int} (h : Blz w g L) (l : List Int) (c : Nat) (hl : l.length ≤ L.length) (hlc : l.length ≤ c) (hc : c ≤ 9223372036854775807) (hb : ∀ x ∈ l, I64 x) (he : ∀ i, i < l.length → L.getD i 0 = l.getD i 0) :
    Zs w (.slice (some ⟨g, 0, none⟩) l.length c) l :=
  ⟨hb, some ⟨g, 0, none⟩, c, rfl, hlc, hc, (fun h => by cases h), fun a ha i hi => by
    cases ha
    rw [Addr.add_mid, Nat.zero_add, Blz.cell h i (by omega), he i hi]⟩
theorem infoZ : (Try.prog.info? 3).map (fun i => (i.zero, i.size, i.bytes)) = some (some (.int .i64 0), 1, 8) := by kernel_rfl
theorem makeZ (l c : Nat) (h : l ≤ c) (hc : c ≤ 35184372088832) (w : World) :
    (Instr.makeSlice 24 (.int .i64 (l : Int)) (.int .i64 (c : Int))).run Try.prog w = .ok (.slice (some ⟨w.heap.size, 0, none⟩) l c) (w.alloc (.cells (rowZ (List.replicate c 0)) 3)) := by
  obtain ⟨i, hi, hzz⟩ := Option.map_eq_some_iff.1 infoZ
  simp only [Prod.mk.injEq] at hzz
  obtain ⟨hz, hs, hb⟩ := hzz
  have hr := run_make (P := Try.prog) w 24 3 i _ Try.underlying24 hi hz .i64 .i64 l c (by omega) (by omega) (by rw [hb]; omega) (by omega)
  rw [Int.toNat_natCast, Int.toNat_natCast, hs, Nat.mul_one] at hr
  rw [hr, ← rowZ_made]
  rfl

/-- What stands in the two places behind, when k of them are set. -/
def marksZ (m : Int) : Nat → List Int
  | 0 => [0, 0]
  | 1 => [m, 0]
  | _ => [m, m]
theorem marksZ_length (m : Int) (k : Nat) : (marksZ m k).length = 2 := by
  unfold marksZ
  split <;> rfl
theorem marksZ_set (l : List Int) (n : Nat) (m : Int) (k : Nat) (hn : l.length = n) (h : k < 2) : (l ++ marksZ m k).set (n + k) m = l ++ marksZ m (k + 1) := by
  subst hn
  rw [List.set_append, if_neg (by omega), Nat.add_sub_cancel_left]
  have : k = 0 ∨ k = 1 := by omega
  rcases this with rfl | rfl <;> rfl
def spWZ (w : World) (L : List Int) : World := w.alloc (.cells (rowZ L) 3)
set_option maxHeartbeats 400000 in
theorem spareZ_core (a : Addr) (n c : Nat) (l : List Int) (m : Int) (w : World) (hn : l.length = n) (h2 : n ≤ 35184372088000) (h0 : 0 < n)
    (hc : ∀ i, i < n → w.cell? (a.add i) = some (.int .i64 (l.getD i 0))) :
    Calls Try.prog 14 #[.slice (some a) n c, .int .i64 m] w fun e w' => ∃ g, e = .returned (.slice (some ⟨g, 0, none⟩) n (n + 2)) ∧ w.heap.size ≤ g ∧ Blz w' g (l ++ [m, m]) ∧ Gr w w' := by
  have HC := Lib.hid hc
  have HN := Lib.hid hn
  have hmk := makeZ n (n + 2) (by omega) (by omega)
  rw [show ((n + 2 : Nat) : Int) = (n : Int) + 2 from by omega] at hmk
  clear hc hn
  go_enter Try.func14, Try.ntmps14
  have hsz : (Try.prog.info? 3).map (·.size) = some 1 := by kernel_rfl
  have SZ := Lib.hid hsz
  clear hsz
  have hB := heap_alloc_new w (.cells (rowZ (List.replicate (n + 2) 0)) 3)
  have HB := Lib.hid hB
  clear hB
  have HS : Hid ((l.map (Value.int .i64)).length = Nat.min n n) := Lib.hid (by rw [List.length_map, HN.out]; simp)
  have HF : Hid (0 + (l.map (Value.int .i64)).length ≤ (rowZ (List.replicate (n + 2) 0)).size) := Lib.hid (by rw [List.length_map, HN.out, rowZ_size, List.length_replicate]; omega)
  have H1 : Hid (∀ v ∈ l.map (Value.int .i64), v.oneCell' = true) := Lib.hid (by
    intro v hv
    simp at hv
    obtain ⟨j, _, rfl⟩ := hv
    rfl)
  have HV : Hid (∀ j v, (l.map (Value.int .i64))[j]? = some v → (w.alloc (.cells (rowZ (List.replicate (n + 2) 0)) 3)).cell? (a.add j) = some v) := Lib.hid (by
    intro j v hv
    have hj : j < n := by
      have := (List.getElem?_eq_some_iff.1 hv).1
      rw [List.length_map, HN.out] at this
      exact this
    have := HC.out j hj
    rw [cell_gr (Gr.alloc (Gr.refl _) _ _) this]
    simp [HN.out, hj] at hv
    rw [← hv]
    simp [HN.out, hj])
  have HR : Hid ((l.map (Value.int .i64) ++ List.drop (l.map (Value.int .i64)).length (rowZ (List.replicate (n + 2) 0)).toList).toArray = rowZ (l ++ marksZ m 0)) := Lib.hid (by
    simp [rowZ, HN.out, marksZ])
  generalize l.map (Value.int .i64) = cs at *
  generalize rowZ (List.replicate (n + 2) 0) = cur at *
  go_wp2_with (refine wpList_copy_own rfl _ _ 24 24 rfl 3 Try.underlying24 SZ.out w.heap.size 0 n (n + 2) a n c rfl rfl cur 3 HB.out cs HS.out HV.out HF.out H1.out ?_)
  rw [World.setRow_alloc_new, HR.out]
  clear HR H1 HV HF HS HB SZ HC hmk
  go_loopw [7] (fun i wr => ∃ k : Nat, k ≤ 2 ∧ i = .int .i64 ((n + k : Nat) : Int) ∧ wr = spWZ w (l ++ marksZ m k)) (fun i _ => n + 2 - (intOf i).toNat)
  case atStart => exact ⟨0, by omega, rfl, rfl⟩
  case round =>
    obtain ⟨k, hk, rfl, rfl⟩ := hrel
    unfold spWZ
    by_cases hlt : k < 2
    · have hg : (rowZ (l ++ marksZ m k))[n + k]? = some (.int .i64 ((l ++ marksZ m k).getD (n + k) 0)) := rowZ_get _ _ (by rw [List.length_append, HN.out, marksZ_length]; omega)
      have HST : Hid ((rowZ (l ++ marksZ m k)).setIfInBounds (n + k) (.int .i64 m) = rowZ (l ++ marksZ m (k + 1))) := Lib.hid (by rw [rowZ_set, marksZ_set l n m k HN.out hlt])
      generalize (l ++ marksZ m k).getD (n + k) 0 = old at *
      generalize rowZ (l ++ marksZ m k) = C at *
      go_wp2
      exact ⟨⟨k + 1, by omega, by go_num, by rw [HST.out]⟩, by simp [intOf]; omega⟩
    · obtain rfl : k = 2 := by omega
      go_wp2
      go_ret
      exact ⟨_, rfl, Nat.le_refl _, heap_alloc_new _ _, Gr.alloc (Gr.refl _) _ _⟩
set_option maxHeartbeats 400000 in
theorem spareZ_none (oa : Option Addr) (c : Nat) (m : Int) (w : World) :
    Calls Try.prog 14 #[.slice oa 0 c, .int .i64 m] w fun e w' => ∃ g, e = .returned (.slice (some ⟨g, 0, none⟩) 0 2) ∧ w.heap.size ≤ g ∧ Blz w' g [m, m] ∧ Gr w w' := by
  have hmk : ∀ w, (Instr.makeSlice 24 (.int .i64 0) (.int .i64 2)).run Try.prog w = .ok (.slice (some ⟨w.heap.size, 0, none⟩) 0 2) (w.alloc (.cells (rowZ (List.replicate 2 0)) 3)) := fun w => makeZ 0 2 (by omega) (by omega) w
  have hsz : (Try.prog.info? 3).map (·.size) = some 1 := by kernel_rfl
  have SZ := Lib.hid hsz
  clear hsz
  have HR : Hid (rowZ (List.replicate 2 0) = rowZ (marksZ m 0)) := Lib.hid rfl
  generalize rowZ (List.replicate 2 0) = cur at *
  go_enter Try.func14, Try.ntmps14
  go_wp2_with (refine wpList_copy_nothing rfl _ _ 24 24 rfl 3 Try.underlying24 SZ.out _ _ _ _ _ _ rfl rfl rfl ?_)
  rw [HR.out]
  clear HR SZ hmk
  go_loopw [7] (fun i wr => ∃ k : Nat, k ≤ 2 ∧ i = .int .i64 (k : Int) ∧ wr = spWZ w (marksZ m k)) (fun i _ => 2 - (intOf i).toNat)
  case atStart => exact ⟨0, by omega, rfl, rfl⟩
  case round =>
    obtain ⟨k, hk, rfl, rfl⟩ := hrel
    unfold spWZ
    by_cases hlt : k < 2
    · have hg : (rowZ (marksZ m k))[k]? = some (.int .i64 ((marksZ m k).getD k 0)) := rowZ_get _ _ (by rw [marksZ_length]; omega)
      have HST : Hid ((rowZ (marksZ m k)).setIfInBounds k (.int .i64 m) = rowZ (marksZ m (k + 1))) := Lib.hid (by rw [rowZ_set]; have := marksZ_set [] 0 m k rfl hlt; simp at this; rw [this])
      generalize (marksZ m k).getD k 0 = old at *
      generalize rowZ (marksZ m k) = C at *
      go_wp2
      exact ⟨⟨k + 1, by omega, by go_num, by rw [HST.out]⟩, by simp [intOf]; omega⟩
    · obtain rfl : k = 2 := by omega
      go_wp2
      go_ret
      exact ⟨_, rfl, Nat.le_refl _, heap_alloc_new _ _, Gr.alloc (Gr.refl _) _ _⟩
theorem spareZ_any (v : Value) (l : List Int) (m : Int) (w : World) (h : Zs w v l) (hc : l.length ≤ 35184372088000) :
    Calls Try.prog 14 #[v, .int .i64 m] w fun e w' => ∃ g, e = .returned (.slice (some ⟨g, 0, none⟩) l.length (l.length + 2)) ∧ w.heap.size ≤ g ∧ Blz w' g (l ++ [m, m]) ∧ Gr w w' := by
  by_cases h0 : 0 < l.length
  · obtain ⟨a, c, rfl, _, _, h3⟩ := Zs.at h h0
    exact spareZ_core a l.length c l m w rfl hc h0 h3
  · obtain rfl : l = [] := List.eq_nil_of_length_eq_zero (by omega)
    obtain ⟨_, oa, c, rfl, _, _, _, _⟩ := h
    exact spareZ_none oa c m w

theorem Blz.zs_pre {w : World} {g : Nat} {l r : List Int} (h : Blz w g (l ++ r)) (hb : ∀ x ∈ l, I64 x) (hn : (l ++ r).length ≤ 9223372036854775807) : Zs w (.slice (some ⟨g, 0, none⟩) l.length (l ++ r).length) l :=
  Blz.zs h l _ (by simp) (by simp) hn hb (fun i hi => by
    rw [List.getD_eq_getElem?_getD, List.getD_eq_getElem?_getD, List.getElem?_append_left hi])
set_option maxHeartbeats 400000 in
theorem keptZ_true (g : Nat) (l : List Int) (vw : Value) (m : Int) (w : World) (h : Blz w g (l ++ [m, m])) (hb : ∀ x ∈ l, I64 x) (hw : Zs w vw l) (hn : l.length ≤ 35184372088000) :
    Calls Try.prog 19 #[.slice (some ⟨g, 0, none⟩) l.length (l.length + 2), vw, .int .i64 m] w fun e w' => e = .returned (.bool true) ∧ Gr w w' := by
  have hB : Zs w (.slice (some ⟨g, 0, none⟩) l.length (l.length + 2)) l := by
    have := Blz.zs_pre h hb (by simp; omega)
    simpa using this
  have HS : Hid (Calls Try.prog 10 #[.slice (some ⟨g, 0, none⟩) l.length (l.length + 2), vw] w fun e w' => e = .returned (.bool true) ∧ Gr w w') := Lib.hid ((sameZ_any _ _ l l w hB hw).mono fun _ _ ⟨he, hg⟩ => ⟨by rw [he]; simp, hg⟩)
  have HM : Hid (∀ k, k < 2 → (l ++ [m, m]).getD (l.length + k) 0 = m ∧ l.length + k < (l ++ [m, m]).length) := Lib.hid (fun k hk => by
    rw [List.getD_eq_getElem?_getD, List.getElem?_append_right (by omega), Nat.add_sub_cancel_left]
    have : k = 0 ∨ k = 1 := by omega
    rcases this with rfl | rfl <;> simp)
  have H := Lib.hid h
  clear h hB hb hw
  generalize l ++ [m, m] = L at *
  generalize l.length = n at *
  go_enter Try.func19, Try.ntmps19
  go_wp2_with (go_at_call 10; refine HS.out.mono ?_; rintro e w' ⟨rfl, hg⟩; have G := Lib.hid hg; clear hg)
  go_loop [8] (fun i => ∃ k : Nat, k ≤ 2 ∧ i = .int .i64 ((n + k : Nat) : Int)) (fun i => n + 2 - (intOf i).toNat)
  case atStart => exact ⟨0, by omega, rfl⟩
  case round =>
    obtain ⟨k, hk, rfl⟩ := hrel
    by_cases hlt : k < 2
    · have hc : w'.cell? ⟨g, n + k, none⟩ = some (.int .i64 m) := by
        rw [Blz.cell (Blz.grown H.out G.out) (n + k) (HM.out k hlt).2, (HM.out k hlt).1]
      go_wp2
      exact ⟨⟨k + 1, by omega, by go_num⟩, by simp [intOf]; omega⟩
    · obtain rfl : k = 2 := by omega
      go_wp2
      go_ret
      exact ⟨rfl, G.out⟩
theorem ownsRow_form'' {w : World} {base : Nat} {e : TypeId} {v : Value} {n : Nat} {us : List Value} (h : w.ownsRow base e 1 v n us) : ∃ oa c, v = .slice oa n c := by
  obtain ⟨_, ⟨rfl, rfl⟩ | ⟨g, c, cur, rfl, _⟩⟩ := h
  · exact ⟨_, _, rfl⟩
  · exact ⟨_, _, rfl⟩
end Go.Proofs.Ytkmnhcegaagokaa
