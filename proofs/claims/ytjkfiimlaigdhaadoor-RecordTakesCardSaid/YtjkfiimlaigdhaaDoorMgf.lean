/-
  Texts laid behind one another: Vf Vg Dr Us Zp Tb Yj.
-/
import Derived.Test.YtjkfiimlaigdhaaDoorMge
import Derived.Test.YtjkfiimlaigdhaaDoorMgb
import Derived.Lib.Hide
import Derived.Deep.QuietTactic
import Derived.BigQuiet
import Derived.Deep.AppendLies
import Derived.Laws.CopyOwn
import Derived.Test.YtjkfiimlaigdhaaDoorProg
import Derived.Test.YtjkfiimlaigdhaaDoorMgc
namespace Go.Proofs.YtjkfiimlaigdhaaDoor
open Go.RowKit

/-- A literal of bytes is one's own. -/
theorem own_lit5 {w : World} {base : Nat} (l : List Int) (hn : l.length ≤ 1000) (hb : base ≤ w.heap.size) :
    (w.alloc (.cells (rowB l) 5)).ownsRow base 5 1 (.slice (some ⟨w.heap.size, 0, none⟩) l.length l.length) l.length (l.map (Value.int .u8)) :=
  ⟨by simp, .inr ⟨w.heap.size, l.length, rowB l, rfl, hb, heap_alloc_new _ _, Nat.le_refl _, by unfold maxLen; omega, by simp [rowB], by rw [show l.length * 1 = (l.map (Value.int .u8)).length from by simp, show (rowB l).toList = l.map (Value.int .u8) from by simp [rowB], List.take_length]⟩⟩
theorem gr_lit5 {w0 w w' : World} {l : List Int} {n : Nat} (h : Gr w0 w) (hn : l.length = n) (hl : n ≤ 1000) (hg : (w.alloc (.cells (rowB l) 5)).grownBy w' (Value.slice (some ⟨w.heap.size, 0, none⟩) n n).ownBlock) : Gr w0 w' := by
  subst hn
  exact Gr.append (Gr.alloc h _ _) hg (fun g hv => Nat.le_trans h.size (ownsRow_base (own_lit5 (w := w) (base := w.heap.size) l hl (Nat.le_refl _)) g hv))
def sliceLen : Value → Nat
  | .slice _ n _ => n
  | _ => 0
set_option maxRecDepth 100000 in
set_option maxHeartbeats 1600000 in
theorem refPut_in (k : Int) (v : Value) (body : List Int) (w : World) (hm : Cell.MayC k body) (h : Bs w v body) :
    Calls Tryd.prog 19 #[.int .i64 k, v] w fun e w' => ∃ u, e = .returned u ∧ New w w' u (Cell.cell k body) := by
  obtain ⟨o, c, rfl⟩ := h.form5
  obtain ⟨n, hn⟩ : ∃ n, body.length = n := ⟨_, rfl⟩
  obtain ⟨hk1, hk2, hk3⟩ := hm
  have HN := Lib.hid hn
  rw [hn] at h hk3 ⊢
  have H := Lib.hid h
  have hw : IntKind.u8.wrap k = k := by simp [IntKind.wrap, IntKind.bits, IntKind.signed]; omega
  have hmd : k % 256 = k := by omega
  clear h hn
  go_enter Tryd.func19, Tryd.ntmps19
  go_wp2_with (first
    | (at_builtin; refine wpList_append_bytes rfl _ _ rfl w.heap.size (.slice (some ⟨w.heap.size, 0, none⟩) 4 4) 4 [87, 115, 1, k] rfl (own_lit5 [87, 115, 1, k] (by simp) (Nat.le_refl _)) o n c body rfl (Bs.grown H.out (Gr.alloc (Gr.refl _) _ _)) (by omega) (by simp) ?_; intro v4 w4 ho4 hg4; obtain ⟨o4, c4, rfl⟩ := ownsRow_form ho4; have O4 := Lib.hid ho4; have G4 : Hid (Gr w w4) := Lib.hid (gr_lit5 (n := 4) (l := [87, 115, 1, k]) (Gr.refl w) rfl (by omega) hg4); clear ho4 hg4))
  have HBB : Hid (∀ x ∈ body, Byt x) := Lib.hid H.out.1
  have HLB : Hid (∀ t, ∀ x ∈ [87, 115, 1, k] ++ body ++ List.replicate t 0, Byt x) := Lib.hid fun t x hx => by
    rcases List.mem_append.1 hx with h | h
    · rcases List.mem_append.1 h with h | h
      · simp only [List.mem_cons, List.not_mem_nil, or_false] at h
        unfold Byt
        omega
      · exact HBB.out x h
    · obtain ⟨_, rfl⟩ := List.mem_replicate.1 h
      exact ⟨by decide, by decide⟩
  have HLL : Hid (∀ t, ([87, 115, 1, k] ++ body ++ List.replicate t 0).length = 4 + n + t) := Lib.hid fun t => by
    rw [List.length_append, List.length_append, List.length_replicate, HN.out]
    rfl
  have O5 : Hid (w4.ownsRow w.heap.size 5 1 (.slice o4 (4 + n) c4) (4 + n) (([87, 115, 1, k] ++ body ++ List.replicate (4 + n - 4 - n) 0).map (Value.int .u8))) := Lib.hid (by
    rw [show 4 + n - 4 - n = 0 from by omega, List.replicate_zero, List.append_nil]
    exact O4.out)
  clear O4 H hw hmd
  go_loopw [5] (fun bv W => ∃ m o c, 4 + n ≤ m ∧ m ≤ 59 ∧ bv = .slice o m c ∧ W.ownsRow w.heap.size 5 1 (.slice o m c) m (([87, 115, 1, k] ++ body ++ List.replicate (m - 4 - n) 0).map (Value.int .u8)) ∧ Gr w W) (fun bv _ => 60 - sliceLen bv)
  case atStart => exact ⟨4 + n, o4, c4, Nat.le_refl _, by omega, rfl, O5.out, G4.out⟩
  case round =>
    obtain ⟨wi, hwi⟩ : ∃ x, x = wr := ⟨_, rfl⟩
    subst hwi
    obtain ⟨m, o5, c5, hm1, hm2, rfl, ho, hg⟩ := hrel
    have OO := Lib.hid ho
    have GG := Lib.hid hg
    clear ho hg O5 G4
    by_cases hlt : m < 59
    · have hb1 : (m : Int) < 59 := by omega
      go_wp2_with (first
        | (at_builtin; refine wpList_append_bytes rfl _ _ rfl w.heap.size (.slice o5 m c5) m ([87, 115, 1, k] ++ body ++ List.replicate (m - 4 - n) 0) rfl (OO.out.alloc _) (some ⟨wi.heap.size, 0, none⟩) 1 1 [0] rfl (lit_bs1 [0] (by simp [Byt]) (by simp)) (by omega) (by have := GG.out.size; simp; omega) ?_; intro v6 w6 ho6 hg6; obtain ⟨o6, c6, rfl⟩ := ownsRow_form ho6; have O6 := Lib.hid ho6; have G6 : Hid (Gr w w6) := Lib.hid (Gr.append (Gr.alloc GG.out _ _) hg6 (ownsRow_base OO.out)); clear ho6 hg6))
      refine ⟨⟨m + 1, o6, c6, by omega, by omega, rfl, ?_, G6.out⟩, by simp [sliceLen]; omega⟩
      have h := O6.out
      rw [List.append_assoc, ← List.replicate_succ', show m - 4 - n + 1 = m + 1 - 4 - n from by omega] at h
      exact h
    · obtain rfl : m = 59 := by omega
      have HPR : Hid ([87, 115, 1, k] ++ body ++ List.replicate (59 - 4 - n) 0 = Cell.pre k body) := Lib.hid (by
        unfold Cell.pre Cell.pad
        rw [List.append_assoc, HN.out, show 59 - 4 - n = 55 - n from by omega])
      have NB : Hid (New w wi (.slice o5 59 c5) (Cell.pre k body)) := Lib.hid (by
        have hl := HLL.out (59 - 4 - n)
        have hb := HLB.out (59 - 4 - n)
        rw [HPR.out] at hl hb
        have h := OO.out
        rw [HPR.out] at h
        exact New.of_row GG.out hb (by rw [hl, show 4 + n + (59 - 4 - n) = 59 from by omega]; exact h))
      have O7 : Hid (wi.ownsRow w.heap.size 5 1 (.slice o5 59 c5) 59 ((Cell.pre k body).map (Value.int .u8))) := Lib.hid (by
        have h := OO.out
        rw [HPR.out] at h
        exact h)
      have HPL : Hid ((Cell.pre k body).length = 59) := Lib.hid (Cell.pre_length (by rw [HN.out]; exact hk3))
      clear OO HPR
      go_wp2_with fail
      refine (refCrc_any _ _ _ (New.bs NB.out) (by rw [HPL.out]; omega)).mono ?_
      rintro e w7 ⟨rfl, hg7⟩
      obtain ⟨s, hs⟩ : ∃ s, Crc.sum (Cell.pre k body) = s := ⟨_, rfl⟩
      have hs2 : s < 4294967296 := by rw [← hs]; exact Crc.sum_lt NB.out.2.1
      have O8 := Lib.hid (O7.out.of_gr hg7)
      have G7 := Lib.hid (Gr.trans GG.out hg7)
      have HS := Lib.hid hs
      rw [hs]
      clear hs hg7 O7
      go_wp2_with (first
        | (at_builtin; refine wpList_append_bytes rfl _ _ rfl w.heap.size (.slice o5 59 c5) 59 (Cell.pre k body) rfl (O8.out.alloc _) (some ⟨w7.heap.size, 0, none⟩) 5 5 ([(s : Int) % 256, (s : Int) / 256 % 256, (s : Int) / 65536 % 256, (s : Int) / 16777216] ++ [165]) rfl (lit_bs1 _ (by intro x hx; rcases List.mem_append.1 hx with h | h; exact low_byt hs2 x h; obtain rfl := List.mem_singleton.1 h; exact ⟨by decide, by decide⟩) (by simp)) (by omega) (by have := G7.out.size; simp; omega) ?_; intro v8 w8 ho8 hg8; obtain ⟨o8, c8, rfl⟩ := ownsRow_form ho8; have O9 := Lib.hid ho8; have G8 : Hid (Gr w w8) := Lib.hid (Gr.append (Gr.alloc G7.out _ _) hg8 (ownsRow_base O8.out)); clear ho8 hg8))
      go_ret
      refine ⟨_, rfl, New.of_row G8.out (Cell.cell_byt ⟨hk1, hk2⟩ HBB.out) ?_⟩
      rw [Cell.cell_length (by rw [HN.out]; exact hk3)]
      have h := O9.out
      rw [low4_eq hs2, ← List.append_assoc, ← HS.out] at h
      exact h
set_option maxHeartbeats 800000 in
theorem refPut_ne (k : Int) (v : Value) (body : List Int) (w : World) (hk : I64 k) (hm : ¬ Cell.MayC k body) (hl : body.length ≤ 1000) (h : Bs w v body) :
    Calls Tryd.prog 19 #[.int .i64 k, v] w fun e w' => e = .returned (.slice none 0 0) ∧ Gr w w' := by
  obtain ⟨o, c, rfl⟩ := h.form5
  obtain ⟨n, hn⟩ : ∃ n, body.length = n := ⟨_, rfl⟩
  unfold Cell.MayC at hm
  unfold I64 at hk
  rw [hn] at hm hl ⊢
  clear h hn
  by_cases h1 : k < 1
  · go_enter Tryd.func19, Tryd.ntmps19
    go_wp2_with fail
    go_ret
    exact ⟨rfl, Gr.refl _⟩
  · by_cases h2 : 255 < k
    · go_enter Tryd.func19, Tryd.ntmps19
      go_wp2_with fail
      go_ret
      exact ⟨rfl, Gr.refl _⟩
    · have h3 : (55 : Int) < (n : Int) := by omega
      go_enter Tryd.func19, Tryd.ntmps19
      go_wp2_with fail
      go_ret
      exact ⟨rfl, Gr.refl _⟩
theorem New.grown5 {w w' w2 : World} {v : Value} {l : List Int} (h : New w w' v l) (hg : Gr w' w2) : New w w2 v l := by
  obtain ⟨h1, h2, h3⟩ := h
  refine ⟨Gr.trans h1 hg, h2, ?_⟩
  rcases h3 with h3 | ⟨g, c, cur, e1, e2, e3, e4⟩
  · exact .inl h3
  · exact .inr ⟨g, c, cur, e1, e2, keptRow hg e3, e4⟩
theorem New.nil5 (w w' : World) (hg : Gr w w') : New w w' (.slice none 0 0) [] := ⟨hg, (fun x hx => by cases hx), .inl ⟨rfl, none, 0, rfl, fun _ => rfl, by omega⟩⟩
theorem refPut_any (k : Int) (v : Value) (body : List Int) (w : World) (hk : I64 k) (hl : body.length ≤ 1000) (h : Bs w v body) :
    Calls Tryd.prog 19 #[.int .i64 k, v] w fun e w' => ∃ u, e = .returned u ∧ New w w' u (Cell.put k body) := by
  by_cases hm : Cell.MayC k body
  · rw [Cell.put_in hm]
    exact refPut_in k v body w hm h
  · rw [show Cell.put k body = [] from if_neg hm]
    refine (refPut_ne k v body w hk hm hl h).mono ?_
    rintro e w' ⟨rfl, hg⟩
    exact ⟨_, rfl, New.nil5 w w' hg⟩
set_option maxRecDepth 100000 in
set_option maxHeartbeats 1600000 in
theorem refTake_in (v : Value) (b : List Int) (w : World) (h : Bs w v b) (hl : b.length = 64) :
    Calls Tryd.prog 18 #[v] w fun e w' => ∃ u, e = .returned (.tuple #[.int .i64 (Cell.takeK b), u, .bool (decide (Cell.Is b))]) ∧ New w w' u (Cell.takeX b) := by
  obtain ⟨ad, c, rfl, h2, h3, hc⟩ := Bs.at h (by omega)
  rw [hl] at h h2 hc ⊢
  have q3 := hc 3 (by omega)
  obtain ⟨ab, ao, asp⟩ := ad
  obtain rfl : asp = none := by
    have h0 := hc 0 (by omega)
    rw [show (Addr.mk ab ao asp).add 0 = ⟨ab, ao, asp⟩ from by simp [Addr.add]] at h0
    simpa using World.cell?_spot h0
  rw [Addr.add_mid] at q3
  have hby := Crc.getD_byt h.1 3
  obtain ⟨x3, hx3⟩ : ∃ x, b.getD 3 0 = x := ⟨_, rfl⟩
  have hx3b : Byt x3 := by rw [← hx3]; exact hby
  rw [hx3] at q3
  have HX3 := Lib.hid hx3
  have H := Lib.hid h
  have HL := Lib.hid hl
  have HM : Hid (Bs w (.slice (some ⟨ab, ao + 4, none⟩) 55 (c - 4)) (Cell.bodyOf b)) := Lib.hid (by
    have := Bs.mid5 h 4 55 (by omega)
    rw [if_neg (by omega), Addr.add_mid] at this
    exact this)
  have HBL : Hid ((Cell.bodyOf b).length = 55) := Lib.hid (by unfold Cell.bodyOf; rw [List.length_take, List.length_drop, hl]; omega)
  have u1 : (59 : Int) ≤ (c : Int) := by omega
  have u2 : ¬ c = 4 := by omega
  unfold Byt at hx3b
  have hwx : IntKind.i64.wrap x3 = x3 := by simp [IntKind.wrap, IntKind.bits, IntKind.signed]; omega
  clear h hl hc hby hx3
  go_enter Tryd.func18, Tryd.ntmps18
  go_wp2_with fail
  go_region_held3 (fun W => W.cell? ⟨ab, ao + 3, none⟩ = some (.int .u8 x3)) (first | exact k4 | exact q3 | go_keep)
    (first
      | (refine step_append_bytes rfl _ _ rfl w.heap.size (.slice none 0 0) 0 [] (by rfl) (World.ownsRow_nil _ _ _ _) (some ⟨ab, ao + 4, none⟩) 55 (c - 4) (Cell.bodyOf b) (by rfl) (Bs.grown HM.out (Gr.drew (Gr.refl _))) (by omega) (Nat.le_refl _) ?_; intro v4 w4 ho4 hg4; rw [Nat.zero_add, List.nil_append] at ho4; obtain ⟨o4, c4, rfl⟩ := ownsRow_form ho4; have G4 : Hid (Gr w w4) := Lib.hid (Gr.append (Gr.drew (Gr.refl w)) hg4 (fun _ h => by cases h)); have k4 := cell_grown G4.out q3; have O4 := Lib.hid ho4; clear ho4 hg4))
  have N4 : Hid (New w w4 (.slice o4 55 c4) (Cell.bodyOf b)) := Lib.hid (New.of_row G4.out (Cell.bodyOf_byt H.out.1) (by rw [HBL.out]; exact O4.out))
  clear O4
  go_wp2_with fail
  refine (refPut_any x3 _ (Cell.bodyOf b) _ ⟨by omega, by omega⟩ (by rw [HBL.out]; omega) (New.bs N4.out)).mono ?_
  rintro e w5 ⟨u5, rfl, hn5⟩
  obtain ⟨o5, c5, e5⟩ := (New.bs hn5).form5
  obtain ⟨lp, hlp⟩ : ∃ m, (Cell.put x3 (Cell.bodyOf b)).length = m := ⟨_, rfl⟩
  rw [hlp] at e5
  subst e5
  have N5 := Lib.hid hn5
  clear hn5 hlp
  go_wp2_with fail
  refine (same_any _ _ _ b _ (New.bs N5.out) (Bs.grown H.out (Gr.trans N4.out.1 N5.out.1))).mono ?_
  rintro e w6 ⟨rfl, hg6⟩
  have HG6 : Hid (Gr w w6) := Lib.hid (Gr.trans (Gr.trans N4.out.1 N5.out.1) hg6)
  have N6 : Hid (New w w6 (.slice o4 55 c4) (Cell.bodyOf b)) := Lib.hid (New.grown5 N4.out (Gr.trans N5.out.1 hg6))
  clear hg6 N5 N4
  by_cases hi : Cell.Is b
  · have e1 : (Cell.put x3 (Cell.bodyOf b) == b) = true := by rw [← HX3.out]; exact beq_iff_eq.2 hi.2
    have E1 : Hid (Cell.takeK b = x3) := Lib.hid (by rw [← HX3.out]; exact if_pos hi)
    have E2 : Hid (Cell.takeX b = Cell.bodyOf b) := Lib.hid (if_pos hi)
    have E3 : Hid (decide (Cell.Is b) = true) := Lib.hid (decide_eq_true hi)
    rw [e1]
    clear e1 hi
    go_wp2_with fail
    go_ret3
    rw [E1.out, E2.out, E3.out]
    exact ⟨_, rfl, N6.out⟩
  · have e1 : (Cell.put x3 (Cell.bodyOf b) == b) = false := by
      rw [← HX3.out]
      exact beq_eq_false_iff_ne.2 fun h => hi ⟨HL.out, h⟩
    have E1 : Hid (Cell.takeK b = 0) := Lib.hid (if_neg hi)
    have E2 : Hid (Cell.takeX b = []) := Lib.hid (if_neg hi)
    have E3 : Hid (decide (Cell.Is b) = false) := Lib.hid (decide_eq_false hi)
    rw [e1]
    clear e1 hi
    go_wp2_with fail
    go_ret3
    rw [E1.out, E2.out, E3.out]
    exact ⟨_, rfl, New.nil5 _ _ HG6.out⟩
set_option maxHeartbeats 400000 in
theorem refTake_ne (v : Value) (b : List Int) (w : World) (h : Bs w v b) (hl : ¬ b.length = 64) :
    Calls Tryd.prog 18 #[v] w fun e w' => e = .returned (.tuple #[.int .i64 0, .slice none 0 0, .bool false]) ∧ Gr w w' := by
  obtain ⟨o, c, rfl⟩ := h.form5
  obtain ⟨n, hn⟩ : ∃ n, b.length = n := ⟨_, rfl⟩
  rw [hn] at hl ⊢
  clear h hn
  have h1 : ¬ (n : Int) = 64 := by omega
  go_enter Tryd.func18, Tryd.ntmps18
  go_wp2_with fail
  go_ret3
  exact ⟨rfl, Gr.refl _⟩
theorem refTake_any (v : Value) (b : List Int) (w : World) (h : Bs w v b) :
    Calls Tryd.prog 18 #[v] w fun e w' => ∃ u, e = .returned (.tuple #[.int .i64 (Cell.takeK b), u, .bool (decide (Cell.Is b))]) ∧ New w w' u (Cell.takeX b) := by
  by_cases hl : b.length = 64
  · exact refTake_in v b w h hl
  · have hi : ¬ Cell.Is b := fun h => hl h.1
    rw [show Cell.takeK b = 0 from if_neg hi, show Cell.takeX b = [] from if_neg hi, decide_eq_false hi]
    refine (refTake_ne v b w h hl).mono ?_
    rintro e w' ⟨rfl, hg⟩
    exact ⟨_, rfl, New.nil5 _ _ hg⟩
end Go.Proofs.YtjkfiimlaigdhaaDoor
namespace Go.Proofs.YtjkfiimlaigdhaaDoor
open Go.RowKit

/-- The contracts of package cell: a cell is new memory, at its block's beginning; a body that is taken may lie anywhere. -/
structure CellOk (W0 : World) : Prop where
  put : ∀ (k : Int) (v : Value) (body : List Int) (w : World), Gr W0 w → I64 k → body.length ≤ 1000 → Bs w v body →
    Calls Tryd.prog 24 #[.int .i64 k, v] w fun e w' => ∃ u, e = .returned u ∧ New w w' u (Cell.put k body)
  take : ∀ (v : Value) (b : List Int) (w : World), Gr W0 w → b.length ≤ 1000 → Bs w v b →
    Calls Tryd.prog 23 #[v] w fun e w' => ∃ u, e = .returned (.tuple #[.int .i64 (Cell.takeK b), u, .bool (decide (Cell.Is b))]) ∧ Gr w w' ∧ Bs w' u (Cell.takeX b)
namespace Cell
theorem takeK_cell {k : Int} {body : List Int} (h : MayC k body) : takeK (cell k body) = k := by
  unfold takeK
  rw [if_pos (is_cell h), cell_three]
theorem takeX_cell {k : Int} {body : List Int} (h : MayC k body) : takeX (cell k body) = pad body := by
  unfold takeX
  rw [if_pos (is_cell h), bodyOf_cell h.2.2]
theorem takeX_length {b : List Int} (h : Is b) : (takeX b).length = 55 := by
  unfold takeX
  rw [if_pos h]
  unfold bodyOf
  rw [List.length_take, List.length_drop, h.1]
  rfl
theorem takeX_byt {b : List Int} (hb : ∀ x ∈ b, Byt x) : ∀ x ∈ takeX b, Byt x := by
  unfold takeX
  split
  · exact bodyOf_byt hb
  · intro x hx
    cases hx
theorem mayC_nil {k : Int} (h : 1 ≤ k ∧ k ≤ 255) : MayC k [] := ⟨h.1, h.2, by simp⟩
end Cell
end Go.Proofs.YtjkfiimlaigdhaaDoor
namespace Go.Proofs.YtjkfiimlaigdhaaDoor
open Go.RowKit

/-- The state behind one draw; what is told of it. -/
def nextS (s : Nat) : Nat := (s * 6364136223846793005 + 1442695040888963407) % 18446744073709551616
def topS (s : Nat) : Nat := s / 4294967296
theorem nextS_lt (s : Nat) : nextS s < 18446744073709551616 := Nat.mod_lt _ (by omega)
theorem topS_lt {s : Nat} (h : s < 18446744073709551616) : topS s < 4294967296 := by unfold topS; omega

theorem next_wrap (s : Nat) : IntKind.u64.wrap (IntKind.u64.wrap ((s : Int) * 6364136223846793005) + 1442695040888963407) = ((nextS s : Nat) : Int) := by
  have hw : ∀ x : Int, IntKind.u64.wrap x = x % 18446744073709551616 := fun x => by simp [IntKind.wrap, IntKind.bits, IntKind.signed]
  rw [hw, hw]
  unfold nextS
  omega
theorem top_wrap (s : Nat) : ((nextS s : Nat) : Int) / 4294967296 % 4294967296 = ((topS (nextS s) : Nat) : Int) := by
  have := nextS_lt s
  unfold topS
  omega
/-- Below a bound, of a state. -/
def belowV (s : Nat) (n : Int) : Int := if n ≤ 0 then 0 else ((topS (nextS s) : Nat) : Int) % n
def belowS (s : Nat) (n : Int) : Nat := if n ≤ 0 then s else nextS s
theorem belowS_lt {s : Nat} (h : s < 18446744073709551616) (n : Int) : belowS s n < 18446744073709551616 := by
  unfold belowS
  split
  · exact h
  · exact nextS_lt s
theorem belowV_rng (s : Nat) (n : Int) : 0 ≤ belowV s n ∧ belowV s n < 4294967296 := by
  unfold belowV
  split
  · omega
  · have h1 := topS_lt (nextS_lt s)
    have h2 := Int.emod_nonneg ((topS (nextS s) : Nat) : Int) (by omega : n ≠ 0)
    have h3 : ((topS (nextS s) : Nat) : Int) % n ≤ ((topS (nextS s) : Nat) : Int) := by
      rw [Int.emod_def]
      have h4 := Int.ediv_nonneg (by omega : (0 : Int) ≤ ((topS (nextS s) : Nat) : Int)) (by omega : 0 ≤ n)
      have h5 := Int.mul_nonneg (by omega : 0 ≤ n) h4
      omega
    omega
/-- The contracts of package draw; At: how a Draw lies in memory (which blocks are its own), and its state. -/
structure DrawOk (At : World → Value → (Nat → Prop) → Nat → Prop) : Prop where
  ptr : ∀ {w : World} {d : Value} {F : Nat → Prop} {s : Nat}, At w d F s → ∃ a, d = .pointer (some a)
  lt : ∀ {w : World} {d : Value} {F : Nat → Prop} {s : Nat}, At w d F s → ∀ k, F k → k < w.heap.size
  keep : ∀ {w w' : World} {d : Value} {F G : Nat → Prop} {s : Nat}, At w d F s → Kp G w w' → (∀ k, F k → ¬ G k) → At w' d F s
/-- Since w0: a Draw of one's own. -/
def Dr (At : World → Value → (Nat → Prop) → Nat → Prop) (w0 w : World) (d : Value) (F : Nat → Prop) (s : Nat) : Prop := At w d F s ∧ (∀ k, F k → w0.heap.size ≤ k) ∧ Gr w0 w ∧ s < 18446744073709551616
section
variable {At : World → Value → (Nat → Prop) → Nat → Prop}
theorem Dr.step {w0 w w' : World} {d : Value} {F : Nat → Prop} {s s' : Nat} (h : Dr At w0 w d F s) (ha : At w' d F s') (hk : Kp F w w') (hs : s' < 18446744073709551616) : Dr At w0 w' d F s' :=
  ⟨ha, h.2.1, hk.gr h.2.2.1 h.2.1, hs⟩
theorem Dr.other (O : DrawOk At) {w0 w w' : World} {d : Value} {F G : Nat → Prop} {s : Nat} (h : Dr At w0 w d F s) (hk : Kp G w w') (hG : ∀ k, G k → w0.heap.size ≤ k) (hd : ∀ k, F k → ¬ G k) : Dr At w0 w' d F s :=
  ⟨O.keep h.1 hk hd, h.2.1, hk.gr h.2.2.1 hG, h.2.2.2⟩
theorem Dr.grown (O : DrawOk At) {w0 w w' : World} {d : Value} {F : Nat → Prop} {s : Nat} (h : Dr At w0 w d F s) (hg : Gr w w') : Dr At w0 w' d F s :=
  ⟨O.keep h.1 (hg.kp fun _ => False) (fun _ _ e => e), h.2.1, Gr.trans h.2.2.1 hg, h.2.2.2⟩
end
theorem first_wake : topS (nextS 0) = 335903614 := by decide
end Go.Proofs.YtjkfiimlaigdhaaDoor
namespace Go.Proofs.YtjkfiimlaigdhaaDoor
open Go.RowKit

def Us (w : World) (v : Value) (l : List Int) : Prop :=
  ∃ oa c, v = .slice oa l.length c ∧ l.length ≤ c ∧ c ≤ 9223372036854775807 ∧ (oa = none → c = 0) ∧ ∀ a, oa = some a → ∀ i, i < l.length → w.cell? (a.add i) = some (.int .u32 (l.getD i 0))
theorem Us.at {w : World} {v : Value} {l : List Int} (h : Us w v l) (hl : 0 < l.length) :
    ∃ a c, v = .slice (some a) l.length c ∧ l.length ≤ c ∧ c ≤ 9223372036854775807 ∧ ∀ i, i < l.length → w.cell? (a.add i) = some (.int .u32 (l.getD i 0)) := by
  obtain ⟨oa, c, h1, h2, h3, h4, h5⟩ := h
  cases oa with
  | none => exact absurd (h4 rfl) (by omega)
  | some a => exact ⟨a, c, h1, h2, h3, h5 a rfl⟩
theorem eq_of_getD' {x y : List Int} (hl : y.length = x.length) (h : ∀ j, j < x.length → x.getD j 0 = y.getD j 0) : x = y := by
  apply List.ext_getElem hl.symm
  intro j h1 h2
  have := h j h1
  rw [List.getD_eq_getElem?_getD, List.getD_eq_getElem?_getD, List.getElem?_eq_getElem h1, List.getElem?_eq_getElem h2] at this
  simpa using this

theorem infoU : (Tryd.prog.info? 24).map (fun i => (i.zero, i.size, i.bytes)) = some (some (.int .u32 0), 1, 4) := by kernel_rfl
theorem info_parts' {t : TypeId} {z : Option Value} {a b : Nat} (h : (Tryd.prog.info? t).map (fun i => (i.zero, i.size, i.bytes)) = some (z, a, b)) : ∃ i, Tryd.prog.info? t = some i ∧ i.zero = z ∧ i.size = a ∧ i.bytes = b := by
  obtain ⟨i, hi, he⟩ := Option.map_eq_some_iff.1 h
  simp only [Prod.mk.injEq] at he
  exact ⟨i, hi, he.1, he.2.1, he.2.2⟩
/-- Behind a call that writes only blocks ahead of base, a row of one's own from base on is as it was. -/
theorem ownsRow_kp {F : Nat → Prop} {w w' : World} {base : Nat} {e : TypeId} {size : Nat} {v : Value} {n : Nat} {xs : List Value} (h : w.ownsRow base e size v n xs) (hk : Kp F w w') (hF : ∀ k, F k → k < base) : w'.ownsRow base e size v n xs := by
  obtain ⟨h0, h1 | ⟨g, c, cur, rfl, hb, hg, h2⟩⟩ := h
  · exact ⟨h0, .inl h1⟩
  · exact ⟨h0, .inr ⟨g, c, cur, rfl, hb, hk.block hg (fun e => by have := hF g e; omega), h2⟩⟩
theorem ownsRow_base' {w : World} {base : Nat} {e : TypeId} {size : Nat} {v : Value} {n : Nat} {us : List Value} (h : w.ownsRow base e size v n us) : ∀ g, v.ownBlock = some g → base ≤ g := by
  intro g hg
  obtain ⟨_, ⟨rfl, _⟩ | ⟨g', c, cur, rfl, hb, _⟩⟩ := h
  · simp [Value.ownBlock] at hg
  · simp [Value.ownBlock] at hg
    omega
theorem ownsRow_form' {w : World} {base : Nat} {e : TypeId} {v : Value} {n : Nat} {us : List Value} (h : w.ownsRow base e 1 v n us) : ∃ oa c, v = .slice oa n c := by
  obtain ⟨_, ⟨rfl, rfl⟩ | ⟨g, c, cur, rfl, _⟩⟩ := h
  · exact ⟨_, _, rfl⟩
  · exact ⟨_, _, rfl⟩
theorem ownsRow_us {w : World} {base n : Nat} {v : Value} {l : List Int} (h : w.ownsRow base 24 1 v n (l.map (Value.int .u32))) (hl : l.length = n) : Us w v l := by
  subst hl
  obtain ⟨h0, ⟨rfl, h1⟩ | ⟨g, c, cur, rfl, hb, hg, h1, h2, h3, h4⟩⟩ := h
  · obtain rfl : l = [] := List.eq_nil_of_length_eq_zero (by omega)
    exact ⟨none, 0, rfl, by simp, by omega, fun _ => rfl, fun a h => by cases h⟩
  · refine ⟨some ⟨g, 0, none⟩, c, rfl, h1, by unfold maxLen at h2; omega, (fun h => by cases h), fun a ha i hi => ?_⟩
    cases ha
    have hadd : (⟨g, 0, none⟩ : Addr).add i = ⟨g, i, none⟩ := by unfold Addr.add; split <;> simp_all
    rw [hadd, cell_of_row w g i _ _ _ hg]
    rw [Nat.mul_one] at h4
    have : (cur.toList.take l.length)[i]? = (l.map (Value.int .u32))[i]? := by rw [h4]
    rw [List.getElem?_take_of_lt hi] at this
    simpa [hi] using this
/-- The state behind k draws; the numbers drawn. -/
def sq (s : Nat) : Nat → Nat
  | 0 => s
  | k + 1 => nextS (sq s k)
theorem sq_lt {s : Nat} (h : s < 18446744073709551616) : ∀ k, sq s k < 18446744073709551616
  | 0 => h
  | _ + 1 => nextS_lt _
def outs (s m : Nat) : List Int := (List.range m).map fun i => ((topS (sq s (i + 1)) : Nat) : Int)
theorem outs_length (s m : Nat) : (outs s m).length = m := by simp [outs]
theorem outs_succ (s m : Nat) : outs s (m + 1) = outs s m ++ [((topS (sq s (m + 1)) : Nat) : Int)] := by simp [outs, List.range_succ]
end Go.Proofs.YtjkfiimlaigdhaaDoor
namespace Go.Proofs.YtjkfiimlaigdhaaDoor
open Go.RowKit

theorem Zs.at {w : World} {v : Value} {l : List Int} (h : Zs w v l) (hl : 0 < l.length) :
    ∃ a c, v = .slice (some a) l.length c ∧ l.length ≤ c ∧ c ≤ 9223372036854775807 ∧ ∀ i, i < l.length → w.cell? (a.add i) = some (.int .i64 (l.getD i 0)) := by
  obtain ⟨_, oa, c, h1, h2, h3, h4, h5⟩ := h
  cases oa with
  | none => exact absurd (h4 rfl) (by omega)
  | some a => exact ⟨a, c, h1, h2, h3, h5 a rfl⟩
theorem Zs.form {w : World} {v : Value} {l : List Int} (h : Zs w v l) : ∃ oa c, v = .slice oa l.length c := by
  obtain ⟨_, oa, c, h1, _⟩ := h
  exact ⟨oa, c, h1⟩
theorem Zs.nil (w : World) : Zs w (.slice none 0 0) [] := ⟨by simp, none, 0, rfl, by simp, by omega, fun _ => rfl, fun a h => by cases h⟩
/-- A block's cells that are the bytes of a list. -/
def rowZ (L : List Int) : Array Value := (L.map (Value.int .i64)).toArray
theorem rowZ_size (L : List Int) : (rowZ L).size = L.length := by simp [rowZ]
theorem rowZ_get (L : List Int) (i : Nat) (h : i < L.length) : (rowZ L)[i]? = some (.int .i64 (L.getD i 0)) := by
  simp [rowZ, h]
theorem rowZ_set (L : List Int) (i : Nat) (x : Int) : (rowZ L).setIfInBounds i (.int .i64 x) = rowZ (L.set i x) := by
  simp [rowZ, List.map_set]
theorem rowZ_one (L : List Int) : (rowZ L).all (·.oneCell') = true := by
  rw [Array.all_eq_true_iff_forall_mem]
  intro v hv
  simp [rowZ] at hv
  obtain ⟨j, _, rfl⟩ := hv
  rfl
theorem rowZ_made (n : Nat) : madeCells #[.int .i64 0] n = rowZ (List.replicate n 0) := by
  apply Array.ext'
  rw [toList_madeCells_one]
  simp [rowZ]
/-- Block g is whole, of bytes L. -/
def Blz (w : World) (g : Nat) (L : List Int) : Prop := w.heap[g]? = some (.cells (rowZ L) 3 (0, 0))
theorem Blz.grown {w w' : World} {g : Nat} {L : List Int} (h : Blz w g L) (hg : Gr w w') : Blz w' g L := keptRow hg h
theorem Blz.cell {w : World} {g : Nat} {L : List Int} (h : Blz w g L) (i : Nat) (hi : i < L.length) : w.cell? ⟨g, i, none⟩ = some (.int .i64 (L.getD i 0)) := by
  rw [cell_of_row w g i _ _ _ h, rowZ_get L i hi]
theorem Blz.zs {w : World} {g : Nat} {L : List Int} (h : Blz w g L) (l : List Int) (c : Nat) (hl : l.length ≤ L.length) (hlc : l.length ≤ c) (hc : c ≤ 9223372036854775807) (hb : ∀ x ∈ l, I64 x) (he : ∀ i, i < l.length → L.getD i 0 = l.getD i 0) :
    Zs w (.slice (some ⟨g, 0, none⟩) l.length c) l :=
  ⟨hb, some ⟨g, 0, none⟩, c, rfl, hlc, hc, (fun h => by cases h), fun a ha i hi => by
    cases ha
    rw [Addr.add_mid, Nat.zero_add, Blz.cell h i (by omega), he i hi]⟩
theorem infoZ : (Tryd.prog.info? 3).map (fun i => (i.zero, i.size, i.bytes)) = some (some (.int .i64 0), 1, 8) := by kernel_rfl
/-- What stands in the two places behind, when k of them are set. -/
def marksZ (m : Int) : Nat → List Int
  | 0 => [0, 0]
  | 1 => [m, 0]
  | _ => [m, m]
theorem marksZ_length (m : Int) (k : Nat) : (marksZ m k).length = 2 := by
  unfold marksZ
  split <;> rfl
theorem marksZ_set (l : List Int) (n : Nat) (m : Int) (k : Nat) (hn : l.length = n) (h : k < 2) : (l ++ marksZ m k).set (n + k) m = l ++ marksZ m (k + 1) := by
  subst hn
  rw [List.set_append, if_neg (by omega), Nat.add_sub_cancel_left]
  have : k = 0 ∨ k = 1 := by omega
  rcases this with rfl | rfl <;> rfl
def spWZ (w : World) (L : List Int) : World := w.alloc (.cells (rowZ L) 3)
theorem Blz.zs_pre {w : World} {g : Nat} {l r : List Int} (h : Blz w g (l ++ r)) (hb : ∀ x ∈ l, I64 x) (hn : (l ++ r).length ≤ 9223372036854775807) : Zs w (.slice (some ⟨g, 0, none⟩) l.length (l ++ r).length) l :=
  Blz.zs h l _ (by simp) (by simp) hn hb (fun i hi => by
    rw [List.getD_eq_getElem?_getD, List.getD_eq_getElem?_getD, List.getElem?_append_left hi])
theorem ownsRow_form'' {w : World} {base : Nat} {e : TypeId} {v : Value} {n : Nat} {us : List Value} (h : w.ownsRow base e 1 v n us) : ∃ oa c, v = .slice oa n c := by
  obtain ⟨_, ⟨rfl, rfl⟩ | ⟨g, c, cur, rfl, _⟩⟩ := h
  · exact ⟨_, _, rfl⟩
  · exact ⟨_, _, rfl⟩
end Go.Proofs.YtjkfiimlaigdhaaDoor
namespace Go.Proofs.YtjkfiimlaigdhaaDoor.T

/-- The least number whose square is not below l (l up to 64). -/
def root (l : Nat) : Nat := ((List.range 9).find? fun r => decide (l ≤ r * r)).getD 0
/-- The number of binary digits. -/
def digits : Nat → Nat → Nat
  | 0, _ => 0
  | n + 1, x => if x = 0 then 0 else digits n (x / 2) + 1
def peak (l : Nat) : Nat := l / root l
/-- The weight of k, with l columns. -/
def weight (l k : Nat) : Nat :=
  (if 1 < k then 1048576 / (k * (k - 1)) else 1048576 / l) + (if k < peak l then 1048576 * root l / (l * k) else 0) + (if k = peak l then 1048576 * root l * digits 9 (root l) / l else 0)
def sum (l : Nat) : Nat → Nat
  | 0 => 0
  | k + 1 => sum l k + weight l (k + 1)
/-- The table, for l from 1 to 64. -/
def tabZ (l : Nat) : List Int := (List.range l).map fun i => ((sum l (i + 1) : Nat) : Int)
def tab (l : Int) : List Int := if 1 ≤ l ∧ l ≤ 64 then tabZ l.toNat else []
theorem tab_in {l : Nat} (h1 : 1 ≤ l) (h2 : l ≤ 64) : tab l = tabZ l := by
  unfold tab
  rw [if_pos ⟨by omega, by omega⟩, Int.toNat_natCast]
theorem tab_out {l : Int} (h : ¬ (1 ≤ l ∧ l ≤ 64)) : tab l = [] := if_neg h
theorem tabZ_length (l : Nat) : (tabZ l).length = l := by simp [tabZ]
theorem tabZ_at {l i : Nat} (h : i < l) : (tabZ l).getD i 0 = ((sum l (i + 1) : Nat) : Int) := by
  unfold tabZ
  rw [List.getD_eq_getElem?_getD, List.getElem?_map, List.getElem?_range h]
  rfl
theorem weight_pos {l k : Nat} (h1 : 1 ≤ l) (h2 : l ≤ 64) (_ : 1 ≤ k) (h4 : k ≤ 64) : 1 ≤ weight l k := by
  unfold weight
  have : 1 ≤ (if 1 < k then 1048576 / (k * (k - 1)) else 1048576 / l) := by
    split
    · have : k * (k - 1) ≤ 64 * 63 := Nat.mul_le_mul h4 (by omega)
      exact (Nat.le_div_iff_mul_le (Nat.mul_pos (by omega) (by omega))).2 (by omega)
    · exact (Nat.le_div_iff_mul_le (by omega)).2 (by omega)
  omega
theorem sum_lt {l : Nat} (h1 : 1 ≤ l) (h2 : l ≤ 64) : ∀ j i, i < j → j ≤ l → sum l i < sum l j
  | 0, _, h, _ => absurd h (by omega)
  | j + 1, i, h, hj => by
    have hw := weight_pos h1 h2 (k := j + 1) (by omega) (by omega)
    show sum l i < sum l j + weight l (j + 1)
    by_cases e : i = j
    · subst e; omega
    · have := sum_lt h1 h2 j i (by omega) (by omega)
      omega
set_option maxRecDepth 100000 in
theorem sum_top : ∀ l, l < 65 → sum l l < 8388608 := by decide +kernel
set_option maxRecDepth 100000 in
theorem weight_two : ∀ l, l < 65 → ∀ k, k < 65 → 2 ≤ k → k < l → k + 1 ≠ peak l → weight l (k + 1) ≤ weight l 2 := by decide +kernel
set_option maxRecDepth 100000 in
theorem root_ok : ∀ l, l < 65 → 1 ≤ l → l ≤ root l * root l ∧ 1 ≤ root l ∧ root l ≤ 8 ∧ ∀ r, r < 9 → r < root l → r * r < l := by decide +kernel
theorem root_eq {l r : Nat} (h1 : 1 ≤ l) (h2 : l ≤ 64) (h : l ≤ r * r) (hm : ∀ i, i < r → i * i < l) : r = root l := by
  obtain ⟨q1, q2, q3, q4⟩ := root_ok l (by omega) h1
  apply Classical.byContradiction
  intro e
  rcases Nat.lt_or_gt_of_ne e with c | c
  · have := q4 r (by omega) c
    omega
  · have := hm (root l) c
    omega
theorem digits_ok' : ∀ r, r < 9 → 1 ≤ r → ∀ j, j < 5 → r / 2 ^ j = 0 → ((List.range j).all fun i => r / 2 ^ i != 0) = true → digits 9 r = j := by decide +kernel
theorem digits_ok {r j : Nat} (h1 : r < 9) (h2 : 1 ≤ r) (h3 : j < 5) (h4 : r / 2 ^ j = 0) (h5 : ∀ i, i < j → r / 2 ^ i ≠ 0) : digits 9 r = j :=
  digits_ok' r h1 h2 j h3 h4 (List.all_eq_true.2 fun i hi => by simpa using h5 i (List.mem_range.1 hi))
theorem half_ok : ∀ r, r < 9 → ∀ j, j < 5 → r / 2 ^ j ≠ 0 → j < 4 := by decide +kernel
theorem digits_le : ∀ r, r < 9 → digits 9 r ≤ 4 := by decide +kernel
theorem sum_le {l : Nat} (h1 : 1 ≤ l) (h2 : l ≤ 64) {i : Nat} (hi : i ≤ l) : sum l i < 8388608 := by
  have := sum_top l (by omega)
  by_cases e : i = l
  · rw [e]; exact this
  · have := sum_lt h1 h2 l i (by omega) (Nat.le_refl _)
    omega
/-- The degree of a number. -/
def degA : List Int → Int → Nat → Int
  | [], _, _ => 0
  | a :: t, x, k => if x < a then ((k + 1 : Nat) : Int) else degA t x (k + 1)
def deg (t : List Int) (x : Int) : Int := if x < 0 then 0 else degA t x 0
theorem degA_at : ∀ (t : List Int) (x : Int) (k j : Nat), j < t.length → (∀ i, i < j → t.getD i 0 ≤ x) → x < t.getD j 0 → degA t x k = ((k + j + 1 : Nat) : Int)
  | [], _, _, _, h, _, _ => absurd h (by simp)
  | a :: t, x, k, 0, _, _, h => by
    have : x < a := by simpa using h
    unfold degA
    rw [if_pos this]
  | a :: t, x, k, j + 1, hj, hb, h => by
    have h0 : a ≤ x := by simpa using hb 0 (by omega)
    unfold degA
    rw [if_neg (by omega), degA_at t x (k + 1) j (by simpa using hj) (fun i hi => by simpa using hb (i + 1) (by omega)) (by simpa using h)]
    congr 1
    omega
theorem degA_none : ∀ (t : List Int) (x : Int) (k : Nat), (∀ i, i < t.length → t.getD i 0 ≤ x) → degA t x k = 0
  | [], _, _, _ => rfl
  | a :: t, x, k, h => by
    have h0 : a ≤ x := by simpa using h 0 (by simp)
    unfold degA
    rw [if_neg (by omega)]
    exact degA_none t x (k + 1) fun i hi => by simpa using h (i + 1) (by simpa using hi)
theorem deg_at {t : List Int} {x : Int} {j : Nat} (h0 : 0 ≤ x) (hj : j < t.length) (hb : ∀ i, i < j → t.getD i 0 ≤ x) (h : x < t.getD j 0) : deg t x = ((j + 1 : Nat) : Int) := by
  unfold deg
  rw [if_neg (by omega), degA_at t x 0 j hj hb h, Nat.zero_add]
theorem deg_none {t : List Int} {x : Int} (hb : ∀ i, i < t.length → t.getD i 0 ≤ x) : deg t x = 0 := by
  unfold deg
  split
  · rfl
  · exact degA_none t x 0 hb
theorem deg_low {t : List Int} {x : Int} (h : x < 0) : deg t x = 0 := if_pos h
theorem deg_nil (x : Int) : deg [] x = 0 := deg_none fun i hi => absurd hi (by simp)
theorem least {P : Nat → Prop} : ∀ n, P n → ∃ j, j ≤ n ∧ P j ∧ ∀ i, i < j → ¬ P i := by
  intro n
  induction n using Nat.strongRecOn with
  | _ n ih =>
    intro h
    by_cases hex : ∃ i, i < n ∧ P i
    · obtain ⟨i, hi, hp⟩ := hex
      obtain ⟨j, h1, h2, h3⟩ := ih i hi hp
      exact ⟨j, by omega, h2, h3⟩
    · exact ⟨n, Nat.le_refl _, h, fun i hi hp => hex ⟨i, hi, hp⟩⟩
/-- Below the last number there is a degree. -/
theorem deg_some {t : List Int} {x : Int} (h0 : 0 ≤ x) (hl : 0 < t.length) (hx : x < t.getD (t.length - 1) 0) : ∃ j, j < t.length ∧ deg t x = ((j + 1 : Nat) : Int) := by
  obtain ⟨j, hj, h1, h2⟩ := least (P := fun j => x < t.getD j 0) (t.length - 1) hx
  exact ⟨j, by omega, deg_at h0 (by omega) (fun i hi => by have := h2 i hi; omega) h1⟩
end Go.Proofs.YtjkfiimlaigdhaaDoor.T
namespace Go.Proofs.YtjkfiimlaigdhaaDoor
open Go.RowKit

theorem ints_cells {w : World} {o : Option Addr} {l : List Int} {n : Nat} (hl : l.length = n) (h : ∀ a, o = some a → ∀ i, i < n → w.cell? (a.add i) = some (.int .i64 (l.getD i 0))) :
    ∀ ad, o = some ad → ∀ i u, (l.map (Value.int .i64))[i]? = some u → w.cell? (ad.add i) = some u := by
  intro ad ha i u hu
  have hi : i < l.length := by
    have := (List.getElem?_eq_some_iff.1 hu).1
    rwa [List.length_map] at this
  rw [h ad ha i (by omega)]
  rw [List.getElem?_map, List.getElem?_eq_getElem hi] at hu
  rw [List.getD_eq_getElem?_getD, List.getElem?_eq_getElem hi]
  simpa using hu
theorem Zs.parts {w : World} {oa : Option Addr} {m c : Nat} {l : List Int} (h : Zs w (.slice oa m c) l) : l.length = m ∧ m ≤ c ∧ c ≤ 9223372036854775807 ∧ (oa = none → m = 0 ∧ c = 0) ∧ ∀ ad, oa = some ad → ∀ i u, (l.map (Value.int .i64))[i]? = some u → w.cell? (ad.add i) = some u := by
  obtain ⟨_, oa', c', he, h2, h3, h4, h5⟩ := h
  obtain ⟨rfl, rfl, rfl⟩ : oa = oa' ∧ m = l.length ∧ c = c' := by simpa using he
  exact ⟨rfl, h2, h3, fun e => ⟨by have := h4 e; omega, h4 e⟩, ints_cells rfl h5⟩
theorem Zs.cellAt {w : World} {a : Addr} {m c : Nat} {l : List Int} (h : Zs w (.slice (some a) m c) l) {i : Nat} (hi : i < m) : w.cell? (a.add i) = some (.int .i64 (l.getD i 0)) := by
  obtain ⟨_, oa', c', he, h2, h3, h4, h5⟩ := h
  obtain ⟨rfl, rfl, rfl⟩ : some a = oa' ∧ m = l.length ∧ c = c' := by simpa using he
  exact h5 a rfl i hi
theorem Zs.addr {w : World} {oa : Option Addr} {m c : Nat} {l : List Int} (h : Zs w (.slice oa m c) l) (hm : 0 < m) : ∃ a, oa = some a := by
  obtain ⟨p1, _, _, p4, _⟩ := h.parts
  cases oa with
  | none => have := (p4 rfl).1; omega
  | some a => exact ⟨a, rfl⟩
theorem Zs.drop {w : World} {b : Addr} {m c k : Nat} {l : List Int} (h : Zs w (.slice (some b) m c) l) (hk : k ≤ m) : Zs w (.slice (if c = k then some b else some (b.add k)) (m - k) (c - k)) (l.drop k) := by
  obtain ⟨p1, p2, p3, _, _⟩ := h.parts
  have hl : (l.drop k).length = m - k := by rw [List.length_drop]; omega
  refine ⟨fun x hx => h.1 x (List.mem_of_mem_drop hx), _, _, by rw [hl], by rw [hl]; omega, by omega, (fun e => by split at e <;> cases e), fun a ha i hi => ?_⟩
  rw [hl] at hi
  rw [if_neg (by omega)] at ha
  cases ha
  rw [Addr.add_add', h.cellAt (by omega), List.getD_eq_getElem?_getD, List.getD_eq_getElem?_getD, List.getElem?_drop]
theorem intsZ_oneCell (l : List Int) : ∀ u ∈ l.map (Value.int .i64), u.oneCell' = true := by
  intro u hu
  obtain ⟨x, _, rfl⟩ := List.mem_map.1 hu
  rfl
/-- Where all but one block is as it was, what was there ahead of that block's making stands. -/
theorem gr_by_own {w0 w w' : World} {base : Nat} {e : TypeId} {v : Value} {n : Nat} {us : List Value} (h : Gr w0 w) (hg : w.grownBy w' v.ownBlock) (ho : w.ownsRow base e 1 v n us) (hb : w0.heap.size ≤ base) : Gr w0 w' :=
  Gr.append h hg fun g hv => by have := ownsRow_base ho g hv; omega
theorem own_in {w : World} {base : Nat} {e : TypeId} {v : Value} {n : Nat} {us : List Value} (h : w.ownsRow base e 1 v n us) {g : Nat} (hg : v.ownBlock = some g) : g < w.heap.size := by
  obtain ⟨_, ⟨rfl, _⟩ | ⟨g', c, cur, rfl, hb, hgg, _⟩⟩ := h
  · cases hg
  · simp [Value.ownBlock] at hg
    subst hg
    exact (Array.getElem?_eq_some_iff.1 hgg).1
theorem own_through {base : Nat} {w w' : World} {e : TypeId} {size : Nat} {v : Value} {n : Nat} {xs : List Value} {row : Option Nat} (h : w.ownsRow base e size v n xs) (hg : w.grownBy w' row) (hne : ∀ g, v.ownBlock = some g → row ≠ some g) : w'.ownsRow base e size v n xs := by
  obtain ⟨h0, h1 | ⟨g, c, cur, rfl, hb, hgg, h2⟩⟩ := h
  · exact ⟨h0, .inl h1⟩
  · refine ⟨h0, .inr ⟨g, c, cur, rfl, hb, ?_, h2⟩⟩
    rw [hg.block g (Array.getElem?_eq_some_iff.1 hgg).1 (fun e => hne g rfl e.symm)]
    exact hgg
/-- Two lists of one's own, of which one grows: the other stays, and they stay apart. -/
theorem own_sep {w w' : World} {base : Nat} {e : TypeId} {v v2 : Value} {n2 g' : Nat} {us2 : List Value} (ho2 : w.ownsRow base e 1 v2 n2 us2) (hs : ∀ g, v2.ownBlock = some g → v.ownBlock ≠ some g) (hg : w.grownBy w' v.ownBlock) (hl : v.ownBlock = some g' ∨ g' = w.heap.size) :
    w'.ownsRow base e 1 v2 n2 us2 ∧ v2.ownBlock ≠ some g' := by
  refine ⟨own_through ho2 hg hs, fun h => ?_⟩
  rcases hl with hl | hl
  · exact hs g' h hl
  · have := own_in ho2 h
    omega
theorem one_zs {w : World} (k : Int) (hk : I64 k) : Zs (w.alloc (.cells #[.int .i64 k] 3)) (.slice (some ⟨w.heap.size, 0, none⟩) 1 1) [k] :=
  Blz.zs (L := [k]) (heap_alloc_new _ _) [k] 1 (Nat.le_refl _) (Nat.le_refl _) (by omega) (by simpa using hk) fun _ _ => rfl
theorem two_zs {w : World} (k k' : Int) (hk : I64 k) (hk' : I64 k') : Zs (w.alloc (.cells #[.int .i64 k, .int .i64 k'] 3)) (.slice (some ⟨w.heap.size, 0, none⟩) 2 2) [k, k'] :=
  Blz.zs (L := [k, k']) (heap_alloc_new _ _) [k, k'] 2 (Nat.le_refl _) (Nat.le_refl _) (by omega) (by simp [hk, hk']) fun _ _ => rfl
/-- Memory of other kinds than e stays. -/
def Ke (e : TypeId) (w w' : World) : Prop := w.heap.size ≤ w'.heap.size ∧ ∀ (k : Nat) (c : Array Value) (t : TypeId) (fr : Nat × Nat), w.heap[k]? = some (Obj.cells c t fr) → t ≠ e → w'.heap[k]? = some (Obj.cells c t fr)
theorem Ke.of_own {w w' : World} {base : Nat} {e : TypeId} {v : Value} {n : Nat} {us : List Value} (ho : w.ownsRow base e 1 v n us) (hg : w.grownBy w' v.ownBlock) : Ke e w w' := ⟨hg.size, fun k c t fr hk ht => by
  rw [hg.block k (Array.getElem?_eq_some_iff.1 hk).1 (fun h => ?_)]
  · exact hk
  · obtain ⟨_, ⟨rfl, _⟩ | ⟨g', c', cur, rfl, hb, hgg, _⟩⟩ := ho
    · cases h
    · simp [Value.ownBlock] at h
      subst h
      rw [hk] at hgg
      simp at hgg
      exact ht hgg.2.1⟩
theorem Ke.of_gr {e : TypeId} {w w' : World} (h : Gr w w') : Ke e w w' := ⟨h.size, fun _ _ _ _ hk _ => keptRow h hk⟩
theorem Ke.trans {e : TypeId} {w w1 w2 : World} (h : Ke e w w1) (h' : Ke e w1 w2) : Ke e w w2 := ⟨Nat.le_trans h.1 h'.1, fun k c t fr hk ht => h'.2 k c t fr (h.2 k c t fr hk ht) ht⟩
theorem owns_zs {base n : Nat} {w : World} {v : Value} {l : List Int} (ho : w.ownsRow base 3 1 v n (l.map (Value.int .i64))) (hl : l.length = n) (hr : ∀ x ∈ l, I64 x) : Zs w v l := by
  obtain ⟨h0, ⟨rfl, rfl⟩ | ⟨g, c, cur, rfl, hb, hg, h1, h2, h3, h4⟩⟩ := ho
  · obtain rfl : l = [] := List.eq_nil_of_length_eq_zero hl
    exact Zs.nil w
  · unfold maxLen at h2
    refine ⟨hr, some ⟨g, 0, none⟩, c, by rw [hl], by omega, h2, (fun h => by cases h), fun a ha i hi => ?_⟩
    cases ha
    rw [Addr.add_mid, Nat.zero_add, cell_of_row w g i _ _ _ hg]
    have hi2 : i < cur.toList.length := by simp; omega
    have e : (cur.toList.take (n * 1))[i]? = some (.int .i64 (l.getD i 0)) := by
      rw [h4, List.getElem?_map, List.getElem?_eq_getElem hi, List.getD_eq_getElem?_getD, List.getElem?_eq_getElem hi]
      rfl
    rw [List.getElem?_take_of_lt (by omega)] at e
    simpa using e
end Go.Proofs.YtjkfiimlaigdhaaDoor
