/-
  The document's own cell.
-/
import Derived.Test.YtpckdjapkngpgaaDoorVe
import Derived.Test.YtpckdjapkngpgaaDoorVb
import Derived.Test.YtpckdjapkngpgaaDoorAz
import Derived.Test.YtpckdjapkngpgaaDoorZs
namespace Go.Proofs.YtpckdjapkngpgaaDoor
open Go.RowKit

/-- A literal of bytes is one's own. -/
theorem own_lit5 {w : World} {base : Nat} (l : List Int) (hn : l.length ≤ 1000) (hb : base ≤ w.heap.size) :
    (w.alloc (.cells (rowB l) 5)).ownsRow base 5 1 (.slice (some ⟨w.heap.size, 0, none⟩) l.length l.length) l.length (l.map (Value.int .u8)) :=
  ⟨by simp, .inr ⟨w.heap.size, l.length, rowB l, rfl, hb, heap_alloc_new _ _, Nat.le_refl _, by unfold maxLen; omega, by simp [rowB], by rw [show l.length * 1 = (l.map (Value.int .u8)).length from by simp, show (rowB l).toList = l.map (Value.int .u8) from by simp [rowB], List.take_length]⟩⟩
theorem gr_lit5 {w0 w w' : World} {l : List Int} {n : Nat} (h : Gr w0 w) (hn : l.length = n) (hl : n ≤ 1000) (hg : (w.alloc (.cells (rowB l) 5)).grownBy w' (Value.slice (some ⟨w.heap.size, 0, none⟩) n n).ownBlock) : Gr w0 w' := by
  subst hn
  exact Gr.append (Gr.alloc h _ _) hg (fun g hv => Nat.le_trans h.size (ownsRow_base (own_lit5 (w := w) (base := w.heap.size) l hl (Nat.le_refl _)) g hv))
def sliceLen : Value → Nat
  | .slice _ n _ => n
  | _ => 0
set_option maxRecDepth 100000 in
set_option maxHeartbeats 1600000 in
theorem refPut_in (k : Int) (v : Value) (body : List Int) (w : World) (hm : Cell.MayC k body) (h : Bs w v body) :
    Calls Tryd.prog 13 #[.int .i64 k, v] w fun e w' => ∃ u, e = .returned u ∧ New w w' u (Cell.cell k body) := by
  obtain ⟨o, c, rfl⟩ := h.form5
  obtain ⟨n, hn⟩ : ∃ n, body.length = n := ⟨_, rfl⟩
  obtain ⟨hk1, hk2, hk3⟩ := hm
  have HN := Lib.hid hn
  rw [hn] at h hk3 ⊢
  have H := Lib.hid h
  have hw : IntKind.u8.wrap k = k := by simp [IntKind.wrap, IntKind.bits, IntKind.signed]; omega
  have hmd : k % 256 = k := by omega
  clear h hn
  go_enter Tryd.func13, Tryd.ntmps13
  go_wp2_with (first
    | (at_builtin; refine wpList_append_bytes rfl _ _ rfl w.heap.size (.slice (some ⟨w.heap.size, 0, none⟩) 4 4) 4 [87, 115, 1, k] rfl (own_lit5 [87, 115, 1, k] (by simp) (Nat.le_refl _)) o n c body rfl (Bs.grown H.out (Gr.alloc (Gr.refl _) _ _)) (by omega) (by simp) ?_; intro v4 w4 ho4 hg4; obtain ⟨o4, c4, rfl⟩ := ownsRow_form ho4; have O4 := Lib.hid ho4; have G4 : Hid (Gr w w4) := Lib.hid (gr_lit5 (n := 4) (l := [87, 115, 1, k]) (Gr.refl w) rfl (by omega) hg4); clear ho4 hg4))
  have HBB : Hid (∀ x ∈ body, Byt x) := Lib.hid H.out.1
  have HLB : Hid (∀ t, ∀ x ∈ [87, 115, 1, k] ++ body ++ List.replicate t 0, Byt x) := Lib.hid fun t x hx => by
    rcases List.mem_append.1 hx with h | h
    · rcases List.mem_append.1 h with h | h
      · simp only [List.mem_cons, List.not_mem_nil, or_false] at h
        unfold Byt
        omega
      · exact HBB.out x h
    · obtain ⟨_, rfl⟩ := List.mem_replicate.1 h
      exact ⟨by decide, by decide⟩
  have HLL : Hid (∀ t, ([87, 115, 1, k] ++ body ++ List.replicate t 0).length = 4 + n + t) := Lib.hid fun t => by
    rw [List.length_append, List.length_append, List.length_replicate, HN.out]
    rfl
  have O5 : Hid (w4.ownsRow w.heap.size 5 1 (.slice o4 (4 + n) c4) (4 + n) (([87, 115, 1, k] ++ body ++ List.replicate (4 + n - 4 - n) 0).map (Value.int .u8))) := Lib.hid (by
    rw [show 4 + n - 4 - n = 0 from by omega, List.replicate_zero, List.append_nil]
    exact O4.out)
  clear O4 H hw hmd
  go_loopw [5] (fun bv W => ∃ m o c, 4 + n ≤ m ∧ m ≤ 59 ∧ bv = .slice o m c ∧ W.ownsRow w.heap.size 5 1 (.slice o m c) m (([87, 115, 1, k] ++ body ++ List.replicate (m - 4 - n) 0).map (Value.int .u8)) ∧ Gr w W) (fun bv _ => 60 - sliceLen bv)
  case atStart => exact ⟨4 + n, o4, c4, Nat.le_refl _, by omega, rfl, O5.out, G4.out⟩
  case round =>
    obtain ⟨wi, hwi⟩ : ∃ x, x = wr := ⟨_, rfl⟩
    subst hwi
    obtain ⟨m, o5, c5, hm1, hm2, rfl, ho, hg⟩ := hrel
    have OO := Lib.hid ho
    have GG := Lib.hid hg
    clear ho hg O5 G4
    by_cases hlt : m < 59
    · have hb1 : (m : Int) < 59 := by omega
      go_wp2_with (first
        | (at_builtin; refine wpList_append_bytes rfl _ _ rfl w.heap.size (.slice o5 m c5) m ([87, 115, 1, k] ++ body ++ List.replicate (m - 4 - n) 0) rfl (OO.out.alloc _) (some ⟨wi.heap.size, 0, none⟩) 1 1 [0] rfl (lit_bs1 [0] (by simp [Byt]) (by simp)) (by omega) (by have := GG.out.size; simp; omega) ?_; intro v6 w6 ho6 hg6; obtain ⟨o6, c6, rfl⟩ := ownsRow_form ho6; have O6 := Lib.hid ho6; have G6 : Hid (Gr w w6) := Lib.hid (Gr.append (Gr.alloc GG.out _ _) hg6 (ownsRow_base OO.out)); clear ho6 hg6))
      refine ⟨⟨m + 1, o6, c6, by omega, by omega, rfl, ?_, G6.out⟩, by simp [sliceLen]; omega⟩
      have h := O6.out
      rw [List.append_assoc, ← List.replicate_succ', show m - 4 - n + 1 = m + 1 - 4 - n from by omega] at h
      exact h
    · obtain rfl : m = 59 := by omega
      have HPR : Hid ([87, 115, 1, k] ++ body ++ List.replicate (59 - 4 - n) 0 = Cell.pre k body) := Lib.hid (by
        unfold Cell.pre Cell.pad
        rw [List.append_assoc, HN.out, show 59 - 4 - n = 55 - n from by omega])
      have NB : Hid (New w wi (.slice o5 59 c5) (Cell.pre k body)) := Lib.hid (by
        have hl := HLL.out (59 - 4 - n)
        have hb := HLB.out (59 - 4 - n)
        rw [HPR.out] at hl hb
        have h := OO.out
        rw [HPR.out] at h
        exact New.of_row GG.out hb (by rw [hl, show 4 + n + (59 - 4 - n) = 59 from by omega]; exact h))
      have O7 : Hid (wi.ownsRow w.heap.size 5 1 (.slice o5 59 c5) 59 ((Cell.pre k body).map (Value.int .u8))) := Lib.hid (by
        have h := OO.out
        rw [HPR.out] at h
        exact h)
      have HPL : Hid ((Cell.pre k body).length = 59) := Lib.hid (Cell.pre_length (by rw [HN.out]; exact hk3))
      clear OO HPR
      go_wp2_with fail
      refine (refCrc_any _ _ _ (New.bs NB.out) (by rw [HPL.out]; omega)).mono ?_
      rintro e w7 ⟨rfl, hg7⟩
      obtain ⟨s, hs⟩ : ∃ s, Crc.sum (Cell.pre k body) = s := ⟨_, rfl⟩
      have hs2 : s < 4294967296 := by rw [← hs]; exact Crc.sum_lt NB.out.2.1
      have O8 := Lib.hid (O7.out.of_gr hg7)
      have G7 := Lib.hid (Gr.trans GG.out hg7)
      have HS := Lib.hid hs
      rw [hs]
      clear hs hg7 O7
      go_wp2_with (first
        | (at_builtin; refine wpList_append_bytes rfl _ _ rfl w.heap.size (.slice o5 59 c5) 59 (Cell.pre k body) rfl (O8.out.alloc _) (some ⟨w7.heap.size, 0, none⟩) 5 5 ([(s : Int) % 256, (s : Int) / 256 % 256, (s : Int) / 65536 % 256, (s : Int) / 16777216] ++ [165]) rfl (lit_bs1 _ (by intro x hx; rcases List.mem_append.1 hx with h | h; exact low_byt hs2 x h; obtain rfl := List.mem_singleton.1 h; exact ⟨by decide, by decide⟩) (by simp)) (by omega) (by have := G7.out.size; simp; omega) ?_; intro v8 w8 ho8 hg8; obtain ⟨o8, c8, rfl⟩ := ownsRow_form ho8; have O9 := Lib.hid ho8; have G8 : Hid (Gr w w8) := Lib.hid (Gr.append (Gr.alloc G7.out _ _) hg8 (ownsRow_base O8.out)); clear ho8 hg8))
      go_ret
      refine ⟨_, rfl, New.of_row G8.out (Cell.cell_byt ⟨hk1, hk2⟩ HBB.out) ?_⟩
      rw [Cell.cell_length (by rw [HN.out]; exact hk3)]
      have h := O9.out
      rw [low4_eq hs2, ← List.append_assoc, ← HS.out] at h
      exact h
set_option maxHeartbeats 800000 in
theorem refPut_ne (k : Int) (v : Value) (body : List Int) (w : World) (hk : I64 k) (hm : ¬ Cell.MayC k body) (hl : body.length ≤ 1000) (h : Bs w v body) :
    Calls Tryd.prog 13 #[.int .i64 k, v] w fun e w' => e = .returned (.slice none 0 0) ∧ Gr w w' := by
  obtain ⟨o, c, rfl⟩ := h.form5
  obtain ⟨n, hn⟩ : ∃ n, body.length = n := ⟨_, rfl⟩
  unfold Cell.MayC at hm
  unfold I64 at hk
  rw [hn] at hm hl ⊢
  clear h hn
  by_cases h1 : k < 1
  · go_enter Tryd.func13, Tryd.ntmps13
    go_wp2_with fail
    go_ret
    exact ⟨rfl, Gr.refl _⟩
  · by_cases h2 : 255 < k
    · go_enter Tryd.func13, Tryd.ntmps13
      go_wp2_with fail
      go_ret
      exact ⟨rfl, Gr.refl _⟩
    · have h3 : (55 : Int) < (n : Int) := by omega
      go_enter Tryd.func13, Tryd.ntmps13
      go_wp2_with fail
      go_ret
      exact ⟨rfl, Gr.refl _⟩
theorem New.grown5 {w w' w2 : World} {v : Value} {l : List Int} (h : New w w' v l) (hg : Gr w' w2) : New w w2 v l := by
  obtain ⟨h1, h2, h3⟩ := h
  refine ⟨Gr.trans h1 hg, h2, ?_⟩
  rcases h3 with h3 | ⟨g, c, cur, e1, e2, e3, e4⟩
  · exact .inl h3
  · exact .inr ⟨g, c, cur, e1, e2, keptRow hg e3, e4⟩
theorem New.nil5 (w w' : World) (hg : Gr w w') : New w w' (.slice none 0 0) [] := ⟨hg, (fun x hx => by cases hx), .inl ⟨rfl, none, 0, rfl, fun _ => rfl, by omega⟩⟩
theorem refPut_any (k : Int) (v : Value) (body : List Int) (w : World) (hk : I64 k) (hl : body.length ≤ 1000) (h : Bs w v body) :
    Calls Tryd.prog 13 #[.int .i64 k, v] w fun e w' => ∃ u, e = .returned u ∧ New w w' u (Cell.put k body) := by
  by_cases hm : Cell.MayC k body
  · rw [Cell.put_in hm]
    exact refPut_in k v body w hm h
  · rw [show Cell.put k body = [] from if_neg hm]
    refine (refPut_ne k v body w hk hm hl h).mono ?_
    rintro e w' ⟨rfl, hg⟩
    exact ⟨_, rfl, New.nil5 w w' hg⟩
set_option maxRecDepth 100000 in
set_option maxHeartbeats 1600000 in
theorem refTake_in (v : Value) (b : List Int) (w : World) (h : Bs w v b) (hl : b.length = 64) :
    Calls Tryd.prog 18 #[v] w fun e w' => ∃ u, e = .returned (.tuple #[.int .i64 (Cell.takeK b), u, .bool (decide (Cell.Is b))]) ∧ New w w' u (Cell.takeX b) := by
  obtain ⟨ad, c, rfl, h2, h3, hc⟩ := Bs.at h (by omega)
  rw [hl] at h h2 hc ⊢
  have q3 := hc 3 (by omega)
  obtain ⟨ab, ao, asp⟩ := ad
  obtain rfl : asp = none := by
    have h0 := hc 0 (by omega)
    rw [show (Addr.mk ab ao asp).add 0 = ⟨ab, ao, asp⟩ from by simp [Addr.add]] at h0
    simpa using World.cell?_spot h0
  rw [Addr.add_mid] at q3
  have hby := Crc.getD_byt h.1 3
  obtain ⟨x3, hx3⟩ : ∃ x, b.getD 3 0 = x := ⟨_, rfl⟩
  have hx3b : Byt x3 := by rw [← hx3]; exact hby
  rw [hx3] at q3
  have HX3 := Lib.hid hx3
  have H := Lib.hid h
  have HL := Lib.hid hl
  have HM : Hid (Bs w (.slice (some ⟨ab, ao + 4, none⟩) 55 (c - 4)) (Cell.bodyOf b)) := Lib.hid (by
    have := Bs.mid5 h 4 55 (by omega)
    rw [if_neg (by omega), Addr.add_mid] at this
    exact this)
  have HBL : Hid ((Cell.bodyOf b).length = 55) := Lib.hid (by unfold Cell.bodyOf; rw [List.length_take, List.length_drop, hl]; omega)
  have u1 : (59 : Int) ≤ (c : Int) := by omega
  have u2 : ¬ c = 4 := by omega
  unfold Byt at hx3b
  have hwx : IntKind.i64.wrap x3 = x3 := by simp [IntKind.wrap, IntKind.bits, IntKind.signed]; omega
  clear h hl hc hby hx3
  go_enter Tryd.func18, Tryd.ntmps18
  go_wp2_with fail
  go_region_held3 (fun W => W.cell? ⟨ab, ao + 3, none⟩ = some (.int .u8 x3)) (first | exact k4 | exact q3 | go_keep)
    (first
      | (refine step_append_bytes rfl _ _ rfl w.heap.size (.slice none 0 0) 0 [] (by rfl) (World.ownsRow_nil _ _ _ _) (some ⟨ab, ao + 4, none⟩) 55 (c - 4) (Cell.bodyOf b) (by rfl) (Bs.grown HM.out (Gr.drew (Gr.refl _))) (by omega) (Nat.le_refl _) ?_; intro v4 w4 ho4 hg4; rw [Nat.zero_add, List.nil_append] at ho4; obtain ⟨o4, c4, rfl⟩ := ownsRow_form ho4; have G4 : Hid (Gr w w4) := Lib.hid (Gr.append (Gr.drew (Gr.refl w)) hg4 (fun _ h => by cases h)); have k4 := cell_grown G4.out q3; have O4 := Lib.hid ho4; clear ho4 hg4))
  have N4 : Hid (New w w4 (.slice o4 55 c4) (Cell.bodyOf b)) := Lib.hid (New.of_row G4.out (Cell.bodyOf_byt H.out.1) (by rw [HBL.out]; exact O4.out))
  clear O4
  go_wp2_with fail
  refine (refPut_any x3 _ (Cell.bodyOf b) _ ⟨by omega, by omega⟩ (by rw [HBL.out]; omega) (New.bs N4.out)).mono ?_
  rintro e w5 ⟨u5, rfl, hn5⟩
  obtain ⟨o5, c5, e5⟩ := (New.bs hn5).form5
  obtain ⟨lp, hlp⟩ : ∃ m, (Cell.put x3 (Cell.bodyOf b)).length = m := ⟨_, rfl⟩
  rw [hlp] at e5
  subst e5
  have N5 := Lib.hid hn5
  clear hn5 hlp
  go_wp2_with fail
  refine (same_any _ _ _ b _ (New.bs N5.out) (Bs.grown H.out (Gr.trans N4.out.1 N5.out.1))).mono ?_
  rintro e w6 ⟨rfl, hg6⟩
  have HG6 : Hid (Gr w w6) := Lib.hid (Gr.trans (Gr.trans N4.out.1 N5.out.1) hg6)
  have N6 : Hid (New w w6 (.slice o4 55 c4) (Cell.bodyOf b)) := Lib.hid (New.grown5 N4.out (Gr.trans N5.out.1 hg6))
  clear hg6 N5 N4
  by_cases hi : Cell.Is b
  · have e1 : (Cell.put x3 (Cell.bodyOf b) == b) = true := by rw [← HX3.out]; exact beq_iff_eq.2 hi.2
    have E1 : Hid (Cell.takeK b = x3) := Lib.hid (by rw [← HX3.out]; exact if_pos hi)
    have E2 : Hid (Cell.takeX b = Cell.bodyOf b) := Lib.hid (if_pos hi)
    have E3 : Hid (decide (Cell.Is b) = true) := Lib.hid (decide_eq_true hi)
    rw [e1]
    clear e1 hi
    go_wp2_with fail
    go_ret3
    rw [E1.out, E2.out, E3.out]
    exact ⟨_, rfl, N6.out⟩
  · have e1 : (Cell.put x3 (Cell.bodyOf b) == b) = false := by
      rw [← HX3.out]
      exact beq_eq_false_iff_ne.2 fun h => hi ⟨HL.out, h⟩
    have E1 : Hid (Cell.takeK b = 0) := Lib.hid (if_neg hi)
    have E2 : Hid (Cell.takeX b = []) := Lib.hid (if_neg hi)
    have E3 : Hid (decide (Cell.Is b) = false) := Lib.hid (decide_eq_false hi)
    rw [e1]
    clear e1 hi
    go_wp2_with fail
    go_ret3
    rw [E1.out, E2.out, E3.out]
    exact ⟨_, rfl, New.nil5 _ _ HG6.out⟩
set_option maxHeartbeats 400000 in
theorem refTake_ne (v : Value) (b : List Int) (w : World) (h : Bs w v b) (hl : ¬ b.length = 64) :
    Calls Tryd.prog 18 #[v] w fun e w' => e = .returned (.tuple #[.int .i64 0, .slice none 0 0, .bool false]) ∧ Gr w w' := by
  obtain ⟨o, c, rfl⟩ := h.form5
  obtain ⟨n, hn⟩ : ∃ n, b.length = n := ⟨_, rfl⟩
  rw [hn] at hl ⊢
  clear h hn
  have h1 : ¬ (n : Int) = 64 := by omega
  go_enter Tryd.func18, Tryd.ntmps18
  go_wp2_with fail
  go_ret3
  exact ⟨rfl, Gr.refl _⟩
theorem refTake_any (v : Value) (b : List Int) (w : World) (h : Bs w v b) :
    Calls Tryd.prog 18 #[v] w fun e w' => ∃ u, e = .returned (.tuple #[.int .i64 (Cell.takeK b), u, .bool (decide (Cell.Is b))]) ∧ New w w' u (Cell.takeX b) := by
  by_cases hl : b.length = 64
  · exact refTake_in v b w h hl
  · have hi : ¬ Cell.Is b := fun h => hl h.1
    rw [show Cell.takeK b = 0 from if_neg hi, show Cell.takeX b = [] from if_neg hi, decide_eq_false hi]
    refine (refTake_ne v b w h hl).mono ?_
    rintro e w' ⟨rfl, hg⟩
    exact ⟨_, rfl, New.nil5 _ _ hg⟩
end Go.Proofs.YtpckdjapkngpgaaDoor
