/-
  Law SumBehind, walked: bytes with their sum behind them have one sum.
-/
import Derived.Test.YteafcgohajhbnaaDoorSumTellsW
import Derived.Test.YteafcgohajhbnaaDoorAz
namespace Go.Proofs.YteafcgohajhbnaaDoor
open Go.RowKit

theorem low4_eq {s : Nat} (h : s < 4294967296) : [(s : Int) % 256, (s : Int) / 256 % 256, (s : Int) / 65536 % 256, (s : Int) / 16777216] = Crc.low4 s := by
  unfold Crc.low4
  simp only [List.cons.injEq, and_true]
  omega
theorem low_byt {s : Nat} (h : s < 4294967296) : ∀ x ∈ [(s : Int) % 256, (s : Int) / 256 % 256, (s : Int) / 65536 % 256, (s : Int) / 16777216], Byt x := by
  rw [low4_eq h]
  exact Crc.low4_byt s
set_option maxRecDepth 100000 in
set_option maxHeartbeats 800000 in
theorem sumBehind_walk (v : Value) (l : List Int) (w : World) (O : CrcOk w) (h : Bs w v l) :
    Calls Tryd.prog 5 #[v] w fun e w' => e = .returned (.bool true) ∧ Gr w w' := by
  have HO := Lib.hid O
  obtain ⟨o, c, rfl⟩ := h.form5
  have H := Lib.hid h
  clear O h
  go_enter Tryd.func5, Tryd.ntmps5
  go_wp2_with fail
  refine (cut_any _ l 300 _ H.out (by omega)).mono ?_
  rintro e w' ⟨v1, rfl, hb1, rfl⟩
  obtain ⟨L, hL⟩ : ∃ L, l.take 300 = L := ⟨_, rfl⟩
  rw [hL] at hb1
  have HL : Hid (L.length ≤ 300) := Lib.hid (by rw [← hL, List.length_take]; omega)
  obtain ⟨n, hn⟩ : ∃ n, L.length = n := ⟨_, rfl⟩
  have HN := Lib.hid hn
  obtain ⟨o1, c1, rfl⟩ := hb1.form5
  rw [hn] at hb1 ⊢
  have HB := Lib.hid hb1
  clear hL hb1 H hn
  go_wp2_with fail
  refine (HO.out.sum _ _ _ (Gr.refl _) HB.out (by have := HL.out; omega)).mono ?_
  rintro e w3 ⟨rfl, hg3⟩
  obtain ⟨s, hs⟩ : ∃ s, Crc.sum L = s := ⟨_, rfl⟩
  have hs2 : s < 4294967296 := by rw [← hs]; exact Crc.sum_lt HB.out.1
  rw [hs]
  have HS := Lib.hid hs
  have HG3 := Lib.hid hg3
  have HB3 := Lib.hid (HB.out.grown hg3)
  clear hg3 HB hs
  have HLN : n ≤ 300 := by have := HL.out; have := HN.out; omega
  go_wp2_with (first
    | (at_builtin; refine wpList_append_bytes rfl _ _ rfl w3.heap.size (.slice o4 n c4) n L rfl (O4.out.alloc _) (some ⟨w4.heap.size, 0, none⟩) 4 4 [(s : Int) % 256, (s : Int) / 256 % 256, (s : Int) / 65536 % 256, (s : Int) / 16777216] rfl (lit_bs1 _ (low_byt hs2) (by simp)) (by omega) (by have := G4.out.size; simp; omega) ?_; intro v5 w5 ho5 hg5; obtain ⟨o5, c5, rfl⟩ := ownsRow_form ho5; have N5 : Hid (New w3 w5 (.slice o5 (n + 4) c5) (L ++ Crc.low4 s)) := Lib.hid (New.of_row (Gr.append (Gr.alloc G4.out _ _) hg5 (ownsRow_base O4.out)) (by intro x hx; rcases List.mem_append.1 hx with h | h; exact HB3.out.1 x h; exact Crc.low4_byt s x h) (by rw [List.length_append, HN.out, ← low4_eq hs2]; exact ho5)); clear ho5 hg5)
    | (at_builtin; refine wpList_append_bytes rfl _ _ rfl w3.heap.size (.slice none 0 0) 0 [] rfl (World.ownsRow_nil _ _ _ _) o1 n c1 L rfl HB3.out (by omega) (Nat.le_refl _) ?_; intro v4 w4 ho4 hg4; rw [Nat.zero_add, List.nil_append] at ho4; obtain ⟨o4, c4, rfl⟩ := ownsRow_form ho4; have O4 := Lib.hid ho4; have G4 : Hid (Gr w3 w4) := Lib.hid (Gr.append (Gr.refl w3) hg4 (fun _ h => by cases h)); clear ho4 hg4))
  refine (HO.out.sum _ _ _ (Gr.trans HG3.out N5.out.1) (New.bs N5.out) (by rw [List.length_append, HN.out]; show n + 4 ≤ 1000; omega)).mono ?_
  rw [← HS.out, Crc.sum_behind HB3.out.1]
  rintro e w6 ⟨rfl, hg6⟩
  have HG6 := Lib.hid (Gr.trans HG3.out (Gr.trans N5.out.1 hg6))
  clear hg6 N5 O4 G4 HG3 HB3
  go_wp2_with fail
  refine (crcWakes_any HO.out _ HG6.out).mono ?_
  rintro e w7 ⟨rfl, hg7⟩
  have HG7 := Lib.hid (Gr.trans HG6.out hg7)
  clear hg7 HG6
  go_wp2_with fail
  go_ret
  exact ⟨rfl, HG7.out⟩
end Go.Proofs.YteafcgohajhbnaaDoor
