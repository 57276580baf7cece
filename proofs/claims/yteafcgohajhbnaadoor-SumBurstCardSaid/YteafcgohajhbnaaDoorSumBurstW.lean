/-
  Law SumBurst, walked: bytes with their sum behind them, a burst turned, are no longer such.
-/
import Derived.Test.YteafcgohajhbnaaDoorVd
import Derived.Test.YteafcgohajhbnaaDoorSumJoinsW
namespace Go.Proofs.YteafcgohajhbnaaDoor
open Go.RowKit

namespace Crc
theorem low4_inj {a b : Nat} (ha : a < 4294967296) (hb : b < 4294967296) (h : low4 a = low4 b) : a = b := by
  unfold low4 at h
  simp only [List.cons.injEq, and_true] at h
  omega
/-- Four bytes behind n. -/
theorem four_behind {x : List Int} {n : Nat} (hl : x.length = n + 4) : x = x.take n ++ [x.getD n 0, x.getD (n + 1) 0, x.getD (n + 2) 0, x.getD (n + 3) 0] := by
  refine eq_of_getD (by simp; omega) fun j hj => ?_
  rw [hl] at hj
  by_cases h : j < n
  · rw [List.getD_eq_getElem?_getD, List.getD_eq_getElem?_getD, List.getElem?_append_left (by rw [List.length_take]; omega), List.getElem?_take_of_lt h]
  · obtain ⟨k, rfl⟩ : ∃ k, j = n + k := ⟨j - n, by omega⟩
    have ht : (x.take n).length = n := by rw [List.length_take]; omega
    rw [List.getD_eq_getElem?_getD (l := _ ++ _), List.getElem?_append_right (by omega), ht, Nat.add_sub_cancel_left]
    rcases (by omega : k = 0 ∨ k = 1 ∨ k = 2 ∨ k = 3) with rfl | rfl | rfl | rfl <;> rfl
theorem burst_same {L : List Int} {n bit mask s t nt : Nat} (hb : ∀ x ∈ L, Byt x) (hn : L.length = n) (hs : sum L = s) (X : List Int) (hX : turnL bit mask (L ++ low4 s) 32 = X) (ht : sum (X.take n) = t) (hnt : turnN bit mask (n + 4) 32 = nt) :
    (X.getD n 0 = (t : Int) % 256 ∧ X.getD (n + 1) 0 = (t : Int) / 256 % 256 ∧ X.getD (n + 2) 0 = (t : Int) / 65536 % 256 ∧ X.getD (n + 3) 0 = (t : Int) / 16777216) ↔ nt = 0 := by
  have hbx : ∀ x ∈ L ++ low4 s, Byt x := fun x hx => by
    rcases List.mem_append.1 hx with h | h
    · exact hb x h
    · exact low4_byt s x h
  have hs2 : s < 4294967296 := by rw [← hs]; exact sum_lt hb
  have hlen : (L ++ low4 s).length = n + 4 := by rw [List.length_append, hn]; rfl
  have h0 : run 4294967295 (L ++ low4 s) = it 32 4294967295 := (behind_iff hb hs2).2 hs.symm
  have h1 := burst_iff (bit := bit) (mask := mask) hbx h0
  rw [hX, hlen, hnt] at h1
  rw [← h1]
  have hXb : ∀ x ∈ X, Byt x := by rw [← hX]; exact turnL_byt hbx 32
  have hXl : X.length = n + 4 := by rw [← hX, turnL_length, hlen]
  have b0 := getD_byt hXb n
  have b1 := getD_byt hXb (n + 1)
  have b2 := getD_byt hXb (n + 2)
  have b3 := getD_byt hXb (n + 3)
  have hp : ∀ x ∈ X.take n, Byt x := fun x hx => hXb x (List.mem_of_mem_take hx)
  have ht2 : t < 4294967296 := by rw [← ht]; exact sum_lt hp
  have h4 := low4_word _ _ _ _ b0 b1 b2 b3
  have h5 := four_behind hXl
  have hv : (X.getD n 0).toNat + 256 * (X.getD (n + 1) 0).toNat + 65536 * (X.getD (n + 2) 0).toNat + 16777216 * (X.getD (n + 3) 0).toNat < 4294967296 := by
    unfold Byt at b0 b1 b2 b3
    omega
  have h6 := behind_iff (v := (X.getD n 0).toNat + 256 * (X.getD (n + 1) 0).toNat + 65536 * (X.getD (n + 2) 0).toNat + 16777216 * (X.getD (n + 3) 0).toNat) hp hv
  rw [h4, ← h5, ht] at h6
  rw [h6]
  unfold Byt at b0 b1 b2 b3
  constructor
  · rintro ⟨e0, e1, e2, e3⟩
    omega
  · intro e
    omega
end Crc
set_option maxRecDepth 100000 in
set_option maxHeartbeats 1600000 in
theorem sumBurst_walk (v : Value) (l : List Int) (at' : Int) (mask : Int) (w : World) (O : CrcOk w) (h : Bs w v l) :
    Calls Tryd.prog 6 #[v, .int .i64 at', .int .u64 mask] w fun e w' => e = .returned (.bool true) ∧ Gr w w' := by
  have HO := Lib.hid O
  obtain ⟨mk, hmk, hmk2⟩ : ∃ m : Nat, mask % 4294967296 = m ∧ m < 4294967296 := ⟨(mask % 4294967296).toNat, by omega, by omega⟩
  have hw32 : IntKind.u32.wrap mask = (mk : Int) := by rw [← hmk]; simp [IntKind.wrap, IntKind.bits, IntKind.signed]
  clear hmk
  obtain ⟨o, c, rfl⟩ := h.form5
  have H := Lib.hid h
  clear O h
  go_enter Tryd.func6, Tryd.ntmps6
  go_wp2_with fail
  refine (cut_any _ l 300 _ H.out (by omega)).mono ?_
  rintro e w' ⟨v1, rfl, hb1, rfl⟩
  obtain ⟨L, hL⟩ : ∃ L, l.take 300 = L := ⟨_, rfl⟩
  rw [hL] at hb1
  have HL : Hid (L.length ≤ 300) := Lib.hid (by rw [← hL, List.length_take]; omega)
  obtain ⟨n, hn⟩ : ∃ n, L.length = n := ⟨_, rfl⟩
  have HN := Lib.hid hn
  obtain ⟨o1, c1, rfl⟩ := hb1.form5
  rw [hn] at hb1 ⊢
  have HB := Lib.hid hb1
  clear hL hb1 H hn
  go_wp2_with fail
  refine (HO.out.sum _ _ _ (Gr.refl _) HB.out (by have := HL.out; omega)).mono ?_
  rintro e w3 ⟨rfl, hg3⟩
  obtain ⟨s, hs⟩ : ∃ s, Crc.sum L = s := ⟨_, rfl⟩
  have hs2 : s < 4294967296 := by rw [← hs]; exact Crc.sum_lt HB.out.1
  rw [hs]
  have HS := Lib.hid hs
  have HG3 := Lib.hid hg3
  have HB3 := Lib.hid (HB.out.grown hg3)
  clear hg3 HB hs
  have HLN : n ≤ 300 := by have := HL.out; have := HN.out; omega
  go_wp2_with (first
    | (at_builtin; refine wpList_append_bytes rfl _ _ rfl w3.heap.size (.slice o4 n c4) n L rfl (O4.out.alloc _) (some ⟨w4.heap.size, 0, none⟩) 4 4 [(s : Int) % 256, (s : Int) / 256 % 256, (s : Int) / 65536 % 256, (s : Int) / 16777216] rfl (lit_bs1 _ (low_byt hs2) (by simp)) (by omega) (by have := G4.out.size; simp; omega) ?_; intro v5 w5 ho5 hg5; obtain ⟨o5, c5, rfl⟩ := ownsRow_form ho5; have N5 : Hid (New w3 w5 (.slice o5 (n + 4) c5) (L ++ Crc.low4 s)) := Lib.hid (New.of_row (Gr.append (Gr.alloc G4.out _ _) hg5 (ownsRow_base O4.out)) (by intro x hx; rcases List.mem_append.1 hx with h | h; exact HB3.out.1 x h; exact Crc.low4_byt s x h) (by rw [List.length_append, HN.out, ← low4_eq hs2]; exact ho5)); clear ho5 hg5)
    | (at_builtin; refine wpList_append_bytes rfl _ _ rfl w3.heap.size (.slice none 0 0) 0 [] rfl (World.ownsRow_nil _ _ _ _) o1 n c1 L rfl HB3.out (by omega) (Nat.le_refl _) ?_; intro v4 w4 ho4 hg4; rw [Nat.zero_add, List.nil_append] at ho4; obtain ⟨o4, c4, rfl⟩ := ownsRow_form ho4; have O4 := Lib.hid ho4; have G4 : Hid (Gr w3 w4) := Lib.hid (Gr.append (Gr.refl w3) hg4 (fun _ h => by cases h)); clear ho4 hg4))
  have hpos : 0 < (L ++ Crc.low4 s).length := by rw [List.length_append]; show 0 < L.length + 4; omega
  have hln : (L ++ Crc.low4 s).length = n + 4 := by rw [List.length_append, HN.out]; rfl
  obtain ⟨gx, cx, hv, hge, hcx, hcm, hwb⟩ := Wb.of_new N5.out hpos
  rw [hln] at hv hcx
  obtain ⟨rfl, rfl⟩ : o5 = some ⟨gx, 0, none⟩ ∧ c5 = cx := by simpa using hv
  have HG5 := Lib.hid (Gr.trans HG3.out N5.out.1)
  have HGE : Hid (w.heap.size ≤ gx) := Lib.hid (Nat.le_trans HG3.out.size hge)
  have HWB := Lib.hid hwb
  have HLN2 := Lib.hid hln
  have HXB : Hid (∀ x ∈ L ++ Crc.low4 s, Byt x) := Lib.hid N5.out.2.1
  clear hpos hln hv hge hwb N5 O4 G4 HG3
  refine (within_any at' (8 * ((n : Int) + 4)) (by omega) (by omega) _).mono ?_
  rintro e w' ⟨rfl, rfl⟩
  obtain ⟨bit, hbit, hbit2⟩ : ∃ b : Nat, at' % (8 * ((n : Int) + 4)) = b ∧ b ≤ 1000000 := ⟨(at' % (8 * ((n : Int) + 4))).toNat, by have := Int.emod_nonneg at' (by omega : 8 * ((n : Int) + 4) ≠ 0); omega, by have := Int.emod_lt_of_pos at' (by omega : 0 < 8 * ((n : Int) + 4)); have := Int.emod_nonneg at' (by omega : 8 * ((n : Int) + 4) ≠ 0); omega⟩
  rw [hbit]
  clear hbit
  go_wp2_with fail
  refine (turn_any gx c5 bit mk (n + 4) _ _ HLN2.out hcx hcm HXB.out hbit2 hmk2 HWB.out).mono ?_
  rintro e w6 ⟨rfl, hw6, hk6⟩
  have HBS : Hid (∀ X t nt, Crc.turnL bit mk (L ++ Crc.low4 s) 32 = X → Crc.sum (X.take n) = t → Crc.turnN bit mk (n + 4) 32 = nt → ((X.getD n 0 = ((t : Nat) : Int) % 256 ∧ X.getD (n + 1) 0 = (t : Int) / 256 % 256 ∧ X.getD (n + 2) 0 = (t : Int) / 65536 % 256 ∧ X.getD (n + 3) 0 = (t : Int) / 16777216) ↔ nt = 0)) := Lib.hid fun X t nt h1 h2 h3 => Crc.burst_same HB3.out.1 HN.out HS.out X h1 h2 h3
  have HXB6 := Lib.hid (Crc.turnL_byt (bit := bit) (mask := mk) HXB.out 32)
  have HXL6 : Hid ((Crc.turnL bit mk (L ++ Crc.low4 s) 32).length = n + 4) := Lib.hid (by rw [Crc.turnL_length, HLN2.out])
  have HG6 : Hid (Gr w w6) := Lib.hid (hk6.gr HG5.out (fun k e => by rw [e]; exact HGE.out))
  have HW6 := Lib.hid hw6
  clear hw6 hk6 HWB HG5 HXB HLN2 HB3
  obtain ⟨X, hX⟩ : ∃ X, Crc.turnL bit mk (L ++ Crc.low4 s) 32 = X := ⟨_, rfl⟩
  obtain ⟨nt, hnt⟩ : ∃ m, Crc.turnN bit mk (n + 4) 32 = m := ⟨_, rfl⟩
  have HBX : Hid (∀ t, Crc.sum (X.take n) = t → ((X.getD n 0 = ((t : Nat) : Int) % 256 ∧ X.getD (n + 1) 0 = (t : Int) / 256 % 256 ∧ X.getD (n + 2) 0 = (t : Int) / 65536 % 256 ∧ X.getD (n + 3) 0 = (t : Int) / 16777216) ↔ nt = 0)) := Lib.hid fun t h => HBS.out X t nt hX h hnt
  rw [hX] at HW6 HXB6 HXL6
  rw [hnt]
  have hnt2 : nt ≤ 32 := by rw [← hnt]; exact Crc.turnN_le _ _ _ _
  clear hX hnt HBS
  have HBW : Hid (Bs w6 (.slice (some ⟨gx, 0, none⟩) (n + 4) c5) X) := Lib.hid (by
    have := HW6.out.bs HXB6.out (by rw [HXL6.out]; exact hcx) hcm
    rwa [HXL6.out] at this)
  have u1 : (n : Int) ≤ (c5 : Int) := by omega
  have u2 : (0 : Int) ≤ (n : Int) := by omega
  go_wp2_with fail
  refine (HO.out.sum _ (X.take n) _ HG6.out (Bs.pre5 HBW.out n (by omega)) (by rw [List.length_take]; omega)).mono ?_
  rintro e w7 ⟨rfl, hg7⟩
  obtain ⟨t, ht⟩ : ∃ t, Crc.sum (X.take n) = t := ⟨_, rfl⟩
  have ht2 : t < 4294967296 := by rw [← ht]; exact Crc.sum_lt fun x hx => HXB6.out x (List.mem_of_mem_take hx)
  have HIF := Lib.hid (HBX.out t ht)
  rw [ht]
  have HG7 := Lib.hid (Gr.trans HG6.out hg7)
  have x0 := cell_grown hg7 (HW6.out.cell n (by rw [HXL6.out]; omega))
  have x1 := cell_grown hg7 (HW6.out.cell (n + 1) (by rw [HXL6.out]; omega))
  have x2 := cell_grown hg7 (HW6.out.cell (n + 2) (by rw [HXL6.out]; omega))
  have x3 := cell_grown hg7 (HW6.out.cell (n + 3) (by rw [HXL6.out]; omega))
  clear ht hg7 HG6 HBW HW6 HBX HXB6 HXL6
  generalize X.getD n 0 = b0 at *
  generalize X.getD (n + 1) 0 = b1 at *
  generalize X.getD (n + 2) 0 = b2 at *
  generalize X.getD (n + 3) 0 = b3 at *
  have hcase : (b0 = (t : Int) % 256 ∧ b1 = (t : Int) / 256 % 256 ∧ b2 = (t : Int) / 65536 % 256 ∧ b3 = (t : Int) / 16777216 ∧ nt = 0) ∨ (¬ b0 = (t : Int) % 256 ∧ ¬ (nt : Int) = 0) ∨ (b0 = (t : Int) % 256 ∧ ¬ b1 = (t : Int) / 256 % 256 ∧ ¬ (nt : Int) = 0)
      ∨ (b0 = (t : Int) % 256 ∧ b1 = (t : Int) / 256 % 256 ∧ ¬ b2 = (t : Int) / 65536 % 256 ∧ ¬ (nt : Int) = 0) ∨ (b0 = (t : Int) % 256 ∧ b1 = (t : Int) / 256 % 256 ∧ b2 = (t : Int) / 65536 % 256 ∧ ¬ b3 = (t : Int) / 16777216 ∧ ¬ (nt : Int) = 0) := by
    have h := HIF.out
    by_cases h0 : nt = 0
    · obtain ⟨a0, a1, a2, a3⟩ := h.2 h0
      exact .inl ⟨a0, a1, a2, a3, h0⟩
    · have h1 : ¬ (nt : Int) = 0 := by omega
      by_cases a0 : b0 = (t : Int) % 256
      · by_cases a1 : b1 = (t : Int) / 256 % 256
        · by_cases a2 : b2 = (t : Int) / 65536 % 256
          · exact .inr (.inr (.inr (.inr ⟨a0, a1, a2, fun a3 => h0 (h.1 ⟨a0, a1, a2, a3⟩), h1⟩)))
          · exact .inr (.inr (.inr (.inl ⟨a0, a1, a2, h1⟩)))
        · exact .inr (.inr (.inl ⟨a0, a1, h1⟩))
      · exact .inr (.inl ⟨a0, h1⟩)
  clear HIF
  rcases hcase with ⟨rfl, rfl, rfl, rfl, rfl⟩ | ⟨a0, h1⟩ | ⟨rfl, a1, h1⟩ | ⟨rfl, rfl, a2, h1⟩ | ⟨rfl, rfl, rfl, a3, h1⟩
  all_goals (try (have a4 : (b3 == (t : Int) / 16777216) = false := beq_eq_false_iff_ne.2 a3))
  all_goals (try (have h2 : ((nt : Int) == 0) = false := beq_eq_false_iff_ne.2 h1))
  all_goals go_wp2_with fail
  all_goals refine (crcWakes_any HO.out _ HG7.out).mono ?_
  all_goals rintro e w8 ⟨rfl, hg8⟩
  all_goals have HG8 := Lib.hid (Gr.trans HG7.out hg8)
  all_goals clear hg8
  all_goals go_wp2_with fail
  all_goals go_ret
  all_goals exact ⟨rfl, HG8.out⟩
end Go.Proofs.YteafcgohajhbnaaDoor
