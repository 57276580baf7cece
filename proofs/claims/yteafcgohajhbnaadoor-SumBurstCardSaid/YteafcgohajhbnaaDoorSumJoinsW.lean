/-
  Law SumJoins, walked: three sums together.
-/
import Derived.Test.YteafcgohajhbnaaDoorSumTellsW
import Derived.Test.YteafcgohajhbnaaDoorRv
namespace Go.Proofs.YteafcgohajhbnaaDoor
open Go.RowKit

/-- Three bytes of which each is as far from the one ahead. -/
def threeF (L : List Int) (n : Nat) (i : Nat) : Int := (((L.getD i 0).toNat ^^^ (L.getD (n + i) 0).toNat ^^^ (L.getD (2 * n + i) 0).toNat : Nat) : Int)
theorem xorL_getD {l m : List Int} (h : l.length = m.length) {i : Nat} (hi : i < l.length) : (Crc.xorL l m).getD i 0 = (((l.getD i 0).toNat ^^^ (m.getD i 0).toNat : Nat) : Int) := by
  unfold Crc.xorL
  rw [List.getD_eq_getElem?_getD, List.getD_eq_getElem?_getD, List.getD_eq_getElem?_getD, List.getElem?_eq_getElem hi, List.getElem?_eq_getElem (by omega : i < m.length), List.getElem?_eq_getElem (by rw [List.length_zipWith]; omega), List.getElem_zipWith]
  rfl
theorem xorL_length {l m : List Int} (h : l.length = m.length) : (Crc.xorL l m).length = l.length := by
  unfold Crc.xorL
  rw [List.length_zipWith]
  omega
theorem threeF_sum {L : List Int} {n : Nat} (h : 3 * n ≤ L.length) : Crc.sum (lst n (threeF L n)) = Crc.sum (L.take n) ^^^ Crc.sum ((L.drop n).take n) ^^^ Crc.sum ((L.drop (2 * n)).take n) := by
  have l1 : (L.take n).length = n := by rw [List.length_take]; omega
  have l2 : ((L.drop n).take n).length = n := by rw [List.length_take, List.length_drop]; omega
  have l3 : ((L.drop (2 * n)).take n).length = n := by rw [List.length_take, List.length_drop]; omega
  have l4 : (Crc.xorL (L.take n) ((L.drop n).take n)).length = n := by rw [xorL_length (by omega), l1]
  rw [← Crc.sum_three (by omega) (by omega)]
  congr 1
  refine eq_of_getD (by rw [xorL_length (by omega), l4, lst_length]) fun j hj => ?_
  rw [lst_length] at hj
  rw [lst_getD _ _ _ hj, xorL_getD (by omega) (by omega), xorL_getD (by omega) (by omega), Int.toNat_natCast]
  unfold threeF
  have a1 : (L.take n).getD j 0 = L.getD j 0 := by rw [List.getD_eq_getElem?_getD, List.getElem?_take_of_lt hj, ← List.getD_eq_getElem?_getD]
  have a2 : ((L.drop n).take n).getD j 0 = L.getD (n + j) 0 := by rw [List.getD_eq_getElem?_getD, List.getElem?_take_of_lt hj, List.getElem?_drop, ← List.getD_eq_getElem?_getD]
  have a3 : ((L.drop (2 * n)).take n).getD j 0 = L.getD (2 * n + j) 0 := by rw [List.getD_eq_getElem?_getD, List.getElem?_take_of_lt hj, List.getElem?_drop, ← List.getD_eq_getElem?_getD]
  rw [a1, a2, a3]
theorem threeF_byt {L : List Int} (hb : ∀ x ∈ L, Byt x) (n i : Nat) : Byt (threeF L n i) := by
  have b1 := Crc.getD_byt hb i
  have b2 := Crc.getD_byt hb (n + i)
  have b3 := Crc.getD_byt hb (2 * n + i)
  unfold threeF Byt at *
  have := Nat.xor_lt_two_pow (n := 8) (Nat.xor_lt_two_pow (n := 8) (x := (L.getD i 0).toNat) (y := (L.getD (n + i) 0).toNat) (by omega) (by omega)) (y := (L.getD (2 * n + i) 0).toNat) (by omega)
  omega
set_option maxRecDepth 100000 in
set_option maxHeartbeats 1600000 in
theorem sumJoins_walk (v : Value) (l : List Int) (w : World) (O : CrcOk w) (h : Bs w v l) :
    Calls Tryd.prog 4 #[v] w fun e w' => e = .returned (.bool true) ∧ Gr w w' := by
  have HO := Lib.hid O
  obtain ⟨o, c, rfl⟩ := h.form5
  have H := Lib.hid h
  clear O h
  go_enter Tryd.func4, Tryd.ntmps4
  go_wp2_with fail
  refine (cut_any _ l 240 _ H.out (by omega)).mono ?_
  rintro e w' ⟨v1, rfl, hb1, rfl⟩
  obtain ⟨L, hL⟩ : ∃ L, l.take 240 = L := ⟨_, rfl⟩
  rw [hL] at hb1
  have HL : Hid (L.length ≤ 240) := Lib.hid (by rw [← hL, List.length_take]; omega)
  obtain ⟨m, hm⟩ : ∃ n, L.length = n := ⟨_, rfl⟩
  have HM := Lib.hid hm
  obtain ⟨o1, c1, rfl⟩ := hb1.form5
  rw [hm] at hb1 ⊢
  have HB := Lib.hid hb1
  have HMB : m ≤ 240 := by rw [← hm]; exact HL.out
  clear hL hb1 H hm
  obtain ⟨n, hn⟩ : ∃ n : Nat, (m : Int) / 3 = n := ⟨m / 3, by omega⟩
  have hn3 : 3 * n ≤ m := by omega
  have hmk := make22 n n (by omega) (by omega)
  obtain ⟨cur, hcur⟩ : ∃ cur, cur = rowB (List.replicate n 0) := ⟨_, rfl⟩
  rw [← hcur] at hmk
  have B0 : Hid (Blk (w.alloc (.cells cur 5)) w.heap.size (lst n (part (threeF L n) 0))) := Lib.hid (by rw [← part_nil, hcur]; exact heap_alloc_new _ _)
  have G0 : Hid (Gr w (w.alloc (.cells cur 5))) := Lib.hid (Gr.alloc (Gr.refl _) _ _)
  clear hcur
  go_wp2_with fail
  generalize w.alloc (.cells cur 5) = W0 at *
  obtain ⟨g, hg⟩ : ∃ g, w.heap.size = g := ⟨_, rfl⟩
  have hgb : w.heap.size ≤ g := by omega
  rw [hg] at B0 ⊢
  have M0 : Hid (Making w g n (threeF L n) 0 W0) := Lib.hid ⟨G0.out, hgb, B0.out⟩
  clear hg hn hgb B0 G0
  go_loopw [15] (fun iv W => ∃ i : Nat, i ≤ n ∧ iv = .int .i64 i ∧ Making w g n (threeF L n) i W) (fun iv _ => n - (intOf iv).toNat)
  case atStart => exact ⟨0, by omega, rfl, M0.out⟩
  case round =>
    obtain ⟨wi, hwi⟩ : ∃ x, x = wr := ⟨_, rfl⟩
    subst hwi
    obtain ⟨i, hi, rfl, hmk⟩ := hrel
    clear M0
    have MK := Lib.hid hmk
    obtain ⟨hgr, hge, hblk⟩ := hmk
    have HBI := Lib.hid (HB.out.grown hgr)
    by_cases hlt : i < n
    · obtain ⟨ad, c2, hv, _, _, hcells⟩ := Bs.at HB.out (by rw [HM.out]; omega)
      obtain ⟨rfl, _, rfl⟩ : o1 = some ad ∧ m = L.length ∧ c1 = c2 := by simpa using hv
      rw [HM.out] at hcells
      have r1 := hcells i (by omega)
      have r2 := hcells (n + i) (by omega)
      have r3 := hcells (2 * n + i) (by omega)
      have q1 := cell_grown hgr r1
      have q2 := cell_grown hgr r2
      have q3 := cell_grown hgr r3
      have q4 := Blk.cell hblk i (by rw [lst_length]; exact hlt)
      have q5 := frozen_of_row wi g i _ _ hblk
      have n1 : ad.add i ≠ ⟨g, i, none⟩ := far_of hge r1
      have n2 : ad.add (n + i) ≠ ⟨g, i, none⟩ := far_of hge r2
      have n3 : ad.add (2 * n + i) ≠ ⟨g, i, none⟩ := far_of hge r3
      have b1 := Crc.getD_byt HB.out.1 i
      have b2 := Crc.getD_byt HB.out.1 (n + i)
      have b3 := Crc.getD_byt HB.out.1 (2 * n + i)
      obtain ⟨x1, hx1, hy1⟩ : ∃ x : Nat, L.getD i 0 = x ∧ x < 256 := ⟨(L.getD i 0).toNat, by unfold Byt at b1; omega, by unfold Byt at b1; omega⟩
      obtain ⟨x2, hx2, hy2⟩ : ∃ x : Nat, L.getD (n + i) 0 = x ∧ x < 256 := ⟨(L.getD (n + i) 0).toNat, by unfold Byt at b2; omega, by unfold Byt at b2; omega⟩
      obtain ⟨x3, hx3, hy3⟩ : ∃ x : Nat, L.getD (2 * n + i) 0 = x ∧ x < 256 := ⟨(L.getD (2 * n + i) 0).toNat, by unfold Byt at b3; omega, by unfold Byt at b3; omega⟩
      have e1 := u8_xor_nat x1 x2 hy1 hy2
      have e2 := u8_xor_nat (x1 ^^^ x2) x3 (Nat.xor_lt_two_pow (n := 8) hy1 hy2) hy3
      have E : Hid (((x1 ^^^ x2 ^^^ x3 : Nat) : Int) = threeF L n i) := Lib.hid (by unfold threeF; rw [hx1, hx2, hx3, Int.toNat_natCast, Int.toNat_natCast, Int.toNat_natCast])
      rw [hx1] at q1
      rw [hx2] at q2
      rw [hx3] at q3
      clear hgr hge hblk r1 r2 r3 b1 b2 b3 hx1 hx2 hx3 hcells hv
      generalize (lst n (part (threeF L n) i)).getD i 0 = old at *
      go_wp2
      go_region
      rw [E.out]
      go_wp2
      exact ⟨⟨i + 1, by omega, by go_num, Making.drew (Making.store MK.out)⟩, by simp [intOf]; omega⟩
    · obtain rfl : i = n := by omega
      rw [part_all] at hblk
      have HX : Hid (Bs wi (.slice (some ⟨g, 0, none⟩) i i) (lst i (threeF L i))) := Lib.hid (by
        have := Blk.bs hblk (lst i (threeF L i)) i (Nat.le_refl _) (by rw [lst_length]; omega) (by omega) (lst_byt fun j _ => threeF_byt HB.out.1 i j) fun _ _ => rfl
        rw [lst_length] at this
        exact this)
      have HG := Lib.hid hgr
      have HS : Hid (Crc.sum (lst i (threeF L i)) = Crc.sum (L.take i) ^^^ Crc.sum ((L.drop i).take i) ^^^ Crc.sum ((L.drop (2 * i)).take i)) := Lib.hid (threeF_sum (by rw [HM.out]; exact hn3))
      have HY1 : Hid (Crc.sum (L.take i) < 4294967296) := Lib.hid (Crc.sum_lt fun x hx => HB.out.1 x (List.mem_of_mem_take hx))
      have HY2 : Hid (Crc.sum ((L.drop i).take i) < 4294967296) := Lib.hid (Crc.sum_lt fun x hx => HB.out.1 x (List.mem_of_mem_drop (List.mem_of_mem_take hx)))
      have HY3 : Hid (Crc.sum ((L.drop (2 * i)).take i) < 4294967296) := Lib.hid (Crc.sum_lt fun x hx => HB.out.1 x (List.mem_of_mem_drop (List.mem_of_mem_take hx)))
      obtain ⟨s0, hs0⟩ : ∃ s, Crc.sum (lst i (threeF L i)) = s := ⟨_, rfl⟩
      obtain ⟨s1, hs1⟩ : ∃ s, Crc.sum (L.take i) = s := ⟨_, rfl⟩
      obtain ⟨s2, hs2⟩ : ∃ s, Crc.sum ((L.drop i).take i) = s := ⟨_, rfl⟩
      obtain ⟨s3, hs3⟩ : ∃ s, Crc.sum ((L.drop (2 * i)).take i) = s := ⟨_, rfl⟩
      rw [hs0, hs1, hs2, hs3] at HS
      rw [hs1] at HY1
      rw [hs2] at HY2
      rw [hs3] at HY3
      have HS0 := Lib.hid hs0
      have HS1 := Lib.hid hs1
      have HS2 := Lib.hid hs2
      have HS3 := Lib.hid hs3
      have x1 := u32_xor_nat s1 s2 HY1.out HY2.out
      have x2 := u32_xor_nat (s1 ^^^ s2) s3 (Nat.xor_lt_two_pow (n := 32) HY1.out HY2.out) HY3.out
      rw [← HS.out] at x2
      clear hgr hge hblk MK hs0 hs1 hs2 hs3 hi hlt
      cases o1 with
      | none =>
        obtain ⟨rfl, rfl⟩ := Bs.none5 HBI.out
        obtain rfl : i = 0 := by omega
        have HW1 : Hid (∀ W : World, Bs W (.slice none 0 0) (L.take 0)) := Lib.hid (fun W => by rw [List.take_zero]; exact Bs.nil W)
        have HW2 : Hid (∀ W : World, Bs W (.slice none 0 0) ((L.drop 0).take 0)) := Lib.hid (fun W => by rw [List.take_zero]; exact Bs.nil W)
        have HW3 : Hid (∀ W : World, Bs W (.slice none 0 0) ((L.drop (2 * 0)).take 0)) := Lib.hid (fun W => by rw [List.take_zero]; exact Bs.nil W)
        have HLE : Hid ((lst 0 (threeF L 0)).length ≤ 1000 ∧ (L.take 0).length ≤ 1000 ∧ ((L.drop 0).take 0).length ≤ 1000 ∧ ((L.drop (2 * 0)).take 0).length ≤ 1000) := Lib.hid (by simp [lst])
        have HG0 : Hid (Gr wi wi.drew) := Lib.hid (Gr.drew (Gr.refl _))
        have z0 : ((0 : Nat) : Int) = 0 := rfl
        rw [z0]
        clear z0
        have k1 : (2 : Int) * 0 = 0 := rfl
        have k2 : (3 : Int) * 0 = 0 := rfl
        have k3 : IntKind.i64.wrap 0 = 0 := rfl
        have k4 : IntKind.i64.wrap (2 * 0) = 0 := rfl
        have k5 : IntKind.i64.wrap (3 * 0) = 0 := rfl
        go_upto_region 9 with fail
        go_region_held3 (fun _ => True) (first | trivial) (first
          | (go_at_call 12; refine (crcWakes_any HO.out _ (Gr.trans HG.out G4.out)).mono ?_; rintro e w5 ⟨rfl, hg5⟩; have G5 : Hid (Gr wi w5) := Lib.hid (Gr.trans G4.out (by exact hg5)); (try go_simp))
          | (go_at_call 9; have h := G3; clear h; refine (HO.out.sum _ _ _ (Gr.trans HG.out G3.out) (HW3.out w3) HLE.out.2.2.2).mono ?_; rw [HS3.out]; rintro e w4 ⟨rfl, hg4⟩; have G4 : Hid (Gr wi w4) := Lib.hid (Gr.trans G3.out (by exact hg4)); (try go_simp))
          | (go_at_call 9; have h := G2; clear h; refine (HO.out.sum _ _ _ (Gr.trans HG.out G2.out) (HW2.out w2) HLE.out.2.2.1).mono ?_; rw [HS2.out]; rintro e w3 ⟨rfl, hg3⟩; have G3 : Hid (Gr wi w3) := Lib.hid (Gr.trans G2.out (by exact hg3)); (try go_simp))
          | (go_at_call 9; have h := G1; clear h; refine (HO.out.sum _ _ _ (Gr.trans HG.out G1.out) (HW1.out w1) HLE.out.2.1).mono ?_; rw [HS1.out]; rintro e w2 ⟨rfl, hg2⟩; have G2 : Hid (Gr wi w2) := Lib.hid (Gr.trans G1.out (by exact hg2)); (try go_simp))
          | (go_at_call 9; refine (HO.out.sum _ _ _ (Gr.trans HG.out HG0.out) (Bs.grown HX.out HG0.out) HLE.out.1).mono ?_; rw [HS0.out]; rintro e w1 ⟨rfl, hg1⟩; have G1 : Hid (Gr wi w1) := Lib.hid (Gr.trans HG0.out (by exact hg1)); (try go_simp)))
        all_goals (try go_wp2_with fail)
        all_goals go_ret
        all_goals exact ⟨rfl, Gr.trans HG.out G5.out⟩
      | some ad =>
        have HW1 : Hid (∀ {W : World}, Gr wi W → Bs W (.slice (some ad) i c1) (L.take i)) := Lib.hid fun hg => (Bs.pre5 HBI.out i (by omega)).grown hg
        have HW2 : Hid (∀ {W : World}, Gr wi W → Bs W (.slice (if c1 = i then some ad else some (ad.add i)) i (c1 - i)) ((L.drop i).take i)) := Lib.hid fun hg => (Bs.mid5 HBI.out i i (by omega)).grown hg
        obtain ⟨p, hp⟩ : ∃ p : Nat, (2 : Int) * (i : Int) = (p : Int) := ⟨2 * i, by omega⟩
        obtain ⟨q, hq⟩ : ∃ q : Nat, (3 : Int) * (i : Int) = (q : Int) := ⟨3 * i, by omega⟩
        have HW3 : Hid (∀ {W : World}, Gr wi W → Bs W (.slice (if c1 = p then some ad else some (ad.add p)) i (c1 - p)) ((L.drop (2 * i)).take i)) := Lib.hid fun hg => by
          have h := (Bs.mid5 HBI.out (2 * i) i (by omega)).grown hg
          rw [show 2 * i = p from by omega] at h ⊢
          exact h
        have hc1 : m ≤ c1 := (Bs.parts5 HBI.out).1
        have HLE : Hid ((lst i (threeF L i)).length ≤ 1000 ∧ (L.take i).length ≤ 1000 ∧ ((L.drop i).take i).length ≤ 1000 ∧ ((L.drop (2 * i)).take i).length ≤ 1000) := Lib.hid (by
          have := HM.out
          rw [lst_length, List.length_take, List.length_take, List.length_take, List.length_drop, List.length_drop]
          omega)
        have k1 : (0 : Int) ≤ (i : Int) := by omega
        have k2 : (i : Int) ≤ (p : Int) := by omega
        have k3 : (p : Int) ≤ (q : Int) := by omega
        have k4 : (q : Int) ≤ (c1 : Int) := by omega
        have k5 : (p : Int) ≤ (c1 : Int) := by omega
        have k6 : (i : Int) ≤ (c1 : Int) := by omega
        have k7 : (0 : Int) ≤ (p : Int) := by omega
        have k8 : p - i = i := by omega
        have k9 : q - p = i := by omega
        have w2 : IntKind.i64.wrap (p : Int) = (p : Int) := by simp [IntKind.wrap, IntKind.bits, IntKind.signed]; omega
        have w3 : IntKind.i64.wrap (q : Int) = (q : Int) := by simp [IntKind.wrap, IntKind.bits, IntKind.signed]; omega
        go_upto_region 9 with fail
        have HG0 : Hid (Gr wi wi.drew) := Lib.hid (Gr.drew (Gr.refl _))
        go_region_held3 (fun _ => True) (first | trivial) (first
          | (go_at_call 12; refine (crcWakes_any HO.out _ (Gr.trans HG.out G4.out)).mono ?_; rintro e w5 ⟨rfl, hg5⟩; have G5 : Hid (Gr wi w5) := Lib.hid (Gr.trans G4.out (by exact hg5)); (try go_simp))
          | (go_at_call 9; have h := G3; clear h; refine (HO.out.sum _ _ _ (Gr.trans HG.out G3.out) (HW3.out G3.out) HLE.out.2.2.2).mono ?_; rw [HS3.out]; rintro e w4 ⟨rfl, hg4⟩; have G4 : Hid (Gr wi w4) := Lib.hid (Gr.trans G3.out (by exact hg4)); (try go_simp))
          | (go_at_call 9; have h := G2; clear h; refine (HO.out.sum _ _ _ (Gr.trans HG.out G2.out) (HW2.out G2.out) HLE.out.2.2.1).mono ?_; rw [HS2.out]; rintro e w3 ⟨rfl, hg3⟩; have G3 : Hid (Gr wi w3) := Lib.hid (Gr.trans G2.out (by exact hg3)); (try go_simp))
          | (go_at_call 9; have h := G1; clear h; refine (HO.out.sum _ _ _ (Gr.trans HG.out G1.out) (HW1.out G1.out) HLE.out.2.1).mono ?_; rw [HS1.out]; rintro e w2 ⟨rfl, hg2⟩; have G2 : Hid (Gr wi w2) := Lib.hid (Gr.trans G1.out (by exact hg2)); (try go_simp))
          | (go_at_call 9; refine (HO.out.sum _ _ _ (Gr.trans HG.out HG0.out) (Bs.grown HX.out HG0.out) HLE.out.1).mono ?_; rw [HS0.out]; rintro e w1 ⟨rfl, hg1⟩; have G1 : Hid (Gr wi w1) := Lib.hid (Gr.trans HG0.out (by exact hg1)); (try go_simp)))
        all_goals (try go_wp2_with fail)
        all_goals go_ret
        all_goals exact ⟨rfl, Gr.trans HG.out G5.out⟩
end Go.Proofs.YteafcgohajhbnaaDoor
