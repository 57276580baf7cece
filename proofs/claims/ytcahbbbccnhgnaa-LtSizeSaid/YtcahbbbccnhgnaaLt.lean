/-
  Package lt as it was written: which symbols there are, a symbol's Draw, its places, its row; all of its contracts.
-/
import Derived.Test.YtcahbbbccnhgnaaMgg
import Derived.Test.YtcahbbbccnhgnaaMgh
namespace Go.Proofs.Ytcahbbbccnhgnaa
open Go.RowKit

theorem OwnZ.low {base base' : Nat} {w : World} {v : Value} {l : List Int} (h : OwnZ base' w v l) (hb : base ≤ base') : OwnZ base w v l := by
  obtain ⟨h0, h | ⟨g, c, C, h1, h2, h3⟩⟩ := h
  · exact ⟨h0, .inl h⟩
  · exact ⟨h0, .inr ⟨g, c, C, h1, Nat.le_trans hb h2, h3⟩⟩
/-- Ints lie in no block of a Draw. -/
theorem DAt.away {w : World} {d v : Value} {F : Nat → Prop} {s : Nat} {l : List Int} (h : DAt w d F s) (hz : Zs w v l) : AwayZ F v := fun a m c hv hm hf => by
  obtain ⟨g, rfl, hb, rfl⟩ := h
  obtain ⟨_, oa, c', he, _, _, _, h5⟩ := hz
  rw [he] at hv
  obtain ⟨rfl, rfl, rfl⟩ : oa = some a ∧ l.length = m ∧ c' = c := by simpa using hv
  have h6 := h5 a rfl 0 hm
  have e : (a.add 0).block = g := by rw [add_blk]; exact hf
  unfold World.cell? at h6
  rw [e, show w.heap[g]? = _ from hb] at h6
  by_cases hs : (a.add 0).spot.isSome = true
  · simp [hs] at h6
  · simp only [hs] at h6
    generalize (a.add 0).off = k at h6
    match k with
    | 0 => simp at h6
    | k + 1 => simp at h6
set_option maxHeartbeats 400000 in
theorem may_lt (K H S id : Int) (w : World) :
    Calls Try.prog 19 #[par K H S, .int .i64 id] w fun e w' => e = .returned (.bool (decide (MayP K H S ∧ MayI id))) ∧ Gr w w' := by
  have HG0 : Hid (Gr w (w.alloc (.cells #[.int .i64 K, .int .i64 H, .int .i64 S] 23))) := Lib.hid (Gr.alloc (Gr.refl _) _ _)
  by_cases hp : MayP K H S
  · have hd := decide_eq_true hp
    rw [show decide (MayP K H S ∧ MayI id) = decide (0 ≤ id ∧ id ≤ 65535) from by rw [decide_eq_decide]; unfold MayI; simp [hp]]
    clear hp
    go_enter Try.func19, Try.ntmps19
    go_wp2_with fail
    refine (may_pre K H S _).mono ?_
    rw [hd]
    rintro e w1 ⟨rfl, hg1⟩
    have HG1 := Lib.hid (Gr.trans HG0.out hg1)
    clear hg1
    go_wp2
    all_goals
      go_ret
      refine ⟨?_, HG1.out⟩
      first
        | (rw [show decide (0 ≤ id) = false from decide_eq_false (by omega)]; rfl)
        | (rw [show decide (0 ≤ id ∧ id ≤ 65535) = decide (id ≤ 65535) from by rw [decide_eq_decide]; omega]; rfl)
  · have hd := decide_eq_false hp
    rw [show decide (MayP K H S ∧ MayI id) = false from decide_eq_false fun h => hp h.1]
    clear hp
    go_enter Try.func19, Try.ntmps19
    go_wp2_with fail
    refine (may_pre K H S _).mono ?_
    rw [hd]
    rintro e w1 ⟨rfl, hg1⟩
    have HG1 := Lib.hid (Gr.trans HG0.out hg1)
    clear hg1
    go_wp2_with fail
    go_ret
    exact ⟨rfl, HG1.out⟩
set_option maxHeartbeats 800000 in
theorem source_lt (seed id : Nat) (w : World) (hi : id ≤ 65535) (hs : seed < 4294967296) :
    Calls Try.prog 20 #[.int .u32 (seed : Int), .int .i64 (id : Int)] w fun e w' => ∃ g, e = .returned (.pointer (some ⟨g, 0, none⟩)) ∧ DBlk w' g (nextS (mixS seed id)) ∧ Gr w w' ∧ w.heap.size ≤ g := by
  obtain ⟨mx, hmx, hmx2⟩ : ∃ mx : Nat, mixS seed id = mx ∧ mx < 4294967296 := ⟨_, rfl, mixS_lt hs id⟩
  have hxo : bits BinOp.xor IntKind.u32 (seed : Int) ((id : Int) * 2654435761 % 4294967296) = (mx : Int) := by
    rw [show (id : Int) * 2654435761 % 4294967296 = ((id * 2654435761 % 4294967296 : Nat) : Int) from by omega, u32_xor_nat _ _ hs (Nat.mod_lt _ (by omega)), ← hmx]
    rfl
  rw [hmx]
  clear hmx
  go_enter Try.func20, Try.ntmps20
  go_wp2_with fail
  refine (new_dev mx _ hmx2).mono ?_
  rintro e w1 ⟨g, rfl, hb, hg1, hle⟩
  have HB := Lib.hid hb
  have HG1 := Lib.hid hg1
  have HL := Lib.hid hle
  clear hb hg1 hle
  go_wp2_with fail
  refine (next_dev g mx _ HB.out).mono ?_
  rintro e w2 ⟨rfl, hb2, hk2⟩
  have HB2 := Lib.hid hb2
  have HG2 : Hid (Gr w w2) := Lib.hid (hk2.gr HG1.out (fun k e => by subst e; exact HL.out))
  clear hb2 hk2
  go_wp2_with fail
  go_ret
  exact ⟨_, rfl, HB2.out, HG2.out, HL.out⟩
set_option maxRecDepth 100000 in
set_option maxHeartbeats 1600000 in
theorem cols_in (K H : Nat) (S : Int) (seed id : Nat) (w : World) (hm : MayP K H S) (hi : id ≤ 65535) (hs : seed < 4294967296) :
    Calls Try.prog 10 #[par K H S, .int .u32 (seed : Int), .int .i64 (id : Int)] w fun e w' => ∃ v, e = .returned v ∧ OwnZ w.heap.size w' v (atN (K + H) seed id) ∧ Gr w w' := by
  have hd : decide (MayP K H S ∧ MayI (id : Int)) = true := decide_eq_true ⟨hm, by unfold MayI; omega⟩
  have hm' := hm
  obtain ⟨b1, b2, b3, b4, _, _⟩ := hm'
  obtain ⟨N, hN⟩ : ∃ N, K + H = N := ⟨_, rfl⟩
  have hN20 : N ≤ 20 := by omega
  have HCO : Hid (colsP (K : Int) (H : Int) (S : Int) = N) := Lib.hid (by unfold colsP; rw [if_pos (by assumption)]; omega)
  have P0 : Hid (Par (w.alloc (.cells #[.int .i64 (K : Int), .int .i64 (H : Int), .int .i64 S] 23)) w.heap.size K H S) := Lib.hid (heap_alloc_new _ _)
  have HG0 : Hid (Gr w (w.alloc (.cells #[.int .i64 (K : Int), .int .i64 (H : Int), .int .i64 S] 23))) := Lib.hid (Gr.alloc (Gr.refl _) _ _)
  obtain ⟨s1, hs1⟩ : ∃ s, nextS (mixS seed id) = s := ⟨_, rfl⟩
  have HSB : Hid (s1 < 18446744073709551616) := Lib.hid (by rw [← hs1]; exact nextS_lt _)
  obtain ⟨kk, hkk⟩ : ∃ k, drawV (T.tab N) s1 = k := ⟨_, rfl⟩
  obtain ⟨s2, hs2⟩ : ∃ s, drawS (T.tab N) s1 = s := ⟨_, rfl⟩
  have HAT : Hid (atN (K + H) seed id = C.someZ s2 N kk) := Lib.hid (by unfold atN; rw [hN, hs1, hkk, hs2])
  have HKK : Hid (I64 kk) := Lib.hid (by
    rw [← hkk]
    have h1 := drawV_le (T.tab N) s1
    have h2 := tab_length_le' (N : Int)
    exact ⟨by omega, by omega⟩)
  have HDR : Hid (drawV (T.tab N) s1 = kk ∧ drawS (T.tab N) s1 = s2) := Lib.hid ⟨hkk, hs2⟩
  have HS2B : Hid (s2 < 18446744073709551616) := Lib.hid (by
    rw [← hs2]
    unfold drawS belowS
    have := HSB.out
    split
    · exact this
    · split
      · exact this
      · exact nextS_lt _)
  have HSR : Hid (∀ w : World, Calls Try.prog 20 #[.int .u32 (seed : Int), .int .i64 (id : Int)] w fun e w' => ∃ g, e = .returned (.pointer (some ⟨g, 0, none⟩)) ∧ DBlk w' g s1 ∧ Gr w w' ∧ w.heap.size ≤ g) := Lib.hid (fun w => by rw [← hs1]; exact source_lt seed id w hi hs)
  have HNN := Lib.hid hN
  clear hN hm hs1 hkk hs2
  go_enter Try.func10, Try.ntmps10
  go_wp2_with fail
  generalize w.alloc (.cells #[.int .i64 (K : Int), .int .i64 (H : Int), .int .i64 S] 23) = W0 at *
  generalize hgp : w.heap.size = gp at *
  refine (may_lt K H S id _).mono ?_
  rw [hd]
  rintro e w1 ⟨rfl, hg1⟩
  have P1 := Lib.hid (P0.out.grown hg1)
  have HG1 := Lib.hid (Gr.trans HG0.out hg1)
  clear hg1 P0 HG0
  go_wp2_with fail
  refine (HSR.out _).mono ?_
  rintro e w3 ⟨g, rfl, hb3, hg3, hl3⟩
  have HGB : Hid (w.heap.size ≤ g) := Lib.hid (Nat.le_trans HG1.out.size hl3)
  have D3 : Hid (DAt w3 (.pointer (some ⟨g, 0, none⟩)) (fun k => k = g) s1) := Lib.hid ⟨g, rfl, hb3, rfl⟩
  have HG3 := Lib.hid (Gr.trans HG1.out hg3)
  have P3 := Lib.hid (P1.out.grown hg3)
  have c0 := P3.out.cell0
  have c1 := P3.out.cell1
  have c2 := P3.out.cell2
  clear hb3 hg3 hl3 P1 HG1
  go_wp2_with fail
  refine (cols_pre K H S _).mono ?_
  rw [HCO.out]
  rintro e w4 ⟨rfl, hg4⟩
  have D4 := Lib.hid (draw_ok.keep D3.out (hg4.kp fun _ => False) fun _ _ e => e)
  have HG4 := Lib.hid (Gr.trans HG3.out hg4)
  clear hg4 P3 D3 HG3 c0 c1 c2
  go_wp2_with fail
  refine (sol_ok.table N _ ⟨by omega, by omega⟩).mono ?_
  rintro e w5 ⟨v5, rfl, hz5, hg5⟩
  have D5 := Lib.hid (draw_ok.keep D4.out (hg5.kp fun _ => False) fun _ _ e => e)
  have HG5 := Lib.hid (Gr.trans HG4.out hg5)
  have Z5 := Lib.hid hz5
  clear hg5 hz5 D4 HG4
  go_wp2_with fail
  refine (sol_ok.draw v5 _ N _ s1 _ ⟨by omega, by omega⟩ HSB.out Z5.out (DAt.away D5.out Z5.out) D5.out).mono ?_
  rw [HDR.out.1, HDR.out.2]
  rintro e w6 ⟨rfl, hd6, hk6⟩
  have D6 := Lib.hid hd6
  have HG6 : Hid (Gr w w6) := Lib.hid (hk6.gr HG5.out (fun k e => by subst e; exact HGB.out))
  clear hd6 hk6 D5 HG5 Z5
  go_wp2_with fail
  refine (choose_own s2 _ _ N kk _ ⟨by omega, by omega⟩ HKK.out HS2B.out D6.out).mono ?_
  rintro e w8 ⟨v8, rfl, hz8, _, hk8⟩
  have HG8 : Hid (Gr w w8) := Lib.hid (hk8.gr HG6.out (fun k e => by subst e; exact HGB.out))
  have Z8 : Hid (OwnZ w.heap.size w8 v8 (atN (K + H) seed id)) := Lib.hid (by
    rw [HAT.out]
    exact hz8.low HG6.out.size)
  clear hz8 hk8
  go_wp2_with fail
  go_ret
  exact ⟨_, rfl, by rw [← hgp]; exact Z8.out, HG8.out⟩
set_option maxRecDepth 100000 in
set_option maxHeartbeats 800000 in
theorem cols_ne (K H S : Int) (seed : Nat) (id : Int) (w : World) (hm : ¬ (MayP K H S ∧ MayI id)) :
    Calls Try.prog 10 #[par K H S, .int .u32 (seed : Int), .int .i64 id] w fun e w' => e = .returned (.slice none 0 0) ∧ Gr w w' := by
  have HG0 : Hid (Gr w (w.alloc (.cells #[.int .i64 K, .int .i64 H, .int .i64 S] 23))) := Lib.hid (Gr.alloc (Gr.refl _) _ _)
  have hd := decide_eq_false hm
  clear hm
  go_enter Try.func10, Try.ntmps10
  go_wp2_with fail
  refine (may_lt K H S id _).mono ?_
  rw [hd]
  rintro e w1 ⟨rfl, hg1⟩
  have HG1 := Lib.hid (Gr.trans HG0.out hg1)
  clear hg1
  go_wp2_with fail
  go_ret
  exact ⟨rfl, HG1.out⟩
theorem cols_lt (K H S : Int) (seed : Nat) (id : Int) (w : World) (hs : seed < 4294967296) :
    Calls Try.prog 10 #[par K H S, .int .u32 (seed : Int), .int .i64 id] w fun e w' => ∃ v, e = .returned v ∧ OwnZ w.heap.size w' v (atP K H S seed id) ∧ Gr w w' := by
  unfold atP
  by_cases hm : MayP K H S ∧ MayI id
  · rw [if_pos hm]
    obtain ⟨h1, h2⟩ := hm
    obtain ⟨k, hk⟩ : ∃ k : Nat, K = k := ⟨K.toNat, by have := h1.1; omega⟩
    obtain ⟨h, hh⟩ : ∃ h : Nat, H = h := ⟨H.toNat, by have := h1.2.2.1; omega⟩
    obtain ⟨i, hi⟩ : ∃ i : Nat, id = i := ⟨id.toNat, by have := h2.1; omega⟩
    subst hk hh hi
    rw [Int.toNat_natCast, Int.toNat_natCast, Int.toNat_natCast]
    exact cols_in k h S seed i w h1 (by have := h2.2; omega) hs
  · rw [if_neg hm]
    refine (cols_ne K H S seed id w hm).mono ?_
    rintro e w' ⟨rfl, hg⟩
    exact ⟨_, rfl, ⟨(fun x hx => by cases hx), .inl ⟨rfl, rfl⟩⟩, hg⟩
set_option maxRecDepth 100000 in
set_option maxHeartbeats 1600000 in
theorem row_in (K H : Nat) (S : Int) (seed id : Nat) (w : World) (hm : MayP K H S) (hi : id ≤ 65535) (hs : seed < 4294967296) :
    Calls Try.prog 13 #[par K H S, .int .u32 (seed : Int), .int .i64 (id : Int)] w fun e w' => ∃ v, e = .returned v ∧ New w w' v (onesL (K + H) (atN (K + H) seed id)) := by
  have hd : decide (MayP K H S ∧ MayI (id : Int)) = true := decide_eq_true ⟨hm, by unfold MayI; omega⟩
  obtain ⟨N, hN⟩ : ∃ N, K + H = N := ⟨_, rfl⟩
  have hm' := hm
  obtain ⟨b1, b2, b3, b4, _, _⟩ := hm'
  have hN20 : N ≤ 20 := by omega
  have HCO : Hid (colsP (K : Int) (H : Int) (S : Int) = N) := Lib.hid (by unfold colsP; rw [if_pos hm]; omega)
  have HAT := Lib.hid fun (W : World) => cols_in K H S seed id W hm hi hs
  have P0 : Hid (Par (w.alloc (.cells #[.int .i64 (K : Int), .int .i64 (H : Int), .int .i64 S] 23)) w.heap.size K H S) := Lib.hid (heap_alloc_new _ _)
  have HG0 : Hid (Gr w (w.alloc (.cells #[.int .i64 (K : Int), .int .i64 (H : Int), .int .i64 S] 23))) := Lib.hid (Gr.alloc (Gr.refl _) _ _)
  have hmk := make22 N N (by omega) (by omega)
  obtain ⟨cur, hcur⟩ : ∃ cur, cur = rowB (List.replicate N 0) := ⟨_, rfl⟩
  rw [← hcur] at hmk
  have HCU := Lib.hid hcur
  rw [hN] at HAT ⊢
  obtain ⟨A, hA⟩ : ∃ A, atN N seed id = A := ⟨_, rfl⟩
  have HAL : Hid (A.length ≤ 64) := Lib.hid (by rw [← hA]; exact someZ_len _ _ _)
  have HAR : Hid (∀ x ∈ A, 0 ≤ x ∧ x < N) := Lib.hid (by rw [← hA]; exact atN_rng N seed id)
  rw [hA] at HAT ⊢
  clear hcur hA hm hN
  go_enter Try.func13, Try.ntmps13
  go_wp2_with fail
  generalize w.alloc (.cells #[.int .i64 (K : Int), .int .i64 (H : Int), .int .i64 S] 23) = W0 at *
  generalize hgp : w.heap.size = gp at *
  refine (may_lt K H S id _).mono ?_
  rw [hd]
  rintro e w1 ⟨rfl, hg1⟩
  have P1 := Lib.hid (P0.out.grown hg1)
  have HG1 := Lib.hid (Gr.trans HG0.out hg1)
  clear hg1 P0 HG0
  have c0 := P1.out.cell0
  have c1 := P1.out.cell1
  have c2 := P1.out.cell2
  go_wp2_with fail
  refine (cols_pre K H S _).mono ?_
  rw [HCO.out]
  rintro e w4 ⟨rfl, hg4⟩
  have P4 := Lib.hid (P1.out.grown (Gr.trans hg4 (Gr.alloc (Gr.refl w4) cur 5)))
  have HG4 := Lib.hid (Gr.trans HG1.out hg4)
  clear hg4 P1 HG1 c0 c1 c2
  have B4 : Hid (Blk (w4.alloc (.cells cur 5)) w4.heap.size (onesL N [])) := Lib.hid (by rw [onesL_nil, HCU.out]; exact heap_alloc_new _ _)
  have HG5 : Hid (Gr w (w4.alloc (.cells cur 5))) := Lib.hid (Gr.alloc HG4.out _ _)
  have HGB : Hid (w.heap.size ≤ w4.heap.size) := Lib.hid HG4.out.size
  have c0 := P4.out.cell0
  have c1 := P4.out.cell1
  have c2 := P4.out.cell2
  go_wp2_with fail
  clear c0 c1 c2
  generalize w4.alloc (.cells cur 5) = W5 at *
  generalize w4.heap.size = gx at *
  refine (HAT.out W5).mono ?_
  rintro e w6 ⟨v6, rfl, ho6, hg6⟩
  have hz6 := ho6.zs
  clear ho6
  obtain ⟨m, hm⟩ : ∃ m, A.length = m := ⟨_, rfl⟩
  obtain ⟨hzi, oa, ca, rfl, z2, z3, z4, z5⟩ := hz6
  rw [hm] at z2 z5 ⊢
  have HZ5 := Lib.hid z5
  have HMM := Lib.hid hm
  have B6 := Lib.hid (B4.out.grown hg6)
  have HG6 := Lib.hid (Gr.trans HG5.out hg6)
  have hm64 : m ≤ 64 := by rw [← hm]; exact HAL.out
  clear hg6 hzi z5 hm B4 HG5 HG4
  go_wp2_with fail
  have HZC : Hid (∀ a, oa = some a → ∀ i, i < m → w6.cell? (a.add i) = some (.int .i64 (A.getD i 0))) := Lib.hid HZ5.out
  have HGX : Hid (w.heap.size ≤ gx) := Lib.hid HGB.out
  go_loopw [22] (fun i wr => ∃ t : Nat, t ≤ m ∧ i = .int .i64 t ∧ Blk wr gx (onesL N (A.take t)) ∧ Gr w wr ∧ ∀ a, oa = some a → ∀ i, i < m → wr.cell? (a.add i) = some (.int .i64 (A.getD i 0))) (fun i _ => m - (intOf i).toNat)
  case atStart => exact ⟨0, by omega, rfl, by rw [List.take_zero]; exact B6.out, HG6.out, HZC.out⟩
  case round =>
    clear B6 HG6 HZC
    obtain ⟨wo, hwo⟩ : ∃ x, x = wr := ⟨_, rfl⟩
    subst hwo
    obtain ⟨t, ht, rfl, hb, hg, hc⟩ := hrel
    by_cases hlt : t < m
    · obtain ⟨ad, rfl⟩ : ∃ a, oa = some a := by
        cases oa with
        | some a => exact ⟨a, rfl⟩
        | none => have := z4 rfl; omega
      have q1 := hc ad rfl t hlt
      have hmem : A.getD t 0 ∈ A := by
        have := HMM.out
        rw [List.getD_eq_getElem?_getD, List.getElem?_eq_getElem (by omega)]
        exact List.getElem_mem _
      have hrg := HAR.out _ hmem
      obtain ⟨q, hq⟩ : ∃ q : Nat, A.getD t 0 = q := ⟨(A.getD t 0).toNat, by omega⟩
      have hqN : q < N := by omega
      have hnx := onesL_next (L := A.take t) hqN
      have htk : A.take (t + 1) = A.take t ++ [(q : Int)] := by
        have := HMM.out
        rw [List.take_add_one, List.getElem?_eq_getElem (by omega), ← hq, List.getD_eq_getElem?_getD, List.getElem?_eq_getElem (by omega)]
        rfl
      have q8 := Blk.cell hb q (by rw [onesL_length]; exact hqN)
      have q9 := frozen_of_row wo gx q _ _ hb
      have HB' : Hid (Blk (wo.setCell ⟨gx, q, none⟩ (.int .u8 1)) gx (onesL N (A.take (t + 1)))) := Lib.hid (by
        unfold Blk
        rw [heap_setCell_same _ _ _ _ _ _ hb, rowB_set, hnx, htk])
      have HG' : Hid (Gr w (wo.setCell ⟨gx, q, none⟩ (.int .u8 1))) := Lib.hid (Gr.setCell hg HGX.out _)
      have HC' : Hid (∀ a, some ad = some a → ∀ i, i < m → (wo.setCell ⟨gx, q, none⟩ (.int .u8 1)).cell? (a.add i) = some (.int .i64 (A.getD i 0))) := Lib.hid (fun a ha i hi => by
        rw [World.cell?_setCell_other]
        · exact hc a ha i hi
        · intro e
          have h1 := hc a ha i hi
          rw [← e, q8] at h1
          simp at h1)
      rw [hq] at q1
      clear hb hg hc hmem hrg hnx htk hq
      generalize (onesL N (A.take t)).getD q 0 = old at *
      go_wp2_with fail
      exact ⟨⟨t + 1, by omega, by go_num, HB'.out, HG'.out, HC'.out⟩, by simp [intOf]; omega⟩
    · obtain rfl : t = m := by omega
      have hall : A.take t = A := List.take_of_length_le (by have := HMM.out; omega)
      rw [hall] at hb
      have HB' : Hid (New w wo (.slice (some ⟨gx, 0, none⟩) N N) (onesL N A)) := Lib.hid ⟨hg, onesL_byt N A, .inr ⟨gx, N, _, by rw [onesL_length], HGX.out, hb, by rw [onesL_length]; omega, by omega, fun i hi => rowB_get _ i hi⟩⟩
      clear hb hg hc hall
      go_wp2_with fail
      go_ret
      exact ⟨_, rfl, HB'.out⟩
set_option maxRecDepth 100000 in
set_option maxHeartbeats 800000 in
theorem row_ne (K H S : Int) (seed : Nat) (id : Int) (w : World) (hm : ¬ (MayP K H S ∧ MayI id)) :
    Calls Try.prog 13 #[par K H S, .int .u32 (seed : Int), .int .i64 id] w fun e w' => e = .returned (.slice none 0 0) ∧ Gr w w' := by
  have HG0 : Hid (Gr w (w.alloc (.cells #[.int .i64 K, .int .i64 H, .int .i64 S] 23))) := Lib.hid (Gr.alloc (Gr.refl _) _ _)
  have hd := decide_eq_false hm
  clear hm
  go_enter Try.func13, Try.ntmps13
  go_wp2_with fail
  refine (may_lt K H S id _).mono ?_
  rw [hd]
  rintro e w1 ⟨rfl, hg1⟩
  have HG1 := Lib.hid (Gr.trans HG0.out hg1)
  clear hg1
  go_wp2_with fail
  go_ret
  exact ⟨rfl, HG1.out⟩
theorem row_lt (K H S : Int) (seed : Nat) (id : Int) (w : World) (hs : seed < 4294967296) :
    Calls Try.prog 13 #[par K H S, .int .u32 (seed : Int), .int .i64 id] w fun e w' => ∃ v, e = .returned v ∧ New w w' v (rowP K H S seed id) := by
  unfold rowP
  by_cases hm : MayP K H S ∧ MayI id
  · rw [if_pos hm]
    obtain ⟨h1, h2⟩ := hm
    obtain ⟨k, hk⟩ : ∃ k : Nat, K = k := ⟨K.toNat, by have := h1.1; omega⟩
    obtain ⟨h, hh⟩ : ∃ h : Nat, H = h := ⟨H.toNat, by have := h1.2.2.1; omega⟩
    obtain ⟨i, hi⟩ : ∃ i : Nat, id = i := ⟨id.toNat, by have := h2.1; omega⟩
    subst hk hh hi
    rw [Int.toNat_natCast, Int.toNat_natCast, Int.toNat_natCast]
    exact row_in k h S seed i w h1 (by have := h2.2; omega) hs
  · rw [if_neg hm]
    refine (row_ne K H S seed id w hm).mono ?_
    rintro e w' ⟨rfl, hg⟩
    exact ⟨_, rfl, hg, by simp, .inl ⟨rfl, none, 0, rfl, fun _ => rfl, by omega⟩⟩
/-- Package lt as it was written keeps its contracts. -/
theorem lt_ok : LtOk where
  cols := fun K H S seed id w hs _ => cols_lt K H S seed id w hs
  row := fun K H S seed id w hs _ => row_lt K H S seed id w hs
end Go.Proofs.Ytcahbbbccnhgnaa
