/-
  The developers' package chunk: Join; all of it. No condition.
-/
import Derived.Test.YtmbikmlknbinpaaMgh
namespace Go.Proofs.Ytmbikmlknbinpaa
open Go.RowKit

set_option maxRecDepth 100000 in
set_option maxHeartbeats 1600000 in
theorem fit_in (K H S : Int) (v : Value) (L : List (List Int)) (n : Nat) (w : World) (hm : MayP K H S) (hn : n < 9223372036854775808) (hl : L.length = Ck.cnt (Ck.wdt K S) n) (hl2 : L.length ≤ 1000) (hx : ∀ x ∈ L, x.length ≤ 1000) (h : Bss w v L) :
    Calls Try.prog 27 #[par K H S, v, .int .i64 (n : Int)] w fun e w' => e = .returned (.bool (decide (Ck.JoinOk K H S L n))) ∧ Gr w w' := by
  have hd := decide_eq_true hm
  have HB : Hid (∀ w, Calls Try.prog 26 #[par K H S] w fun e w' => e = .returned (.int .i64 (Ck.wdt K S : Nat)) ∧ Gr w w') := Lib.hid fun w => bytes_ck K H S w hm
  obtain ⟨W, hW⟩ : ∃ W, Ck.wdt K S = W := ⟨_, rfl⟩
  have HJ : Hid (Ck.JoinOk K H S L n ↔ ∀ x ∈ L, x.length = W) := Lib.hid (by
    unfold Ck.JoinOk
    rw [hW, Int.toNat_natCast]
    exact ⟨fun h => h.2.2.2, fun h => ⟨hm, by omega, by rw [← hW]; exact hl, h⟩⟩)
  have HCN : Hid (∀ w : World, Calls Try.prog 12 #[par K H S, .int .i64 (n : Int)] w fun e w' => e = .returned (.int .i64 (L.length : Nat)) ∧ Gr w w') := Lib.hid fun w => by
    rw [hl]
    exact count_in K H S n w hm hn
  rw [hW] at HB
  obtain ⟨m, hq⟩ : ∃ q, L.length = q := ⟨_, rfl⟩
  obtain ⟨o, c, rfl⟩ : ∃ o c, v = .slice o m c := by
    obtain ⟨oa, c, he, _⟩ := h
    exact ⟨oa, c, by rw [← hq]; exact he⟩
  have HZ := Lib.hid h
  have HX := Lib.hid hx
  rw [hq] at HCN hl2
  have HQ := Lib.hid hq
  have hge0 : decide ((n : Int) < 0) = false := decide_eq_false (by omega)
  have P0 : Hid (Par (w.alloc (.cells #[.int .i64 K, .int .i64 H, .int .i64 S] 23)) w.heap.size K H S) := Lib.hid (heap_alloc_new _ _)
  have HG0 : Hid (Gr w (w.alloc (.cells #[.int .i64 K, .int .i64 H, .int .i64 S] 23))) := Lib.hid (Gr.alloc (Gr.refl _) _ _)
  clear hm hW hq h hx hl
  go_enter Try.func27, Try.ntmps27
  go_wp2_with fail
  generalize w.alloc (.cells #[.int .i64 K, .int .i64 H, .int .i64 S] 23) = W0 at *
  generalize hgp : w.heap.size = gp at *
  refine (may_pre K H S _).mono ?_
  rw [hd]
  rintro e w1 ⟨rfl, hg1⟩
  have P1 := Lib.hid (P0.out.grown hg1)
  have G1 := Lib.hid (Gr.trans HG0.out hg1)
  have c0 := P1.out.cell0
  have c1 := P1.out.cell1
  have c2 := P1.out.cell2
  clear hg1 P0 HG0
  go_wp2_with fail
  refine (HCN.out _).mono ?_
  rintro e w2 ⟨rfl, hg2⟩
  have P2 := Lib.hid (P1.out.grown hg2)
  have G2 := Lib.hid (Gr.trans G1.out hg2)
  have hmm : ((m : Int) != (m : Int)) = false := by simp
  clear hg2 P1 G1 c0 c1 c2
  go_wp2_with fail
  go_loopw [26] (fun iv X => ∃ (i : Nat), i ≤ m ∧ iv = .int .i64 i ∧ (∀ x ∈ L.take i, x.length = W) ∧ Par X gp K H S ∧ Gr w X) (fun iv _ => m - (intOf iv).toNat)
  case atStart => exact ⟨0, by omega, rfl, (fun x hx => by simp at hx), P2.out, G2.out⟩
  case round =>
    obtain ⟨wi, hwi⟩ : ∃ x, x = wr := ⟨_, rfl⟩
    subst hwi
    obtain ⟨i, hi, rfl, hal, hp, hg⟩ := hrel
    have HP := Lib.hid hp
    have HG := Lib.hid hg
    have HAL := Lib.hid hal
    have k0 := hp.cell0
    have k1 := hp.cell1
    have k2 := hp.cell2
    clear hp hg hal P2 G2
    by_cases hlt : i < m
    · obtain ⟨a, c', he, hrow⟩ : ∃ a c', (.slice o m c : Value) = .slice (some a) m c' ∧ ∃ u, w.cell? (a.add i) = some u ∧ Bs w u (L.getD i []) := by
        obtain ⟨oa, c', he, h2, h3, h4, h5⟩ := HZ.out
        simp only [Value.slice.injEq] at he
        obtain ⟨rfl, -, rfl⟩ := he
        cases o with
        | none => have := h4 rfl; rw [HQ.out] at h2; omega
        | some a => exact ⟨a, c, rfl, h5 a rfl i (by rw [HQ.out]; exact hlt)⟩
      simp only [Value.slice.injEq] at he
      obtain ⟨rfl, -, rfl⟩ := he
      obtain ⟨u, hcu, hbu⟩ := hrow
      obtain ⟨oi, ci, rfl⟩ := hbu.form
      obtain ⟨r, hr⟩ : ∃ r, (L.getD i []).length = r := ⟨_, rfl⟩
      rw [hr] at hcu hbu
      have q1 := cell_grown HG.out hcu
      have HR := Lib.hid hr
      have hrl : r ≤ 1000 := by
        rw [← hr]
        refine HX.out _ ?_
        rw [List.getD_eq_getElem?_getD, List.getElem?_eq_getElem (by rw [HQ.out]; exact hlt)]
        exact List.getElem_mem _
      have HTS : Hid (L.take (i + 1) = L.take i ++ [L.getD i []]) := Lib.hid (by
        rw [List.take_add_one, List.getD_eq_getElem?_getD, List.getElem?_eq_getElem (by rw [HQ.out]; exact hlt)]
        rfl)
      have HME : Hid (L.getD i [] ∈ L) := Lib.hid (by
        rw [List.getD_eq_getElem?_getD, List.getElem?_eq_getElem (by rw [HQ.out]; exact hlt)]
        exact List.getElem_mem _)
      clear hcu hbu hr
      go_wp2_with fail
      refine (HB.out _).mono ?_
      rintro e w3 ⟨rfl, hg3⟩
      have P3 := Lib.hid (HP.out.grown hg3)
      have G3 := Lib.hid (Gr.trans HG.out hg3)
      clear hg3 HP HG k0 k1 k2 q1
      by_cases hrw : r = W
      · have hrn : ((r : Int) != (W : Int)) = false := by simp [hrw]
        have HRW := Lib.hid hrw
        clear hrw
        go_wp2_with fail
        refine ⟨⟨i + 1, by omega, by go_num, ?_, P3.out, G3.out⟩, by simp [intOf]; omega⟩
        rw [HTS.out]
        intro x hx
        rcases List.mem_append.1 hx with h | h
        · exact HAL.out x h
        · obtain rfl := List.mem_singleton.1 h
          rw [HR.out, HRW.out]
      · have hrn : ((r : Int) != (W : Int)) = true := by simpa using (by omega : ¬ (r : Int) = (W : Int))
        have hno : ¬ Ck.JoinOk K H S L n := fun h => hrw (by rw [← HR.out]; exact HJ.out.1 h _ HME.out)
        have HNO := Lib.hid hno
        clear hno
        go_wp2_with fail
        go_ret
        rw [decide_eq_false HNO.out]
        exact ⟨rfl, G3.out⟩
    · obtain rfl : i = m := by omega
      have hall : L.take i = L := List.take_of_length_le (by rw [HQ.out]; exact Nat.le_refl _)
      have HYE : Hid (Ck.JoinOk K H S L n) := Lib.hid (HJ.out.2 (by have := HAL.out; rwa [hall] at this))
      clear hall
      go_wp2_with fail
      go_ret
      rw [decide_eq_true HYE.out]
      exact ⟨rfl, HG.out⟩
set_option maxRecDepth 100000 in
set_option maxHeartbeats 800000 in
theorem fit_ne (K H S : Int) (v : Value) (L : List (List Int)) (n : Int) (w : World) (hn : I64 n) (hno : ¬ (MayP K H S ∧ 0 ≤ n ∧ L.length = Ck.cnt (Ck.wdt K S) n.toNat)) (h : Bss w v L) :
    Calls Try.prog 27 #[par K H S, v, .int .i64 n] w fun e w' => e = .returned (.bool false) ∧ Gr w w' := by
  obtain ⟨m, hq⟩ : ∃ q, L.length = q := ⟨_, rfl⟩
  obtain ⟨o, c, rfl⟩ : ∃ o c, v = .slice o m c := by
    obtain ⟨oa, c, he, _⟩ := h
    exact ⟨oa, c, by rw [← hq]; exact he⟩
  have HCN : Hid (∀ w : World, Calls Try.prog 12 #[par K H S, .int .i64 n] w fun e w' => e = .returned (.int .i64 (Ck.countP K H S n)) ∧ Gr w w') := Lib.hid fun w => count_ck K H S n w hn
  have P0 : Hid (Par (w.alloc (.cells #[.int .i64 K, .int .i64 H, .int .i64 S] 23)) w.heap.size K H S) := Lib.hid (heap_alloc_new _ _)
  have HG0 : Hid (Gr w (w.alloc (.cells #[.int .i64 K, .int .i64 H, .int .i64 S] 23))) := Lib.hid (Gr.alloc (Gr.refl _) _ _)
  by_cases hm : MayP K H S
  · have hd := decide_eq_true hm
    by_cases h0 : 0 ≤ n
    · have hc : Ck.countP K H S n = (Ck.cnt (Ck.wdt K S) n.toNat : Nat) := if_pos ⟨hm, h0⟩
      obtain ⟨q, hqq⟩ : ∃ q, Ck.cnt (Ck.wdt K S) n.toNat = q := ⟨_, rfl⟩
      have hne : ¬ m = q := fun e => hno ⟨hm, h0, by rw [hq, hqq, e]⟩
      rw [hc, hqq] at HCN
      have hge0 : decide (n < 0) = false := decide_eq_false (by omega)
      have hmm : ((m : Int) != (q : Int)) = true := by simpa using (by omega : ¬ (m : Int) = (q : Int))
      clear hm h hno hq hqq hc hne h0 hn
      go_enter Try.func27, Try.ntmps27
      go_wp2_with fail
      refine (may_pre K H S _).mono ?_
      rw [hd]
      rintro e w1 ⟨rfl, hg1⟩
      have P1 := Lib.hid (P0.out.grown hg1)
      have G1 := Lib.hid (Gr.trans HG0.out hg1)
      have c0 := P1.out.cell0
      have c1 := P1.out.cell1
      have c2 := P1.out.cell2
      clear hg1 P0 HG0
      go_wp2_with fail
      refine (HCN.out _).mono ?_
      rintro e w2 ⟨rfl, hg2⟩
      have G2 := Lib.hid (Gr.trans G1.out hg2)
      clear hg2 P1 G1 c0 c1 c2
      go_wp2_with fail
      go_ret
      exact ⟨rfl, G2.out⟩
    · have hlt : decide (n < 0) = true := decide_eq_true (by omega)
      clear hm h hno hq hn h0 HCN
      go_enter Try.func27, Try.ntmps27
      go_wp2_with fail
      refine (may_pre K H S _).mono ?_
      rw [hd]
      rintro e w1 ⟨rfl, hg1⟩
      have G1 := Lib.hid (Gr.trans HG0.out hg1)
      clear hg1
      go_wp2_with fail
      go_ret
      exact ⟨rfl, G1.out⟩
  · have hd := decide_eq_false hm
    clear hm h hno hq hn HCN
    go_enter Try.func27, Try.ntmps27
    go_wp2_with fail
    refine (may_pre K H S _).mono ?_
    rw [hd]
    rintro e w1 ⟨rfl, hg1⟩
    have G1 := Lib.hid (Gr.trans HG0.out hg1)
    clear hg1
    go_wp2_with fail
    go_ret
    exact ⟨rfl, G1.out⟩
theorem fit_ck (K H S : Int) (v : Value) (L : List (List Int)) (n : Int) (w : World) (hn : I64 n) (hl2 : L.length ≤ 1000) (hx : ∀ x ∈ L, x.length ≤ 1000) (h : Bss w v L) :
    Calls Try.prog 27 #[par K H S, v, .int .i64 n] w fun e w' => e = .returned (.bool (decide (Ck.JoinOk K H S L n))) ∧ Gr w w' := by
  by_cases hc : MayP K H S ∧ 0 ≤ n ∧ L.length = Ck.cnt (Ck.wdt K S) n.toNat
  · obtain ⟨k, rfl⟩ : ∃ k : Nat, n = k := ⟨n.toNat, by have := hc.2.1; omega⟩
    rw [Int.toNat_natCast] at hc
    exact fit_in K H S v L k w hc.1 (by have := hn.2; omega) hc.2.2 hl2 hx h
  · rw [decide_eq_false (fun h : Ck.JoinOk K H S L n => hc ⟨h.1, h.2.1, h.2.2.1⟩)]
    exact fit_ne K H S v L n w hn hc h
theorem Bs.cut18 {w : World} {o : Option Addr} {m c : Nat} {l : List Int} (h : Bs w (.slice o m c) l) (k : Nat) (hk : k ≤ m) : Bs w (.slice o k c) (l.take k) := by
  obtain ⟨h0, oa, c', he, h2, h3, h4, h5⟩ := h
  simp only [Value.slice.injEq] at he
  obtain ⟨rfl, rfl, rfl⟩ := he
  have hl : (l.take k).length = k := by rw [List.length_take]; omega
  refine ⟨fun x hx => h0 x (List.mem_of_mem_take hx), _, _, by rw [hl], by rw [hl]; omega, h3, h4, fun a ha i hi => ?_⟩
  rw [hl] at hi
  rw [h5 a ha i (by omega), List.getD_eq_getElem?_getD, List.getD_eq_getElem?_getD, List.getElem?_take_of_lt hi]
/-- The first n of blocks, one block more. -/
theorem take_block (A x : List Int) (n : Nat) : (A ++ x).take n = A.take n ++ x.take (min x.length (n - (A.take n).length)) := by
  rw [List.take_append, List.length_take]
  congr 1
  rcases Nat.le_total n A.length with h | h
  · rw [show n - A.length = 0 from by omega, show n - min n A.length = 0 from by omega, Nat.min_zero]
  · rw [show min n A.length = A.length from by omega]
    rcases Nat.le_total x.length (n - A.length) with h2 | h2
    · rw [Nat.min_eq_left h2, List.take_of_length_le h2, List.take_length]
    · rw [Nat.min_eq_right h2]
set_option maxRecDepth 100000 in
set_option maxHeartbeats 1600000 in
theorem join_in (K H S : Int) (v : Value) (L : List (List Int)) (n : Nat) (w : World) (hn : n < 9223372036854775808) (hok : Ck.JoinOk K H S L n) (hl2 : L.length ≤ 1000) (hx : ∀ x ∈ L, x.length ≤ 1000) (h : Bss w v L) :
    Calls Try.prog 18 #[par K H S, v, .int .i64 (n : Int)] w fun e w' => ∃ u, e = .returned (.tuple #[u, .bool true]) ∧ New w w' u (L.flatten.take n) := by
  have hd := decide_eq_true hok
  obtain ⟨hm, _, hlc, hwid⟩ := hok
  rw [Int.toNat_natCast] at hlc
  obtain ⟨hw1, hw2, hw3⟩ := Ck.wdt_in hm
  have hcnt := (Ck.cnt_pos (n := n) hw1).1
  have HFT : Hid (∀ w : World, Bss w v L → Calls Try.prog 27 #[par K H S, v, .int .i64 (n : Int)] w fun e w' => e = .returned (.bool true) ∧ Gr w w') := Lib.hid fun w hw => by
    have h := fit_ck K H S v L n w ⟨by omega, by omega⟩ hl2 hx hw
    rwa [hd] at h
  have HFL : Hid (L.flatten.length = L.length * Ck.wdt K S) := Lib.hid (Ck.flat_wide hwid)
  obtain ⟨W, hW⟩ : ∃ W, Ck.wdt K S = W := ⟨_, rfl⟩
  rw [hW] at hw1 hw2 hcnt hlc HFL
  obtain ⟨m, hq⟩ : ∃ q, L.length = q := ⟨_, rfl⟩
  rw [← hlc, hq] at hcnt
  have hnb : n ≤ 384000 := Nat.le_trans hcnt (Nat.le_trans (Nat.mul_le_mul (by omega : m ≤ 1000) hw2) (by omega))
  have HBY : Hid (∀ x ∈ L.flatten, Byt x) := Lib.hid (by
    intro x hx
    obtain ⟨y, hy, hxy⟩ := List.mem_flatten.1 hx
    obtain ⟨k, hk, rfl⟩ := List.mem_iff_getElem.1 hy
    obtain ⟨oa', c', he, h2, h3, h4, h5⟩ := h
    cases oa' with
    | none => have := h4 rfl; omega
    | some a =>
      obtain ⟨u, hu1, hu2⟩ := h5 a rfl k hk
      rw [List.getD_eq_getElem?_getD, List.getElem?_eq_getElem hk] at hu2
      exact hu2.1 x hxy)
  obtain ⟨o, c, rfl⟩ : ∃ o c, v = .slice o m c := by
    obtain ⟨oa, c, he, _⟩ := h
    exact ⟨oa, c, by rw [← hq]; exact he⟩
  have HZ := Lib.hid h
  have HX := Lib.hid hx
  have HQ := Lib.hid hq
  rw [hq] at hl2 HFL
  have P0 : Hid (Par (w.alloc (.cells #[.int .i64 K, .int .i64 H, .int .i64 S] 23)) w.heap.size K H S) := Lib.hid (heap_alloc_new _ _)
  have HG0 : Hid (Gr w (w.alloc (.cells #[.int .i64 K, .int .i64 H, .int .i64 S] 23))) := Lib.hid (Gr.alloc (Gr.refl _) _ _)
  obtain ⟨cur, hcu⟩ : ∃ cur, rowB (List.replicate n 0) = cur := ⟨_, rfl⟩
  have HCU := Lib.hid hcu
  have hmk := make22 0 n (Nat.zero_le _) (by omega)
  rw [hcu] at hmk
  have hmk : ∀ w, (Instr.makeSlice 24 (.int .i64 0) (.int .i64 (n : Int))).run Try.prog w = .ok (.slice (some ⟨w.heap.size, 0, none⟩) 0 n) (w.alloc (.cells cur 5)) := hmk
  have HFE : Hid (n ≤ L.flatten.length) := Lib.hid (by rw [HFL.out]; exact hcnt)
  clear hm hW hw3 hq h hx hcnt hlc hwid hd hcu
  go_enter Try.func18, Try.ntmps18
  go_wp2_with fail
  generalize w.alloc (.cells #[.int .i64 K, .int .i64 H, .int .i64 S] 23) = W0 at *
  refine (HFT.out _ (HZ.out.grown HG0.out)).mono ?_
  rintro e w1 ⟨rfl, hg1⟩
  have G1 := Lib.hid (Gr.trans HG0.out hg1)
  clear hg1 P0 HG0
  go_wp2_with fail
  have O1 : Hid ((w1.alloc (.cells cur 5)).ownsRow w.heap.size 5 1 (.slice (some ⟨w1.heap.size, 0, none⟩) 0 n) 0 (([] : List Int).map (Value.int .u8))) := Lib.hid ⟨by simp, .inr ⟨w1.heap.size, n, cur, rfl, G1.out.size, heap_alloc_new _ _, by omega, by unfold maxLen; omega, by rw [← HCU.out]; simp [rowB], by simp⟩⟩
  have GA := Lib.hid (Gr.alloc G1.out cur 5)
  generalize w1.alloc (.cells cur 5) = W1 at *
  generalize w1.heap.size = g1 at *
  go_loopw [8, 20] (fun ov iv X => ∃ (i k : Nat) (oo : Option Addr) (co : Nat), i ≤ m ∧ iv = .int .i64 i ∧ ov = .slice oo k co ∧ k = ((L.take i).flatten.take n).length ∧ X.ownsRow w.heap.size 5 1 (.slice oo k co) k (((L.take i).flatten.take n).map (Value.int .u8)) ∧ Gr w X) (fun _ iv _ => m - (intOf iv).toNat)
  case atStart => exact ⟨0, 0, _, _, by omega, rfl, rfl, by simp, by simpa using O1.out, GA.out⟩
  case round =>
    obtain ⟨wi, hwi⟩ : ∃ x, x = wr := ⟨_, rfl⟩
    subst hwi
    obtain ⟨i, k, oo, co, hi, rfl, rfl, hk, ho, hg⟩ := hrel
    have HO := Lib.hid ho
    have HG := Lib.hid hg
    have HK := Lib.hid hk
    have hkn : k ≤ n := by rw [hk, List.length_take]; omega
    have HKB : Hid (k ≤ 384000) := Lib.hid (by omega)
    clear ho hg hk O1 GA
    by_cases hlt : i < m
    · obtain ⟨a, c', he, hrow⟩ : ∃ a c', (.slice o m c : Value) = .slice (some a) m c' ∧ ∃ u, w.cell? (a.add i) = some u ∧ Bs w u (L.getD i []) := by
        obtain ⟨oa, c', he, h2, h3, h4, h5⟩ := HZ.out
        simp only [Value.slice.injEq] at he
        obtain ⟨rfl, -, rfl⟩ := he
        cases o with
        | none => have := h4 rfl; rw [HQ.out] at h2; omega
        | some a => exact ⟨a, c, rfl, h5 a rfl i (by rw [HQ.out]; exact hlt)⟩
      simp only [Value.slice.injEq] at he
      obtain ⟨rfl, -, rfl⟩ := he
      obtain ⟨u, hcu, hbu⟩ := hrow
      obtain ⟨oi, ci, rfl⟩ := hbu.form
      obtain ⟨r, hr⟩ : ∃ r, (L.getD i []).length = r := ⟨_, rfl⟩
      rw [hr] at hcu hbu
      have q1 := cell_grown HG.out hcu
      have HR := Lib.hid hr
      have hrl : r ≤ 1000 := by
        rw [← hr]
        refine HX.out _ ?_
        rw [List.getD_eq_getElem?_getD, List.getElem?_eq_getElem (by rw [HQ.out]; exact hlt)]
        exact List.getElem_mem _
      have HBU := Lib.hid (hbu.grown HG.out)
      have HTS : Hid (L.take (i + 1) = L.take i ++ [L.getD i []]) := Lib.hid (by
        rw [List.take_add_one, List.getD_eq_getElem?_getD, List.getElem?_eq_getElem (by rw [HQ.out]; exact hlt)]
        rfl)
      obtain ⟨d, hd⟩ : ∃ d, min r (n - k) = d := ⟨_, rfl⟩
      have HTB : Hid (((L.take (i + 1)).flatten.take n) = (L.take i).flatten.take n ++ (L.getD i []).take d) := Lib.hid (by
        rw [HTS.out, List.flatten_append, List.flatten_singleton, take_block, HR.out, ← HK.out, hd])
      have HTL : Hid (((L.getD i []).take d).length = d) := Lib.hid (by rw [List.length_take, HR.out]; omega)
      have HBD : Hid (Bs wi (.slice oi d ci) ((L.getD i []).take d)) := Lib.hid (HBU.out.cut18 d (by omega))
      have hrc : r ≤ ci := by
        obtain ⟨_, oa', c', he, h2, _⟩ := HBU.out
        simp only [Value.slice.injEq] at he
        obtain ⟨_, h6, rfl⟩ := he
        omega
      obtain ⟨z, hz⟩ : ∃ z, n - k = z := ⟨_, rfl⟩
      have hnk : (n : Int) - (k : Int) = (z : Int) := by omega
      have HKD : Hid (((L.take (i + 1)).flatten.take n).length = k + d) := Lib.hid (by rw [HTB.out, List.length_append, ← HK.out, HTL.out])
      have hdc : Hid (d ≤ 1000) := Lib.hid (by omega)
      clear hcu hbu hr hkn
      rw [hz] at hd
      by_cases hmn : z < r
      · obtain rfl : z = d := by omega
        clear hz hd
        go_wp2_with (at_builtin; refine wpList_append_bytes rfl _ _ rfl w.heap.size (.slice oo k co) k ((L.take i).flatten.take n) rfl HO.out oi z ci ((L.getD i []).take z) rfl HBD.out (by have := HKB.out; have := hdc.out; omega) HG.out.size ?_; intro v6 w6 ho6 hg6; obtain ⟨o6, c6, rfl⟩ := ownsRow_form ho6; have O6 := Lib.hid ho6; have G6 : Hid (Gr w w6) := Lib.hid (Gr.append HG.out hg6 (ownsRow_base HO.out)); clear ho6 hg6)
        refine ⟨⟨i + 1, k + z, o6, c6, by omega, by go_num, rfl, HKD.out.symm, ?_, G6.out⟩, by simp [intOf]; omega⟩
        rw [HTB.out]
        exact O6.out
      · obtain rfl : d = r := by omega
        clear hz hd
        go_wp2_with (at_builtin; refine wpList_append_bytes rfl _ _ rfl w.heap.size (.slice oo k co) k ((L.take i).flatten.take n) rfl HO.out oi d ci ((L.getD i []).take d) rfl HBD.out (by have := HKB.out; have := hdc.out; omega) HG.out.size ?_; intro v6 w6 ho6 hg6; obtain ⟨o6, c6, rfl⟩ := ownsRow_form ho6; have O6 := Lib.hid ho6; have G6 : Hid (Gr w w6) := Lib.hid (Gr.append HG.out hg6 (ownsRow_base HO.out)); clear ho6 hg6)
        refine ⟨⟨i + 1, k + d, o6, c6, by omega, by go_num, rfl, HKD.out.symm, ?_, G6.out⟩, by simp [intOf]; omega⟩
        rw [HTB.out]
        exact O6.out
    · obtain rfl : i = m := by omega
      have hall : L.take i = L := List.take_of_length_le (by rw [HQ.out]; exact Nat.le_refl _)
      have HNW : Hid (New w wi (.slice oo k co) (L.flatten.take n)) := Lib.hid (by
        have h := HO.out
        have hk := HK.out
        rw [hall] at h hk
        exact New.of_row HG.out (fun x hx => HBY.out x (List.mem_of_mem_take hx)) (by rw [← hk]; exact h))
      clear hall
      go_wp2_with fail
      go_ret2
      exact ⟨_, rfl, HNW.out⟩
set_option maxRecDepth 100000 in
set_option maxHeartbeats 400000 in
theorem join_ne (K H S : Int) (v : Value) (L : List (List Int)) (n : Int) (w : World) (hn : I64 n) (hno : ¬ Ck.JoinOk K H S L n) (hl2 : L.length ≤ 1000) (hx : ∀ x ∈ L, x.length ≤ 1000) (h : Bss w v L) :
    Calls Try.prog 18 #[par K H S, v, .int .i64 n] w fun e w' => e = .returned (.tuple #[.slice none 0 0, .bool false]) ∧ Gr w w' := by
  have hd := decide_eq_false hno
  have HFT : Hid (∀ w : World, Bss w v L → Calls Try.prog 27 #[par K H S, v, .int .i64 n] w fun e w' => e = .returned (.bool false) ∧ Gr w w') := Lib.hid fun w hw => by
    have h := fit_ck K H S v L n w hn hl2 hx hw
    rwa [hd] at h
  obtain ⟨o, m, c, rfl⟩ : ∃ o m c, v = .slice o m c := by
    obtain ⟨oa, c, he, _⟩ := h
    exact ⟨oa, _, c, he⟩
  have HZ := Lib.hid h
  have HG0 : Hid (Gr w (w.alloc (.cells #[.int .i64 K, .int .i64 H, .int .i64 S] 23))) := Lib.hid (Gr.alloc (Gr.refl _) _ _)
  clear h hx hl2 hn hno hd
  go_enter Try.func18, Try.ntmps18
  go_wp2_with fail
  refine (HFT.out _ (HZ.out.grown HG0.out)).mono ?_
  rintro e w1 ⟨rfl, hg1⟩
  have G1 := Lib.hid (Gr.trans HG0.out hg1)
  clear hg1
  go_wp2_with fail
  go_ret2
  exact ⟨rfl, G1.out⟩
theorem join_ck (K H S : Int) (v : Value) (L : List (List Int)) (n : Int) (w : World) (hn : I64 n) (hl2 : L.length ≤ 1000) (hx : ∀ x ∈ L, x.length ≤ 1000) (h : Bss w v L) :
    Calls Try.prog 18 #[par K H S, v, .int .i64 n] w fun e w' => ∃ u, e = .returned (.tuple #[u, .bool (decide (Ck.JoinOk K H S L n))]) ∧ New w w' u (Ck.joinP K H S L n) := by
  by_cases hno : Ck.JoinOk K H S L n
  · obtain ⟨k, rfl⟩ : ∃ k : Nat, n = k := ⟨n.toNat, by have := hno.2.1; omega⟩
    rw [decide_eq_true hno, show Ck.joinP K H S L k = L.flatten.take k from (if_pos hno).trans (by rw [Int.toNat_natCast])]
    exact join_in K H S v L k w (by have := hn.2; omega) hno hl2 hx h
  · rw [decide_eq_false hno, show Ck.joinP K H S L n = [] from if_neg hno]
    refine (join_ne K H S v L n w hn hno hl2 hx h).mono ?_
    rintro e w' ⟨rfl, hg⟩
    exact ⟨_, rfl, New.nil17 _ _ hg⟩
theorem chunk_ok : ChunkOk := ⟨count_ck, split_ck, join_ck⟩
end Go.Proofs.Ytmbikmlknbinpaa
