/-
  Package choose as it was written: the numbers from 0 on; those that are drawn, exchanged in place, sorted by the library's sort.
-/
import Derived.Test.YtcbmgdkopgepdaaCi
import Derived.Test.YtcbmgdkopgepdaaDo
import Derived.Test.YtcbmgdkopgepdaaLy
import Derived.Lib.SortBridge
namespace Go.Proofs.Ytcbmgdkopgepdaa
open Go.RowKit

def partU (N i : Nat) : List Int := upTo i ++ List.replicate (N - i) 0
theorem upTo_length (n : Nat) : (upTo n).length = n := by simp [upTo]
theorem partU_zero (N : Nat) : partU N 0 = List.replicate N 0 := by simp [partU, upTo]
theorem partU_all (N : Nat) : partU N N = upTo N := by simp [partU]
theorem partU_set {N i : Nat} (h : i < N) : (partU N i).set i (i : Int) = partU N (i + 1) := by
  unfold partU
  rw [List.set_append, if_neg (by rw [upTo_length]; omega), upTo_length, Nat.sub_self]
  obtain ⟨m, hm⟩ : ∃ m, N - i = m + 1 := ⟨N - i - 1, by omega⟩
  rw [hm, List.replicate_succ, List.set_cons_zero, upTo_succ, show N - (i + 1) = m from by omega, List.append_assoc]
  rfl
theorem BlzC.set {w : World} {g : Nat} {L : List Int} (h : Blz w g L) (i : Nat) (x : Int) : Blz (w.setCell ⟨g, i, none⟩ (.int .i64 x)) g (L.set i x) := by
  unfold Blz at *
  rw [heap_setCell_same _ _ _ _ _ _ h, rowZ_set]
theorem BlzC.frozen {w : World} {g : Nat} {L : List Int} (h : Blz w g L) (i : Nat) : w.frozen? ⟨g, i, none⟩ = false := frozen_of_row w g i _ _ h
theorem BlzC.iz {w : World} {g n : Nat} {L : List Int} (h : Blz w g L) (hl : L.length = n) (hn : n ≤ 9223372036854775807) : Iz w g n n L :=
  ⟨hl, Nat.le_refl _, hn, rowZ L, h, by simp [rowZ, hl], fun i hi => by rw [rowZ_get L i (by omega)]⟩
set_option maxRecDepth 100000 in
set_option maxHeartbeats 800000 in
theorem upTo_dev (N : Nat) (w : World) (hN : N ≤ 64) :
    Calls Try.prog 17 #[.int .i64 (N : Int)] w fun e w' => e = .returned (.slice (some ⟨w.heap.size, 0, none⟩) N N) ∧ Iz w' w.heap.size N N (upTo N) ∧ Gr w w' := by
  have hmk := makeZ N N (by omega) (by omega)
  go_enter Try.func17, Try.ntmps17
  go_wp2_with fail
  obtain ⟨g, hg⟩ : ∃ g, w.heap.size = g := ⟨_, rfl⟩
  have B0 : Hid (Blz (w.alloc (.cells (rowZ (List.replicate N 0)) 3)) g (partU N 0)) := Lib.hid (by
    rw [partU_zero, ← hg]
    exact heap_alloc_new _ _)
  have G2 : Hid (Gr w (w.alloc (.cells (rowZ (List.replicate N 0)) 3))) := Lib.hid (Gr.alloc (Gr.refl _) _ _)
  have HGL : Hid (w.heap.size ≤ g) := Lib.hid (by omega)
  rw [hg]
  generalize w.alloc (.cells (rowZ (List.replicate N 0)) 3) = w2 at *
  have HE := Lib.hid hg
  clear hmk hg
  go_loopw [9] (fun iv W => ∃ i : Nat, i ≤ N ∧ iv = .int .i64 i ∧ Blz W g (partU N i) ∧ Gr w W) (fun iv _ => N - (intOf iv).toNat)
  case atStart => exact ⟨0, by omega, rfl, B0.out, G2.out⟩
  case round =>
    obtain ⟨i, hi, rfl, hb, hgr⟩ := hrel
    have HB := Lib.hid hb
    have HG := Lib.hid hgr
    clear hb hgr B0 G2
    by_cases hlt : i < N
    · have hl : i < (partU N i).length := by simp [partU, upTo_length]; omega
      have q1 := HB.out.cell i hl
      have q2 := BlzC.frozen HB.out i
      have HST := Lib.hid (partU_set hlt)
      clear hl
      go_wp2
      refine ⟨⟨i + 1, by omega, by go_num, ?_, Gr.setCell HG.out HGL.out _⟩, by simp [intOf]; omega⟩
      rw [← HST.out]
      exact BlzC.set HB.out i _
    · obtain rfl : i = N := by omega
      go_wp2
      go_ret
      rw [HE.out]
      exact ⟨rfl, BlzC.iz (by rw [← partU_all]; exact HB.out) (upTo_length i) (by omega), HG.out⟩
/-- The elements from o on, one after another. -/
def setsL : List Int → Nat → List Int → List Int
  | L, _, [] => L
  | L, o, v :: vs => setsL (L.set o v) (o + 1) vs
theorem setsL_get : ∀ (vs L : List Int) (o i : Nat), o + vs.length ≤ L.length → (setsL L o vs).getD i 0 = if o ≤ i ∧ i < o + vs.length then vs.getD (i - o) 0 else L.getD i 0
  | [], L, o, i, _ => by
    rw [if_neg (by rw [List.length_nil]; omega)]
    rfl
  | v :: vs, L, o, i, h => by
    rw [List.length_cons] at h
    show (setsL (L.set o v) (o + 1) vs).getD i 0 = _
    rw [setsL_get vs (L.set o v) (o + 1) i (by rw [List.length_set]; omega), List.length_cons]
    by_cases e : i = o
    · subst e
      rw [if_neg (by omega), if_pos (by omega), Nat.sub_self, List.getD_eq_getElem?_getD, List.getElem?_set_self (by omega)]
      rfl
    · by_cases e2 : o + 1 ≤ i ∧ i < o + 1 + vs.length
      · rw [if_pos e2, if_pos (by omega), show i - o = (i - (o + 1)) + 1 from by omega]
        rfl
      · rw [if_neg e2, if_neg (by omega), List.getD_eq_getElem?_getD, List.getElem?_set_ne (fun c => e c.symm), List.getD_eq_getElem?_getD]
theorem Iz.sets {g c n : Nat} : ∀ (vs : List Int) (W : World) (L : List Int) (o : Nat), Iz W g c n L → o + vs.length ≤ n → Iz (W.setCells g o (vs.map (Value.int .i64))) g c n (setsL L o vs)
  | [], _, _, _, h, _ => h
  | v :: vs, W, L, o, h, hl => by
    rw [List.length_cons] at hl
    exact Iz.sets vs _ _ (o + 1) (h.set o (by omega) v) (by omega)
theorem Kp.sets {g : Nat} : ∀ (vs : List Value) (o : Nat) (W : World), Kp (fun b => b = g) W (W.setCells g o vs)
  | [], _, _ => Kp.refl _ _
  | v :: vs, o, W => (Kp.set W g o v).trans (Kp.sets vs (o + 1) _) fun _ e => .inl e
theorem gr_grow (W : World) (os : Array Obj) : Gr W (Go.Sort.grow W os) :=
  ⟨rfl, rfl, rfl, by simp [Go.Sort.grow], fun _ hk => Go.Sort.heap_grow_old W os hk⟩
theorem isort_merge (l : List Int) (h : l.Nodup) : (l.mergeSort fun x y => decide (x ≤ y)) = C.isort l := by
  have hp := List.mergeSort_perm l (fun x y : Int => decide (x ≤ y))
  have hs : (l.mergeSort fun x y => decide (x ≤ y)).Pairwise (fun a b => decide (a ≤ b) = true) :=
    List.pairwise_mergeSort (fun a b c h1 h2 => by simp at *; omega) (fun a b => by simp; omega) l
  have hn : (l.mergeSort fun x y => decide (x ≤ y)).Nodup := hp.nodup_iff.2 h
  refine C.rise_ext _ _ ?_ (C.isort_sorted l h) fun x => by rw [C.mem_isort, hp.mem_iff]
  rw [List.nodup_iff_pairwise_ne] at hn
  exact (hs.and hn).imp fun {a b} ⟨h1, h2⟩ => by simp at h1; omega
/-- The first k of a row of one's own, sorted by the library. -/
theorem sort_dev (g c n k : Nat) (L : List Int) (W : World) (h : Iz W g c n L) (hk : k ≤ n) (hn : n ≤ 1000) (hd : (L.take k).Nodup) :
    Calls Try.prog 19 #[.slice (some ⟨g, 0, none⟩) k k] W fun e W' => e = .returned (.tuple #[]) ∧ Iz W' g c n (setsL L 0 (C.isort (L.take k))) ∧ Kp (fun b => b = g) W W' := by
  have hl : (L.take k).length = k := by rw [List.length_take, h.1]; omega
  have hH : Go.Sort.Holds (Value.int .i64) W g 0 (L.take k).toArray :=
    Go.Lib.holds_of_ints (by rw [h.1]; exact hk) (fun j hj => by rw [Nat.zero_add, h.cell j (by rw [← h.1]; exact hj)]) (fun j hj => by rw [Nat.zero_add]; exact h.frozen j)
  have hb : g < W.heap.size := by
    obtain ⟨_, _, _, cur, hg, _⟩ := h
    exact (Array.getElem?_eq_some_iff.1 hg).1
  have hc := slices_Sort_int g 0 k (L.take k) W hH hb (by omega)
  rw [hl, isort_merge _ hd] at hc
  refine hc.mono ?_
  rintro e W' ⟨rfl, m, os, rfl⟩
  have hil : (C.isort (L.take k)).length = k := by rw [C.isort_length, hl]
  have hw := Go.Lib.sorted_world (Value.int .i64) W g 0 m (L.take k).toArray (C.isort (L.take k)) os hH (by simp [hil]; rw [h.1]; omega)
  rw [hw]
  have hi : Iz (W.drewN m) g c n L := h.kp (F := fun _ => False) (Kp.refl _ W) (fun e => e)
  have hs := Iz.sets (C.isort (L.take k)) _ _ 0 hi (by omega)
  have hk2 : Kp (fun b => b = g) W ((W.drewN m).setCells g 0 ((C.isort (L.take k)).map (Value.int .i64))) := Kp.sets _ 0 (W.drewN m)
  exact ⟨rfl, hs.kp ((gr_grow _ _).kp fun _ => False) (fun e => e), hk2.trans ((gr_grow _ _).kp fun _ => False) (fun _ e => e.elim)⟩
theorem take_sets (L s : List Int) (h : s.length ≤ L.length) : (setsL L 0 s).length = L.length → (setsL L 0 s).take s.length = s := fun hl => by
  apply List.ext_getElem?
  intro i
  by_cases hi : i < s.length
  · rw [List.getElem?_take_of_lt hi]
    have hg := setsL_get s L 0 i (by omega)
    rw [if_pos (by omega), Nat.sub_zero, List.getD_eq_getElem?_getD, List.getD_eq_getElem?_getD] at hg
    rw [List.getElem?_eq_getElem (by omega), List.getElem?_eq_getElem hi] at hg ⊢
    simpa using hg
  · rw [List.getElem?_eq_none (by rw [List.length_take]; omega), List.getElem?_eq_none (by omega)]
/-- Ints in memory of one's own, since base: also the first of a longer row. -/
def OwnZ (base : Nat) (w : World) (v : Value) (l : List Int) : Prop :=
  Zs w v l ∧ ∀ a m c, v = .slice (some a) m c → base ≤ a.block ∧ a.spot = none ∧ ∃ cur, w.heap[a.block]? = some (.cells cur 3 (0, 0))
theorem OwnZ.away {base : Nat} {w : World} {v : Value} {l : List Int} {F : Nat → Prop} (h : OwnZ base w v l) (hF : ∀ k, F k → k < base) : AwayZ F v := fun a m c hv _ hf => by
  have := (h.2 a m c hv).1
  have := hF _ hf
  omega
theorem Iz.own {W : World} {g c n base : Nat} {L l : List Int} (h : Iz W g c n L) (k : Nat) (hk : k ≤ n) (hb : ∀ x ∈ l, I64 x) (hl : L.take k = l) (hg : base ≤ g) : OwnZ base W (.slice (some ⟨g, 0, none⟩) k k) l := by
  have hn : n ≤ 9223372036854775807 := by have := h.2.1; have := h.2.2.1; omega
  have hlk : l.length = k := by rw [← hl, List.length_take, h.1]; omega
  refine ⟨⟨hb, some ⟨g, 0, none⟩, k, by rw [hlk], by omega, by omega, (fun e => by cases e), fun a ha i hi => ?_⟩, fun a m c' hv => ?_⟩
  · cases ha
    rw [Addr.add_mid, Nat.zero_add, h.cell i (by omega), ← hl, List.getD_eq_getElem?_getD, List.getD_eq_getElem?_getD, List.getElem?_take_of_lt (by omega)]
  · cases hv
    obtain ⟨_, _, _, cur, hgc, _⟩ := h
    exact ⟨hg, rfl, cur, hgc⟩
/-- What one drawing below a bound does to what is kept of a Draw: j numbers are drawn by then. -/
structure Bw (S : World → Nat → Prop) (d : Value) (F : Nat → Prop) (bv : Nat → Int) (N K : Nat) : Prop where
  keep : ∀ W W' j (G : Nat → Prop), S W j → Kp G W W' → (∀ k, F k → ¬ G k) → S W' j
  below : ∀ W j, j < K → S W j → Calls Try.prog 18 #[d, .int .i64 ((N : Int) - j)] W fun e W' => e = .returned (.int .i64 (bv j)) ∧ S W' (j + 1) ∧ Kp F W W'
set_option maxRecDepth 100000 in
set_option maxHeartbeats 1600000 in
theorem some_core (S : World → Nat → Prop) (d : Value) (F : Nat → Prop) (bv : Nat → Int) (q : Nat → Nat) (M : Nat → List Int) (N K : Nat) (w : World) (hN : N ≤ 64) (hK : K ≤ N)
    (B : Bw S d F bv N K) (hq : ∀ j, j < K → (j : Int) + bv j = q j ∧ q j < N ∧ -9223372036854775808 ≤ bv j ∧ bv j < 9223372036854775808) (hM0 : M 0 = upTo N) (hM : ∀ j, j < K → M (j + 1) = C.swap (M j) j (q j)) (hS : S w 0) (hF : ∀ k, F k → k < w.heap.size) (hi : C.Inj N (M K)) :
    Calls Try.prog 10 #[d, .int .i64 (N : Int), .int .i64 (K : Int)] w fun e w' => ∃ v, e = .returned v ∧ OwnZ w.heap.size w' v (C.isort ((M K).take K)) ∧ S w' K ∧ Kp F w w' := by
  have d1 : decide ((N : Int) < 0) = false := decide_eq_false (by omega)
  have d2 : decide ((64 : Int) < N) = false := decide_eq_false (by omega)
  have d3 : decide ((K : Int) < 0) = false := decide_eq_false (by omega)
  have d4 : decide (N < K) = false := decide_eq_false (by omega)
  have d5 : decide ((N : Int) < K) = false := decide_eq_false (by omega)
  have BB := Lib.hid B
  have HQ := Lib.hid hq
  have HM := Lib.hid hM
  have HS := Lib.hid hS
  have HF := Lib.hid hF
  have HI := Lib.hid hi
  clear B hq hM hS hF hi
  go_enter Try.func10, Try.ntmps10
  go_wp2_with fail
  refine (upTo_dev N _ hN).mono ?_
  rintro e w1 ⟨rfl, hz, hg⟩
  obtain ⟨g, hgg⟩ : ∃ g, w.heap.size = g := ⟨_, rfl⟩
  rw [hgg] at hz ⊢
  have HB : Hid (w.heap.size ≤ g) := Lib.hid (by omega)
  have HE := Lib.hid hgg
  have Z0 : Hid (Iz w1 g N N (M 0)) := Lib.hid (by rw [hM0]; exact hz)
  have K0 : Hid (Kp F w w1) := Lib.hid (hg.kp F)
  have S0 : Hid (S w1 0) := Lib.hid (BB.out.keep _ _ _ (fun _ => False) HS.out (hg.kp _) (fun _ _ e => e))
  clear hz hg hgg hM0 HS d1 d2 d3 d4 d5
  go_wp2_with fail
  go_loopw [29] (fun iv W => ∃ j : Nat, j ≤ K ∧ iv = .int .i64 j ∧ Iz W g N N (M j) ∧ S W j ∧ Kp F w W) (fun iv _ => K - (intOf iv).toNat)
  case atStart => exact ⟨0, by omega, rfl, Z0.out, S0.out, K0.out⟩
  case round =>
    clear Z0 S0 K0
    obtain ⟨wi, hwi⟩ : ∃ x, x = wr := ⟨_, rfl⟩
    subst hwi
    obtain ⟨j, hj, rfl, hz, hr, hk⟩ := hrel
    have ZZ := Lib.hid hz
    have RR := Lib.hid hr
    have KK := Lib.hid hk
    clear hz hr hk
    by_cases hlt : j < K
    · obtain ⟨q1, pl2, hb1, hb2⟩ := HQ.out j hlt
      have FG : Hid (∀ k, F k → ¬ k = g) := Lib.hid fun k h e => by have := HF.out k h; have := HE.out; omega
      go_upto_region 8 with fail
      refine (BB.out.below _ j hlt RR.out).mono ?_
      rintro e w1 ⟨rfl, hr1, hk1⟩
      have Z1 := Lib.hid (ZZ.out.kp hk1 (fun e => FG.out g e rfl))
      have K1 := Lib.hid (KK.out.trans hk1 fun k e => .inl e)
      have SH := Lib.hid (HM.out j hlt)
      have R1 := Lib.hid hr1
      clear hr1 hk1 RR KK ZZ
      generalize q j = qq at *
      generalize bv j = bb at *
      have ji : j < N := by omega
      have ZS1 := Lib.hid (Z1.out.swap j qq ji pl2)
      rw [← SH.out] at ZS1
      have c1 := Z1.out.cell j ji
      have c2 := Z1.out.cell qq pl2
      have fr1 := Z1.out.frozen j
      have fr2 := Z1.out.frozen qq
      generalize hx : (M j).getD j 0 = x at *
      generalize hy : (M j).getD qq 0 = y at *
      obtain ⟨y2, hy2⟩ := Z1.out.any j qq y ji pl2
      have G1 : Hid (S ((w1.setCell ⟨g, j, none⟩ (.int .i64 y)).setCell ⟨g, qq, none⟩ (.int .i64 x)) (j + 1) ∧ Kp F w ((w1.setCell ⟨g, j, none⟩ (.int .i64 y)).setCell ⟨g, qq, none⟩ (.int .i64 x))) :=
        Lib.hid ⟨BB.out.keep _ _ _ _ (BB.out.keep _ _ _ _ R1.out (Kp.set _ _ _ _) FG.out) (Kp.set _ _ _ _) FG.out, (K1.out.setNew HB.out _ _).setNew HB.out _ _⟩
      clear R1 K1 hx hy Z1
      go_wp2
      go_region
      go_wp2
      exact ⟨⟨j + 1, by omega, by go_num, ZS1.out.kp ((Kp.refl (fun _ => False) _).drew) (fun e => e), BB.out.keep _ _ _ _ G1.out.1 ((Kp.refl (fun _ => False) _).drew) (fun _ _ e => e), G1.out.2.drew⟩, by simp [intOf]; omega⟩
    · obtain rfl : j = K := by omega
      have hnd : ((M j).take j).Nodup := HI.out.nodup.sublist (List.take_sublist _ _)
      have HND := Lib.hid hnd
      have FG : Hid (∀ k, F k → ¬ k = g) := Lib.hid fun k h e => by have := HF.out k h; have := HE.out; omega
      clear hnd
      go_wp2_with fail
      refine (sort_dev g N N j (M j) _ ZZ.out hK (by omega) HND.out).mono ?_
      rintro e w2 ⟨rfl, hz2, hk2⟩
      have Z2 := Lib.hid hz2
      have K2 := Lib.hid hk2
      clear hz2 hk2
      go_wp2_with fail
      go_ret
      have hlt : ((M j).take j).length = j := by rw [List.length_take, HI.out.len]; omega
      have hil : (C.isort ((M j).take j)).length = j := by rw [C.isort_length, hlt]
      have htk := take_sets (M j) (C.isort ((M j).take j)) (by rw [hil, HI.out.len]; exact hK) (by rw [Z2.out.1, HI.out.len])
      rw [hil] at htk
      refine ⟨_, rfl, Z2.out.own j hK (fun x hx => ?_) htk (by have := HE.out; omega), BB.out.keep _ _ _ _ RR.out K2.out FG.out, KK.out.trans K2.out fun k e => .inr (by have := HE.out; omega)⟩
      have hx2 := List.mem_of_mem_take ((C.mem_isort x _).1 hx)
      obtain ⟨i, hi, rfl⟩ := List.getElem_of_mem hx2
      have := HI.out.rng i (by rw [← HI.out.len]; exact hi)
      rw [List.getD_eq_getElem?_getD, List.getElem?_eq_getElem hi] at this
      simp only [Option.getD_some] at this
      unfold I64
      omega
theorem inj_upTo (N : Nat) : C.Inj N (upTo N) := C.shuf_inj 0 N 0 (Nat.zero_le _)
theorem isort_upTo {N K : Nat} (h : K ≤ N) : C.isort ((upTo N).take K) = upTo K := by
  have ht : (upTo N).take K = upTo K := by
    unfold upTo
    rw [← List.map_take, List.take_range, Nat.min_eq_left h]
  rw [ht]
  refine C.rise_ext _ _ (C.isort_sorted _ (inj_upTo K).nodup) ?_ fun x => C.mem_isort x _
  unfold upTo
  rw [List.pairwise_map]
  exact List.pairwise_lt_range.imp fun h => by omega
theorem swap_self (l : List Int) (i : Nat) (hi : i < l.length) : C.swap l i i = l := by
  apply List.ext_getElem?
  intro k
  unfold C.swap
  by_cases e : k = i
  · subst e
    rw [List.getElem?_set_self (by simpa using hi), List.getD_eq_getElem?_getD, List.getElem?_eq_getElem hi]
    rfl
  · rw [List.getElem?_set_ne (fun c => e c.symm), List.getElem?_set_ne (fun c => e c.symm)]
theorem some_none (d : Value) (n k : Int) (w : World) (hn : I64 n) (hk : I64 k) (hm : ¬ C.May n k) :
    Calls Try.prog 10 #[d, .int .i64 n, .int .i64 k] w fun e w' => e = .returned (.slice none 0 0) ∧ w' = w := by
  unfold I64 at hn hk
  unfold C.May at hm
  by_cases c1 : n < 0
  · go_enter Try.func10, Try.ntmps10
    go_wp2
    go_ret
    exact ⟨rfl, rfl⟩
  · by_cases c2 : 64 < n
    · go_enter Try.func10, Try.ntmps10
      go_wp2
      go_ret
      exact ⟨rfl, rfl⟩
    · by_cases c3 : k < 0
      · go_enter Try.func10, Try.ntmps10
        go_wp2
        go_ret
        exact ⟨rfl, rfl⟩
      · have c4 : n < k := by omega
        go_enter Try.func10, Try.ntmps10
        go_wp2
        go_ret
        exact ⟨rfl, rfl⟩
/-- Package choose as it was written, what is told being memory of its own. -/
theorem choose_own (s : Nat) (d : Value) (F : Nat → Prop) (n k : Int) (w : World) (hn : I64 n) (hk : I64 k) (hs : s < 18446744073709551616) (hd : DAt w d F s) :
    Calls Try.prog 10 #[d, .int .i64 n, .int .i64 k] w fun e w' => ∃ v, e = .returned v ∧ OwnZ w.heap.size w' v (C.someZ s n k) ∧ DAt w' d F (C.someS s n k) ∧ Kp F w w' := by
  by_cases hm : C.May n k
  · have e1 : C.someZ s n k = C.some s n.toNat k.toNat := if_pos hm
    have e2 : C.someS s n k = C.st s k.toNat := if_pos hm
    rw [e1, e2]
    obtain ⟨m1, m2, m3, m4⟩ := hm
    obtain ⟨N, rfl⟩ : ∃ N : Nat, n = N := ⟨n.toNat, by omega⟩
    obtain ⟨K, rfl⟩ : ∃ K : Nat, k = K := ⟨k.toNat, by omega⟩
    rw [Int.toNat_natCast, Int.toNat_natCast]
    refine some_core (fun W j => DAt W d F (C.st s j)) d F (fun j => belowV (C.st s j) ((N : Int) - j)) (C.pick s N) (C.shuf s N) N K w (by omega) (by omega) ⟨fun W W' j G h hkp hG => draw_ok.keep h hkp hG, fun W j hj h => ?_⟩ (fun j hj => ?_) rfl (fun j hj => rfl) hd (draw_ok.lt hd) (C.shuf_inj s N K (by omega))
    · have hb := draw_ok.below d F (C.st s j) ((N : Int) - j) W (C.st_lt hs j) (by omega) (by omega) h
      rw [(C.pick_below (s := s) (show j < N by omega)).2] at hb
      exact hb
    · have hr := belowV_rng (C.st s j) ((N : Int) - j)
      exact ⟨(C.pick_below (by omega)).1, (C.pick_lt (by omega)).2, by omega, by omega⟩
  · have e1 : C.someZ s n k = [] := if_neg hm
    have e2 : C.someS s n k = s := if_neg hm
    rw [e1, e2]
    refine (some_none d n k w hn hk hm).mono ?_
    rintro e w' ⟨rfl, rfl⟩
    exact ⟨_, rfl, ⟨Zs.nil _, fun a m c h => by cases h⟩, hd, Kp.refl _ _⟩
theorem choose_ok : ChooseOk DAt where
  some := fun d n k F s w hn hk hs hd => (choose_own s d F n k w hn hk hs hd).mono (by
    rintro e w' ⟨v, rfl, ho, ha, hk⟩
    exact ⟨v, rfl, ho.1, ho.away (draw_ok.lt hd), ha, hk⟩)
  someNil := by
    intro n k w hn hk hm
    obtain ⟨m1, m2, m3, m4⟩ := hm
    obtain ⟨N, rfl⟩ : ∃ N : Nat, n = N := ⟨n.toNat, by omega⟩
    obtain ⟨K, rfl⟩ : ∃ K : Nat, k = K := ⟨k.toNat, by omega⟩
    rw [Int.toNat_natCast]
    refine (some_core (fun _ _ => True) (.pointer none) (fun _ => False) (fun _ => 0) (fun j => j) (fun _ => upTo N) N K w (by omega) (by omega) ⟨fun _ _ _ _ _ _ _ => trivial, fun W j hj _ => ?_⟩ (fun j hj => ⟨by omega, by omega, by omega, by omega⟩) rfl (fun j hj => (swap_self (upTo N) j (by rw [upTo_length]; omega)).symm) trivial (fun k h => h.elim) (inj_upTo N)).mono ?_
    · refine (belowNil_dev ((N : Int) - j) W (by omega) (by omega)).mono ?_
      rintro e w' ⟨rfl, hg⟩
      exact ⟨rfl, trivial, hg.kp _⟩
    · rintro e w' ⟨v, rfl, ho, _, hk⟩
      rw [isort_upTo (by omega)] at ho
      exact ⟨v, rfl, ho.1, ho.away (fun _ h => h), hk.gr (Gr.refl w) fun _ h => h.elim⟩
end Go.Proofs.Ytcbmgdkopgepdaa
