/-
  What is chosen, the document's own: a list of numbers, exchanged in place, its first ones sorted in place.
-/
import Derived.Test.YtcbmgdkopgepdaaCw
import Derived.Test.YtcbmgdkopgepdaaZp
import Derived.Deep.AppendLies
import Derived.Deep.DeepCutAuto
namespace Go.Proofs.Ytcbmgdkopgepdaa
open Go.RowKit

namespace C
/-- The first k of M are those of M0, in some order. -/
structure Srt (n k : Nat) (M0 M : List Int) : Prop where
  inj : Inj n M
  mem : ∀ x, (∃ i, i < k ∧ M.getD i 0 = x) ↔ ∃ i, i < k ∧ M0.getD i 0 = x
theorem Srt.refl {n k : Nat} {M : List Int} (h : Inj n M) : Srt n k M M := ⟨h, fun _ => Iff.rfl⟩
theorem Srt.swap {n k : Nat} {M0 M : List Int} (h : Srt n k M0 M) {i j : Nat} (hi : i < k) (hj : j < k) (hk : k ≤ n) : Srt n k M0 (C.swap M i j) := by
  refine ⟨h.inj.swap (by omega) (by omega), fun x => ?_⟩
  rw [← h.mem]
  have hl := h.inj.len
  have hg := swap_getD M i j (by omega) (by omega)
  constructor
  · rintro ⟨a, ha, rfl⟩
    rw [hg]
    split
    · exact ⟨i, hi, rfl⟩
    · split
      · exact ⟨j, hj, rfl⟩
      · exact ⟨a, ha, rfl⟩
  · rintro ⟨a, ha, rfl⟩
    by_cases e1 : a = i
    · exact ⟨j, hj, by rw [hg, if_pos rfl, e1]⟩
    · by_cases e2 : a = j
      · refine ⟨i, hi, ?_⟩
        rw [hg]
        split
        · rename_i e; rw [e2, e]
        · rw [if_pos rfl, e2]
      · exact ⟨a, ha, by rw [hg, if_neg e2, if_neg e1]⟩
def Up (M : List Int) (i : Nat) : Prop := ∀ a b, a < b → b < i → M.getD a 0 < M.getD b 0
/-- In order up to i, but for what stands at j, which may stand too far behind. -/
def Hole (M : List Int) (i j : Nat) : Prop := ∀ a b, a < b → b ≤ i → b ≠ j → M.getD a 0 < M.getD b 0
theorem Hole.start {M : List Int} {i : Nat} (h : Up M i) : Hole M i i := fun a b h1 h2 h3 => h a b h1 (by omega)
theorem Hole.step {M : List Int} {i j : Nat} (h : Hole M i (j + 1)) (hj : j + 1 ≤ i) (hl : i < M.length) (hlt : M.getD (j + 1) 0 < M.getD j 0) : Hole (C.swap M (j + 1) j) i j := by
  intro a b h1 h2 h3
  have hg := swap_getD M (j + 1) j (by omega) (by omega)
  rw [hg, hg, if_neg h3]
  by_cases e : b = j + 1
  · subst e
    rw [if_pos rfl]
    by_cases e2 : a = j
    · rw [if_pos e2]; exact hlt
    · rw [if_neg e2, if_neg (by omega)]
      exact h a j (by omega) (by omega) (by omega)
  · rw [if_neg e]
    by_cases e2 : a = j
    · rw [if_pos e2]
      exact h (j + 1) b (by omega) h2 e
    · rw [if_neg e2]
      by_cases e3 : a = j + 1
      · rw [if_pos e3]
        exact h j b (by omega) h2 e
      · rw [if_neg e3]
        exact h a b h1 h2 e
theorem Hole.top {M : List Int} {i : Nat} (h : Hole M i 0) : Up M (i + 1) := fun a b h1 h2 => h a b h1 (by omega) (by omega)
theorem Hole.stop {M : List Int} {i j : Nat} (h : Hole M i (j + 1)) (hj : j + 1 ≤ i) (hlt : M.getD j 0 < M.getD (j + 1) 0) : Up M (i + 1) := fun a b h1 h2 => by
  by_cases e : b = j + 1
  · subst e
    by_cases e2 : a = j
    · rw [e2]; exact hlt
    · have := h a j (by omega) (by omega) (by omega)
      omega
  · exact h a b h1 (by omega) e
theorem Srt.done {s n k : Nat} {M : List Int} (h : Srt n k (shuf s n k) M) (hu : Up M k) (hk : k ≤ n) : M.take k = some s n k := by
  have hl := h.inj.len
  have ht : (M.take k).length = k := by rw [List.length_take]; omega
  have hget : ∀ i (hi : i < (M.take k).length), (M.take k)[i] = M.getD i 0 := fun i hi => by
    rw [List.getElem_take, List.getD_eq_getElem?_getD, List.getElem?_eq_getElem (by omega)]
    rfl
  refine rise_ext _ _ ?_ (some_sorted hk) fun x => ?_
  · rw [List.pairwise_iff_getElem]
    intro i j hi hj hij
    rw [hget, hget]
    exact hu i j hij (by omega)
  · rw [some_mem hk, ← h.mem]
    constructor
    · intro hx
      obtain ⟨i, hi, rfl⟩ := List.getElem_of_mem hx
      exact ⟨i, by omega, (hget i hi).symm⟩
    · rintro ⟨i, hi, rfl⟩
      rw [← hget i (by omega)]
      exact List.getElem_mem _
theorem pick_below {s n i : Nat} (h : i < n) : (i : Int) + belowV (st s i) ((n : Int) - i) = (pick s n i : Nat) ∧ belowS (st s i) ((n : Int) - i) = st s (i + 1) := by
  have e : (n : Int) - i = ((n - i : Nat) : Int) := by omega
  refine ⟨?_, ?_⟩
  · unfold belowV pick
    rw [if_neg (by omega), e]
    omega
  · unfold belowS
    rw [if_neg (by omega)]
    rfl
end C

/-- A row of ints of one's own, with room c; it reads as L. -/
def Iz (W : World) (g c n : Nat) (L : List Int) : Prop :=
  L.length = n ∧ n ≤ c ∧ c ≤ 9223372036854775807 ∧ ∃ cur : Array Value, W.heap[g]? = some (.cells cur 3 (0, 0)) ∧ cur.size = c ∧ ∀ i, i < n → cur[i]? = some (.int .i64 (L.getD i 0))
theorem Iz.cell {W : World} {g c n : Nat} {L : List Int} (h : Iz W g c n L) (i : Nat) (hi : i < n) : W.cell? ⟨g, i, none⟩ = some (.int .i64 (L.getD i 0)) := by
  obtain ⟨_, _, _, cur, hg, hs, hc⟩ := h
  rw [cell_of_row W g i _ _ _ hg]
  exact hc i hi
theorem Iz.frozen {W : World} {g c n : Nat} {L : List Int} (h : Iz W g c n L) (i : Nat) : W.frozen? ⟨g, i, none⟩ = false := by
  obtain ⟨_, _, _, cur, hg, _, _⟩ := h
  exact frozen_of_row W g i _ _ hg
theorem Iz.set {W : World} {g c n : Nat} {L : List Int} (h : Iz W g c n L) (i : Nat) (hi : i < n) (x : Int) : Iz (W.setCell ⟨g, i, none⟩ (.int .i64 x)) g c n (L.set i x) := by
  obtain ⟨h1, h2, h3, cur, hg, hs, hc⟩ := h
  refine ⟨by rw [List.length_set]; exact h1, h2, h3, cur.setIfInBounds i (.int .i64 x), heap_setCell_same _ _ _ _ _ _ hg, by simpa using hs, fun k hk => ?_⟩
  by_cases e : k = i
  · subst e
    rw [Array.getElem?_setIfInBounds_self_of_lt (by omega), List.getD_eq_getElem?_getD, List.getElem?_set_self (by omega)]
    rfl
  · rw [Array.getElem?_setIfInBounds_ne (fun c => e c.symm), hc k hk, List.getD_eq_getElem?_getD, List.getD_eq_getElem?_getD, List.getElem?_set_ne (fun c => e c.symm)]
theorem Iz.swap {W : World} {g c n : Nat} {L : List Int} (h : Iz W g c n L) (i j : Nat) (hi : i < n) (hj : j < n) :
    Iz ((W.setCell ⟨g, i, none⟩ (.int .i64 (L.getD j 0))).setCell ⟨g, j, none⟩ (.int .i64 (L.getD i 0))) g c n (C.swap L i j) :=
  (h.set i hi (L.getD j 0)).set j hj (L.getD i 0)
theorem Iz.any {W : World} {g c n : Nat} {L : List Int} (h : Iz W g c n L) (i j : Nat) (x : Int) (hi : i < n) (hj : j < n) : ∃ y, (W.setCell ⟨g, i, none⟩ (.int .i64 x)).cell? ⟨g, j, none⟩ = some y :=
  ⟨_, (h.set i hi x).cell j hj⟩
theorem Iz.kp {F : Nat → Prop} {W W' : World} {g c n : Nat} {L : List Int} (h : Iz W g c n L) (hk : Kp F W W') (hn : ¬ F g) : Iz W' g c n L := by
  obtain ⟨h1, h2, h3, cur, hg, hs, hc⟩ := h
  exact ⟨h1, h2, h3, cur, hk.block hg hn, hs, hc⟩
theorem Iz.zs {W : World} {g c n : Nat} {L : List Int} (h : Iz W g c n L) (k : Nat) (hk : k ≤ n) (hb : ∀ x ∈ L, I64 x) : Zs W (.slice (some ⟨g, 0, none⟩) k c) (L.take k) := by
  have hl : (L.take k).length = k := by rw [List.length_take, h.1]; omega
  refine ⟨fun x hx => hb x (List.mem_of_mem_take hx), some ⟨g, 0, none⟩, c, by rw [hl], by rw [hl]; have := h.2.1; omega, h.2.2.1, (fun e => by cases e), fun a ha i hi => ?_⟩
  cases ha
  rw [hl] at hi
  rw [Addr.add_mid, Nat.zero_add, h.cell i (by omega), List.getD_eq_getElem?_getD, List.getD_eq_getElem?_getD, List.getElem?_take_of_lt hi]
theorem Iz.of_own {base n : Nat} {w : World} {v : Value} {l : List Int} (ho : w.ownsRow base 3 1 v n (l.map (Value.int .i64))) (hl : l.length = n) (h0 : 0 < n) : ∃ g c, v = .slice (some ⟨g, 0, none⟩) n c ∧ base ≤ g ∧ Iz w g c n l := by
  obtain ⟨_, ⟨rfl, rfl⟩ | ⟨g, c, cur, rfl, hb, hg, h1, h2, h3, h4⟩⟩ := ho
  · omega
  · unfold maxLen at h2
    refine ⟨g, c, rfl, hb, hl, h1, h2, cur, hg, by omega, fun i hi => ?_⟩
    have hi2 : i < cur.toList.length := by simp; omega
    have e : (cur.toList.take (n * 1))[i]? = some (.int .i64 (l.getD i 0)) := by
      rw [h4, List.getElem?_map, List.getElem?_eq_getElem (by omega), List.getD_eq_getElem?_getD, List.getElem?_eq_getElem (by omega)]
      rfl
    rw [List.getElem?_take_of_lt (by omega)] at e
    simpa using e
theorem Kp.setNew {F : Nat → Prop} {w W : World} (h : Kp F w W) {g : Nat} (hg : w.heap.size ≤ g) (i : Nat) (v : Value) : Kp F w (W.setCell ⟨g, i, none⟩ v) :=
  h.trans (Kp.set W g i v) fun k e => .inr (by omega)
theorem RAt.setOther {w : World} {g s b : Nat} (h : RAt w g s) (hb : g ≠ b) (i : Nat) (v : Value) : RAt (w.setCell ⟨b, i, none⟩ v) g s :=
  h.kept (Kp.set w b i v) (fun e => hb e)
/-- 0, 1, .. -/
def upTo (n : Nat) : List Int := (List.range n).map fun i : Nat => (i : Int)
theorem upTo_succ (n : Nat) : upTo (n + 1) = upTo n ++ [(n : Int)] := by
  unfold upTo
  rw [List.range_succ, List.map_append]
  rfl
set_option maxRecDepth 100000 in
set_option maxHeartbeats 1600000 in
theorem refSome_any (gr s : Nat) (n k : Int) (w : World) (hr : RAt w gr s) (hn : I64 n) (hk : I64 k) :
    Calls Try.prog 11 #[.pointer (some ⟨gr, 0, none⟩), .int .i64 n, .int .i64 k] w fun e w' => ∃ v, e = .returned v ∧ Zs w' v (C.someZ s n k) ∧ RAt w' gr (C.someS s n k) ∧ Kp (fun b => b = gr) w w' := by
  obtain ⟨i0, hi0, hz0, hz1, hz2⟩ := info_parts infoZ
  have I0 := Lib.hid hi0
  have I1 := Lib.hid hz0
  have I2 := Lib.hid hz1
  have I3 := Lib.hid hz2
  clear hi0 hz0 hz1 hz2
  have HRR := Lib.hid hr
  have HGL := Lib.hid hr.lt
  unfold I64 at hn hk
  clear hr
  by_cases hmay : C.May n k
  · obtain ⟨m1, m2, m3, m4⟩ := id hmay
    have e1 : C.someZ s n k = C.some s n.toNat k.toNat := if_pos hmay
    have e2 : C.someS s n k = C.st s k.toNat := if_pos hmay
    rw [e1, e2]
    obtain ⟨N, rfl⟩ : ∃ N : Nat, n = N := ⟨n.toNat, by omega⟩
    obtain ⟨K, rfl⟩ : ∃ K : Nat, k = K := ⟨k.toNat, by omega⟩
    rw [Int.toNat_natCast, Int.toNat_natCast]
    have hN : N ≤ 64 := by omega
    have hK : K ≤ N := by omega
    clear hmay e1 e2 m1 m2 m3 m4 hn hk
    have d1 : decide ((N : Int) < 0) = false := decide_eq_false (by omega)
    have d2 : decide ((64 : Int) < N) = false := decide_eq_false (by omega)
    have d3 : decide ((K : Int) < 0) = false := decide_eq_false (by omega)
    have d4 : decide (N < K) = false := decide_eq_false (by omega)
    have d5 : decide ((N : Int) < K) = false := decide_eq_false (by omega)
    go_enter Try.func11, Try.ntmps11
    go_wp2
    go_loopw [7, 8] (fun lv iv W => ∃ i : Nat, i ≤ N ∧ iv = .int .i64 i ∧ W.ownsRow w.heap.size 3 1 lv i ((upTo i).map (Value.int .i64)) ∧ Gr w W ∧ (i = 0 → lv = .slice none 0 0)) (fun _ iv _ => N - (intOf iv).toNat)
    case atStart => exact ⟨0, by omega, rfl, World.ownsRow_nil _ _ _ _, Gr.refl _, fun _ => rfl⟩
    case round =>
      obtain ⟨wo, hwo⟩ : ∃ x, x = wr := ⟨_, rfl⟩
      subst hwo
      obtain ⟨i, hi, rfl, ho, hg, hv⟩ := hrel
      have HV := Lib.hid hv
      clear hv
      have HO := Lib.hid ho
      have HG := Lib.hid hg
      obtain ⟨oo, co, rfl⟩ := ownsRow_form'' ho
      clear ho hg
      by_cases hlt : i < N
      · go_wp2_with (at_builtin; refine wpList_append_lies _ rfl _ _ _ rfl w.heap.size 3 i0 _ 1 8 Try.underlying34 I0.out I1.out I2.out I3.out rfl (by omega) (.slice oo i co) i _ rfl (HO.out.alloc _) ⟨wo.heap.size, 0, none⟩ 1 1 [.int .i64 (i : Int)] rfl rfl (World.news_of_block (cs := #[.int .i64 (i : Int)]) (t := 3) (fr := (0, 0)) (heap_alloc_new wo _)) (by simp [Value.oneCell']) (by omega) (by unfold maxLen; omega) (by omega) (by have := HG.out.size; simp; omega) (wo.heap.size + 1) (by simp) ?_; intro gg cap w2 hown2 hgrow2 hat2 hlt2; have HO2 := Lib.hid hown2; have HG2 := Lib.hid hgrow2; clear hown2 hgrow2 hat2 hlt2)
        refine ⟨⟨i + 1, by omega, by go_num, ?_, ?_, fun e => by omega⟩, by simp [intOf]; omega⟩
        · rw [upTo_succ, List.map_append]
          exact HO2.out
        · exact Gr.append (Gr.alloc HG.out _ _) HG2.out (fun g hg => by
            obtain ⟨_, ⟨he, _⟩ | ⟨g', c', cur, he, hb, _⟩⟩ := HO.out
            · rw [he] at hg
              cases hg
            · rw [he] at hg
              cases hg
              exact hb)
      · obtain rfl : i = N := by omega
        clear hlt
        by_cases h0 : 0 < i
        · obtain ⟨g, c, he, hb, hz⟩ := Iz.of_own HO.out (by simp [upTo]) h0
          obtain ⟨he1, he2⟩ : oo = some ⟨g, 0, none⟩ ∧ co = c := by simpa using he
          subst oo
          subst co
          clear he d1 d2 d3 d4 d5 HV
          have Z0 := Lib.hid hz
          have HB := Lib.hid hb
          have R0 := Lib.hid (HRR.out.kept (HG.out.kp fun _ => False) (fun e => e))
          have K0 := Lib.hid (HG.out.kp (fun b => b = gr))
          clear hz hb HO HG
          go_wp2
          go_loopw [9] (fun iv W => ∃ j : Nat, j ≤ K ∧ iv = .int .i64 j ∧ Iz W g c i (C.shuf s i j) ∧ RAt W gr (C.st s j) ∧ Kp (fun b => b = gr) w W) (fun iv _ => K - (intOf iv).toNat)
          case atStart => exact ⟨0, by omega, rfl, Z0.out, R0.out, K0.out⟩
          case round =>
            clear Z0 R0 K0
            obtain ⟨wi, hwi⟩ : ∃ x, x = wr := ⟨_, rfl⟩
            subst hwi
            obtain ⟨j, hj, rfl, hz, hr, hk⟩ := hrel
            have ZZ := Lib.hid hz
            have RR := Lib.hid hr
            have KK := Lib.hid hk
            clear hz hr hk
            by_cases hlt : j < K
            · obtain ⟨pb1, pb2⟩ := C.pick_below (s := s) (show j < i by omega)
              obtain ⟨pl1, pl2⟩ := C.pick_lt (s := s) (show j < i by omega)
              have PB2 := Lib.hid pb2
              have hbr := belowV_rng (C.st s j) ((i : Int) - j)
              have ZS : Hid (∀ q W', Kp (fun b => b = gr) wi W' → q < i → Iz (((W'.setCell ⟨g, j, none⟩ (.int .i64 ((C.shuf s i j).getD q 0))).setCell ⟨g, q, none⟩ (.int .i64 ((C.shuf s i j).getD j 0)))) g c i (C.swap (C.shuf s i j) j q)) := Lib.hid fun q W' hk hq => (ZZ.out.kp hk (fun e => by have := HGL.out; have := HB.out; omega)).swap j q (by omega) hq
              clear pb2
              go_upto_region 12 with fail
              refine (refBelow_any gr (C.st s j) ((i : Int) - j) _ RR.out (by omega)).mono ?_
              rintro e w1 ⟨rfl, hr1, hk1⟩
              rw [PB2.out] at hr1
              have hgr : gr ≠ g := by have := HGL.out; have := HB.out; omega
              have Z1 := Lib.hid (ZZ.out.kp hk1 (fun e => hgr e.symm))
              have K1 := Lib.hid (KK.out.trans hk1 fun k e => .inl e)
              have ZS1 := Lib.hid (ZS.out (C.pick s i j) w1 hk1 pl2)
              have SH : Hid (C.shuf s i (j + 1) = C.swap (C.shuf s i j) j (C.pick s i j)) := Lib.hid rfl
              have R1 := Lib.hid hr1
              have GN := Lib.hid hgr
              clear hr1 hk1 ZS PB2 RR KK ZZ hgr
              generalize C.pick s i j = q at *
              generalize belowV (C.st s j) ((i : Int) - j) = bv at *
              have ji : j < i := by omega
              have q1 := Z1.out.cell j ji
              have q2 := Z1.out.cell q pl2
              have fr1 := Z1.out.frozen j
              have fr2 := Z1.out.frozen q
              generalize hx : (C.shuf s i j).getD j 0 = x at *
              generalize hy : (C.shuf s i j).getD q 0 = y at *
              obtain ⟨y2, hy2⟩ := Z1.out.any j q y ji pl2
              have G1 : Hid (RAt ((w1.setCell ⟨g, j, none⟩ (.int .i64 y)).setCell ⟨g, q, none⟩ (.int .i64 x)) gr (C.st s (j + 1)) ∧ Kp (fun b => b = gr) w ((w1.setCell ⟨g, j, none⟩ (.int .i64 y)).setCell ⟨g, q, none⟩ (.int .i64 x))) :=
                Lib.hid ⟨(R1.out.setOther GN.out _ _).setOther GN.out _ _, (K1.out.setNew HB.out _ _).setNew HB.out _ _⟩
              clear R1 K1 hx hy Z1
              go_wp2
              go_region
              go_wp2
              exact ⟨⟨j + 1, by omega, by go_num, by rw [SH.out]; exact ZS1.out.kp ((Kp.refl (fun _ => False) _).drew) (fun e => e), G1.out.1.kept ((Kp.refl (fun _ => False) _).drew) (fun e => e), G1.out.2.drew⟩, by simp [intOf]; omega⟩
            · obtain rfl : j = K := by omega
              have hS := C.Srt.refl (k := j) (C.shuf_inj s i j hK)
              generalize hM : C.shuf s i j = M0 at *
              have HM0 := Lib.hid hM
              have Z0 := Lib.hid ZZ.out
              clear hM ZZ
              obtain ⟨t, ht⟩ : ∃ t, C.st s j = t := ⟨_, rfl⟩
              rw [ht] at RR
              have HT := Lib.hid ht
              clear ht
              have bc : (j : Int) ≤ c := by have := Z0.out.2.1; omega
              have bc0 : (c : Int) ≠ 0 := by have := Z0.out.2.1; omega
              go_wp2
              clear bc bc0
              go_loopw [68] (fun iv W => ∃ (a : Nat) (M : List Int), a ≤ j ∧ iv = .int .i64 a ∧ Iz W g c i M ∧ C.Srt i j M0 M ∧ C.Up M a ∧ RAt W gr t ∧ Kp (fun b => b = gr) w W) (fun iv _ => j - (intOf iv).toNat)
              case atStart => exact ⟨0, M0, by omega, rfl, Z0.out, hS, fun a b _ h => by omega, RR.out, KK.out⟩
              case round =>
                clear Z0 RR KK hS
                obtain ⟨wa, hwa⟩ : ∃ x, x = wr := ⟨_, rfl⟩
                subst hwa
                obtain ⟨a, M, ha, rfl, hz, hs, hu, hr, hk⟩ := hrel
                have ZZ := Lib.hid hz
                have SS := Lib.hid hs
                have UU := Lib.hid hu
                have RR := Lib.hid hr
                have KK := Lib.hid hk
                clear hz hs hu hr hk
                by_cases hlt2 : a < j
                · go_wp2
                  go_loopw [12] (fun bv W => ∃ (b : Nat) (M : List Int), b ≤ a ∧ bv = .int .i64 b ∧ Iz W g c i M ∧ C.Srt i j M0 M ∧ C.Hole M a b ∧ RAt W gr t ∧ Kp (fun b => b = gr) w W) (fun bv _ => (intOf bv).toNat)
                  case atStart => exact ⟨a, M, by omega, rfl, ZZ.out, SS.out, C.Hole.start UU.out, RR.out, KK.out⟩
                  case round =>
                    clear ZZ SS UU RR KK
                    clear M
                    obtain ⟨wb, hwb⟩ : ∃ x, x = wr := ⟨_, rfl⟩
                    subst hwb
                    obtain ⟨b, M, hb, rfl, hz, hs, hu, hr, hk⟩ := hrel
                    have ZZ := Lib.hid hz
                    have SS := Lib.hid hs
                    have UU := Lib.hid hu
                    have RR := Lib.hid hr
                    have KK := Lib.hid hk
                    clear hz hs hu hr hk
                    by_cases hb0 : 0 < b
                    · obtain ⟨d, hd⟩ : ∃ d, b = d + 1 := ⟨b - 1, by omega⟩
                      have fb : (b : Int) - 1 = d := by omega
                      have bi : b < i := by omega
                      have di : d < i := by omega
                      have q1 := ZZ.out.cell b bi
                      have q0 := ZZ.out.cell d di
                      have fr1 := ZZ.out.frozen b
                      have fr0 := ZZ.out.frozen d
                      have HD := Lib.hid hd
                      have SW := Lib.hid (ZZ.out.swap b d bi di)
                      obtain ⟨y1, hy1⟩ : ∃ y, M.getD b 0 = y := ⟨_, rfl⟩
                      obtain ⟨y0, hy0⟩ : ∃ y, M.getD d 0 = y := ⟨_, rfl⟩
                      rw [hy1] at q1 SW
                      rw [hy0] at q0 SW
                      have HY1 := Lib.hid hy1
                      have HY0 := Lib.hid hy0
                      clear hy1 hy0 hd
                      have g1 : decide ((0 : Int) < b) = true := decide_eq_true (by omega)
                      have b1 : (b : Int) < j := by omega
                      have b2 : (d : Int) < j := by omega
                      by_cases hlt3 : y1 < y0
                      · have hf : decide (y1 < y0) = true := decide_eq_true hlt3
                        obtain ⟨y2, hy2⟩ := ZZ.out.any b d y0 bi di
                        have KD : ∀ m, Kp (fun _ => False) wb (wb.drewN m) := fun m => Kp.refl (fun _ => False) wb
                        have GG : Hid (∀ m, Iz (((wb.drewN m).setCell ⟨g, b, none⟩ (.int .i64 y0)).setCell ⟨g, d, none⟩ (.int .i64 y1)) g c i (C.swap M b d) ∧ RAt (((wb.drewN m).setCell ⟨g, b, none⟩ (.int .i64 y0)).setCell ⟨g, d, none⟩ (.int .i64 y1)) gr t ∧ Kp (fun b => b = gr) w (((wb.drewN m).setCell ⟨g, b, none⟩ (.int .i64 y0)).setCell ⟨g, d, none⟩ (.int .i64 y1))) :=
                          Lib.hid (fun m => by
                            have hgr : gr ≠ g := by have := HGL.out; have := HB.out; omega
                            have sw := (ZZ.out.kp (KD m) (fun e => e)).swap b d bi di
                            rw [HY1.out, HY0.out] at sw
                            exact ⟨sw, ((RR.out.kept (KD m) (fun e => e)).setOther hgr _ _).setOther hgr _ _, ((KK.out.trans (KD m) (fun k e => e.elim)).setNew HB.out _ _).setNew HB.out _ _⟩)
                        clear KD SW
                        have UH : Hid (C.Hole (C.swap M b d) a d) := Lib.hid (by
                          have h := UU.out
                          rw [HD.out] at h ⊢
                          exact C.Hole.step h (by omega) (by rw [SS.out.inj.len]; omega) (by rw [← HD.out, HY1.out, HY0.out]; exact hlt3))
                        have S2 := Lib.hid (SS.out.swap (show b < j by omega) (show d < j by omega) hK)
                        clear UU SS ZZ RR KK HY1 HY0
                        go_wp2
                        go_quiet (fail)
                        go_wp2
                        go_region
                        go_wp2
                        exact ⟨⟨d, C.swap M b d, by omega, by go_num, (GG.out _).1, S2.out, UH.out, (GG.out _).2.1, (GG.out _).2.2⟩, by simp [intOf]; omega⟩
                      · have hf : decide (y1 < y0) = false := decide_eq_false hlt3
                        go_wp2
                        go_quiet (fail)
                        go_wp2
                        have hne : y0 ≠ y1 := fun e => by
                          have := SS.out.inj.inj d b di bi (by rw [HY0.out, HY1.out, e])
                          have := HD.out
                          omega
                        have UH : C.Up M (a + 1) := by
                          have h := UU.out
                          rw [HD.out] at h
                          exact C.Hole.stop h (by have := HD.out; omega) (by rw [← HD.out, HY1.out, HY0.out]; omega)
                        exact ⟨⟨a + 1, M, by omega, by go_num, ZZ.out, SS.out, UH, RR.out, KK.out⟩, by simp [intOf]; omega⟩
                    · obtain rfl : b = 0 := by omega
                      rw [show ((0 : Nat) : Int) = 0 from rfl]
                      go_wp2
                      go_quiet (fail)
                      go_wp2
                      exact ⟨⟨a + 1, M, by omega, by go_num, ZZ.out, SS.out, C.Hole.top UU.out, RR.out, KK.out⟩, by simp [intOf]; omega⟩
                · obtain rfl : a = j := by omega
                  go_wp2
                  go_ret
                  have hz := ZZ.out.zs a hK (fun x hx => by
                    obtain ⟨m, hm, rfl⟩ := List.getElem_of_mem hx
                    have hl := SS.out.inj.len
                    have := SS.out.inj.rng m (by omega)
                    rw [List.getD_eq_getElem?_getD, List.getElem?_eq_getElem hm] at this
                    unfold I64
                    have h2 : (M[m]?.getD 0 : Int) = M[m] := by rw [List.getElem?_eq_getElem hm]; rfl
                    simp at this
                    omega)
                  rw [C.Srt.done (by rw [HM0.out]; exact SS.out) UU.out hK] at hz
                  exact ⟨_, rfl, hz, by rw [HT.out]; exact RR.out, KK.out⟩
        · obtain rfl : i = 0 := by omega
          obtain rfl : K = 0 := by omega
          obtain ⟨he1, he2⟩ : oo = none ∧ co = 0 := by simpa using HV.out rfl
          subst oo
          subst co
          have K0 := Lib.hid (HG.out.kp (fun b => b = gr))
          have R0 := Lib.hid (HRR.out.kept (HG.out.kp fun _ => False) (fun e => e))
          clear HV HO HG
          go_wp2
          go_loopw [9] (fun iv W => iv = .int .i64 0 ∧ wo = W) (fun _ _ => 0)
          case atStart => exact ⟨rfl, rfl⟩
          case round =>
            obtain ⟨rfl, rfl⟩ := hrel
            go_wp2
            go_loopw [68] (fun iv W => iv = .int .i64 0 ∧ wo = W) (fun _ _ => 0)
            case atStart => exact ⟨rfl, rfl⟩
            case round =>
              obtain ⟨rfl, rfl⟩ := hrel
              go_wp2
              go_ret
              exact ⟨_, rfl, Zs.nil _, R0.out, K0.out⟩
  · have e1 : C.someZ s n k = [] := if_neg hmay
    have e2 : C.someS s n k = s := if_neg hmay
    rw [e1, e2]
    have fin : Zs w (.slice none 0 0) [] ∧ RAt w gr s ∧ Kp (fun b => b = gr) w w := ⟨Zs.nil w, HRR.out, Kp.refl _ _⟩
    by_cases c1 : 0 ≤ n
    · by_cases c2 : n ≤ 64
      · by_cases c3 : 0 ≤ k
        · have c4 : ¬ k ≤ n := fun c4 => hmay ⟨c1, c2, c3, c4⟩
          clear hmay e1 e2
          go_enter Try.func11, Try.ntmps11
          go_wp2
          go_ret
          exact ⟨_, rfl, fin⟩
        · clear hmay e1 e2
          go_enter Try.func11, Try.ntmps11
          go_wp2
          go_ret
          exact ⟨_, rfl, fin⟩
      · clear hmay e1 e2
        go_enter Try.func11, Try.ntmps11
        go_wp2
        go_ret
        exact ⟨_, rfl, fin⟩
    · clear hmay e1 e2
      go_enter Try.func11, Try.ntmps11
      go_wp2
      go_ret
      exact ⟨_, rfl, fin⟩
end Go.Proofs.Ytcbmgdkopgepdaa
