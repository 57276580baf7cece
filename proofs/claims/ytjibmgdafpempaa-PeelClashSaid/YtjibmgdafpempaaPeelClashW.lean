/-
  wellspringlaw12.PeelClash: the walk.
-/
import Derived.Test.YtjibmgdafpempaaPeelOrderW
namespace Go.Proofs.Ytjibmgdafpempaa
open Go.RowKit

/-- A row for each value, by itself. -/
def unitsE (vs : List (List Int)) (i : Nat) : List Eqn := (List.range i).map fun c : Nat => (⟨[(c : Int)], vs.getD c []⟩ : Eqn)
theorem unitsE_succ (vs : List (List Int)) (i : Nat) : unitsE vs (i + 1) = unitsE vs i ++ [⟨[(i : Int)], vs.getD i []⟩] := by simp [unitsE, List.range_succ]
theorem unitsE_length (vs : List (List Int)) (i : Nat) : (unitsE vs i).length = i := by simp [unitsE]
theorem wide_at {S : Nat} {vs : List (List Int)} (hw : Wide S vs) {c : Nat} (hc : c < vs.length) : (vs.getD c []).length = S ∧ ∀ z ∈ vs.getD c [], Byt z :=
  hw _ (by rw [List.getD_eq_getElem?_getD, List.getElem?_eq_getElem hc]; exact List.getElem_mem _)
theorem unit_good {N S : Nat} {vs : List (List Int)} (hw : Wide S vs) (hvl : vs.length = N) {c : Nat} (hc : c < N) : GoodE N S vs ⟨[(c : Int)], vs.getD c []⟩ := by
  obtain ⟨h1, h2⟩ := wide_at hw (c := c) (by omega)
  refine ⟨⟨fun x hx => ?_, fun i hi => by simp at hi⟩, h1, h2, ?_⟩
  · obtain rfl : x = c := by simpa using hx
    omega
  · show vec (vs.getD c []) = L.vadd (valV vs (Int.toNat (c : Int))) L.vzero
    rw [Int.toNat_natCast, L.vadd_comm, L.vzero_add]
    rfl
theorem byte_clash {d0 x : Int} (hx : Byt x) (h : d0 = addZ d0 x) : x = 0 := by
  have h1 : addZ d0 (addZ d0 x) = x := by rw [← addZ_assoc, addZ_self, addZ_zero_left x hx]
  rw [← h, addZ_self] at h1
  exact h1.symm
theorem clash_says {N : Nat} {vs : List (List Int)} {q : Eqn} {x e : Int} {kn : List Bool} {us : List (List Int)} {rs : List Eqn} (hN0 : 0 < N) (hN : N ≤ 64) (hw : Wide 1 vs) (hvl : vs.length = N) (hq : GoodE N 1 vs q) (hx : Byt x)
    (h : PeelSays N (unitsE vs N ++ [⟨q.c, [addZ (q.d.getD 0 0) x]⟩]) kn us rs e) : (x = 0 → e = 0) ∧ (x ≠ 0 → e = 10 ∧ kn = [] ∧ us = [] ∧ rs = []) := by
  obtain ⟨q1, q2, q3, q4⟩ := hq
  have hmem : ∀ r, r ∈ unitsE vs N ++ [⟨q.c, [addZ (q.d.getD 0 0) x]⟩] → (∃ c : Nat, c < N ∧ r = ⟨[(c : Int)], vs.getD c []⟩) ∨ r = ⟨q.c, [addZ (q.d.getD 0 0) x]⟩ := fun r hr => by
    rcases List.mem_append.1 hr with hr | hr
    · obtain ⟨c, hc, rfl⟩ := List.mem_map.1 hr
      exact .inl ⟨c, List.mem_range.1 hc, rfl⟩
    · exact .inr (by simpa using hr)
  have hdl : dlen (unitsE vs N ++ [⟨q.c, [addZ (q.d.getD 0 0) x]⟩]) = 1 := by
    obtain ⟨M, rfl⟩ : ∃ M, N = M + 1 := ⟨N - 1, by omega⟩
    have : unitsE vs (M + 1) = ⟨[((0 : Nat) : Int)], vs.getD 0 []⟩ :: (List.range M).map fun c : Nat => (⟨[((c + 1 : Nat) : Int)], vs.getD (c + 1) []⟩ : Eqn) := by
      unfold unitsE
      rw [List.range_succ_eq_map, List.map_cons, List.map_map]
      rfl
    rw [this]
    exact (wide_at hw (by omega)).1
  have hm : MayEqs N (unitsE vs N ++ [⟨q.c, [addZ (q.d.getD 0 0) x]⟩]) := ⟨by omega, by omega, fun r hr => by
    rw [hdl]
    rcases hmem r hr with ⟨c, hc, rfl⟩ | rfl
    · obtain ⟨g1, g2, _⟩ := unit_good hw hvl hc
      exact ⟨g1, g2⟩
    · exact ⟨q1, rfl⟩⟩
  have hd1 : q.d = [q.d.getD 0 0] := by
    match q.d, q2 with
    | [a], _ => rfl
  have hb0 := getD_byt q3 0
  constructor
  · rintro rfl
    have hz : addZ (q.d.getD 0 0) 0 = q.d.getD 0 0 := by rw [addZ_comm, addZ_zero_left _ hb0]
    have hh : ∃ v, PL.Holds VT (List.map toE (unitsE vs N ++ [⟨q.c, [addZ (q.d.getD 0 0) 0]⟩])) v := ⟨valV vs, PL.Holds.of_all VT fun r0 hr0 => by
      obtain ⟨r, hr, rfl⟩ := List.mem_map.1 hr0
      rcases hmem r hr with ⟨c, hc, rfl⟩ | rfl
      · exact (unit_good hw hvl hc).2.2.2.symm
      · show PL.tot VT (valV vs) (List.map Int.toNat q.c) = vec [addZ (q.d.getD 0 0) 0]
        rw [hz, ← hd1]
        exact q4.symm⟩
    rcases h with ⟨a0, _⟩ | ⟨_, a1, _⟩ | ⟨_, a1, _⟩
    · exact absurd hm a0
    · exact absurd hh a1
    · exact a1
  · intro hx0
    rcases h with ⟨a0, _⟩ | ⟨_, _, a2, a3, a4, a5⟩ | ⟨_, _, a2, _⟩
    · exact absurd hm a0
    · exact ⟨a2, a3, a4, a5⟩
    · exfalso
      have hin : ∀ c, c < N → (⟨[(c : Int)], vs.getD c []⟩ : Eqn) ∈ unitsE vs N ++ [⟨q.c, [addZ (q.d.getD 0 0) x]⟩] := fun c hc => List.mem_append_left _ (List.mem_map.2 ⟨c, List.mem_range.2 hc, rfl⟩)
      have hder : ∀ c, c < N → PL.Der (List.map toE (unitsE vs N ++ [⟨q.c, [addZ (q.d.getD 0 0) x]⟩])) c := fun c hc => .by_row (toE ⟨[(c : Int)], vs.getD c []⟩) c (List.mem_map.2 ⟨_, hin c hc, rfl⟩) (by simp [toE]) fun d hd hne => by
        simp [toE] at hd
        exact absurd hd hne
      have hval : ∀ c, c < N → valV us c = valV vs c := fun c hc => by
        have h1 := a2.holds (toE ⟨[(c : Int)], vs.getD c []⟩) (List.mem_map.2 ⟨_, hin c hc, rfl⟩) fun d hd => by
          simp [toE] at hd
          subst hd
          exact hder d hc
        have h1 : L.vadd (valV us (Int.toNat (c : Int))) L.vzero = vec (vs.getD c []) := h1
        rw [Int.toNat_natCast, L.vadd_comm, L.vzero_add] at h1
        exact h1
      have h2 := a2.holds (toE ⟨q.c, [addZ (q.d.getD 0 0) x]⟩) (List.mem_map.2 ⟨_, List.mem_append_right _ (by simp), rfl⟩) fun d hd => by
        obtain ⟨y, hy, rfl⟩ := List.mem_map.1 hd
        have := q1.1 y hy
        exact hder _ (by omega)
      have h2 : PL.tot VT (valV us) (q.c.map Int.toNat) = vec [addZ (q.d.getD 0 0) x] := h2
      rw [PL.tot_congr VT (v := valV us) (v' := valV vs) fun d hd => by
        obtain ⟨y, hy, rfl⟩ := List.mem_map.1 hd
        have := q1.1 y hy
        exact hval _ (by omega), ← q4] at h2
      have h5 : vec [q.d.getD 0 0] = vec [addZ (q.d.getD 0 0) x] := by
        rw [← hd1]
        exact h2
      have h3 := vec_inj (x := [q.d.getD 0 0]) (y := [addZ (q.d.getD 0 0) x]) rfl (fun z hz => by
        obtain rfl : z = q.d.getD 0 0 := List.mem_singleton.1 hz
        exact hb0) (fun z hz => by
        obtain rfl : z = addZ (q.d.getD 0 0) x := List.mem_singleton.1 hz
        exact addZ_byt hb0 hx) h5
      have h4 : q.d.getD 0 0 = addZ (q.d.getD 0 0) x := by
        injection h3
      exact hx0 (byte_clash hx h4)
theorem peel_neg {N : Nat} {kn : List Bool} {us : List (List Int)} {rs : List Eqn} {e : Int} (hN : 0 < N) (h : PeelSays (-(N : Int)) [] kn us rs e) : e = 1 := by
  rcases h with ⟨_, a1, _⟩ | ⟨a0, _⟩ | ⟨a0, _⟩
  · exact a1
  · have := a0.1
    omega
  · have := a0.1
    omega
theorem litQ {wA W : World} {oc : Option Addr} {nc cc : Nat} {cs : List Int} {z : Int} (hg : Gr wA W) (hz : Zs wA (.slice oc nc cc) cs) (hb : Byt z) :
    EqsV wA.heap.size ((W.alloc (.cells #[.int .u8 z] 5)).alloc (.cells #[.slice oc nc cc, .slice (some ⟨W.heap.size, 0, none⟩) 1 1] 27)) (some ⟨W.heap.size + 1, 0, none⟩) 1 [⟨cs, [z]⟩] := by
  have hsz : (W.alloc (.cells #[.int .u8 z] 5)).heap.size = W.heap.size + 1 := by simp
  have hblk : ((W.alloc (.cells #[.int .u8 z] 5)).alloc (.cells #[.slice oc nc cc, .slice (some ⟨W.heap.size, 0, none⟩) 1 1] 27)).heap[W.heap.size + 1]? = some (.cells #[.slice oc nc cc, .slice (some ⟨W.heap.size, 0, none⟩) 1 1] 27 (0, 0)) := by
    rw [← hsz]
    exact heap_alloc_new _ _
  have hg2 : Gr wA ((W.alloc (.cells #[.int .u8 z] 5)).alloc (.cells #[.slice oc nc cc, .slice (some ⟨W.heap.size, 0, none⟩) 1 1] 27)) := Gr.alloc (Gr.alloc hg _ _) _ _
  have hbs := lit_bs1 (w := W) [z] (fun y hy => by
    obtain rfl := List.mem_singleton.1 hy
    exact hb) (by simp)
  refine EqsV.single (by rw [cell_of_row _ _ 0 _ _ _ hblk]; rfl) (by rw [cell_of_row _ _ 1 _ _ _ hblk]; rfl) ⟨hz.grown hg2, fun a m c e hm => .inl ?_, hbs.grown (Gr.alloc (Gr.refl _) _ _), fun a m c e hm => .inr ?_⟩
  · cases e
    have h := hz.cellAt (i := 0) hm
    rw [add_nought] at h
    exact World.block_lt_of_cell? _ _ h
  · cases e
    exact ⟨_, keptRow (Gr.alloc (Gr.refl _) _ _) (heap_alloc_new W _)⟩
theorem gr_none {W W' : World} (h : W.grownBy W' (Value.slice none 0 0).ownBlock) : Gr W W' := Gr.append (Gr.refl W) h fun k hk => by cases hk
theorem litQ_val {wA W : World} {oc : Option Addr} {nc cc gb : Nat} {cs : List Int} {z : Int} (hg : Gr wA W) (hz : Zs wA (.slice oc nc cc) cs) (hb : Byt z) (h : W.heap[gb]? = some (.cells #[.int .u8 z] 5 (0, 0))) : EqVal wA.heap.size W (.slice oc nc cc) (.slice (some ⟨gb, 0, none⟩) 1 1) ⟨cs, [z]⟩ := by
  refine ⟨hz.grown hg, fun a m c e hm => .inl ?_, ?_, fun a m c e hm => .inr ?_⟩
  · cases e
    have h := hz.cellAt (i := 0) hm
    rw [add_nought] at h
    exact World.block_lt_of_cell? _ _ h
  · exact Blk.bs (L := [z]) h [z] 1 (Nat.le_refl _) (Nat.le_refl _) (by omega) (fun y hy => by
      obtain rfl := List.mem_singleton.1 hy
      exact hb) fun _ _ => rfl
  · cases e
    exact ⟨_, h⟩
theorem litQB {wA W : World} {oc : Option Addr} {nc cc : Nat} {cs : List Int} {z : Int} (hg : Gr wA W) (hp : Gr (wA.alloc (.cells #[.int .u8 z] 5)).drew W) (hz : Zs wA (.slice oc nc cc) cs) (hb : Byt z) :
    EqsV wA.heap.size (W.alloc (.cells #[.slice oc nc cc, .slice (some ⟨wA.heap.size, 0, none⟩) 1 1] 27)) (some ⟨W.heap.size, 0, none⟩) 1 [⟨cs, [z]⟩] := by
  have hblk := heap_alloc_new W (.cells #[.slice oc nc cc, .slice (some ⟨wA.heap.size, 0, none⟩) 1 1] 27)
  exact EqsV.single (by rw [cell_of_row _ _ 0 _ _ _ hblk]; rfl) (by rw [cell_of_row _ _ 1 _ _ _ hblk]; rfl) (litQ_val (Gr.alloc hg _ _) hz hb (keptRow (Gr.alloc hp _ _) (heap_alloc_new wA _)))
theorem litQC {wA W : World} {oc : Option Addr} {nc cc : Nat} {cs : List Int} {z : Int} (hg : Gr wA W) (hp : Gr ((wA.alloc (.cells #[.int .u8 z] 5)).alloc (.cells #[.slice oc nc cc, .slice (some ⟨wA.heap.size, 0, none⟩) 1 1] 27)).drew W) (hz : Zs wA (.slice oc nc cc) cs) (hb : Byt z) :
    EqsV wA.heap.size W (some ⟨wA.heap.size + 1, 0, none⟩) 1 [⟨cs, [z]⟩] := by
  have hsz : (wA.alloc (.cells #[.int .u8 z] 5)).heap.size = wA.heap.size + 1 := by simp
  have hblk : W.heap[wA.heap.size + 1]? = some (.cells #[.slice oc nc cc, .slice (some ⟨wA.heap.size, 0, none⟩) 1 1] 27 (0, 0)) := by
    rw [← hsz]
    exact keptRow hp (heap_alloc_new (wA.alloc (.cells #[.int .u8 z] 5)) _)
  exact EqsV.single (by rw [cell_of_row _ _ 0 _ _ _ hblk]; rfl) (by rw [cell_of_row _ _ 1 _ _ _ hblk]; rfl) (litQ_val hg hz hb (keptRow (Gr.trans (Gr.drewQ (Gr.alloc (Gr.refl (wA.alloc (.cells #[.int .u8 z] 5))) _ _)) hp) (heap_alloc_new wA _)))
set_option maxRecDepth 100000 in
set_option maxHeartbeats 6400000 in
theorem peelClash_walk (O : PeelOk) (n x : Int) (vl vb : Value) (l b : List Int) (w : World) (hl : Zs w vl l) (hb : Bs w vb b) (hbl : b.length ≤ 9223372036854775807) (hx : Byt x) :
    Calls Try.prog 6 #[.int .i64 n, vl, vb, .int .u8 x] w fun e w' => e = .returned (.bool true) ∧ Gr w w' := by
  have HO := Lib.hid O
  have HL := Lib.hid hl
  have HB := Lib.hid hb
  have HBB := Lib.hid (hb.1)
  have HX := Lib.hid hx
  clear O hl hb hx
  obtain ⟨N, hN, hN1, hN2⟩ : ∃ N : Nat, 1 + n % 10 = (N : Int) ∧ 0 < N ∧ N ≤ 10 := ⟨(1 + n % 10).toNat, by omega, by omega, by omega⟩
  have HN := Lib.hid hN
  clear hN
  go_enter Try.func6, Try.ntmps6
  go_wp2_with fail
  refine (within_any n 10 (by omega) (by omega) _).mono ?_
  rintro e w' ⟨rfl, rfl⟩
  go_wp2_with fail
  rw [HN.out]
  refine (vals_any _ b N 1 _ HB.out (by omega) (by omega) hbl).mono ?_
  rintro e w1 ⟨v1, rfl, hr1, hg1⟩
  have hw1 := valsL_wide HBB.out N 1
  have hl1 := valsL_length b N 1
  generalize valsL b N 1 = vs at *
  obtain ⟨o1, c1, e1⟩ := hr1.form3
  rw [hl1] at e1
  subst e1
  have B1 := Lib.hid hr1.bss
  have G1 := Lib.hid hg1
  have HW := Lib.hid hw1
  have HVL := Lib.hid hl1
  clear hr1 hg1 hw1 hl1 hbl
  go_wp2_with fail
  go_loopw [10, 31] (fun ov iv W => ∃ i : Nat, i ≤ N ∧ iv = .int .i64 i ∧ EqsO w1.heap.size W ov (unitsE vs i) ∧ Gr w1 W) (fun _ iv _ => N - (intOf iv).toNat)
  case atStart => exact ⟨0, by omega, rfl, EqsO.nil _ _, Gr.refl _⟩
  case round =>
    obtain ⟨wo, hwo⟩ : ∃ x, x = wr := ⟨_, rfl⟩
    subst hwo
    obtain ⟨i, hi, rfl, ho, hg⟩ := hrel
    obtain ⟨oo, co, he⟩ := ho.form
    rw [unitsE_length] at he
    subst he
    have HO1 := Lib.hid ho
    have HG := Lib.hid hg
    clear ho hg
    by_cases hlt : i < N
    · obtain ⟨ad, rfl⟩ := Bss.addr B1.out hN1
      obtain ⟨u, q1, hu⟩ := Bss.rowAt B1.out hlt
      obtain ⟨ou, mu, cu, rfl⟩ := Bs.form4 hu
      have q1 := cell_gr HG.out q1
      have q2 := cell_gr (Gr.alloc (Gr.refl wo) #[.int .i64 (i : Int)] 3) q1
      have hg2 : Gr wo ((wo.alloc (.cells #[.int .i64 (i : Int)] 3)).alloc (.cells #[.slice (some ⟨wo.heap.size, 0, none⟩) 1 1, .slice ou mu cu] 27)) := Gr.alloc (Gr.alloc (Gr.refl _) _ _) _ _
      have hsz : (wo.alloc (.cells #[.int .i64 (i : Int)] 3)).heap.size = wo.heap.size + 1 := by simp
      have hblk : ((wo.alloc (.cells #[.int .i64 (i : Int)] 3)).alloc (.cells #[.slice (some ⟨wo.heap.size, 0, none⟩) 1 1, .slice ou mu cu] 27)).heap[wo.heap.size + 1]? = some (.cells #[.slice (some ⟨wo.heap.size, 0, none⟩) 1 1, .slice ou mu cu] 27 (0, 0)) := by
        rw [← hsz]
        exact heap_alloc_new _ _
      have EV : Hid (EqsV w1.heap.size ((wo.alloc (.cells #[.int .i64 (i : Int)] 3)).alloc (.cells #[.slice (some ⟨wo.heap.size, 0, none⟩) 1 1, .slice ou mu cu] 27)) (some ⟨wo.heap.size + 1, 0, none⟩) 1 [⟨[(i : Int)], vs.getD i []⟩]) := Lib.hid (by
        refine EqsV.single (by rw [cell_of_row _ _ 0 _ _ _ hblk]; rfl) (by rw [cell_of_row _ _ 1 _ _ _ hblk]; rfl) ⟨(one_zs (w := wo) i ⟨by omega, by omega⟩).grown (Gr.alloc (Gr.refl _) _ _), fun a m c e hm => .inr ?_, hu.grown (Gr.trans HG.out hg2), hu.rb _⟩
        cases e
        exact ⟨_, keptRow (Gr.alloc (Gr.refl _) _ _) (heap_alloc_new wo _)⟩)
      have O2 := Lib.hid (HO1.out.grown hg2)
      have G2 := Lib.hid (Gr.trans HG.out hg2)
      clear hg2 hsz hblk hu
      go_wp2_with (at_builtin; refine wpList_append_eqs rfl _ _ rfl w1.heap.size (.slice oo i co) (unitsE vs i) _ rfl O2.out (some ⟨wo.heap.size + 1, 0, none⟩) 1 1 rfl EV.out (fun e => by cases e) (by rw [unitsE_length]; omega) G2.out.size ?_; intro v5 w5 h5 hg5 hgr5 hn5; have L5 := Lib.hid h5; have G5 := Lib.hid (hg5 w1 G2.out (Nat.le_refl _)); clear h5 hg5 hgr5 hn5)
      exact ⟨⟨i + 1, by omega, by go_num, by rw [unitsE_succ]; exact L5.out, G5.out⟩, by simp [intOf]; omega⟩
    · obtain rfl : i = N := by omega
      have BO := Lib.hid (B1.out.grown HG.out)
      have GO := Lib.hid (Gr.trans G1.out HG.out)
      go_wp2_with fail
      refine (eqRows_any _ _ l vs i 1 8 _ (HL.out.grown GO.out) BO.out hN1 (by omega) HVL.out HW.out (by omega) (by omega)).mono ?_
      rintro e w3 ⟨v3, rfl, Qs, ho3, hg3, hQ1, hQ2⟩
      obtain ⟨o3, c3, e3⟩ := ho3.form
      obtain ⟨R, hR⟩ : ∃ R, Qs.length = R := ⟨_, rfl⟩
      rw [hR] at e3 hQ1
      subst e3
      have E3 := Lib.hid ho3.eqs
      have U3 := Lib.hid ((HO1.out.grown hg3).vals.mono (Gr.trans HG.out hg3).size)
      have G3 := Lib.hid (Gr.trans GO.out hg3)
      have HQ := Lib.hid hQ2
      have HRL := Lib.hid hR
      have HCO : Hid (oo = none → co = 0) := Lib.hid (fun e => by
        rcases HO1.out.lies with ⟨_, _, h⟩ | ⟨g, h, _⟩
        · exact h
        · rw [h] at e
          cases e)
      clear ho3 hg3 hQ2 hR HO1 BO GO HG B1 G1 HL HB HBB
      go_wp2_with fail
      go_loopw [50] (fun iv W => ∃ t : Nat, t ≤ R ∧ iv = .int .i64 t ∧ Gr w3 W) (fun iv _ => R - (intOf iv).toNat)
      case atStart => exact ⟨0, by omega, rfl, Gr.refl _⟩
      case round =>
        obtain ⟨wp, hwp⟩ : ∃ x, x = wr := ⟨_, rfl⟩
        subst hwp
        obtain ⟨t, ht, rfl, hgt⟩ := hrel
        have GT := Lib.hid hgt
        clear hgt
        by_cases htl : t < R
        · obtain ⟨bq, oq, rfl, _⟩ := E3.out.lay (by omega)
          obtain ⟨oc, nc, cc, od, nd, cd, q1, q2, zc, zd⟩ := (E3.out.grown GT.out).at htl
          have hqm := getD_memE (L := Qs) (i := t) (by rw [HRL.out]; exact htl)
          have hgq := HQ.out _ hqm
          generalize Qs.getD t noE = r at *
          have hnd : nd = 1 := by
            have := zd.parts.1
            have := hgq.2.1
            omega
          subst hnd
          obtain ⟨adt, rfl⟩ := Bs.addr zd (by omega)
          have q3 := Bs.cellQ zd (i := 0) (by omega)
          rw [add_nought] at q3
          have gA : Gr wp (wp.alloc (.cells #[.slice oc nc cc, .slice (some adt) 1 cd] 27)) := Gr.alloc (Gr.refl _) _ _
          have c0 : (wp.alloc (.cells #[.slice oc nc cc, .slice (some adt) 1 cd] 27)).cell? ⟨wp.heap.size, 0, none⟩ = some (.slice oc nc cc) := by rw [cell_of_row _ _ 0 _ _ _ (heap_alloc_new _ _)]; rfl
          have c1 : (wp.alloc (.cells #[.slice oc nc cc, .slice (some adt) 1 cd] 27)).cell? ⟨wp.heap.size, 1, none⟩ = some (.slice (some adt) 1 cd) := by rw [cell_of_row _ _ 1 _ _ _ (heap_alloc_new _ _)]; rfl
          have c2 := cell_gr gA q3
          have ZC := Lib.hid (zc.grown gA)
          have UT := Lib.hid (U3.out.grown (Gr.trans GT.out gA))
          have GT2 := Lib.hid (Gr.trans GT.out gA)
          have HGQ := Lib.hid hgq
          clear zc zd gA hgq hqm q3
          go_upto_region 12 with fail
          have UA : Hid (EqsV (wp.alloc (.cells #[.slice oc nc cc, .slice (some adt) 1 cd] 27)).heap.size (wp.alloc (.cells #[.slice oc nc cc, .slice (some adt) 1 cd] 27)) oo i (unitsE vs i)) := Lib.hid (UT.out.mono GT2.out.size)
          clear UT
          generalize hWA : wp.alloc (.cells #[.slice oc nc cc, .slice (some adt) 1 cd] 27) = wA at *
          generalize wp.heap.size = gq at *
          clear hWA
          obtain ⟨d0, hd0⟩ : ∃ d, r.d.getD 0 0 = d := ⟨_, rfl⟩
          have hdb := getD_byt HGQ.out.2.2.1 0
          rw [hd0] at c2 hdb
          have HD0 := Lib.hid hd0
          have HXO := Lib.hid (xorZ _ _ hdb HX.out)
          clear hd0
          obtain ⟨z, hz⟩ : ∃ z, bits BinOp.xor IntKind.u8 d0 x = z := ⟨_, rfl⟩
          have HZB : Hid (Byt z) := Lib.hid (by rw [← hz, HXO.out]; exact addZ_byt hdb HX.out)
          clear hdb
          go_cut [14] (fun bv wx => EqsO wA.heap.size wx bv (unitsE vs i ++ [⟨r.c, [z]⟩]) ∧ Gr wA wx)
          case first =>
            go_region_held3 (fun W => W.cell? ⟨gq, 0, none⟩ = some (.slice oc nc cc) ∧ W.cell? ⟨gq, 1, none⟩ = some (.slice (some adt) 1 cd) ∧ W.cell? adt = some (.int .u8 d0))
              (first | exact ⟨cell_gr G6.out c0, cell_gr G6.out c1, cell_gr G6.out c2⟩ | exact ⟨cell_gr G5.out c0, cell_gr G5.out c1, cell_gr G5.out c2⟩ | exact ⟨cell_gr (Gr.alloc G5.out _ _) c0, cell_gr (Gr.alloc G5.out _ _) c1, cell_gr (Gr.alloc G5.out _ _) c2⟩ | exact ⟨cell_gr (Gr.alloc (Gr.alloc G5.out _ _) _ _) c0, cell_gr (Gr.alloc (Gr.alloc G5.out _ _) _ _) c1, cell_gr (Gr.alloc (Gr.alloc G5.out _ _) _ _) c2⟩ | exact ⟨cell_gr (Gr.drewQ (Gr.alloc (Gr.refl wA) _ _)) c0, cell_gr (Gr.drewQ (Gr.alloc (Gr.refl wA) _ _)) c1, cell_gr (Gr.drewQ (Gr.alloc (Gr.refl wA) _ _)) c2⟩ | exact ⟨cell_gr (Gr.drewQ (Gr.alloc (Gr.alloc (Gr.refl wA) _ _) _ _)) c0, cell_gr (Gr.drewQ (Gr.alloc (Gr.alloc (Gr.refl wA) _ _) _ _)) c1, cell_gr (Gr.drewQ (Gr.alloc (Gr.alloc (Gr.refl wA) _ _) _ _)) c2⟩ | go_keep)
              (first
                | (have hx5 := L5; refine step_append_eqs rfl _ _ (by rfl) wA.heap.size (.slice o5 i c5) ([] ++ unitsE vs i) [⟨r.c, [z]⟩] (by rfl) (L5.out.grown (Gr.alloc (Gr.alloc (Gr.refl _) _ _) _ _)) (some ⟨w5.heap.size + 1, 0, none⟩) 1 1 (by rfl) (litQ G5.out ZC.out HZB.out) (fun e => by cases e) (by rw [List.nil_append, unitsE_length]; omega) (by have := G5.out.size; simp; omega) ?_; intro v6 w6 h6 hg6 hgr6; have L6 := Lib.hid h6; have G6 := Lib.hid (hg6 wA (Gr.alloc (Gr.alloc G5.out _ _) _ _) (Nat.le_refl _)); clear h6 hg6 hgr6; obtain ⟨o6, c6, e6⟩ := L6.out.form; rw [List.nil_append, List.length_append, unitsE_length] at e6; subst e6)
                | (have hx5 := L5; refine step_append_eqs rfl _ _ (by rfl) wA.heap.size (.slice o5 i c5) ([] ++ unitsE vs i) [⟨r.c, [z]⟩] (by rfl) (L5.out.grown (Gr.alloc (Gr.refl _) _ _)) (some ⟨w5.heap.size, 0, none⟩) 1 1 (by rfl) (litQB G5.out P5.out ZC.out HZB.out) (fun e => by cases e) (by rw [List.nil_append, unitsE_length]; omega) (by have := G5.out.size; simp; omega) ?_; intro v6 w6 h6 hg6 hgr6; have L6 := Lib.hid h6; have G6 := Lib.hid (hg6 wA (Gr.alloc G5.out _ _) (Nat.le_refl _)); clear h6 hg6 hgr6; obtain ⟨o6, c6, e6⟩ := L6.out.form; rw [List.nil_append, List.length_append, unitsE_length] at e6; subst e6)
                | (have hx5 := L5; refine step_append_eqs rfl _ _ (by rfl) wA.heap.size (.slice o5 i c5) ([] ++ unitsE vs i) [⟨r.c, [z]⟩] (by rfl) L5.out (some ⟨wA.heap.size + 1, 0, none⟩) 1 1 (by rfl) (litQC G5.out P5.out ZC.out HZB.out) (fun e => by cases e) (by rw [List.nil_append, unitsE_length]; omega) (by have := G5.out.size; simp; omega) ?_; intro v6 w6 h6 hg6 hgr6; have L6 := Lib.hid h6; have G6 := Lib.hid (hg6 wA G5.out (Nat.le_refl _)); clear h6 hg6 hgr6; obtain ⟨o6, c6, e6⟩ := L6.out.form; rw [List.nil_append, List.length_append, unitsE_length] at e6; subst e6)
                | (refine step_append_eqs rfl _ _ (by rfl) wA.heap.size (.slice none 0 0) [] (unitsE vs i) (by rfl) (EqsO.nil _ _) oo i co (by rfl) (UA.out.grown (Gr.drewQ (Gr.refl wA))) HCO.out (by simp; omega) (Gr.size (Gr.drewQ (Gr.refl wA))) ?_; intro v5 w5 h5 hg5 hgr5; have L5 := Lib.hid h5; have G5 := Lib.hid (hg5 wA (Gr.drewQ (Gr.refl wA)) (Nat.le_refl _)); have P5 := Lib.hid (gr_none hgr5); clear h5 hg5 hgr5; obtain ⟨o5, c5, e5⟩ := L5.out.form; rw [List.nil_append, unitsE_length] at e5; subst e5)
                | (refine step_append_eqs rfl _ _ (by rfl) wA.heap.size (.slice none 0 0) [] (unitsE vs i) (by rfl) (EqsO.nil _ _) oo i co (by rfl) (UA.out.grown (Gr.drewQ (Gr.alloc (Gr.refl wA) #[.int .u8 z] 5))) HCO.out (by simp; omega) (Gr.size (Gr.drewQ (Gr.alloc (Gr.refl wA) #[.int .u8 z] 5))) ?_; intro v5 w5 h5 hg5 hgr5; have L5 := Lib.hid h5; have G5 := Lib.hid (hg5 wA (Gr.drewQ (Gr.alloc (Gr.refl wA) #[.int .u8 z] 5)) (Nat.le_refl _)); have P5 := Lib.hid (gr_none hgr5); clear h5 hg5 hgr5; obtain ⟨o5, c5, e5⟩ := L5.out.form; rw [List.nil_append, unitsE_length] at e5; subst e5)
                | (refine step_append_eqs rfl _ _ (by rfl) wA.heap.size (.slice none 0 0) [] (unitsE vs i) (by rfl) (EqsO.nil _ _) oo i co (by rfl) (UA.out.grown (Gr.drewQ (Gr.alloc (Gr.alloc (Gr.refl wA) #[.int .u8 z] 5) #[.slice oc nc cc, .slice (some ⟨wA.heap.size, 0, none⟩) 1 1] 27))) HCO.out (by simp; omega) (Gr.size (Gr.drewQ (Gr.alloc (Gr.alloc (Gr.refl wA) #[.int .u8 z] 5) #[.slice oc nc cc, .slice (some ⟨wA.heap.size, 0, none⟩) 1 1] 27))) ?_; intro v5 w5 h5 hg5 hgr5; have L5 := Lib.hid h5; have G5 := Lib.hid (hg5 wA (Gr.drewQ (Gr.alloc (Gr.alloc (Gr.refl wA) #[.int .u8 z] 5) #[.slice oc nc cc, .slice (some ⟨wA.heap.size, 0, none⟩) 1 1] 27)) (Nat.le_refl _)); have P5 := Lib.hid (gr_none hgr5); clear h5 hg5 hgr5; obtain ⟨o5, c5, e5⟩ := L5.out.form; rw [List.nil_append, unitsE_length] at e5; subst e5))
            all_goals (go_wp2_with fail; go_meet)
            all_goals exact ⟨L6.out, G6.out⟩
          case rest =>
            obtain ⟨ho6, hg6⟩ := hcut
            rw [← hz, HXO.out] at ho6
            obtain ⟨o6, c6, e6⟩ := ho6.form
            rw [List.length_append, unitsE_length] at e6
            subst e6
            have E6 := Lib.hid ho6.eqs
            have G6 := Lib.hid (Gr.trans GT2.out hg6)
            clear ho6 hg6 hz HZB c0 c1 c2 UA
            go_wp2_with fail
            refine (HO.out.peel i _ _ _ ⟨by omega, by omega⟩ E6.out (by simp [unitsE_length]; omega) (fun q hq => ?_)).mono ?_
            · rcases List.mem_append.1 hq with hq | hq
              · obtain ⟨c, hc, rfl⟩ := List.mem_map.1 hq
                have hc := List.mem_range.1 hc
                obtain ⟨_, g2, _⟩ := unit_good HW.out HVL.out hc
                exact ⟨by simp, by rw [g2]; omega⟩
              · obtain rfl := List.mem_singleton.1 hq
                have := rising_le HGQ.out.1.2 HGQ.out.1.1
                exact ⟨by show r.c.length ≤ 1000; omega, by simp⟩
            rintro e w7 ⟨vk, vv, vr, x7, kn, us, rs, rfl, hk, hv, hr, hg, hs⟩
            obtain ⟨hcl0, hcl1⟩ := clash_says hN1 (by omega) HW.out HVL.out HGQ.out HX.out (by rw [HD0.out]; exact hs)
            obtain ⟨ok, ck, rfl⟩ := hk.form3
            obtain ⟨ov, nv, cv, rfl⟩ := hv.form3
            obtain ⟨or', cr, rfl⟩ := hr.form
            have hnv : nv = us.length := hv.len3
            subst hnv
            have G7 := Lib.hid (Gr.trans G6.out hg)
            clear hk hv hr hs hg
            by_cases hx0 : x = 0
            · have h0 := hcl0 hx0
              subst hx0 h0
              clear hcl0 hcl1
              go_wp2_with fail
              exact ⟨⟨t + 1, by omega, by go_num, G7.out⟩, by simp [intOf]; omega⟩
            · obtain ⟨rfl, rfl, rfl, rfl⟩ := hcl1 hx0
              clear hcl0 hcl1
              have hxd : (x != 0) = true := by simpa using hx0
              go_wp2_with fail
              exact ⟨⟨t + 1, by omega, by go_num, G7.out⟩, by simp [intOf]; omega⟩
        · obtain rfl : t = R := by omega
          have hneg : wrap64 (-(i : Int)) = -(i : Int) := by unfold wrap64; omega
          go_wp2_with fail
          refine (HO.out.peel (-(i : Int)) _ [] _ ⟨by omega, by omega⟩ (Eqs.nil _) (by simp) (by simp)).mono ?_
          rintro e w7 ⟨vk, vv, vr, x7, kn, us, rs, rfl, hk, hv, hr, hg, hs⟩
          obtain rfl := peel_neg hN1 hs
          have G7 := Lib.hid (Gr.trans G3.out (Gr.trans GT.out hg))
          clear hk hv hr hs hg
          go_wp2_with fail
          refine (peelWakes_any HO.out _).mono ?_
          rintro e w9 ⟨rfl, hg9⟩
          have G9 := Lib.hid (Gr.trans G7.out hg9)
          clear hg9
          go_wp2_with fail
          go_ret
          exact ⟨rfl, G9.out⟩
end Go.Proofs.Ytjibmgdafpempaa
