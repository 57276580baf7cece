/-
  Law EncodeErrors, walked.
-/
import Derived.Test.YtbabecjphmmngaaEncodeSumsW
import Derived.Test.YtbabecjphmmngaaMgf
import Derived.Test.YtbabecjphmmngaaMgi
namespace Go.Proofs.Ytbabecjphmmngaa
open Go.RowKit

theorem Rn.stay {base : Nat} {w w' : World} {u : Value} {row : Option Nat} (hr : Rn base w u)
    (hk : ∀ k, k < w.heap.size → some k ≠ row → w'.heap[k]? = w.heap[k]?) (hrow : ∀ g, row = some g → base ≤ g ∧ ∀ cur, w.heap[g]? ≠ some (.cells cur 5 (0, 0))) : Rn base w' u := fun a n c hu hn => by
  obtain ⟨h1, cur, h2⟩ := hr a n c hu hn
  refine ⟨h1, cur, ?_⟩
  rw [hk _ (Array.getElem?_eq_some_iff.1 h2).1 (fun e => (hrow a.block e.symm).2 cur h2)]
  exact h2
theorem New.rnb {w w' : World} {v : Value} {l : List Int} {base : Nat} (h : New w w' v l) (hb : base ≤ w.heap.size) : Rn base w' v := by
  intro a n c hv hn
  obtain ⟨_, _, ⟨rfl, oa, c', rfl, _⟩ | ⟨g, c', cur, rfl, q, h2, _⟩⟩ := h
  · cases hv
    omega
  · cases hv
    exact ⟨Nat.le_trans hb q, cur, h2⟩
/-- A row of S bytes in memory of bytes from base on. -/
def RowS (base : Nat) (w : World) (S : Nat) (u : Value) : Prop := (∃ l, l.length = S ∧ Bs w u l) ∧ Rn base w u
theorem RowS.stay {base S : Nat} {w w' : World} {u : Value} {row : Option Nat} (h : RowS base w S u)
    (hk : ∀ k, k < w.heap.size → some k ≠ row → w'.heap[k]? = w.heap[k]?) (hrow : ∀ g, row = some g → base ≤ g ∧ ∀ cur, w.heap[g]? ≠ some (.cells cur 5 (0, 0))) : RowS base w' S u := by
  obtain ⟨⟨l, h1, h2⟩, h3⟩ := h
  exact ⟨⟨l, h1, (Rb.kept h2 (fun a n c e hn => .inr (h3 a n c e hn).2) hk hrow).1⟩, h3.stay hk hrow⟩
theorem RowS.grown {base S : Nat} {w w' : World} {u : Value} (h : RowS base w S u) (hg : Gr w w') : RowS base w' S u :=
  h.stay (row := none) (fun k hk _ => hg.2.2.2.2 k hk) (fun g h => by cases h)
/-- Two rows behind the others. -/
theorem own_two {base n S : Nat} {w w' : World} {v : Value} {us : List Value} {u1 u2 : Value} (ho : w.ownsRow base 23 1 v n us) (hr : ∀ i, i < n → RowS base w S (us.getD i undef)) (h1 : RowS base w S u1) (h2 : RowS base w S u2) (hg : w.grownBy w' v.ownBlock) : OwnN base w' (us ++ [u1, u2]) (n + 2) S := fun i hi => by
  have hlen : us.length = n := by have := ho.1; omega
  have hrow := ownsRow_not_bytes ho
  suffices h : RowS base w S ((us ++ [u1, u2]).getD i undef) from h.stay hg.block hrow
  by_cases e : i < n
  · rw [List.getD_eq_getElem?_getD, List.getElem?_append_left (by omega), ← List.getD_eq_getElem?_getD]
    exact hr i e
  · rw [List.getD_eq_getElem?_getD, List.getElem?_append_right (by omega), hlen]
    have : i = n ∨ i = n + 1 := by omega
    rcases this with rfl | rfl
    · rw [Nat.sub_self]; exact h1
    · rw [Nat.add_sub_cancel_left]; exact h2
theorem OwnN.pokeZ {base n N : Nat} {w : World} {us : List Value} (h : OwnN base w us n N) {x : Addr} {y : Value} {cur : Array Value} (hx : w.cell? x = some y) (hc : w.heap[x.block]? = some (.cells cur 5 (0, 0))) (z : Int) (hz : Byt z) : OwnN base (w.setCell x (.int .u8 z)) us n N := fun i hi => by
  obtain ⟨⟨l, h1, h2⟩, h3⟩ := h i hi
  obtain ⟨l', h4, h5⟩ := h2.poke hx z hz
  refine ⟨⟨l', by rw [h4, h1], h5⟩, fun a m c e hm => ?_⟩
  obtain ⟨h6, cur', h7⟩ := h3 a m c e hm
  refine ⟨h6, ?_⟩
  by_cases e2 : a.block = x.block
  · rw [e2]
    simp only [World.setCell, Array.getElem?_modify, if_true, hc]
    exact ⟨_, rfl⟩
  · exact ⟨cur', by rw [heap_setCell_other _ _ _ _ e2]; exact h7⟩
theorem Zeroing.pokeZ {W wr : World} {us : List Value} {g H N : Nat} (h : Zeroing W wr us g H N) {x : Addr} {v : Value} {cur : Array Value} (hx : wr.cell? x = some v) (hc : wr.heap[x.block]? = some (.cells cur 5 (0, 0))) (hb : W.heap.size ≤ x.block) (z : Int) (hz : Byt z) : Zeroing W (wr.setCell x (.int .u8 z)) us g H N := by
  obtain ⟨cur', h1⟩ := h.row
  have hne : g ≠ x.block := fun e => by
    rw [e, hc] at h1
    simp at h1
  refine ⟨h.own.pokeZ hx hc z hz, fun i hi => ?_, ⟨cur', by rw [heap_setCell_other _ _ _ _ hne]; exact h1⟩, Gr.setCell h.gr hb _⟩
  rw [World.cell?_setCell_other _ _ _ _ (fun e => hne (by rw [e]))]
  exact h.cell i hi
theorem Zeroing.atZ {W wr : World} {us : List Value} {g H N : Nat} (h : Zeroing W wr us g H N) {i j : Nat} (hi : i < H) (hj : j < N) : ∃ a c z, us.getD i undef = .slice (some a) N c ∧ N ≤ c ∧ wr.cell? (a.add j) = some (.int .u8 z) ∧ Byt z ∧ wr.frozen? (a.add j) = false ∧ ∀ z', Byt z' → Zeroing W (wr.setCell (a.add j) (.int .u8 z')) us g H N := by
  obtain ⟨⟨l, hl, hb⟩, hr⟩ := h.own i hi
  obtain ⟨a, c, h1, h2, h3, h4⟩ := Bs.at hb (by omega)
  rw [hl] at h1 h2 h4
  obtain ⟨h5, cur, h6⟩ := hr a N c h1 (by omega)
  have hab : (a.add j).block = a.block := add_blk a j
  refine ⟨a, c, _, h1, h2, h4 j hj, getD_byt hb.1 j, ?_, fun z' hz' => h.pokeZ (h4 j hj) (by rw [hab]; exact h6) (by rw [hab]; exact h5) z' hz'⟩
  unfold World.frozen?
  rw [hab, h6]
  simp
theorem Bs.takeN {w : World} {oa : Option Addr} {m c : Nat} {l : List Int} (h : Bs w (.slice oa m c) l) (n : Nat) (hn : n ≤ m) : Bs w (.slice oa n c) (l.take n) := by
  obtain ⟨h0, oa', c', he, h2, h3, h4, h5⟩ := h
  obtain ⟨rfl, rfl, rfl⟩ : oa = oa' ∧ m = l.length ∧ c = c' := by simpa using he
  have hl : (l.take n).length = n := by rw [List.length_take]; omega
  refine ⟨fun x hx => h0 x (List.mem_of_mem_take hx), oa, c, by rw [hl], by rw [hl]; omega, h3, h4, fun a ha i hi => ?_⟩
  rw [hl] at hi
  rw [h5 a ha i (by omega), List.getD_eq_getElem?_getD, List.getD_eq_getElem?_getD, List.getElem?_take_of_lt hi]
theorem byt_wrap (z : Int) : Byt (IntKind.u8.wrap z) := by
  have : IntKind.u8.wrap z = z % 256 := by simp [IntKind.wrap, IntKind.bits, IntKind.signed]
  rw [this]
  unfold Byt
  omega
theorem lit_one {W W' : World} (hW : Gr (W.alloc (.cells #[.int .u8 1] 5)) W') : Bs W' (.slice (some ⟨W.heap.size, 0, none⟩) 1 1) [1] := by
  have hb : ∀ z ∈ ([1] : List Int), Byt z := by
    intro z hz
    obtain rfl : z = 1 := by simpa using hz
    unfold Byt
    omega
  exact Blk.bs (L := [1]) (keptRow hW (heap_alloc_new W _)) [1] 1 (Nat.le_refl _) (Nat.le_refl _) (by omega) hb fun _ _ => rfl
set_option maxRecDepth 100000 in
set_option maxHeartbeats 6400000 in
theorem encodeErrors_walk {At : World → Value → (Nat → Prop) → Nat → Nat → Nat → Nat → List (List Int) → Prop} (O : SystemOk) (E : EncOk At) (a b c sd : Int) (vd : Value) (D : List Int) (id : Int) (w : World) (hd : Bs w vd D) (hid : I64 id) :
    Calls Try.prog 5 #[.int .i64 a, .int .i64 b, .int .i64 c, .int .u64 sd, vd, .int .i64 id] w fun e w' => e = .returned (.bool true) ∧ Gr w w' := by
  have HO := Lib.hid O
  have HE := Lib.hid E
  have HD := Lib.hid hd
  have HID := Lib.hid hid
  obtain ⟨od, md, cd, rfl⟩ := Bs.form4 hd
  clear O E hd hid
  obtain ⟨K, hK, K1, K2⟩ : ∃ K : Nat, 1 + a % 16 = K ∧ 1 ≤ K ∧ K ≤ 16 := ⟨(1 + a % 16).toNat, by omega, by omega, by omega⟩
  obtain ⟨H, hH, H1, H2⟩ : ∃ K : Nat, 1 + b % 4 = K ∧ 1 ≤ K ∧ K ≤ 4 := ⟨(1 + b % 4).toNat, by omega, by omega, by omega⟩
  obtain ⟨S, hS, S1, S2⟩ : ∃ K : Nat, 1 + c % 24 = K ∧ 1 ≤ K ∧ K ≤ 24 := ⟨(1 + c % 24).toNat, by omega, by omega, by omega⟩
  have hm : MayP K H S := by unfold MayP; omega
  have HM := Lib.hid hm
  obtain ⟨Q, hQ⟩ : ∃ Q, K * S = Q := ⟨_, rfl⟩
  have hQ1 : 1 ≤ Q := by rw [← hQ]; exact Nat.mul_pos K1 S1
  have hQ2 : Q ≤ 384 := by rw [← hQ]; exact Nat.le_trans (Nat.mul_le_mul K2 S2) (by omega)
  have hQi : (K : Int) * (S : Int) = (Q : Int) := by rw [← hQ]; simp
  have hQw : IntKind.i64.wrap (Q : Int) = Q := by simp [IntKind.wrap, IntKind.bits, IntKind.signed]; omega
  have HQ := Lib.hid hQ
  clear hm hQ
  go_enter Try.func5, Try.ntmps5
  go_wp2_with fail
  refine (params_any a b c _).mono ?_
  rintro e w1 ⟨rfl, hg⟩
  rw [hK, hH, hS]
  clear hK hH hS
  go_wp2_with fail
  have HP : Hid (Par (w1.alloc (.cells #[.int .i64 (K : Int), .int .i64 (H : Int), .int .i64 (S : Int)] 25)) w1.heap.size K H S) := Lib.hid (heap_alloc_new _ _)
  have HG : Hid (Gr w (w1.alloc (.cells #[.int .i64 (K : Int), .int .i64 (H : Int), .int .i64 (S : Int)] 25))) := Lib.hid (Gr.alloc hg _ _)
  clear hg
  generalize w1.alloc (.cells #[.int .i64 (K : Int), .int .i64 (H : Int), .int .i64 (S : Int)] 25) = W0 at *
  generalize w1.heap.size = gp at *
  have c0 := HP.out.cell0
  have c1 := HP.out.cell1
  have c2 := HP.out.cell2
  go_wp2_with fail
  refine (seed_any HO.out K H S sd _).mono ?_
  rintro e w2 ⟨s, rfl, hs, hg2⟩
  have HP2 := Lib.hid (HP.out.grown hg2)
  have HG2 := Lib.hid (Gr.trans HG.out hg2)
  have HS := Lib.hid hs
  clear hg2 HP HG c0 c1 c2 hs
  have c0 := HP2.out.cell0
  have c1 := HP2.out.cell1
  have c2 := HP2.out.cell2
  go_wp2_with fail
  refine (data_any _ D Q _ (Bs.grown HD.out HG2.out) hQ1 (by omega)).mono ?_
  rintro e w3 ⟨x, rfl, hn3⟩
  obtain ⟨X, hX⟩ : ∃ X, dataL D Q = X := ⟨_, rfl⟩
  have HXB : Hid (∀ z ∈ X, Byt z) := Lib.hid (by rw [← hX]; exact dataL_byt HD.out.1 Q)
  have HXL : Hid (X.length = Q) := Lib.hid (by rw [← hX]; exact dataL_length D Q)
  rw [hX] at hn3
  obtain ⟨gx, cx, rfl, _, _⟩ := New.shape hn3 (by rw [HXL.out]; omega)
  have HBX := Lib.hid (New.bs hn3)
  have HP3 := Lib.hid (HP2.out.grown hn3.1)
  have HG3 := Lib.hid (Gr.trans HG2.out hn3.1)
  rw [HXL.out] at HBX ⊢
  clear hn3 hX HP2 HG2 c0 c1 c2
  have c0 := HP3.out.cell0
  have c1 := HP3.out.cell1
  have c2 := HP3.out.cell2
  go_wp2_with fail
  have hqc : Q ≤ cx := by
    obtain ⟨_, _, _, hf, hl, _⟩ := HBX.out
    simp at hf
    omega
  have HB1 : Hid (∀ W W' : World, Gr (W.alloc (.cells #[.int .u8 1] 5)) W' → Bs W' (.slice (some ⟨W.heap.size, 0, none⟩) 1 1) [1]) := Lib.hid fun _ _ hW => lit_one hW
  have HNA : Hid (∀ (v : Value) (l : List Int) (W : World), Bs W v l → l.length ≠ Q → l.length ≤ 1000 → Calls Try.prog 9 #[par K H S, .int .u32 (s : Int), v] W fun e w' => e = .returned (.tuple #[.pointer none, .int .i64 1]) ∧ Gr W w') := Lib.hid fun v l W hb hl hl2 => HE.out.newArg K H S s v l W HS.out hb (by omega) (fun h => hl (by have := h.2; rw [hQi] at this; omega))
  have hg0 : Gr w3 w3.drew := Gr.drew (Gr.refl _)
  have hg1 : Gr w3 (w3.drew.alloc (.cells #[.int .u8 1] 5)) := Gr.alloc hg0 _ _
  have G0 := Lib.hid hg0
  have G1 := Lib.hid hg1
  clear hg0 hg1
  go_cut [17] (fun e wx => e = .int .i64 1 ∧ Gr w3 wx)
  case first =>
    go_region_held3 (fun W => W.cell? ⟨gp, 0, none⟩ = some (.int .i64 (K : Int)) ∧ W.cell? ⟨gp, 1, none⟩ = some (.int .i64 (H : Int)) ∧ W.cell? ⟨gp, 2, none⟩ = some (.int .i64 (S : Int)))
      (first | exact ⟨k30, k31, k32⟩ | exact ⟨cell_grown G8.out c0, cell_grown G8.out c1, cell_grown G8.out c2⟩ | exact ⟨cell_grown G7.out c0, cell_grown G7.out c1, cell_grown G7.out c2⟩ | exact ⟨cell_grown (Gr.alloc G7.out _ _) c0, cell_grown (Gr.alloc G7.out _ _) c1, cell_grown (Gr.alloc G7.out _ _) c2⟩ | exact ⟨cell_grown G1.out c0, cell_grown G1.out c1, cell_grown G1.out c2⟩ | go_keep)
      (first
        | (go_at_call 9; refine (HNA.out _ (([] ++ X) ++ [1]) _ B8.out (by simp [HXL.out]) (by simp [HXL.out]; omega)).mono ?_; rintro e v3 ⟨rfl, hg3⟩; have k30 := cell_grown (Gr.trans G8.out hg3) c0; have k31 := cell_grown (Gr.trans G8.out hg3) c1; have k32 := cell_grown (Gr.trans G8.out hg3) c2; have V3 : Hid (Gr w3 v3) := Lib.hid (Gr.trans G8.out hg3))
        | (refine step_append_bytes rfl _ _ rfl w3.heap.size (.slice o7 Q d7) Q ([] ++ X) (by rfl) (by first | exact O7.out | exact O7.out.of_gr (Gr.alloc (Gr.refl _) _ _)) _ 1 1 [1] (by rfl) (by first | exact HB1.out _ _ (Gr.refl _) | exact HB1.out _ _ P7.out) (by omega) (by have := G7.out.size; simp; omega) ?_; intro v8 w8 hown8 hgrow8; have G8 : Hid (Gr w3 w8) := Lib.hid (by first | exact gr_by_own G7.out hgrow8 O7.out (Nat.le_refl _) | exact gr_by_own (Gr.alloc G7.out _ _) hgrow8 (O7.out.of_gr (Gr.alloc (Gr.refl _) _ _)) (Nat.le_refl _)); have B8 : Hid (Bs w8 v8 (([] ++ X) ++ [1])) := Lib.hid (New.bs (New.of_row (w := w3) G8.out (by intro z hz; simp at hz; rcases hz with hz | rfl; exact HXB.out z hz; unfold Byt; omega) (by simpa [HXL.out] using hown8))); obtain ⟨o8, d8, rfl⟩ := ownsRow_form'' hown8; clear hown8 hgrow8)
        | (refine step_append_bytes rfl _ _ rfl w3.heap.size (.slice none 0 0) 0 [] (by rfl) (World.ownsRow_nil _ _ _ _) (some ⟨gx, 0, none⟩) Q cx X (by rfl) (by first | exact Bs.grown HBX.out G0.out | exact Bs.grown HBX.out G1.out) (by omega) (by simp) ?_; intro v7 w7 hown7 hgrow7; rw [Nat.zero_add] at hown7; have G7 : Hid (Gr w3 w7) := Lib.hid (by first | exact gr_by_own G0.out hgrow7 (World.ownsRow_nil _ w3.heap.size 5 1) (Nat.le_refl _) | exact gr_by_own G1.out hgrow7 (World.ownsRow_nil _ w3.heap.size 5 1) (Nat.le_refl _)); have P7 := Lib.hid (gr_by_own (Gr.refl _) hgrow7 (World.ownsRow_nil _ _ 5 1) (Nat.le_refl _)); obtain ⟨o7, d7, rfl⟩ := ownsRow_form'' hown7; have O7 := Lib.hid hown7; clear hown7 hgrow7))
    all_goals (go_wp2_with fail; go_meet)
    all_goals exact ⟨rfl, V3.out⟩
  case rest =>
    obtain ⟨rfl, hgc⟩ := hcut
    have HPC := Lib.hid (HP3.out.grown hgc)
    have HGC := Lib.hid (Gr.trans HG3.out hgc)
    have HXC := Lib.hid (Bs.grown HBX.out hgc)
    clear hgc c0 c1 c2 HP3 HG3 HBX HB1 G0 G1
    have c0 := HPC.out.cell0
    have c1 := HPC.out.cell1
    have c2 := HPC.out.cell2
    obtain ⟨od1, hod⟩ : ∃ od : Addr, (if cx = 1 then some (⟨gx, 0, none⟩ : Addr) else some ⟨gx, 1, none⟩) = some od := ⟨if cx = 1 then ⟨gx, 0, none⟩ else ⟨gx, 1, none⟩, by split <;> rfl⟩
    have hpart := Bs.part HXC.out (lo := 1) (hi := Q) hQ1 (Nat.le_refl _)
    rw [show (⟨gx, 0, none⟩ : Addr).add 1 = ⟨gx, 1, none⟩ from rfl, hod] at hpart
    obtain ⟨z1, hz1⟩ : ∃ z, Q - 1 = z := ⟨_, rfl⟩
    obtain ⟨z2, hz2⟩ : ∃ z, cx - 1 = z := ⟨_, rfl⟩
    rw [hz1, hz2] at hpart
    have HPT := Lib.hid hpart
    have HPL : Hid (((X.drop 1).take z1).length = z1) := Lib.hid (by rw [List.length_take, List.length_drop, HXL.out]; omega)
    have b1 : (1 : Int) ≤ Q := by omega
    have b2 : (Q : Int) ≤ cx := by omega
    have b3 : (1 : Int) ≤ cx := by omega
    clear hpart
    go_wp2_with fail
    go_region_held3 (fun W => W.cell? ⟨gp, 0, none⟩ = some (.int .i64 (K : Int)) ∧ W.cell? ⟨gp, 1, none⟩ = some (.int .i64 (H : Int)) ∧ W.cell? ⟨gp, 2, none⟩ = some (.int .i64 (S : Int))) (first | exact ⟨k10, k11, k12⟩ | go_keep)
      (first
        | (go_at_call 9; refine (HNA.out _ ((X.drop 1).take z1) _ (by exact HPT.out) (by rw [HPL.out]; omega) (by rw [HPL.out]; omega)).mono ?_; rintro e v1 ⟨rfl, hg1⟩; have k10 := cell_grown hg1 (by exact c0); have k11 := cell_grown hg1 (by exact c1); have k12 := cell_grown hg1 (by exact c2); have V1 : Hid (Gr wc v1) := Lib.hid (by exact hg1)))
    have HP5 := Lib.hid (HPC.out.grown V1.out)
    have HG5 := Lib.hid (Gr.trans HGC.out V1.out)
    have HX5 := Lib.hid (Bs.grown HXC.out V1.out)
    clear c0 c1 c2 k10 k11 k12 HPC HGC HXC HPT V1 hod
    have c0 := HP5.out.cell0
    have c1 := HP5.out.cell1
    have c2 := HP5.out.cell2
    go_wp2_with fail
    refine (HE.out.newArg K H 0 s _ [] _ HS.out (Bs.nil _) (by simp) (fun h => by have := h.1; unfold MayP at this; omega)).mono ?_
    rintro e w6 ⟨rfl, hg6⟩
    have HP6 := Lib.hid (HP5.out.grown hg6)
    have HG6 := Lib.hid (Gr.trans HG5.out hg6)
    have HX6 := Lib.hid (Bs.grown HX5.out hg6)
    clear hg6 c0 c1 c2 HP5 HG5 HX5
    go_wp2_with fail
    refine (HE.out.symbolNil id _ HID.out).mono ?_
    rintro e w7 ⟨v7, rfl, hn7⟩
    obtain ⟨o7, d7, rfl⟩ := New.empty hn7
    have HP7 := Lib.hid (HP6.out.grown hn7.1)
    have HG7 := Lib.hid (Gr.trans HG6.out hn7.1)
    have HX7 := Lib.hid (Bs.grown HX6.out hn7.1)
    clear hn7 HP6 HG6 HX6
    go_wp2_with fail
    refine (HE.out.midNil _).mono ?_
    rintro e w8 ⟨v8, rfl, hr8, hg8⟩
    obtain ⟨o8, d8, hf8, _⟩ := hr8.bss
    rw [List.length_nil] at hf8
    subst hf8
    have HP8 := Lib.hid (HP7.out.grown hg8)
    have HG8 := Lib.hid (Gr.trans HG7.out hg8)
    have HX8 := Lib.hid (Bs.grown HX7.out hg8)
    clear hr8 hg8 HP7 HG7 HX7
    have c0 := HP8.out.cell0
    have c1 := HP8.out.cell1
    have c2 := HP8.out.cell2
    go_wp2_with fail
    by_cases hr : RightP K H S s
    · refine (HE.out.new K H S s _ X _ HS.out HX8.out HM.out (by rw [HXL.out, HQ.out]) hr).mono ?_
      rintro e w9 ⟨y, F, M, rfl, hmid, hat, hg9, _⟩
      obtain ⟨ay, rfl⟩ := HE.out.ptr hat
      have HMI := Lib.hid hmid
      have HAT := Lib.hid hat
      have HP9 := Lib.hid (HP8.out.grown hg9)
      have HG9 := Lib.hid (Gr.trans HG8.out hg9)
      have HX9 := Lib.hid (Bs.grown HX8.out hg9)
      clear hmid hat hg9 HP8 HG8 HX8 c0 c1 c2
      go_wp2_with fail
      obtain ⟨N, hN⟩ : ∃ N, K + H = N := ⟨_, rfl⟩
      have hN20 : N ≤ 20 := by omega
      have hN1 : 1 ≤ N := by omega
      have HML : Hid (M.length = N) := Lib.hid (by rw [HMI.out.len, hN])
      clear hN
      refine (HE.out.mid _ F K H S s M _ HM.out HS.out HAT.out HMI.out.wide HMI.out.len).mono ?_
      rintro e wa ⟨va, rfl, hra, hga⟩
      have hba := hra.bss
      obtain ⟨oa, ma, ca, rfl⟩ := hba.form3
      have HBA := Lib.hid hba
      have HA1 := Lib.hid (HE.out.grown HAT.out hga)
      have HP1 := Lib.hid (HP9.out.grown hga)
      have HG1 := Lib.hid (Gr.trans HG9.out hga)
      have HX1 := Lib.hid (Bs.grown HX9.out hga)
      clear hra hga hba HAT HP9 HG9 HX9
      go_wp2_with fail
      refine (copies_any _ M _ HBA.out (by rw [HML.out]; omega) (fun i hi => by rw [(HMI.out.wide.at i hi).1]; omega)).mono ?_
      rintro e wb ⟨vb, rfl, hrb, hgb⟩
      have hbb := hrb.bss
      obtain ⟨ob, mb, cb, rfl⟩ := hbb.form3
      have HBB := Lib.hid hbb
      have HA2 := Lib.hid (HE.out.grown HA1.out hgb)
      have HP2 := Lib.hid (HP1.out.grown hgb)
      have HG2 := Lib.hid (Gr.trans HG1.out hgb)
      have HX2 := Lib.hid (Bs.grown HX1.out hgb)
      clear hrb hgb hbb HA1 HP1 HG1 HX1 HBA
      have HI0 : Hid (I64 (0 : Int)) := Lib.hid ⟨by omega, by omega⟩
      have HI7 : Hid (I64 (7 : Int)) := Lib.hid ⟨by omega, by omega⟩
      have hm0 : MayI 0 := by unfold MayI; omega
      have hm7 : MayI 7 := by unfold MayI; omega
      have HS0 := Lib.hid (sym_is (seed := s) HM.out HMI.out.wide HMI.out.len hm0).1
      have HS7 := Lib.hid (sym_is (seed := s) HM.out HMI.out.wide HMI.out.len hm7).1
      clear hm0 hm7
      go_wp2_with fail
      refine (HE.out.mid _ F K H S s M _ HM.out HS.out HA2.out HMI.out.wide HMI.out.len).mono ?_
      rintro e wd1 ⟨vc, rfl, hrc, hgc⟩
      obtain ⟨us, hoc, hrows⟩ := hrc
      rw [HML.out] at hoc hrows
      obtain ⟨oc, cc, rfl⟩ := ownsRow_form'' hoc
      have HRC : Hid (∀ i, i < N → RowS wb.heap.size wd1 S (us.getD i undef)) := Lib.hid fun i hi => ⟨⟨_, (HMI.out.wide.at i (by rw [HML.out]; exact hi)).1, (hrows i hi).1⟩, (hrows i hi).2⟩
      have HOC := Lib.hid hoc
      have HGC1 := Lib.hid hgc
      have HA3 := Lib.hid (HE.out.grown HA2.out hgc)
      clear hoc hrows hgc
      go_wp2_with fail
      refine (HE.out.symbol _ F K H S s M 0 _ HM.out HS.out HA3.out HMI.out.wide HMI.out.len HI0.out).mono ?_
      rintro e wd2 ⟨vs0, rfl, hn0⟩
      obtain ⟨os0, ms0, cs0, rfl⟩ := Bs.form4 (New.bs hn0)
      have HR0 : Hid (RowS wb.heap.size wd2 S (.slice os0 ms0 cs0)) := Lib.hid ⟨⟨_, HS0.out, New.bs hn0⟩, hn0.rnb HGC1.out.size⟩
      have HGC2 := Lib.hid (Gr.trans HGC1.out hn0.1)
      have HN0 := Lib.hid hn0.1
      have HA4 := Lib.hid (HE.out.grown HA3.out hn0.1)
      clear hn0 HA3
      go_wp2_with fail
      refine (HE.out.symbol _ F K H S s M 7 _ HM.out HS.out HA4.out HMI.out.wide HMI.out.len HI7.out).mono ?_
      rintro e wd3 ⟨vs7, rfl, hn7⟩
      obtain ⟨os7, ms7, cs7, rfl⟩ := Bs.form4 (New.bs hn7)
      have HR7 : Hid (RowS wb.heap.size wd3 S (.slice os7 ms7 cs7)) := Lib.hid ⟨⟨_, HS7.out, New.bs hn7⟩, hn7.rnb HGC2.out.size⟩
      have HGC3 := Lib.hid (Gr.trans HGC2.out hn7.1)
      have HN7 := Lib.hid hn7.1
      clear hn7 HA4
      obtain ⟨i0, hi0, hz0, hz1, hz2⟩ := info_parts info22
      have I0 := Lib.hid hi0
      have I1 := Lib.hid hz0
      have I2 := Lib.hid hz1
      have I3 := Lib.hid hz2
      clear hi0 hz0 hz1 hz2
      have hlit : Gr wd3 (wd3.alloc (.cells #[.slice os0 ms0 cs0, .slice os7 ms7 cs7] 23)) := Gr.alloc (Gr.refl _) _ _
      have HLIT := Lib.hid hlit
      clear hlit
      have HOC3 := Lib.hid ((HOC.out.of_gr (Gr.trans HN0.out HN7.out)).of_gr HLIT.out)
      go_wp2_with (at_builtin; refine wpList_append_lies _ rfl _ _ _ rfl wb.heap.size 23 i0 _ 1 24 Try.underlying36 I0.out I1.out I2.out I3.out rfl (by omega) (.slice oc N cc) N us rfl HOC3.out ⟨wd3.heap.size, 0, none⟩ 2 2 [.slice os0 ms0 cs0, .slice os7 ms7 cs7] rfl rfl (World.news_of_block (cs := #[.slice os0 ms0 cs0, .slice os7 ms7 cs7]) (t := 23) (fr := (0, 0)) (heap_alloc_new wd3 _)) (by simp [Value.oneCell']) (by omega) (by unfold maxLen; omega) (by omega) (by have := HGC3.out.size; simp; omega) (wd3.heap.size + 1) (by simp) ?_; intro gg cap w5 hown hgrow _ _; have O5 := Lib.hid hown; have G5 := Lib.hid hgrow; clear hown hgrow)
      have HZ : Hid (Zeroing wb w5 (us ++ [.slice os0 ms0 cs0, .slice os7 ms7 cs7]) gg (N + 2) S) := Lib.hid (by
        obtain ⟨g', c', he, _, _, _, _, hcell⟩ := ownsRow_cell O5.out (by omega)
        obtain ⟨rfl, _⟩ : gg = g' ∧ cap = c' := by simpa using he
        refine ⟨own_two HOC3.out (fun i hi => ((HRC.out i hi).grown (Gr.trans HN0.out HN7.out)).grown HLIT.out) ((HR0.out.grown HN7.out).grown HLIT.out) (HR7.out.grown HLIT.out) G5.out, hcell, ?_, gr_by_own (Gr.trans HGC3.out HLIT.out) G5.out HOC3.out (Nat.le_refl _)⟩
        obtain ⟨_, ⟨he2, _⟩ | ⟨g2, c2', cur, he2, _, h1, _⟩⟩ := O5.out
        · cases he2
        · cases he2
          exact ⟨cur, h1⟩)
      clear O5 G5 HOC3 HLIT HOC HRC HR0 HR7 HN0 HN7 HGC1 HGC2 HGC3 I0 I1 I2 I3
      obtain ⟨uz, huz⟩ : ∃ uz, us ++ [.slice os0 ms0 cs0, .slice os7 ms7 cs7] = uz := ⟨_, rfl⟩
      rw [huz] at HZ
      clear huz
      obtain ⟨n2, hn2⟩ : ∃ n, N + 2 = n := ⟨_, rfl⟩
      have hn2' : (N : Int) + 2 = (n2 : Int) := by omega
      rw [hn2] at HZ
      go_loopw [126] (fun iv W => ∃ t : Nat, t ≤ n2 ∧ iv = .int .i64 t ∧ Zeroing wb W uz gg n2 S) (fun iv _ => n2 - (intOf iv).toNat)
      case atStart => exact ⟨0, by omega, rfl, HZ.out⟩
      case round =>
        clear HZ
        obtain ⟨wo, hwo⟩ : ∃ x, x = wr := ⟨_, rfl⟩
        subst hwo
        obtain ⟨t, ht, rfl, hz⟩ := hrel
        have HZ := Lib.hid hz
        by_cases hlt : t < n2
        · have hct := hz.cell t hlt
          obtain ⟨⟨lt, hlt1, hlt2⟩, _⟩ := hz.own t hlt
          obtain ⟨ot, ct, hf⟩ := hlt2.form
          rw [hf, hlt1] at hct
          have hlt3 : (t : Int) < (N : Int) + 2 := by omega
          have hlt1' := hlt1
          rw [hlt1] at hf
          have HF := Lib.hid hf
          clear hz hlt1 hlt2 hf hlt1'
          go_wp2_with fail
          clear hct
          go_loopw [132] (fun iv W => ∃ j : Nat, j ≤ S ∧ iv = .int .i64 j ∧ Zeroing wb W uz gg n2 S) (fun iv _ => S - (intOf iv).toNat)
          case atStart => exact ⟨0, by omega, rfl, HZ.out⟩
          case round =>
            clear HZ
            obtain ⟨wi, hwi⟩ : ∃ x, x = wr := ⟨_, rfl⟩
            subst hwi
            obtain ⟨j, hj, rfl, hz⟩ := hrel
            have HZ := Lib.hid hz
            by_cases hlj : j < S
            · obtain ⟨ad, cc2, zz, e1, e2, e3, hzb, e4, hpk⟩ := hz.atZ hlt hlj
              rw [HF.out] at e1
              injection e1 with f1 _ f3
              subst f1 f3
              have HPK := Lib.hid hpk
              have hj3 : (j : Int) < S := by omega
              clear hz hpk hzb HF
              go_wp2_with fail
              exact ⟨⟨j + 1, by omega, by go_num, HPK.out _ (byt_wrap _)⟩, by simp [intOf]; omega⟩
            · obtain rfl : j = S := by omega
              clear hz
              go_wp2_with fail
              exact ⟨⟨t + 1, by omega, by go_num, HZ.out⟩, by simp [intOf]; omega⟩
        · obtain rfl : t = n2 := by omega
          have HG5 := Lib.hid hz.gr
          have HAZ := Lib.hid (HE.out.grown HA2.out hz.gr)
          have HBZ := Lib.hid (HBB.out.grown hz.gr)
          have HPZ := Lib.hid (HP2.out.grown hz.gr)
          have HXZ := Lib.hid (Bs.grown HX2.out hz.gr)
          have HGZ := Lib.hid (Gr.trans HG2.out hz.gr)
          have hSQ : S ≤ Q := by rw [← HQ.out]; exact Nat.le_mul_of_pos_left S (by omega)
          have hhd := Bs.takeN HXZ.out S hSQ
          have hsym : symP K H S s M 0 = X.take S := by
            have := HMI.out.first HM.out (by rw [HXL.out, HQ.out]) HXB.out (i := 0) (by omega)
            rw [show ((0 : Nat) : Int) = 0 from rfl] at this
            rw [this]
            unfold srcL
            rw [Nat.zero_mul, List.drop_zero]
          rw [← hsym] at hhd
          have HHD := Lib.hid hhd
          obtain ⟨Y, hY⟩ : ∃ Y, symP K H S s M 0 = Y := ⟨_, rfl⟩
          rw [hY] at HHD
          have HY := Lib.hid hY
          have b1' : (S : Int) ≤ Q := by omega
          have b2' : (S : Int) ≤ cx := by omega
          have c0 := HPZ.out.cell0
          have c1 := HPZ.out.cell1
          have c2 := HPZ.out.cell2
          have hlt3 : ¬ (t : Int) < (N : Int) + 2 := by omega
          clear hz HZ hhd hsym hY
          go_wp2_with fail
          go_region_held3 (fun W => W.cell? ⟨gp, 0, none⟩ = some (.int .i64 (K : Int)) ∧ W.cell? ⟨gp, 1, none⟩ = some (.int .i64 (H : Int)) ∧ W.cell? ⟨gp, 2, none⟩ = some (.int .i64 (S : Int))) (first | exact ⟨k50, k51, k52⟩ | exact ⟨k40, k41, k42⟩ | exact ⟨k30, k31, k32⟩ | exact ⟨k20, k21, k22⟩ | exact ⟨k10, k11, k12⟩ | go_keep)
            (first
              | (go_at_call 11; refine (encWakes_any HE.out _).mono ?_; rintro e v5 ⟨rfl, hg5⟩; have k50 := cell_grown hg5 (by exact k40); have k51 := cell_grown hg5 (by exact k41); have k52 := cell_grown hg5 (by exact k42); have V5 : Hid (Gr v4 v5) := Lib.hid hg5)
              | (go_at_call 13; refine (same_any _ _ Y Y _ B3.out (by exact Bs.grown HHD.out (Gr.trans V1.out (Gr.trans V2.out V3.out)))).mono ?_; rw [beq_self_eq_true]; rintro e v4 ⟨rfl, hg4⟩; have k40 := cell_grown hg4 (by exact k30); have k41 := cell_grown hg4 (by exact k31); have k42 := cell_grown hg4 (by exact k32); have V4 : Hid (Gr v3 v4) := Lib.hid hg4)
              | (go_at_call 14; refine (HE.out.symbol _ F K H S s M 0 _ HM.out HS.out (HE.out.grown HAZ.out (Gr.trans V1.out V2.out)) HMI.out.wide HMI.out.len HI0.out).mono ?_; rw [HY.out]; rintro e v3 ⟨y3, rfl, hn3⟩; have hg3 := hn3.1; have k30 := cell_grown hg3 (by exact k20); have k31 := cell_grown hg3 (by exact k21); have k32 := cell_grown hg3 (by exact k22); obtain ⟨o3, m3, d3, rfl⟩ := Bs.form4 (New.bs hn3); have B3 := Lib.hid (New.bs hn3); have V3 : Hid (Gr v2 v3) := Lib.hid hg3; clear hn3)
              | (go_at_call 21; refine (rows_any _ _ M M _ B1.out (by exact HBZ.out.grown V1.out)).mono ?_; rw [beq_self_eq_true]; rintro e v2 ⟨rfl, hg2⟩; have k20 := cell_grown hg2 (by exact k10); have k21 := cell_grown hg2 (by exact k11); have k22 := cell_grown hg2 (by exact k12); have V2 : Hid (Gr v1 v2) := Lib.hid hg2)
              | (go_at_call 12; refine (HE.out.mid _ F K H S s M _ HM.out HS.out (HE.out.grown HAZ.out (Gr.drew (Gr.refl _))) HMI.out.wide HMI.out.len).mono ?_; rintro e v1 ⟨y1, rfl, hr1, hg1⟩; have k10 := cell_grown hg1 (by exact c0); have k11 := cell_grown hg1 (by exact c1); have k12 := cell_grown hg1 (by exact c2); obtain ⟨o1, m1, d1, rfl⟩ := hr1.bss.form3; have B1 := Lib.hid hr1.bss; have V1 : Hid (Gr wo v1) := Lib.hid (by exact hg1); clear hr1))
          all_goals
            have HGY := Lib.hid (Gr.trans HGZ.out (Gr.trans V1.out (Gr.trans V2.out (Gr.trans V3.out (Gr.trans V4.out V5.out)))))
            go_wp2_with fail
            go_ret
            exact ⟨rfl, HGY.out⟩
    · refine (HE.out.newSeed K H S s _ X _ HS.out HX8.out HM.out (by rw [HXL.out, HQ.out]) hr).mono ?_
      rintro e w9 ⟨rfl, hg9⟩
      have HP9 := Lib.hid (HP8.out.grown hg9)
      have HG9 := Lib.hid (Gr.trans HG8.out hg9)
      have HRF := Lib.hid (decide_eq_false hr)
      clear hg9 hr HP8 HG8 c0 c1 c2
      have c0 := HP9.out.cell0
      have c1 := HP9.out.cell1
      have c2 := HP9.out.cell2
      go_wp2_with fail
      refine (HO.out.right K H S s _ HS.out).mono ?_
      rw [HRF.out]
      rintro e wa ⟨rfl, hga⟩
      have HGA := Lib.hid (Gr.trans HG9.out hga)
      clear hga c0 c1 c2
      go_wp2_with fail
      refine (encWakes_any HE.out _).mono ?_
      rintro e wb ⟨rfl, hgb⟩
      have HGB := Lib.hid (Gr.trans HGA.out hgb)
      clear hgb
      go_wp2_with fail
      go_ret
      exact ⟨rfl, HGB.out⟩
end Go.Proofs.Ytbabecjphmmngaa
