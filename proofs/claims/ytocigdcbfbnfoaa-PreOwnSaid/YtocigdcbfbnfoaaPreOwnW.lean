/-
  Law PreOwn, walked: the rows ahead are new memory each time.
-/
import Derived.Test.YtocigdcbfbnfoaaPy
namespace Go.Proofs.Ytocigdcbfbnfoaa
open Go.RowKit

/-- A byte is written: rows read otherwise, but for their lengths. -/
theorem Bs.poke {w : World} {u : Value} {l : List Int} (h : Bs w u l) {x : Addr} {y : Value} (hx : w.cell? x = some y) (z : Int) (hz : Byt z) : ∃ l', l'.length = l.length ∧ Bs (w.setCell x (.int .u8 z)) u l' := by
  obtain ⟨hb, oa, c, rfl, h2, h3, h4, h5⟩ := h
  by_cases h0 : 0 < l.length
  · obtain ⟨a, rfl⟩ : ∃ a, oa = some a := by
      cases oa with
      | some a => exact ⟨a, rfl⟩
      | none => exact absurd (h4 rfl) (by omega)
    refine ⟨lst l.length (fun i => if a.add i = x then z else l.getD i 0), lst_length _ _, lst_byt fun i _ => ?_, some a, c, by rw [lst_length], by rw [lst_length]; exact h2, h3, h4, fun a' ha i hi => ?_⟩
    · show Byt (if a.add i = x then z else l.getD i 0)
      split
      · exact hz
      · exact getD_byt hb i
    · cases ha
      rw [lst_length] at hi
      rw [lst_getD _ _ _ hi]
      by_cases e : a.add i = x
      · rw [if_pos e, e]
        exact World.cell?_setCell_same _ _ _ hx
      · rw [if_neg e, World.cell?_setCell_other _ _ _ _ (fun c => e c.symm)]
        exact h5 a rfl i hi
  · obtain rfl : l = [] := List.eq_nil_of_length_eq_zero (by omega)
    exact ⟨[], rfl, by simp, oa, c, rfl, h2, h3, h4, fun a _ i hi => by simp at hi⟩
/-- n rows of N bytes each, in memory of bytes from base on. -/
def OwnN (base : Nat) (w : World) (us : List Value) (n N : Nat) : Prop := ∀ i, i < n → (∃ l, l.length = N ∧ Bs w (us.getD i undef) l) ∧ Rn base w (us.getD i undef)
theorem OwnN.poke {base n N : Nat} {w : World} {us : List Value} (h : OwnN base w us n N) {x : Addr} {y : Value} {cur : Array Value} (hx : w.cell? x = some y) (hc : w.heap[x.block]? = some (.cells cur 5 (0, 0))) : OwnN base (w.setCell x (.int .u8 0)) us n N := fun i hi => by
  obtain ⟨⟨l, h1, h2⟩, h3⟩ := h i hi
  obtain ⟨l', h4, h5⟩ := h2.poke hx 0 (by unfold Byt; omega)
  refine ⟨⟨l', by rw [h4, h1], h5⟩, fun a m c e hm => ?_⟩
  obtain ⟨h6, cur', h7⟩ := h3 a m c e hm
  refine ⟨h6, ?_⟩
  by_cases e2 : a.block = x.block
  · rw [e2]
    simp only [World.setCell, Array.getElem?_modify, if_true, hc]
    exact ⟨_, rfl⟩
  · exact ⟨cur', by rw [heap_setCell_other _ _ _ _ e2]; exact h7⟩
/-- Rows of one's own, made since W, are overwritten. -/
structure Zeroing (W wr : World) (us : List Value) (g H N : Nat) : Prop where
  own : OwnN W.heap.size wr us H N
  cell : ∀ i, i < H → wr.cell? ⟨g, i, none⟩ = some (us.getD i undef)
  row : ∃ cur, wr.heap[g]? = some (.cells cur 33 (0, 0))
  gr : Gr W wr
theorem Zeroing.at {W wr : World} {us : List Value} {g H N : Nat} (h : Zeroing W wr us g H N) {i j : Nat} (hi : i < H) (hj : j < N) : ∃ a c v cur, us.getD i undef = .slice (some a) N c ∧ N ≤ c ∧ wr.cell? (a.add j) = some v ∧ wr.frozen? (a.add j) = false ∧ wr.heap[(a.add j).block]? = some (.cells cur 5 (0, 0)) ∧ W.heap.size ≤ (a.add j).block := by
  obtain ⟨⟨l, hl, hb⟩, hr⟩ := h.own i hi
  obtain ⟨a, c, h1, h2, h3, h4⟩ := Bs.at hb (by omega)
  rw [hl] at h1 h2 h4
  obtain ⟨h5, cur, h6⟩ := hr a N c h1 (by omega)
  have hab : (a.add j).block = a.block := by
    unfold Addr.add
    split <;> rfl
  refine ⟨a, c, _, cur, h1, h2, h4 j hj, ?_, by rw [hab]; exact h6, by rw [hab]; exact h5⟩
  unfold World.frozen?
  rw [hab, h6]
  simp
theorem Zeroing.poke {W wr : World} {us : List Value} {g H N : Nat} (h : Zeroing W wr us g H N) {x : Addr} {v : Value} {cur : Array Value} (hx : wr.cell? x = some v) (hc : wr.heap[x.block]? = some (.cells cur 5 (0, 0))) (hb : W.heap.size ≤ x.block) : Zeroing W (wr.setCell x (.int .u8 0)) us g H N := by
  obtain ⟨cur', h1⟩ := h.row
  have hne : g ≠ x.block := fun e => by
    rw [e, hc] at h1
    simp at h1
  refine ⟨h.own.poke hx hc, fun i hi => ?_, ⟨cur', by rw [heap_setCell_other _ _ _ _ hne]; exact h1⟩, Gr.setCell h.gr hb _⟩
  rw [World.cell?_setCell_other _ _ _ _ (fun e => hne (by rw [e]))]
  exact h.cell i hi
set_option maxRecDepth 100000 in
set_option maxHeartbeats 3200000 in
theorem preOwn_walk (O : PreOk) (a b c : Int) (w : World) :
    Calls Try.prog 6 #[.int .i64 a, .int .i64 b, .int .i64 c] w fun e w' => e = .returned (.bool true) ∧ Gr w w' := by
  have HO := Lib.hid O
  clear O
  obtain ⟨x, hx, hx2⟩ : ∃ x : Nat, a % 16 = x ∧ x < 16 := ⟨(a % 16).toNat, by omega, by omega⟩
  obtain ⟨y, hy, hy2⟩ : ∃ x : Nat, b % 4 = x ∧ x < 4 := ⟨(b % 4).toNat, by omega, by omega⟩
  obtain ⟨z, hz, hz2⟩ : ∃ x : Nat, c % 24 = x ∧ x < 24 := ⟨(c % 24).toNat, by omega, by omega⟩
  obtain ⟨K, hK, K1, K2⟩ : ∃ K : Nat, (1 : Int) + x = K ∧ 1 ≤ K ∧ K ≤ 16 := ⟨1 + x, by omega, by omega, by omega⟩
  obtain ⟨H, hH, H1, H2⟩ : ∃ K : Nat, (1 : Int) + y = K ∧ 1 ≤ K ∧ K ≤ 4 := ⟨1 + y, by omega, by omega, by omega⟩
  obtain ⟨S, hS, S1, S2⟩ : ∃ K : Nat, (1 : Int) + z = K ∧ 1 ≤ K ∧ K ≤ 24 := ⟨1 + z, by omega, by omega, by omega⟩
  have HM : Hid (MayP (K : Int) (H : Int) (S : Int)) := Lib.hid (by unfold MayP; omega)
  have HPA : Hid (par (1 + a % 16) (1 + b % 4) (1 + c % 24) = par K H S) := Lib.hid (by rw [hx, hy, hz, hK, hH, hS])
  have HAH : Hid (aheadP (K : Int) (H : Int) (S : Int) = ahead K H) := Lib.hid (aheadP_in HM.out)
  clear hx hy hz hK hH hS
  go_enter Try.func6, Try.ntmps6
  go_wp2_with fail
  refine (params_any a b c _).mono ?_
  rw [HPA.out]
  rintro e w1 ⟨rfl, hg1⟩
  have HP1 : Hid (Par (w1.alloc (.cells #[.int .i64 (K : Int), .int .i64 (H : Int), .int .i64 (S : Int)] 23)) w1.heap.size K H S) := Lib.hid (heap_alloc_new _ _)
  have HG1 : Hid (Gr w (w1.alloc (.cells #[.int .i64 (K : Int), .int .i64 (H : Int), .int .i64 (S : Int)] 23))) := Lib.hid (Gr.alloc hg1 _ _)
  clear hg1
  go_wp2_with fail
  generalize w1.alloc (.cells #[.int .i64 (K : Int), .int .i64 (H : Int), .int .i64 (S : Int)] 23) = W2 at *
  generalize w1.heap.size = gp at *
  refine (HO.out.rows K H S _).mono ?_
  rw [HAH.out]
  rintro e w3 ⟨v, rfl, hr, hg3⟩
  obtain ⟨us, ho, hr⟩ := hr
  rw [ahead_length] at ho hr
  obtain ⟨g, c0, rfl, q1, q2, q3, q4, q5⟩ := ownsRow_cell ho (by omega)
  have HP3 := Lib.hid (HP1.out.grown hg3)
  have hcp := HP3.out.cell1
  have HG3 := Lib.hid (Gr.trans HG1.out hg3)
  obtain ⟨N, hN⟩ : ∃ N, K + H = N := ⟨_, rfl⟩
  have hN20 : N ≤ 20 := by omega
  have HOW : Hid (OwnN W2.heap.size w3 us H N) := Lib.hid (fun i hi => ⟨⟨_, by rw [ahead_getD hi, aheadRow_length, hN], (hr i hi).1⟩, (hr i hi).2⟩)
  have HQ5 := Lib.hid q5
  have HGT : Hid (∃ cur, w3.heap[g]? = some (.cells cur 33 (0, 0))) := Lib.hid (by
    obtain ⟨_, ⟨he, _⟩ | ⟨g', c', cur, he, _, h1, _⟩⟩ := ho
    · cases he
    · cases he
      exact ⟨cur, h1⟩)
  have HG23 : Hid (Gr W2 w3) := Lib.hid hg3
  have HZ : Hid (Zeroing W2 w3 us g H N) := Lib.hid ⟨HOW.out, HQ5.out, HGT.out, HG23.out⟩
  clear ho hr hg3 q5 hN HOW HQ5 HGT HG23
  go_wp2_with fail
  clear hcp HP3 HG3
  go_loopw [24] (fun i wr => ∃ t : Nat, t ≤ H ∧ i = .int .i64 t ∧ Zeroing W2 wr us g H N) (fun i _ => H - (intOf i).toNat)
  case atStart => exact ⟨0, by omega, rfl, HZ.out⟩
  case round =>
    clear HZ
    obtain ⟨wo, hwo⟩ : ∃ x, x = wr := ⟨_, rfl⟩
    subst hwo
    obtain ⟨t, ht, rfl, hz⟩ := hrel
    have HZ := Lib.hid hz
    by_cases hlt : t < H
    · have hct := hz.cell t hlt
      obtain ⟨⟨lt, hlt1, hlt2⟩, _⟩ := hz.own t hlt
      obtain ⟨ot, ct, hf⟩ := hlt2.form
      rw [hf, hlt1] at hct
      have HF := Lib.hid hf
      clear hz hlt1 hlt2 hf
      go_wp2_with fail
      clear hct
      go_loopw [32] (fun i wr => ∃ j : Nat, j ≤ N ∧ i = .int .i64 j ∧ Zeroing W2 wr us g H N) (fun i _ => N - (intOf i).toNat)
      case atStart => exact ⟨0, by omega, rfl, HZ.out⟩
      case round =>
        clear HZ
        obtain ⟨wi, hwi⟩ : ∃ x, x = wr := ⟨_, rfl⟩
        subst hwi
        obtain ⟨j, hj, rfl, hz⟩ := hrel
        have HZ := Lib.hid hz
        by_cases hlj : j < N
        · have hct := hz.cell t hlt
          obtain ⟨ad, cc, vv, cur, e1, e2, e3, e4, e5, e6⟩ := hz.at hlt hlj
          rw [e1] at hct
          have HZ2 := Lib.hid (hz.poke e3 e5 e6)
          clear hz e5 e6 e1
          go_wp2_with fail
          exact ⟨⟨j + 1, by omega, by go_num, HZ2.out⟩, by simp [intOf]; omega⟩
        · obtain rfl : j = N := by omega
          clear hz
          go_wp2_with fail
          exact ⟨⟨t + 1, by omega, by go_num, HZ.out⟩, by simp [intOf]; omega⟩
    · obtain rfl : t = H := by omega
      have HP4 := Lib.hid (HP1.out.grown hz.gr)
      have HG4 := Lib.hid (Gr.trans HG1.out hz.gr)
      have c0 := HP4.out.cell0
      have c1 := HP4.out.cell1
      have c2 := HP4.out.cell2
      clear hz HZ
      go_wp2_with fail
      go_region_held3 (fun W => W.cell? ⟨gp, 0, none⟩ = some (.int .i64 (K : Int)) ∧ W.cell? ⟨gp, 1, none⟩ = some (.int .i64 (t : Int)) ∧ W.cell? ⟨gp, 2, none⟩ = some (.int .i64 (S : Int))) (first | exact ⟨k40, k41, k42⟩ | exact ⟨k30, k31, k32⟩ | exact ⟨k20, k21, k22⟩ | exact ⟨k10, k11, k12⟩ | go_keep)
        (first
          | (go_at_call 15; refine (preWakes_any HO.out _).mono ?_; rintro e v4 ⟨rfl, hg4⟩; have k40 := cell_grown hg4 (by exact k30); have k41 := cell_grown hg4 (by exact k31); have k42 := cell_grown hg4 (by exact k32); have V4 : Hid (Gr v3 v4) := Lib.hid hg4)
          | (go_at_call 12; refine (rows_any _ _ (ahead K t) (ahead K t) _ (Bss.grown B5.out V2.out) B6.out).mono ?_; rw [beq_self_eq_true]; rintro e v3 ⟨rfl, hg3⟩; have k30 := cell_grown hg3 (by exact k20); have k31 := cell_grown hg3 (by exact k21); have k32 := cell_grown hg3 (by exact k22); have V3 : Hid (Gr v2 v3) := Lib.hid hg3)
          | (go_at_call 14; refine (refAhead_any K t S _).mono ?_; rw [HAH.out]; rintro e v2 ⟨x6, rfl, hr6, hg2⟩; have k20 := cell_grown hg2 (by exact k10); have k21 := cell_grown hg2 (by exact k11); have k22 := cell_grown hg2 (by exact k12); obtain ⟨o6, m6, c6, rfl⟩ := hr6.form3; have V2 : Hid (Gr v1 v2) := Lib.hid hg2; have B6 := Lib.hid hr6; clear hr6)
          | (go_at_call 13; refine (HO.out.rows K t S _).mono ?_; rw [HAH.out]; rintro e v1 ⟨x5, rfl, hr5, hg1⟩; have k10 := cell_grown hg1 (by exact c0); have k11 := cell_grown hg1 (by exact c1); have k12 := cell_grown hg1 (by exact c2); obtain ⟨o5, m5, c5, rfl⟩ := hr5.bss.form3; have V1 : Hid (Gr wo v1) := Lib.hid (by exact hg1); have B5 := Lib.hid hr5.bss; clear hr5))
      all_goals
        have hgz := Lib.hid (Gr.trans HG4.out (Gr.trans V1.out (Gr.trans V2.out (Gr.trans V3.out V4.out))))
        go_wp2_with fail
        go_ret
        exact ⟨rfl, hgz.out⟩
end Go.Proofs.Ytocigdcbfbnfoaa
