/-
  Texts laid behind one another: Rd Ra Yc Yb Hd Yd LtTellsW Pc.
-/
import Derived.Test.YtedobcajbelcpaaMgf
import Derived.BigRegion
import Derived.Deep.RegionLaw
import Derived.Laws.AppendOwnNone
import Derived.Deep.DeepCutAuto
import Derived.Test.YtedobcajbelcpaaMgg
import Derived.Test.YtedobcajbelcpaaMgb
import Derived.Test.YtedobcajbelcpaaProg
import Derived.Deep.RegionHeld3
namespace Go.Proofs.Ytedobcajbelcpaa
open Go.RowKit

theorem info5' : (Try.prog.info? 5).map (fun i => (i.zero, i.size, i.bytes)) = some (some (.int .u8 0), 1, 1) := by kernel_rfl
end Go.Proofs.Ytedobcajbelcpaa
namespace Go.Proofs.Ytedobcajbelcpaa
open Go.RowKit

end Go.Proofs.Ytedobcajbelcpaa
namespace Go.Proofs.Ytedobcajbelcpaa
open Go.RowKit

end Go.Proofs.Ytedobcajbelcpaa
namespace Go.Proofs.Ytedobcajbelcpaa
open Go.RowKit

set_option maxRecDepth 100000 in
set_option maxHeartbeats 1600000 in
theorem ids_any (v : Value) (l : List Int) (m : Nat) (w : World) (hz : Zs w v l) (hl : m ≤ 900) :
    Calls Try.prog 8 #[v, .int .i64 m] w fun e w' => ∃ u, e = .returned u ∧ w'.ownsRow w.heap.size 3 1 u (idsL l m).length ((idsL l m).map (Value.int .i64)) ∧ Gr w w' := by
  obtain ⟨n, hn⟩ : ∃ n, l.length = n := ⟨_, rfl⟩
  obtain ⟨hzi, oa, ca, rfl, z2, z3, z4, z5⟩ := hz
  rw [hn] at z2 z5 ⊢
  have HI := Lib.hid hzi
  have HC := Lib.hid z5
  have HN := Lib.hid hn
  have hoa : n = 0 ∨ ∃ a, oa = some a := by
    cases oa with
    | none => exact .inl (by have := z4 rfl; omega)
    | some a => exact .inr ⟨a, rfl⟩
  clear hzi z5 hn z4 z2 z3
  go_enter Try.func8, Try.ntmps8
  go_wp2
  go_loopw [5, 6] (fun lv iv W => ∃ i : Nat, i ≤ m ∧ i ≤ n ∧ iv = .int .i64 i ∧ W.ownsRow w.heap.size 3 1 lv i ((idsL l i).map (Value.int .i64)) ∧ Gr w W) (fun _ iv _ => m - (intOf iv).toNat)
  case atStart => exact ⟨0, by omega, by omega, rfl, World.ownsRow_nil _ _ _ _, Gr.refl _⟩
  case round =>
    obtain ⟨wo, hwo⟩ : ∃ x, x = wr := ⟨_, rfl⟩
    subst hwo
    obtain ⟨i, him, hin, rfl, ho, hg⟩ := hrel
    have HO := Lib.hid ho
    have HG := Lib.hid hg
    obtain ⟨oo, co, rfl⟩ := ownsRow_form'' ho
    clear ho hg
    by_cases hlm : i < m
    · by_cases hlt : i < n
      · obtain ⟨a, rfl⟩ : ∃ a, oa = some a := by
          rcases hoa with c1 | c1
          · omega
          · exact c1
        have q1 := cell_grown HG.out (HC.out a rfl i hlt)
        obtain ⟨x, hx⟩ : ∃ x, l.getD i 0 = x := ⟨_, rfl⟩
        rw [hx] at q1
        have hxi : I64 x := by rw [← hx]; exact HI.out _ (by rw [List.getD_eq_getElem?_getD, List.getElem?_eq_getElem (by rw [HN.out]; exact hlt)]; exact List.getElem_mem _)
        have HS : Hid (idsL l (i + 1) = idsL l i ++ [idN x]) := Lib.hid (by rw [idsL_succ (by rw [HN.out]; exact hlt), hx])
        have HXI := Lib.hid hxi
        have hlast : ∀ (r : Int) (W w2 : World) (v2 : Value), idN x = r → Gr wo W → W.grownBy w2 (Value.slice oo i co).ownBlock → w2.ownsRow w.heap.size 3 1 v2 (i + 1) ((idsL l i ++ [r]).map (Value.int .i64)) → w2.ownsRow w.heap.size 3 1 v2 (i + 1) ((idsL l (i + 1)).map (Value.int .i64)) ∧ Gr w w2 := fun r W w2 v2 h1 h2 h3 h4 =>
          ⟨by rw [HS.out, h1]; exact h4, gr_by_own (Gr.trans HG.out h2) h3 (HO.out.of_gr h2) (Nat.le_refl _)⟩
        have HL := Lib.hid hlast
        clear hlast hx HI HN HC HS
        unfold I64 at hxi
        by_cases h5 : x.tmod 7 = 5
        · have e5 : (x.tmod 7 == 5) = true := by simp [h5]
          have e : idN x = x.tdiv 7 % 65536 := by unfold idN; rw [if_pos h5]
          have E := Lib.hid e
          clear e
          go_wp2_with (first
            | (go_at_call 9; refine (within_any (x.tdiv 7) 65536 (by omega) (by omega) _).mono ?_; rintro e w' ⟨rfl, rfl⟩)
            | (at_builtin; refine wpList_append_zs rfl _ _ rfl w.heap.size (.slice oo i co) i (idsL l i) rfl (HO.out.of_gr (Gr.alloc (Gr.refl _) _ _)) _ 1 1 [x.tdiv 7 % 65536] rfl (one_zs _ ⟨by omega, by omega⟩) (by omega) (by have := HG.out.size; simp; omega) ?_; intro v2 w2 hown hgrow; have Z := Lib.hid (HL.out _ _ w2 v2 E.out (Gr.alloc (Gr.refl wo) _ _) hgrow hown); clear hown hgrow))
          exact ⟨⟨i + 1, by omega, by omega, by go_num, Z.out.1, Z.out.2⟩, by simp [intOf]; omega⟩
        · have e5 : (x.tmod 7 == 5) = false := by simpa using h5
          by_cases h6 : x.tmod 7 = 6
          · have e6 : (x.tmod 7 == 6) = true := by simp [h6]
            have e : idN x = x := by unfold idN; rw [if_neg h5, if_pos h6]
            have E := Lib.hid e
            clear e
            go_wp2_with (first
              | (at_builtin; refine wpList_append_zs rfl _ _ rfl w.heap.size (.slice oo i co) i (idsL l i) rfl (HO.out.of_gr (Gr.alloc (Gr.refl _) _ _)) _ 1 1 [x] rfl (one_zs _ HXI.out) (by omega) (by have := HG.out.size; simp; omega) ?_; intro v2 w2 hown hgrow; have Z := Lib.hid (HL.out _ _ w2 v2 E.out (Gr.alloc (Gr.refl wo) _ _) hgrow hown); clear hown hgrow))
            exact ⟨⟨i + 1, by omega, by omega, by go_num, Z.out.1, Z.out.2⟩, by simp [intOf]; omega⟩
          · have e6 : (x.tmod 7 == 6) = false := by simpa using h6
            have e : idN x = x.tdiv 7 % 40 := by unfold idN; rw [if_neg h5, if_neg h6]
            have E := Lib.hid e
            clear e
            go_wp2_with (first
              | (go_at_call 9; refine (within_any (x.tdiv 7) 40 (by omega) (by omega) _).mono ?_; rintro e w' ⟨rfl, rfl⟩)
              | (at_builtin; refine wpList_append_zs rfl _ _ rfl w.heap.size (.slice oo i co) i (idsL l i) rfl (HO.out.of_gr (Gr.alloc (Gr.refl _) _ _)) _ 1 1 [x.tdiv 7 % 40] rfl (one_zs _ ⟨by omega, by omega⟩) (by omega) (by have := HG.out.size; simp; omega) ?_; intro v2 w2 hown hgrow; have Z := Lib.hid (HL.out _ _ w2 v2 E.out (Gr.alloc (Gr.refl wo) _ _) hgrow hown); clear hown hgrow))
            exact ⟨⟨i + 1, by omega, by omega, by go_num, Z.out.1, Z.out.2⟩, by simp [intOf]; omega⟩
      · obtain rfl : i = n := by omega
        have e : idsL l m = idsL l i := by
          unfold idsL
          rw [List.take_of_length_le (by rw [HN.out]; omega), List.take_of_length_le (by rw [HN.out]; omega)]
        have el : (idsL l i).length = i := by rw [idsL_length, HN.out]; omega
        have E := Lib.hid e
        have EL := Lib.hid el
        clear e el
        go_wp2_with fail
        go_ret
        refine ⟨_, rfl, ?_, HG.out⟩
        rw [E.out, EL.out]
        exact HO.out
    · obtain rfl : i = m := by omega
      have el : (idsL l i).length = i := by rw [idsL_length, HN.out]; omega
      have EL := Lib.hid el
      clear el
      by_cases hlt : i < n
      · go_wp2_with fail
        go_ret
        refine ⟨_, rfl, ?_, HG.out⟩
        rw [EL.out]
        exact HO.out
      · go_wp2_with fail
        go_ret
        refine ⟨_, rfl, ?_, HG.out⟩
        rw [EL.out]
        exact HO.out
end Go.Proofs.Ytedobcajbelcpaa
namespace Go.Proofs.Ytedobcajbelcpaa

/-- An operation whose guard says no is passed. -/
theorem wpAnyH_skip {P : Program} {md : Region.Mode} {ops : Array Oper} {Q : Exit → Act → World → Prop} {S : World → Prop} {i d : Nat} {oi : Oper} {fuel : Nat} {listed : Array Bool} {a : Act} {w : World} (hi : ops[i]? = some oi) (hd : oi.dst = some d)
    (hs : Region.noSelect ops = true) (hf : Region.free md ops listed i = true) (hr : (Region.ready md ops listed).contains i = true)
    (hQ : ∀ c a w, Q (.panic c) (a.put oi.dst undef) w → Q (.panic c) a w) (hw : Region.wanted oi (yielded ops a.tmps) = false) (hS : S w)
    (h : wpAnyH P md ops Q S fuel (listed.setIfInBounds i true) { a with tmps := a.tmps.setIfInBounds d undef } w) : wpAnyH P md ops Q S (fuel + 1) listed a w :=
  wpAnyH_take hi hs hf hr hQ (.inr ⟨hw, rfl⟩) hS (by rw [hd]; exact h)
/-- An operation that yields v is taken. -/
theorem wpAnyH_yield {P : Program} {md : Region.Mode} {ops : Array Oper} {Q : Exit → Act → World → Prop} {S : World → Prop} {i d : Nat} {oi : Oper} {v : Value} {fuel : Nat} {listed : Array Bool} {a : Act} {w : World} (hi : ops[i]? = some oi) (hd : oi.dst = some d)
    (hs : Region.noSelect ops = true) (hf : Region.free md ops listed i = true) (hr : (Region.ready md ops listed).contains i = true)
    (hQ : ∀ c a w, Q (.panic c) (a.put oi.dst v) w → Q (.panic c) a w) (hy : YieldsIf P ops S oi v a) (hS : S w)
    (h : wpAnyH P md ops Q S fuel (listed.setIfInBounds i true) { a with tmps := a.tmps.setIfInBounds d v } w) : wpAnyH P md ops Q S (fuel + 1) listed a w :=
  wpAnyH_take hi hs hf hr hQ hy hS (by rw [hd]; exact h)
end Go.Proofs.Ytedobcajbelcpaa
namespace Go.Proofs.Ytedobcajbelcpaa
open Go.RowKit

/-- The contracts of package system. -/
structure SystemOk : Prop where
  matrix : ∀ (K H S : Int) (seed : Nat) (v : Value) (l : List Int) (w : World), seed < 4294967296 → Zs w v l → l.length ≤ 900 →
    Calls Try.prog 14 #[par K H S, .int .u32 (seed : Int), v] w fun e w' => ∃ u, e = .returned u ∧ Bss w' u (matP K H S seed l) ∧ Gr w w'
  rank : ∀ (K H S : Int) (seed : Nat) (v : Value) (l : List Int) (w : World), seed < 4294967296 → Zs w v l → l.length ≤ 900 →
    Calls Try.prog 10 #[par K H S, .int .u32 (seed : Int), v] w fun e w' => e = .returned (.int .i64 (rkL (matP K H S seed l))) ∧ Gr w w'
  full : ∀ (K H S : Int) (seed : Nat) (v : Value) (l : List Int) (w : World), seed < 4294967296 → Zs w v l → l.length ≤ 900 →
    Calls Try.prog 11 #[par K H S, .int .u32 (seed : Int), v] w fun e w' => e = .returned (.bool (decide (FullP K H S seed l))) ∧ Gr w w'
  right : ∀ (K H S : Int) (seed : Nat) (w : World), seed < 4294967296 →
    Calls Try.prog 21 #[par K H S, .int .u32 (seed : Int)] w fun e w' => e = .returned (.bool (decide (RightP K H S seed))) ∧ Gr w w'
end Go.Proofs.Ytedobcajbelcpaa
namespace Go.Proofs.Ytedobcajbelcpaa
open Go.RowKit

theorem Bs.form3 {w : World} {v : Value} {l : List Int} (h : Bs w v l) : ∃ o m c, v = .slice o m c := by
  obtain ⟨o, c, h⟩ := h.form
  exact ⟨o, _, c, h⟩
theorem ownsRow_form3 {w : World} {base : Nat} {e : TypeId} {v : Value} {n : Nat} {us : List Value} (h : w.ownsRow base e 1 v n us) : ∃ o m c, v = .slice o m c := by
  obtain ⟨o, c, h⟩ := ownsRow_form'' h
  exact ⟨o, _, c, h⟩
/-- Two parameters lie in block g. -/
def Twos (w : World) (g : Nat) : Prop := ∀ t, t < 2 → ∃ K H S, w.cell? ⟨g, t * 3, none⟩ = some (.int .i64 K) ∧ w.cell? ⟨g, t * 3 + 1, none⟩ = some (.int .i64 H) ∧ w.cell? ⟨g, t * 3 + 2, none⟩ = some (.int .i64 S)
theorem Twos.grown {w w' : World} {g : Nat} (h : Twos w g) (hg : Gr w w') : Twos w' g := fun t ht => by
  obtain ⟨K, H, S, h1, h2, h3⟩ := h t ht
  exact ⟨K, H, S, cell_grown hg h1, cell_grown hg h2, cell_grown hg h3⟩
end Go.Proofs.Ytedobcajbelcpaa
namespace Go.Proofs.Ytedobcajbelcpaa
open Go.RowKit

theorem upTo_pre (m n : Int) (w : World) :
    Calls Try.prog 30 #[.int .i64 m, .int .i64 n] w fun e w' => e = .returned (.bool (decide (1 ≤ n ∧ n ≤ m))) ∧ w = w' := by
  by_cases h : 1 ≤ n
  · rw [show decide (1 ≤ n ∧ n ≤ m) = decide (n ≤ m) from by rw [decide_eq_decide]; omega]
    go_enter Try.func30, Try.ntmps30
    go_wp2
    go_ret
    exact ⟨rfl, rfl⟩
  · rw [decide_eq_false (by omega : ¬ (1 ≤ n ∧ n ≤ m))]
    go_enter Try.func30, Try.ntmps30
    go_wp2
    go_ret
    exact ⟨rfl, rfl⟩
set_option maxHeartbeats 800000 in
theorem may_pre (K H S : Int) (w : World) :
    Calls Try.prog 22 #[par K H S] w fun e w' => e = .returned (.bool (decide (MayP K H S))) ∧ Gr w w' := by
  have hd : decide (MayP K H S) = (decide (1 ≤ K ∧ K ≤ 16) && (decide (1 ≤ H ∧ H ≤ 4) && decide (1 ≤ S ∧ S ≤ 24))) := by
    rw [← Bool.decide_and, ← Bool.decide_and, decide_eq_decide]
    unfold MayP
    omega
  rw [hd]
  have b1 : ∀ x : Int, ∃ b : Bool, decide (1 ≤ x ∧ x ≤ 16) = b := fun x => ⟨_, rfl⟩
  obtain ⟨p, hp⟩ := b1 K
  obtain ⟨q, hq⟩ : ∃ b : Bool, decide (1 ≤ H ∧ H ≤ 4) = b := ⟨_, rfl⟩
  obtain ⟨r, hr⟩ : ∃ b : Bool, decide (1 ≤ S ∧ S ≤ 24) = b := ⟨_, rfl⟩
  have HP := Lib.hid hp
  have HQ := Lib.hid hq
  have HR := Lib.hid hr
  rw [hp, hq, hr]
  clear hp hq hr hd b1
  have P0 : Hid (Par (w.alloc (.cells #[.int .i64 K, .int .i64 H, .int .i64 S] 25)) w.heap.size K H S) := Lib.hid (heap_alloc_new _ _)
  have HG0 : Hid (Gr w (w.alloc (.cells #[.int .i64 K, .int .i64 H, .int .i64 S] 25))) := Lib.hid (Gr.alloc (Gr.refl _) _ _)
  go_enter Try.func22, Try.ntmps22
  cases p with
  | false =>
    go_wp2_with fail
    refine (upTo_pre 16 K _).mono ?_
    rw [HP.out]
    rintro e w1 ⟨rfl, rfl⟩
    go_wp2_with fail
    go_ret
    exact ⟨rfl, HG0.out⟩
  | true =>
    have c1 := P0.out.cell1
    have c2 := P0.out.cell2
    cases q with
    | false =>
      go_wp2_with fail
      refine (upTo_pre 16 K _).mono ?_
      rw [HP.out]
      rintro e w1 ⟨rfl, rfl⟩
      go_wp2_with fail
      refine (upTo_pre 4 H _).mono ?_
      rw [HQ.out]
      rintro e w1 ⟨rfl, rfl⟩
      go_wp2_with fail
      go_ret
      exact ⟨rfl, HG0.out⟩
    | true =>
      go_wp2_with fail
      refine (upTo_pre 16 K _).mono ?_
      rw [HP.out]
      rintro e w1 ⟨rfl, rfl⟩
      go_wp2_with fail
      refine (upTo_pre 4 H _).mono ?_
      rw [HQ.out]
      rintro e w1 ⟨rfl, rfl⟩
      go_wp2_with fail
      refine (upTo_pre 24 S _).mono ?_
      rw [HR.out]
      rintro e w1 ⟨rfl, rfl⟩
      go_wp2_with fail
      go_ret
      exact ⟨by simp, HG0.out⟩
set_option maxHeartbeats 400000 in
theorem cols_pre (K H S : Int) (w : World) :
    Calls Try.prog 13 #[par K H S] w fun e w' => e = .returned (.int .i64 (colsP K H S)) ∧ Gr w w' := by
  unfold colsP
  by_cases hm : MayP K H S
  · have hd := decide_eq_true hm
    have HM := Lib.hid hm
    rw [if_pos hm]
    have hk : -9223372036854775808 ≤ K + H ∧ K + H ≤ 9223372036854775807 := by have := hm; unfold MayP at this; omega
    have hwr : IntKind.i64.wrap (K + H) = K + H := by have := hk; simp [IntKind.wrap, IntKind.bits, IntKind.signed]; omega
    clear hm
    go_enter Try.func13, Try.ntmps13
    go_wp2_with fail
    refine (may_pre K H S _).mono ?_
    rw [hd]
    rintro e w1 ⟨rfl, hg⟩
    have P1 : Par w1 w.heap.size K H S := Par.grown (heap_alloc_new w _) hg
    have c0 := P1.cell0
    have c1 := P1.cell1
    have G1 := Lib.hid (Gr.trans (Gr.alloc (Gr.refl w) _ _) hg)
    clear hg P1
    go_wp2_with fail
    go_ret
    exact ⟨rfl, G1.out⟩
  · have hd := decide_eq_false hm
    rw [if_neg hm]
    clear hm
    go_enter Try.func13, Try.ntmps13
    go_wp2_with fail
    refine (may_pre K H S _).mono ?_
    rw [hd]
    rintro e w1 ⟨rfl, hg⟩
    have G1 := Lib.hid (Gr.trans (Gr.alloc (Gr.refl w) _ _) hg)
    clear hg
    go_wp2_with fail
    go_ret
    exact ⟨rfl, G1.out⟩
end Go.Proofs.Ytedobcajbelcpaa
