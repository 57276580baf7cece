/-
  Package span as it was written: New, fits, Rest, Has, Rank.
-/
import Derived.Test.YtmeojdnalhaooaaSb
namespace Go.Proofs.Ytmeojdnalhaooaa
open Go.RowKit

set_option maxHeartbeats 400000 in
theorem fits_any (b h n : Nat) (us : List Value) (Ls : List (List Int)) (v : Value) (x : List Int) (w : World) (hs : Sb w b h n us Ls) (hv : Bs w v x) :
    Calls Try.prog 41 #[.pointer (some ⟨b, 0, none⟩), v] w fun e w' => e = .returned (.bool (decide (x.length = n))) ∧ Gr w w' := by
  have hc := hs.begun
  obtain ⟨o, c, rfl⟩ := hv.form
  clear hs hv
  generalize x.length = m at *
  have hmn : ((m : Int) == (n : Int)) = decide (m = n) := by rw [Bool.eq_iff_iff]; simp; omega
  go_enter Try.func41, Try.ntmps41
  go_wp2
  go_ret
  exact ⟨rfl, Gr.refl _⟩
set_option maxHeartbeats 400000 in
theorem fits_nil (v : Value) (x : List Int) (w : World) (hv : Bs w v x) :
    Calls Try.prog 41 #[.pointer none, v] w fun e w' => e = .returned (.bool false) ∧ Gr w w' := by
  obtain ⟨o, c, rfl⟩ := hv.form
  clear hv
  go_enter Try.func41, Try.ntmps41
  go_wp2
  go_ret
  exact ⟨rfl, Gr.refl _⟩
set_option maxHeartbeats 400000 in
theorem rank_any (b h n : Nat) (us : List Value) (Ls : List (List Int)) (w : World) (hs : Sb w b h n us Ls) (hL : Ls.length = n) (hn : n ≤ 64) :
    Calls Try.prog 15 #[.pointer (some ⟨b, 0, none⟩)] w fun e w' => e = .returned (.int .i64 (rowsOf Ls).length) ∧ Gr w w' := by
  have hc := hs.begun
  have HS := Lib.hid hs
  have HL := Lib.hid hL
  clear hs hL
  have hnil : ∀ (W : World) (x : Option Addr) (p q : Nat), (binOp .neq 23 (.slice x p q) (.slice none 0 0)).run Try.prog W = .ok (.bool (!x.isNone)) W := fun W x p q => run_neq_slice_nil W _ _ x p q 0 0 Try.underlying23
  go_enter Try.func15, Try.ntmps15
  go_wp2
  go_loopw [3, 13] (fun r i W => ∃ k : Nat, k ≤ n ∧ i = .int .i64 k ∧ r = .int .i64 (rowsOf (Ls.take k)).length ∧ Gr w W) (fun _ i _ => n - (intOf i).toNat)
  case atStart => exact ⟨0, by omega, rfl, by simp [rowsOf], Gr.refl _⟩
  case round =>
    obtain ⟨k, hk, rfl, rfl, hg⟩ := hrel
    have HG := Lib.hid hg
    clear hg
    have hle : (rowsOf (Ls.take k)).length ≤ k := by
      refine Nat.le_trans (List.length_filter_le _ _) ?_
      rw [List.length_take]
      omega
    by_cases hlt : k < n
    · have hs1 := HS.out.grown HG.out
      have hcc := hs1.cell k hlt
      have ht : Ls.take (k + 1) = Ls.take k ++ [Ls.getD k []] := by
        have := HL.out
        rw [List.take_add_one, List.getElem?_eq_getElem (by omega), List.getD_eq_getElem?_getD, List.getElem?_eq_getElem (by omega)]
        rfl
      have hr := rowsOf_snoc (Ls.take k) (Ls.getD k [])
      rw [← ht] at hr
      rcases hs1.plc k hlt with ⟨he, he2⟩ | ⟨g, c, he, h0, hl, _, _⟩
      · rw [he] at hcc
        rw [if_pos he2] at hr
        have HR := Lib.hid hr
        clear ht hr he he2 hs1
        go_wp2
        exact ⟨⟨k + 1, by omega, by go_num, by rw [HR.out], HG.out⟩, by simp [intOf]; omega⟩
      · rw [he] at hcc
        rw [if_neg (fun e => by rw [e] at hl; simp at hl; omega)] at hr
        have HR : Hid ((rowsOf (Ls.take (k + 1))).length = (rowsOf (Ls.take k)).length + 1) := Lib.hid (by rw [hr]; simp)
        clear ht hr he hl hs1
        generalize (rowsOf (Ls.take k)).length = m at *
        go_wp2
        exact ⟨⟨k + 1, by omega, by go_num, by rw [HR.out]; go_num, HG.out⟩, by simp [intOf]; omega⟩
    · obtain rfl : k = n := by omega
      rw [List.take_of_length_le (by rw [HL.out]; exact Nat.le_refl _)]
      go_wp2
      go_ret
      exact ⟨rfl, HG.out⟩
set_option maxRecDepth 100000 in
set_option maxHeartbeats 800000 in
theorem rest_any (b h n : Nat) (us : List Value) (Ls A : List (List Int)) (v : Value) (x : List Int) (w : World) (hs : Sb w b h n us Ls) (hB : Bg n Ls A) (hn : n ≤ 64) (hv : Bs w v x) (hx : x.length = n) :
    Calls Try.prog 20 #[.pointer (some ⟨b, 0, none⟩), v] w fun e w' => ∃ u y, e = .returned (.tuple #[u, .bool true]) ∧ New w w' u y ∧ Rs n Ls A x n y := by
  have HS := Lib.hid hs
  have HB := Lib.hid hB
  have HV := Lib.hid hv
  have HX := Lib.hid hx
  have hft : (decide (x.length = n)) = true := by simpa using hx
  clear hs hB hv hx
  have hnil : ∀ (W : World) (x : Option Addr) (p q : Nat), (binOp .neq 23 (.slice x p q) (.slice none 0 0)).run Try.prog W = .ok (.bool (!x.isNone)) W := fun W x p q => run_neq_slice_nil W _ _ x p q 0 0 Try.underlying23
  go_enter Try.func20, Try.ntmps20
  go_wp2_with (first
    | (go_at_call 41; refine (fits_any b h n us Ls v x _ HS.out HV.out).mono ?_; rw [hft]; rintro e w1 ⟨rfl, hg⟩; have G1 := Lib.hid hg; clear hg)
    | (go_at_call 42; refine (clone_new v x _ (Bs.grown HV.out G1.out) (by rw [HX.out]; omega)).mono ?_; rintro e w2 ⟨u2, rfl, hnw⟩; have N2 := Lib.hid hnw; clear hnw; have hc := (HS.out.grown (Gr.trans G1.out N2.out.1)).begun))
  have NW0 : Hid (New w w2 u2 x) := Lib.hid ⟨Gr.trans G1.out N2.out.1, N2.out.2.1, by
    obtain ⟨_, _, q | ⟨g, c, cur, q1, q2, q3⟩⟩ := N2.out
    · exact .inl q
    · exact .inr ⟨g, c, cur, q1, Nat.le_trans G1.out.size q2, q3⟩⟩
  clear hc N2
  go_loopw [6, 20] (fun r i W => ∃ (k : Nat) (y : List Int), k ≤ n ∧ i = .int .i64 k ∧ New w W r y ∧ Rs n Ls A x k y) (fun _ i _ => n - (intOf i).toNat)
  case atStart => exact ⟨0, x, by omega, rfl, NW0.out, Rs.start HX.out HV.out.1⟩
  case round =>
    clear NW0
    obtain ⟨k, y, hk, rfl, hnw, hrs⟩ := hrel
    obtain ⟨or', mr, cr, rfl⟩ := New.form3 hnw
    have HN := Lib.hid hnw
    have HR := Lib.hid hrs
    clear hnw hrs
    by_cases hlt : k < n
    · have hs1 := HS.out.grown HN.out.1
      have hcc := hs1.cell k hlt
      rcases hs1.plc k hlt with ⟨he, he2⟩ | ⟨g, c, he, h0, hl, hbk, _⟩
      · rw [he] at hcc
        have HR2 := Lib.hid (HR.out.skip fun e => absurd he2 e)
        clear he he2 hs1
        go_wp2
        exact ⟨⟨k + 1, y, by omega, by go_num, HN.out, HR2.out⟩, by simp [intOf]; omega⟩
      · have hyl := HR.out.len
        obtain ⟨a, ca, q1, q2, q3, q4⟩ := Bs.at (New.bs HN.out) (by omega)
        rw [hyl] at q1 q4
        obtain rfl : or' = some a := by cases q1; rfl
        obtain rfl : n = mr := by cases q1; rfl
        clear q1
        have hq := q4 k (by omega)
        have hyb := getD_byt HR.out.byt k
        have hne : Ls.getD k [] ≠ [] := fun e => by rw [e] at hl; simp at hl; omega
        rw [he] at hcc hbk
        have HBK := Lib.hid hbk
        have HFD := Lib.hid hs1.field
        have HNE := Lib.hid hne
        have HYL := Lib.hid hyl
        have HLL := Lib.hid hl
        generalize hzz : y.getD k 0 = z at *
        have HZZ := Lib.hid hzz
        clear hs1 hbk hne hyl he q4 hzz hl
        by_cases hz0 : z = 0
        · subst hz0
          go_wp2
          exact ⟨⟨k + 1, y, by omega, by go_num, HN.out, HR.out.skip fun _ => HZZ.out⟩, by simp [intOf]; omega⟩
        · have hzb : (z != 0) = true := by simpa using hz0
          clear hz0
          go_wp2
          go_region_law (first
            | ((try go_simp); go_at_call 43; refine (ok_axpy _ _ _ z (Ls.getD k []) y _ (Or.inr ⟨b, rfl, by exact HFD.out⟩) hyb (by exact HBK.out) (by exact New.bs HN.out) (by rw [HLL.out]; omega) (by rw [HYL.out, HLL.out])).mono ?_; rintro e w3 ⟨v3, rfl, hnw⟩; obtain ⟨o3, m3, c3, rfl⟩ := New.form3 hnw; have N3 := Lib.hid hnw; clear hnw))
          all_goals
            go_wp2_with fail
            refine ⟨⟨k + 1, _, by omega, by go_num, ⟨Gr.trans HN.out.1 (by exact N3.out.1), N3.out.2.1, ?_⟩, ?_⟩, by simp [intOf]; omega⟩
            · obtain ⟨_, _, q | ⟨g', c', cur, q1, q2, q3⟩⟩ := N3.out
              · exact .inl q
              · exact .inr ⟨g', c', cur, q1, Nat.le_trans HN.out.1.size q2, q3⟩
            · have := HR.out.step HB.out hlt HNE.out
              rw [HZZ.out] at this
              exact this
    · obtain rfl : k = n := by omega
      go_wp2
      go_ret2
      exact ⟨_, y, rfl, HN.out, HR.out⟩
end Go.Proofs.Ytmeojdnalhaooaa
