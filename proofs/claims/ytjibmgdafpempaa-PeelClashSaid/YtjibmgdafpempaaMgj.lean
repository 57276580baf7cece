/-
  Texts laid behind one another: Qc Qd Bc Qh.
-/
import Derived.Test.YtjibmgdafpempaaMga
import Derived.Test.YtjibmgdafpempaaMgb
import Derived.Test.YtjibmgdafpempaaMgi
import Derived.Lib.SliceRun
import Derived.Deep.CutBlock
import Derived.Deep.QuietTactic
import Derived.BigQuiet
namespace Go.Proofs.Ytjibmgdafpempaa
open Go.RowKit

/-- A row of ones: the sum of what stands at c is d. -/
structure Eqn where
  c : List Int
  d : List Int
/-- A list that rises, from 0 to n - 1. -/
def MayRow (n : Int) (c : List Int) : Prop := (∀ x ∈ c, 0 ≤ x ∧ x < n) ∧ Rising c
def adjL (n : Int) (c : List Int) (i : Nat) : Prop := 0 ≤ c.getD i 0 ∧ c.getD i 0 < n ∧ (0 < i → c.getD (i - 1) 0 < c.getD i 0)
theorem mayRow_adj (n : Int) (c : List Int) : MayRow n c ↔ ∀ i, i < c.length → adjL n c i := by
  constructor
  · rintro ⟨h1, h2⟩ i hi
    have hm : c.getD i 0 ∈ c := by rw [List.getD_eq_getElem?_getD, List.getElem?_eq_getElem hi]; exact List.getElem_mem hi
    refine ⟨(h1 _ hm).1, (h1 _ hm).2, fun h0 => ?_⟩
    have := h2 (i - 1) (by omega)
    rwa [Nat.sub_add_cancel h0] at this
  · intro h
    refine ⟨fun x hx => ?_, fun i hi => ?_⟩
    · obtain ⟨i, hi, rfl⟩ := List.getElem_of_mem hx
      have := h i hi
      unfold adjL at this
      rw [List.getD_eq_getElem?_getD, List.getElem?_eq_getElem hi] at this
      exact ⟨this.1, this.2.1⟩
    · have := (h (i + 1) hi).2.2 (by omega)
      rwa [Nat.add_sub_cancel] at this
open Classical in
set_option maxHeartbeats 800000 in
theorem mayRow_any (n : Int) (v : Value) (c : List Int) (w : World) (h : Zs w v c) (hl : c.length ≤ 1000) :
    Calls Try.prog 24 #[.int .i64 n, v] w fun e w' => e = .returned (.bool (decide (MayRow n c))) ∧ w' = w := by
  obtain ⟨m, hm⟩ : ∃ m, c.length = m := ⟨_, rfl⟩
  have HZ := Lib.hid h
  obtain ⟨oa, ca, rfl⟩ := h.form
  rw [hm] at HZ hl ⊢
  have HADJ : Hid (MayRow n c ↔ ∀ i, i < m → adjL n c i) := Lib.hid (by rw [← hm]; exact mayRow_adj n c)
  clear h hm
  obtain ⟨b, hb⟩ : ∃ b, decide (MayRow n c) = b := ⟨_, rfl⟩
  rw [hb]
  have HB := Lib.hid hb
  clear hb
  go_enter Try.func24, Try.ntmps24
  go_wp2_with fail
  go_loopw [9] (fun i wr => wr = w ∧ ∃ k : Nat, k ≤ m ∧ i = .int .i64 k ∧ ∀ j, j < k → adjL n c j) (fun i _ => m - (intOf i).toNat)
  case atStart => exact ⟨rfl, 0, by omega, rfl, by omega⟩
  case round =>
    obtain ⟨rfl, i, hi, rfl, hs⟩ := hrel
    have HS := Lib.hid hs
    clear hs
    by_cases hlt : i < m
    · obtain ⟨a, rfl⟩ := HZ.out.addr (by omega)
      have q := HZ.out.cellAt hlt
      have hno : ¬ adjL n c i → b = false := fun h => by
        rw [← HB.out, decide_eq_false_iff_not, HADJ.out]
        exact fun hall => h (hall i hlt)
      have hyes : adjL n c i → ∀ j, j < i + 1 → adjL n c j := fun h j hj => by
        by_cases e : j = i
        · rw [e]; exact h
        · exact HS.out j (by omega)
      obtain ⟨x, hx⟩ : ∃ x, c.getD i 0 = x := ⟨_, rfl⟩
      rw [hx] at q
      by_cases h0 : x < 0
      · have hb := hno (fun h => by unfold adjL at h; omega)
        subst hb
        clear hno hyes hx
        go_wp2_with fail
        go_ret
        exact ⟨rfl, rfl⟩
      · by_cases h1 : n ≤ x
        · have hb := hno (fun h => by unfold adjL at h; omega)
          subst hb
          clear hno hyes hx
          go_wp2_with fail
          go_ret
          exact ⟨rfl, rfl⟩
        · by_cases hi0 : i = 0
          · subst hi0
            have HY := Lib.hid (hyes ⟨by omega, by omega, fun h => absurd h (by omega)⟩)
            rw [add_nought] at q
            clear hno hyes hx
            go_wp2_with fail
            exact ⟨⟨trivial, 1, by omega, rfl, HY.out⟩, by simp [intOf]; omega⟩
          · have q2 := HZ.out.cellAt (i := i - 1) (by omega)
            obtain ⟨y, hy⟩ : ∃ y, c.getD (i - 1) 0 = y := ⟨_, rfl⟩
            rw [hy] at q2
            obtain ⟨k, hk⟩ : ∃ k, i - 1 = k := ⟨_, rfl⟩
            have hki : (i : Int) - 1 = (k : Int) := by omega
            have hi1 : (0 : Int) < (i : Int) := by omega
            have hkm : (k : Int) < (m : Int) := by omega
            rw [hk] at q2
            by_cases h2 : x ≤ y
            · have hb := hno (fun h => by
                have := h.2.2 (by omega)
                rw [hy, hx] at this
                omega)
              subst hb
              clear hno hyes hx hy hk
              go_wp2_with fail
              go_ret
              exact ⟨rfl, rfl⟩
            · have HY := Lib.hid (hyes ⟨by omega, by omega, fun _ => by rw [hy, hx]; omega⟩)
              clear hno hyes hx hy hk
              go_wp2_with fail
              exact ⟨⟨trivial, i + 1, by omega, by go_num, HY.out⟩, by simp [intOf]; omega⟩
    · obtain rfl : m = i := by omega
      have hb : b = true := by
        rw [← HB.out, decide_eq_true_iff, HADJ.out]
        exact HS.out
      subst hb
      go_wp2_with fail
      go_ret
      exact ⟨rfl, rfl⟩
/-- The open columns. -/
def openL (kn : List Bool) (c : List Int) : List Int := c.filter fun x => !(kn.getD x.toNat false)
theorem openL_snoc (kn : List Bool) (c : List Int) (x : Int) : openL kn (c ++ [x]) = openL kn c ++ (if kn.getD x.toNat false = true then [] else [x]) := by
  unfold openL
  rw [List.filter_append]
  congr 1
  cases h : kn.getD x.toNat false <;> (rw [List.filter_cons, h]; rfl)
theorem take_snoc {α : Type} (l : List α) (i : Nat) (d : α) (h : i < l.length) : l.take (i + 1) = l.take i ++ [l.getD i d] := by
  rw [List.take_add_one, List.getElem?_eq_getElem h, List.getD_eq_getElem?_getD, List.getElem?_eq_getElem h]
  rfl
theorem openL_le (kn : List Bool) (c : List Int) : (openL kn c).length ≤ c.length := List.length_filter_le _ _
/-- The ints lie in memory of ints. -/
def InInts (w : World) (u : Value) : Prop := ∀ a n c, u = .slice (some a) n c → 0 < n → ∃ cur, w.heap[a.block]? = some (.cells cur 3 (0, 0))
theorem owns_inInts {w : World} {base : Nat} {v : Value} {n : Nat} {us : List Value} (h : w.ownsRow base 3 1 v n us) : InInts w v := fun a m c e _ => by
  obtain ⟨_, ⟨rfl, _⟩ | ⟨g, c', cur, rfl, _, hg, _⟩⟩ := h
  · cases e
  · cases e
    exact ⟨cur, hg⟩
set_option maxHeartbeats 800000 in
theorem open_own (vc vk : Value) (c : List Int) (kn : List Bool) (w : World) (hz : Zs w vc c) (hk : Bl w vk kn) (hr : ∀ x ∈ c, 0 ≤ x ∧ x < (kn.length : Int)) (hl : c.length ≤ 1000) (hkl : kn.length ≤ 1000) :
    Calls Try.prog 25 #[vc, vk] w fun e w' => ∃ v, e = .returned v ∧ w'.ownsRow w.heap.size 3 1 v (openL kn c).length ((openL kn c).map (Value.int .i64)) ∧ Gr w w' := by
  obtain ⟨m, hm⟩ : ∃ m, c.length = m := ⟨_, rfl⟩
  obtain ⟨n, hn⟩ : ∃ n, kn.length = n := ⟨_, rfl⟩
  have HZ := Lib.hid hz
  have HK := Lib.hid hk
  obtain ⟨oa, ca, rfl⟩ := hz.form
  obtain ⟨ok, ck, rfl⟩ := hk.form3
  rw [hm] at HZ hl ⊢
  rw [hn] at HK hkl hr ⊢
  have HM := Lib.hid hm
  have HR := Lib.hid hr
  clear hz hk hm hn hr
  go_enter Try.func25, Try.ntmps25
  go_wp2_with fail
  go_loopw [5, 10] (fun ov iv W => ∃ i : Nat, i ≤ m ∧ iv = .int .i64 i ∧ W.ownsRow w.heap.size 3 1 ov (openL kn (c.take i)).length ((openL kn (c.take i)).map (Value.int .i64)) ∧ Gr w W) (fun _ iv _ => m - (intOf iv).toNat)
  case atStart => exact ⟨0, by omega, rfl, World.ownsRow_nil _ _ _ _, Gr.refl _⟩
  case round =>
    obtain ⟨wo, hwo⟩ : ∃ x, x = wr := ⟨_, rfl⟩
    subst hwo
    obtain ⟨i, hi, rfl, ho, hg⟩ := hrel
    by_cases hlt : i < m
    · obtain ⟨a, rfl⟩ := HZ.out.addr (by omega)
      have q := (HZ.out.grown hg).cellAt hlt
      have hxm := HR.out (c.getD i 0) (by rw [List.getD_eq_getElem?_getD, List.getElem?_eq_getElem (by rw [HM.out]; exact hlt)]; exact List.getElem_mem _)
      have hxr := HZ.out.rng i (by rw [HM.out]; exact hlt)
      have hle := openL_le kn (c.take i)
      rw [List.length_take] at hle
      have hst : openL kn (c.take (i + 1)) = openL kn (c.take i) ++ (if kn.getD (c.getD i 0).toNat false = true then [] else [c.getD i 0]) := by
        rw [take_snoc c i 0 (by rw [HM.out]; exact hlt), openL_snoc]
      obtain ⟨x, hx⟩ : ∃ x : Nat, c.getD i 0 = (x : Int) := ⟨(c.getD i 0).toNat, by omega⟩
      rw [hx] at q hxm hxr hst
      rw [Int.toNat_natCast] at hst
      obtain ⟨ak, rfl⟩ := HK.out.addr (by omega)
      have q2 := (HK.out.grown hg).cellAt (i := x) (by omega)
      have hxn : (x : Int) < (n : Int) := hxm.2
      generalize openL kn (c.take i) = lo at *
      obtain ⟨lo', hlo⟩ : ∃ k, lo.length = k := ⟨_, rfl⟩
      rw [hlo] at ho hle
      obtain ⟨oo, co, rfl⟩ := ownsRow_form'' ho
      have HO := Lib.hid ho
      have HG := Lib.hid hg
      have HST := Lib.hid hst
      have HXR := Lib.hid hxr
      have HLO := Lib.hid hlo
      clear ho hg hst hx hxm hxr hlo
      cases hb : kn.getD x false with
      | true =>
        rw [hb] at q2
        rw [hb, if_pos rfl, List.append_nil] at HST
        clear hb
        go_wp2_with fail
        exact ⟨⟨i + 1, by omega, by go_num, by rw [HST.out, HLO.out]; exact HO.out, HG.out⟩, by simp [intOf]; omega⟩
      | false =>
        rw [hb] at q2
        rw [hb, if_neg (by simp)] at HST
        clear hb
        go_wp2_with (at_builtin; refine wpList_append_int rfl _ _ rfl w.heap.size (.slice oo lo' co) lo' lo rfl (HO.out.of_gr (Gr.alloc (Gr.refl _) _ _)) wo.heap.size (x : Int) rfl (by rw [cell_of_row _ _ 0 _ _ _ (heap_alloc_new wo _)]; rfl) (by omega) (by have := HG.out.size; simp; omega) ?_; intro g5 cap5 w5 h1 h2 h3; have O5 := Lib.hid h1; have G5 := Lib.hid h2; clear h1 h2 h3)
        have hg5 : Gr w w5 := gr_by_own (Gr.alloc HG.out (#[.int .i64 (x : Int)]) 3) G5.out (HO.out.of_gr (Gr.alloc (Gr.refl _) _ _)) (Nat.le_refl _)
        exact ⟨⟨i + 1, by omega, by go_num, by rw [HST.out, List.length_append, HLO.out]; exact O5.out, hg5⟩, by simp [intOf]; omega⟩
    · obtain rfl : m = i := by omega
      go_wp2_with fail
      go_ret
      rw [List.take_of_length_le (by rw [HM.out]; exact Nat.le_refl _)] at ho
      exact ⟨_, rfl, ho, hg⟩
theorem open_any (vc vk : Value) (c : List Int) (kn : List Bool) (w : World) (hz : Zs w vc c) (hk : Bl w vk kn) (hr : ∀ x ∈ c, 0 ≤ x ∧ x < (kn.length : Int)) (hl : c.length ≤ 1000) (hkl : kn.length ≤ 1000) :
    Calls Try.prog 25 #[vc, vk] w fun e w' => ∃ v, e = .returned v ∧ Zs w' v (openL kn c) ∧ InInts w' v ∧ Gr w w' :=
  (open_own vc vk c kn w hz hk hr hl hkl).mono (by
    rintro e w' ⟨v, rfl, ho, hg⟩
    exact ⟨v, rfl, owns_zs ho rfl (fun x hx => hz.1 x (List.mem_filter.1 hx).1), owns_inInts ho, hg⟩)
/-- What is left of a row's data. -/
def restL (kn : List Bool) (vs : List (List Int)) (c : List Int) (d : List Int) : List Int := c.foldl (fun s x => if kn.getD x.toNat false = true then sumL (vs.getD x.toNat []) s else s) d
theorem restL_snoc (kn : List Bool) (vs : List (List Int)) (c : List Int) (x : Int) (d : List Int) : restL kn vs (c ++ [x]) d = if kn.getD x.toNat false = true then sumL (vs.getD x.toNat []) (restL kn vs c d) else restL kn vs c d := by
  unfold restL
  rw [List.foldl_append]
  rfl
/-- Values of so many bytes, where they are known. -/
def Valed (S : Nat) (kn : List Bool) (vs : List (List Int)) : Prop := vs.length = kn.length ∧ ∀ x, kn.getD x false = true → (vs.getD x []).length = S ∧ ∀ z ∈ vs.getD x [], Byt z
theorem restL_ok {S : Nat} {kn : List Bool} {vs : List (List Int)} (hv : Valed S kn vs) : ∀ (c d : List Int), d.length = S → (∀ z ∈ d, Byt z) → (restL kn vs c d).length = S ∧ ∀ z ∈ restL kn vs c d, Byt z
  | [], d, h1, h2 => ⟨h1, h2⟩
  | x :: c, d, h1, h2 => by
    show (restL kn vs c (if kn.getD x.toNat false = true then sumL (vs.getD x.toNat []) d else d)).length = S ∧ ∀ z ∈ restL kn vs c (if kn.getD x.toNat false = true then sumL (vs.getD x.toNat []) d else d), Byt z
    split
    · rename_i hk
      obtain ⟨a1, a2⟩ := hv.2 x.toNat hk
      exact restL_ok hv c _ (by rw [sumL_length, a1]) (sumL_byt a2 h2)
    · exact restL_ok hv c d h1 h2
set_option maxHeartbeats 800000 in
theorem rest_any (vc vd vk vv : Value) (c d : List Int) (kn : List Bool) (vs : List (List Int)) (S : Nat) (w : World) (hz : Zs w vc c) (hd : Bs w vd d) (hk : Bl w vk kn) (hv : Bss w vv vs) (hr : ∀ x ∈ c, 0 ≤ x ∧ x < (kn.length : Int)) (hl : c.length ≤ 1000) (hkl : kn.length ≤ 1000) (hS : d.length = S) (hSl : S ≤ 100000) (hV : Valed S kn vs) :
    Calls Try.prog 26 #[.agg #[vc, vd], vk, vv] w fun e w' => ∃ v, e = .returned v ∧ New w w' v (restL kn vs c d) := by
  obtain ⟨m, hm⟩ : ∃ m, c.length = m := ⟨_, rfl⟩
  obtain ⟨n, hn⟩ : ∃ n, kn.length = n := ⟨_, rfl⟩
  have HZ := Lib.hid hz
  have HK := Lib.hid hk
  have HV := Lib.hid hv
  have HD := Lib.hid hd
  have HVL := Lib.hid hV
  have hvn : vs.length = n := by rw [hV.1, hn]
  obtain ⟨oa, ca, rfl⟩ := hz.form
  obtain ⟨od, cd, rfl⟩ := hd.form
  obtain ⟨ok, ck, rfl⟩ := hk.form3
  obtain ⟨ov, nv, cv, rfl⟩ := hv.form3
  obtain rfl : nv = vs.length := hv.len3
  rw [hvn] at HV ⊢
  rw [hm] at HZ hl ⊢
  rw [hn] at HK hkl hr ⊢
  rw [hS] at HD ⊢
  have HM := Lib.hid hm
  have HR := Lib.hid hr
  have HS := Lib.hid hS
  have HVN := Lib.hid hvn
  clear hz hk hm hn hr hd hv hV hS hvn
  go_enter Try.func26, Try.ntmps26
  have hg0 : Gr w (w.alloc (.cells #[.slice oa m ca, .slice od S cd] 27)) := Gr.alloc (Gr.refl _) _ _
  have HG0 := Lib.hid hg0
  have c0 : (w.alloc (.cells #[.slice oa m ca, .slice od S cd] 27)).cell? ⟨w.heap.size, 0, none⟩ = some (.slice oa m ca) := by rw [cell_of_row _ _ 0 _ _ _ (heap_alloc_new _ _)]; rfl
  have c1 : (w.alloc (.cells #[.slice oa m ca, .slice od S cd] 27)).cell? ⟨w.heap.size, 1, none⟩ = some (.slice od S cd) := by rw [cell_of_row _ _ 1 _ _ _ (heap_alloc_new _ _)]; rfl
  have C0 := Lib.hid c0
  have C1 := Lib.hid c1
  clear hg0 c0 c1
  go_upto_region 1 with fail
  generalize w.alloc (.cells #[.slice oa m ca, .slice od S cd] 27) = W0 at *
  generalize w.heap.size = gq at *
  have c0 := C0.out
  have c1 := C1.out
  go_wp2_with (at_builtin; refine wpList_append_bytes rfl _ _ rfl W0.heap.size (.slice none 0 0) 0 [] rfl (World.ownsRow_nil _ _ _ _) od S cd d rfl (HD.out.grown HG0.out) (by omega) (Nat.le_refl _) ?_; intro v1 w1 ho1 hg1; rw [Nat.zero_add, List.nil_append] at ho1; obtain ⟨o1, c1', rfl⟩ := ownsRow_form ho1; have O1 := Lib.hid ho1; have GR1 : Hid (Gr W0 w1) := Lib.hid (Gr.append (Gr.refl W0) hg1 (fun _ h => by cases h)); clear ho1 hg1; have c01 := cell_gr GR1.out C0.out)
  have N1 : Hid (New w w1 (.slice o1 S c1') (restL kn vs (c.take 0) d)) := Lib.hid (by
    show New w w1 (.slice o1 S c1') d
    exact New.under HG0.out (New.of_row GR1.out HD.out.1 (by rw [HS.out]; exact O1.out)))
  clear O1 c0 c1 c01 C0 C1 HG0 GR1
  go_loopw [7, 16] (fun sv iv W => ∃ i : Nat, i ≤ m ∧ iv = .int .i64 i ∧ New w W sv (restL kn vs (c.take i) d)) (fun _ iv _ => m - (intOf iv).toNat)
  case atStart => exact ⟨0, by omega, rfl, N1.out⟩
  case round =>
    clear N1
    obtain ⟨wo, hwo⟩ : ∃ x, x = wr := ⟨_, rfl⟩
    subst hwo
    obtain ⟨i, hi, rfl, hn⟩ := hrel
    obtain ⟨os, ms, cs, rfl⟩ := New.form3 hn
    have NW := Lib.hid hn
    clear hn
    by_cases hlt : i < m
    · obtain ⟨a, rfl⟩ := HZ.out.addr (by omega)
      have q := (HZ.out.grown NW.out.1).cellAt hlt
      have hxm := HR.out (c.getD i 0) (by rw [List.getD_eq_getElem?_getD, List.getElem?_eq_getElem (by rw [HM.out]; exact hlt)]; exact List.getElem_mem _)
      have hst : restL kn vs (c.take (i + 1)) d = if kn.getD (c.getD i 0).toNat false = true then sumL (vs.getD (c.getD i 0).toNat []) (restL kn vs (c.take i) d) else restL kn vs (c.take i) d := by
        rw [take_snoc c i 0 (by rw [HM.out]; exact hlt), restL_snoc]
      obtain ⟨x, hx⟩ : ∃ x : Nat, c.getD i 0 = (x : Int) := ⟨(c.getD i 0).toNat, by omega⟩
      rw [hx] at q hxm hst
      rw [Int.toNat_natCast] at hst
      obtain ⟨ak, rfl⟩ := HK.out.addr (by omega)
      have q2 := (HK.out.grown NW.out.1).cellAt (i := x) (by omega)
      have hxn : (x : Int) < (n : Int) := hxm.2
      have hrl := restL_ok HVL.out (c.take i) d HS.out HD.out.1
      have hvx := HVL.out.2 x
      have HST := Lib.hid hst
      have HRL := Lib.hid hrl
      have HVX := Lib.hid hvx
      generalize restL kn vs (c.take i) d = lo at *
      clear hst hx hxm hrl hvx
      cases hb : kn.getD x false with
      | false =>
        rw [hb] at q2
        rw [hb, if_neg (by simp)] at HST
        clear hb
        go_wp2_with fail
        exact ⟨⟨i + 1, by omega, by go_num, by rw [HST.out]; exact NW.out⟩, by simp [intOf]; omega⟩
      | true =>
        rw [hb] at q2
        rw [hb, if_pos rfl] at HST
        have hvx := HVX.out hb
        clear hb
        obtain ⟨b, rfl⟩ := HV.out.addr (by omega)
        obtain ⟨u, q3, hu⟩ := (HV.out.grown NW.out.1).rowAt (i := x) (by omega)
        obtain ⟨ou, mu, cu, rfl⟩ := hu.form4
        have HU := Lib.hid hu
        have HVY := Lib.hid hvx
        clear hu hvx HVX
        go_wp2_with fail
        refine (refSum_any _ _ (vs.getD x []) lo _ HU.out (New.bs NW.out) (by rw [HVY.out.1, HRL.out.1]) (by rw [HRL.out.1]; omega)).mono ?_
        rw [sum_back (by rw [HVY.out.1, HRL.out.1])]
        rintro e w3 hmi
        obtain ⟨v3, rfl, hn3⟩ := Mine.new hmi (sumL_byt HVY.out.2 HRL.out.2) (by rw [sumL_length, HVY.out.1]; omega)
        have N3 := Lib.hid (New.under NW.out.1 hn3)
        clear hmi hn3
        go_wp2_with fail
        exact ⟨⟨i + 1, by omega, by go_num, by rw [HST.out]; exact N3.out⟩, by simp [intOf]; omega⟩
    · obtain rfl : m = i := by omega
      go_wp2_with fail
      go_ret
      refine ⟨_, rfl, ?_⟩
      have := NW.out
      rwa [List.take_of_length_le (by rw [HM.out]; exact Nat.le_refl _)] at this
end Go.Proofs.Ytjibmgdafpempaa
namespace Go.Proofs.Ytjibmgdafpempaa
open Go.RowKit

def VT : PL.Two L.V := ⟨L.vadd, L.vzero, L.vadd_comm, L.vadd_assoc, L.vzero_add, L.vadd_self⟩
def toE (q : Eqn) : PL.E L.V := ⟨q.c.map Int.toNat, vec q.d⟩
def valV (vs : List (List Int)) : Nat → L.V := fun x => vec (vs.getD x [])
def dlen : List Eqn → Nat
  | [] => 0
  | q :: _ => q.d.length
def MayEqs (n : Int) (L : List Eqn) : Prop := 0 ≤ n ∧ n ≤ 64 ∧ ∀ q ∈ L, MayRow n q.c ∧ q.d.length = dlen L
theorem vec_rest {S : Nat} {kn : List Bool} {vs : List (List Int)} (hv : Valed S kn vs) : ∀ (c d : List Int), d.length = S → (∀ z ∈ d, Byt z) → vec (restL kn vs c d) = L.vadd (vec d) (PL.tot VT (valV vs) ((c.map Int.toNat).filter fun x => kn.getD x false))
  | [], d, _, _ => (L.vadd_zero _).symm
  | x :: c, d, h1, h2 => by
    show vec (restL kn vs c (if kn.getD x.toNat false = true then sumL (vs.getD x.toNat []) d else d)) = _
    rw [List.map_cons]
    by_cases hk : kn.getD x.toNat false = true
    · obtain ⟨a1, a2⟩ := hv.2 x.toNat hk
      rw [if_pos hk, vec_rest hv c _ (by rw [sumL_length, a1]) (sumL_byt a2 h2), vec_sum a2 h2 (by rw [a1, h1]), List.filter_cons_of_pos (p := fun x => kn.getD x false) hk]
      show _ = L.vadd (vec d) (L.vadd (vec (vs.getD x.toNat [])) _)
      rw [L.vadd_comm (vec (vs.getD x.toNat [])), L.vadd_assoc]
    · rw [if_neg hk, vec_rest hv c d h1 h2, List.filter_cons_of_neg (p := fun x => kn.getD x false) hk]
/-- What is known so far, and nothing else. -/
structure PeelInv (n S : Nat) (E : List (PL.E L.V)) (kn : List Bool) (vs : List (List Int)) : Prop where
  len : kn.length = n
  val : Valed S kn vs
  no : ∀ x, kn.getD x false = false → vs.getD x [] = []
  der : ∀ x, kn.getD x false = true → PL.Der E x
  agree : ∀ v, PL.Holds VT E v → ∀ x, kn.getD x false = true → v x = valV vs x
theorem rep_false (n x : Nat) : (List.replicate n false).getD x false = false := by
  rw [List.getD_eq_getElem?_getD, List.getElem?_replicate]
  split <;> rfl
theorem PeelInv.start (n S : Nat) (E : List (PL.E L.V)) : PeelInv n S E (List.replicate n false) (List.replicate n []) := by
  refine ⟨by simp, ⟨by simp, fun x hx => ?_⟩, fun x _ => ?_, fun x hx => ?_, fun v _ x hx => ?_⟩
  · rw [rep_false] at hx; cases hx
  · rw [List.getD_eq_getElem?_getD, List.getElem?_replicate]
    split <;> rfl
  · rw [rep_false] at hx; cases hx
  · rw [rep_false] at hx; cases hx
theorem openL_mem {kn : List Bool} {c : List Int} {x : Int} : x ∈ openL kn c ↔ x ∈ c ∧ kn.getD x.toNat false = false := by
  unfold openL
  rw [List.mem_filter]
  cases kn.getD x.toNat false <;> simp
theorem getD_set_selfT {l : List Bool} {x : Nat} (h : x < l.length) (b : Bool) : (l.set x b).getD x false = b := by
  rw [List.getD_eq_getElem?_getD, List.getElem?_set_self h]
  rfl
theorem getD_set_neT {l : List Bool} {x y : Nat} (h : x ≠ y) (b : Bool) : (l.set x b).getD y false = l.getD y false := by
  rw [List.getD_eq_getElem?_getD, List.getElem?_set_ne h, List.getD_eq_getElem?_getD]
theorem mayRow_nodup {n : Int} {c : List Int} (h : MayRow n c) : (c.map Int.toNat).Nodup := by
  have hp : c.Pairwise (· < ·) := by
    rw [List.pairwise_iff_getElem]
    have key : ∀ d i, i + 1 + d < c.length → c.getD i 0 < c.getD (i + 1 + d) 0 := by
      intro d
      induction d with
      | zero => intro i hi; exact h.2 i hi
      | succ d ih => intro i hi; exact Int.lt_trans (ih i (by omega)) (h.2 (i + 1 + d) (by omega))
    intro i j hi hj hij
    have := key (j - i - 1) i (by omega)
    rw [show i + 1 + (j - i - 1) = j from by omega, List.getD_eq_getElem?_getD, List.getD_eq_getElem?_getD, List.getElem?_eq_getElem hi, List.getElem?_eq_getElem hj] at this
    exact this
  rw [List.nodup_iff_pairwise_ne, List.pairwise_map]
  refine List.Pairwise.imp_of_mem (fun {a b} ha hb hab => ?_) hp
  have h1 := h.1 a ha
  have h2 := h.1 b hb
  omega
/-- A row with one open column tells it. -/
theorem PeelInv.step {n S : Nat} {Eqs : List Eqn} {kn : List Bool} {vs : List (List Int)} (hm : ∀ q ∈ Eqs, MayRow n q.c ∧ q.d.length = S ∧ ∀ z ∈ q.d, Byt z) (h : PeelInv n S (Eqs.map toE) kn vs) {q : Eqn} (hq : q ∈ Eqs) {x : Nat} (ho : openL kn q.c = [(x : Int)]) :
    PeelInv n S (Eqs.map toE) (kn.set x true) (vs.set x (restL kn vs q.c q.d)) := by
  obtain ⟨m1, m2, m3⟩ := hm q hq
  have hx := openL_mem.1 (show (x : Int) ∈ openL kn q.c by rw [ho]; simp)
  rw [Int.toNat_natCast] at hx
  have hxn : x < kn.length := by have := m1.1 _ hx.1; rw [h.len]; omega
  have hxv : x < vs.length := by rw [h.val.1]; exact hxn
  have hr := restL_ok h.val q.c q.d m2 m3
  have hqe : toE q ∈ Eqs.map toE := List.mem_map.2 ⟨q, hq, rfl⟩
  have hcx : x ∈ (toE q).cols := List.mem_map.2 ⟨(x : Int), hx.1, Int.toNat_natCast x⟩
  have hoth : ∀ d, d ∈ (toE q).cols → d ≠ x → kn.getD d false = true := fun d hd hne => by
    obtain ⟨y, hy, rfl⟩ := List.mem_map.1 hd
    cases hk : kn.getD y.toNat false with
    | true => rfl
    | false =>
      have : y ∈ openL kn q.c := openL_mem.2 ⟨hy, hk⟩
      rw [ho] at this
      obtain rfl : y = (x : Int) := by simpa using this
      exact absurd (Int.toNat_natCast x) hne
  have hdx : PL.Der (Eqs.map toE) x := .by_row _ x hqe hcx fun d hd hne => h.der d (hoth d hd hne)
  have hnd : ∀ e, e ∈ Eqs.map toE → e.cols.Nodup := fun e he => by
    obtain ⟨r, hr, rfl⟩ := List.mem_map.1 he
    exact mayRow_nodup (hm r hr).1
  refine ⟨by rw [List.length_set]; exact h.len, ⟨by rw [List.length_set, List.length_set]; exact h.val.1, fun y hy => ?_⟩, fun y hy => ?_, fun y hy => ?_, fun v hv y hy => ?_⟩
  · by_cases e : x = y
    · subst e
      rw [getD_set_self _ _ _ hxv]
      exact hr
    · rw [getD_set_ne _ _ _ _ e]
      rw [getD_set_neT e] at hy
      exact h.val.2 y hy
  · by_cases e : x = y
    · subst e
      rw [getD_set_selfT hxn] at hy
      cases hy
    · rw [getD_set_neT e] at hy
      rw [getD_set_ne _ _ _ _ e]
      exact h.no y hy
  · by_cases e : x = y
    · subst e; exact hdx
    · rw [getD_set_neT e] at hy
      exact h.der y hy
  · by_cases e : x = y
    · subst e
      unfold valV
      rw [getD_set_self _ _ _ hxv, vec_rest h.val q.c q.d m2 m3, PL.Holds.told VT hnd hv hqe hcx fun d hd hne => h.der d (hoth d hd hne)]
      show L.vadd (vec q.d) _ = L.vadd (vec q.d) _
      congr 1
      have e1 : ((toE q).cols.filter fun d => d != x) = ((q.c.map Int.toNat).filter fun x => kn.getD x false) := by
        refine List.filter_congr fun d hd => ?_
        by_cases e2 : d = x
        · subst e2
          rw [hx.2]
          simp
        · rw [hoth d hd e2]
          simpa using e2
      rw [e1]
      exact PL.tot_congr VT fun d hd => h.agree v hv d (List.mem_filter.1 hd).2
    · rw [getD_set_neT e] at hy
      unfold valV
      rw [getD_set_ne _ _ _ _ e]
      exact h.agree v hv y hy
/-- Where no row has just one open column, all is known that can be. -/
theorem PeelInv.closed {n S : Nat} {Eqs : List Eqn} {kn : List Bool} {vs : List (List Int)} (hm : ∀ q ∈ Eqs, MayRow n q.c) (h : PeelInv n S (Eqs.map toE) kn vs) (hc : ∀ q ∈ Eqs, (openL kn q.c).length ≠ 1) (x : Nat) : kn.getD x false = true ↔ PL.Der (Eqs.map toE) x := by
  refine ⟨h.der x, fun hd => ?_⟩
  refine PL.Der.closed (K := fun x => kn.getD x false = true) (fun e he c hce hoth => ?_) hd
  obtain ⟨q, hq, rfl⟩ := List.mem_map.1 he
  obtain ⟨y, hy, rfl⟩ := List.mem_map.1 hce
  cases hk : kn.getD y.toNat false with
  | true => rfl
  | false =>
    exfalso
    refine hc q hq ?_
    have hone : ∀ z ∈ openL kn q.c, z = y := fun z hz => by
      obtain ⟨z1, z2⟩ := openL_mem.1 hz
      apply Classical.byContradiction
      intro hne
      have hzn := (hm q hq).1 z z1
      have hyn := (hm q hq).1 y hy
      have := hoth z.toNat (List.mem_map.2 ⟨z, z1, rfl⟩) (by omega)
      rw [z2] at this
      cases this
    have hnd : (openL kn q.c).Nodup := by
      have := mayRow_nodup (hm q hq)
      have h2 : q.c.Nodup := by
        rw [List.nodup_iff_pairwise_ne, List.pairwise_map] at this
        rw [List.nodup_iff_pairwise_ne]
        exact this.imp fun h e => h (by rw [e])
      exact h2.filter _
    have hym : y ∈ openL kn q.c := openL_mem.2 ⟨hy, hk⟩
    match hl : openL kn q.c, hone, hnd, hym with
    | [], _, _, hym => simp at hym
    | [_], _, _, _ => rfl
    | a :: b :: l, hone, hnd, _ =>
      have h1 := hone a (by simp)
      have h2 := hone b (by simp)
      rw [List.nodup_cons] at hnd
      exact absurd (by rw [h1, ← h2]; simp) hnd.1
/-- What is left of all rows. -/
def leftE (kn : List Bool) (vs : List (List Int)) (Eqs : List Eqn) : List Eqn := (Eqs.filter fun q => decide (0 < (openL kn q.c).length)).map fun q => ⟨openL kn q.c, restL kn vs q.c q.d⟩
structure PeelOkIs (n S : Nat) (E : List (PL.E L.V)) (kn : List Bool) (vs : List (List Int)) : Prop where
  len : kn.length = n
  val : Valed S kn vs
  no : ∀ x, kn.getD x false = false → vs.getD x [] = []
  der : ∀ x, kn.getD x false = true ↔ PL.Der E x
  holds : PL.Holds VT E (valV vs)
def PeelSays (n : Int) (Eqs : List Eqn) (kn : List Bool) (vs : List (List Int)) (rs : List Eqn) (e : Int) : Prop :=
  (¬ MayEqs n Eqs ∧ e = 1 ∧ kn = [] ∧ vs = [] ∧ rs = []) ∨
  (MayEqs n Eqs ∧ (¬ ∃ v, PL.Holds VT (Eqs.map toE) v) ∧ e = 10 ∧ kn = [] ∧ vs = [] ∧ rs = []) ∨
  (MayEqs n Eqs ∧ e = 0 ∧ PeelOkIs n.toNat (dlen Eqs) (Eqs.map toE) kn vs ∧ rs = leftE kn vs Eqs)
theorem PeelOkIs.unique {n S : Nat} {E : List (PL.E L.V)} {kn kn' : List Bool} {vs vs' : List (List Int)} (hn : ∀ q, q ∈ E → q.cols.Nodup) (h : PeelOkIs n S E kn vs) (h' : PeelOkIs n S E kn' vs') : kn = kn' ∧ vs = vs' := by
  have e1 : kn = kn' := eq_of_getDb (by rw [h.len, h'.len]) fun x _ => by
    rw [Bool.eq_iff_iff, h.der, h'.der]
  subst e1
  refine ⟨rfl, ?_⟩
  have hl : vs.length = vs'.length := by rw [h.val.1, h'.val.1]
  apply List.ext_getElem hl
  intro x h1 h2
  have key : vs.getD x [] = vs'.getD x [] := by
    cases hk : kn.getD x false with
    | false => rw [h.no x hk, h'.no x hk]
    | true =>
      obtain ⟨a1, a2⟩ := h.val.2 x hk
      obtain ⟨b1, b2⟩ := h'.val.2 x hk
      exact vec_inj (by rw [a1, b1]) a2 b2 (PL.Holds.unique VT hn h.holds h'.holds ((h.der x).1 hk))
  rw [List.getD_eq_getElem?_getD, List.getD_eq_getElem?_getD, List.getElem?_eq_getElem h1, List.getElem?_eq_getElem h2] at key
  exact key
theorem PeelSays.unique {n : Int} {Eqs : List Eqn} {kn kn' : List Bool} {vs vs' : List (List Int)} {rs rs' : List Eqn} {e e' : Int} (h : PeelSays n Eqs kn vs rs e) (h' : PeelSays n Eqs kn' vs' rs' e') : kn = kn' ∧ vs = vs' ∧ rs = rs' ∧ e = e' := by
  have hnd : MayEqs n Eqs → ∀ q, q ∈ Eqs.map toE → q.cols.Nodup := fun hm q hq => by
    obtain ⟨r, hr, rfl⟩ := List.mem_map.1 hq
    exact mayRow_nodup (hm.2.2 r hr).1
  rcases h with ⟨a0, a1, a2, a3, a4⟩ | ⟨a0, a1, a2, a3, a4, a5⟩ | ⟨a0, a1, a2, a3⟩ <;> rcases h' with ⟨b0, b1, b2, b3, b4⟩ | ⟨b0, b1, b2, b3, b4, b5⟩ | ⟨b0, b1, b2, b3⟩
  · exact ⟨by rw [a2, b2], by rw [a3, b3], by rw [a4, b4], by rw [a1, b1]⟩
  · exact absurd b0 a0
  · exact absurd b0 a0
  · exact absurd a0 b0
  · exact ⟨by rw [a3, b3], by rw [a4, b4], by rw [a5, b5], by rw [a2, b2]⟩
  · exact absurd ⟨_, b2.holds⟩ a1
  · exact absurd a0 b0
  · exact absurd ⟨_, a2.holds⟩ b1
  · obtain ⟨c1, c2⟩ := PeelOkIs.unique (hnd a0) a2 b2
    exact ⟨c1, c2, by rw [a3, b3, c1, c2], by rw [a1, b1]⟩
end Go.Proofs.Ytjibmgdafpempaa
namespace Go.Proofs.Ytjibmgdafpempaa
open Go.RowKit

/-- A block's cells that are nil rows. -/
def nils (n : Nat) : Array Value := (List.replicate n (Value.slice none 0 0)).toArray
theorem nils_made (n : Nat) : madeCells #[.slice none 0 0] n = nils n := by
  apply Array.ext'
  rw [toList_madeCells_one]
  simp [nils]
theorem make24 (l c : Nat) (h : l ≤ c) (hc : c ≤ 1000000) (w : World) :
    (Instr.makeSlice 30 (.int .i64 (l : Int)) (.int .i64 (c : Int))).run Try.prog w = .ok (.slice (some ⟨w.heap.size, 0, none⟩) l c) (w.alloc (.cells (nils c) 24)) := by
  obtain ⟨i, hi, hzz⟩ := Option.map_eq_some_iff.1 info22
  simp only [Prod.mk.injEq] at hzz
  obtain ⟨hz, hs, hb⟩ := hzz
  have hr := run_make (P := Try.prog) w 30 24 i _ Try.underlying30 hi hz .i64 .i64 l c (by omega) (by omega) (by rw [hb]; omega) (by omega)
  rw [Int.toNat_natCast, Int.toNat_natCast, hs, Nat.mul_one] at hr
  rw [hr, ← nils_made]
  rfl
set_option maxHeartbeats 400000 in
theorem clone_any (v : Value) (l : List Int) (w : World) (h : Bs w v l) (hl : l.length ≤ 1000000) :
    Calls Try.prog 34 #[v] w fun e w' => ∃ v', e = .returned v' ∧ w'.ownsRow w.heap.size 5 1 v' l.length (l.map (Value.int .u8)) ∧ Gr w w' := by
  have HS := Lib.hid h
  obtain ⟨_, oa, c, rfl, h1, h2, h3, _⟩ := h
  obtain ⟨n, hn⟩ : ∃ n, l.length = n := ⟨_, rfl⟩
  rw [hn] at HS h1 hl ⊢
  have HN := Lib.hid hn
  clear hn
  have hnil : ∀ (W : World) (x : Option Addr) (p q : Nat), (binOp .eql 24 (.slice x p q) (.slice none 0 0)).run Try.prog W = .ok (.bool x.isNone) W := fun W x p q => Lib.run_eql_slice_nil W _ _ x p q 0 0 Try.underlying24
  cases oa with
  | none =>
    obtain rfl : c = 0 := h3 rfl
    obtain rfl : n = 0 := by omega
    obtain rfl : l = [] := List.eq_nil_of_length_eq_zero HN.out
    clear HS h3
    go_enter Try.func34, Try.ntmps34
    go_wp2
    go_ret
    exact ⟨_, rfl, World.ownsRow_nil _ _ _ _, Gr.refl _⟩
  | some a =>
    clear h3
    have hown : Hid ((w.alloc (.cells #[] 5)).ownsRow w.heap.size 5 1 (.slice (some ⟨w.heap.size, 0, none⟩) 0 0) 0 (([] : List Int).map (Value.int .u8))) := Lib.hid ⟨rfl, .inr ⟨w.heap.size, 0, #[], rfl, Nat.le_refl _, heap_alloc_new _ _, Nat.le_refl _, by unfold maxLen; omega, rfl, rfl⟩⟩
    have hg : Hid (Gr w (w.alloc (.cells #[] 5))) := Lib.hid (Gr.alloc (Gr.refl _) _ _)
    go_enter Try.func34, Try.ntmps34
    go_wp2_with (first
      | (at_builtin; refine wpList_append_bytes rfl _ _ rfl w.heap.size _ 0 [] rfl (by exact hown.out) (some a) n c l rfl (Bs.grown HS.out hg.out) (by omega) (by exact hg.out.size) ?_; intro v2 w2 hown2 hgrow2; rw [Nat.zero_add, List.nil_append] at hown2; obtain ⟨o2, c2, rfl⟩ := ownsRow_form hown2; have H2 := Lib.hid hown2; have G2 := Lib.hid (Gr.append hg.out hgrow2 (ownsRow_base hown.out)); clear hown2 hgrow2))
    go_ret
    exact ⟨_, rfl, H2.out, G2.out⟩
theorem clone_new (v : Value) (l : List Int) (w : World) (h : Bs w v l) (hl : l.length ≤ 1000000) :
    Calls Try.prog 34 #[v] w fun e w' => ∃ v', e = .returned v' ∧ New w w' v' l := by
  have hb := h.1
  refine (clone_any v l w h hl).mono ?_
  rintro e w' ⟨v', rfl, h1, h2⟩
  exact ⟨v', rfl, New.of_row h2 hb h1⟩
set_option maxHeartbeats 400000 in
theorem clone_nil (w : World) :
    Calls Try.prog 34 #[.slice none 0 0] w fun e w' => e = .returned (.slice none 0 0) ∧ w = w' := by
  have hnil : ∀ (W : World) (x : Option Addr) (p q : Nat), (binOp .eql 24 (.slice x p q) (.slice none 0 0)).run Try.prog W = .ok (.bool x.isNone) W := fun W x p q => Lib.run_eql_slice_nil W _ _ x p q 0 0 Try.underlying24
  go_enter Try.func34, Try.ntmps34
  go_wp2
  go_ret
  exact ⟨rfl, rfl⟩
end Go.Proofs.Ytjibmgdafpempaa
namespace Go.Proofs.Ytjibmgdafpempaa
open Go.RowKit

def noE : Eqn := ⟨[], []⟩
/-- The i-th row of ones behind offset o of block b. -/
def EqAt (w : World) (b o i : Nat) (q : Eqn) : Prop := ∃ oc nc cc od nd cd, w.cell? ⟨b, o + i * 2, none⟩ = some (.slice oc nc cc) ∧ w.cell? ⟨b, o + i * 2 + 1, none⟩ = some (.slice od nd cd) ∧ Zs w (.slice oc nc cc) q.c ∧ Bs w (.slice od nd cd) q.d
theorem EqAt.grown {w w' : World} {b o i : Nat} {q : Eqn} (h : EqAt w b o i q) (hg : Gr w w') : EqAt w' b o i q := by
  obtain ⟨oc, nc, cc, od, nd, cd, h1, h2, h3, h4⟩ := h
  exact ⟨oc, nc, cc, od, nd, cd, cell_gr hg h1, cell_gr hg h2, h3.grown hg, h4.grown hg⟩
/-- v is a slice of rows of ones that reads as L in w. -/
def Eqs (w : World) (v : Value) (L : List Eqn) : Prop :=
  ∃ oa c, v = .slice oa L.length c ∧ L.length ≤ c ∧ c ≤ 9223372036854775807 ∧ (oa = none → c = 0) ∧ (0 < L.length → ∃ b o, oa = some ⟨b, o, none⟩ ∧ ∀ i, i < L.length → EqAt w b o i (L.getD i noE))
theorem Eqs.grown {w w' : World} {v : Value} {L : List Eqn} (h : Eqs w v L) (hg : Gr w w') : Eqs w' v L := by
  obtain ⟨oa, c, h1, h2, h3, h4, h5⟩ := h
  refine ⟨oa, c, h1, h2, h3, h4, fun h0 => ?_⟩
  obtain ⟨b, o, q1, q2⟩ := h5 h0
  exact ⟨b, o, q1, fun i hi => (q2 i hi).grown hg⟩
theorem Eqs.nil (w : World) : Eqs w (.slice none 0 0) [] := ⟨none, 0, rfl, by simp, by omega, fun _ => rfl, fun h => by simp at h⟩
theorem Eqs.form {w : World} {v : Value} {L : List Eqn} (h : Eqs w v L) : ∃ o c, v = .slice o L.length c := by
  obtain ⟨oa, c, h1, _⟩ := h
  exact ⟨oa, c, h1⟩
theorem Eqs.lay {w : World} {oa : Option Addr} {m c : Nat} {L : List Eqn} (h : Eqs w (.slice oa m c) L) (hm : 0 < m) : ∃ b o, oa = some ⟨b, o, none⟩ ∧ ∀ i, i < m → EqAt w b o i (L.getD i noE) := by
  obtain ⟨oa', c', he, h2, h3, h4, h5⟩ := h
  obtain ⟨rfl, rfl, rfl⟩ : oa = oa' ∧ m = L.length ∧ c = c' := by simpa using he
  exact h5 hm
theorem Eqs.at {w : World} {b o m c : Nat} {L : List Eqn} (h : Eqs w (.slice (some ⟨b, o, none⟩) m c) L) {i : Nat} (hi : i < m) : EqAt w b o i (L.getD i noE) := by
  obtain ⟨b', o', he, h2⟩ := h.lay (by omega)
  simp at he
  obtain ⟨rfl, rfl⟩ := he
  exact h2 i hi
theorem gr_drN (W : World) (d : Nat) : Gr W (W.drewN d) := Gr.refl W
theorem Eqs.byt {w : World} {v : Value} {L : List Eqn} (h : Eqs w v L) : ∀ q ∈ L, ∀ z ∈ q.d, Byt z := fun q hq => by
  obtain ⟨i, hi, rfl⟩ := List.getElem_of_mem hq
  obtain ⟨oa, c, rfl, _, _, _, h5⟩ := h
  obtain ⟨b, o, _, h6⟩ := h5 (by omega)
  obtain ⟨_, _, _, _, _, _, _, _, _, h7⟩ := h6 i hi
  rw [List.getD_eq_getElem?_getD, List.getElem?_eq_getElem hi] at h7
  exact h7.1
theorem cell_far {W : World} {x y : Addr} {v u : Value} (h : W.cell? x = some u) (hne : x ≠ y) : (W.setCell y v).cell? x = some u := by
  rw [World.cell?_setCell_other _ _ _ _ hne.symm]
  exact h
theorem results_tmp4 {fn : Func} {t u v z : Tmp} (h : fn.results = #[.tmp t, .tmp u, .tmp v, .tmp z]) (tmps : Array Value) (P : Program) (w : World) :
    (results fn tmps).run P w = .ok (.tuple #[tmps.getD t undef, tmps.getD u undef, tmps.getD v undef, tmps.getD z undef]) w := by
  simp [results, h]
/-- The row may be, beside the first one. -/
def RowOkE (n : Int) (L : List Eqn) (q : Eqn) : Prop := MayRow n q.c ∧ q.d.length = dlen L
theorem dlen_at {L : List Eqn} (h : 0 < L.length) : (L.getD 0 noE).d.length = dlen L := by
  cases L with
  | nil => simp at h
  | cons q L => rfl
theorem getD_memE {L : List Eqn} {i : Nat} (h : i < L.length) : L.getD i noE ∈ L := by
  rw [List.getD_eq_getElem?_getD, List.getElem?_eq_getElem h]
  exact List.getElem_mem h
/-- Since w0: block gk has what is known, block gv the values, in memory of one's own. -/
structure KV (w0 W : World) (gk gv N : Nat) (kn : List Bool) (vs : List (List Int)) (us : List Value) : Prop where
  k : Blt W gk kn
  klow : w0.heap.size ≤ gk
  klen : kn.length = N
  own : W.ownsRow w0.heap.size 24 1 (.slice (some ⟨gv, 0, none⟩) N N) N us
  row : ∀ i, i < N → Bs W (us.getD i undef) (vs.getD i []) ∧ Rb w0.heap.size W (us.getD i undef)
  vlen : vs.length = N
  gr : Gr w0 W
section
variable {w0 W : World} {gk gv N : Nat} {kn : List Bool} {vs : List (List Int)} {us : List Value}
theorem KV.grow {W' : World} (h : KV w0 W gk gv N kn vs us) (hg : Gr W W') : KV w0 W' gk gv N kn vs us :=
  ⟨h.k.grown hg, h.klow, h.klen, h.own.of_gr hg, fun i hi => Rb.gr (h.row i hi).1 (h.row i hi).2 hg, h.vlen, Gr.trans h.gr hg⟩
theorem KV.low (h : KV w0 W gk gv N kn vs us) : w0.heap.size ≤ gv := (ownsRow_not_bytes h.own gv rfl).1
theorem KV.cellV (h : KV w0 W gk gv N kn vs us) (i : Nat) (hi : i < N) : W.cell? ⟨gv, i, none⟩ = some (us.getD i undef) := by
  obtain ⟨g', c', he, _, _, _, _, hc⟩ := ownsRow_cell h.own (by omega)
  cases he
  exact hc i hi
theorem KV.rowV (h : KV w0 W gk gv N kn vs us) : ∃ cur, W.heap[gv]? = some (.cells cur 24 (0, 0)) := by
  obtain ⟨_, ⟨he, _⟩ | ⟨g', c', cur, he, _, hg, _⟩⟩ := h.own
  · cases he
  · cases he
    exact ⟨cur, hg⟩
theorem KV.frozenV (h : KV w0 W gk gv N kn vs us) (i : Nat) : W.frozen? ⟨gv, i, none⟩ = false := by
  obtain ⟨cur, hg⟩ := h.rowV
  exact frozen_of_row W gv i _ _ hg
theorem KV.ne (h : KV w0 W gk gv N kn vs us) : gk ≠ gv := fun e => by
  obtain ⟨cur, hg⟩ := h.rowV
  have h1 := h.k
  unfold Blt at h1
  rw [e, hg] at h1
  simp at h1
theorem KV.cellK (h : KV w0 W gk gv N kn vs us) (i : Nat) (hi : i < N) : W.cell? ⟨gk, i, none⟩ = some (.bool (kn.getD i false)) := h.k.cell i (by rw [h.klen]; exact hi)
theorem KV.bl (h : KV w0 W gk gv N kn vs us) (hN : N ≤ 1000000) : Bl W (.slice (some ⟨gk, 0, none⟩) N N) kn := by
  have := h.k.bl (by rw [h.klen]; exact hN)
  rwa [h.klen] at this
theorem KV.bss (h : KV w0 W gk gv N kn vs us) : Bss W (.slice (some ⟨gv, 0, none⟩) N N) vs := owns_bss h.own h.vlen fun i hi => (h.row i (by rw [← h.vlen]; exact hi)).1
/-- A value is set. -/
theorem KV.putV {u : Value} {l : List Int} (h : KV w0 W gk gv N kn vs us) {x : Nat} (hx : x < N) (hb : Bs W u l) (hrb : Rb w0.heap.size W u) : KV w0 (W.setCell ⟨gv, x, none⟩ u) gk gv N kn (vs.set x l) (us.set x u) := by
  obtain ⟨h1, h2⟩ := Rws.set h.own h.vlen h.row x hx hb hrb
  refine ⟨?_, h.klow, h.klen, h1, h2, by rw [List.length_set]; exact h.vlen, Gr.setCell h.gr h.low u⟩
  have h3 := h.k
  unfold Blt at *
  rw [heap_setCell_other _ _ _ _ h.ne]
  exact h3
/-- A column is known. -/
theorem KV.putK (h : KV w0 W gk gv N kn vs us) (x : Nat) (b : Bool) : KV w0 (W.setCell ⟨gk, x, none⟩ (.bool b)) gk gv N (kn.set x b) vs us := by
  have hrow : ∀ q, some gk = some q → w0.heap.size ≤ q ∧ ∀ cur, W.heap[q]? ≠ some (.cells cur 5 (0, 0)) := fun q e => by
    cases e
    refine ⟨h.klow, fun cur hc => ?_⟩
    have h3 := h.k
    unfold Blt at h3
    rw [h3] at hc
    simp at hc
  exact ⟨h.k.set x b, h.klow, by rw [List.length_set]; exact h.klen, ownsRow_far h.own (fun e => h.ne (by cases e; rfl)), fun i hi => row_far (h.row i hi).1 (h.row i hi).2 hrow, h.vlen, Gr.setCell h.gr h.klow _⟩
end
theorem KV.of_blocks {w0 W : World} {gk gv N : Nat} (hN : N ≤ 1000000) (h1 : W.heap[gk]? = some (.cells (rowT (List.replicate N false)) 4 (0, 0))) (h2 : W.heap[gv]? = some (.cells (nils N) 24 (0, 0))) (hk : w0.heap.size ≤ gk) (hv : w0.heap.size ≤ gv) (hg : Gr w0 W) :
    KV w0 W gk gv N (List.replicate N false) (List.replicate N []) (List.replicate N (.slice none 0 0)) := by
  refine ⟨h1, hk, by simp, ⟨by simp, .inr ⟨gv, N, nils N, rfl, hv, h2, Nat.le_refl _, by unfold maxLen; omega, by simp [nils], by simp [nils]⟩⟩, fun i hi => ?_, by simp, hg⟩
  have e1 : (List.replicate N (Value.slice none 0 0)).getD i undef = .slice none 0 0 := by rw [List.getD_eq_getElem?_getD, List.getElem?_replicate, if_pos hi]; rfl
  have e2 : (List.replicate N ([] : List Int)).getD i [] = [] := by rw [List.getD_eq_getElem?_getD, List.getElem?_replicate, if_pos hi]; rfl
  rw [e1, e2]
  exact ⟨Bs.nil _, fun a n c e _ => by cases e⟩
theorem KV.start {w0 W : World} (N : Nat) (hN : N ≤ 1000000) (hg : Gr w0 W) : KV w0 ((W.alloc (.cells (rowT (List.replicate N false)) 4)).alloc (.cells (nils N) 24)) W.heap.size (W.heap.size + 1) N (List.replicate N false) (List.replicate N []) (List.replicate N (.slice none 0 0)) :=
  KV.of_blocks hN (heap_alloc2_old _ _ _) (heap_alloc2_new _ _ _) hg.size (by have := hg.size; omega) (Gr.alloc (Gr.alloc hg _ _) _ _)
theorem KV.start' {w0 W : World} (N : Nat) (hN : N ≤ 1000000) (hg : Gr w0 W) : KV w0 ((W.alloc (.cells (nils N) 24)).alloc (.cells (rowT (List.replicate N false)) 4)) (W.heap.size + 1) W.heap.size N (List.replicate N false) (List.replicate N []) (List.replicate N (.slice none 0 0)) :=
  KV.of_blocks hN (heap_alloc2_new _ _ _) (heap_alloc2_old _ _ _) (by have := hg.size; omega) hg.size (Gr.alloc (Gr.alloc hg _ _) _ _)
/-- How many are not known. -/
def unk (kn : List Bool) (N : Nat) : Nat := ((List.range N).filter fun i => !(kn.getD i false)).length
open Classical in
noncomputable def unkW (W : World) (gk N : Nat) : Nat := ((List.range N).filter fun i => decide (W.cell? ⟨gk, i, none⟩ = some (.bool false))).length
theorem KV.unkW {w0 W : World} {gk gv N : Nat} {kn : List Bool} {vs : List (List Int)} {us : List Value} (h : KV w0 W gk gv N kn vs us) : unkW W gk N = unk kn N := by
  unfold Go.Proofs.Ytjibmgdafpempaa.unkW unk
  congr 1
  refine List.filter_congr fun i hi => ?_
  rw [h.cellK i (List.mem_range.1 hi)]
  cases kn.getD i false <;> simp
theorem unk_set {kn : List Bool} {N x : Nat} (hl : kn.length = N) (hx : x < N) (hk : kn.getD x false = false) : unk (kn.set x true) N < unk kn N := by
  unfold unk
  have h1 : ((List.range N).filter fun i => !((kn.set x true).getD i false)) = ((List.range N).filter fun i => !(kn.getD i false)).filter fun i => i != x := by
    rw [List.filter_filter]
    refine List.filter_congr fun i _ => ?_
    by_cases e : x = i
    · subst e
      rw [getD_set_selfT (by omega)]
      simp
    · rw [getD_set_neT e]
      have : (i != x) = true := by simpa using fun h : i = x => e h.symm
      rw [this]
      simp
  rw [h1]
  have hm : x ∈ (List.range N).filter fun i => !(kn.getD i false) := List.mem_filter.2 ⟨List.mem_range.2 hx, by rw [hk]; rfl⟩
  exact List.length_filter_lt_length_iff_exists.2 ⟨x, hm, by simp⟩
/-- The ints lie in memory of ints, or ahead of base. -/
def Rz (base : Nat) (w : World) (u : Value) : Prop := ∀ a n c, u = .slice (some a) n c → 0 < n → a.block < base ∨ ∃ cur, w.heap[a.block]? = some (.cells cur 3 (0, 0))
theorem Rz.kept {base : Nat} {w w' : World} {u : Value} {l : List Int} {row : Option Nat} (hb : Zs w u l) (hr : Rz base w u)
    (hk : ∀ k, k < w.heap.size → some k ≠ row → w'.heap[k]? = w.heap[k]?) (hrow : ∀ g, row = some g → base ≤ g ∧ ∀ cur, w.heap[g]? ≠ some (.cells cur 3 (0, 0))) : Zs w' u l ∧ Rz base w' u := by
  have far : ∀ a n c, u = .slice (some a) n c → 0 < n → a.block < w.heap.size → w'.heap[a.block]? = w.heap[a.block]? := by
    intro a n c hu hn hlt
    refine hk _ hlt fun e => ?_
    obtain ⟨h1, h2⟩ := hrow a.block e.symm
    rcases hr a n c hu hn with h | ⟨cur, h⟩
    · omega
    · exact h2 cur h
  obtain ⟨h0, oa, c, rfl, h2, h3, h4, h5⟩ := hb
  refine ⟨⟨h0, oa, c, rfl, h2, h3, h4, fun a ha i hi => ?_⟩, fun a n c' hu hn => ?_⟩
  · have hc := h5 a ha i hi
    subst ha
    have hlt := World.block_lt_of_cell? w _ hc
    have hbl : (a.add i).block = a.block := by unfold Addr.add; split <;> rfl
    rw [hbl] at hlt
    rw [World.cell?_of_block (w := w) (w' := w') (a := a.add i) (by rw [hbl]; exact far a _ _ rfl (by omega) hlt)]
    exact hc
  · rcases hr a n c' hu hn with h | ⟨cur, h⟩
    · exact .inl h
    · refine .inr ⟨cur, ?_⟩
      have hlt : a.block < w.heap.size := by
        rcases Nat.lt_or_ge a.block w.heap.size with hlt | hge
        · exact hlt
        · rw [Array.getElem?_eq_none hge] at h
          cases h
      rw [far a n c' hu hn hlt, h]
theorem Rz.gr {base : Nat} {w w' : World} {u : Value} {l : List Int} (hb : Zs w u l) (hr : Rz base w u) (hg : Gr w w') : Zs w' u l ∧ Rz base w' u :=
  Rz.kept (row := none) hb hr (fun k hk _ => hg.2.2.2.2 k hk) (fun g h => by cases h)
/-- One row of ones, as two values. -/
def EqVal (base : Nat) (w : World) (uc ud : Value) (q : Eqn) : Prop := Zs w uc q.c ∧ Rz base w uc ∧ Bs w ud q.d ∧ Rb base w ud
theorem EqVal.gr {base : Nat} {w w' : World} {uc ud : Value} {q : Eqn} (h : EqVal base w uc ud q) (hg : Gr w w') : EqVal base w' uc ud q :=
  ⟨(Rz.gr h.1 h.2.1 hg).1, (Rz.gr h.1 h.2.1 hg).2, (Rb.gr h.2.2.1 h.2.2.2 hg).1, (Rb.gr h.2.2.1 h.2.2.2 hg).2⟩
/-- Rows of ones in memory of one's own. -/
def EqsO (base : Nat) (w : World) (v : Value) (L : List Eqn) : Prop := ∃ us, w.ownsRow base 27 2 v L.length us ∧ ∀ i, i < L.length → EqVal base w (us.getD (i * 2) undef) (us.getD (i * 2 + 1) undef) (L.getD i noE)
theorem EqsO.nil (base : Nat) (w : World) : EqsO base w (.slice none 0 0) [] := ⟨[], World.ownsRow_nil _ _ _ _, fun i hi => by simp at hi⟩
theorem EqsO.grown {base : Nat} {w w' : World} {v : Value} {L : List Eqn} (h : EqsO base w v L) (hg : Gr w w') : EqsO base w' v L := by
  obtain ⟨us, ho, hr⟩ := h
  exact ⟨us, ho.of_gr hg, fun i hi => (hr i hi).gr hg⟩
theorem EqsO.form {base : Nat} {w : World} {v : Value} {L : List Eqn} (h : EqsO base w v L) : ∃ o c, v = .slice o L.length c := by
  obtain ⟨us, ⟨_, ⟨rfl, h⟩ | ⟨g, c, cur, rfl, _⟩⟩, _⟩ := h
  · exact ⟨none, 0, by rw [h]⟩
  · exact ⟨_, _, rfl⟩
theorem EqsO.eqs {base : Nat} {w : World} {v : Value} {L : List Eqn} (h : EqsO base w v L) : Eqs w v L := by
  obtain ⟨us, ⟨hlen, ⟨rfl, h0⟩ | ⟨g, c, cur, rfl, h1, h2, h3, h4, h5, h6⟩⟩, hr⟩ := h
  · obtain rfl : L = [] := List.eq_nil_of_length_eq_zero h0
    exact Eqs.nil w
  · refine ⟨_, c, rfl, h3, by unfold maxLen at h4; omega, (fun e => by cases e), fun _ => ⟨g, 0, rfl, fun i hi => ?_⟩⟩
    obtain ⟨z1, _, z3, _⟩ := hr i hi
    obtain ⟨oc, cc, e1⟩ := z1.form
    obtain ⟨od, cd, e2⟩ := z3.form
    have hcell : ∀ j, j < L.length * 2 → w.cell? ⟨g, j, none⟩ = some (us.getD j undef) := fun j hj => by
      rw [cell_of_row _ _ _ _ _ _ h2]
      have e : (cur.toList.take (L.length * 2))[j]? = us[j]? := by rw [h6]
      rw [List.getElem?_take_of_lt hj] at e
      have hus : j < us.length := by omega
      rw [List.getD_eq_getElem?_getD, List.getElem?_eq_getElem hus]
      rw [List.getElem?_eq_getElem hus] at e
      simpa using e
    rw [e1] at z1
    rw [e2] at z3
    exact ⟨oc, _, cc, od, _, cd, by rw [Nat.zero_add, hcell _ (by omega), e1], by rw [Nat.zero_add, hcell _ (by omega), e2], z1, z3⟩
theorem infoE : (Try.prog.info? 27).map (fun i => (i.zero.map (·.cells.size), i.size, i.bytes)) = some (some 2, 2, 48) := by kernel_rfl
theorem eq_not {w : World} {base : Nat} {v : Value} {n : Nat} {us : List Value} (h : w.ownsRow base 27 2 v n us) {t : TypeId} (ht : t ≠ 27) : ∀ g, v.ownBlock = some g → base ≤ g ∧ ∀ cur, w.heap[g]? ≠ some (.cells cur t (0, 0)) := by
  intro g hg
  obtain ⟨_, ⟨rfl, _⟩ | ⟨g', c, cur, rfl, hb, hgg, _⟩⟩ := h
  · cases hg
  · simp [Value.ownBlock] at hg
    subst hg
    refine ⟨hb, fun cur' e => ?_⟩
    rw [hgg] at e
    simp at e
    exact ht e.2.symm
theorem EqVal.kept {base : Nat} {w w' : World} {uc ud v : Value} {q : Eqn} {n : Nat} {us : List Value} (h : EqVal base w uc ud q) (ho : w.ownsRow base 27 2 v n us) (hg : w.grownBy w' v.ownBlock) : EqVal base w' uc ud q :=
  ⟨(Rz.kept h.1 h.2.1 hg.block (eq_not ho (by decide))).1, (Rz.kept h.1 h.2.1 hg.block (eq_not ho (by decide))).2, (Rb.kept h.2.2.1 h.2.2.2 hg.block (eq_not ho (by decide))).1, (Rb.kept h.2.2.1 h.2.2.2 hg.block (eq_not ho (by decide))).2⟩
theorem eq_base {w : World} {base : Nat} {v : Value} {n : Nat} {us : List Value} (h : w.ownsRow base 27 2 v n us) : ∀ g, v.ownBlock = some g → base ≤ g := by
  intro g hg
  obtain ⟨_, ⟨rfl, _⟩ | ⟨g', c, cur, rfl, hb, hgg, _⟩⟩ := h
  · cases hg
  · simp [Value.ownBlock] at hg
    omega
theorem KV.through {w0 W W' : World} {gk gv N : Nat} {kn : List Bool} {vs : List (List Int)} {us : List Value} {row : Option Nat} (h : KV w0 W gk gv N kn vs us) (hg : W.grownBy W' row) (hrow : ∀ t : TypeId, t ≠ 27 → ∀ g, row = some g → w0.heap.size ≤ g ∧ ∀ cur, W.heap[g]? ≠ some (.cells cur t (0, 0))) (hgr : Gr w0 W') : KV w0 W' gk gv N kn vs us := by
  have h3 := h.k
  unfold Blt at h3
  obtain ⟨cur, h4⟩ := h.rowV
  refine ⟨?_, h.klow, h.klen, ownsRow_through h.own hg (.inr fun e => ?_), fun i hi => Rb.kept (h.row i hi).1 (h.row i hi).2 hg.block (hrow _ (by decide)), h.vlen, hgr⟩
  · unfold Blt
    rw [hg.block gk (Array.getElem?_eq_some_iff.1 h3).1 (fun e => (hrow 4 (by decide) gk e.symm).2 _ h3)]
    exact h3
  · exact (hrow 24 (by decide) gv e.symm).2 _ h4
/-- append of one row of ones. -/
theorem wpList_append_eq {w : World} {ops : Array Oper} {rest : List Oper} {o : Oper} {a : Act} {Q : Exit → Act → World → Prop} (hgd : o.guard = none) (s x : Operand)
    (ho : o.op = .call { callee := .builtin .append, args := #[s, x], argTypes := #[22, 22] }) (base : Nat) (v : Value) (L : List Eqn) (hs : a.eval s = v) (hR : EqsO base w v L)
    (g : Nat) (uc ud : Value) (q : Eqn) (hx : a.eval x = .slice (some ⟨g, 0, none⟩) 1 1) (hc : w.cell? ⟨g, 0, none⟩ = some uc) (hd : w.cell? ⟨g, 1, none⟩ = some ud) (hq : EqVal base w uc ud q) (hm : L.length ≤ 100000) (hbase : base ≤ w.heap.size)
    (h : ∀ v' w', EqsO base w' v' (L ++ [q]) → (∀ w0, Gr w0 w → w0.heap.size ≤ base → Gr w0 w') → w.grownBy w' v.ownBlock → (∀ t : TypeId, t ≠ 27 → ∀ g, v.ownBlock = some g → base ≤ g ∧ ∀ cur, w.heap[g]? ≠ some (.cells cur t (0, 0))) → wpList Try.prog ops Q rest (a.put o.dst v') w') : wpList Try.prog ops Q (o :: rest) a w := by
  obtain ⟨i, hi, hzz⟩ := Option.map_eq_some_iff.1 infoE
  simp only [Prod.mk.injEq] at hzz
  obtain ⟨hz0, hz1, hz2⟩ := hzz
  obtain ⟨z, hz, hzs⟩ := Option.map_eq_some_iff.1 hz0
  obtain ⟨us, hown, hr⟩ := hR
  obtain ⟨oc, cc, e1⟩ := hq.1.form
  obtain ⟨od, cd, e2⟩ := hq.2.2.1.form
  refine wpList_append_own w hgd s x 22 ho base 27 i z 2 48 Try.underlying22 hi hz hz1 hz2 hzs (by omega) v L.length us hs hown ⟨g, 0, none⟩ 1 1 [uc, ud] hx rfl (fun j u hj => by
    match j, hj with
    | 0, hj =>
      obtain rfl : uc = u := by simpa using hj
      exact hc
    | 1, hj =>
      obtain rfl : ud = u := by simpa using hj
      exact hd
    | j + 2, hj => simp at hj) (fun u hu => by
      simp at hu
      rcases hu with rfl | rfl
      · rw [e1]; rfl
      · rw [e2]; rfl) (by unfold maxLen; omega) (by omega) hbase ?_
  intro v' w' h1 h2 _
  have hlen : us.length = L.length * 2 := hown.1
  refine h v' w' ⟨us ++ [uc, ud], by rw [List.length_append]; exact h1, fun k hk => ?_⟩ (fun w0 hg hb => Gr.append hg h2 fun k hv => by have := eq_base hown k hv; omega) h2 (fun t ht => eq_not hown ht)
  rw [List.length_append, List.length_singleton] at hk
  by_cases e : k < L.length
  · rw [List.getD_eq_getElem?_getD, List.getD_eq_getElem?_getD, List.getD_eq_getElem?_getD, List.getElem?_append_left (by omega), List.getElem?_append_left (by omega), List.getElem?_append_left e, ← List.getD_eq_getElem?_getD, ← List.getD_eq_getElem?_getD, ← List.getD_eq_getElem?_getD]
    exact (hr k e).kept hown h2
  · obtain rfl : k = L.length := by omega
    have d1 : (us ++ [uc, ud]).getD (L.length * 2) undef = uc := by rw [List.getD_eq_getElem?_getD, List.getElem?_append_right (by omega), hlen, Nat.sub_self]; rfl
    have d2 : (us ++ [uc, ud]).getD (L.length * 2 + 1) undef = ud := by rw [List.getD_eq_getElem?_getD, List.getElem?_append_right (by omega), hlen, Nat.add_sub_cancel_left]; rfl
    have d3 : (L ++ [q]).getD L.length noE = q := by rw [List.getD_eq_getElem?_getD, List.getElem?_append_right (by omega)]; simp
    rw [d1, d2, d3]
    exact hq.kept hown h2
theorem openL_nil {kn : List Bool} {c : List Int} (h : openL kn c = []) : ∀ x ∈ c, kn.getD x.toNat false = true := fun x hx => by
  cases hk : kn.getD x.toNat false with
  | true => rfl
  | false =>
    have : x ∈ openL kn c := openL_mem.2 ⟨hx, hk⟩
    rw [h] at this
    cases this
theorem rest_all {S : Nat} {kn : List Bool} {vs : List (List Int)} (hv : Valed S kn vs) {c d : List Int} (h1 : d.length = S) (h2 : ∀ z ∈ d, Byt z) (h : openL kn c = []) : vec (restL kn vs c d) = L.vadd (vec d) (PL.tot VT (valV vs) (c.map Int.toNat)) := by
  rw [vec_rest hv c d h1 h2]
  congr 2
  refine List.filter_eq_self.2 fun x hx => ?_
  obtain ⟨y, hy, rfl⟩ := List.mem_map.1 hx
  exact openL_nil h y hy
/-- A row all of whose columns are known does not hold: nothing does. -/
theorem PeelInv.clash {n S : Nat} {Eqs : List Eqn} {kn : List Bool} {vs : List (List Int)} (h : PeelInv n S (Eqs.map toE) kn vs) {q : Eqn} (hq : q ∈ Eqs) (h1 : q.d.length = S) (h2 : ∀ z ∈ q.d, Byt z) (ho : openL kn q.c = []) (hl : 0 ≤ leadL (restL kn vs q.c q.d)) : ¬ ∃ v, PL.Holds VT (Eqs.map toE) v := by
  rintro ⟨v, hv⟩
  have hok := restL_ok h.val q.c q.d h1 h2
  refine vec_ne hok.2 hl ?_
  rw [rest_all h.val h1 h2 ho]
  have hk : ∀ x, x ∈ (toE q).cols → kn.getD x false = true := fun x hx => by
    obtain ⟨y, hy, rfl⟩ := List.mem_map.1 hx
    exact openL_nil ho y hy
  have h3 := hv (toE q) (List.mem_map.2 ⟨q, hq, rfl⟩) fun x hx => h.der x (hk x hx)
  have h4 : PL.tot VT v (toE q).cols = PL.tot VT (valV vs) (toE q).cols := PL.tot_congr VT fun x hx => h.agree v hv x (hk x hx)
  rw [h4] at h3
  show L.vadd (vec q.d) (PL.tot VT (valV vs) (toE q).cols) = L.vzero
  rw [h3]
  exact L.vadd_self _
/-- Where each row all of whose columns are known holds, all is well. -/
theorem PeelInv.done {n S : Nat} {Eqs : List Eqn} {kn : List Bool} {vs : List (List Int)} (hm : ∀ q ∈ Eqs, q.d.length = S ∧ ∀ z ∈ q.d, Byt z) (h : PeelInv n S (Eqs.map toE) kn vs) (hd : ∀ x, kn.getD x false = true ↔ PL.Der (Eqs.map toE) x) (hh : ∀ q ∈ Eqs, openL kn q.c = [] → leadL (restL kn vs q.c q.d) = -1) : PeelOkIs n S (Eqs.map toE) kn vs := by
  refine ⟨h.len, h.val, h.no, hd, fun e he hall => ?_⟩
  obtain ⟨q, hq, rfl⟩ := List.mem_map.1 he
  have ho : openL kn q.c = [] := by
    refine List.filter_eq_nil_iff.2 fun x hx => ?_
    have := (hd x.toNat).2 (hall x.toNat (List.mem_map.2 ⟨x, hx, rfl⟩))
    rw [this]
    simp
  have h1 := rest_all h.val (hm q hq).1 (hm q hq).2 ho
  rw [vec_nought (hh q hq ho)] at h1
  have h2 : L.vadd (vec q.d) (PL.tot VT (valV vs) (toE q).cols) = L.vadd (vec q.d) (vec q.d) := by
    rw [L.vadd_self]
    exact h1.symm
  exact PL.Two.cancel VT h2
theorem leftE_snoc (kn : List Bool) (vs : List (List Int)) (L : List Eqn) (q : Eqn) : leftE kn vs (L ++ [q]) = leftE kn vs L ++ (if 0 < (openL kn q.c).length then [⟨openL kn q.c, restL kn vs q.c q.d⟩] else []) := by
  unfold leftE
  rw [List.filter_append, List.map_append]
  congr 1
  by_cases h : 0 < (openL kn q.c).length
  · rw [if_pos h, List.filter_cons_of_pos (by simpa using h)]
    rfl
  · rw [if_neg h, List.filter_cons_of_neg (by simpa using h)]
    rfl
theorem leftE_le (kn : List Bool) (vs : List (List Int)) (L : List Eqn) : (leftE kn vs L).length ≤ L.length := by
  unfold leftE
  rw [List.length_map]
  exact List.length_filter_le _ _
end Go.Proofs.Ytjibmgdafpempaa
