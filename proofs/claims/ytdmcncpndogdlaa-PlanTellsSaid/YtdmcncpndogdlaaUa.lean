/-
  Package inact as it was written: whether rows may be, the one open column of a row, the first row that has one.
-/
import Derived.Test.YtdmcncpndogdlaaMgm
namespace Go.Proofs.Ytdmcncpndogdlaa
open Go.RowKit

theorem getD_not {kn : List Bool} {x : Nat} (h : x < kn.length) : (kn.map fun b => !b).getD x false = !(kn.getD x false) := by
  simp [h]
theorem PN.isOne_nil (dn : List Bool) (R : List (List Int)) (i : Nat) : PN.isOne dn [] R i = decide ((openL dn (R.getD i [])).length = 1) := by
  unfold PN.isOne
  simp
open Classical in
set_option maxHeartbeats 800000 in
theorem fits_any (n : Int) (v : Value) (c : List Int) (w : World) (h : Zs w v c) (hl : c.length ≤ 1000) :
    Calls Try.prog 27 #[.int .i64 n, v] w fun e w' => e = .returned (.bool (decide (MayRow n c))) ∧ w' = w := by
  obtain ⟨m, hm⟩ : ∃ m, c.length = m := ⟨_, rfl⟩
  have HZ := Lib.hid h
  obtain ⟨oa, ca, rfl⟩ := h.form
  rw [hm] at HZ hl ⊢
  have HADJ : Hid (MayRow n c ↔ ∀ i, i < m → adjL n c i) := Lib.hid (by rw [← hm]; exact mayRow_adj n c)
  clear h hm
  obtain ⟨b, hb⟩ : ∃ b, decide (MayRow n c) = b := ⟨_, rfl⟩
  rw [hb]
  have HB := Lib.hid hb
  clear hb
  go_enter Try.func27, Try.ntmps27
  go_wp2
  go_loopw [9] (fun i wr => wr = w ∧ ∃ k : Nat, k ≤ m ∧ i = .int .i64 k ∧ ∀ j, j < k → adjL n c j) (fun i _ => m - (intOf i).toNat)
  case atStart => exact ⟨rfl, 0, by omega, rfl, by omega⟩
  case round =>
    obtain ⟨rfl, i, hi, rfl, hs⟩ := hrel
    have HS := Lib.hid hs
    clear hs
    by_cases hlt : i < m
    · obtain ⟨a, rfl⟩ := HZ.out.addr (by omega)
      have q := HZ.out.cellAt hlt
      have hno : ¬ adjL n c i → b = false := fun h => by
        rw [← HB.out, decide_eq_false_iff_not, HADJ.out]
        exact fun hall => h (hall i hlt)
      have hyes : adjL n c i → ∀ j, j < i + 1 → adjL n c j := fun h j hj => by
        by_cases e : j = i
        · rw [e]; exact h
        · exact HS.out j (by omega)
      obtain ⟨x, hx⟩ : ∃ x, c.getD i 0 = x := ⟨_, rfl⟩
      rw [hx] at q
      by_cases h0 : x < 0
      · have hb := hno (fun h => by unfold adjL at h; omega)
        subst hb
        clear hno hyes hx
        go_wp2_with fail
        go_ret
        exact ⟨rfl, rfl⟩
      · by_cases h1 : n ≤ x
        · have hb := hno (fun h => by unfold adjL at h; omega)
          subst hb
          clear hno hyes hx
          go_wp2_with fail
          go_ret
          exact ⟨rfl, rfl⟩
        · by_cases hi0 : i = 0
          · subst hi0
            have HY := Lib.hid (hyes ⟨by omega, by omega, fun h => absurd h (by omega)⟩)
            rw [add_nought] at q
            clear hno hyes hx
            go_wp2_with fail
            exact ⟨⟨trivial, 1, by omega, rfl, HY.out⟩, by simp [intOf]; omega⟩
          · have q2 := HZ.out.cellAt (i := i - 1) (by omega)
            obtain ⟨y, hy⟩ : ∃ y, c.getD (i - 1) 0 = y := ⟨_, rfl⟩
            rw [hy] at q2
            obtain ⟨k, hk⟩ : ∃ k, i - 1 = k := ⟨_, rfl⟩
            have hki : (i : Int) - 1 = (k : Int) := by omega
            have hi1 : (0 : Int) < (i : Int) := by omega
            have hkm : (k : Int) < (m : Int) := by omega
            rw [hk] at q2
            by_cases h2 : x ≤ y
            · have hb := hno (fun h => by
                have := h.2.2 (by omega)
                rw [hy, hx] at this
                omega)
              subst hb
              clear hno hyes hx hy hk
              go_wp2_with fail
              go_ret
              exact ⟨rfl, rfl⟩
            · have HY := Lib.hid (hyes ⟨by omega, by omega, fun _ => by rw [hy, hx]; omega⟩)
              clear hno hyes hx hy hk
              go_wp2_with fail
              exact ⟨⟨trivial, i + 1, by omega, by go_num, HY.out⟩, by simp [intOf]; omega⟩
    · obtain rfl : m = i := by omega
      have hb : b = true := by
        rw [← HB.out, decide_eq_true_iff, HADJ.out]
        exact HS.out
      subst hb
      go_wp2_with fail
      go_ret
      exact ⟨rfl, rfl⟩

open Classical in
set_option maxHeartbeats 800000 in
theorem inMay_any (n : Int) (v : Value) (R : List (List Int)) (w : World) (h : Zss w v R) (hl : R.length ≤ 1000) (hc : ∀ c ∈ R, c.length ≤ 1000) :
    Calls Try.prog 18 #[.int .i64 n, v] w fun e w' => e = .returned (.bool (decide (PN.May n R))) ∧ w' = w := by
  obtain ⟨o, c, rfl⟩ := h.form
  obtain ⟨m, hm⟩ : ∃ m, R.length = m := ⟨_, rfl⟩
  rw [hm] at h hl ⊢
  have HZ := Lib.hid h
  have HM := Lib.hid hm
  have HC := Lib.hid hc
  clear h hm hc
  obtain ⟨b, hb⟩ : ∃ b, decide (PN.May n R) = b := ⟨_, rfl⟩
  rw [hb]
  have hno : Hid (¬ PN.May n R → b = false) := Lib.hid fun h => by rw [← hb, decide_eq_false_iff_not]; exact h
  have hyes : Hid (PN.May n R → b = true) := Lib.hid fun h => by rw [← hb, decide_eq_true_iff]; exact h
  clear hb
  by_cases c1 : n < 0
  · obtain rfl := hno.out fun h => by have := h.1; omega
    go_enter Try.func18, Try.ntmps18
    go_wp2_with fail
    go_ret
    exact ⟨rfl, rfl⟩
  by_cases c2 : 64 < n
  · obtain rfl := hno.out fun h => by have := h.2.1; omega
    go_enter Try.func18, Try.ntmps18
    go_wp2_with fail
    go_ret
    exact ⟨rfl, rfl⟩
  go_enter Try.func18, Try.ntmps18
  go_wp2_with fail
  go_loopw [15] (fun iv W => W = w ∧ ∃ i : Nat, i ≤ m ∧ iv = .int .i64 i ∧ ∀ j, j < i → MayRow n (R.getD j [])) (fun iv _ => m - (intOf iv).toNat)
  case atStart => exact ⟨rfl, 0, by omega, rfl, by omega⟩
  case round =>
    obtain ⟨rfl, i, hi, rfl, hmr⟩ := hrel
    have HMR := Lib.hid hmr
    clear hmr
    by_cases hlt : i < m
    · obtain ⟨a, rfl⟩ := Zss.addr HZ.out (by omega)
      obtain ⟨u, q1, hu⟩ := Zss.rowAt HZ.out hlt
      obtain ⟨ou, mu, cu, rfl⟩ := hu.form3
      have HU := Lib.hid hu
      have hin := getD_memL (L := R) (i := i) (by rw [HM.out]; exact hlt)
      have HIN := Lib.hid hin
      clear hu hin
      go_wp2_with fail
      refine (fits_any n _ _ _ HU.out (HC.out _ HIN.out)).mono ?_
      by_cases hmi : MayRow n (R.getD i [])
      · rw [decide_eq_true hmi]
        have HMI := Lib.hid hmi
        clear hmi
        rintro e w' ⟨rfl, rfl⟩
        go_wp2_with fail
        refine ⟨⟨trivial, i + 1, by omega, by go_num, fun j hj => ?_⟩, by simp [intOf]; omega⟩
        by_cases e : j = i
        · rw [e]; exact HMI.out
        · exact HMR.out j (by omega)
      · rw [decide_eq_false hmi]
        obtain rfl := hno.out fun h => hmi (h.2.2 _ HIN.out)
        clear hmi
        rintro e w' ⟨rfl, rfl⟩
        go_wp2_with fail
        go_ret
        exact ⟨rfl, rfl⟩
    · obtain rfl : i = m := by omega
      obtain rfl := hyes.out ⟨by omega, by omega, fun c hc => by
        obtain ⟨j, hj, rfl⟩ := List.getElem_of_mem hc
        have := HMR.out j (by rw [← HM.out]; exact hj)
        rw [List.getD_eq_getElem?_getD, List.getElem?_eq_getElem hj] at this
        exact this⟩
      go_wp2_with fail
      go_ret
      exact ⟨rfl, rfl⟩

/-- The one open column, or none. -/
def PN.oneC (kn : List Bool) (c : List Int) : Int := match openL kn c with
  | [x] => x
  | _ => -1
theorem PN.oneC_one {kn : List Bool} {c : List Int} {x : Int} (h : openL kn c = [x]) : PN.oneC kn c = x := by
  unfold PN.oneC
  rw [h]
theorem PN.oneC_none {kn : List Bool} {c : List Int} (h : (openL kn c).length ≠ 1) : PN.oneC kn c = -1 := by
  unfold PN.oneC
  split
  · rename_i x hx
    rw [hx] at h
    exact absurd rfl h
  · rfl
set_option maxHeartbeats 800000 in
theorem inAlone_any (vc vk : Value) (c : List Int) (kn : List Bool) (w : World) (hz : Zs w vc c) (hk : Bl w vk (kn.map fun b => !b)) (hr : ∀ x ∈ c, 0 ≤ x ∧ x < (kn.length : Int)) (hl : c.length ≤ 1000) (hkl : kn.length ≤ 1000) :
    Calls Try.prog 29 #[vc, vk] w fun e w' => e = .returned (.int .i64 (PN.oneC kn c)) ∧ w' = w := by
  obtain ⟨m, hm⟩ : ∃ m, c.length = m := ⟨_, rfl⟩
  obtain ⟨n, hn⟩ : ∃ n, kn.length = n := ⟨_, rfl⟩
  have HZ := Lib.hid hz
  have HK := Lib.hid hk
  obtain ⟨oa, ca, rfl⟩ := hz.form
  obtain ⟨ok, ck, rfl⟩ := hk.form3
  rw [hm] at HZ hl ⊢
  rw [List.length_map, hn] at HK ⊢
  rw [hn] at hkl hr
  have HM := Lib.hid hm
  have HN := Lib.hid hn
  have HR := Lib.hid hr
  clear hz hk hm hn hr
  obtain ⟨z, hz⟩ : ∃ z, PN.oneC kn c = z := ⟨_, rfl⟩
  rw [hz]
  have HO := Lib.hid hz
  clear hz
  go_enter Try.func29, Try.ntmps29
  go_wp2_with fail
  go_loopw [5, 10] (fun av iv W => W = w ∧ ∃ (i : Nat) (at' : Int), i ≤ m ∧ iv = .int .i64 i ∧ av = .int .i64 at' ∧ ((at' = -1 ∧ openL kn (c.take i) = []) ∨ (0 ≤ at' ∧ at' < n ∧ openL kn (c.take i) = [at']))) (fun _ iv _ => m - (intOf iv).toNat)
  case atStart => exact ⟨rfl, 0, -1, by omega, rfl, rfl, .inl ⟨rfl, rfl⟩⟩
  case round =>
    obtain ⟨rfl, i, at', hi, rfl, rfl, hat⟩ := hrel
    have HAT := Lib.hid hat
    have hab : -1 ≤ at' ∧ at' < n := by rcases hat with h | h <;> omega
    obtain ⟨ha1, ha2⟩ := hab
    clear hat
    by_cases hlt : i < m
    · obtain ⟨a, rfl⟩ := HZ.out.addr (by omega)
      have q := HZ.out.cellAt hlt
      have hxm := HR.out (c.getD i 0) (by rw [List.getD_eq_getElem?_getD, List.getElem?_eq_getElem (by rw [HM.out]; exact hlt)]; exact List.getElem_mem _)
      have hst : openL kn (c.take (i + 1)) = openL kn (c.take i) ++ (if kn.getD (c.getD i 0).toNat false = true then [] else [c.getD i 0]) := by
        rw [take_snoc c i 0 (by rw [HM.out]; exact hlt), openL_snoc]
      have hpre : ∃ r, openL kn c = openL kn (c.take (i + 1)) ++ r := ⟨openL kn (c.drop (i + 1)), by
        unfold openL
        rw [← List.filter_append, List.take_append_drop]⟩
      obtain ⟨x, hx⟩ : ∃ x : Nat, c.getD i 0 = (x : Int) := ⟨(c.getD i 0).toNat, by omega⟩
      rw [hx] at q hxm hst
      rw [Int.toNat_natCast] at hst
      obtain ⟨ak, rfl⟩ := HK.out.addr (by omega)
      have q2 := HK.out.cellAt (i := x) (by omega)
      rw [getD_not (by rw [HN.out]; omega)] at q2
      have hxn : (x : Int) < (n : Int) := hxm.2
      have HST := Lib.hid hst
      have HPR := Lib.hid hpre
      clear hst hx hxm hpre
      cases hb : kn.getD x false with
      | true =>
        rw [hb, Bool.not_true] at q2
        rw [hb, if_pos rfl, List.append_nil] at HST
        clear hb
        go_wp2_with fail
        exact ⟨⟨trivial, i + 1, at', by omega, by go_num, rfl, by rw [HST.out]; exact HAT.out⟩, by simp [intOf]; omega⟩
      | false =>
        rw [hb, Bool.not_false] at q2
        rw [hb, if_neg (by simp)] at HST
        clear hb
        by_cases h0 : 0 ≤ at'
        · obtain rfl : z = -1 := by
            rw [← HO.out]
            obtain ⟨r, hr⟩ := HPR.out
            rcases HAT.out with ⟨h, _⟩ | ⟨_, _, h⟩
            · omega
            · unfold PN.oneC
              rw [hr, HST.out, h]
              rfl
          go_wp2_with fail
          go_ret
          exact ⟨rfl, rfl⟩
        · have HE : Hid (openL kn (c.take i) = []) := Lib.hid (by
            rcases HAT.out with ⟨_, h⟩ | ⟨h, _⟩
            · exact h
            · omega)
          go_wp2_with fail
          exact ⟨⟨trivial, i + 1, (x : Int), by omega, by go_num, rfl, .inr ⟨by omega, hxn, by rw [HST.out, HE.out]; rfl⟩⟩, by simp [intOf]; omega⟩
    · obtain rfl : m = i := by omega
      obtain rfl : z = at' := by
        rw [← HO.out]
        have hall : c.take m = c := List.take_of_length_le (by rw [HM.out]; exact Nat.le_refl _)
        rcases HAT.out with ⟨h1, h⟩ | ⟨_, _, h⟩
        · rw [hall] at h
          unfold PN.oneC
          rw [h, h1]
        · rw [hall] at h
          unfold PN.oneC
          rw [h]
      go_wp2_with fail
      go_ret
      exact ⟨rfl, rfl⟩
theorem PN.firstTo_nil {dn us : List Bool} {R : List (List Int)} (h : ∀ i, us.getD i false = true → openL dn (R.getD i []) = []) : ∀ k, PN.firstTo dn us R k = PN.firstTo dn [] R k
  | 0 => rfl
  | k + 1 => by
    have e : PN.isOne dn us R k = PN.isOne dn [] R k := by
      rw [PN.isOne_nil]
      unfold PN.isOne
      cases hu : us.getD k false with
      | true => rw [h k hu]; rfl
      | false => simp
    show (match PN.firstTo dn us R k with | some i => some i | none => if PN.isOne dn us R k = true then some k else none) = (match PN.firstTo dn [] R k with | some i => some i | none => if PN.isOne dn [] R k = true then some k else none)
    rw [PN.firstTo_nil h k, e]
theorem PN.firstTo_keep {dn us : List Bool} {R : List (List Int)} {k i : Nat} (h : PN.firstTo dn us R k = some i) : ∀ {n : Nat}, k ≤ n → PN.firstTo dn us R n = some i := by
  intro n hn
  obtain ⟨d, rfl⟩ := Nat.exists_eq_add_of_le hn
  induction d with
  | zero => exact h
  | succ d ih => exact PN.firstTo_had (ih (by omega))
theorem step_load {W : World} {g : Nat} {x y : Value} (h : W.heap[g]? = some (.cells #[x, y] 40 (0, 0))) : (loadVar 40 ⟨g, 0, none⟩).run Try.prog W = .ok (.agg #[x, y]) W :=
  run_loadVar_mid W g 0 40 [x, y] _ (fun j v hv => by
    rw [Nat.zero_add, cell_of_row _ _ _ _ _ _ h]
    simpa using hv) Try.underlying40 rfl (by kernel_rfl)
theorem step_res {W : World} {g : Nat} {u : Value} {v : Value} (h : (loadVar 40 ⟨g, 0, none⟩).run Try.prog W = .ok v W) :
    (((asAddr (.pointer (some ⟨g, 0, none⟩))).run Try.prog W).andThen fun a w₁ => ((loadVar 40 a).run Try.prog w₁).andThen fun v w₂ => Result.ok (Value.tuple #[v, u]) w₂) = .ok (.tuple #[v, u]) W := by
  simp only [asAddr, Sem.run_pure, Result.andThen_ok, h]
/-- What is told of the first row that has one open column alone. -/
def SingOut (dn : List Bool) (R : List (List Int)) (w : World) (e : Ending) (w' : World) : Prop :=
  Gr w w' ∧ ((∃ j x : Nat, e = .returned (.tuple #[.agg #[.int .i64 j, .int .i64 x], .bool true]) ∧ PN.firstTo dn [] R R.length = some j ∧ PN.colOf dn R j = (x : Int) ∧ j < R.length) ∨ (e = .returned (.tuple #[.agg #[.int .i64 0, .int .i64 0], .bool false]) ∧ PN.firstTo dn [] R R.length = none))
set_option maxRecDepth 100000 in
set_option maxHeartbeats 1600000 in
theorem single_any (N : Nat) (v vk : Value) (R : List (List Int)) (dn : List Bool) (w : World) (h : Zss w v R) (hk : Bl w vk (dn.map fun b => !b)) (hl : R.length ≤ 1000) (hc : ∀ c ∈ R, c.length ≤ 1000) (hR : ∀ c ∈ R, MayRow N c) (hd : dn.length = N) (hN : N ≤ 64) :
    Calls Try.prog 21 #[v, vk] w (SingOut dn R w) := by
  obtain ⟨o, c, rfl⟩ := h.form
  obtain ⟨ok, ck, rfl⟩ := hk.form3
  obtain ⟨m, hm⟩ : ∃ m, R.length = m := ⟨_, rfl⟩
  rw [hm] at h hl ⊢
  rw [List.length_map] at hk ⊢
  have HZ := Lib.hid h
  have HK := Lib.hid hk
  have HM := Lib.hid hm
  have HC := Lib.hid hc
  have HR := Lib.hid hR
  have HD := Lib.hid hd
  clear h hk hm hc hR hd
  obtain ⟨nd, hnd⟩ : ∃ n, dn.length = n := ⟨_, rfl⟩
  rw [hnd] at HK HD ⊢
  have HND := Lib.hid hnd
  clear hnd
  go_enter Try.func21, Try.ntmps21
  go_wp2_with fail
  obtain ⟨w1, hw1⟩ : ∃ x, x = w.alloc (.cells #[.int .i64 0, .int .i64 0] 40) := ⟨_, rfl⟩
  rw [← hw1]
  obtain ⟨go, hgo⟩ : ∃ g, w.heap.size = g := ⟨_, rfl⟩
  rw [hgo]
  have G1 : Hid (Gr w w1 ∧ w1.heap[go]? = some (.cells #[.int .i64 0, .int .i64 0] 40 (0, 0))) := Lib.hid ⟨by rw [hw1]; exact Gr.alloc (Gr.refl _) _ _, by rw [hw1, ← hgo]; exact heap_alloc_new _ _⟩
  have HGO : Hid (w.heap.size ≤ go) := Lib.hid (by omega)
  clear hw1 hgo
  go_loopw [11] (fun iv W => W = w1 ∧ ∃ i : Nat, i ≤ m ∧ iv = .int .i64 i ∧ PN.firstTo dn [] R i = none) (fun iv _ => m - (intOf iv).toNat)
  case atStart => exact ⟨rfl, 0, by omega, rfl, rfl⟩
  case round =>
    obtain ⟨rfl, i, hi, rfl, hf⟩ := hrel
    have HF := Lib.hid hf
    clear hf
    have hb := G1.out.2
    have c0 : wr.cell? ⟨go, 0, none⟩ = some (.int .i64 0) := by rw [cell_of_row _ _ _ _ _ _ hb]; rfl
    have c1 : wr.cell? ⟨go, 1, none⟩ = some (.int .i64 0) := by rw [cell_of_row _ _ _ _ _ _ hb]; rfl
    have f0 : wr.frozen? ⟨go, 0, none⟩ = false := frozen_of_row _ _ _ _ _ hb
    have f1 : wr.frozen? ⟨go, 1, none⟩ = false := frozen_of_row _ _ _ _ _ hb
    clear hb
    by_cases hlt : i < m
    · obtain ⟨a, rfl⟩ := Zss.addr HZ.out (by omega)
      obtain ⟨u, q1, hu⟩ := Zss.rowAt (HZ.out.grown G1.out.1) hlt
      obtain ⟨ou, mu, cu, rfl⟩ := hu.form3
      have HU := Lib.hid hu
      have hin := getD_memL (L := R) (i := i) (by rw [HM.out]; exact hlt)
      have HIN := Lib.hid hin
      clear hu hin
      go_wp2_with fail
      refine (inAlone_any _ _ (R.getD i []) dn _ HU.out (HK.out.grown G1.out.1) (by rw [HND.out, HD.out]; exact (HR.out _ HIN.out).1) (HC.out _ HIN.out) (by rw [HND.out, HD.out]; omega)).mono ?_
      rintro e w' ⟨rfl, rfl⟩
      by_cases h1 : (openL dn (R.getD i [])).length = 1
      · have hio : PN.isOne dn [] R i = true := by rw [PN.isOne_nil, decide_eq_true h1]
        obtain ⟨_, h3, h4, h5, _⟩ := PN.one_col HR.out (by rw [HM.out]; exact hlt) hio
        rw [PN.oneC_one h3]
        obtain ⟨x, hx⟩ : ∃ x : Nat, PN.colOf dn R i = (x : Int) := ⟨(PN.colOf dn R i).toNat, by omega⟩
        rw [hx]
        have HX := Lib.hid hx
        have hff := PN.firstTo_hit HF.out hio
        have HFF := Lib.hid hff
        have hx0 : (0 : Int) ≤ (x : Int) := by omega
        clear h1 hio h3 h4 h5 hx hff
        go_wp2_with fail
        have hb2 : ((w'.setCell ⟨go, 0, none⟩ (.int .i64 (i : Int))).setCell ⟨go, 1, none⟩ (.int .i64 (x : Int))).heap[go]? = some (.cells #[.int .i64 (i : Int), .int .i64 (x : Int)] 40 (0, 0)) := heap_setCell_same _ _ _ _ _ _ (heap_setCell_same _ _ _ _ _ _ G1.out.2)
        refine bodyPost_ret (v := .tuple #[.agg #[.int .i64 (i : Int), .int .i64 (x : Int)], .bool true]) (by rw [results_cell_tmp rfl]; exact step_res (step_load hb2)) rfl ?_
        exact ⟨Gr.setCell (Gr.setCell G1.out.1 HGO.out _) HGO.out _, .inl ⟨i, x, rfl, by rw [HM.out]; exact PN.firstTo_keep HFF.out (by omega), HX.out, by rw [HM.out]; exact hlt⟩⟩
      · rw [PN.oneC_none h1]
        have hff := PN.firstTo_skip (us := []) (k := i) (R := R) (dn := dn) (by rw [PN.isOne_nil, decide_eq_false h1])
        have HFF := Lib.hid hff
        clear h1 hff
        go_wp2_with fail
        exact ⟨⟨trivial, i + 1, by omega, by go_num, by rw [HFF.out]; exact HF.out⟩, by simp [intOf]; omega⟩
    · obtain rfl : i = m := by omega
      go_wp2_with fail
      have hb2 : ((wr.setCell ⟨go, 0, none⟩ (.int .i64 0)).setCell ⟨go, 1, none⟩ (.int .i64 0)).heap[go]? = some (.cells #[.int .i64 0, .int .i64 0] 40 (0, 0)) := heap_setCell_same _ _ _ _ _ _ (heap_setCell_same _ _ _ _ _ _ G1.out.2)
      refine bodyPost_ret (v := .tuple #[.agg #[.int .i64 0, .int .i64 0], .bool false]) (by rw [results_cell_tmp rfl]; exact step_res (step_load hb2)) rfl ?_
      exact ⟨Gr.setCell (Gr.setCell G1.out.1 HGO.out _) HGO.out _, .inr ⟨rfl, by rw [HM.out]; exact HF.out⟩⟩
end Go.Proofs.Ytdmcncpndogdlaa
