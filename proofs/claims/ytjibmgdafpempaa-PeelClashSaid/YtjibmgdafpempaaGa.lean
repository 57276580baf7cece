/-
  Package peel as it was written: whether equations may be, and the one column of a row that is not known.
-/
import Derived.Test.YtjibmgdafpempaaMgj
namespace Go.Proofs.Ytjibmgdafpempaa
open Go.RowKit

open Classical in
set_option maxHeartbeats 800000 in
theorem ascending_any (n : Nat) (v : Value) (c : List Int) (w : World) (h : Zs w v c) (hl : c.length ≤ 1000) (hn : n ≤ 64) :
    Calls Try.prog 29 #[.int .i64 n, v] w fun e w' => e = .returned (.bool (decide (MayRow n c))) ∧ w' = w := by
  obtain ⟨m, hm⟩ : ∃ m, c.length = m := ⟨_, rfl⟩
  have HZ := Lib.hid h
  obtain ⟨oa, ca, rfl⟩ := h.form
  rw [hm] at HZ hl ⊢
  have HADJ : Hid (MayRow n c ↔ ∀ i, i < m → adjL n c i) := Lib.hid (by rw [← hm]; exact mayRow_adj n c)
  clear h hm
  obtain ⟨b, hb⟩ : ∃ b, decide (MayRow n c) = b := ⟨_, rfl⟩
  rw [hb]
  have HB := Lib.hid hb
  clear hb
  go_enter Try.func29, Try.ntmps29
  go_wp2_with fail
  go_loopw [5, 10] (fun lv i wr => wr = w ∧ ∃ (k : Nat) (ls : Int), k ≤ m ∧ i = .int .i64 k ∧ lv = .int .i64 ls ∧ 0 ≤ ls ∧ ls ≤ n ∧ (k = 0 → ls = 0) ∧ (0 < k → ls = c.getD (k - 1) 0 + 1) ∧ ∀ j, j < k → adjL n c j) (fun _ i _ => m - (intOf i).toNat)
  case atStart => exact ⟨rfl, 0, 0, by omega, rfl, rfl, by omega, by omega, fun _ => rfl, by omega, by omega⟩
  case round =>
    obtain ⟨rfl, i, ls, hi, rfl, rfl, hl0, hln, hz, hp, hs⟩ := hrel
    have HS := Lib.hid hs
    have H0 := Lib.hid hz
    have HP := Lib.hid hp
    clear hs hz hp
    by_cases hlt : i < m
    · obtain ⟨a, rfl⟩ := HZ.out.addr (by omega)
      have q := HZ.out.cellAt hlt
      have hno : ¬ adjL n c i → b = false := fun h => by
        rw [← HB.out, decide_eq_false_iff_not, HADJ.out]
        exact fun hall => h (hall i hlt)
      obtain ⟨x, hx⟩ : ∃ x, c.getD i 0 = x := ⟨_, rfl⟩
      rw [hx] at q
      by_cases h1 : x < ls
      · have hb := hno (fun h => by
          unfold adjL at h
          rw [hx] at h
          by_cases e : i = 0
          · have := H0.out e; omega
          · have := HP.out (by omega)
            have := h.2.2 (by omega)
            omega)
        subst hb
        clear hno hx
        go_wp2_with fail
        go_ret
        exact ⟨rfl, rfl⟩
      · by_cases h2 : (n : Int) ≤ x
        · have hb := hno (fun h => by
            unfold adjL at h
            rw [hx] at h
            omega)
          subst hb
          clear hno hx
          go_wp2_with fail
          go_ret
          exact ⟨rfl, rfl⟩
        · have hyes : ∀ j, j < i + 1 → adjL n c j := fun j hj => by
            by_cases e : j = i
            · rw [e]
              unfold adjL
              rw [hx]
              exact ⟨by omega, by omega, fun h0 => by have := HP.out h0; omega⟩
            · exact HS.out j (by omega)
          have HY := Lib.hid hyes
          have HX : Hid (x = c.getD (i + 1 - 1) 0) := Lib.hid (by rw [Nat.add_sub_cancel, hx])
          clear hno hyes hx
          go_wp2_with fail
          exact ⟨⟨trivial, i + 1, x + 1, by omega, by go_num, by first | rfl | go_num, by omega, by omega, by omega, fun _ => by rw [← HX.out], HY.out⟩, by simp [intOf]; omega⟩
    · obtain rfl : m = i := by omega
      have hb : b = true := by
        rw [← HB.out, decide_eq_true_iff, HADJ.out]
        exact HS.out
      subst hb
      go_wp2_with fail
      go_ret
      exact ⟨rfl, rfl⟩

/-- The one open column, or none. -/
def oneL (kn : List Bool) (c : List Int) : Int := match openL kn c with
  | [x] => x
  | _ => -1
set_option maxHeartbeats 800000 in
theorem alone_any (vc vk : Value) (c : List Int) (kn : List Bool) (w : World) (hz : Zs w vc c) (hk : Bl w vk kn) (hr : ∀ x ∈ c, 0 ≤ x ∧ x < (kn.length : Int)) (hl : c.length ≤ 1000) (hkl : kn.length ≤ 1000) :
    Calls Try.prog 30 #[vc, vk] w fun e w' => e = .returned (.int .i64 (oneL kn c)) ∧ w' = w := by
  obtain ⟨m, hm⟩ : ∃ m, c.length = m := ⟨_, rfl⟩
  obtain ⟨n, hn⟩ : ∃ n, kn.length = n := ⟨_, rfl⟩
  have HZ := Lib.hid hz
  have HK := Lib.hid hk
  obtain ⟨oa, ca, rfl⟩ := hz.form
  obtain ⟨ok, ck, rfl⟩ := hk.form3
  rw [hm] at HZ hl ⊢
  rw [hn] at HK hkl hr ⊢
  have HM := Lib.hid hm
  have HR := Lib.hid hr
  clear hz hk hm hn hr
  obtain ⟨z, hz⟩ : ∃ z, oneL kn c = z := ⟨_, rfl⟩
  rw [hz]
  have HO := Lib.hid hz
  clear hz
  go_enter Try.func30, Try.ntmps30
  go_wp2_with fail
  go_loopw [5, 10] (fun av iv W => W = w ∧ ∃ (i : Nat) (at' : Int), i ≤ m ∧ iv = .int .i64 i ∧ av = .int .i64 at' ∧ ((at' = -1 ∧ openL kn (c.take i) = []) ∨ (0 ≤ at' ∧ at' < n ∧ openL kn (c.take i) = [at']))) (fun _ iv _ => m - (intOf iv).toNat)
  case atStart => exact ⟨rfl, 0, -1, by omega, rfl, rfl, .inl ⟨rfl, rfl⟩⟩
  case round =>
    obtain ⟨rfl, i, at', hi, rfl, rfl, hat⟩ := hrel
    have HAT := Lib.hid hat
    have hab : -1 ≤ at' ∧ at' < n := by rcases hat with h | h <;> omega
    obtain ⟨ha1, ha2⟩ := hab
    clear hat
    by_cases hlt : i < m
    · obtain ⟨a, rfl⟩ := HZ.out.addr (by omega)
      have q := HZ.out.cellAt hlt
      have hxm := HR.out (c.getD i 0) (by rw [List.getD_eq_getElem?_getD, List.getElem?_eq_getElem (by rw [HM.out]; exact hlt)]; exact List.getElem_mem _)
      have hst : openL kn (c.take (i + 1)) = openL kn (c.take i) ++ (if kn.getD (c.getD i 0).toNat false = true then [] else [c.getD i 0]) := by
        rw [take_snoc c i 0 (by rw [HM.out]; exact hlt), openL_snoc]
      have hpre : ∃ r, openL kn c = openL kn (c.take (i + 1)) ++ r := ⟨openL kn (c.drop (i + 1)), by
        unfold openL
        rw [← List.filter_append, List.take_append_drop]⟩
      obtain ⟨x, hx⟩ : ∃ x : Nat, c.getD i 0 = (x : Int) := ⟨(c.getD i 0).toNat, by omega⟩
      rw [hx] at q hxm hst
      rw [Int.toNat_natCast] at hst
      obtain ⟨ak, rfl⟩ := HK.out.addr (by omega)
      have q2 := HK.out.cellAt (i := x) (by omega)
      have hxn : (x : Int) < (n : Int) := hxm.2
      have HST := Lib.hid hst
      have HPR := Lib.hid hpre
      clear hst hx hxm hpre
      cases hb : kn.getD x false with
      | true =>
        rw [hb] at q2
        rw [hb, if_pos rfl, List.append_nil] at HST
        clear hb
        go_wp2_with fail
        exact ⟨⟨trivial, i + 1, at', by omega, by go_num, rfl, by rw [HST.out]; exact HAT.out⟩, by simp [intOf]; omega⟩
      | false =>
        rw [hb] at q2
        rw [hb, if_neg (by simp)] at HST
        clear hb
        by_cases h0 : 0 ≤ at'
        · obtain rfl : z = -1 := by
            rw [← HO.out]
            obtain ⟨r, hr⟩ := HPR.out
            rcases HAT.out with ⟨h, _⟩ | ⟨_, _, h⟩
            · omega
            · unfold oneL
              rw [hr, HST.out, h]
              rfl
          go_wp2_with fail
          go_ret
          exact ⟨rfl, rfl⟩
        · have HE : Hid (openL kn (c.take i) = []) := Lib.hid (by
            rcases HAT.out with ⟨_, h⟩ | ⟨h, _⟩
            · exact h
            · omega)
          go_wp2_with fail
          exact ⟨⟨trivial, i + 1, (x : Int), by omega, by go_num, rfl, .inr ⟨by omega, hxn, by rw [HST.out, HE.out]; rfl⟩⟩, by simp [intOf]; omega⟩
    · obtain rfl : m = i := by omega
      obtain rfl : z = at' := by
        rw [← HO.out]
        have hall : c.take m = c := List.take_of_length_le (by rw [HM.out]; exact Nat.le_refl _)
        rcases HAT.out with ⟨h1, h⟩ | ⟨_, _, h⟩
        · rw [hall] at h
          unfold oneL
          rw [h, h1]
        · rw [hall] at h
          unfold oneL
          rw [h]
      go_wp2_with fail
      go_ret
      exact ⟨rfl, rfl⟩
open Classical in
set_option maxRecDepth 100000 in
set_option maxHeartbeats 1600000 in
theorem pmay_any (n : Int) (v : Value) (L : List Eqn) (w : World) (h : Eqs w v L) (hl : L.length ≤ 1000) (hc : ∀ q ∈ L, q.c.length ≤ 1000 ∧ q.d.length ≤ 1000) :
    Calls Try.prog 21 #[.int .i64 n, v] w fun e w' => e = .returned (.bool (decide (MayEqs n L))) ∧ Gr w w' := by
  have HE := Lib.hid h
  have HCL := Lib.hid hc
  obtain ⟨oa, ca, rfl⟩ := h.form
  obtain ⟨m, hm⟩ : ∃ m, L.length = m := ⟨_, rfl⟩
  rw [hm] at HE hl ⊢
  have HM := Lib.hid hm
  clear h hc hm
  obtain ⟨b, hb⟩ : ∃ b, decide (MayEqs n L) = b := ⟨_, rfl⟩
  rw [hb]
  have HB := Lib.hid hb
  clear hb
  have hno : Hid (¬ MayEqs n L → b = false) := Lib.hid fun h => by rw [← HB.out, decide_eq_false_iff_not]; exact h
  have hyes : Hid (MayEqs n L → b = true) := Lib.hid fun h => by rw [← HB.out, decide_eq_true_iff]; exact h
  clear HB
  by_cases hn1 : 0 ≤ n
  · by_cases hn2 : n ≤ 64
    · obtain ⟨N, rfl⟩ : ∃ N : Nat, n = N := ⟨n.toNat, by omega⟩
      go_enter Try.func21, Try.ntmps21
      go_wp2_with fail
      go_loopw [15] (fun iv W => ∃ i : Nat, i ≤ m ∧ iv = .int .i64 i ∧ Gr w W ∧ ∀ j, j < i → RowOkE N L (L.getD j noE)) (fun iv _ => m - (intOf iv).toNat)
      case atStart => exact ⟨0, by omega, rfl, Gr.refl _, by omega⟩
      case round =>
        obtain ⟨wo, hwo⟩ : ∃ x, x = wr := ⟨_, rfl⟩
        subst hwo
        obtain ⟨i, hi, rfl, hg, hs⟩ := hrel
        have HG := Lib.hid hg
        have HS := Lib.hid hs
        clear hg hs
        by_cases hlt : i < m
        · obtain ⟨b', o, rfl, _⟩ := HE.out.lay (by omega)
          obtain ⟨oc, nc, cc, od, nd, cd, q1, q2, zc, zd⟩ := (HE.out.grown HG.out).at hlt
          obtain ⟨oc0, nc0, cc0, od0, nd0, cd0, p1, p2, _, zd0⟩ := (HE.out.grown HG.out).at (i := 0) (by omega)
          have hqm := getD_memE (L := L) (i := i) (by rw [HM.out]; exact hlt)
          have hcl := HCL.out _ hqm
          have HND : Hid (nd = (L.getD i noE).d.length) := Lib.hid (zd.parts.1).symm
          have HND0 : Hid (nd0 = dlen L) := Lib.hid (by rw [← dlen_at (by rw [HM.out]; omega)]; exact (zd0.parts.1).symm)
          have HCC := Lib.hid hcl
          have HQM := Lib.hid hqm
          have ZC := Lib.hid zc
          clear zc zd zd0 p1 hcl hqm
          rw [Nat.zero_mul, Nat.add_zero] at p2
          go_upto_region 6 with fail
          have hga : Gr wo (wo.alloc (.cells #[.slice oc nc cc, .slice od nd cd] 27)) := Gr.alloc (Gr.refl _) _ _
          have c0 : (wo.alloc (.cells #[.slice oc nc cc, .slice od nd cd] 27)).cell? ⟨wo.heap.size, 0, none⟩ = some (.slice oc nc cc) := by rw [cell_of_row _ _ 0 _ _ _ (heap_alloc_new _ _)]; rfl
          have c1 : (wo.alloc (.cells #[.slice oc nc cc, .slice od nd cd] 27)).cell? ⟨wo.heap.size, 1, none⟩ = some (.slice od nd cd) := by rw [cell_of_row _ _ 1 _ _ _ (heap_alloc_new _ _)]; rfl
          have c2 := cell_gr hga p2
          have GA := Lib.hid hga
          have ZA := Lib.hid (ZC.out.grown hga)
          clear hga p2 q1 q2 ZC
          generalize wo.alloc (.cells #[.slice oc nc cc, .slice od nd cd] 27) = W1 at *
          generalize wo.heap.size = gq at *
          have GZ0 := Lib.hid (Gr.trans HG.out GA.out)
          by_cases hmr : MayRow N (L.getD i noE).c
          · have hd := decide_eq_true hmr
            have HD := Lib.hid hd
            have HMR := Lib.hid hmr
            have HCALL : Hid (∀ d, Calls Try.prog 29 #[.int .i64 N, .slice oc nc cc] (W1.drewN d) fun e w' => e = .returned (.bool true) ∧ w' = W1.drewN d) := Lib.hid (fun d => by
              have hq := ascending_any N (.slice oc nc cc) (L.getD i noE).c (W1.drewN d) (ZA.out.grown (gr_drN W1 d)) HCC.out.1 (by omega)
              rwa [HD.out] at hq)
            clear hd hmr
            by_cases he : nd = nd0
            · have heb : ((nd : Int) != (nd0 : Int)) = false := by simp; omega
              have HEQ : Hid ((L.getD i noE).d.length = dlen L) := Lib.hid (by rw [← HND.out, ← HND0.out, he])
              clear he
              go_quiet (first | (go_at_call 29; refine Calls.quiet_of_same (HCALL.out _)))
              go_wp2_with fail
              exact ⟨⟨i + 1, by omega, by go_num, GZ0.out, fun j hj => by
                by_cases e : j = i
                · rw [e]; exact ⟨HMR.out, HEQ.out⟩
                · exact HS.out j (by omega)⟩, by simp [intOf]; omega⟩
            · have heb : ((nd : Int) != (nd0 : Int)) = true := by simp; omega
              have hne : ¬ MayEqs N L := fun h => he (by rw [HND.out, HND0.out]; exact (h.2.2 _ HQM.out).2)
              have hbf := hno.out hne
              subst hbf
              have GZ := GZ0
              clear he hne
              go_quiet (first | (go_at_call 29; refine Calls.quiet_of_same (HCALL.out _)))
              go_wp2_with fail
              go_ret
              exact ⟨rfl, GZ.out⟩
          · have hd := decide_eq_false hmr
            have HD := Lib.hid hd
            have hne : ¬ MayEqs N L := fun h => hmr (h.2.2 _ HQM.out).1
            have hbf := hno.out hne
            subst hbf
            have GZ := GZ0
            have HCALL : Hid (∀ d, Calls Try.prog 29 #[.int .i64 N, .slice oc nc cc] (W1.drewN d) fun e w' => e = .returned (.bool false) ∧ w' = W1.drewN d) := Lib.hid (fun d => by
              have hq := ascending_any N (.slice oc nc cc) (L.getD i noE).c (W1.drewN d) (ZA.out.grown (gr_drN W1 d)) HCC.out.1 (by omega)
              rwa [HD.out] at hq)
            clear hd hmr hne
            go_quiet (first | (go_at_call 29; refine Calls.quiet_of_same (HCALL.out _)))
            go_wp2_with fail
            go_ret
            exact ⟨rfl, GZ.out⟩
        · have hmay : MayEqs N L := ⟨by omega, hn2, fun q hq => by
            obtain ⟨j, hj, rfl⟩ := List.getElem_of_mem hq
            have := HS.out j (by rw [HM.out] at hj; omega)
            rw [List.getD_eq_getElem?_getD, List.getElem?_eq_getElem hj] at this
            exact this⟩
          have hbt := hyes.out hmay
          subst hbt
          clear hmay HS
          go_wp2_with fail
          go_ret
          exact ⟨rfl, HG.out⟩
    · have hbf := hno.out (fun h => hn2 h.2.1)
      subst hbf
      go_enter Try.func21, Try.ntmps21
      go_wp2_with fail
      go_ret
      exact ⟨rfl, Gr.refl _⟩
  · have hbf := hno.out (fun h => hn1 h.1)
    subst hbf
    go_enter Try.func21, Try.ntmps21
    go_wp2_with fail
    go_ret
    exact ⟨rfl, Gr.refl _⟩
end Go.Proofs.Ytjibmgdafpempaa
