/-
  Texts laid behind one another: Ga Gb Gc Gd.
-/
import Derived.Test.YtbbglejdfbkjlaaGreatMpan
import Derived.Test.YtbbglejdfbkjlaaGreatMpal
import Derived.Laws.ResultCell
import Derived.BigRegion
import Derived.Deep.RegionLaw
import Derived.Deep.DeepCutAuto
import Derived.Deep.RegionHeld3
import Derived.Test.YtbbglejdfbkjlaaGreatMpao
namespace Go.Proofs.YtbbglejdfbkjlaaGreat
open Go.RowKit
open Classical in
set_option maxHeartbeats 800000 in
theorem ascending_any (n : Nat) (v : Value) (c : List Int) (w : World) (h : Zs w v c) (hl : c.length ≤ 1000) (hn : n ≤ 64) :
  Calls Tryz.prog 146 #[.int .i64 n, v] w fun e w' => e = .returned (.bool (decide (MayRow n c))) ∧ w' = w := by
 obtain ⟨m, hm⟩ : ∃ m, c.length = m := ⟨_, rfl⟩
 have HZ := Lib.hid h
 obtain ⟨oa, ca, rfl⟩ := h.form
 rw [hm] at HZ hl ⊢
 have HADJ : Hid (MayRow n c ↔ ∀ i, i < m → adjL n c i) := Lib.hid (by rw [← hm]; exact mayRow_adj n c)
 clear h hm
 obtain ⟨b, hb⟩ : ∃ b, decide (MayRow n c) = b := ⟨_, rfl⟩
 rw [hb]
 have HB := Lib.hid hb
 clear hb
 go_enter Tryz.func146, Tryz.ntmps146
 go_wp2_with fail
 go_loopw [5, 10] (fun lv i wr => wr = w ∧ ∃ (k : Nat) (ls : Int), k ≤ m ∧ i = .int .i64 k ∧ lv = .int .i64 ls ∧ 0 ≤ ls ∧ ls ≤ n ∧ (k = 0 → ls = 0) ∧ (0 < k → ls = c.getD (k - 1) 0 + 1) ∧ ∀ j, j < k → adjL n c j) (fun _ i _ => m - (intOf i).toNat)
 case atStart => exact ⟨rfl, 0, 0, by omega, rfl, rfl, by omega, by omega, fun _ => rfl, by omega, by omega⟩
 case round =>
  obtain ⟨rfl, i, ls, hi, rfl, rfl, hl0, hln, hz, hp, hs⟩ := hrel
  have HS := Lib.hid hs
  have H0 := Lib.hid hz
  have HP := Lib.hid hp
  clear hs hz hp
  by_cases hlt : i < m
  ·obtain ⟨a, rfl⟩ := HZ.out.addr (by omega)
   have q := HZ.out.cellAt hlt
   have hno : ¬ adjL n c i → b = false := fun h => by
    rw [← HB.out, decide_eq_false_iff_not, HADJ.out]
    exact fun hall => h (hall i hlt)
   obtain ⟨x, hx⟩ : ∃ x, c.getD i 0 = x := ⟨_, rfl⟩
   rw [hx] at q
   by_cases h1 : x < ls
   ·have hb := hno (fun h => by
      unfold adjL at h
      rw [hx] at h
      by_cases e : i = 0
      · have := H0.out e; omega
      · have := HP.out (by omega)
        have := h.2.2 (by omega)
        omega)
    subst hb
    clear hno hx
    go_wp2_with fail
    go_ret
    exact ⟨rfl, rfl⟩
   ·by_cases h2 : (n : Int) ≤ x
    ·have hb := hno (fun h => by
       unfold adjL at h
       rw [hx] at h
       omega)
     subst hb
     clear hno hx
     go_wp2_with fail
     go_ret
     exact ⟨rfl, rfl⟩
    ·have hyes : ∀ j, j < i + 1 → adjL n c j := fun j hj => by
      by_cases e : j = i
      ·rw [e]
       unfold adjL
       rw [hx]
       exact ⟨by omega, by omega, fun h0 => by have := HP.out h0; omega⟩
      ·exact HS.out j (by omega)
     have HY := Lib.hid hyes
     have HX : Hid (x = c.getD (i + 1 - 1) 0) := Lib.hid (by rw [Nat.add_sub_cancel, hx])
     clear hno hyes hx
     go_wp2_with fail
     exact ⟨⟨trivial, i + 1, x + 1, by omega, by go_num, by first | rfl | go_num, by omega, by omega, by omega, fun _ => by rw [← HX.out], HY.out⟩, by simp [intOf]; omega⟩
  ·obtain rfl : m = i := by omega
   have hb : b = true := by
    rw [← HB.out, decide_eq_true_iff, HADJ.out]
    exact HS.out
   subst hb
   go_wp2_with fail
   go_ret
   exact ⟨rfl, rfl⟩
def oneL (kn : List Bool) (c : List Int) : Int := match openL kn c with
 | [x] => x
 | _ => -1
set_option maxHeartbeats 800000 in
theorem alone_any (vc vk : Value) (c : List Int) (kn : List Bool) (w : World) (hz : Zs w vc c) (hk : Bl w vk kn) (hr : ∀ x ∈ c, 0 ≤ x ∧ x < (kn.length : Int)) (hl : c.length ≤ 1000) (hkl : kn.length ≤ 1000) :
  Calls Tryz.prog 147 #[vc, vk] w fun e w' => e = .returned (.int .i64 (oneL kn c)) ∧ w' = w := by
 obtain ⟨m, hm⟩ : ∃ m, c.length = m := ⟨_, rfl⟩
 obtain ⟨n, hn⟩ : ∃ n, kn.length = n := ⟨_, rfl⟩
 have HZ := Lib.hid hz
 have HK := Lib.hid hk
 obtain ⟨oa, ca, rfl⟩ := hz.form
 obtain ⟨ok, ck, rfl⟩ := hk.form3
 rw [hm] at HZ hl ⊢
 rw [hn] at HK hkl hr ⊢
 have HM := Lib.hid hm
 have HR := Lib.hid hr
 clear hz hk hm hn hr
 obtain ⟨z, hz⟩ : ∃ z, oneL kn c = z := ⟨_, rfl⟩
 rw [hz]
 have HO := Lib.hid hz
 clear hz
 go_enter Tryz.func147, Tryz.ntmps147
 go_wp2_with fail
 go_loopw [5, 10] (fun av iv W => W = w ∧ ∃ (i : Nat) (at' : Int), i ≤ m ∧ iv = .int .i64 i ∧ av = .int .i64 at' ∧ ((at' = -1 ∧ openL kn (c.take i) = []) ∨ (0 ≤ at' ∧ at' < n ∧ openL kn (c.take i) = [at']))) (fun _ iv _ => m - (intOf iv).toNat)
 case atStart => exact ⟨rfl, 0, -1, by omega, rfl, rfl, .inl ⟨rfl, rfl⟩⟩
 case round =>
  obtain ⟨rfl, i, at', hi, rfl, rfl, hat⟩ := hrel
  have HAT := Lib.hid hat
  have hab : -1 ≤ at' ∧ at' < n := by rcases hat with h | h <;> omega
  obtain ⟨ha1, ha2⟩ := hab
  clear hat
  by_cases hlt : i < m
  ·obtain ⟨a, rfl⟩ := HZ.out.addr (by omega)
   have q := HZ.out.cellAt hlt
   have hxm := HR.out (c.getD i 0) (by rw [List.getD_eq_getElem?_getD, List.getElem?_eq_getElem (by rw [HM.out]; exact hlt)]; exact List.getElem_mem _)
   have hst : openL kn (c.take (i + 1)) = openL kn (c.take i) ++ (if kn.getD (c.getD i 0).toNat false = true then [] else [c.getD i 0]) := by
    rw [take_snoc c i 0 (by rw [HM.out]; exact hlt), openL_snoc]
   have hpre : ∃ r, openL kn c = openL kn (c.take (i + 1)) ++ r := ⟨openL kn (c.drop (i + 1)), by
     unfold openL
     rw [← List.filter_append, List.take_append_drop]⟩
   obtain ⟨x, hx⟩ : ∃ x : Nat, c.getD i 0 = (x : Int) := ⟨(c.getD i 0).toNat, by omega⟩
   rw [hx] at q hxm hst
   rw [Int.toNat_natCast] at hst
   obtain ⟨ak, rfl⟩ := HK.out.addr (by omega)
   have q2 := HK.out.cellAt (i := x) (by omega)
   have hxn : (x : Int) < (n : Int) := hxm.2
   have HST := Lib.hid hst
   have HPR := Lib.hid hpre
   clear hst hx hxm hpre
   cases hb : kn.getD x false with
   | true =>
    rw [hb] at q2
    rw [hb, if_pos rfl, List.append_nil] at HST
    clear hb
    go_wp2_with fail
    exact ⟨⟨trivial, i + 1, at', by omega, by go_num, rfl, by rw [HST.out]; exact HAT.out⟩, by simp [intOf]; omega⟩
   | false =>
    rw [hb] at q2
    rw [hb, if_neg (by simp)] at HST
    clear hb
    by_cases h0 : 0 ≤ at'
    ·obtain rfl : z = -1 := by
      rw [← HO.out]
      obtain ⟨r, hr⟩ := HPR.out
      rcases HAT.out with ⟨h, _⟩ | ⟨_, _, h⟩
      ·omega
      ·unfold oneL
       rw [hr, HST.out, h]
       rfl
     go_wp2_with fail
     go_ret
     exact ⟨rfl, rfl⟩
    ·have HE : Hid (openL kn (c.take i) = []) := Lib.hid (by
       rcases HAT.out with ⟨_, h⟩ | ⟨h, _⟩
       · exact h
       · omega)
     go_wp2_with fail
     exact ⟨⟨trivial, i + 1, (x : Int), by omega, by go_num, rfl, .inr ⟨by omega, hxn, by rw [HST.out, HE.out]; rfl⟩⟩, by simp [intOf]; omega⟩
  ·obtain rfl : m = i := by omega
   obtain rfl : z = at' := by
    rw [← HO.out]
    have hall : c.take m = c := List.take_of_length_le (by rw [HM.out]; exact Nat.le_refl _)
    rcases HAT.out with ⟨h1, h⟩ | ⟨_, _, h⟩
    ·rw [hall] at h
     unfold oneL
     rw [h, h1]
    ·rw [hall] at h
     unfold oneL
     rw [h]
   go_wp2_with fail
   go_ret
   exact ⟨rfl, rfl⟩
open Classical in
set_option maxRecDepth 100000 in
set_option maxHeartbeats 1600000 in
theorem pmay_any (n : Int) (v : Value) (L : List Eqn) (w : World) (h : Eqs w v L) (hl : L.length ≤ 1000) (hc : ∀ q ∈ L, q.c.length ≤ 1000 ∧ q.d.length ≤ 1000) :
  Calls Tryz.prog 124 #[.int .i64 n, v] w fun e w' => e = .returned (.bool (decide (MayEqs n L))) ∧ Gr w w' := by
 have HE := Lib.hid h
 have HCL := Lib.hid hc
 obtain ⟨oa, ca, rfl⟩ := h.form
 obtain ⟨m, hm⟩ : ∃ m, L.length = m := ⟨_, rfl⟩
 rw [hm] at HE hl ⊢
 have HM := Lib.hid hm
 clear h hc hm
 obtain ⟨b, hb⟩ : ∃ b, decide (MayEqs n L) = b := ⟨_, rfl⟩
 rw [hb]
 have HB := Lib.hid hb
 clear hb
 have hno : Hid (¬ MayEqs n L → b = false) := Lib.hid fun h => by rw [← HB.out, decide_eq_false_iff_not]; exact h
 have hyes : Hid (MayEqs n L → b = true) := Lib.hid fun h => by rw [← HB.out, decide_eq_true_iff]; exact h
 clear HB
 by_cases hn1 : 0 ≤ n
 ·by_cases hn2 : n ≤ 64
  ·obtain ⟨N, rfl⟩ : ∃ N : Nat, n = N := ⟨n.toNat, by omega⟩
   go_enter Tryz.func124, Tryz.ntmps124
   go_wp2_with fail
   go_loopw [15] (fun iv W => ∃ i : Nat, i ≤ m ∧ iv = .int .i64 i ∧ Gr w W ∧ ∀ j, j < i → RowOkE N L (L.getD j noE)) (fun iv _ => m - (intOf iv).toNat)
   case atStart => exact ⟨0, by omega, rfl, Gr.refl _, by omega⟩
   case round =>
    obtain ⟨wo, hwo⟩ : ∃ x, x = wr := ⟨_, rfl⟩
    subst hwo
    obtain ⟨i, hi, rfl, hg, hs⟩ := hrel
    have HG := Lib.hid hg
    have HS := Lib.hid hs
    clear hg hs
    by_cases hlt : i < m
    ·obtain ⟨b', o, rfl, _⟩ := HE.out.lay (by omega)
     obtain ⟨oc, nc, cc, od, nd, cd, q1, q2, zc, zd⟩ := (HE.out.grown HG.out).at hlt
     obtain ⟨oc0, nc0, cc0, od0, nd0, cd0, p1, p2, _, zd0⟩ := (HE.out.grown HG.out).at (i := 0) (by omega)
     have hqm := getD_memE (L := L) (i := i) (by rw [HM.out]; exact hlt)
     have hcl := HCL.out _ hqm
     have HND : Hid (nd = (L.getD i noE).d.length) := Lib.hid (zd.parts.1).symm
     have HND0 : Hid (nd0 = dlen L) := Lib.hid (by rw [← dlen_at (by rw [HM.out]; omega)]; exact (zd0.parts.1).symm)
     have HCC := Lib.hid hcl
     have HQM := Lib.hid hqm
     have ZC := Lib.hid zc
     clear zc zd zd0 p1 hcl hqm
     rw [Nat.zero_mul, Nat.add_zero] at p2
     go_upto_region 6 with fail
     have hga : Gr wo (wo.alloc (.cells #[.slice oc nc cc, .slice od nd cd] 160)) := Gr.alloc (Gr.refl _) _ _
     have c0 : (wo.alloc (.cells #[.slice oc nc cc, .slice od nd cd] 160)).cell? ⟨wo.heap.size, 0, none⟩ = some (.slice oc nc cc) := by rw [cell_of_row _ _ 0 _ _ _ (heap_alloc_new _ _)]; rfl
     have c1 : (wo.alloc (.cells #[.slice oc nc cc, .slice od nd cd] 160)).cell? ⟨wo.heap.size, 1, none⟩ = some (.slice od nd cd) := by rw [cell_of_row _ _ 1 _ _ _ (heap_alloc_new _ _)]; rfl
     have c2 := cell_gr hga p2
     have GA := Lib.hid hga
     have ZA := Lib.hid (ZC.out.grown hga)
     clear hga p2 q1 q2 ZC
     generalize wo.alloc (.cells #[.slice oc nc cc, .slice od nd cd] 160) = W1 at *
     generalize wo.heap.size = gq at *
     have GZ0 := Lib.hid (Gr.trans HG.out GA.out)
     by_cases hmr : MayRow N (L.getD i noE).c
     ·have hd := decide_eq_true hmr
      have HD := Lib.hid hd
      have HMR := Lib.hid hmr
      have HCALL : Hid (∀ d, Calls Tryz.prog 146 #[.int .i64 N, .slice oc nc cc] (W1.drewN d) fun e w' => e = .returned (.bool true) ∧ w' = W1.drewN d) := Lib.hid (fun d => by
        have hq := ascending_any N (.slice oc nc cc) (L.getD i noE).c (W1.drewN d) (ZA.out.grown (gr_drN W1 d)) HCC.out.1 (by omega)
        rwa [HD.out] at hq)
      clear hd hmr
      by_cases he : nd = nd0
      ·have heb : ((nd : Int) != (nd0 : Int)) = false := by simp; omega
       have HEQ : Hid ((L.getD i noE).d.length = dlen L) := Lib.hid (by rw [← HND.out, ← HND0.out, he])
       clear he
       go_quiet (first | (go_at_call 146; refine Calls.quiet_of_same (HCALL.out _)))
       go_wp2_with fail
       exact ⟨⟨i + 1, by omega, by go_num, GZ0.out, fun j hj => by
         by_cases e : j = i
         · rw [e]; exact ⟨HMR.out, HEQ.out⟩
         · exact HS.out j (by omega)⟩, by simp [intOf]; omega⟩
      ·have heb : ((nd : Int) != (nd0 : Int)) = true := by simp; omega
       have hne : ¬ MayEqs N L := fun h => he (by rw [HND.out, HND0.out]; exact (h.2.2 _ HQM.out).2)
       have hbf := hno.out hne
       subst hbf
       have GZ := GZ0
       clear he hne
       go_quiet (first | (go_at_call 146; refine Calls.quiet_of_same (HCALL.out _)))
       go_wp2_with fail
       go_ret
       exact ⟨rfl, GZ.out⟩
     ·have hd := decide_eq_false hmr
      have HD := Lib.hid hd
      have hne : ¬ MayEqs N L := fun h => hmr (h.2.2 _ HQM.out).1
      have hbf := hno.out hne
      subst hbf
      have GZ := GZ0
      have HCALL : Hid (∀ d, Calls Tryz.prog 146 #[.int .i64 N, .slice oc nc cc] (W1.drewN d) fun e w' => e = .returned (.bool false) ∧ w' = W1.drewN d) := Lib.hid (fun d => by
        have hq := ascending_any N (.slice oc nc cc) (L.getD i noE).c (W1.drewN d) (ZA.out.grown (gr_drN W1 d)) HCC.out.1 (by omega)
        rwa [HD.out] at hq)
      clear hd hmr hne
      go_quiet (first | (go_at_call 146; refine Calls.quiet_of_same (HCALL.out _)))
      go_wp2_with fail
      go_ret
      exact ⟨rfl, GZ.out⟩
    ·have hmay : MayEqs N L := ⟨by omega, hn2, fun q hq => by
       obtain ⟨j, hj, rfl⟩ := List.getElem_of_mem hq
       have := HS.out j (by rw [HM.out] at hj; omega)
       rw [List.getD_eq_getElem?_getD, List.getElem?_eq_getElem hj] at this
       exact this⟩
     have hbt := hyes.out hmay
     subst hbt
     clear hmay HS
     go_wp2_with fail
     go_ret
     exact ⟨rfl, HG.out⟩
  ·have hbf := hno.out (fun h => hn2 h.2.1)
   subst hbf
   go_enter Tryz.func124, Tryz.ntmps124
   go_wp2_with fail
   go_ret
   exact ⟨rfl, Gr.refl _⟩
 ·have hbf := hno.out (fun h => hn1 h.1)
  subst hbf
  go_enter Tryz.func124, Tryz.ntmps124
  go_wp2_with fail
  go_ret
  exact ⟨rfl, Gr.refl _⟩
end Go.Proofs.YtbbglejdfbkjlaaGreat
namespace Go.Proofs.YtbbglejdfbkjlaaGreat
open Go.RowKit
theorem heap_gr {w w' : World} (hg : Gr w w') {k : Nat} {x : Obj} (h : w.heap[k]? = some x) : w'.heap[k]? = some x := by
 rw [hg.2.2.2.2 k (Array.getElem?_eq_some_iff.1 h).1]
 exact h
structure Rd (w0 W : World) (g6 g7 : Nat) (uc ud : Value) (cs ds : List Int) : Prop where
 blk : W.heap[g7]? = some (.cells #[uc, ud] 160 (0, 0))
 res : W.heap[g6]? = some (.cells #[.slice none 0 0, .slice none 0 0] 160 (0, 0))
 low6 : w0.heap.size ≤ g6
 low7 : w0.heap.size ≤ g7
 ne : g6 ≠ g7
 own : W.ownsRow w0.heap.size 3 1 uc cs.length (cs.map (Value.int .i64))
 bs : Bs W ud ds
 rb : Rb 0 W ud
 gr : Gr w0 W
section
variable {w0 W : World} {g6 g7 : Nat} {uc ud : Value} {cs ds : List Int}
theorem Rd.c0 (h : Rd w0 W g6 g7 uc ud cs ds) : W.cell? ⟨g7, 0, none⟩ = some uc := by rw [cell_of_row _ _ 0 _ _ _ h.blk]; rfl
theorem Rd.c1 (h : Rd w0 W g6 g7 uc ud cs ds) : W.cell? ⟨g7, 1, none⟩ = some ud := by rw [cell_of_row _ _ 1 _ _ _ h.blk]; rfl
theorem Rd.r0 (h : Rd w0 W g6 g7 uc ud cs ds) : W.cell? ⟨g6, 0, none⟩ = some (.slice none 0 0) := by rw [cell_of_row _ _ 0 _ _ _ h.res]; rfl
theorem Rd.r1 (h : Rd w0 W g6 g7 uc ud cs ds) : W.cell? ⟨g6, 1, none⟩ = some (.slice none 0 0) := by rw [cell_of_row _ _ 1 _ _ _ h.res]; rfl
theorem Rd.fz (h : Rd w0 W g6 g7 uc ud cs ds) (i : Nat) : W.frozen? ⟨g7, i, none⟩ = false := frozen_of_row _ _ _ _ _ h.blk
theorem Rd.fz6 (h : Rd w0 W g6 g7 uc ud cs ds) (i : Nat) : W.frozen? ⟨g6, i, none⟩ = false := frozen_of_row _ _ _ _ _ h.res
theorem Rd.grow {W' : World} (h : Rd w0 W g6 g7 uc ud cs ds) (hg : Gr W W') : Rd w0 W' g6 g7 uc ud cs ds :=
 ⟨heap_gr hg h.blk, heap_gr hg h.res, h.low6, h.low7, h.ne, h.own.of_gr hg, (Rb.gr h.bs h.rb hg).1, (Rb.gr h.bs h.rb hg).2, Gr.trans h.gr hg⟩
theorem Rd.far (h : Rd w0 W g6 g7 uc ud cs ds) : ∀ q, some g7 = some q → 0 ≤ q ∧ ∀ cur, W.heap[q]? ≠ some (.cells cur 5 (0, 0)) := fun q e => by
 cases e
 refine ⟨Nat.zero_le _, fun cur hc => ?_⟩
 rw [h.blk] at hc
 simp at hc
theorem Rd.ownNe (h : Rd w0 W g6 g7 uc ud cs ds) {g : Nat} {cur : Array Value} (hg : W.heap[g]? = some (.cells cur 160 (0, 0))) : uc.ownBlock ≠ some g := fun e => by
 obtain ⟨_, ⟨rfl, _⟩ | ⟨g', c, cur', rfl, _, hgg, _⟩⟩ := h.own
 ·cases e
 ·simp [Value.ownBlock] at e
  subst e
  rw [hgg] at hg
  simp at hg
theorem Rd.putD {u : Value} {l : List Int} (h : Rd w0 W g6 g7 uc ud cs ds) (hb : Bs W u l) (hr : Rb 0 W u) : Rd w0 (W.setCell ⟨g7, 1, none⟩ u) g6 g7 uc u cs l := by
 have h1 := row_far (i := 1) (u := u) hb hr h.far
 refine ⟨?_, ?_, h.low6, h.low7, h.ne, ownsRow_far h.own (h.ownNe h.blk), h1.1, h1.2, Gr.setCell h.gr h.low7 _⟩
 ·rw [heap_setCell_same _ _ _ _ _ _ h.blk]
  rfl
 ·rw [heap_setCell_other _ _ _ _ h.ne]
  exact h.res
theorem Rd.still {W' : World} (h : Rd w0 W g6 g7 uc ud cs ds) (hg : W.grownBy W' uc.ownBlock) : W'.heap[g7]? = some (.cells #[uc, ud] 160 (0, 0)) := by
 rw [hg.block g7 (Array.getElem?_eq_some_iff.1 h.blk).1 (fun e => h.ownNe h.blk e.symm)]
 exact h.blk
theorem Rd.after {W' : World} (h : Rd w0 W g6 g7 uc ud cs ds) (hg : W.grownBy W' uc.ownBlock) : W'.cell? ⟨g7, 0, none⟩ = some uc ∧ W'.frozen? ⟨g7, 0, none⟩ = false :=
 ⟨by rw [cell_of_row _ _ 0 _ _ _ (h.still hg)]; rfl, frozen_of_row _ _ _ _ _ (h.still hg)⟩
theorem Rd.putC {W' : World} {u : Value} {x : Int} (h : Rd w0 W g6 g7 uc ud cs ds) (ho : W'.ownsRow w0.heap.size 3 1 u (cs.length + 1) ((cs ++ [x]).map (Value.int .i64))) (hg : W.grownBy W' uc.ownBlock) : Rd w0 (W'.setCell ⟨g7, 0, none⟩ u) g6 g7 u ud (cs ++ [x]) ds := by
 have hne : ∀ (t : TypeId), t ≠ 3 → ∀ q, uc.ownBlock = some q → 0 ≤ q ∧ ∀ cur, W.heap[q]? ≠ some (.cells cur t (0, 0)) := fun t ht q e => by
  refine ⟨Nat.zero_le _, fun cur hc => ?_⟩
  obtain ⟨_, ⟨rfl, _⟩ | ⟨g', c, cur', rfl, _, hgg, _⟩⟩ := h.own
  ·cases e
  ·simp [Value.ownBlock] at e
   subst e
   rw [hgg] at hc
   simp at hc
   exact ht hc.2.symm
 have hb : W'.heap[g7]? = some (.cells #[uc, ud] 160 (0, 0)) := by
  rw [hg.block g7 (Array.getElem?_eq_some_iff.1 h.blk).1 (fun e => (hne _ (by decide) g7 e.symm).2 _ h.blk)]
  exact h.blk
 have hr : W'.heap[g6]? = some (.cells #[.slice none 0 0, .slice none 0 0] 160 (0, 0)) := by
  rw [hg.block g6 (Array.getElem?_eq_some_iff.1 h.res).1 (fun e => (hne _ (by decide) g6 e.symm).2 _ h.res)]
  exact h.res
 have hgr : Gr w0 W' := gr_by_own h.gr hg h.own (Nat.le_refl _)
 have h2 := Rb.kept h.bs h.rb hg.block (hne _ (by decide))
 have hfar : ∀ q, some g7 = some q → 0 ≤ q ∧ ∀ cur, W'.heap[q]? ≠ some (.cells cur 5 (0, 0)) := fun q e => by
  cases e
  refine ⟨Nat.zero_le _, fun cur hc => ?_⟩
  rw [hb] at hc
  simp at hc
 have h3 := row_far (i := 0) (u := u) h2.1 h2.2 hfar
 refine ⟨?_, ?_, h.low6, h.low7, h.ne, ?_, h3.1, h3.2, Gr.setCell hgr h.low7 _⟩
 ·rw [heap_setCell_same _ _ _ _ _ _ hb]
  rfl
 ·rw [heap_setCell_other _ _ _ _ h.ne]
  exact hr
 ·rw [List.length_append]
  refine ownsRow_far ho fun e => ?_
  obtain ⟨_, ⟨rfl, _⟩ | ⟨g', c, cur', rfl, _, hgg, _⟩⟩ := ho
  ·cases e
  ·simp [Value.ownBlock] at e
   subst e
   rw [hgg] at hb
   simp at hb
theorem Rd.done (h : Rd w0 W g6 g7 uc ud cs ds) (hr : ∀ x ∈ cs, I64 x) : ((W.setCell ⟨g6, 0, none⟩ uc).setCell ⟨g6, 1, none⟩ ud).heap[g6]? = some (.cells #[uc, ud] 160 (0, 0)) ∧ EqVal 0 ((W.setCell ⟨g6, 0, none⟩ uc).setCell ⟨g6, 1, none⟩ ud) uc ud ⟨cs, ds⟩ ∧ Gr w0 ((W.setCell ⟨g6, 0, none⟩ uc).setCell ⟨g6, 1, none⟩ ud) := by
 have e1 : (W.setCell ⟨g6, 0, none⟩ uc).heap[g6]? = some (.cells #[uc, .slice none 0 0] 160 (0, 0)) := by
  rw [heap_setCell_same _ _ _ _ _ _ h.res]
  rfl
 have e2 : ((W.setCell ⟨g6, 0, none⟩ uc).setCell ⟨g6, 1, none⟩ ud).heap[g6]? = some (.cells #[uc, ud] 160 (0, 0)) := by
  rw [heap_setCell_same _ _ _ _ _ _ e1]
  rfl
 have hfar : ∀ {W : World} {cur' : Array Value}, W.heap[g6]? = some (.cells cur' 160 (0, 0)) → ∀ q, some g6 = some q → 0 ≤ q ∧ ∀ cur, W.heap[q]? ≠ some (.cells cur 5 (0, 0)) := fun hw q e => by
  cases e
  refine ⟨Nat.zero_le _, fun cur hc => ?_⟩
  rw [hw] at hc
  simp at hc
 have b1 := row_far (i := 0) (u := uc) h.bs h.rb (hfar h.res)
 have b2 := row_far (i := 1) (u := ud) b1.1 b1.2 (hfar e1)
 have o2 := ownsRow_far (g' := g6) (i := 1) (u := ud) (ownsRow_far (g' := g6) (i := 0) (u := uc) h.own (h.ownNe h.res)) (h.ownNe h.res)
 exact ⟨e2, ⟨owns_zs o2 rfl hr, fun a n c e h0 => .inr (owns_inInts o2 a n c e h0), b2.1, b2.2⟩, Gr.setCell (Gr.setCell h.gr h.low6 _) h.low6 _⟩
end
set_option maxRecDepth 100000 in
set_option maxHeartbeats 1600000 in
theorem reduced_any (vc vd vk vv : Value) (c d : List Int) (kn : List Bool) (vs : List (List Int)) (S : Nat) (w : World) (hz : Zs w vc c) (hd : Bs w vd d) (hk : Bl w vk kn) (hv : Bss w vv vs) (hr : ∀ x ∈ c, 0 ≤ x ∧ x < (kn.length : Int)) (hl : c.length ≤ 1000) (hkl : kn.length ≤ 1000) (hS : d.length = S) (hSl : S ≤ 100000) (hV : Valed S kn vs) :
  Calls Tryz.prog 148 #[.agg #[vc, vd], vk, vv] w fun e w' => ∃ uc ud, e = .returned (.agg #[uc, ud]) ∧ EqVal 0 w' uc ud ⟨openL kn c, restL kn vs c d⟩ ∧ Gr w w' := by
 obtain ⟨m, hm⟩ : ∃ m, c.length = m := ⟨_, rfl⟩
 obtain ⟨n, hn⟩ : ∃ n, kn.length = n := ⟨_, rfl⟩
 have HZ := Lib.hid hz
 have HK := Lib.hid hk
 have HV := Lib.hid hv
 have HD := Lib.hid hd
 have HVL := Lib.hid hV
 have hvn : vs.length = n := by rw [hV.1, hn]
 obtain ⟨oa, ca, rfl⟩ := hz.form
 obtain ⟨od, cd, rfl⟩ := hd.form
 obtain ⟨ok, ck, rfl⟩ := hk.form3
 obtain ⟨ov, nv, cv, rfl⟩ := hv.form3
 obtain rfl : nv = vs.length := hv.len3
 rw [hvn] at HV ⊢
 rw [hm] at HZ hl ⊢
 rw [hn] at HK hkl hr ⊢
 rw [hS] at HD ⊢
 have HM := Lib.hid hm
 have HR := Lib.hid hr
 have HS := Lib.hid hS
 have HVN := Lib.hid hvn
 clear hz hk hm hn hr hd hv hV hS hvn
 go_enter Tryz.func148, Tryz.ntmps148
 have hg0 : Gr w ((w.alloc (.cells #[.slice oa m ca, .slice od S cd] 160)).alloc (.cells #[.slice none 0 0, .slice none 0 0] 160)) := Gr.alloc (Gr.alloc (Gr.refl _) _ _) _ _
 have HG0 := Lib.hid hg0
 have c0 : ((w.alloc (.cells #[.slice oa m ca, .slice od S cd] 160)).alloc (.cells #[.slice none 0 0, .slice none 0 0] 160)).cell? ⟨w.heap.size, 0, none⟩ = some (.slice oa m ca) := by rw [cell_of_row _ _ 0 _ _ _ (heap_alloc2_old _ _ _)]; rfl
 have c1 : ((w.alloc (.cells #[.slice oa m ca, .slice od S cd] 160)).alloc (.cells #[.slice none 0 0, .slice none 0 0] 160)).cell? ⟨w.heap.size, 1, none⟩ = some (.slice od S cd) := by rw [cell_of_row _ _ 1 _ _ _ (heap_alloc2_old _ _ _)]; rfl
 have c6 : Hid (((w.alloc (.cells #[.slice oa m ca, .slice od S cd] 160)).alloc (.cells #[.slice none 0 0, .slice none 0 0] 160)).heap[w.heap.size + 1]? = some (.cells #[.slice none 0 0, .slice none 0 0] 160 (0, 0))) := Lib.hid (heap_alloc2_new _ _ _)
 have HD0 := Lib.hid (HD.out.grown hg0)
 have hs0 : ((w.alloc (.cells #[.slice oa m ca, .slice od S cd] 160)).alloc (.cells #[.slice none 0 0, .slice none 0 0] 160)).heap.size = w.heap.size + 2 := by simp
 have HS0 := Lib.hid hs0
 clear hg0 hs0
 go_upto_region 1 with fail
 generalize (w.alloc (.cells #[.slice oa m ca, .slice od S cd] 160)).alloc (.cells #[.slice none 0 0, .slice none 0 0] 160) = W0 at *
 generalize hgq : w.heap.size = gq at *
 have HGQ := Lib.hid hgq
 clear hgq
 go_upto_region 2 with (first
   | (go_at_call 52; refine (clone_new _ d _ HD0.out (by rw [HS.out]; omega)).mono ?_; rintro e w1 ⟨v1, rfl, hn1⟩; obtain ⟨o1, m1, d1, rfl⟩ := New.form3 hn1; have c0 := cell_gr hn1.1 c0; have c1 := cell_gr hn1.1 c1; have N1 := Lib.hid hn1; clear hn1))
 have RD1 : Hid (Rd w (w1.alloc (.cells #[.slice none 0 0, .slice o1 m1 d1] 160)) (gq + 1) w1.heap.size (.slice none 0 0) (.slice o1 m1 d1) (openL kn (c.take 0)) (restL kn vs (c.take 0) d)) := Lib.hid (by
   have hsz := N1.out.1.size
   rw [HS0.out] at hsz
   have hga : Gr w1 (w1.alloc (.cells #[.slice none 0 0, .slice o1 m1 d1] 160)) := Gr.alloc (Gr.refl _) _ _
   have hb := Rb.gr (New.bs N1.out) (New.rb N1.out 0) hga
   exact ⟨heap_alloc_new _ _, heap_gr (Gr.trans N1.out.1 hga) c6.out, by rw [HGQ.out]; omega, by rw [HGQ.out]; omega, by omega, World.ownsRow_nil _ _ _ _, hb.1, hb.2, Gr.trans HG0.out (Gr.trans N1.out.1 hga)⟩)
 have c0 := cell_gr (Gr.alloc (Gr.refl w1) (#[.slice none 0 0, .slice o1 m1 d1]) 160) c0
 clear c1 c6 HD0 HS0
 generalize w1.alloc (.cells #[.slice none 0 0, .slice o1 m1 d1] 160) = W1 at *
 generalize w1.heap.size = g7 at *
 go_wp2_with fail
 go_loopw [17] (fun iv W => ∃ i : Nat, i ≤ m ∧ iv = .int .i64 i ∧ ∃ uc ud, Rd w W (gq + 1) g7 uc ud (openL kn (c.take i)) (restL kn vs (c.take i) d)) (fun iv _ => m - (intOf iv).toNat)
 case atStart => exact ⟨0, by omega, rfl, _, _, RD1.out⟩
 case round =>
  clear RD1 N1 c0
  obtain ⟨wo, hwo⟩ : ∃ x, x = wr := ⟨_, rfl⟩
  subst hwo
  obtain ⟨i, hi, rfl, uc, ud, hrd⟩ := hrel
  have RD := Lib.hid hrd
  have k0 := hrd.c0
  have k1 := hrd.c1
  have f0 := hrd.fz 0
  have f1 := hrd.fz 1
  obtain ⟨ou, cu, hfc⟩ := ownsRow_form'' hrd.own
  obtain ⟨ow, nw, cw, hfd⟩ := hrd.bs.form4
  subst hfc
  subst hfd
  clear hrd
  by_cases hlt : i < m
  ·obtain ⟨a, rfl⟩ := HZ.out.addr (by omega)
   have q := (HZ.out.grown RD.out.gr).cellAt hlt
   have hxm := HR.out (c.getD i 0) (by rw [List.getD_eq_getElem?_getD, List.getElem?_eq_getElem (by rw [HM.out]; exact hlt)]; exact List.getElem_mem _)
   have hxr := HZ.out.rng i (by rw [HM.out]; exact hlt)
   have hle := openL_le kn (c.take i)
   rw [List.length_take] at hle
   have hso : openL kn (c.take (i + 1)) = openL kn (c.take i) ++ (if kn.getD (c.getD i 0).toNat false = true then [] else [c.getD i 0]) := by
    rw [take_snoc c i 0 (by rw [HM.out]; exact hlt), openL_snoc]
   have hst : restL kn vs (c.take (i + 1)) d = if kn.getD (c.getD i 0).toNat false = true then sumL (vs.getD (c.getD i 0).toNat []) (restL kn vs (c.take i) d) else restL kn vs (c.take i) d := by
    rw [take_snoc c i 0 (by rw [HM.out]; exact hlt), restL_snoc]
   obtain ⟨x, hx⟩ : ∃ x : Nat, c.getD i 0 = (x : Int) := ⟨(c.getD i 0).toNat, by omega⟩
   rw [hx] at q hxm hst hso hxr
   rw [Int.toNat_natCast] at hst hso
   obtain ⟨ak, rfl⟩ := HK.out.addr (by omega)
   have q2 := (HK.out.grown RD.out.gr).cellAt (i := x) (by omega)
   have hxn : (x : Int) < (n : Int) := hxm.2
   have hrl := restL_ok HVL.out (c.take i) d HS.out HD.out.1
   have hvx := HVL.out.2 x
   have HST := Lib.hid hst
   have HSO := Lib.hid hso
   have HRL := Lib.hid hrl
   have HVX := Lib.hid hvx
   have HXR := Lib.hid hxr
   generalize restL kn vs (c.take i) d = lo at *
   generalize openL kn (c.take i) = lc at *
   obtain ⟨lc', hlc⟩ : ∃ k, lc.length = k := ⟨_, rfl⟩
   rw [hlc] at RD hle k0
   have HLC := Lib.hid hlc
   clear hst hx hxm hrl hvx hso hxr hlc
   cases hb : kn.getD x false with
   | false =>
    rw [hb] at q2
    rw [hb, if_neg (by simp)] at HST
    rw [hb, if_neg (by simp)] at HSO
    clear hb
    have R1 := Lib.hid (RD.out.grow (Gr.alloc (Gr.refl wo) (#[.int .i64 (x : Int)]) 3))
    go_wp2_with (at_builtin; refine wpList_append_int rfl _ _ rfl gq (.slice ou lc' cu) lc' lc rfl (by have := R1.out.own; rw [HGQ.out, HLC.out] at this; exact this) wo.heap.size (x : Int) rfl (by rw [cell_of_row _ _ 0 _ _ _ (heap_alloc_new wo _)]; rfl) (by omega) (by have := RD.out.gr.size; rw [HGQ.out] at this; simp; omega) ?_; intro g5 cap5 w5 h1 h2 h3; have O5 := Lib.hid h1; have G5 := Lib.hid h2; have AF := R1.out.after h2; have a0 := AF.1; have a1 := AF.2; clear h1 h2 h3 AF)
    have P5 := R1.out.putC (x := (x : Int)) (by rw [HGQ.out, HLC.out]; exact O5.out) G5.out
    exact ⟨⟨i + 1, by omega, by go_num, _, _, by rw [HSO.out, HST.out]; exact P5⟩, by simp [intOf]; omega⟩
   | true =>
    rw [hb] at q2
    rw [hb, if_pos rfl] at HST
    rw [hb, if_pos rfl, List.append_nil] at HSO
    have hvx := HVX.out hb
    clear hb
    obtain ⟨b, rfl⟩ := HV.out.addr (by omega)
    obtain ⟨u, q3, hu⟩ := (HV.out.grown RD.out.gr).rowAt (i := x) (by omega)
    obtain ⟨oy, my, cy, rfl⟩ := hu.form4
    have HU := Lib.hid hu
    have HVY := Lib.hid hvx
    clear hu hvx HVX
    go_upto_region 6 with fail
    go_region_law (first
      | ((try go_simp); go_at_call 134; refine (ok_sum _ _ lo (vs.getD x []) _ (RD.out.bs.grown (Gr.drew (Gr.refl _))) (HU.out.grown (Gr.drew (Gr.refl _))) (by rw [HRL.out.1]; omega) (by rw [HVY.out.1, HRL.out.1])).mono ?_; rintro e w2 ⟨v2, rfl, hn2⟩; obtain ⟨o2, m2, d2, rfl⟩ := New.form3 hn2; have t1 := cell_grown hn2.1 k1; have t2 := frozen_grown hn2.1 k1 f1; have N2 := Lib.hid hn2; clear hn2))
    all_goals
     go_wp2_with fail
     have hsm : sumL lo (vs.getD x []) = sumL (vs.getD x []) lo := by
      unfold sumL
      rw [HVY.out.1, HRL.out.1]
      exact lst_congr _ _ _ fun i _ => addZ_comm _ _
     have P5 := (RD.out.grow (Gr.trans (Gr.drew (Gr.refl _)) N2.out.1)).putD (New.bs N2.out) (New.rb N2.out 0)
     exact ⟨⟨i + 1, by omega, by go_num, _, _, by rw [HSO.out, HST.out, ← hsm]; exact P5⟩, by simp [intOf]; omega⟩
  ·obtain rfl : m = i := by omega
   have hall : c.take m = c := List.take_of_length_le (by rw [HM.out]; exact Nat.le_refl _)
   rw [hall] at RD
   have k6 := RD.out.r0
   have k7 := RD.out.r1
   have h6 := RD.out.fz6 0
   have h7 := RD.out.fz6 1
   have hne := RD.out.ne
   have hdone := RD.out.done fun x hx => HZ.out.1 x (List.mem_filter.1 hx).1
   have HDN := Lib.hid hdone
   clear hdone
   go_wp2_with fail
   refine bodyPost_ret (results_cell_row rfl _ _ (gq + 1) 160 _ (0, 0) _ rfl HDN.out.1 Tryz.underlying160 rfl (by kernel_rfl)) rfl ?_
   have h2 := HDN.out.2
   exact ⟨_, _, rfl, h2⟩
end Go.Proofs.YtbbglejdfbkjlaaGreat
namespace Go.Proofs.YtbbglejdfbkjlaaGreat
open Go.RowKit
theorem wp_scope_back {P : Program} {a : Act} {w : World} {Q : Exit → Act → World → Prop} {c R : Code} (l : Nat) (J : Act → World → Prop) (μ : Act → World → Nat) (hf : findLabel c l = some (.seq .skip R))
  (pass : ∀ a w, J a w → R.wp P (Exit.jump l (fun a' w' => J a' w' ∧ μ a' w' < μ a w) Q) a w)
  (first : (∀ a w, J a w → R.wp P (Exit.jump l J Q) a w) → c.wp P (Exit.jump l J Q) a w) : (Code.scope c).wp P Q a w := by
 refine wp_scope_jumps l J μ hf (first fun a w h => wp_mono (pass a w h) fun e a' w' hq => ?_) fun a w h => wp_seq (wp_skip (pass a w h))
 cases e
 case goto l' => exact ⟨hq.1, hq.2.1⟩
 all_goals exact hq
theorem EqVal.any {w : World} {uc ud : Value} {q : Eqn} (h : EqVal 0 w uc ud q) (base : Nat) : EqVal base w uc ud q :=
 ⟨h.1, fun a n c e h0 => (h.2.1 a n c e h0).elim (fun hlt => absurd hlt (Nat.not_lt_zero _)) .inr, h.2.2.1, fun a n c e h0 => (h.2.2.2 a n c e h0).elim (fun hlt => absurd hlt (Nat.not_lt_zero _)) .inr⟩
noncomputable def unkA (N : Nat) (a : Act) (w : World) : Nat := match a.tmps.getD 4 undef with
 | .slice (some ad) _ _ => unkW w ad.block N
 | _ => 0
def SJ (w0 : World) (N S : Nat) (L : List Eqn) (vl : Value) (a : Act) (w : World) : Prop :=
 ∃ (gk gv : Nat) (kn : List Bool) (vs : List (List Int)) (us : List Value) (u2 u3 u6 u7 u8 u9 u10 u11 u12 u13 u14 u15 u16 u17 u18 u19 u20 u21 u22 u23 u24 u25 u26 u27 u28 u29 u30 u31 u32 u33 u34 u35 u36 u37 u38 u39 u40 : Value),
  KV w0 w gk gv N kn vs us ∧ PeelInv N S (L.map toE) kn vs ∧
  a = { tmps := #[.int .i64 N, vl, u2, u3, .slice (some ⟨gk, 0, none⟩) N N, .slice (some ⟨gv, 0, none⟩) N N, u6, u7, u8, u9, u10, u11, u12, u13, u14, u15, u16, u17, u18, u19, u20, u21, u22, u23, u24, u25, u26, u27, u28, u29, u30, u31, u32, u33, u34, u35, u36, u37, u38, u39, u40], defers := [] }
theorem oneL_one {kn : List Bool} {c : List Int} {x : Int} (h : openL kn c = [x]) : oneL kn c = x := by
 unfold oneL
 rw [h]
theorem oneL_none {kn : List Bool} {c : List Int} (h : (openL kn c).length ≠ 1) : oneL kn c = -1 := by
 unfold oneL
 split
 ·rename_i x hx
  rw [hx] at h
  exact absurd rfl h
 ·rfl
set_option maxRecDepth 100000 in
set_option maxHeartbeats 3200000 in
theorem solved_any (N : Nat) (v : Value) (L : List Eqn) (w : World) (h : Eqs w v L) (hl : L.length ≤ 1000) (hc : ∀ q ∈ L, q.c.length ≤ 1000 ∧ q.d.length ≤ 1000) (hm : MayEqs N L) :
  Calls Tryz.prog 125 #[.int .i64 N, v] w fun e w' => ∃ gk gv kn vs us, e = .returned (.tuple #[.slice (some ⟨gk, 0, none⟩) N N, .slice (some ⟨gv, 0, none⟩) N N]) ∧ KV w w' gk gv N kn vs us ∧ PeelInv N (dlen L) (L.map toE) kn vs ∧ ∀ q ∈ L, (openL kn q.c).length ≠ 1 := by
 have HE := Lib.hid h
 have HCL := Lib.hid hc
 have HBY := Lib.hid h.byt
 have HMY := Lib.hid hm
 have hn2 : N ≤ 64 := by have := hm.2.1; omega
 obtain ⟨oa, ca, rfl⟩ := h.form
 obtain ⟨m, hmm⟩ : ∃ m, L.length = m := ⟨_, rfl⟩
 rw [hmm] at HE hl ⊢
 have HM := Lib.hid hmm
 clear h hc hmm hm
 have hfd : ∀ (x y : Value) (W : World), (Instr.field 160 (.agg #[x, y]) 1).run Tryz.prog W = .ok y W := fun _ _ _ => rfl
 have hmT := makeT N (by omega)
 have hmV := fun W => make24 N N (by omega) (by omega) W
 go_enter Tryz.func125, Tryz.ntmps125
 go_wp2_with fail
 refine wp_scope_back 0 (SJ w N (dlen L) L (.slice oa m ca)) (unkA N) rfl ?_ ?_
 rotate_left
 ·intro hp
  have HP := Lib.hid hp
  clear hp
  go_wp2_with fail
  go_region
  all_goals
   go_wp2_with fail
   go_step3
   rename_i hk
   refine hk _ _ (HP.out _ _ ?_)
   first
    | exact ⟨_, _, _, _, _, _, _, _, _, _, _, _, _, _, _, _, _, _, _, _, _, _, _, _, _, _, _, _, _, _, _, _, _, _, _, _, _, _, _, _, _, _, (KV.start N (by omega) (Gr.refl _)).grow (Gr.drew (Gr.refl _)), PeelInv.start _ _ _, rfl⟩
    | exact ⟨_, _, _, _, _, _, _, _, _, _, _, _, _, _, _, _, _, _, _, _, _, _, _, _, _, _, _, _, _, _, _, _, _, _, _, _, _, _, _, _, _, _, (KV.start' N (by omega) (Gr.refl _)).grow (Gr.drew (Gr.refl _)), PeelInv.start _ _ _, rfl⟩
 ·rintro a' w' ⟨gk, gv, kn, vs, us, u2, u3, u6, u7, u8, u9, u10, u11, u12, u13, u14, u15, u16, u17, u18, u19, u20, u21, u22, u23, u24, u25, u26, u27, u28, u29, u30, u31, u32, u33, u34, u35, u36, u37, u38, u39, u40, hkv, hin, rfl⟩
  have hmu : unkA N { tmps := #[.int .i64 N, .slice oa m ca, u2, u3, .slice (some ⟨gk, 0, none⟩) N N, .slice (some ⟨gv, 0, none⟩) N N, u6, u7, u8, u9, u10, u11, u12, u13, u14, u15, u16, u17, u18, u19, u20, u21, u22, u23, u24, u25, u26, u27, u28, u29, u30, u31, u32, u33, u34, u35, u36, u37, u38, u39, u40], defers := [] } w' = unk kn N := hkv.unkW
  rw [hmu]
  have HKV := Lib.hid hkv
  have HIN := Lib.hid hin
  clear hkv hin hmu hmT hmV
  go_wp2_with fail
  go_loopw [6, 16] (fun av iv W => ∃ i : Nat, i ≤ m ∧ iv = .int .i64 i ∧ ∃ bg kn' vs' us', av = .bool bg ∧ KV w W gk gv N kn' vs' us' ∧ PeelInv N (dlen L) (L.map toE) kn' vs' ∧ (bg = false → kn' = kn ∧ ∀ j, j < i → (openL kn (L.getD j noE).c).length ≠ 1) ∧ (bg = true → unk kn' N < unk kn N)) (fun _ iv _ => m - (intOf iv).toNat)
  case atStart => exact ⟨0, by omega, rfl, false, kn, vs, us, rfl, HKV.out, HIN.out, fun _ => ⟨rfl, by omega⟩, fun e => by cases e⟩
  case round =>
   obtain ⟨wo, hwo⟩ : ∃ x, x = wr := ⟨_, rfl⟩
   subst hwo
   obtain ⟨i, hi, rfl, bg, kn', vs', us', rfl, hkv, hin, hf, ht⟩ := hrel
   have HKO := Lib.hid hkv
   have HIO := Lib.hid hin
   have HF := Lib.hid hf
   have HT := Lib.hid ht
   clear hkv hin hf ht
   by_cases hlt : i < m
   ·obtain ⟨b, o, rfl, _⟩ := HE.out.lay (by omega)
    obtain ⟨oc, nc, cc, od, nd, cd, q1, q2, zc, zd⟩ := (HE.out.grown HKO.out.gr).at hlt
    have hqm := getD_memE (L := L) (i := i) (by rw [HM.out]; exact hlt)
    have hcl := HCL.out _ hqm
    have hmr := HMY.out.2.2 _ hqm
    have HQM := Lib.hid hqm
    have HQL := Lib.hid hcl
    have HMR := Lib.hid hmr
    have ZC := Lib.hid zc
    have ZD := Lib.hid zd
    clear zc zd hqm hcl hmr
    obtain ⟨qe, hqe⟩ : ∃ q, L.getD i noE = q := ⟨_, rfl⟩
    rw [hqe] at HQM HQL HMR ZC ZD
    have HQE := Lib.hid hqe
    clear hqe
    go_upto_region 6 with fail
    have hga : Gr wo (wo.alloc (.cells #[.slice oc nc cc, .slice od nd cd] 160)) := Gr.alloc (Gr.refl _) _ _
    have c0 : (wo.alloc (.cells #[.slice oc nc cc, .slice od nd cd] 160)).cell? ⟨wo.heap.size, 0, none⟩ = some (.slice oc nc cc) := by rw [cell_of_row _ _ 0 _ _ _ (heap_alloc_new _ _)]; rfl
    have c1 : (wo.alloc (.cells #[.slice oc nc cc, .slice od nd cd] 160)).cell? ⟨wo.heap.size, 1, none⟩ = some (.slice od nd cd) := by rw [cell_of_row _ _ 1 _ _ _ (heap_alloc_new _ _)]; rfl
    have HK1 := Lib.hid (HKO.out.grow hga)
    have Z1 := Lib.hid (ZC.out.grown hga)
    have D1 := Lib.hid (ZD.out.grown hga)
    clear hga q1 q2 ZC ZD HKO
    generalize wo.alloc (.cells #[.slice oc nc cc, .slice od nd cd] 160) = W1 at *
    generalize wo.heap.size = gq at *
    go_wp2_with fail
    refine (alone_any _ _ qe.c kn' _ Z1.out (HK1.out.bl (by omega)) (by rw [HIO.out.len]; exact HMR.out.1.1) HQL.out.1 (by rw [HIO.out.len]; omega)).mono ?_
    rintro e w2 ⟨rfl, rfl⟩
    by_cases h1 : (openL kn' qe.c).length = 1
    ·obtain ⟨y, hy⟩ : ∃ y, openL kn' qe.c = [y] := List.length_eq_one_iff.1 h1
     rw [oneL_one hy]
     have hyc := (openL_mem.1 (show y ∈ openL kn' qe.c by rw [hy]; simp)).1
     have hyr := HMR.out.1.1 y hyc
     obtain ⟨x, rfl⟩ : ∃ x : Nat, y = (x : Int) := ⟨y.toNat, by omega⟩
     have hxN : x < N := by omega
     have hko := (openL_mem.1 (show (x : Int) ∈ openL kn' qe.c by rw [hy]; simp)).2
     rw [Int.toNat_natCast] at hko
     have hstep := PeelInv.step (fun q hq => ⟨(HMY.out.2.2 q hq).1, (HMY.out.2.2 q hq).2, HBY.out q hq⟩) HIO.out HQM.out hy
     have HST := Lib.hid hstep
     have HKO := Lib.hid hko
     clear h1 hy hyc hyr hko hstep
     have hx0 : (0 : Int) ≤ (x : Int) := by omega
     go_upto_region 8 with fail
     go_wp2_with (first
       | (go_at_call 148; refine (reduced_any _ _ _ _ qe.c qe.d kn' vs' (dlen L) _ Z1.out D1.out (HK1.out.bl (by omega)) HK1.out.bss (by rw [HIO.out.len]; exact HMR.out.1.1) HQL.out.1 (by rw [HIO.out.len]; omega) HMR.out.2 (by have := HQL.out.2; have := HMR.out.2; omega) HIO.out.val).mono ?_; rintro e w3 ⟨uc, ud, rfl, hev, hg3⟩; obtain ⟨od3, nd3, cd3, rfl⟩ := hev.2.2.1.form4; obtain ⟨oc3, cc3, rfl⟩ := hev.1.form; have K1 := Lib.hid (HK1.out.grow hg3); have k1 := K1.out.cellV x hxN; have k2 := K1.out.frozenV x; have K2 := Lib.hid (K1.out.putV hxN hev.2.2.1 (hev.any w.heap.size).2.2.2); have k3 := K2.out.cellK x hxN; have k4 := K2.out.k.frozen x; clear hev hg3))
     have hlt2 : unk (kn'.set x true) N < unk kn N := by
      have h1 := unk_set HIO.out.len hxN HKO.out
      cases bg with
      | false => rw [(HF.out rfl).1] at h1 ⊢; exact h1
      | true => have := HT.out rfl; omega
     have HLT := Lib.hid hlt2
     have K3 := Lib.hid (K2.out.putK x true)
     clear hlt2 k1 k2 k3 k4 c0 c1
     exact ⟨⟨i + 1, by omega, by go_num, true, _, _, _, rfl, K3.out, HST.out, fun e => (by cases e), fun _ => HLT.out⟩, by simp [intOf]; omega⟩
    ·rw [oneL_none h1]
     go_wp2_with fail
     refine ⟨⟨i + 1, by omega, by go_num, bg, kn', vs', us', rfl, HK1.out, HIO.out, fun e => ?_, HT.out⟩, by simp [intOf]; omega⟩
     obtain ⟨h2, h3⟩ := HF.out e
     refine ⟨h2, fun j hj => ?_⟩
     by_cases ej : j = i
     ·rw [ej, HQE.out, ← h2]
      exact h1
     ·exact h3 j (by omega)
   ·obtain rfl : m = i := by omega
    cases bg with
    | true =>
     go_wp2_with fail
     go_step3
     refine ⟨rfl, ⟨_, _, _, _, _, _, _, _, _, _, _, _, _, _, _, _, _, _, _, _, _, _, _, _, _, _, _, _, _, _, _, _, _, _, _, _, _, _, _, _, _, _, HKO.out, HIO.out, rfl⟩, ?_⟩
     exact Nat.lt_of_le_of_lt (Nat.le_of_eq HKO.out.unkW) (HT.out trivial)
    | false =>
     go_wp2_with fail
     simp only [Exit.jump]
     go_ret2
     refine ⟨_, _, _, _, _, rfl, HKO.out, HIO.out, fun q hq => ?_⟩
     obtain ⟨h2, h3⟩ := HF.out trivial
     obtain ⟨j, hj, rfl⟩ := List.getElem_of_mem hq
     have := h3 j (by rw [HM.out] at hj; exact hj)
     rw [List.getD_eq_getElem?_getD, List.getElem?_eq_getElem hj] at this
     rw [h2]
     exact this
end Go.Proofs.YtbbglejdfbkjlaaGreat
namespace Go.Proofs.YtbbglejdfbkjlaaGreat
open Go.RowKit
def LeftOut (L : List Eqn) (kn : List Bool) (vs : List (List Int)) (w : World) (e : Ending) (w' : World) : Prop :=
 (∃ vr, e = .returned (.tuple #[vr, .bool true]) ∧ EqsO w.heap.size w' vr (leftE kn vs L) ∧ Gr w w' ∧ ∀ q ∈ L, openL kn q.c = [] → leadL (restL kn vs q.c q.d) = -1) ∨
 (e = .returned (.tuple #[.slice none 0 0, .bool false]) ∧ Gr w w' ∧ ∃ q ∈ L, openL kn q.c = [] ∧ 0 ≤ leadL (restL kn vs q.c q.d))
set_option maxRecDepth 100000 in
set_option maxHeartbeats 3200000 in
theorem remaining_any (N S : Nat) (v vk vv : Value) (L : List Eqn) (kn : List Bool) (vs : List (List Int)) (w : World) (h : Eqs w v L) (hk : Bl w vk kn) (hv : Bss w vv vs) (hl : L.length ≤ 1000) (hc : ∀ q ∈ L, q.c.length ≤ 1000 ∧ q.d.length ≤ 1000) (hN : N ≤ 64) (hkn : kn.length = N) (hV : Valed S kn vs) (hm : ∀ q ∈ L, MayRow N q.c ∧ q.d.length = S) :
  Calls Tryz.prog 126 #[v, vk, vv] w (LeftOut L kn vs w) := by
 have HE := Lib.hid h
 have HCL := Lib.hid hc
 have HBY := Lib.hid h.byt
 have HMY := Lib.hid hm
 have HK := Lib.hid hk
 have HV := Lib.hid hv
 have HVL := Lib.hid hV
 obtain ⟨oa, ca, rfl⟩ := h.form
 obtain ⟨ok, ck, rfl⟩ := hk.form3
 obtain ⟨ov, nv, cv, rfl⟩ := hv.form3
 obtain ⟨m, hmm⟩ : ∃ m, L.length = m := ⟨_, rfl⟩
 rw [hmm] at HE hl ⊢
 rw [hkn] at HK ⊢
 have HM := Lib.hid hmm
 have HKN := Lib.hid hkn
 clear h hc hmm hm hk hv hV hkn
 go_enter Tryz.func126, Tryz.ntmps126
 go_wp2_with fail
 go_loopw [8, 14] (fun lv iv W => ∃ i : Nat, i ≤ m ∧ iv = .int .i64 i ∧ EqsO w.heap.size W lv (leftE kn vs (L.take i)) ∧ Gr w W ∧ ∀ j, j < i → openL kn (L.getD j noE).c = [] → leadL (restL kn vs (L.getD j noE).c (L.getD j noE).d) = -1) (fun _ iv _ => m - (intOf iv).toNat)
 case atStart => exact ⟨0, by omega, rfl, EqsO.nil _ _, Gr.refl _, by omega⟩
 case round =>
  obtain ⟨wo, hwo⟩ : ∃ x, x = wr := ⟨_, rfl⟩
  subst hwo
  obtain ⟨i, hi, rfl, hlf, hg, hz⟩ := hrel
  obtain ⟨ol, cl, rfl⟩ := hlf.form
  have HLF := Lib.hid hlf
  have HG := Lib.hid hg
  have HZ := Lib.hid hz
  clear hlf hg hz
  by_cases hlt : i < m
  ·obtain ⟨b, o, rfl, _⟩ := HE.out.lay (by omega)
   obtain ⟨oc, nc, cc, od, nd, cd, q1, q2, zc, zd⟩ := (HE.out.grown HG.out).at hlt
   have hqm := getD_memE (L := L) (i := i) (by rw [HM.out]; exact hlt)
   have hcl := HCL.out _ hqm
   have hmr := HMY.out _ hqm
   have hst : leftE kn vs (L.take (i + 1)) = leftE kn vs (L.take i) ++ (if 0 < (openL kn (L.getD i noE).c).length then [⟨openL kn (L.getD i noE).c, restL kn vs (L.getD i noE).c (L.getD i noE).d⟩] else []) := by
    rw [take_snoc L i noE (by rw [HM.out]; exact hlt), leftE_snoc]
   have HST := Lib.hid hst
   have HQM := Lib.hid hqm
   have HQL := Lib.hid hcl
   have HMR := Lib.hid hmr
   have ZC := Lib.hid zc
   have ZD := Lib.hid zd
   have HLL := Lib.hid (leftE_le kn vs (L.take i))
   have HTL : Hid ((L.take i).length ≤ 1000) := Lib.hid (by rw [List.length_take, HM.out]; omega)
   clear zc zd hqm hcl hmr hst
   obtain ⟨qe, hqe⟩ : ∃ q, L.getD i noE = q := ⟨_, rfl⟩
   rw [hqe] at HQM HQL HMR ZC ZD HST
   have HQE := Lib.hid hqe
   clear hqe
   go_upto_region 5 with fail
   have hga : Gr wo (wo.alloc (.cells #[.slice oc nc cc, .slice od nd cd] 160)) := Gr.alloc (Gr.refl _) _ _
   have c0 : (wo.alloc (.cells #[.slice oc nc cc, .slice od nd cd] 160)).cell? ⟨wo.heap.size, 0, none⟩ = some (.slice oc nc cc) := by rw [cell_of_row _ _ 0 _ _ _ (heap_alloc_new _ _)]; rfl
   have c1 : (wo.alloc (.cells #[.slice oc nc cc, .slice od nd cd] 160)).cell? ⟨wo.heap.size, 1, none⟩ = some (.slice od nd cd) := by rw [cell_of_row _ _ 1 _ _ _ (heap_alloc_new _ _)]; rfl
   have HG1 := Lib.hid (Gr.trans HG.out hga)
   have L1 := Lib.hid (HLF.out.grown hga)
   have Z1 := Lib.hid (ZC.out.grown hga)
   have D1 := Lib.hid (ZD.out.grown hga)
   clear hga q1 q2 ZC ZD HG HLF
   generalize wo.alloc (.cells #[.slice oc nc cc, .slice od nd cd] 160) = W1 at *
   generalize wo.heap.size = gq at *
   have K1 := Lib.hid (HK.out.grown HG1.out)
   have V1 := Lib.hid (HV.out.grown HG1.out)
   go_upto_region 6 with (first
     | (go_at_call 148; refine (reduced_any _ _ _ _ qe.c qe.d kn vs S _ Z1.out D1.out K1.out V1.out (by rw [HKN.out]; exact HMR.out.1.1) HQL.out.1 (by rw [HKN.out]; omega) HMR.out.2 (by have := HQL.out.2; have := HMR.out.2; omega) HVL.out).mono ?_; rintro e w2 ⟨uc, ud, rfl, hev, hg2⟩; obtain ⟨od3, nd3, cd3, rfl⟩ := hev.2.2.1.form4; obtain ⟨oc3, cc3, rfl⟩ := hev.1.form; have EV := Lib.hid hev; have G2 := Lib.hid hg2; clear hev hg2))
   clear c0 c1 Z1 D1 K1 V1
   have gA : Gr w2 (w2.alloc (.cells #[.slice oc3 (openL kn qe.c).length cc3, .slice od3 nd3 cd3] 160)) := Gr.alloc (Gr.refl _) _ _
   have e0 : (w2.alloc (.cells #[.slice oc3 (openL kn qe.c).length cc3, .slice od3 nd3 cd3] 160)).cell? ⟨w2.heap.size, 0, none⟩ = some (.slice oc3 (openL kn qe.c).length cc3) := by rw [cell_of_row _ _ 0 _ _ _ (heap_alloc_new _ _)]; rfl
   have e1 : (w2.alloc (.cells #[.slice oc3 (openL kn qe.c).length cc3, .slice od3 nd3 cd3] 160)).cell? ⟨w2.heap.size, 1, none⟩ = some (.slice od3 nd3 cd3) := by rw [cell_of_row _ _ 1 _ _ _ (heap_alloc_new _ _)]; rfl
   have EV2 := Lib.hid (EV.out.gr gA)
   have L2 := Lib.hid (L1.out.grown (Gr.trans G2.out gA))
   have HG2 := Lib.hid (Gr.trans HG1.out (Gr.trans G2.out gA))
   clear EV L1 HG1 G2 gA
   generalize w2.alloc (.cells #[.slice oc3 (openL kn qe.c).length cc3, .slice od3 nd3 cd3] 160) = W2 at *
   generalize w2.heap.size = gr at *
   by_cases h1 : 0 < (openL kn qe.c).length
   ·rw [if_pos h1] at HST
    have h1i : (0 : Int) < ((openL kn qe.c).length : Int) := by omega
    have GA : Hid (Gr W2 (W2.alloc (.cells #[.slice oc3 (openL kn qe.c).length cc3, .slice od3 nd3 cd3] 160))) := Lib.hid (Gr.alloc (Gr.refl _) _ _)
    have CE0 : Hid ((W2.alloc (.cells #[.slice oc3 (openL kn qe.c).length cc3, .slice od3 nd3 cd3] 160)).cell? ⟨W2.heap.size, 0, none⟩ = some (.slice oc3 (openL kn qe.c).length cc3)) := Lib.hid (by rw [cell_of_row _ _ 0 _ _ _ (heap_alloc_new _ _)]; rfl)
    have CE1 : Hid ((W2.alloc (.cells #[.slice oc3 (openL kn qe.c).length cc3, .slice od3 nd3 cd3] 160)).cell? ⟨W2.heap.size, 1, none⟩ = some (.slice od3 nd3 cd3)) := Lib.hid (by rw [cell_of_row _ _ 1 _ _ _ (heap_alloc_new _ _)]; rfl)
    have EV3 := Lib.hid ((EV2.out.gr GA.out).any w.heap.size)
    go_wp2_with (at_builtin; refine wpList_append_eq rfl _ _ rfl w.heap.size (.slice ol (leftE kn vs (L.take i)).length cl) (leftE kn vs (L.take i)) rfl (L2.out.grown GA.out) W2.heap.size (.slice oc3 (openL kn qe.c).length cc3) (.slice od3 nd3 cd3) _ rfl CE0.out CE1.out EV3.out (by have := HLL.out; have := HTL.out; omega) (by have := HG2.out.size; simp; omega) ?_; intro v5 w5 h5 hg5 hgr5 hn5; have L5 := Lib.hid h5; have G5 := Lib.hid hg5; clear h5 hg5 hgr5 hn5)
    have hgr := G5.out w (Gr.trans HG2.out GA.out) (Nat.le_refl _)
    refine ⟨⟨i + 1, by omega, by go_num, by rw [HST.out]; exact L5.out, hgr, fun j hj e => ?_⟩, by simp [intOf]; omega⟩
    by_cases ej : j = i
    ·rw [ej, HQE.out] at e
     rw [e] at h1
     simp at h1
    ·exact HZ.out j (by omega) e
   ·have h0 : openL kn qe.c = [] := List.eq_nil_of_length_eq_zero (by omega)
    have hz0 : (openL kn qe.c).length = 0 := by omega
    rw [if_neg h1, List.append_nil] at HST
    have H0 := Lib.hid h0
    have hrl := restL_ok HVL.out qe.c qe.d HMR.out.2 (HBY.out qe HQM.out)
    have HRL := Lib.hid hrl
    have hge := leadL_ge (restL kn vs qe.c qe.d)
    obtain ⟨ld, hld⟩ : ∃ x, leadL (restL kn vs qe.c qe.d) = x := ⟨_, rfl⟩
    rw [hld] at hge
    have HLD := Lib.hid hld
    clear hld h0 h1 hrl
    go_wp2_with fail
    refine (ok_lead _ (restL kn vs qe.c qe.d) _ EV2.out.2.2.1 (by have := HRL.out.1; have := HMR.out.2; have := HQL.out.2; omega)).mono ?_
    rw [HLD.out]
    rintro e w6 ⟨rfl, hg6⟩
    have G6 := Lib.hid hg6
    clear hg6
    by_cases hneg : 0 ≤ ld
    ·go_wp2_with fail
     go_ret2
     exact .inr ⟨rfl, Gr.trans HG2.out G6.out, qe, HQM.out, H0.out, by rw [HLD.out]; exact hneg⟩
    ·go_wp2_with fail
     refine ⟨⟨i + 1, by omega, by go_num, by rw [HST.out]; exact L2.out.grown G6.out, Gr.trans HG2.out G6.out, fun j hj e => ?_⟩, by simp [intOf]; omega⟩
     by_cases ej : j = i
     ·rw [ej, HQE.out, HLD.out]
      omega
     ·exact HZ.out j (by omega) e
  ·obtain rfl : m = i := by omega
   have hall : L.take m = L := List.take_of_length_le (by rw [HM.out]; exact Nat.le_refl _)
   rw [hall] at HLF ⊢
   go_wp2_with fail
   go_ret2
   refine .inl ⟨_, rfl, HLF.out, HG.out, fun q hq ho => ?_⟩
   obtain ⟨j, hj, rfl⟩ := List.getElem_of_mem hq
   have := HZ.out j (by rw [HM.out] at hj; exact hj)
   rw [List.getD_eq_getElem?_getD, List.getElem?_eq_getElem hj] at this
   exact this ho
open Classical in
set_option maxRecDepth 100000 in
set_option maxHeartbeats 1600000 in
theorem ok_peel (n : Int) (v : Value) (L : List Eqn) (w : World) (h : Eqs w v L) (hl : L.length ≤ 1000) (hc : ∀ q ∈ L, q.c.length ≤ 1000 ∧ q.d.length ≤ 1000) :
  Calls Tryz.prog 100 #[.int .i64 n, v] w fun e w' => PeelOut n L w e w' := by
 have HE := Lib.hid h
 have HCL := Lib.hid hc
 have HL := Lib.hid hl
 have HBY := Lib.hid h.byt
 obtain ⟨oa, ca, rfl⟩ := h.form
 clear h hc hl
 by_cases hm : MayEqs n L
 ·have hd := decide_eq_true hm
  obtain ⟨N, rfl⟩ : ∃ N : Nat, n = N := ⟨n.toNat, by have := hm.1; omega⟩
  have hN : N ≤ 64 := by have := hm.2.1; omega
  have HD := Lib.hid hd
  have HMY := Lib.hid hm
  clear hd hm
  go_enter Tryz.func100, Tryz.ntmps100
  go_wp2_with fail
  refine (pmay_any _ _ L _ HE.out HL.out HCL.out).mono ?_
  rw [HD.out]
  rintro e w1 ⟨rfl, hg1⟩
  have G1 := Lib.hid hg1
  clear hg1
  go_wp2_with fail
  refine (solved_any N _ L _ (HE.out.grown G1.out) HL.out HCL.out HMY.out).mono ?_
  rintro e w2 ⟨gk, gv, kn, vs, us, rfl, hkv, hin, hcl⟩
  have KV2 := Lib.hid hkv
  have IN := Lib.hid hin
  have CL := Lib.hid hcl
  have G2 := Lib.hid (Gr.trans G1.out hkv.gr)
  clear hkv hin hcl
  go_wp2_with fail
  refine (remaining_any N (dlen L) _ _ _ L kn vs _ (HE.out.grown G2.out) (KV2.out.bl (by omega)) KV2.out.bss HL.out HCL.out hN IN.out.len IN.out.val HMY.out.2.2).mono ?_
  rintro e w3 hlo
  have HDER := Lib.hid (PeelInv.closed (fun q hq => (HMY.out.2.2 q hq).1) IN.out CL.out)
  rcases hlo with ⟨vr, rfl, ho, hg3, hz⟩ | ⟨rfl, hg3, q, hq, h0, hge⟩
  ·obtain ⟨or3, cr3, rfl⟩ := ho.form
   have HO := Lib.hid ho
   have G3 := Lib.hid hg3
   have HZ := Lib.hid hz
   clear ho hg3 hz
   go_wp2_with fail
   try simp only [Exit.inBlock, Exit.then]
   refine bodyPost_ret (results_tmp4 rfl _ _ _) rfl ?_
   exact PeelOut.ok HMY.out ((KV2.out.bl (by omega)).grown G3.out) (KV2.out.bss.grown G3.out) HO.out.eqs (Gr.trans G2.out G3.out) (PeelInv.done (fun q hq => ⟨(HMY.out.2.2 q hq).2, HBY.out q hq⟩) IN.out HDER.out HZ.out)
  ·have hno := IN.out.clash hq (HMY.out.2.2 q hq).2 (HBY.out q hq) h0 hge
   have HNO := Lib.hid hno
   have G3 := Lib.hid hg3
   clear hno hg3 hq h0 hge
   go_wp2_with fail
   try simp only [Exit.inBlock, Exit.then]
   refine bodyPost_ret (results_tmp4 rfl _ _ _) rfl ?_
   exact PeelOut.clash HMY.out HNO.out (Gr.trans G2.out G3.out)
 ·have hd := decide_eq_false hm
  have HD := Lib.hid hd
  have HMY := Lib.hid hm
  clear hd hm
  go_enter Tryz.func100, Tryz.ntmps100
  go_wp2_with fail
  refine (pmay_any _ _ L _ HE.out HL.out HCL.out).mono ?_
  rw [HD.out]
  rintro e w1 ⟨rfl, hg1⟩
  have G1 := Lib.hid hg1
  clear hg1
  go_wp2_with fail
  try simp only [Exit.inBlock, Exit.then]
  refine bodyPost_ret (results_tmp4 rfl _ _ _) rfl ?_
  exact PeelOut.arg HMY.out G1.out
theorem peel_ok : PeelOk := ⟨fun n v L w _ h hl hc => ok_peel n v L w h hl hc⟩
end Go.Proofs.YtbbglejdfbkjlaaGreat
