/-
  Law SpanApart, walked: a Clone goes its own way; what is told is new memory.
-/
import Derived.Test.YtmeojdnalhaooaaRt
namespace Go.Proofs.Ytmeojdnalhaooaa
open Go.RowKit

/-- What package row says of Unit. -/
def UnitOk : Prop := ∀ (n k : Nat) (w : World), 1 ≤ n → n ≤ 64 → k < n →
    Calls Try.prog 30 #[.int .i64 n, .int .i64 k] w fun e w' => ∃ v, e = .returned v ∧ New w w' v (unitL n k)
theorem unitL_wide (n : Nat) (m : Nat) : Wide n ((List.range m).map (unitL n)) := by
  intro r hr
  obtain ⟨k, _, rfl⟩ := List.mem_map.1 hr
  exact ⟨lst_length _ _, lst_byt fun i _ => by unfold Byt; split <;> omega⟩
theorem vec_unitL {n k : Nat} (hk : k < n) : vec (unitL n k) = L.unit k := by
  funext j
  show fb ((unitL n k).getD j 0) = L.unit k j
  unfold L.unit
  by_cases hj : j < n
  · have e : (unitL n k).getD j 0 = if j = k then 1 else 0 := by
      unfold unitL lst
      rw [List.getD_eq_getElem?_getD, List.getElem?_map, List.getElem?_range hj]
      rfl
    rw [e]
    split <;> rfl
  · rw [getD_out (by unfold unitL; rw [lst_length]; omega), if_neg (by omega), fb_zero]
theorem Wide.app {n : Nat} {A B : List (List Int)} (hA : Wide n A) (hB : Wide n B) : Wide n (A ++ B) := fun r hr => by
  rcases List.mem_append.1 hr with c | c
  · exact hA r c
  · exact hB r c
/-- With all the rows of one 1 the rank is all. -/
theorem rk_units {n : Nat} {A : List (List Int)} (hA : Wide n A) : rkL (A ++ (List.range n).map (unitL n)) = n := by
  have hw := hA.app (unitL_wide n n)
  have h1 : rkL (A ++ (List.range n).map (unitL n)) ≤ n := L.rk_le_cols hw.supp
  have h2 : L.rk (L.idM n) ≤ rkL (A ++ (List.range n).map (unitL n)) := L.rk_mono (L.idM_supp n) hw.supp fun x hx => by
    obtain ⟨k, hk, rfl⟩ := List.mem_map.1 hx
    refine L.Sp.mem (List.mem_map.2 ⟨unitL n k, List.mem_append.2 (.inr (List.mem_map.2 ⟨k, hk, rfl⟩)), vec_unitL (List.mem_range.1 hk)⟩)
  rw [L.rk_id] at h2
  omega
/-- A row of n bytes that may be written, in memory from base on. -/
def Wr (base : Nat) (w : World) (u : Value) (n : Nat) : Prop := ∃ b o c cur, u = .slice (some ⟨b, o, none⟩) n c ∧ base ≤ b ∧ w.heap[b]? = some (.cells cur 5 (0, 0)) ∧ o + n ≤ cur.size
theorem Wr.of {base n : Nat} {w : World} {u : Value} {l : List Int} (hb : Bs w u l) (hr : Rn base w u) (hl : l.length = n) (hn : 0 < n) : Wr base w u n := by
  obtain ⟨a, c, rfl, h1, h2, h3⟩ := Bs.at hb (by omega)
  obtain ⟨h4, cur, h5⟩ := hr a _ c rfl (by omega)
  have q := h3 (n - 1) (by omega)
  have q0 := h3 0 (by omega)
  obtain ⟨b, o, s⟩ := a
  have hs : s = none := by
    rw [show (⟨b, o, s⟩ : Addr).add 0 = ⟨b, o, s⟩ from by simp [Addr.add]] at q0
    simpa using World.cell?_spot q0
  subst hs
  rw [Addr.add_mid, cell_of_row w b _ cur _ _ h5] at q
  have := (Array.getElem?_eq_some_iff.1 q).1
  exact ⟨b, o, c, cur, by rw [hl], h4, h5, by omega⟩
theorem Wr.set {base n : Nat} {w : World} {u : Value} {b o : Nat} {v : Value} (h : Wr base w u n) : Wr base (w.setCell ⟨b, o, none⟩ v) u n := by
  obtain ⟨b', o', c, cur, h1, h2, h3, h4⟩ := h
  by_cases e : b' = b
  · subst e
    exact ⟨b', o', c, _, h1, h2, heap_setCell_same _ _ _ _ _ _ h3, by simpa using h4⟩
  · exact ⟨b', o', c, cur, h1, h2, by rw [heap_setCell_other _ _ _ _ e]; exact h3, h4⟩
theorem Wr.cell {base n : Nat} {w : World} {b o c : Nat} (h : Wr base w (.slice (some ⟨b, o, none⟩) n c) n) (k : Nat) (hk : k < n) : (∃ y, w.cell? ⟨b, o + k, none⟩ = some y) ∧ w.frozen? ⟨b, o + k, none⟩ = false ∧ base ≤ b ∧ ∃ cur, w.heap[b]? = some (.cells cur 5 (0, 0)) := by
  obtain ⟨b', o', c', cur, h1, h2, h3, h4⟩ := h
  cases h1
  refine ⟨?_, frozen_of_row w b _ _ _ h3, h2, cur, h3⟩
  rw [cell_of_row w b _ cur _ _ h3]
  exact ⟨cur[o + k], Array.getElem?_eq_getElem (by omega)⟩
/-- Rows under way of being written over: what was there stands, the list itself, too. -/
structure Over (w0 w : World) (v : Value) (rn n : Nat) (us : List Value) : Prop where
  gr : Gr w0 w
  own : w.ownsRow w0.heap.size 23 1 v rn us
  row : ∀ i, i < rn → Wr w0.heap.size w (us.getD i undef) n
theorem Over.put {w0 w : World} {v : Value} {rn n : Nat} {us : List Value} {b o : Nat} (h : Over w0 w v rn n us) (hb : w0.heap.size ≤ b) (hc : ∃ cur, w.heap[b]? = some (.cells cur 5 (0, 0))) (x : Value) : Over w0 (w.setCell ⟨b, o, none⟩ x) v rn n us := by
  refine ⟨Gr.setCell h.gr hb x, ownsRow_kn h.own (Kp.set w b o x) fun g hg e => ?_, fun i hi => (h.row i hi).set⟩
  subst e
  obtain ⟨cur, hcur⟩ := hc
  exact (ownsRow_not_bytes h.own _ hg).2 cur hcur
set_option maxRecDepth 100000 in
set_option maxHeartbeats 3200000 in
theorem spanApart_walk {At : World → Value → Value → (Nat → Prop) → Nat → List (List Int) → Prop} (M : UnitOk) (O : SpanOk At) (vl vr : Value) (l r : List Int) (n : Int) (w : World) (hl : Bs w vl l) (hr : Bs w vr r) :
    Calls Try.prog 6 #[vl, .int .i64 n, vr] w fun e w' => e = .returned (.bool true) ∧ Gr w w' := by
  obtain ⟨orr, crr, hrf⟩ := hr.form
  subst hrf
  obtain ⟨lr, hlr⟩ : ∃ lr, r.length = lr := ⟨_, rfl⟩
  rw [hlr] at hr ⊢
  clear hlr
  have HM := Lib.hid M
  have HS := Lib.hid O
  have HL := Lib.hid hl
  have HR := Lib.hid hr
  obtain ⟨ab, hab1, hab2⟩ := hl.lies
  have HAB1 := Lib.hid hab1
  have HAB2 := Lib.hid hab2
  clear M O hl hr hab1 hab2
  obtain ⟨p, hp, hp2⟩ : ∃ p : Nat, n % 10 = p ∧ p < 10 := ⟨(n % 10).toNat, by omega, by omega⟩
  have HP := Lib.hid hp
  clear hp
  go_enter Try.func6, Try.ntmps6
  go_wp2_with fail
  refine (within_any n 10 (by omega) (by omega) _).mono ?_
  rintro e w' ⟨rfl, rfl⟩
  rw [HP.out]
  go_wp2_with fail
  obtain ⟨N, hN, hN1, hN2⟩ : ∃ N : Nat, (1 : Int) + p = N ∧ 1 ≤ N ∧ N ≤ 10 := ⟨1 + p, by omega, by omega, by omega⟩
  rw [hN]
  clear hN
  refine (new_st _).mono ?_
  rintro e w1 ⟨b, rfl, hs⟩
  have F1 := Lib.hid hs.2
  have G1 := Lib.hid hs.1
  clear hs
  go_wp2_with fail
  refine (HS.out.new _ N _ F1.out (by omega)).mono ?_
  rintro e w2 ⟨s, F, rfl, ha, hg, hF⟩
  obtain ⟨asp, rfl⟩ := HS.out.ptr ha
  have S2 : Hid (Sn At w1 w2 (.pointer (some ⟨b, 0, none⟩)) (.pointer (some asp)) F N []) := Lib.hid ⟨ha, hF, hg, F1.out⟩
  clear ha hg hF
  go_wp2_with fail
  refine (cut_in vl l 60 _ (Bs.grown HL.out (Gr.trans G1.out S2.out.2.2.1)) (by omega)).mono ?_
  rintro e w' ⟨v1, rfl, hv1, rfl, hin1⟩
  have hlen1 : (l.take 60).length ≤ 60 := by simp; omega
  have HPOS : Hid (0 < (l.take 60).length → ab < w.heap.size) := Lib.hid (fun h => HAB2.out (by rw [List.length_take] at h; omega))
  generalize l.take 60 = l1 at *
  have V1 := Lib.hid hv1
  have IN1 := Lib.hid (hin1 ab HAB1.out)
  clear hv1 hin1
  go_wp2_with fail
  refine (even_from ab v1 N l1 _ V1.out IN1.out hN1 (by omega) (by omega)).mono ?_
  rintro e w3 ⟨va, rfl, ha, hg3⟩
  have WA := Lib.hid (even_wide (Bs.byt' V1.out) hN1 : Wide N (evenL N l1))
  have hAl : (evenL N l1).length ≤ 14 := by rw [evenL_length]; exact evenN_le _ _
  have HPA : Hid (0 < (evenL N l1).length → ab < w.heap.size) := Lib.hid (fun h => HPOS.out (by
    rw [evenL_length] at h
    unfold evenN at h
    by_cases c : 0 < l1.length
    · exact c
    · have : l1.length = 0 := by omega
      rw [this, Nat.zero_div] at h
      omega))
  generalize evenL N l1 = A at *
  have S3 := Lib.hid (S2.out.grown HS.out hg3)
  obtain ⟨us, ho, hrw, hfrom⟩ := ha
  generalize hm : A.length = m at *
  have HML := Lib.hid hm
  have HO3 := Lib.hid ho
  have HRW3 := Lib.hid (fun i hi => (hrw i hi).1 : ∀ i, i < m → Bs w3 (us.getD i undef) (A.getD i []))
  have HFROM := Lib.hid hfrom
  have HUL := Lib.hid ho.1
  have HNF3 : Hid (∀ g, va.ownBlock = some g → ¬ F g) := Lib.hid (fun g hg e => by
    have h1 := ownsRow_base ho g hg
    have h2 := HS.out.lt S2.out.1 g e
    omega)
  have HNA3 : Hid (0 < m → ¬ F ab) := Lib.hid (fun h e => by
    have h1 := HPA.out h
    have h2 := S2.out.2.1 ab e
    have h3 := G1.out.size
    omega)
  obtain ⟨oo, co, rfl⟩ := ownsRow_form ho
  clear ho hrw hfrom hm hg3 S2
  go_wp2
  go_loopw [32] (fun i wr => ∃ (ii : Nat) (G : Nat → Prop) (LL : List (List Int)), ii ≤ m ∧ i = .int .i64 ii ∧ (LL.length = ii ∧ Wide N LL) ∧ Sn At w1 wr (.pointer (some ⟨b, 0, none⟩)) (.pointer (some asp)) G N LL ∧ wr.ownsRow w2.heap.size 23 1 (.slice oo m co) m us ∧ (∀ i, i < m → Bs wr (us.getD i undef) (A.getD i [])) ∧ (∀ g, (Value.slice oo m co).ownBlock = some g → ¬ G g) ∧ (0 < m → ¬ G ab)) (fun i _ => m - (intOf i).toNat)
  case atStart => exact ⟨0, F, [], by omega, rfl, ⟨rfl, Wide.nil N⟩, S3.out, HO3.out, HRW3.out, HNF3.out, HNA3.out⟩
  case round =>
    clear S3 HO3 HRW3 HNF3 HNA3
    obtain ⟨ii, G, LL, hii, rfl, hll, hs, hown, hrw, hnf, hna⟩ := hrel
    have HSS := Lib.hid hs
    have HOW := Lib.hid hown
    have HRW := Lib.hid hrw
    have HNF := Lib.hid hnf
    have HNA := Lib.hid hna
    have HLL := Lib.hid hll.1
    have HWW := Lib.hid hll.2
    clear hs hown hrw hnf hna hll
    by_cases hlt : ii < m
    · obtain ⟨g6, cc, he, hc1, hc2, hc3, hc4, hc5⟩ := ownsRow_cell HOW.out (by omega)
      cases he
      have hu := HRW.out ii hlt
      obtain ⟨wl, wb⟩ := WA.out.at ii (by rw [HML.out]; exact hlt)
      have q1 := hc5 ii hlt
      obtain ⟨ou, cu, hform⟩ := hu.form
      have haw : Away G (us.getD ii undef) := (HFROM.out ii (by have := HUL.out; omega)).away (HNA.out (by omega))
      rw [hform] at hu q1 haw
      rw [wl] at q1 hu haw
      have HU := Lib.hid hu
      have HWL := Lib.hid wl
      have HAW := Lib.hid haw
      have HWX : Hid (Wide N (LL ++ [A.getD ii []])) := Lib.hid (fun r hr => by
        rcases List.mem_append.1 hr with c | c
        · exact HWW.out r c
        · rw [List.mem_singleton.1 c]; exact ⟨wl, wb⟩)
      clear hu wl wb hform hc1 hc2 hc3 hc4 hc5 haw
      generalize A.getD ii [] = x at *
      go_wp2_with fail
      refine (HS.out.add _ _ _ G N LL x _ HSS.out.fld HSS.out.1 (by rw [HLL.out]; omega) HU.out HAW.out HWL.out).mono ?_
      rintro e w7 ⟨b2, G7, rfl, hb2, ha, hkp, hG7⟩
      have S7 := Lib.hid (HSS.out.step ha hkp hG7)
      have HO7 := Lib.hid (ownsRow_kn HOW.out hkp HNF.out)
      have HRW7 : Hid (∀ i, i < m → Bs w7 (us.getD i undef) (A.getD i [])) := Lib.hid (fun i hi => (HRW.out i hi).kp hkp ((HFROM.out i (by have := HUL.out; omega)).away (HNA.out (by omega))))
      have HNF7 : Hid (∀ g, (Value.slice (some ⟨g6, 0, none⟩) m co).ownBlock = some g → ¬ G7 g) := Lib.hid (fun g h1 h2 => by
        rcases hG7 g h2 with c | c
        · exact HNF.out g h1 c
        · have := ownsRow_lt HOW.out g h1
          omega)
      have HNA7 : Hid (0 < m → ¬ G7 ab) := Lib.hid (fun h1 h2 => by
        rcases hG7 ab h2 with c | c
        · exact HNA.out h1 c
        · have q1 := HPA.out h1
          have q2 := G1.out.size
          have q3 := HSS.out.2.2.1.size
          omega)
      clear ha hkp hG7 hb2
      go_wp2
      exact ⟨⟨ii + 1, G7, LL ++ [x], by omega, by go_num, ⟨by rw [List.length_append, HLL.out]; rfl, HWX.out⟩, S7.out, HO7.out, HRW7.out, HNF7.out, HNA7.out⟩, by simp [intOf]; omega⟩
    · obtain rfl : m = ii := by omega
      have hlen : LL.length ≤ 1000 := by rw [HLL.out]; omega
      clear HOW HRW HNF HNA HFROM HUL
      go_wp2_with fail
      refine (HS.out.rows _ _ G N LL _ HSS.out.fld HSS.out.1 hlen).mono ?_
      rintro e w9 ⟨vw, R, rfl, hrw, hred, hg9⟩
      have HRED := Lib.hid hred
      have S9 := Lib.hid (HSS.out.grown HS.out hg9)
      have VW9 := Lib.hid hrw.bss
      obtain ⟨ow, cw, rfl, _, _, _, _⟩ := hrw.bss
      obtain ⟨rn, hrn⟩ : ∃ rn, R.length = rn := ⟨_, rfl⟩
      rw [hrn] at VW9 ⊢
      have HRN := Lib.hid hrn
      clear hrw hred hg9 hrn HSS
      go_wp2_with fail
      refine (HS.out.clone _ _ G N LL _ S9.out.fld S9.out.1 hlen).mono ?_
      rintro e w10 ⟨c, F2, rfl, hac, hg10, hF2⟩
      obtain ⟨ac, rfl⟩ := HS.out.ptr hac
      have C10 : Hid (Sn At w9 w10 (.pointer (some ⟨b, 0, none⟩)) (.pointer (some ac)) F2 N LL) := Lib.hid ⟨hac, hF2, hg10, S9.out.fld⟩
      clear hac hg10 hF2
      go_wp2_with fail
      refine (HS.out.rows _ _ F2 N LL _ C10.out.fld C10.out.1 hlen).mono ?_
      rintro e w11 ⟨vc, R2, rfl, hrw, hred, hg11⟩
      obtain rfl : R2 = R := hred.unique HRED.out
      have C11 := Lib.hid (C10.out.grown HS.out hg11)
      have VC11 := Lib.hid hrw.bss
      obtain ⟨oc, cc, rfl, _, _, _, _⟩ := hrw.bss
      rw [HRN.out] at VC11 ⊢
      clear hrw hred hg11 C10
      go_wp2_with fail
      refine (rows_any _ _ R2 R2 _ VC11.out (Bss.grown VW9.out C11.out.2.2.1)).mono ?_
      rw [beq_self_eq_true]
      rintro e w12 ⟨rfl, hg12⟩
      have C12 := Lib.hid (C11.out.grown HS.out hg12)
      clear hg12 VC11 C11
      go_wp2
      go_loopw [12] (fun i W => ∃ (ii : Nat) (F3 : Nat → Prop), ii ≤ N ∧ i = .int .i64 ii ∧ Sn At w9 W (.pointer (some ⟨b, 0, none⟩)) (.pointer (some ac)) F3 N (LL ++ (List.range ii).map (unitL N))) (fun i _ => N - (intOf i).toNat)
      case atStart => exact ⟨0, F2, by omega, rfl, by simpa using C12.out⟩
      case round =>
        clear C12
        obtain ⟨wo, hwo⟩ : ∃ x, x = wr := ⟨_, rfl⟩
        subst hwo
        obtain ⟨ii, F3, hii, rfl, hc⟩ := hrel
        have CC := Lib.hid hc
        have HLC : Hid ((LL ++ (List.range ii).map (unitL N)).length ≤ 1000) := Lib.hid (by rw [List.length_append, List.length_map, List.length_range]; have := HLL.out; omega)
        clear hc
        by_cases hlt2 : ii < N
        · go_wp2_with fail
          refine (HM.out N ii _ hN1 (by omega) hlt2).mono ?_
          rintro e w13 ⟨vu, rfl, hnw⟩
          have hlu : (unitL N ii).length = N := lst_length _ _
          have haw : Away F3 vu := fun a m c' he hm e => by
            obtain ⟨_, _, ⟨hnil, oa, ca, he2, _⟩ | ⟨g, c2, cur, he2, hge, _⟩⟩ := hnw
            · rw [hnil] at hlu
              simp at hlu
              omega
            · rw [he2] at he
              cases he
              have h9 : g < wo.heap.size := HS.out.lt CC.out.1 _ e
              omega
          have C13 := Lib.hid (CC.out.grown HS.out hnw.1)
          have HU := Lib.hid hnw.bs
          have HAW := Lib.hid haw
          have HLU := Lib.hid hlu
          obtain ⟨ou, mu, cu, rfl⟩ := New.form3 hnw
          clear hnw haw hlu CC
          go_wp2_with fail
          refine (HS.out.add _ _ _ F3 N _ (unitL N ii) _ C13.out.fld C13.out.1 HLC.out HU.out HAW.out HLU.out).mono ?_
          rintro e w14 ⟨b2, F4, rfl, hb2, ha, hkp, hF4⟩
          have C14 := Lib.hid (C13.out.step ha hkp hF4)
          clear ha hkp hF4 hb2
          go_wp2
          refine ⟨⟨ii + 1, F4, by omega, by go_num, ?_⟩, by simp [intOf]; omega⟩
          have h5 := C14.out
          rw [List.append_assoc] at h5
          rw [List.range_succ, List.map_append]
          exact h5
        · obtain rfl : N = ii := by omega
          have HRK := Lib.hid (rk_units HWW.out)
          generalize LL ++ (List.range N).map (unitL N) = L2 at *
          have S13 := Lib.hid (S9.out.grown HS.out CC.out.2.2.1)
          go_wp2_with fail
          refine (HS.out.rows _ _ G N LL _ S13.out.fld S13.out.1 hlen).mono ?_
          rintro e w15 ⟨v3, R3, rfl, hrw, hred, hg15⟩
          obtain rfl : R3 = R2 := hred.unique HRED.out
          obtain ⟨us3, ho3, hr3⟩ := hrw
          rw [HRN.out] at ho3 hr3
          have OV : Hid (Over wo w15 v3 rn N us3) := Lib.hid ⟨hg15, ho3, fun i hi => Wr.of (hr3 i hi).1 (hr3 i hi).2 (HRED.out.1.at i (by rw [HRN.out]; exact hi)).1 hN1⟩
          obtain ⟨o3, c3, rfl⟩ := ownsRow_form ho3
          have hrn10 : rn ≤ 10 := by
            rw [← HRN.out, ← HRED.out.rank]
            exact Nat.le_trans (L.rk_le_cols HWW.out.supp) hN2
          clear ho3 hr3 hred hg15
          go_wp2
          go_loopw [67] (fun i W => ∃ t : Nat, t ≤ rn ∧ i = .int .i64 t ∧ Over wo W (.slice o3 rn c3) rn N us3) (fun i _ => rn - (intOf i).toNat)
          case atStart => exact ⟨0, by omega, rfl, OV.out⟩
          case round =>
            clear OV
            obtain ⟨t, ht, rfl, hov⟩ := hrel
            have OV := Lib.hid hov
            clear hov
            by_cases hlt3 : t < rn
            · obtain ⟨g3, cc3, he, hc1, hc2, hc3, hc4, hc5⟩ := ownsRow_cell OV.out.own (by omega)
              cases he
              have q1 := hc5 t hlt3
              obtain ⟨bb, ob, cb, cur, hu, _⟩ := OV.out.row t hlt3
              rw [hu] at q1
              have HU3 := Lib.hid hu
              clear hu hc5 hc1 hc2 hc3 hc4
              go_wp2
              go_loopw [75] (fun i W => ∃ k : Nat, k ≤ N ∧ i = .int .i64 k ∧ Over wo W (.slice (some ⟨g3, 0, none⟩) rn c3) rn N us3) (fun i _ => N - (intOf i).toNat)
              case atStart => exact ⟨0, by omega, rfl, OV.out⟩
              case round =>
                clear OV q1
                obtain ⟨k, hk, rfl, hov⟩ := hrel
                have OV := Lib.hid hov
                clear hov
                by_cases hlt4 : k < N
                · obtain ⟨g4, cc4, he, _, _, _, _, hc5⟩ := ownsRow_cell OV.out.own (by omega)
                  cases he
                  have q1 := hc5 t hlt3
                  have hrow := OV.out.row t hlt3
                  rw [HU3.out] at q1 hrow
                  obtain ⟨⟨y, hy⟩, hfz, hbs, hcur⟩ := hrow.cell k hlt4
                  have HOV := Lib.hid (OV.out.put hbs hcur (o := ob + k) (.int .u8 9))
                  clear hc5 hrow hbs hcur OV
                  go_wp2
                  exact ⟨⟨k + 1, by omega, by go_num, HOV.out⟩, by simp [intOf]; omega⟩
                · go_wp2
                  exact ⟨⟨t + 1, by omega, by go_num, OV.out⟩, by simp [intOf]; omega⟩
            · have G20 := Lib.hid OV.out.gr
              have C20 := Lib.hid (CC.out.grown HS.out OV.out.gr)
              have S20 := Lib.hid (S13.out.grown HS.out OV.out.gr)
              clear OV CC S13
              go_wp2_with fail
              refine (HS.out.restNil _ r _ (Bs.grown HR.out (Gr.trans G1.out S20.out.2.2.1))).mono ?_
              rintro e w21 ⟨u21, rfl, hu21, hg21⟩
              obtain ⟨o21, c21, rfl⟩ := hu21.form
              have C21 := Lib.hid (C20.out.grown HS.out hg21)
              have S21 := Lib.hid (S20.out.grown HS.out hg21)
              clear hu21 hg21 C20 S20
              go_wp2_with fail
              refine (HS.out.rank _ _ _ N L2 _ C21.out.fld C21.out.1 HLC.out).mono ?_
              rw [HRK.out]
              rintro e w22 ⟨rfl, hg22⟩
              have S22 := Lib.hid (S21.out.grown HS.out hg22)
              have C22 := Lib.hid (Gr.trans C21.out.2.2.1 hg22)
              clear hg22 C21 S21
              go_wp2_with fail
              refine (HS.out.rows _ _ G N LL _ S22.out.fld S22.out.1 hlen).mono ?_
              rintro e w23 ⟨v4, R4, rfl, hrw, hred, hg23⟩
              obtain rfl : R4 = R3 := hred.unique HRED.out
              have V4 := Lib.hid hrw.bss
              have VW23 := Lib.hid (Bss.grown VW9.out (Gr.trans C22.out hg23))
              have S23 := Lib.hid (Gr.trans S22.out.2.2.1 hg23)
              obtain ⟨o4, c4, rfl, _, _, _, _⟩ := hrw.bss
              rw [HRN.out] at V4 ⊢
              clear hrw hred hg23 S22 C22
              go_wp2_with fail
              refine (rows_any _ _ R4 R4 _ V4.out VW23.out).mono ?_
              rw [beq_self_eq_true]
              rintro e w24 ⟨rfl, hg24⟩
              have G24 := Lib.hid (Gr.trans S23.out hg24)
              clear hg24
              go_wp2_with fail
              refine (HS.out.addNil _ r _ (Bs.grown HR.out (Gr.trans G1.out G24.out))).mono ?_
              rintro e w25 ⟨rfl, hg25⟩
              have G25 := Lib.hid (Gr.trans G24.out hg25)
              clear hg25
              go_wp2_with fail
              refine (HS.out.hasNil _ r _ (Bs.grown HR.out (Gr.trans G1.out G25.out))).mono ?_
              rintro e w26 ⟨rfl, hg26⟩
              have G26 := Lib.hid (Gr.trans G25.out hg26)
              clear hg26
              go_wp2_with fail
              refine (HS.out.rankNil _).mono ?_
              rintro e w27 ⟨rfl, hg27⟩
              have G27 := Lib.hid (Gr.trans G26.out hg27)
              clear hg27
              go_wp2_with fail
              refine (HS.out.rowsNil _).mono ?_
              rintro e w28 ⟨v28, rfl, hb28, hg28⟩
              obtain ⟨o28, c28, rfl, _, _, _, _⟩ := hb28
              have G28 := Lib.hid (Gr.trans G27.out hg28)
              clear hg28
              go_wp2_with fail
              refine (HS.out.cloneNil _).mono ?_
              rintro e w29 ⟨rfl, hg29⟩
              have G29 := Lib.hid (Gr.trans G28.out hg29)
              clear hg29
              go_wp2_with fail
              refine (spanWakes_any HS.out _).mono ?_
              rintro e w30 ⟨rfl, hg30⟩
              have G30 := Lib.hid (Gr.trans G1.out (Gr.trans G29.out hg30))
              clear hg30
              go_wp2
              go_ret
              exact ⟨rfl, G30.out⟩
end Go.Proofs.Ytmeojdnalhaooaa
