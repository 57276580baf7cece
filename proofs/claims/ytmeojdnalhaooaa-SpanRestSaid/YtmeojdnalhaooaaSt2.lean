/-
  Package span as it was written: Has, Rest of other rows, Add.
-/
import Derived.Test.YtmeojdnalhaooaaSr
namespace Go.Proofs.Ytmeojdnalhaooaa
open Go.RowKit

set_option maxHeartbeats 400000 in
theorem restNe_any (b h n : Nat) (us : List Value) (Ls : List (List Int)) (v : Value) (x : List Int) (w : World) (hs : Sb w b h n us Ls) (hv : Bs w v x) (hx : x.length ≠ n) :
    Calls Try.prog 20 #[.pointer (some ⟨b, 0, none⟩), v] w fun e w' => e = .returned (.tuple #[.slice none 0 0, .bool false]) ∧ Gr w w' := by
  have HS := Lib.hid hs
  have HV := Lib.hid hv
  have hft : (decide (x.length = n)) = false := by simpa using hx
  clear hs hv hx
  go_enter Try.func20, Try.ntmps20
  go_wp2_with (go_at_call 41; refine (fits_any b h n us Ls v x _ HS.out HV.out).mono ?_; rw [hft]; rintro e w1 ⟨rfl, hg⟩; have G1 := Lib.hid hg; clear hg)
  go_ret2
  exact ⟨rfl, G1.out⟩
set_option maxHeartbeats 400000 in
theorem restNil_any (v : Value) (x : List Int) (w : World) (hv : Bs w v x) :
    Calls Try.prog 20 #[.pointer none, v] w fun e w' => e = .returned (.tuple #[.slice none 0 0, .bool false]) ∧ Gr w w' := by
  have HV := Lib.hid hv
  clear hv
  go_enter Try.func20, Try.ntmps20
  go_wp2_with (go_at_call 41; refine (fits_nil v x _ HV.out).mono ?_; rintro e w1 ⟨rfl, hg⟩; have G1 := Lib.hid hg; clear hg)
  go_ret2
  exact ⟨rfl, G1.out⟩
set_option maxHeartbeats 400000 in
theorem has_any (b h n : Nat) (us : List Value) (Ls A : List (List Int)) (v : Value) (x : List Int) (w : World) (hs : Sb w b h n us Ls) (hB : Bg n Ls A) (hn : n ≤ 64) (hv : Bs w v x) :
    Calls Try.prog 16 #[.pointer (some ⟨b, 0, none⟩), v] w fun e w' => ∃ t, e = .returned (.bool t) ∧ (t = true ↔ x.length = n ∧ L.Sp (A.map vec) (vec x)) ∧ Gr w w' := by
  have HS := Lib.hid hs
  have HB := Lib.hid hB
  have HV := Lib.hid hv
  clear hs hB hv
  by_cases hx : x.length = n
  · go_enter Try.func16, Try.ntmps16
    go_wp2_with (first
      | (go_at_call 20; refine (rest_any b h n us Ls A v x _ HS.out HB.out hn HV.out hx).mono ?_; rintro e w1 ⟨u, y, rfl, hnw, hrs⟩; have N1 := Lib.hid hnw; have R1 := Lib.hid hrs; clear hnw hrs)
      | (go_at_call 26; refine (ok_lead _ y _ (New.bs N1.out) (by rw [R1.out.len]; omega)).mono ?_; rintro e w2 ⟨rfl, hg⟩; have G2 := Lib.hid hg; clear hg))
    go_ret
    refine ⟨_, rfl, ?_, Gr.trans N1.out.1 G2.out⟩
    rw [decide_eq_true_iff, (Rs.rest HB.out R1.out).spans HB.out.isRed]
    exact ⟨fun e => ⟨hx, e⟩, fun e => e.2⟩
  · go_enter Try.func16, Try.ntmps16
    go_wp2_with (first
      | (go_at_call 20; refine (restNe_any b h n us Ls v x _ HS.out HV.out hx).mono ?_; rintro e w1 ⟨rfl, hg⟩; have G1 := Lib.hid hg; clear hg))
    go_ret
    exact ⟨_, rfl, by simp [hx], G1.out⟩
set_option maxHeartbeats 400000 in
theorem hasNil_any (v : Value) (x : List Int) (w : World) (hv : Bs w v x) :
    Calls Try.prog 16 #[.pointer none, v] w fun e w' => e = .returned (.bool false) ∧ Gr w w' := by
  have HV := Lib.hid hv
  clear hv
  go_enter Try.func16, Try.ntmps16
  go_wp2_with (first
      | (go_at_call 20; refine (restNil_any v x _ HV.out).mono ?_; rintro e w1 ⟨rfl, hg⟩; have G1 := Lib.hid hg; clear hg))
  go_ret
  exact ⟨rfl, G1.out⟩
/-- The first k places have a 0 in column p. -/
structure Half (w W : World) (b h n p base : Nat) (us : List Value) (Ls : List (List Int)) (r : List Int) (rv : Value) (k : Nat) (us' : List Value) (Lk : List (List Int)) : Prop where
  sb : Sb W b h n us' Lk
  len : Lk.length = n
  get : ∀ c, Lk.getD c [] = if c < k then swept p r (Ls.getD c []) else Ls.getD c []
  kp : Kp (fun g => g = h) w W
  old : ∀ i, i < n → us'.getD i undef = us.getD i undef ∨ ∀ g, blkOf (us'.getD i undef) = some g → base ≤ g
  plc : Plc W n rv r
section
variable {w W W2 : World} {b h n p base : Nat} {us : List Value} {Ls : List (List Int)} {r : List Int} {rv : Value} {k : Nat} {us' : List Value} {Lk : List (List Int)}
theorem Half.same (H : Half w W b h n p base us Ls r rv k us' Lk) (hs : swept p r (Ls.getD k []) = Ls.getD k []) : Half w W b h n p base us Ls r rv (k + 1) us' Lk := by
  refine ⟨H.sb, H.len, fun c => ?_, H.kp, H.old, H.plc⟩
  rw [H.get c]
  by_cases e : c = k
  · subst e
    rw [if_neg (by omega), if_pos (by omega), hs]
  · by_cases e2 : c < k
    · rw [if_pos e2, if_pos (by omega)]
    · rw [if_neg e2, if_neg (by omega)]
theorem Half.step {u : Value} (H : Half w W b h n p base us Ls r rv k us' Lk) (hk : k < n) (hnw : New W W2 u (swept p r (Ls.getD k []))) (hl : (swept p r (Ls.getD k [])).length = n) (hb : base ≤ W.heap.size) :
    Half w (W2.setCell ⟨h, k, none⟩ u) b h n p base us Ls r rv (k + 1) (us'.set k u) (Lk.set k (swept p r (Ls.getD k []))) := by
  have S2 := H.sb.grown hnw.1
  refine ⟨S2.put H.len hk (Plc.of_new hnw hl (by omega)), by rw [List.length_set]; exact H.len, fun c => ?_, (H.kp.trans (hnw.1.kp fun g => g = h) fun g e => .inl e).trans (Kp.set W2 h k u) fun g e => .inl e, fun i hi => ?_, S2.plcPut _ _ (H.plc.grown hnw.1)⟩
  · by_cases e : c = k
    · subst e
      rw [getD_set_self _ _ _ (by rw [H.len]; exact hk), if_pos (by omega)]
    · rw [getD_set_ne _ _ _ _ (fun c => e c.symm), H.get c]
      by_cases e2 : c < k
      · rw [if_pos e2, if_pos (by omega)]
      · rw [if_neg e2, if_neg (by omega)]
  · by_cases e : i = k
    · subst e
      have e1 : (us'.set i u).getD i undef = u := by rw [List.getD_eq_getElem?_getD, List.getElem?_set_self (by rw [H.sb.len]; exact hi)]; rfl
      rw [e1]
      refine .inr fun g hg => ?_
      obtain ⟨_, _, ⟨q, _⟩ | ⟨g', c, cur, rfl, q2, _⟩⟩ := hnw
      · rw [q] at hl
        simp at hl
        omega
      · cases hg
        exact Nat.le_trans hb q2
    · have e1 : (us'.set k u).getD i undef = us'.getD i undef := by rw [List.getD_eq_getElem?_getD, List.getElem?_set_ne (fun c => e c.symm), ← List.getD_eq_getElem?_getD]
      rw [e1]
      exact H.old i hi
end
set_option maxRecDepth 100000 in
set_option maxHeartbeats 1600000 in
theorem begin_any (b h n p base : Nat) (us : List Value) (Ls : List (List Int)) (rv : Value) (r : List Int) (w : World) (hs : Sb w b h n us Ls) (hL : Ls.length = n) (hr : Plc w n rv r) (hr0 : r ≠ []) (hp : p < n) (hn : n ≤ 64)
    (hbase : base ≤ w.heap.size) (hrb : ∀ g, blkOf rv = some g → base ≤ g) :
    Calls Try.prog 34 #[.pointer (some ⟨b, 0, none⟩), .int .i64 p, rv] w fun e w' => e = .returned (.tuple #[]) ∧
      ∃ us', Sb w' b h n us' (putIn Ls p r) ∧ Kp (fun k => k = h) w w' ∧ ∀ i, i < n → us'.getD i undef = us.getD i undef ∨ ∀ g, blkOf (us'.getD i undef) = some g → base ≤ g := by
  obtain ⟨gr, cr, rfl, _, hrl, _, _⟩ : ∃ g c, rv = .slice (some ⟨g, 0, none⟩) n c ∧ 0 < n ∧ r.length = n ∧ Bs w rv r ∧ ∃ cur, w.heap[g]? = some (.cells cur 5 (0, 0)) := by
    rcases hr with ⟨_, hr⟩ | hr
    · exact absurd hr hr0
    · exact hr
  have hc := hs.begun
  have HS := Lib.hid hs
  have HL := Lib.hid hL
  have HR := Lib.hid hr
  have HR0 := Lib.hid hr0
  have HRB := Lib.hid hrb
  have HRL := Lib.hid hrl
  clear hs hL hr hr0 hrb hrl
  have hnil : ∀ (W : World) (x : Option Addr) (p q : Nat), (binOp .neq 23 (.slice x p q) (.slice none 0 0)).run Try.prog W = .ok (.bool (!x.isNone)) W := fun W x p q => run_neq_slice_nil W _ _ x p q 0 0 Try.underlying23
  go_enter Try.func34, Try.ntmps34
  go_wp2
  clear hc
  go_loopw [13] (fun i W => ∃ (k : Nat) (us' : List Value) (Lk : List (List Int)), k ≤ n ∧ i = .int .i64 k ∧ Half w W b h n p base us Ls r (.slice (some ⟨gr, 0, none⟩) n cr) k us' Lk) (fun i _ => n - (intOf i).toNat)
  case atStart => exact ⟨0, us, Ls, by omega, rfl, HS.out, HL.out, fun c => by rw [if_neg (by omega)], Kp.refl _ _, fun i _ => .inl rfl, HR.out⟩
  case round =>
    clear HS HR
    obtain ⟨k, us', Lk, hk, rfl, hh⟩ := hrel
    have HH := Lib.hid hh
    clear hh
    by_cases hlt : k < n
    · have hcc := HH.out.sb.cell k hlt
      have hgk := HH.out.get k
      rw [if_neg (by omega)] at hgk
      have HR1 : Hid (Bs wr (.slice (some ⟨gr, 0, none⟩) n cr) r) := Lib.hid (by
        rcases HH.out.plc with ⟨q, _⟩ | ⟨_, _, _, _, _, q, _⟩
        · cases q
        · exact q)
      rcases HH.out.sb.plc k hlt with ⟨he, he2⟩ | ⟨g, c, he, h0, hl, hbk, _⟩
      · rw [he] at hcc
        rw [hgk] at he2
        have HH2 := Lib.hid (HH.out.same (by rw [he2, swept_none]))
        clear he he2 hgk
        go_wp2
        exact ⟨⟨k + 1, us', Lk, by omega, by go_num, HH2.out⟩, by simp [intOf]; omega⟩
      · rw [he] at hcc hbk
        rw [hgk] at hl hbk
        have hq : wr.cell? ((⟨g, 0, none⟩ : Addr).add p) = some (.int .u8 ((Ls.getD k []).getD p 0)) := by
          obtain ⟨a, ca, q1, q2, q3, q4⟩ := Bs.at hbk (by omega)
          cases q1
          exact q4 p (by omega)
        rw [Addr.add_mid, Nat.zero_add] at hq
        have hlb : ∀ z ∈ Ls.getD k [], Byt z := hbk.1
        have hzb := getD_byt hlb p
        have hcb := HH.out.sb.begun
        have hfz := HH.out.sb.frozen k
        have HFD := Lib.hid HH.out.sb.field
        have HBK := Lib.hid hbk
        have HLL := Lib.hid hl
        have HLB := Lib.hid hlb
        have HSW : Hid (swept p r (Ls.getD k []) = if (Ls.getD k []).getD p 0 = 0 then Ls.getD k [] else axL ((Ls.getD k []).getD p 0) r (Ls.getD k [])) := Lib.hid rfl
        generalize hzz : (Ls.getD k []).getD p 0 = z at *
        have HZZ := Lib.hid hzz
        clear hbk hl hlb he hgk hzz
        by_cases hz0 : z = 0
        · subst hz0
          have HH2 := Lib.hid (HH.out.same (by rw [HSW.out, if_pos rfl]))
          go_wp2
          exact ⟨⟨k + 1, us', Lk, by omega, by go_num, HH2.out⟩, by simp [intOf]; omega⟩
        · have hzn : (z != 0) = true := by simpa using hz0
          have HZ0 := Lib.hid hz0
          clear hz0
          go_wp2
          go_region_law (first
            | ((try go_simp); go_at_call 43; refine (ok_axpy _ _ _ z r (Ls.getD k []) _ (Or.inr ⟨b, rfl, by exact HFD.out⟩) hzb (by exact HR1.out) (by exact HBK.out) (by rw [HRL.out]; omega) (by rw [HLL.out, HRL.out])).mono ?_; rintro e w3 ⟨v3, rfl, hnw⟩; obtain ⟨o3, m3, c3, rfl⟩ := New.form3 hnw; have hc2 := cell_grown hnw.1 hcc; have hf2 := frozen_grown hnw.1 hcc hfz; have hcb3 := cell_grown hnw.1 hcb; have N3 := Lib.hid hnw; clear hnw))
          all_goals
            have hE : swept p r (Ls.getD k []) = axL z r (Ls.getD k []) := by rw [HSW.out, if_neg HZ0.out]
            have hE2 : (swept p r (Ls.getD k [])).length = n := by rw [hE, axL_length, HRL.out]
            go_wp2_with fail
            exact ⟨⟨k + 1, _, _, by omega, by go_num, HH.out.step hlt (by rw [hE]; exact N3.out) hE2 (Nat.le_trans hbase HH.out.kp.size)⟩, by simp [intOf]; omega⟩
    · obtain rfl : k = n := by omega
      have hcb := HH.out.sb.begun
      have hcp := HH.out.sb.cell p hp
      have hfp := HH.out.sb.frozen p
      go_wp2
      go_end0
      have hL : Lk.set p r = putIn Ls p r := by
        apply List.ext_getElem?
        intro i
        have hlen : (Lk.set p r).length = k := by rw [List.length_set]; exact HH.out.len
        have hlen2 : (putIn Ls p r).length = k := by simp [putIn, HL.out]
        by_cases hi : i < k
        · have h1 : (Lk.set p r).getD i [] = (putIn Ls p r).getD i [] := by
            rw [putIn_getD (by rw [HL.out]; exact hp)]
            by_cases e : i = p
            · subst e
              rw [getD_set_self _ _ _ (by rw [HH.out.len]; exact hi), if_pos rfl]
            · rw [getD_set_ne _ _ _ _ (fun c => e c.symm), HH.out.get i, if_pos hi, if_neg e]
          rw [List.getD_eq_getElem?_getD, List.getD_eq_getElem?_getD, List.getElem?_eq_getElem (by omega), List.getElem?_eq_getElem (by omega)] at h1
          rw [List.getElem?_eq_getElem (by omega), List.getElem?_eq_getElem (by omega)]
          simpa using h1
        · rw [List.getElem?_eq_none (by omega), List.getElem?_eq_none (by omega)]
      refine ⟨rfl, us'.set p _, by rw [← hL]; exact HH.out.sb.put HH.out.len hp HH.out.plc, HH.out.kp.trans (Kp.set wr h p _) fun g e => .inl e, fun i hi => ?_⟩
      by_cases e : i = p
      · subst e
        have e1 : (us'.set i (.slice (some ⟨gr, 0, none⟩) k cr)).getD i undef = .slice (some ⟨gr, 0, none⟩) k cr := by rw [List.getD_eq_getElem?_getD, List.getElem?_set_self (by rw [HH.out.sb.len]; exact hi)]; rfl
        rw [e1]
        exact .inr HRB.out
      · have e1 : (us'.set p (.slice (some ⟨gr, 0, none⟩) k cr)).getD i undef = us'.getD i undef := by rw [List.getD_eq_getElem?_getD, List.getElem?_set_ne (fun c => e c.symm), ← List.getD_eq_getElem?_getD]
        rw [e1]
        exact HH.out.old i hi
theorem new_blk {w w' : World} {v : Value} {l : List Int} {base : Nat} (h : New w w' v l) (hl : l ≠ []) (hb : base ≤ w.heap.size) : ∀ g, blkOf v = some g → base ≤ g := by
  obtain ⟨_, _, ⟨q, _⟩ | ⟨g', c, cur, rfl, q2, _⟩⟩ := h
  · exact absurd q hl
  · intro g hg
    cases hg
    exact Nat.le_trans hb q2
/-- In a Span that lies so, this is what Add left. -/
theorem SAt.added {w w1 w2 w' : World} {f : Value} {b h n p : Nat} {us us' : List Value} {Ls A : List (List Int)} {x y : List Int} (hs : Sb w b h n us Ls) (hB : Bg n Ls A) (hn : n ≤ 64) (hx : Rs n Ls A x n y) (hp : leadL y = p)
    (hg : Gr w w1) (h12 : w1 = w2) (hs' : Sb w' b h n us' (putIn Ls p (scaleL (invZ (y.getD p 0)) y))) (hk : Kp (fun k => k = h) w2 w') (ho : ∀ i, i < n → us'.getD i undef = us.getD i undef ∨ ∀ g, blkOf (us'.getD i undef) = some g → w.heap.size ≤ g) :
    ∃ F', SAt w' f (.pointer (some ⟨b, 0, none⟩)) F' n (A ++ [x]) ∧ Kp (Fo b h us) w w' ∧ ∀ k, F' k → Fo b h us k ∨ w.heap.size ≤ k := by
  subst h12
  refine ⟨Fo b h us', ⟨b, h, us', _, rfl, hs', (hB.put hx hp).1, hn, rfl⟩, (hg.kp (Fo b h us)).trans hk (fun k e => .inl (.inr (.inl e))), fun k e => ?_⟩
  rcases e with e | e | ⟨u, hu, hk2⟩
  · exact .inl (.inl e)
  · exact .inl (.inr (.inl e))
  · obtain ⟨i, hi, rfl⟩ := List.getElem_of_mem hu
    have hin : i < n := by rw [← hs'.len]; exact hi
    have e1 : us'.getD i undef = us'[i] := by rw [List.getD_eq_getElem?_getD, List.getElem?_eq_getElem hi]; rfl
    rcases ho i hin with q | q
    · refine .inl (.inr (.inr ⟨us.getD i undef, ?_, by rw [← q, e1]; exact hk2⟩))
      rw [List.getD_eq_getElem?_getD, List.getElem?_eq_getElem (by rw [hs.len]; exact hin)]
      exact List.getElem_mem _
    · exact .inr (q k (by rw [e1]; exact hk2))
set_option maxRecDepth 100000 in
set_option maxHeartbeats 1600000 in
theorem add_span (f v : Value) (b h n : Nat) (us : List Value) (Ls A : List (List Int)) (x : List Int) (w : World) (hs : Sb w b h n us Ls) (hB : Bg n Ls A) (hn : n ≤ 64) (hv : Bs w v x) (hx : x.length = n) :
    Calls Try.prog 13 #[.pointer (some ⟨b, 0, none⟩), v] w fun e w' => ∃ t F', e = .returned (.bool t) ∧ (t = true ↔ ¬ L.Sp (A.map vec) (vec x)) ∧ SAt w' f (.pointer (some ⟨b, 0, none⟩)) F' n (A ++ [x]) ∧ Kp (Fo b h us) w w' ∧ ∀ k, F' k → Fo b h us k ∨ w.heap.size ≤ k := by
  have HS := Lib.hid hs
  have HB := Lib.hid hB
  have HV := Lib.hid hv
  have HX := Lib.hid hx
  clear hs hB hv hx
  go_enter Try.func13, Try.ntmps13
  go_wp2_with (first
      | (go_at_call 20; refine (rest_any b h n us Ls A v x _ HS.out HB.out hn HV.out HX.out).mono ?_; rintro e w1 ⟨u, y, rfl, hnw, hrs⟩; obtain ⟨ou, mu, cu, rfl⟩ := New.form3 hnw; have N1 := Lib.hid hnw; have R1 := Lib.hid hrs; clear hnw hrs))
  refine (ok_lead _ y _ (New.bs N1.out) (by rw [R1.out.len]; omega)).mono ?_
  rintro e w2 ⟨rfl, hg⟩
  have G2 := Lib.hid hg
  clear hg
  by_cases hneg : leadL y < 0
  · have HP := Lib.hid hneg
    go_wp2
    go_ret
    obtain ⟨q1, q2⟩ := HB.out.none R1.out HP.out
    have hg := Gr.trans N1.out.1 G2.out
    exact ⟨false, Fo b h us, rfl, by simp [q2], ⟨b, h, us, Ls, rfl, HS.out.grown hg, q1, hn, rfl⟩, hg.kp _, fun k e => .inl e⟩
  · obtain ⟨p, hp⟩ := Int.eq_ofNat_of_zero_le (Int.not_lt.1 hneg)
    have HP := Lib.hid hp
    obtain ⟨p1, p2, _⟩ := leadL_spec y p hp
    have hyl := R1.out.len
    have hpn : p < n := by omega
    obtain ⟨a, ca, q1, q2, q3, q4⟩ := Bs.at (New.bs N1.out) (by omega)
    rw [hyl] at q1 q4
    obtain rfl : ou = some a := by cases q1; rfl
    obtain rfl : n = mu := by cases q1; rfl
    have hq := cell_grown G2.out (q4 p hpn)
    have hyb := getD_byt R1.out.byt p
    have NY : Hid (Bs w2 (.slice (some a) n cu) y) := Lib.hid (Bs.grown (New.bs N1.out) G2.out)
    have HS2 := Lib.hid (HS.out.grown (Gr.trans N1.out.1 G2.out))
    have HYL := Lib.hid hyl
    have HP2 := Lib.hid p2
    have HSZ : Hid (w.heap.size ≤ w2.heap.size) := Lib.hid (Gr.trans N1.out.1 G2.out).size
    have HNE : Hid (scaleL (invZ (y.getD p 0)) y ≠ []) := Lib.hid fun e => by
      have := scaleL_length (invZ (y.getD p 0)) y
      rw [e, hyl] at this
      simp at this
      omega
    rw [hp] at hneg ⊢
    generalize hzz : y.getD p 0 = z at *
    have HZZ := Lib.hid hzz
    clear hp p1 p2 hyl q1 q2 q3 q4 hzz hneg
    go_wp2
    go_region_law (first
      | ((try go_simp); go_at_call 34; refine (begin_any b h n p w.heap.size us Ls _ (scaleL (invZ z) y) _ (HS2.out.grown (by exact G4.out)) HB.out.len (Plc.of_new NSC.out (by rw [scaleL_length, HYL.out]) (by omega)) HNE.out hpn hn (Nat.le_trans HSZ.out (by exact G4.out.size)) (new_blk NSC.out HNE.out (Nat.le_trans HSZ.out GIN.out.size))).mono ?_; rintro e w5 ⟨rfl, us', hs5, hk5, ho5⟩; have S5 := Lib.hid hs5; have K5 := Lib.hid hk5; have O5 := Lib.hid ho5; clear hs5 hk5 ho5)
      | ((try go_simp); go_at_call 35; refine (ok_scale _ _ (invZ z) y _ (Or.inr ⟨b, rfl, FieldAt.grown HS2.out.field (by exact GIN.out)⟩) (invZ_byt z) (Bs.grown NY.out (by exact GIN.out)) (by rw [HYL.out]; omega)).mono ?_; rintro e w4 ⟨v4, rfl, hnw⟩; have NSC := Lib.hid hnw; have G4 : Hid (Gr w2 w4) := Lib.hid (Gr.trans GIN.out hnw.1); clear hnw)
      | ((try go_simp); go_at_call 36; refine (inv_any _ z hyb _ (Or.inr ⟨b, rfl, by exact HS2.out.field⟩)).mono ?_; rintro e w3 ⟨rfl, hg⟩; have GIN : Hid (Gr w2 w3) := Lib.hid hg; clear hg))
    all_goals
      have hs5 := S5.out
      rw [← HZZ.out] at hs5
      have hns := (HB.out.put R1.out HP.out).2
      have hg4 : Gr w w4 := Gr.trans (Gr.trans N1.out.1 G2.out) G4.out
      obtain ⟨F', hF⟩ := SAt.added (f := f) HS.out HB.out hn R1.out HP.out hg4 rfl hs5 K5.out O5.out
      have HF := Lib.hid hF
      have HNS := Lib.hid hns
      clear hF hs5 hns hg4
      go_wp2_with fail
      go_ret
      exact ⟨true, F', rfl, by simp [HNS.out], HF.out⟩
end Go.Proofs.Ytmeojdnalhaooaa
