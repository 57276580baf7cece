/-
  Texts laid behind one another: Wd Wi Co Px Py PreOwnW Va Vb.
-/
import Derived.Test.YtmbikmlknbinpaaMgf
import Derived.Test.YtmbikmlknbinpaaMga
import Derived.Test.YtmbikmlknbinpaaMge
import Derived.Test.YtmbikmlknbinpaaMgb
import Derived.Deep.DeepCutAuto
import Derived.Test.YtmbikmlknbinpaaMgc
import Derived.Deep.CutBlock
import Derived.Lib.SlBytesConst
namespace Go.Proofs.Ytmbikmlknbinpaa
open Go.RowKit

theorem New.nil17 (w w' : World) (hg : Gr w w') : New w w' (.slice none 0 0) [] := ⟨hg, (fun x hx => by cases hx), .inl ⟨rfl, none, 0, rfl, fun _ => rfl, by omega⟩⟩
theorem New.cut {w w' : World} {o : Option Addr} {m c k : Nat} {l : List Int} (h : New w w' (.slice o m c) l) (hk : k ≤ l.length) : New w w' (.slice o k c) (l.take k) := by
  obtain ⟨h1, h2, h3⟩ := h
  have hl : (l.take k).length = k := by rw [List.length_take]; omega
  refine ⟨h1, fun x hx => h2 x (List.mem_of_mem_take hx), ?_⟩
  rcases h3 with ⟨rfl, oa, c', e, h4, h5⟩ | ⟨g, c', cur, e, h4, h5, h6, h7, h8⟩
  · simp only [Value.slice.injEq] at e
    obtain ⟨rfl, rfl, rfl⟩ := e
    have : k = 0 := by simpa using hk
    subst this
    exact .inl ⟨rfl, _, _, rfl, h4, h5⟩
  · simp only [Value.slice.injEq] at e
    obtain ⟨rfl, rfl, rfl⟩ := e
    refine .inr ⟨g, _, cur, by rw [hl], h4, h5, by rw [hl]; omega, h7, fun i hi => ?_⟩
    rw [hl] at hi
    rw [h8 i (by omega), List.getD_eq_getElem?_getD, List.getD_eq_getElem?_getD, List.getElem?_take_of_lt hi]
set_option maxRecDepth 100000 in
set_option maxHeartbeats 1600000 in
theorem refWhole_in (K H S : Int) (v : Value) (L : List (List Int)) (n : Nat) (w : World) (hm : MayP K H S) (hn : n < 9223372036854775808) (hl : L.length = Ck.cnt (Ck.wdt K S) n) (hl2 : L.length ≤ 1000) (hx : ∀ x ∈ L, x.length ≤ 1000) (h : Bss w v L) :
    Calls Try.prog 19 #[par K H S, v, .int .i64 (n : Int)] w fun e w' => ∃ u, e = .returned (.tuple #[u, .bool (decide (Ck.JoinOk K H S L n))]) ∧ New w w' u (Ck.joinP K H S L n) := by
  obtain ⟨hw1, hw2, hw3⟩ := Ck.wdt_in hm
  have hd := decide_eq_true hm
  have hcnt := Ck.cnt_pos (n := n) hw1
  obtain ⟨W, hW⟩ : ∃ W, Ck.wdt K S = W := ⟨_, rfl⟩
  have HJ : Hid (Ck.JoinOk K H S L n ↔ ∀ x ∈ L, x.length = W) := Lib.hid (by
    unfold Ck.JoinOk
    rw [hW, Int.toNat_natCast]
    exact ⟨fun h => h.2.2.2, fun h => ⟨hm, by omega, by rw [← hW]; exact hl, h⟩⟩)
  have HCN : Hid (∀ w : World, Calls Try.prog 13 #[par K H S, .int .i64 (n : Int)] w fun e w' => e = .returned (.int .i64 (L.length : Nat)) ∧ Gr w w') := Lib.hid fun w => by
    rw [hl]
    exact refCount_in K H S n w hm hn
  rw [hW] at hw1 hw2 hw3 hcnt hl
  have HKS := Lib.hid hw3.symm
  have hwr : IntKind.i64.wrap (K * S) = (W : Int) := by rw [HKS.out]; simp [IntKind.wrap, IntKind.bits, IntKind.signed]; omega
  obtain ⟨m, hq⟩ : ∃ q, L.length = q := ⟨_, rfl⟩
  obtain ⟨o, c, rfl⟩ : ∃ o c, v = .slice o m c := by
    obtain ⟨oa, c, he, _⟩ := h
    exact ⟨oa, c, by rw [← hq]; exact he⟩
  have HZ := Lib.hid h
  have HX := Lib.hid hx
  rw [hq] at HCN hl hl2
  have HQ := Lib.hid hq
  have HLN : Hid (n ≤ m * W) := Lib.hid (by rw [hl]; exact hcnt.1)
  have hge0 : decide ((n : Int) < 0) = false := decide_eq_false (by omega)
  have P0 : Hid (Par (w.alloc (.cells #[.int .i64 K, .int .i64 H, .int .i64 S] 23)) w.heap.size K H S) := Lib.hid (heap_alloc_new _ _)
  have HG0 : Hid (Gr w (w.alloc (.cells #[.int .i64 K, .int .i64 H, .int .i64 S] 23))) := Lib.hid (Gr.alloc (Gr.refl _) _ _)
  clear hm hW hw3 hq h hx hl hcnt
  go_enter Try.func19, Try.ntmps19
  go_wp2_with fail
  generalize w.alloc (.cells #[.int .i64 K, .int .i64 H, .int .i64 S] 23) = W0 at *
  generalize hgp : w.heap.size = gp at *
  refine (refMay_any K H S _).mono ?_
  rw [hd]
  rintro e w1 ⟨rfl, hg1⟩
  have P1 := Lib.hid (P0.out.grown hg1)
  have G1 := Lib.hid (Gr.trans HG0.out hg1)
  have c0 := P1.out.cell0
  have c1 := P1.out.cell1
  have c2 := P1.out.cell2
  clear hg1 P0 HG0
  go_wp2_with fail
  refine (HCN.out _).mono ?_
  rintro e w2 ⟨rfl, hg2⟩
  have P2 := Lib.hid (P1.out.grown hg2)
  have G2 := Lib.hid (Gr.trans G1.out hg2)
  have hmm : ((m : Int) != (m : Int)) = false := by simp
  clear hg2 P1 G1 c0 c1 c2
  go_wp2_with fail
  go_loopw [8, 27] (fun ov iv X => ∃ (i : Nat) (oo : Option Addr) (co : Nat), i ≤ m ∧ iv = .int .i64 i ∧ ov = .slice oo (i * W) co ∧ (∀ x ∈ L.take i, x.length = W) ∧ X.ownsRow w.heap.size 5 1 (.slice oo (i * W) co) (i * W) ((L.take i).flatten.map (Value.int .u8)) ∧ Par X gp K H S ∧ Gr w X) (fun _ iv _ => m - (intOf iv).toNat)
  case atStart => exact ⟨0, none, 0, by omega, rfl, by rw [Nat.zero_mul], (fun x hx => by simp at hx), by rw [Nat.zero_mul]; exact World.ownsRow_nil _ _ _ _, P2.out, G2.out⟩
  case round =>
    obtain ⟨wi, hwi⟩ : ∃ x, x = wr := ⟨_, rfl⟩
    subst hwi
    obtain ⟨i, oo, co, hi, rfl, rfl, hal, ho, hp, hg⟩ := hrel
    obtain ⟨iw, hiw⟩ : ∃ iw, i * W = iw := ⟨_, rfl⟩
    have HIW := Lib.hid hiw
    rw [hiw] at ho ⊢
    have HO := Lib.hid ho
    have HP := Lib.hid hp
    have HG := Lib.hid hg
    have HAL := Lib.hid hal
    have k0 := hp.cell0
    have k2 := hp.cell2
    clear ho hp hg hal P2 G2 hiw
    by_cases hlt : i < m
    · obtain ⟨a, c', he, hrow⟩ : ∃ a c', (.slice o m c : Value) = .slice (some a) m c' ∧ ∃ u, w.cell? (a.add i) = some u ∧ Bs w u (L.getD i []) := by
        obtain ⟨oa, c', he, h2, h3, h4, h5⟩ := HZ.out
        simp only [Value.slice.injEq] at he
        obtain ⟨rfl, -, rfl⟩ := he
        cases o with
        | none => have := h4 rfl; rw [HQ.out] at h2; omega
        | some a => exact ⟨a, c, rfl, h5 a rfl i (by rw [HQ.out]; exact hlt)⟩
      simp only [Value.slice.injEq] at he
      obtain ⟨rfl, -, rfl⟩ := he
      obtain ⟨u, hcu, hbu⟩ := hrow
      obtain ⟨oi, ci, rfl⟩ := hbu.form
      obtain ⟨r, hr⟩ : ∃ r, (L.getD i []).length = r := ⟨_, rfl⟩
      rw [hr] at hcu hbu
      have q1 := cell_grown HG.out hcu
      have HBU := Lib.hid (hbu.grown HG.out)
      have HR := Lib.hid hr
      have hrl : r ≤ 1000 := by
        rw [← hr]
        refine HX.out _ ?_
        rw [List.getD_eq_getElem?_getD, List.getElem?_eq_getElem (by rw [HQ.out]; exact hlt)]
        exact List.getElem_mem _
      have HTS : Hid (L.take (i + 1) = L.take i ++ [L.getD i []]) := Lib.hid (by
        rw [List.take_add_one, List.getD_eq_getElem?_getD, List.getElem?_eq_getElem (by rw [HQ.out]; exact hlt)]
        rfl)
      have HME : Hid (L.getD i [] ∈ L) := Lib.hid (by
        rw [List.getD_eq_getElem?_getD, List.getElem?_eq_getElem (by rw [HQ.out]; exact hlt)]
        exact List.getElem_mem _)
      clear hcu hbu hr
      have hiwb : iw + r ≤ 400000 := by
        have h1 : i * W ≤ 1000 * 384 := Nat.mul_le_mul (by omega) hw2
        have := HIW.out
        omega
      by_cases hrw : r = W
      · have hrn : ((r : Int) != (W : Int)) = false := by simp [hrw]
        have HRW := Lib.hid hrw
        clear hrw
        go_wp2_with fail
        go_quiet (fail)
        obtain ⟨wd, hwd⟩ : ∃ x, x = wi.drewN nq := ⟨_, rfl⟩
        have OD : Hid (wd.ownsRow w.heap.size 5 1 (.slice oo iw co) iw ((L.take i).flatten.map (Value.int .u8))) := Lib.hid (by rw [hwd]; exact HO.out)
        have BD : Hid (Bs wd (.slice oi r ci) (L.getD i [])) := Lib.hid (by rw [hwd]; exact HBU.out)
        have GD : Hid (Gr w wd) := Lib.hid (by rw [hwd]; exact HG.out)
        have PD : Hid (Par wd gp K H S) := Lib.hid (by rw [hwd]; exact HP.out)
        have q2 : wd.cell? (a.add i) = some (.slice oi r ci) := by rw [hwd]; exact q1
        rw [← hwd]
        clear hwd HO HBU HG HP q1 k0 k2
        go_wp2_with (at_builtin; refine wpList_append_bytes rfl _ _ rfl w.heap.size (.slice oo iw co) iw (L.take i).flatten rfl OD.out oi r ci (L.getD i []) rfl BD.out (by omega) GD.out.size ?_; intro v6 w6 ho6 hg6; obtain ⟨o6, c6, rfl⟩ := ownsRow_form ho6; have O6 := Lib.hid ho6; have G6 : Hid (Gr w w6) := Lib.hid (Gr.append GD.out hg6 (ownsRow_base OD.out)); have P6 : Hid (Par w6 gp K H S) := Lib.hid ((Ke.of_own OD.out hg6).2 _ _ _ _ PD.out (by decide)); clear ho6 hg6)
        have hri : (i + 1) * W = iw + r := by
          rw [Nat.add_mul, Nat.one_mul, HIW.out, HRW.out]
        refine ⟨⟨i + 1, o6, c6, by omega, by go_num, by rw [hri], ?_, ?_, P6.out, G6.out⟩, by simp [intOf]; omega⟩
        · rw [HTS.out]
          intro x hx
          rcases List.mem_append.1 hx with h | h
          · exact HAL.out x h
          · obtain rfl := List.mem_singleton.1 h
            rw [HR.out, HRW.out]
        · rw [HTS.out, List.flatten_append, List.flatten_singleton, hri]
          exact O6.out
      · have hrn : ((r : Int) != (W : Int)) = true := by simpa using (by omega : ¬ (r : Int) = (W : Int))
        have hno : ¬ Ck.JoinOk K H S L n := fun h => hrw (by rw [← HR.out]; exact HJ.out.1 h _ HME.out)
        have HNO := Lib.hid hno
        clear hno
        go_wp2_with fail
        go_quiet (fail)
        go_wp2_with fail
        go_ret2
        rw [decide_eq_false HNO.out, show Ck.joinP K H S L n = [] from if_neg HNO.out]
        exact ⟨_, rfl, New.nil17 _ _ HG.out⟩
    · obtain rfl : i = m := by omega
      have hall : L.take i = L := List.take_of_length_le (by rw [HQ.out]; exact Nat.le_refl _)
      have HYE : Hid (Ck.JoinOk K H S L n) := Lib.hid (HJ.out.2 (by have := HAL.out; rwa [hall] at this))
      have HNW : Hid (New w wi (.slice oo iw co) L.flatten) := Lib.hid (by
        have h := HO.out
        rw [hall] at h
        have hfl : L.flatten.length = iw := by
          rw [Ck.flat_wide (HJ.out.1 HYE.out), HQ.out, HIW.out]
        refine New.of_row HG.out (fun x hx => ?_) (by rw [hfl]; exact h)
        obtain ⟨y, hy, hxy⟩ := List.mem_flatten.1 hx
        obtain ⟨k, hk, rfl⟩ := List.mem_iff_getElem.1 hy
        obtain ⟨oa', c', he, h2, h3, h4, h5⟩ := HZ.out
        cases oa' with
        | none => have := h4 rfl; omega
        | some a =>
          obtain ⟨u, hu1, hu2⟩ := h5 a rfl k hk
          rw [List.getD_eq_getElem?_getD, List.getElem?_eq_getElem hk] at hu2
          exact hu2.1 x hxy)
      have hniw : n ≤ iw := by have := HLN.out; rw [HIW.out] at this; exact this
      have hcap : (n : Int) ≤ (co : Int) := by
        obtain ⟨_, oa', c', he, h2, _⟩ := New.bs HNW.out
        simp only [Value.slice.injEq] at he
        obtain ⟨_, h6, rfl⟩ := he
        omega
      clear hall
      go_wp2_with fail
      go_ret2
      rw [decide_eq_true HYE.out, show Ck.joinP K H S L n = L.flatten.take n from (if_pos HYE.out).trans (by rw [Int.toNat_natCast])]
      exact ⟨_, rfl, HNW.out.cut (by rw [Ck.flat_wide (HJ.out.1 HYE.out), HQ.out, HIW.out]; exact hniw)⟩
set_option maxRecDepth 100000 in
set_option maxHeartbeats 800000 in
theorem refWhole_ne (K H S : Int) (v : Value) (L : List (List Int)) (n : Int) (w : World) (hn : I64 n) (hno : ¬ (MayP K H S ∧ 0 ≤ n ∧ L.length = Ck.cnt (Ck.wdt K S) n.toNat)) (h : Bss w v L) :
    Calls Try.prog 19 #[par K H S, v, .int .i64 n] w fun e w' => e = .returned (.tuple #[.slice none 0 0, .bool false]) ∧ Gr w w' := by
  obtain ⟨m, hq⟩ : ∃ q, L.length = q := ⟨_, rfl⟩
  obtain ⟨o, c, rfl⟩ : ∃ o c, v = .slice o m c := by
    obtain ⟨oa, c, he, _⟩ := h
    exact ⟨oa, c, by rw [← hq]; exact he⟩
  have HCN : Hid (∀ w : World, Calls Try.prog 13 #[par K H S, .int .i64 n] w fun e w' => e = .returned (.int .i64 (Ck.countP K H S n)) ∧ Gr w w') := Lib.hid fun w => refCount_any K H S n w hn
  have P0 : Hid (Par (w.alloc (.cells #[.int .i64 K, .int .i64 H, .int .i64 S] 23)) w.heap.size K H S) := Lib.hid (heap_alloc_new _ _)
  have HG0 : Hid (Gr w (w.alloc (.cells #[.int .i64 K, .int .i64 H, .int .i64 S] 23))) := Lib.hid (Gr.alloc (Gr.refl _) _ _)
  by_cases hm : MayP K H S
  · have hd := decide_eq_true hm
    by_cases h0 : 0 ≤ n
    · have hc : Ck.countP K H S n = (Ck.cnt (Ck.wdt K S) n.toNat : Nat) := if_pos ⟨hm, h0⟩
      obtain ⟨q, hqq⟩ : ∃ q, Ck.cnt (Ck.wdt K S) n.toNat = q := ⟨_, rfl⟩
      have hne : ¬ m = q := fun e => hno ⟨hm, h0, by rw [hq, hqq, e]⟩
      rw [hc, hqq] at HCN
      have hge0 : decide (n < 0) = false := decide_eq_false (by omega)
      have hmm : ((m : Int) != (q : Int)) = true := by simpa using (by omega : ¬ (m : Int) = (q : Int))
      clear hm h hno hq hqq hc hne h0 hn
      go_enter Try.func19, Try.ntmps19
      go_wp2_with fail
      refine (refMay_any K H S _).mono ?_
      rw [hd]
      rintro e w1 ⟨rfl, hg1⟩
      have P1 := Lib.hid (P0.out.grown hg1)
      have G1 := Lib.hid (Gr.trans HG0.out hg1)
      have c0 := P1.out.cell0
      have c1 := P1.out.cell1
      have c2 := P1.out.cell2
      clear hg1 P0 HG0
      go_wp2_with fail
      refine (HCN.out _).mono ?_
      rintro e w2 ⟨rfl, hg2⟩
      have G2 := Lib.hid (Gr.trans G1.out hg2)
      clear hg2 P1 G1 c0 c1 c2
      go_wp2_with fail
      go_ret2
      exact ⟨rfl, G2.out⟩
    · have hlt : decide (n < 0) = true := decide_eq_true (by omega)
      clear hm h hno hq hn h0 HCN
      go_enter Try.func19, Try.ntmps19
      go_wp2_with fail
      refine (refMay_any K H S _).mono ?_
      rw [hd]
      rintro e w1 ⟨rfl, hg1⟩
      have G1 := Lib.hid (Gr.trans HG0.out hg1)
      clear hg1
      go_wp2_with fail
      go_ret2
      exact ⟨rfl, G1.out⟩
  · have hd := decide_eq_false hm
    clear hm h hno hq hn HCN
    go_enter Try.func19, Try.ntmps19
    go_wp2_with fail
    refine (refMay_any K H S _).mono ?_
    rw [hd]
    rintro e w1 ⟨rfl, hg1⟩
    have G1 := Lib.hid (Gr.trans HG0.out hg1)
    clear hg1
    go_wp2_with fail
    go_ret2
    exact ⟨rfl, G1.out⟩
theorem refWhole_any (K H S : Int) (v : Value) (L : List (List Int)) (n : Int) (w : World) (hn : I64 n) (hl2 : L.length ≤ 1000) (hx : ∀ x ∈ L, x.length ≤ 1000) (h : Bss w v L) :
    Calls Try.prog 19 #[par K H S, v, .int .i64 n] w fun e w' => ∃ u, e = .returned (.tuple #[u, .bool (decide (Ck.JoinOk K H S L n))]) ∧ New w w' u (Ck.joinP K H S L n) := by
  by_cases hc : MayP K H S ∧ 0 ≤ n ∧ L.length = Ck.cnt (Ck.wdt K S) n.toNat
  · obtain ⟨k, rfl⟩ : ∃ k : Nat, n = k := ⟨n.toNat, by have := hc.2.1; omega⟩
    rw [Int.toNat_natCast] at hc
    exact refWhole_in K H S v L k w hc.1 (by have := hn.2; omega) hc.2.2 hl2 hx h
  · have hno : ¬ Ck.JoinOk K H S L n := fun h => hc ⟨h.1, h.2.1, h.2.2.1⟩
    rw [decide_eq_false hno, show Ck.joinP K H S L n = [] from if_neg hno]
    refine (refWhole_ne K H S v L n w hn hc h).mono ?_
    rintro e w' ⟨rfl, hg⟩
    exact ⟨_, rfl, New.nil17 _ _ hg⟩
end Go.Proofs.Ytmbikmlknbinpaa
namespace Go.Proofs.Ytmbikmlknbinpaa
open Go.RowKit

set_option maxRecDepth 100000 in
set_option maxHeartbeats 400000 in
theorem within_big (x n : Int) (h1 : 1 ≤ n) (h2 : n ≤ 4611686018427387904) (w : World) :
    Calls Try.prog 17 #[.int .i64 x, .int .i64 n] w fun e w' => e = .returned (.int .i64 (x % n)) ∧ w = w' := by
  have ht := within_fact x n (by omega)
  have h3 := Int.emod_lt_of_pos x (by omega : 0 < n)
  have h4 := Int.emod_nonneg x (by omega : n ≠ 0)
  have hn : (n == 0) = false := by simp; omega
  rcases ht with ht | ⟨ht, hu⟩
  · go_enter Try.func17, Try.ntmps17
    go_wp2_with fail
    go_ret
    exact ⟨rfl, rfl⟩
  · obtain ⟨r, hr⟩ : ∃ r, x.tmod n = r := ⟨_, rfl⟩
    rw [hr] at ht hu
    go_enter Try.func17, Try.ntmps17
    go_wp2_with fail
    go_ret
    exact ⟨rfl, rfl⟩
end Go.Proofs.Ytmbikmlknbinpaa
namespace Go.Proofs.Ytmbikmlknbinpaa
open Go.RowKit

def blkOf : Value → Option Nat
  | .slice (some a) _ _ => some a.block
  | _ => none
/-- Each row lies in a block of its own, from base on. -/
def Own (base : Nat) (w : World) (us : List Value) : Prop :=
  (∀ i, i < us.length → ∃ g m c, us.getD i undef = .slice (some ⟨g, 0, none⟩) m c ∧ base ≤ g ∧ g < w.heap.size) ∧
  ∀ i j, i < j → j < us.length → blkOf (us.getD i undef) ≠ blkOf (us.getD j undef)
theorem Own.nil (base : Nat) (w : World) : Own base w [] := ⟨fun i hi => by simp at hi, fun i j _ hj => by simp at hj⟩
theorem getD_append_left' {us : List Value} {u : Value} {i : Nat} (h : i < us.length) : (us ++ [u]).getD i undef = us.getD i undef := by
  rw [List.getD_eq_getElem?_getD, List.getElem?_append_left h, ← List.getD_eq_getElem?_getD]
theorem getD_append_last' (us : List Value) (u : Value) : (us ++ [u]).getD us.length undef = u := by
  rw [List.getD_eq_getElem?_getD, List.getElem?_append_right (Nat.le_refl _)]
  simp
theorem Own.append {base g m c : Nat} {w w1 w2 : World} {us : List Value} (h : Own base w us) (hg : w.heap.size ≤ g) (hg2 : g < w1.heap.size) (hb : base ≤ g) (_ : w.heap.size ≤ w1.heap.size) (h2 : w1.heap.size ≤ w2.heap.size) :
    Own base w2 (us ++ [.slice (some ⟨g, 0, none⟩) m c]) := by
  obtain ⟨ha, hd⟩ := h
  refine ⟨fun i hi => ?_, fun i j hij hj => ?_⟩
  · rw [List.length_append, List.length_singleton] at hi
    by_cases e : i < us.length
    · obtain ⟨g', m', c', q1, q2, q3⟩ := ha i e
      exact ⟨g', m', c', by rw [getD_append_left' e]; exact q1, q2, by omega⟩
    · obtain rfl : i = us.length := by omega
      exact ⟨g, m, c, getD_append_last' _ _, hb, by omega⟩
  · rw [List.length_append, List.length_singleton] at hj
    by_cases e : j < us.length
    · rw [getD_append_left' e, getD_append_left' (by omega)]
      exact hd i j hij e
    · obtain rfl : j = us.length := by omega
      rw [getD_append_last', getD_append_left' hij]
      obtain ⟨g', m', c', q1, q2, q3⟩ := ha i hij
      rw [q1]
      simp [blkOf]
      omega
def RwsO (base : Nat) (w : World) (v : Value) (L : List (List Int)) : Prop :=
  ∃ us, w.ownsRow base 24 1 v L.length us ∧ (∀ i, i < L.length → Bs w (us.getD i undef) (L.getD i []) ∧ Rb base w (us.getD i undef)) ∧ Own base w us
theorem RwsO.nil (base : Nat) (w : World) : RwsO base w (.slice none 0 0) [] := ⟨[], World.ownsRow_nil w base 24 1, fun i hi => absurd hi (by simp), Own.nil _ _⟩
theorem RwsO.rws {base : Nat} {w : World} {v : Value} {L : List (List Int)} (h : RwsO base w v L) : Rws base w v L := by
  obtain ⟨us, h1, h2, _⟩ := h
  exact ⟨us, h1, h2⟩
theorem Rws.append' {base : Nat} {w w' : World} {v v' u : Value} {L : List (List Int)} {l : List Int} {us : List Value} (ho : w.ownsRow base 24 1 v L.length us) (hr : ∀ i, i < L.length → Bs w (us.getD i undef) (L.getD i []) ∧ Rb base w (us.getD i undef))
    (hb : Bs w u l) (hrb : Rb base w u) (hown : w'.ownsRow base 24 1 v' (L.length + 1) (us ++ [u])) (hg : w.grownBy w' v.ownBlock) :
    w'.ownsRow base 24 1 v' (L ++ [l]).length (us ++ [u]) ∧ ∀ i, i < (L ++ [l]).length → Bs w' ((us ++ [u]).getD i undef) ((L ++ [l]).getD i []) ∧ Rb base w' ((us ++ [u]).getD i undef) := by
  have hlen : us.length = L.length := by have := ho.1; omega
  have hrow := ownsRow_not_bytes ho
  refine ⟨by rw [List.length_append]; exact hown, fun i hi => ?_⟩
  rw [List.length_append, List.length_singleton] at hi
  by_cases e : i < L.length
  · rw [List.getD_eq_getElem?_getD, List.getD_eq_getElem?_getD, List.getElem?_append_left (by omega), List.getElem?_append_left e, ← List.getD_eq_getElem?_getD, ← List.getD_eq_getElem?_getD]
    exact Rb.kept (hr i e).1 (hr i e).2 hg.block hrow
  · obtain rfl : i = L.length := by omega
    have e1 : (us ++ [u]).getD L.length undef = u := by rw [List.getD_eq_getElem?_getD, List.getElem?_append_right (by omega), hlen]; simp
    have e2 : (L ++ [l]).getD L.length [] = l := by rw [List.getD_eq_getElem?_getD, List.getElem?_append_right (by omega)]; simp
    rw [e1, e2]
    exact Rb.kept hb hrb hg.block hrow
set_option maxHeartbeats 1600000 in
theorem copies_own (va : Value) (L : List (List Int)) (w : World) (h : Bss w va L) (hl : L.length ≤ 1000) (hr : ∀ i, i < L.length → 1 ≤ (L.getD i []).length ∧ (L.getD i []).length ≤ 1000) :
    Calls Try.prog 24 #[va] w fun e w' => ∃ v, e = .returned v ∧ RwsO w.heap.size w' v L ∧ Gr w w' := by
  obtain ⟨i0, hi0, hz0, hz1, hz2⟩ := info_parts info22
  have I0 := Lib.hid hi0
  have I1 := Lib.hid hz0
  have I2 := Lib.hid hz1
  have I3 := Lib.hid hz2
  have HR := Lib.hid hr
  obtain ⟨oa, c, rfl, h1, h2, h3, h4⟩ := h
  have HA := Lib.hid h4
  generalize hn : L.length = n at *
  have HN := Lib.hid hn
  have hoa : n = 0 ∨ ∃ a, oa = some a := by
    cases oa with
    | none => exact .inl (by have := h3 rfl; omega)
    | some a => exact .inr ⟨a, rfl⟩
  clear hi0 hz0 hz1 hz2 hr h3 h4 hn
  go_enter Try.func24, Try.ntmps24
  go_wp2
  go_loopw [3, 8] (fun o i wr => ∃ k : Nat, k ≤ n ∧ i = .int .i64 k ∧ RwsO w.heap.size wr o (L.take k) ∧ Gr w wr) (fun _ i _ => n - (intOf i).toNat)
  case atStart => exact ⟨0, by omega, rfl, RwsO.nil _ _, Gr.refl _⟩
  case round =>
    obtain ⟨k, hk, rfl, hrs, hg⟩ := hrel
    by_cases hlt : k < n
    · obtain ⟨a, rfl⟩ : ∃ a, oa = some a := by
        rcases hoa with c1 | c1
        · omega
        · exact c1
      obtain ⟨u, q0, hu⟩ := HA.out a rfl k hlt
      have q1 := cell_grown hg q0
      have hlk : (L.take k).length = k := by rw [List.length_take, HN.out]; omega
      obtain ⟨us, ho, hr, hown⟩ := hrs
      obtain ⟨oo, co, rfl⟩ := ownsRow_form ho
      obtain ⟨ou, cu, rfl⟩ := hu.form
      have hm := HR.out k hlt
      obtain ⟨p, hp⟩ : ∃ p, (L.getD k []).length = p := ⟨_, rfl⟩
      rw [hp] at q1 hu hm
      obtain ⟨hm1, hm⟩ := hm
      rw [hlk] at ho hr ⊢
      have HU := Lib.hid (Bs.grown hu hg)
      have HO := Lib.hid ho
      have HRR := Lib.hid hr
      have HG := Lib.hid hg
      have HP := Lib.hid hp
      have HLK := Lib.hid hlk
      have HOWN := Lib.hid hown
      clear hu ho hr hg hp q0 hlk hown
      go_wp2_with (first
        | (go_at_call 23; refine (copy_any ou p cu (L.getD k []) _ HP.out (by omega) HU.out).mono ?_; rintro e w1 ⟨g1, rfl, hg1, hnw⟩; have HW := Lib.hid hnw; have HG1 := Lib.hid hg1; clear hnw hg1)
        | (at_builtin; refine wpList_append_lies _ rfl _ _ _ rfl w.heap.size 24 i0 _ 1 24 Try.underlying25 I0.out I1.out I2.out I3.out rfl (by omega) (.slice oo k co) k us rfl (((HO.out.of_gr HW.out.1)).alloc _)
              ⟨w1.heap.size, 0, none⟩ 1 1 [.slice (some ⟨g1, 0, none⟩) p (p + 2)] rfl rfl (World.news_of_block (cs := #[.slice (some ⟨g1, 0, none⟩) p (p + 2)]) (t := 24) (fr := (0, 0)) (heap_alloc_new w1 _)) (by simp [Value.oneCell'])
              (by omega) (by unfold maxLen; omega) (by omega) (by have := HG.out.size; have := HW.out.1.size; simp; omega) (w1.heap.size + 1) (by simp) ?_; intro gg cap w2 hown1 hgrow hat hlt2))
      have hg1w : Gr wr (w1.alloc (.cells #[.slice (some ⟨g1, 0, none⟩) p (p + 2)] 24)) := Gr.alloc HW.out.1 _ _
      have hgw1 : Gr w1 (w1.alloc (.cells #[.slice (some ⟨g1, 0, none⟩) p (p + 2)] 24)) := Gr.alloc (Gr.refl _) _ _
      have hrow : ∀ g, (Value.slice oo k co).ownBlock = some g → w.heap.size ≤ g := fun g hg => (ownsRow_not_bytes HO.out g hg).1
      have hnb := Rb.gr (New.bs HW.out) (New.rb HW.out w.heap.size) hgw1
      have hus : us.length = k := by have := HO.out.1; omega
      have hg1lt : k < 1000001 ∧ g1 < w1.heap.size := by
        obtain ⟨_, _, hcase⟩ := HW.out
        rcases hcase with ⟨hl0, _⟩ | ⟨g, c, cur, he, _, h2, _⟩
        · exfalso
          have := HP.out
          rw [hl0] at this
          simp at this
          omega
        · refine ⟨by omega, ?_⟩
          cases he
          exact (Array.getElem?_eq_some_iff.1 h2).1
      have hap : RwsO w.heap.size w2 (.slice (some ⟨gg, 0, none⟩) (k + 1) cap) (L.take k ++ [L.getD k []]) := by
        obtain ⟨f1, f2⟩ := Rws.append' (L := L.take k) (l := L.getD k []) (by rw [HLK.out]; exact (HO.out.of_gr HW.out.1).alloc _) (fun i hi => Rb.gr (HRR.out i (by rwa [HLK.out] at hi)).1 (HRR.out i (by rwa [HLK.out] at hi)).2 hg1w)
          hnb.1 hnb.2 (by rw [HLK.out]; exact hown1) hgrow
        exact ⟨_, f1, f2, Own.append HOWN.out HG1.out hg1lt.2 (Nat.le_trans HG.out.size HG1.out) HW.out.1.size (Nat.le_trans (by simp) hgrow.size)⟩
      have htk : L.take k ++ [L.getD k []] = L.take (k + 1) := by
        rw [List.take_add_one, List.getD_eq_getElem?_getD, List.getElem?_eq_getElem (by rw [HN.out]; exact hlt)]
        rfl
      rw [htk] at hap
      have hgr := Gr.append (Gr.trans HG.out hg1w) hgrow hrow
      exact ⟨⟨k + 1, by omega, by go_num, hap, hgr⟩, by simp [intOf]; omega⟩
    · obtain rfl : k = n := by omega
      rw [List.take_of_length_le (by rw [HN.out]; omega)] at hrs
      have HRS := Lib.hid hrs
      have HG := Lib.hid hg
      clear hrs hg
      go_wp2
      go_ret
      exact ⟨_, rfl, HRS.out, HG.out⟩
/-- A store of one byte of the first row. -/
theorem RwsO.poke {base : Nat} {w : World} {v : Value} {L : List (List Int)} (h : RwsO base w v L) (h0 : 0 < L.length) (h1 : 0 < (L.getD 0 []).length) :
    ∃ gv cv g c, v = .slice (some ⟨gv, 0, none⟩) L.length cv ∧ w.cell? ⟨gv, 0, none⟩ = some (.slice (some ⟨g, 0, none⟩) (L.getD 0 []).length c) ∧ w.cell? ⟨g, 0, none⟩ = some (.int .u8 ((L.getD 0 []).getD 0 0)) ∧ w.frozen? ⟨g, 0, none⟩ = false ∧ base ≤ g ∧ L.length ≤ cv ∧ (L.getD 0 []).length ≤ c ∧
      ∀ z, Byt z → Bss (w.setCell ⟨g, 0, none⟩ (.int .u8 z)) v (L.set 0 ((L.getD 0 []).set 0 z)) := by
  obtain ⟨us, ho, hr, ho1, ho2⟩ := h
  obtain ⟨gv, cv, rfl, c1, c2, c3, c4, c5⟩ := ownsRow_cell ho h0
  obtain ⟨g, m, c, e0, e1, e2⟩ := ho1 0 (by omega)
  obtain ⟨r1, r2⟩ := hr 0 h0
  rw [e0] at r1 r2
  obtain ⟨b1, oa, c', he, b2, b3, b4, b5⟩ := r1
  obtain ⟨rfl, rfl, rfl⟩ : some (⟨g, 0, none⟩ : Addr) = oa ∧ m = (L.getD 0 []).length ∧ c = c' := by simpa using he
  obtain ⟨cur, hcur⟩ : ∃ cur, w.heap[g]? = some (.cells cur 5 (0, 0)) := by
    rcases r2 _ _ _ rfl h1 with h | h
    · exact absurd h (by simp; omega)
    · exact h
  have hgv : gv ≠ g := fun e => by
    have := (ownsRow_not_bytes ho gv rfl).2 cur
    rw [e] at this
    exact this hcur
  have hb0 := b5 _ rfl 0 h1
  refine ⟨gv, cv, g, c, rfl, by rw [c5 0 h0, e0], by have := hb0; rw [Addr.add_mid] at this; exact this, frozen_of_row w g 0 _ _ hcur, e1, c1, b2, fun z hz => ⟨some ⟨gv, 0, none⟩, cv, by rw [List.length_set], by rw [List.length_set]; exact c1, by unfold maxLen at c2; omega, (fun h => by cases h), fun a ha i hi => ?_⟩⟩
  cases ha
  rw [List.length_set] at hi
  rw [Addr.add_mid, Nat.zero_add]
  refine ⟨us.getD i undef, ?_, ?_⟩
  · have := c5 i hi
    rw [← this]
    exact World.cell?_setCell_other _ _ _ _ (fun e => hgv (by cases e; rfl))
  · by_cases e : i = 0
    · subst e
      rw [e0, List.getD_eq_getElem?_getD (l := L.set 0 _), List.getElem?_set_self h0]
      have hl : ((L.getD 0 []).set 0 z).length = (L.getD 0 []).length := List.length_set
      refine ⟨fun x hx => ?_, some ⟨g, 0, none⟩, c, by simp only [Option.getD_some]; rw [hl], by simp only [Option.getD_some]; rw [hl]; exact b2, b3, (fun h => by cases h), fun a ha j hj => ?_⟩
      · rcases List.mem_or_eq_of_mem_set hx with hx | rfl
        · exact b1 x hx
        · exact hz
      · cases ha
        simp only [Option.getD_some] at hj ⊢
        rw [hl] at hj
        by_cases ej : j = 0
        · subst ej
          rw [Addr.add_mid, cell_of_row _ g _ _ _ _ (heap_setCell_same _ _ _ _ _ _ hcur), List.getD_eq_getElem?_getD, List.getElem?_set_self h1]
          have : 0 < cur.size := by
            have hc := hb0
            rw [Addr.add_mid, cell_of_row _ g _ _ _ _ hcur] at hc
            have := (Array.getElem?_eq_some_iff.1 hc).1
            simpa using this
          simp [this]
        · have hcj := b5 _ rfl j hj
          rw [Addr.add_mid, Nat.zero_add] at hcj ⊢
          rw [List.getD_eq_getElem?_getD, List.getElem?_set_ne (fun h => ej h.symm), ← List.getD_eq_getElem?_getD, ← hcj]
          exact World.cell?_setCell_other _ _ _ _ (fun h => ej (by cases h; rfl))
    · rw [List.getD_eq_getElem?_getD (l := L.set 0 _), List.getElem?_set_ne (fun h => e h.symm), ← List.getD_eq_getElem?_getD]
      obtain ⟨g', m', c', q0, q1, q2⟩ := ho1 i (by omega)
      have hne := ho2 0 i (by omega) (by omega)
      rw [e0, q0] at hne
      have hne' : g' ≠ g := fun h => hne (by simp [blkOf, h])
      obtain ⟨s1, s2⟩ := hr i hi
      rw [q0] at s1 ⊢
      obtain ⟨t1, oa, c'', he', t2, t3, t4, t5⟩ := s1
      refine ⟨t1, oa, c'', he', t2, t3, t4, fun a ha j hj => ?_⟩
      have hae : a = ⟨g', 0, none⟩ := by
        have : some (⟨g', 0, none⟩ : Addr) = oa := (by simpa using he' : _ ∧ _).1
        rw [ha] at this
        cases this
        rfl
      rw [← t5 a ha j hj]
      subst hae
      exact World.cell?_setCell_other _ _ _ _ (fun h => hne' (by have := congrArg Addr.block h; simpa [Addr.add_mid] using this.symm))
end Go.Proofs.Ytmbikmlknbinpaa
namespace Go.Proofs.Ytmbikmlknbinpaa
open Go.RowKit

theorem ownsRow_not_par {w : World} {base : Nat} {v : Value} {n gp : Nat} {us : List Value} {K H S : Int} (h : w.ownsRow base 24 1 v n us) (hp : Par w gp K H S) : v.ownBlock ≠ some gp := by
  intro hg
  obtain ⟨_, ⟨rfl, _⟩ | ⟨g', c, cur, rfl, hb, hgg, _⟩⟩ := h
  · cases hg
  · simp [Value.ownBlock] at hg
    subst hg
    unfold Par at hp
    rw [hgg] at hp
    simp at hp
theorem ahead_end (K H h : Nat) : (lst (K + H) (part (aheadF K h) K)).set (K + h) 1 = aheadRow K H h := by
  rw [lst_set]
  apply lst_congr
  intro j hj
  unfold part aheadF
  by_cases e : j = K + h
  · rw [if_pos e, if_neg (by omega), if_pos e]
  · rw [if_neg e]
    by_cases c : j < K
    · rw [if_pos c]
    · rw [if_neg c, if_neg c, if_neg e]
end Go.Proofs.Ytmbikmlknbinpaa
namespace Go.Proofs.Ytmbikmlknbinpaa
open Go.RowKit

theorem Bss.form3 {w : World} {v : Value} {L : List (List Int)} (h : Bss w v L) : ∃ o m c, v = .slice o m c := by
  obtain ⟨o, c, h, _⟩ := h
  exact ⟨o, _, c, h⟩
/-- The contracts of package pre. -/
structure PreOk : Prop where
  may : ∀ (K H S : Int) (w : World), Calls Try.prog 22 #[par K H S] w fun e w' => e = .returned (.bool (decide (MayP K H S))) ∧ Gr w w'
theorem aheadP_in {K H : Nat} {S : Int} (h : MayP K H S) : aheadP K H S = ahead K H := by
  unfold aheadP
  rw [if_pos h, Int.toNat_natCast, Int.toNat_natCast]
theorem may_params {a b c : Nat} (ha : a < 16) (hb : b < 4) (hc : c < 24) : MayP ((1 + a : Nat) : Int) ((1 + b : Nat) : Int) ((1 + c : Nat) : Int) := by
  unfold MayP
  omega
theorem ahead_one : ahead 1 1 = [[3, 1]] := by
  have h3 : expZ 1 = 3 := by decide +kernel
  simp [ahead, aheadRow, lst, aheadF, List.range_succ, h3]
end Go.Proofs.Ytmbikmlknbinpaa
namespace Go.Proofs.Ytmbikmlknbinpaa
open Go.RowKit

/-- A byte is written: rows read otherwise, but for their lengths. -/
theorem Bs.poke {w : World} {u : Value} {l : List Int} (h : Bs w u l) {x : Addr} {y : Value} (hx : w.cell? x = some y) (z : Int) (hz : Byt z) : ∃ l', l'.length = l.length ∧ Bs (w.setCell x (.int .u8 z)) u l' := by
  obtain ⟨hb, oa, c, rfl, h2, h3, h4, h5⟩ := h
  by_cases h0 : 0 < l.length
  · obtain ⟨a, rfl⟩ : ∃ a, oa = some a := by
      cases oa with
      | some a => exact ⟨a, rfl⟩
      | none => exact absurd (h4 rfl) (by omega)
    refine ⟨lst l.length (fun i => if a.add i = x then z else l.getD i 0), lst_length _ _, lst_byt fun i _ => ?_, some a, c, by rw [lst_length], by rw [lst_length]; exact h2, h3, h4, fun a' ha i hi => ?_⟩
    · show Byt (if a.add i = x then z else l.getD i 0)
      split
      · exact hz
      · exact getD_byt hb i
    · cases ha
      rw [lst_length] at hi
      rw [lst_getD _ _ _ hi]
      by_cases e : a.add i = x
      · rw [if_pos e, e]
        exact World.cell?_setCell_same _ _ _ hx
      · rw [if_neg e, World.cell?_setCell_other _ _ _ _ (fun c => e c.symm)]
        exact h5 a rfl i hi
  · obtain rfl : l = [] := List.eq_nil_of_length_eq_zero (by omega)
    exact ⟨[], rfl, by simp, oa, c, rfl, h2, h3, h4, fun a _ i hi => by simp at hi⟩
/-- n rows of N bytes each, in memory of bytes from base on. -/
def OwnN (base : Nat) (w : World) (us : List Value) (n N : Nat) : Prop := ∀ i, i < n → (∃ l, l.length = N ∧ Bs w (us.getD i undef) l) ∧ Rn base w (us.getD i undef)
theorem OwnN.poke {base n N : Nat} {w : World} {us : List Value} (h : OwnN base w us n N) {x : Addr} {y : Value} {cur : Array Value} (hx : w.cell? x = some y) (hc : w.heap[x.block]? = some (.cells cur 5 (0, 0))) : OwnN base (w.setCell x (.int .u8 0)) us n N := fun i hi => by
  obtain ⟨⟨l, h1, h2⟩, h3⟩ := h i hi
  obtain ⟨l', h4, h5⟩ := h2.poke hx 0 (by unfold Byt; omega)
  refine ⟨⟨l', by rw [h4, h1], h5⟩, fun a m c e hm => ?_⟩
  obtain ⟨h6, cur', h7⟩ := h3 a m c e hm
  refine ⟨h6, ?_⟩
  by_cases e2 : a.block = x.block
  · rw [e2]
    simp only [World.setCell, Array.getElem?_modify, if_true, hc]
    exact ⟨_, rfl⟩
  · exact ⟨cur', by rw [heap_setCell_other _ _ _ _ e2]; exact h7⟩
/-- Rows of one's own, made since W, are overwritten. -/
structure Zeroing (W wr : World) (us : List Value) (g H N : Nat) : Prop where
  own : OwnN W.heap.size wr us H N
  cell : ∀ i, i < H → wr.cell? ⟨g, i, none⟩ = some (us.getD i undef)
  row : ∃ cur, wr.heap[g]? = some (.cells cur 24 (0, 0))
  gr : Gr W wr
theorem Zeroing.at {W wr : World} {us : List Value} {g H N : Nat} (h : Zeroing W wr us g H N) {i j : Nat} (hi : i < H) (hj : j < N) : ∃ a c v cur, us.getD i undef = .slice (some a) N c ∧ N ≤ c ∧ wr.cell? (a.add j) = some v ∧ wr.frozen? (a.add j) = false ∧ wr.heap[(a.add j).block]? = some (.cells cur 5 (0, 0)) ∧ W.heap.size ≤ (a.add j).block := by
  obtain ⟨⟨l, hl, hb⟩, hr⟩ := h.own i hi
  obtain ⟨a, c, h1, h2, h3, h4⟩ := Bs.at hb (by omega)
  rw [hl] at h1 h2 h4
  obtain ⟨h5, cur, h6⟩ := hr a N c h1 (by omega)
  have hab : (a.add j).block = a.block := by
    unfold Addr.add
    split <;> rfl
  refine ⟨a, c, _, cur, h1, h2, h4 j hj, ?_, by rw [hab]; exact h6, by rw [hab]; exact h5⟩
  unfold World.frozen?
  rw [hab, h6]
  simp
theorem Zeroing.poke {W wr : World} {us : List Value} {g H N : Nat} (h : Zeroing W wr us g H N) {x : Addr} {v : Value} {cur : Array Value} (hx : wr.cell? x = some v) (hc : wr.heap[x.block]? = some (.cells cur 5 (0, 0))) (hb : W.heap.size ≤ x.block) : Zeroing W (wr.setCell x (.int .u8 0)) us g H N := by
  obtain ⟨cur', h1⟩ := h.row
  have hne : g ≠ x.block := fun e => by
    rw [e, hc] at h1
    simp at h1
  refine ⟨h.own.poke hx hc, fun i hi => ?_, ⟨cur', by rw [heap_setCell_other _ _ _ _ hne]; exact h1⟩, Gr.setCell h.gr hb _⟩
  rw [World.cell?_setCell_other _ _ _ _ (fun e => hne (by rw [e]))]
  exact h.cell i hi
end Go.Proofs.Ytmbikmlknbinpaa
namespace Go.Proofs.Ytmbikmlknbinpaa
open Go.RowKit

namespace Crc
theorem xor_eq {a b : Nat} (h : a ^^^ b = 0) : a = b := by
  have h1 : a ^^^ b ^^^ b = 0 ^^^ b := by rw [h]
  rwa [Nat.xor_assoc, Nat.xor_self, Nat.xor_zero, Nat.zero_xor] at h1
theorem xor_back (a b : Nat) : a ^^^ (a ^^^ b) = b := by rw [← Nat.xor_assoc, Nat.xor_self, Nat.zero_xor]
def step (c : Nat) : Nat := if c % 2 = 1 then (c / 2) ^^^ 3988292384 else c / 2
def it : Nat → Nat → Nat
  | 0, c => c
  | n + 1, c => step (it n c)
theorem xor_two (a b : Nat) : (a ^^^ b) % 2 = (a % 2) ^^^ (b % 2) := by
  have h := @Nat.xor_mod_two_pow a b 1
  simpa using h
theorem xor_half (a b : Nat) : (a ^^^ b) / 2 = (a / 2) ^^^ (b / 2) := by
  have h := @Nat.xor_div_two_pow a b 1
  simpa using h
theorem step_xor (a b : Nat) : step (a ^^^ b) = step a ^^^ step b := by
  unfold step
  rw [xor_half, xor_two]
  rcases Nat.mod_two_eq_zero_or_one a with ha | ha <;> rcases Nat.mod_two_eq_zero_or_one b with hb | hb <;> simp [ha, hb]
  · ac_rfl
  · ac_rfl
  · rw [Nat.xor_assoc, ← Nat.xor_assoc 3988292384, Nat.xor_comm 3988292384, Nat.xor_assoc (b / 2), Nat.xor_self, Nat.xor_zero]
theorem step_lt {c : Nat} (h : c < 4294967296) : step c < 4294967296 := by
  unfold step
  split
  · exact Nat.xor_lt_two_pow (n := 32) (by omega) (by omega)
  · omega
theorem step_zero : step 0 = 0 := rfl
theorem step_inj {c : Nat} (h : c < 4294967296) (hz : step c = 0) : c = 0 := by
  unfold step at hz
  split at hz
  · have e : c / 2 = 3988292384 := by
      have h1 : c / 2 ^^^ 3988292384 ^^^ 3988292384 = 0 ^^^ 3988292384 := by rw [hz]
      rwa [Nat.xor_assoc, Nat.xor_self, Nat.xor_zero, Nat.zero_xor] at h1
    omega
  · omega
theorem it_xor (n a b : Nat) : it n (a ^^^ b) = it n a ^^^ it n b := by
  induction n with
  | zero => rfl
  | succ n ih => show step _ = step _ ^^^ step _; rw [ih, step_xor]
theorem it_zero (n : Nat) : it n 0 = 0 := by
  induction n with
  | zero => rfl
  | succ n ih => show step _ = 0; rw [ih]; rfl
theorem it_lt {c : Nat} (h : c < 4294967296) (n : Nat) : it n c < 4294967296 := by
  induction n with
  | zero => exact h
  | succ n ih => exact step_lt ih
theorem it_inj0 {c : Nat} (h : c < 4294967296) (n : Nat) (hz : it n c = 0) : c = 0 := by
  induction n with
  | zero => exact hz
  | succ n ih => exact ih (step_inj (it_lt h n) hz)
theorem it_add (m n c : Nat) : it (m + n) c = it m (it n c) := by
  induction m with
  | zero => rw [Nat.zero_add]; rfl
  | succ m ih => rw [Nat.add_right_comm]; show step _ = step _; rw [ih]
theorem it_shift (n x : Nat) : it n (x * 2 ^ n) = x := by
  induction n with
  | zero => simp [it]
  | succ n ih =>
    rw [it_add n 1]
    have : it 1 (x * 2 ^ (n + 1)) = x * 2 ^ n := by
      show step (x * 2 ^ (n + 1)) = _
      unfold step
      have e : x * 2 ^ (n + 1) = 2 * (x * 2 ^ n) := by rw [Nat.pow_succ]; ac_rfl
      rw [e, if_neg (by omega)]
      omega
    rw [this, ih]
theorem it_inj {a b : Nat} (ha : a < 4294967296) (hb : b < 4294967296) (n : Nat) (h : it n a = it n b) : a = b := by
  have h1 : it n (a ^^^ b) = 0 := by rw [it_xor, h, Nat.xor_self]
  have h2 := it_inj0 (Nat.xor_lt_two_pow (n := 32) ha hb) n h1
  exact xor_eq h2
/-- Bits, one by one. -/
def ser (c : Nat) (f : Nat → Nat) : Nat → Nat
  | 0 => c
  | n + 1 => step (ser c f n ^^^ f n)
def val (f : Nat → Nat) : Nat → Nat
  | 0 => 0
  | n + 1 => val f n ^^^ (f n * 2 ^ n)
theorem ser_val (c : Nat) (f : Nat → Nat) (n : Nat) : ser c f n = it n (c ^^^ val f n) := by
  induction n with
  | zero => simp [ser, it, val]
  | succ n ih =>
    show step _ = step _
    rw [ih]
    show _ = step (it n (c ^^^ (val f n ^^^ f n * 2 ^ n)))
    rw [← Nat.xor_assoc, it_xor n (c ^^^ val f n), it_shift]
theorem val_lt {f : Nat → Nat} (h : ∀ i, f i < 2) (n : Nat) : val f n < 2 ^ n := by
  induction n with
  | zero => simp [val]
  | succ n ih =>
    refine Nat.xor_lt_two_pow (Nat.lt_of_lt_of_le ih (Nat.pow_le_pow_right (by omega) (by omega))) ?_
    have := h n
    rw [Nat.pow_succ]
    have : f n * 2 ^ n ≤ 1 * 2 ^ n := Nat.mul_le_mul_right _ (by omega)
    have : 0 < 2 ^ n := Nat.pow_pos (by omega)
    omega
theorem val_zero {f : Nat → Nat} (h : ∀ i, f i < 2) (n : Nat) (hz : val f n = 0) : ∀ i, i < n → f i = 0 := by
  induction n with
  | zero => intro i hi; omega
  | succ n ih =>
    have e : val f n = f n * 2 ^ n := xor_eq hz
    have hl := val_lt h n
    have h0 : f n = 0 := by
      rcases Nat.lt_or_ge 0 (f n) with h1 | h1
      · have : 1 * 2 ^ n ≤ f n * 2 ^ n := Nat.mul_le_mul_right _ h1
        omega
      · omega
    rw [h0, Nat.zero_mul] at e
    intro i hi
    rcases Nat.lt_or_ge i n with h1 | h1
    · exact ih e i h1
    · obtain rfl : i = n := by omega
      exact h0
theorem ser_add (c : Nat) (f : Nat → Nat) (m n : Nat) : ser c f (m + n) = ser (ser c f m) (fun i => f (m + i)) n := by
  induction n with
  | zero => rfl
  | succ n ih => show step (ser c f (m + n) ^^^ f (m + n)) = step _; rw [ih]
theorem ser_congr {c : Nat} {f g : Nat → Nat} {n : Nat} (h : ∀ i, i < n → f i = g i) : ser c f n = ser c g n := by
  induction n with
  | zero => rfl
  | succ n ih => show step _ = step _; rw [ih fun i hi => h i (by omega), h n (by omega)]
theorem ser_xor (a b : Nat) (f g : Nat → Nat) (n : Nat) : ser (a ^^^ b) (fun i => f i ^^^ g i) n = ser a f n ^^^ ser b g n := by
  induction n with
  | zero => rfl
  | succ n ih =>
    show step (ser (a ^^^ b) (fun i => f i ^^^ g i) n ^^^ (f n ^^^ g n)) = step (ser a f n ^^^ f n) ^^^ step (ser b g n ^^^ g n)
    rw [ih, ← step_xor]
    congr 1
    ac_rfl
theorem ser_noughts (c : Nat) (n : Nat) : ser c (fun _ => 0) n = it n c := by
  induction n with
  | zero => rfl
  | succ n ih => show step _ = step _; rw [ih, Nat.xor_zero]
/-- A burst: what it leaves is nothing only if it is nothing. -/
theorem burst {e : Nat → Nat} (h : ∀ i, e i < 2) (at' n : Nat) (h0 : ∀ i, i < at' → e i = 0) (h1 : ∀ i, at' + 32 ≤ i → e i = 0) (hz : ser 0 e n = 0) : ∀ i, i < n → e i = 0 := by
  rcases Nat.lt_or_ge at' n with hl | hl
  · obtain ⟨t, rfl⟩ : ∃ t, n = at' + t := ⟨n - at', by omega⟩
    rw [ser_add, ser_congr (g := fun _ => 0) h0, ser_noughts, it_zero] at hz
    have key : ∀ i, i < t → i < 32 → e (at' + i) = 0 := by
      rcases Nat.lt_or_ge 32 t with ht | ht
      · obtain ⟨r, rfl⟩ : ∃ r, t = 32 + r := ⟨t - 32, by omega⟩
        rw [ser_add, ser_congr (g := fun _ => 0) (n := r) (fun i _ => h1 _ (by omega)), ser_noughts, ser_val, Nat.zero_xor, ← it_add] at hz
        have hv : val (fun i => e (at' + i)) 32 < 2 ^ 32 := val_lt (fun i => h _) 32
        have := val_zero (fun i => h _) 32 (it_inj0 (by omega) _ hz)
        exact fun i _ hi => this i hi
      · rw [ser_val, Nat.zero_xor] at hz
        have hv : val (fun i => e (at' + i)) t < 2 ^ t := val_lt (fun i => h _) t
        have hp : 2 ^ t ≤ 2 ^ 32 := Nat.pow_le_pow_right (by omega) ht
        have := val_zero (fun i => h _) t (it_inj0 (by omega) _ hz)
        exact fun i hi _ => this i hi
    intro i hi
    rcases Nat.lt_or_ge i at' with h2 | h2
    · exact h0 i h2
    · obtain ⟨j, rfl⟩ : ∃ j, i = at' + j := ⟨i - at', by omega⟩
      rcases Nat.lt_or_ge j 32 with h3 | h3
      · exact key j (by omega) h3
      · exact h1 _ (by omega)
  · exact fun i hi => h0 i (by omega)
/-- Bytes, one by one. -/
def run (c : Nat) (l : List Int) : Nat := l.foldl (fun c b => it 8 (c ^^^ b.toNat)) c
def sum (l : List Int) : Nat := run 4294967295 l ^^^ 4294967295
def bitL (l : List Int) (k : Nat) : Nat := (l.getD (k / 8) 0).toNat / 2 ^ (k % 8) % 2
theorem bitL_lt (l : List Int) (k : Nat) : bitL l k < 2 := Nat.mod_lt _ (by omega)
theorem run_cons (c : Nat) (b : Int) (l : List Int) : run c (b :: l) = run (it 8 (c ^^^ b.toNat)) l := by unfold run; rw [List.foldl_cons]
theorem run_append (c : Nat) (l m : List Int) : run c (l ++ m) = run (run c l) m := by unfold run; rw [List.foldl_append]
theorem run_lt {l : List Int} : ∀ (c : Nat), c < 4294967296 → (∀ x ∈ l, Byt x) → run c l < 4294967296 := by
  induction l with
  | nil => exact fun c h _ => h
  | cons b l ih =>
    intro c h hb
    have h1 : Byt b := hb b (by simp)
    unfold Byt at h1
    rw [run_cons]
    exact ih _ (it_lt (Nat.xor_lt_two_pow (n := 32) h (by omega)) 8) fun x hx => hb x (by simp [hx])
theorem sum_lt {l : List Int} (hb : ∀ x ∈ l, Byt x) : sum l < 4294967296 := Nat.xor_lt_two_pow (n := 32) (run_lt _ (by omega) hb) (by omega)
theorem val_byte : ∀ b, b < 256 → val (fun i => b / 2 ^ i % 2) 8 = b := by decide +kernel
theorem run_ser : ∀ (l : List Int) (c : Nat), (∀ x ∈ l, Byt x) → run c l = ser c (bitL l) (8 * l.length)
  | [], _, _ => rfl
  | b :: l, c, hb => by
    have h1 : Byt b := hb b (by simp)
    unfold Byt at h1
    rw [run_cons, run_ser l _ fun x hx => hb x (by simp [hx]), List.length_cons, show 8 * (l.length + 1) = 8 + 8 * l.length from by omega, ser_add]
    have e1 : ser c (bitL (b :: l)) 8 = it 8 (c ^^^ b.toNat) := by
      rw [ser_congr (g := fun i => b.toNat / 2 ^ i % 2) fun i hi => by unfold bitL; rw [Nat.div_eq_of_lt hi, Nat.mod_eq_of_lt hi]; rfl, ser_val, val_byte _ (by omega)]
    rw [e1]
    refine ser_congr fun i _ => ?_
    unfold bitL
    rw [show (8 + i) / 8 = i / 8 + 1 from by omega, show (8 + i) % 8 = i % 8 from by omega]
    rfl
/-- Two lists whose bits differ by e. -/
theorem run_turned {x y : List Int} {e : Nat → Nat} (c : Nat) (hx : ∀ b ∈ x, Byt b) (hy : ∀ b ∈ y, Byt b) (hl : y.length = x.length) (h : ∀ k, k < 8 * x.length → bitL y k = bitL x k ^^^ e k) :
    run c y = run c x ^^^ ser 0 e (8 * x.length) := by
  rw [run_ser x c hx, run_ser y c hy, hl, ← ser_xor, Nat.xor_zero]
  exact ser_congr h
/-- Four bytes, the lowest first. -/
def low4 (s : Nat) : List Int := [((s % 256 : Nat) : Int), ((s / 256 % 256 : Nat) : Int), ((s / 65536 % 256 : Nat) : Int), ((s / 16777216 % 256 : Nat) : Int)]
theorem low4_byt (s : Nat) : ∀ x ∈ low4 s, Byt x := by
  intro x hx
  simp only [low4, List.mem_cons, List.not_mem_nil, or_false] at hx
  unfold Byt
  omega
theorem add_xor {a : Nat} (b n : Nat) (h : a < 2 ^ n) : b * 2 ^ n + a = a ^^^ (b * 2 ^ n) := by
  apply Nat.eq_of_testBit_eq
  intro k
  rw [Nat.mul_comm b, Nat.testBit_two_pow_mul_add _ h, Nat.testBit_xor, Nat.testBit_two_pow_mul]
  by_cases hk : k < n
  · simp [hk, show ¬ n ≤ k from by omega]
  · have : a < 2 ^ k := Nat.lt_of_lt_of_le h (Nat.pow_le_pow_right (by omega) (by omega))
    simp [hk, show n ≤ k from by omega, Nat.testBit_lt_two_pow this]
theorem val_bits (s n : Nat) : val (fun i => s / 2 ^ i % 2) n = s % 2 ^ n := by
  induction n with
  | zero => simp [val, Nat.mod_one]
  | succ n ih =>
    show val _ n ^^^ (s / 2 ^ n % 2 * 2 ^ n) = _
    rw [ih, ← add_xor _ _ (Nat.mod_lt _ (Nat.pow_pos (by omega))), Nat.pow_succ, Nat.mod_mul, Nat.mul_comm (s / 2 ^ n % 2), Nat.add_comm]
theorem bit_low4 (s i : Nat) (h : i < 32) : bitL (low4 s) i = s / 2 ^ i % 2 := by
  have hj : i / 8 = 0 ∨ i / 8 = 1 ∨ i / 8 = 2 ∨ i / 8 = 3 := by omega
  have hr : i % 8 = 0 ∨ i % 8 = 1 ∨ i % 8 = 2 ∨ i % 8 = 3 ∨ i % 8 = 4 ∨ i % 8 = 5 ∨ i % 8 = 6 ∨ i % 8 = 7 := by omega
  obtain ⟨j, r, ej, er, ei⟩ : ∃ j r, i / 8 = j ∧ i % 8 = r ∧ i = 8 * j + r := ⟨_, _, rfl, rfl, by omega⟩
  unfold bitL
  rw [ej] at hj ⊢
  rw [er] at hr ⊢
  rw [ei]
  clear ej er h ei
  rcases hj with rfl | rfl | rfl | rfl <;> rcases hr with rfl | rfl | rfl | rfl | rfl | rfl | rfl | rfl <;> simp [low4] <;> omega
theorem run_low4 (c : Nat) {s : Nat} (h : s < 4294967296) : run c (low4 s) = it 32 (c ^^^ s) := by
  rw [run_ser _ _ (low4_byt s), show 8 * (low4 s).length = 32 from rfl, ser_congr (g := fun i => s / 2 ^ i % 2) (bit_low4 s), ser_val, val_bits, Nat.mod_eq_of_lt (by omega)]
/-- Bytes with their sum behind them have one sum. -/
theorem sum_behind {l : List Int} (hb : ∀ x ∈ l, Byt x) : sum (l ++ low4 (sum l)) = 558161692 := by
  have h := run_low4 (run 4294967295 l) (sum_lt hb)
  rw [← run_append, show sum l = run 4294967295 l ^^^ 4294967295 from rfl, xor_back] at h
  show run 4294967295 (l ++ low4 (run 4294967295 l ^^^ 4294967295)) ^^^ 4294967295 = 558161692
  rw [h]
  decide +kernel
/-- What stands behind bytes is their sum just if all together leave what they do then. -/
theorem behind_iff {p : List Int} {v : Nat} (hb : ∀ x ∈ p, Byt x) (hv : v < 4294967296) : run 4294967295 (p ++ low4 v) = it 32 4294967295 ↔ v = sum p := by
  rw [run_append, run_low4 _ hv]
  have hr := run_lt (l := p) 4294967295 (by omega) hb
  constructor
  · intro h
    have h1 := it_inj (Nat.xor_lt_two_pow (n := 32) hr hv) (by omega) 32 h
    have h2 : run 4294967295 p ^^^ (run 4294967295 p ^^^ v) = run 4294967295 p ^^^ 4294967295 := by rw [h1]
    rw [xor_back] at h2
    exact h2
  · intro h
    rw [h, show sum p = run 4294967295 p ^^^ 4294967295 from rfl, xor_back]
theorem low4_word : ∀ b0 b1 b2 b3 : Int, Byt b0 → Byt b1 → Byt b2 → Byt b3 → low4 (b0.toNat + 256 * b1.toNat + 65536 * b2.toNat + 16777216 * b3.toNat) = [b0, b1, b2, b3] := by
  intro b0 b1 b2 b3 h0 h1 h2 h3
  unfold Byt at *
  unfold low4
  simp only [List.cons.injEq, and_true]
  omega
/-- Exclusive ors of lists as long as one another. -/
def xorL (l m : List Int) : List Int := List.zipWith (fun x y => ((x.toNat ^^^ y.toNat : Nat) : Int)) l m
theorem xorL_cons (x y : Int) (l m : List Int) : xorL (x :: l) (y :: m) = ((x.toNat ^^^ y.toNat : Nat) : Int) :: xorL l m := rfl
theorem run_xor {l : List Int} : ∀ (m : List Int) (a b : Nat), l.length = m.length → run (a ^^^ b) (xorL l m) = run a l ^^^ run b m := by
  induction l with
  | nil =>
    intro m a b h
    cases m with
    | nil => rfl
    | cons y m => simp at h
  | cons x l ih =>
    intro m a b h
    cases m with
    | nil => simp at h
    | cons y m =>
      rw [xorL_cons, run_cons, run_cons, run_cons, ← ih m _ _ (by simpa using h), ← it_xor, Int.toNat_natCast]
      have : a ^^^ b ^^^ (x.toNat ^^^ y.toNat) = a ^^^ x.toNat ^^^ (b ^^^ y.toNat) := by ac_rfl
      rw [this]
theorem sum_three {l m n : List Int} (h1 : l.length = m.length) (h2 : l.length = n.length) : sum (xorL (xorL l m) n) = sum l ^^^ sum m ^^^ sum n := by
  unfold sum
  have hl : (xorL l m).length = n.length := by simp [xorL, ← h1, h2]
  have e := run_xor n (4294967295 ^^^ 4294967295) 4294967295 hl
  rw [run_xor m _ _ h1] at e
  rw [show (4294967295 ^^^ 4294967295 ^^^ 4294967295 : Nat) = 4294967295 from by decide] at e
  rw [e]
  have : ∀ a b c F : Nat, a ^^^ b ^^^ c ^^^ F = a ^^^ F ^^^ (b ^^^ F) ^^^ (c ^^^ F) := by
    intro a b c F
    have e1 : a ^^^ F ^^^ (b ^^^ F) ^^^ (c ^^^ F) = a ^^^ b ^^^ c ^^^ F ^^^ (F ^^^ F) := by ac_rfl
    rw [e1, Nat.xor_self, Nat.xor_zero]
  exact this _ _ _ _
theorem sum_nine : sum [49, 50, 51, 52, 53, 54, 55, 56, 57] = 3421780262 := by decide +kernel
end Crc
end Go.Proofs.Ytmbikmlknbinpaa
namespace Go.Proofs.Ytmbikmlknbinpaa
open Go.RowKit

theorem Bs.form5 {w : World} {v : Value} {l : List Int} (h : Bs w v l) : ∃ oa c, v = .slice oa l.length c := by
  obtain ⟨_, oa, c, h, _⟩ := h
  exact ⟨oa, c, h⟩
/-- A part of bytes. -/
theorem Bs.mid5 {w : World} {m c : Nat} {ad : Addr} {l : List Int} (h : Bs w (.slice (some ad) m c) l) (i k : Nat) (hik : i + k ≤ m) : Bs w (.slice (if c = i then some ad else some (ad.add i)) k (c - i)) ((l.drop i).take k) := by
  obtain ⟨h0, oa, c', he, h2, h3, h4, h5⟩ := h
  obtain ⟨ho, hm, rfl⟩ : some ad = oa ∧ m = l.length ∧ c = c' := by simpa using he
  have hl : ((l.drop i).take k).length = k := by rw [List.length_take, List.length_drop]; omega
  refine ⟨fun x hx => h0 x (List.mem_of_mem_drop (List.mem_of_mem_take hx)), _, c - i, by rw [hl], by rw [hl]; omega, by omega, (fun e => by split at e <;> cases e), fun a ha2 j hj => ?_⟩
  rw [hl] at hj
  rw [if_neg (by omega)] at ha2
  cases ha2
  rw [Go.Addr.add_add, List.getD_eq_getElem?_getD, List.getElem?_take_of_lt hj, List.getElem?_drop, ← List.getD_eq_getElem?_getD]
  exact h5 ad ho.symm (i + j) (by omega)
theorem Bs.pre5 {w : World} {m c : Nat} {o : Option Addr} {l : List Int} (h : Bs w (.slice o m c) l) (k : Nat) (hk : k ≤ m) : Bs w (.slice o k c) (l.take k) := by
  obtain ⟨h0, oa, c', he, h2, h3, h4, h5⟩ := h
  obtain ⟨ho, hm, rfl⟩ : o = oa ∧ m = l.length ∧ c = c' := by simpa using he
  have hl : (l.take k).length = k := by rw [List.length_take]; omega
  refine ⟨fun x hx => h0 x (List.mem_of_mem_take hx), oa, c, by rw [hl, ho], by rw [hl]; omega, by omega, h4, fun a ha2 j hj => ?_⟩
  rw [hl] at hj
  rw [List.getD_eq_getElem?_getD, List.getElem?_take_of_lt hj, ← List.getD_eq_getElem?_getD]
  exact h5 a ha2 j (by omega)
theorem Bs.parts5 {w : World} {m c : Nat} {o : Option Addr} {l : List Int} (h : Bs w (.slice o m c) l) : m ≤ c ∧ c ≤ 9223372036854775807 := by
  obtain ⟨h0, oa, c', he, h2, h3, h4, h5⟩ := h
  obtain ⟨ho, hm, rfl⟩ : o = oa ∧ m = l.length ∧ c = c' := by simpa using he
  exact ⟨by omega, h3⟩
theorem Bs.none5 {w : World} {m c : Nat} {l : List Int} (h : Bs w (.slice none m c) l) : m = 0 ∧ c = 0 := by
  obtain ⟨h0, oa, c', he, h2, h3, h4, h5⟩ := h
  obtain ⟨ho, hm, rfl⟩ : none = oa ∧ m = l.length ∧ c = c' := by simpa using he
  have := h4 ho.symm
  omega
/-- The contract of package crc, in every world that grows out of W0 (in which the package-level variables are laid). -/
structure CrcOk (W0 : World) : Prop where
theorem u32_odd (c : Nat) (h : c < 4294967296) : bits BinOp.and IntKind.u32 (c : Int) 1 = ((c % 2 : Nat) : Int) := by
  have := u32_and_nat c 1 h (by omega)
  rw [Nat.and_one_is_mod] at this
  exact this
theorem u32_turn (c : Nat) (h : c < 4294967296) : bits BinOp.xor IntKind.u32 ((c : Int) / 2) 3988292384 = ((c / 2 ^^^ 3988292384 : Nat) : Int) := by
  have := u32_xor_nat (c / 2) 3988292384 (by omega) (by omega)
  exact this
theorem u32_not (c : Nat) (h : c < 4294967296) : bits BinOp.xor IntKind.u32 IntKind.u32.max (c : Int) = ((c ^^^ 4294967295 : Nat) : Int) := by
  have := u32_xor_nat 4294967295 c (by omega) h
  rw [Nat.xor_comm] at this
  exact this
theorem Crc.getD_byt {l : List Int} (h : ∀ x ∈ l, Byt x) (i : Nat) : Byt (l.getD i 0) := by
  by_cases hi : i < l.length
  · rw [List.getD_eq_getElem?_getD, List.getElem?_eq_getElem hi]
    exact h _ (List.getElem_mem hi)
  · rw [List.getD_eq_getElem?_getD, List.getElem?_eq_none (by omega)]
    exact ⟨by decide, by decide⟩
theorem Crc.run_take {l : List Int} {n i : Nat} (hn : l.length = n) (hi : i < n) (c : Nat) : Crc.run c (l.take (i + 1)) = Crc.it 8 (Crc.run c (l.take i) ^^^ (l.getD i 0).toNat) := by
  rw [List.take_add_one, List.getElem?_eq_getElem (by omega), Crc.run_append, List.getD_eq_getElem?_getD, List.getElem?_eq_getElem (by omega)]
  rfl
end Go.Proofs.Ytmbikmlknbinpaa
