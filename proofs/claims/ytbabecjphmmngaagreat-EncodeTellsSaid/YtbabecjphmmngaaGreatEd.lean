/-
  Package encode as it was written: how a Block lies in memory; Mid, Symbol.
-/
import Derived.Test.YtbabecjphmmngaaGreatEc
import Derived.Test.YtbabecjphmmngaaGreatMgk
namespace Go.Proofs.YtbabecjphmmngaaGreat
open Go.RowKit

/-- How a Block lies: all that was laid between b and the end of w0 is as it was in w0. -/
def BAt (w : World) (y : Value) (F : Nat → Prop) (K H S seed : Nat) (M : List (List Int)) : Prop :=
  ∃ (b : Nat) (w0 : World) (g : Nat) (o : Option Addr) (c : Nat), (∀ k, F k ↔ b ≤ k ∧ k < w0.heap.size) ∧ w0.heap.size ≤ w.heap.size ∧ (∀ k, F k → w.heap[k]? = w0.heap[k]?) ∧ y = .pointer (some ⟨g, 0, none⟩) ∧ b ≤ g ∧
    w0.heap[g]? = some (.cells #[.int .i64 (K : Int), .int .i64 (H : Int), .int .i64 (S : Int), .int .u32 (seed : Int), .slice o M.length c] 60 (0, 0)) ∧ RwsN b w0 (.slice o M.length c) M
theorem Rn.over {b : Nat} {w w0 : World} {u : Value} (h : Rn b w0 u) (hk : ∀ k, b ≤ k → k < w0.heap.size → w.heap[k]? = w0.heap[k]?) : Rn b w u := fun a n c e hn => by
  obtain ⟨h1, cur, h2⟩ := h a n c e hn
  exact ⟨h1, cur, by rw [hk _ h1 (Array.getElem?_eq_some_iff.1 h2).1]; exact h2⟩
theorem Bs.over {b : Nat} {w w0 : World} {u : Value} {l : List Int} (h : Bs w0 u l) (hn : Rn b w0 u) (hk : ∀ k, b ≤ k → k < w0.heap.size → w.heap[k]? = w0.heap[k]?) : Bs w u l := by
  obtain ⟨h0, oa, c, rfl, h2, h3, h4, h5⟩ := h
  refine ⟨h0, oa, c, rfl, h2, h3, h4, fun a ha i hi => ?_⟩
  subst ha
  obtain ⟨q1, cur, q2⟩ := hn a _ _ rfl (by omega)
  have hc := h5 a rfl i hi
  have hbl : (a.add i).block = a.block := by unfold Addr.add; split <;> rfl
  rw [World.cell?_of_block (w := w0) (w' := w) (a := a.add i) (by rw [hbl]; exact hk _ q1 (Array.getElem?_eq_some_iff.1 q2).1)]
  exact hc
theorem RwsN.over {b : Nat} {w w0 : World} {v : Value} {L : List (List Int)} (h : RwsN b w0 v L) (hk : ∀ k, b ≤ k → k < w0.heap.size → w.heap[k]? = w0.heap[k]?) : RwsN b w v L := by
  obtain ⟨us, ho, hr⟩ := h
  refine ⟨us, ?_, fun i hi => ⟨(hr i hi).1.over (hr i hi).2 hk, (hr i hi).2.over hk⟩⟩
  obtain ⟨h1, h2 | ⟨g, c, cur, q1, q2, q3, q4⟩⟩ := ho
  · exact ⟨h1, .inl h2⟩
  · exact ⟨h1, .inr ⟨g, c, cur, q1, q2, by rw [hk _ q2 (Array.getElem?_eq_some_iff.1 q3).1]; exact q3, q4⟩⟩
theorem bss_oneE {W : World} {u : Value} {r : List Int} (hb : Bs W u r) : Bss (W.alloc (.cells #[u] 25)) (.slice (some ⟨W.heap.size, 0, none⟩) 1 1) [r] :=
  ⟨some ⟨W.heap.size, 0, none⟩, 1, rfl, by simp, by omega, (fun h => by cases h), fun a ha i hi => by
    cases ha
    obtain rfl : i = 0 := by simpa using hi
    exact ⟨u, by rw [Addr.add_mid, cell_of_row _ _ 0 _ _ _ (heap_alloc_new _ _)]; rfl, Bs.grown hb (Gr.alloc (Gr.refl _) _ _)⟩⟩
theorem Nr.form {base : Nat} {w : World} {v : Value} {l : List Int} (h : Nr base w v l) : ∃ o m c, v = .slice o m c := by
  obtain ⟨_, ⟨rfl, oa, c, rfl, _⟩ | ⟨g, c, cur, rfl, _⟩⟩ := h
  · exact ⟨_, _, _, rfl⟩
  · exact ⟨_, _, _, rfl⟩
/-- What a row comes to is the symbol. -/
theorem mul_symE {K H S seed : Nat} {M O : List (List Int)} {id : Int} (hm : MayP K H S) (hM : Wide S M) (hl : M.length = K + H) (hi : MayI id) (ho : IsMul (wd M) [rowP K H S seed id] M O) : O.getD 0 [] = symP K H S seed M id := by
  have hk : 1 ≤ K + H := by unfold MayP at hm; omega
  rw [hM.wd (by omega)] at ho
  have hs := sym_is hm hM hl hi (seed := seed)
  have hO : O.length = 1 := by rw [ho.length]; rfl
  have h0 := ho.1.at 0 (by omega)
  refine vec_inj (by rw [h0.1, hs.1]) h0.2 hs.2.1 ?_
  rw [hs.2.2]
  exact (mul_at ho (i := 0) (by simp)).symm
theorem BAt.ptr {w : World} {y : Value} {F : Nat → Prop} {K H S seed : Nat} {M : List (List Int)} (h : BAt w y F K H S seed M) : ∃ a, y = .pointer (some a) := by
  obtain ⟨b, w0, g, o, c, _, _, _, rfl, _⟩ := h
  exact ⟨_, rfl⟩
theorem BAt.lt {w : World} {y : Value} {F : Nat → Prop} {K H S seed : Nat} {M : List (List Int)} (h : BAt w y F K H S seed M) (k : Nat) (hk : F k) : k < w.heap.size := by
  obtain ⟨b, w0, g, o, c, h1, h2, _⟩ := h
  have := (h1 k).1 hk
  omega
theorem BAt.keep {w w' : World} {y : Value} {F G : Nat → Prop} {K H S seed : Nat} {M : List (List Int)} (h : BAt w y F K H S seed M) (hk : Kp G w w') (hd : ∀ k, F k → ¬ G k) : BAt w' y F K H S seed M := by
  have hlt := h.lt
  obtain ⟨b, w0, g, o, c, h1, h2, h3, h4⟩ := h
  exact ⟨b, w0, g, o, c, h1, Nat.le_trans h2 hk.size, fun k hf => (hk.2.2.2.2 k (hlt k hf) (hd k hf)).trans (h3 k hf), h4⟩
/-- What a Block's cells hold. -/
theorem BAt.open {w : World} {y : Value} {F : Nat → Prop} {K H S seed : Nat} {M : List (List Int)} (h : BAt w y F K H S seed M) :
    ∃ g o c, y = .pointer (some ⟨g, 0, none⟩) ∧ w.heap[g]? = some (.cells #[.int .i64 (K : Int), .int .i64 (H : Int), .int .i64 (S : Int), .int .u32 (seed : Int), .slice o M.length c] 60 (0, 0)) ∧ Bss w (.slice o M.length c) M := by
  obtain ⟨b, w0, g, o, c, h1, h2, h3, rfl, h5, h6, h7⟩ := h
  have hk : ∀ k, b ≤ k → k < w0.heap.size → w.heap[k]? = w0.heap[k]? := fun k q1 q2 => h3 k ((h1 k).2 ⟨q1, q2⟩)
  exact ⟨g, o, c, rfl, by rw [hk g h5 (Array.getElem?_eq_some_iff.1 h6).1]; exact h6, (h7.over hk).bss⟩
set_option maxRecDepth 100000 in
set_option maxHeartbeats 400000 in
theorem midNil_any (w : World) : Calls Tryz.prog 14 #[.pointer none] w fun e w' => ∃ v, e = .returned v ∧ RwsN w.heap.size w' v [] ∧ Gr w w' := by
  go_enter Tryz.func14, Tryz.ntmps14
  go_wp2_with fail
  go_ret
  exact ⟨_, rfl, RwsN.nilM _ _, Gr.refl _⟩
set_option maxRecDepth 100000 in
set_option maxHeartbeats 400000 in
theorem symbolNil_any (id : Int) (w : World) : Calls Tryz.prog 16 #[.pointer none, .int .i64 id] w fun e w' => ∃ v, e = .returned v ∧ New w w' v [] := by
  go_enter Tryz.func16, Tryz.ntmps16
  go_wp2_with fail
  go_ret
  exact ⟨_, rfl, Gr.refl _, by simp, .inl ⟨rfl, none, 0, rfl, fun _ => rfl, by omega⟩⟩
set_option maxRecDepth 100000 in
set_option maxHeartbeats 1600000 in
theorem mid_any (y : Value) (F : Nat → Prop) (K H S seed : Nat) (M : List (List Int)) (w : World) (hm : MayP K H S) (hb : BAt w y F K H S seed M) (hM : Wide S M) (hl : M.length = K + H) :
    Calls Tryz.prog 14 #[y] w fun e w' => ∃ v, e = .returned v ∧ RwsN w.heap.size w' v M ∧ Gr w w' := by
  obtain ⟨gb, ob, cb, rfl, hrow, hbss⟩ := hb.open
  have hN : 1 ≤ K + H ∧ K + H ≤ 64 ∧ 1 ≤ S ∧ S ≤ 24 := by unfold MayP at hm; omega
  obtain ⟨d, hd⟩ : ∃ d, M.length = d := ⟨_, rfl⟩
  have HW := Lib.hid hM
  have HL := Lib.hid hd
  have h0 : 0 < d := by omega
  have hS24 : S ≤ 24 := hN.2.2.2
  have hd2 : d ≤ 64 := by omega
  obtain ⟨a, c', he, h1, h2, h3⟩ := Bss.at hbss (by omega)
  rw [hd] at he h1 h3 hrow
  obtain ⟨rfl, rfl⟩ : ob = some a ∧ cb = c' := by simpa using he
  have HA := Lib.hid h3
  have c4 : w.cell? ⟨gb, 4, none⟩ = some (.slice (some a) d cb) := by rw [cell_of_row _ _ 4 _ _ _ hrow]; rfl
  have hmk := make24 d d (by omega) (by omega)
  have hR : ∃ cur, cur = nils d := ⟨_, rfl⟩
  obtain ⟨cur, hcur⟩ := hR
  rw [← hcur] at hmk
  have HF0 : Hid (Fill w (w.alloc (.cells cur 25)) w.heap.size d (fun i l => l = M.getD i []) 0 (List.replicate d (.slice none 0 0)) (List.replicate d [])) := Lib.hid (by rw [hcur]; exact Fill.start w d (by omega) _)
  have c4' : (w.alloc (.cells cur 25)).cell? ⟨gb, 4, none⟩ = some (.slice (some a) d cb) := cell_grown (Gr.alloc (Gr.refl _) _ _) c4
  clear hb hbss hrow hl hM he h3 hcur hm hN
  go_enter Tryz.func14, Tryz.ntmps14
  go_wp2_with fail
  clear hmk c4 c4'
  generalize hW : w.alloc (.cells cur 25) = W at *
  generalize hG : w.heap.size = g2 at *
  go_loopw [19] (fun i wr => ∃ (j : Nat) (us : List Value) (L : List (List Int)), j ≤ d ∧ i = .int .i64 j ∧ Fill w wr g2 d (fun i l => l = M.getD i []) j us L ∧ ∀ t, t < j → Rn w.heap.size wr (us.getD t undef)) (fun i _ => d - (intOf i).toNat)
  case atStart => exact ⟨0, _, _, by omega, rfl, HF0.out, fun t ht => by omega⟩
  case round =>
    clear HF0
    obtain ⟨j, us, Lx, hj, rfl, hfl, hrn⟩ := hrel
    have FL := Lib.hid hfl
    have RN := Lib.hid hrn
    clear hfl hrn
    by_cases hlt : j < d
    · obtain ⟨u, q0, hu⟩ := HA.out j hlt
      have q1 := cell_grown FL.out.gr q0
      have hu1 := Bs.grown hu FL.out.gr
      have hwr := HW.out.at j (by rw [HL.out]; exact hlt)
      obtain ⟨ou, cu, rfl⟩ := hu1.form
      rw [hwr.1] at q1 hu1
      have HD := Lib.hid hu1
      have HLL : Hid ((M.getD j []).length = S) := Lib.hid hwr.1
      have qc := FL.out.cell j hlt
      have qf := FL.out.frozen j
      clear q0 hu hu1 hwr
      go_wp2_with (first | (go_at_call 30; refine (clone_any _ (M.getD j []) _ (by exact HD.out) (by rw [HLL.out]; omega)).mono ?_; rintro e w2 ⟨v2, rfl, hown2, hg2⟩; have NW := Lib.hid (New.of_row hg2 HD.out.1 hown2); rw [HLL.out] at hown2; obtain ⟨o2, c2, rfl⟩ := ownsRow_form hown2; have hc2 := cell_grown hg2 qc; have hf2 := frozen_grown hg2 qc qf; clear hown2 hg2))
      have hgs : w.heap.size ≤ wr.heap.size := FL.out.gr.size
      have hus : us.length = d := by have := FL.out.own.1; omega
      refine ⟨⟨j + 1, _, _, by omega, by go_num, (FL.out.grow NW.out.1).put hlt (New.bs NW.out) (New.rb NW.out _) rfl, fun t ht => ?_⟩, by simp [intOf]; omega⟩
      by_cases e : t = j
      · subst e
        rw [List.getD_eq_getElem?_getD, List.getElem?_set_self (by omega)]
        exact (New.rnM NW.out hgs).setM (FL.out.own.of_gr NW.out.1) _ _
      · rw [List.getD_eq_getElem?_getD, List.getElem?_set_ne (fun c => e c.symm), ← List.getD_eq_getElem?_getD]
        exact ((RN.out t (by omega)).grM NW.out.1).setM (FL.out.own.of_gr NW.out.1) _ _
    · obtain rfl : j = d := by omega
      go_wp2
      go_ret
      have hLM : Lx = M := List.ext_getElem (by rw [FL.out.len, HL.out]) fun i h1 h2 => by
        have := FL.out.is i (by rw [← FL.out.len]; exact h1)
        rw [List.getD_eq_getElem?_getD, List.getD_eq_getElem?_getD, List.getElem?_eq_getElem h1, List.getElem?_eq_getElem h2] at this
        exact this
      subst hLM
      subst hG
      refine ⟨_, rfl, ?_, FL.out.gr⟩
      exact ⟨us, by rw [FL.out.len]; exact FL.out.own, fun i hi => ⟨(FL.out.row i (by rw [← FL.out.len]; exact hi)).1, RN.out i (by rw [← FL.out.len]; exact hi)⟩⟩
set_option maxRecDepth 100000 in
set_option maxHeartbeats 1600000 in
theorem symbol_any (y : Value) (F : Nat → Prop) (K H S seed : Nat) (M : List (List Int)) (id : Int) (w : World) (hm : MayP K H S) (hs : seed < 4294967296) (hb : BAt w y F K H S seed M) (hM : Wide S M) (hl : M.length = K + H) (hid : I64 id) :
    Calls Tryz.prog 16 #[y, .int .i64 id] w fun e w' => ∃ v, e = .returned v ∧ New w w' v (symP K H S seed M id) := by
  obtain ⟨gb, ob, cb, rfl, hrow, hbss⟩ := hb.open
  have hN : 1 ≤ K + H ∧ K + H ≤ 64 ∧ 1 ≤ S ∧ S ≤ 24 := by unfold MayP at hm; omega
  have HB := Lib.hid hbss
  have HW := Lib.hid hM
  have HL := Lib.hid hl
  have HMP := Lib.hid hm
  have HID := Lib.hid hid
  have hr0 := rowP_len K H S seed id hm
  have HR0 := Lib.hid hr0
  have HROW := Lib.hid hrow
  have c0 : w.cell? ⟨gb, 0, none⟩ = some (.int .i64 (K : Int)) := by rw [cell_of_row _ _ 0 _ _ _ hrow]; rfl
  have c1 : w.cell? ⟨gb, 1, none⟩ = some (.int .i64 (H : Int)) := by rw [cell_of_row _ _ 1 _ _ _ hrow]; rfl
  have c2 : w.cell? ⟨gb, 2, none⟩ = some (.int .i64 (S : Int)) := by rw [cell_of_row _ _ 2 _ _ _ hrow]; rfl
  have c3 : w.cell? ⟨gb, 3, none⟩ = some (.int .u32 (seed : Int)) := by rw [cell_of_row _ _ 3 _ _ _ hrow]; rfl
  have c4 : w.cell? ⟨gb, 4, none⟩ = some (.slice ob M.length cb) := by rw [cell_of_row _ _ 4 _ _ _ hrow]; rfl
  generalize hml : M.length = m at *
  have HML := Lib.hid hml
  clear hb hbss hrow hl hM hm hid hr0 hml
  go_enter Tryz.func16, Tryz.ntmps16
  go_wp2_with fail
  go_region_held3 (fun W => W.cell? ⟨gb, 0, none⟩ = some (.int .i64 (K : Int)) ∧ W.cell? ⟨gb, 1, none⟩ = some (.int .i64 (H : Int)) ∧ W.cell? ⟨gb, 2, none⟩ = some (.int .i64 (S : Int)) ∧ W.cell? ⟨gb, 3, none⟩ = some (.int .u32 (seed : Int))) (first | exact ⟨k10, k11, k12, k13⟩ | go_keep)
    (first
      | (go_at_call 31; refine (row_lt K H S seed id _ hs).mono ?_; rintro e v1 ⟨y1, rfl, hn1⟩; obtain ⟨o1, m1, d1, rfl, hm1⟩ := New.formL hn1; have k10 := cell_grown hn1.1 (by exact c0); have k11 := cell_grown hn1.1 (by exact c1); have k12 := cell_grown hn1.1 (by exact c2); have k13 := cell_grown hn1.1 (by exact c3); have N1 := Lib.hid hn1; have HM1 := Lib.hid hm1; clear hn1 hm1))
  have c4 := cell_grown N1.out.1 c4
  have HB1 := Lib.hid (HB.out.grown N1.out.1)
  have HRW := Lib.hid (rowP_wide (K := K) (H := H) (S := (S : Int)) (id := id) HMP.out)
  clear c0 c1 c2 c3 k10 k11 k12 k13 HB HROW
  by_cases hi : MayI id
  · have hm1 : 0 < m1 := by
      have := HR0.out.1 hi
      have := HM1.out
      omega
    have HI := Lib.hid hi
    have hw1 := HRW.out hi seed
    have HW1 := Lib.hid hw1
    have HLR : Hid (m1 = K + H) := Lib.hid (by rw [HM1.out, hw1.1])
    have g2 : Gr v1 (v1.alloc (.cells #[.slice o1 m1 d1] 25)) := Gr.alloc (Gr.refl _) _ _
    have c4a := cell_grown g2 c4
    have HA2 : Hid (Bss (v1.alloc (.cells #[.slice o1 m1 d1] 25)) (.slice (some ⟨v1.heap.size, 0, none⟩) 1 1) [rowP K H S seed id]) := Lib.hid (bss_oneE (New.bs N1.out))
    have HX2 := Lib.hid (HB1.out.grown g2)
    have G2 : Hid (Gr w (v1.alloc (.cells #[.slice o1 m1 d1] 25))) := Lib.hid (Gr.trans N1.out.1 g2)
    have hwide : Wide (K + H) [rowP K H S seed id] := fun r hr => by
      obtain rfl : r = _ := by simpa using hr
      exact HW1.out
    have hma : mayL [rowP K H S seed id] = true := hwide.may hN.2.1
    have hmx : mayL M = true := HW.out.may (by omega)
    have hwd : wd [rowP K H S seed id] = M.length := by rw [hwide.wd (by simp), HML.out, HL.out]
    have hml : M.length ≤ 1000 := by rw [HML.out, HL.out]; omega
    have HMA := Lib.hid hma
    have HMX := Lib.hid hmx
    have HWD := Lib.hid hwd
    have HMLL := Lib.hid hml
    clear hi hw1 hma hmx hwd hml hwide g2
    go_wp2_with fail
    refine (mul_pos _ _ _ [rowP K H S seed id] M _ (Or.inl rfl) HA2.out HX2.out (by simp) HMLL.out HMA.out HMX.out (by simp) HWD.out).mono ?_
    rintro e w3 ⟨v3, O, rfl, _, hg3, hmul, g3, us, rfl, hr3⟩
    obtain ⟨q1, q2⟩ := hr3 0 (by simp)
    rw [mul_symE HMP.out HW.out (by rw [HML.out, HL.out]) HI.out hmul] at q2
    obtain ⟨ou, mu, cu, hf⟩ := q2.form
    rw [hf] at q1 q2
    have HQ2 := Lib.hid q2
    have G3 := Lib.hid (Gr.trans G2.out hg3)
    clear q2 hf hr3 hmul hg3
    go_wp2_with fail
    go_ret
    exact ⟨_, rfl, Nr.new (HQ2.out.low G2.out.size) G3.out⟩
  · obtain rfl : m1 = 0 := by
      have := HR0.out.2 hi
      have := HM1.out
      omega
    have HI := Lib.hid hi
    clear hi
    go_wp2_with fail
    go_ret
    unfold symP
    rw [if_neg HI.out]
    exact ⟨_, rfl, N1.out.1, by simp, .inl ⟨rfl, none, 0, rfl, fun _ => rfl, by omega⟩⟩
end Go.Proofs.YtbabecjphmmngaaGreat
