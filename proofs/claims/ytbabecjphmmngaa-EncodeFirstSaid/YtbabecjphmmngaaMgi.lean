/-
  Texts laid behind one another: Nc Nd Az PreOwnW Pc.
-/
import Derived.Test.YtbabecjphmmngaaMgg
import Derived.Test.YtbabecjphmmngaaMgh
import Derived.Test.YtbabecjphmmngaaMgc
import Derived.Laws.CopyOwn
import Derived.Test.YtbabecjphmmngaaMgf
import Derived.Lib.AppendZerosOnto
namespace Go.Proofs.Ytbabecjphmmngaa
open Go.RowKit

/-- The contracts of package encode; At: how a Block lies in memory (which blocks are its own), its parameters, its seed and its middle symbols. -/
structure EncOk (At : World → Value → (Nat → Prop) → Nat → Nat → Nat → Nat → List (List Int) → Prop) : Prop where
  ptr : ∀ {w : World} {y : Value} {F : Nat → Prop} {K H S seed : Nat} {M : List (List Int)}, At w y F K H S seed M → ∃ a, y = .pointer (some a)
  lt : ∀ {w : World} {y : Value} {F : Nat → Prop} {K H S seed : Nat} {M : List (List Int)}, At w y F K H S seed M → ∀ k, F k → k < w.heap.size
  keep : ∀ {w w' : World} {y : Value} {F G : Nat → Prop} {K H S seed : Nat} {M : List (List Int)}, At w y F K H S seed M → Kp G w w' → (∀ k, F k → ¬ G k) → At w' y F K H S seed M
  newArg : ∀ (K H S : Int) (seed : Nat) (v : Value) (D : List Int) (w : World), seed < 4294967296 → Bs w v D → D.length ≤ 100000 → ¬ (MayP K H S ∧ (D.length : Int) = K * S) →
    Calls Try.prog 9 #[par K H S, .int .u32 (seed : Int), v] w fun e w' => e = .returned (.tuple #[.pointer none, .int .i64 1]) ∧ Gr w w'
  newSeed : ∀ (K H S : Nat) (seed : Nat) (v : Value) (D : List Int) (w : World), seed < 4294967296 → Bs w v D → MayP K H S → D.length = K * S → ¬ RightP K H S seed →
    Calls Try.prog 9 #[par K H S, .int .u32 (seed : Int), v] w fun e w' => e = .returned (.tuple #[.pointer none, .int .i64 8]) ∧ Gr w w'
  new : ∀ (K H S : Nat) (seed : Nat) (v : Value) (D : List Int) (w : World), seed < 4294967296 → Bs w v D → MayP K H S → D.length = K * S → RightP K H S seed →
    Calls Try.prog 9 #[par K H S, .int .u32 (seed : Int), v] w fun e w' => ∃ y F M, e = .returned (.tuple #[y, .int .i64 0]) ∧ IsMid K H S seed D M ∧ At w' y F K H S seed M ∧ Gr w w' ∧ ∀ k, F k → w.heap.size ≤ k
  mid : ∀ (y : Value) (F : Nat → Prop) (K H S seed : Nat) (M : List (List Int)) (w : World), MayP K H S → seed < 4294967296 → At w y F K H S seed M → Wide S M → M.length = K + H →
    Calls Try.prog 12 #[y] w fun e w' => ∃ v, e = .returned v ∧ RwsN w.heap.size w' v M ∧ Gr w w'
  symbol : ∀ (y : Value) (F : Nat → Prop) (K H S seed : Nat) (M : List (List Int)) (id : Int) (w : World), MayP K H S → seed < 4294967296 → At w y F K H S seed M → Wide S M → M.length = K + H → I64 id →
    Calls Try.prog 14 #[y, .int .i64 id] w fun e w' => ∃ v, e = .returned v ∧ New w w' v (symP K H S seed M id)
  midNil : ∀ (w : World), Calls Try.prog 12 #[.pointer none] w fun e w' => ∃ v, e = .returned v ∧ RwsN w.heap.size w' v [] ∧ Gr w w'
  symbolNil : ∀ (id : Int) (w : World), I64 id → Calls Try.prog 14 #[.pointer none, .int .i64 id] w fun e w' => ∃ v, e = .returned v ∧ New w w' v []
theorem Bs.addr {w : World} {oa : Option Addr} {m c : Nat} {l : List Int} (h : Bs w (.slice oa m c) l) (hm : 0 < m) : ∃ a, oa = some a := by
  obtain ⟨_, oa', c', he, h2, h3, h4, h5⟩ := h
  obtain ⟨rfl, rfl, rfl⟩ : oa = oa' ∧ m = l.length ∧ c = c' := by simpa using he
  cases oa with
  | none => have := h4 rfl; omega
  | some a => exact ⟨a, rfl⟩
theorem Bs.part {w : World} {b : Addr} {m c lo hi : Nat} {l : List Int} (h : Bs w (.slice (some b) m c) l) (h1 : lo ≤ hi) (h2 : hi ≤ m) : Bs w (.slice (if c = lo then some b else some (b.add lo)) (hi - lo) (c - lo)) ((l.drop lo).take (hi - lo)) := by
  obtain ⟨h0, oa', c', he, p2, p3, p4, p5⟩ := h
  obtain ⟨rfl, rfl, rfl⟩ : some b = oa' ∧ m = l.length ∧ c = c' := by simpa using he
  have hl : ((l.drop lo).take (hi - lo)).length = hi - lo := by rw [List.length_take, List.length_drop]; omega
  refine ⟨fun x hx => h0 x (List.mem_of_mem_drop (List.mem_of_mem_take hx)), _, _, by rw [hl], by rw [hl]; omega, by omega, (fun e => by split at e <;> cases e), fun a ha i hi2 => ?_⟩
  rw [hl] at hi2
  rw [if_neg (by omega)] at ha
  cases ha
  rw [Addr.add_add', p5 b rfl (lo + i) (by omega), List.getD_eq_getElem?_getD, List.getD_eq_getElem?_getD, List.getElem?_take_of_lt hi2, List.getElem?_drop]
theorem EncOk.grown {At : World → Value → (Nat → Prop) → Nat → Nat → Nat → Nat → List (List Int) → Prop} (E : EncOk At) {w w' : World} {y : Value} {F : Nat → Prop} {K H S s : Nat} {M : List (List Int)} (h : At w y F K H S s M) (hg : Gr w w') : At w' y F K H S s M :=
  E.keep h (hg.kp fun _ => False) fun _ _ e => e
/-- From a seed on, modulo 2^32. -/
def nthS (s i : Nat) : Nat := (s + i) % 4294967296
theorem nthS_lt (s i : Nat) : nthS s i < 4294967296 := Nat.mod_lt _ (by omega)
theorem nthS_back (s i : Nat) (h : i ≤ 24) : ((((nthS s i : Nat) : Int) - s) % 4294967296).toNat = i := by
  unfold nthS
  omega
theorem nthS_succ (s i : Nat) : IntKind.u32.wrap ((nthS s i : Int) + 1) = (nthS s (i + 1) : Int) := by
  simp [IntKind.wrap, IntKind.bits, IntKind.signed]
  unfold nthS
  omega
set_option maxRecDepth 100000 in
set_option maxHeartbeats 800000 in
theorem seed_any (O : SystemOk) (K H S sd : Int) (w : World) :
    Calls Try.prog 7 #[par K H S, .int .u64 sd] w fun e w' => ∃ t : Nat, e = .returned (.int .u32 (t : Int)) ∧ t < 4294967296 ∧ Gr w w' := by
  have HO := Lib.hid O
  clear O
  obtain ⟨s0, hs0, hs1⟩ : ∃ s : Nat, sd % 4294967296 = s ∧ s < 4294967296 := ⟨(sd % 4294967296).toNat, by omega, by omega⟩
  have hw32 : IntKind.u32.wrap sd = (s0 : Int) := by rw [← hs0]; simp [IntKind.wrap, IntKind.bits, IntKind.signed]
  have h24 : IntKind.u32.wrap ((s0 : Int) + 24) = (nthS s0 24 : Int) := by simp [IntKind.wrap, IntKind.bits, IntKind.signed, nthS]
  have HP0 : Hid (Par (w.alloc (.cells #[.int .i64 K, .int .i64 H, .int .i64 S] 25)) w.heap.size K H S) := Lib.hid (heap_alloc_new _ _)
  have HG0 : Hid (Gr w (w.alloc (.cells #[.int .i64 K, .int .i64 H, .int .i64 S] 25))) := Lib.hid (Gr.alloc (Gr.refl _) _ _)
  have h00 : nthS s0 0 = s0 := by unfold nthS; omega
  have H00 := Lib.hid h00
  clear h00
  go_enter Try.func7, Try.ntmps7
  go_wp2_with fail
  generalize w.alloc (.cells #[.int .i64 K, .int .i64 H, .int .i64 S] 25) = W0 at *
  generalize w.heap.size = gp at *
  go_loopw [5] (fun iv W => ∃ i : Nat, i ≤ 24 ∧ iv = .int .u32 (nthS s0 i : Int) ∧ Gr W0 W) (fun iv _ => 24 - ((intOf iv - s0) % 4294967296).toNat)
  case atStart => exact ⟨0, by omega, by rw [H00.out], Gr.refl _⟩
  case round =>
    obtain ⟨wo, hwo⟩ : ∃ x, x = wr := ⟨_, rfl⟩
    subst hwo
    obtain ⟨i, hi, rfl, hg⟩ := hrel
    have HG := Lib.hid (Gr.trans HG0.out hg)
    have HGI := Lib.hid hg
    have HP := Lib.hid (HP0.out.grown hg)
    clear hg
    have c0 := HP.out.cell0
    have c1 := HP.out.cell1
    have c2 := HP.out.cell2
    by_cases hlt : i < 24
    · have hne : nthS s0 i ≠ nthS s0 24 := by unfold nthS; omega
      have hne2 : ((nthS s0 i : Int) == (nthS s0 24 : Int)) = false := by rw [beq_eq_false_iff_ne]; omega
      have hsu := nthS_succ s0 i
      have hb1 := nthS_back s0 i (by omega)
      have hb2 := nthS_back s0 (i + 1) (by omega)
      have HB1 := Lib.hid hb1
      have HB2 := Lib.hid hb2
      have HLT := Lib.hid (nthS_lt s0 i)
      clear hb1 hb2
      obtain ⟨q, hq⟩ : ∃ q, nthS s0 i = q := ⟨_, rfl⟩
      obtain ⟨q1, hq1⟩ : ∃ q, nthS s0 (i + 1) = q := ⟨_, rfl⟩
      obtain ⟨q2, hq2⟩ : ∃ q, nthS s0 24 = q := ⟨_, rfl⟩
      rw [hq, hq2] at hne hne2
      rw [hq, hq1] at hsu
      rw [hq] at HB1 HLT
      rw [hq1] at HB2
      rw [hq2] at h24
      have HQ1 := Lib.hid hq1
      rw [hq]
      clear hq hq1 hq2
      go_wp2_with fail
      refine (HO.out.right K H S q _ HLT.out).mono ?_
      by_cases hr : RightP K H S q
      · rw [decide_eq_true hr]
        rintro e w2 ⟨rfl, hg2⟩
        have HG2 := Lib.hid (Gr.trans HG.out hg2)
        clear hg2 hr
        go_wp2_with fail
        go_ret
        exact ⟨q, rfl, HLT.out, HG2.out⟩
      · rw [decide_eq_false hr]
        rintro e w2 ⟨rfl, hg2⟩
        have HG2 := Lib.hid (Gr.trans HGI.out hg2)
        clear hg2 hr
        go_wp2_with fail
        exact ⟨⟨i + 1, by omega, by rw [HQ1.out], HG2.out⟩, by simp [intOf]; rw [HB1.out, HB2.out]; omega⟩
    · obtain rfl : i = 24 := by omega
      go_wp2_with fail
      go_ret
      exact ⟨s0, rfl, hs1, HG.out⟩
/-- So many bytes of a list, noughts behind. -/
def dataL (l : List Int) (n : Nat) : List Int := l.take n ++ List.replicate (n - l.length) 0
theorem dataL_length (l : List Int) (n : Nat) : (dataL l n).length = n := by
  unfold dataL
  rw [List.length_append, List.length_take, List.length_replicate]
  omega
theorem dataL_byt {l : List Int} (h : ∀ z ∈ l, Byt z) (n : Nat) : ∀ z ∈ dataL l n, Byt z := fun z hz => by
  unfold dataL at hz
  rw [List.mem_append] at hz
  rcases hz with hz | hz
  · exact h z (List.mem_of_mem_take hz)
  · exact replicate_byt _ z hz
theorem new_block {w W : World} {g n : Nat} {L : List Int} (hg : Gr w W) (hge : w.heap.size ≤ g) (hb : Blk W g L) (hl : L.length = n) (hB : ∀ z ∈ L, Byt z) (hn : n ≤ 1000000) : New w W (.slice (some ⟨g, 0, none⟩) n n) L :=
  ⟨hg, hB, .inr ⟨g, n, _, by rw [hl], hge, hb, by omega, by omega, fun i hi => rowB_get _ i hi⟩⟩
set_option maxRecDepth 100000 in
set_option maxHeartbeats 800000 in
theorem data_any (v : Value) (l : List Int) (n : Nat) (w : World) (hb : Bs w v l) (h1 : 1 ≤ n) (h2 : n ≤ 1000) :
    Calls Try.prog 8 #[v, .int .i64 (n : Int)] w fun e w' => ∃ u, e = .returned u ∧ New w w' u (dataL l n) := by
  have HBY := Lib.hid hb.1
  have hmk := make22 n n (by omega) (by omega)
  have hsz : (Try.prog.info? 5).map (·.size) = some 1 := by kernel_rfl
  have SZ := Lib.hid hsz
  have hB := heap_alloc_new w (.cells (rowB (List.replicate n 0)) 5)
  have HB := Lib.hid hB
  clear hsz hB
  by_cases h0 : 0 < l.length
  · obtain ⟨a, c, rfl, _, _, h3⟩ := Bs.at hb h0
    obtain ⟨m, hm⟩ : ∃ m, l.length = m := ⟨_, rfl⟩
    rw [hm] at h3 ⊢
    have HM := Lib.hid hm
    have HC := Lib.hid h3
    have HS : Hid (((l.take n).map (Value.int .u8)).length = Nat.min m n) := Lib.hid (by rw [List.length_map, List.length_take, HM.out]; exact Nat.min_comm _ _)
    have HF : Hid (0 + ((l.take n).map (Value.int .u8)).length ≤ (rowB (List.replicate n 0)).size) := Lib.hid (by rw [List.length_map, List.length_take, rowB_size, List.length_replicate]; omega)
    have H1 : Hid (∀ v ∈ (l.take n).map (Value.int .u8), v.oneCell' = true) := Lib.hid (by
      intro v hv
      obtain ⟨x, _, rfl⟩ := List.mem_map.1 hv
      rfl)
    have HV : Hid (∀ j v, ((l.take n).map (Value.int .u8))[j]? = some v → (w.alloc (.cells (rowB (List.replicate n 0)) 5)).cell? (a.add j) = some v) := Lib.hid (by
      intro j v hv
      have hj := (List.getElem?_eq_some_iff.1 hv).1
      rw [List.length_map, List.length_take, HM.out] at hj
      rw [cell_grown (Gr.alloc (Gr.refl _) _ _) (HC.out j (by omega))]
      rw [List.getElem?_map, List.getElem?_take_of_lt (by omega), List.getElem?_eq_getElem (by rw [HM.out]; omega)] at hv
      rw [List.getD_eq_getElem?_getD, List.getElem?_eq_getElem (by rw [HM.out]; omega)]
      simpa using hv)
    have HR : Hid (((l.take n).map (Value.int .u8) ++ List.drop ((l.take n).map (Value.int .u8)).length (rowB (List.replicate n 0)).toList).toArray = rowB (dataL l n)) := Lib.hid (by
      unfold dataL rowB
      simp only [List.map_append, List.map_replicate, List.length_map, List.length_take, List.drop_replicate]
      congr 3
      omega)
    clear h3 hb
    generalize (l.take n).map (Value.int .u8) = cs at *
    generalize rowB (List.replicate n 0) = cur at *
    go_enter Try.func8, Try.ntmps8
    go_wp2_with (refine wpList_copy_own rfl _ _ 23 23 rfl 5 Try.underlying23 SZ.out w.heap.size 0 n n a m c rfl rfl cur 5 HB.out cs HS.out HV.out HF.out H1.out ?_)
    rw [World.setRow_alloc_new, HR.out]
    clear HR H1 HV HF HS HB SZ HC hmk
    go_wp2_with fail
    go_ret
    exact ⟨_, rfl, new_block (Gr.alloc (Gr.refl _) _ _) (Nat.le_refl _) (heap_alloc_new _ _) (dataL_length _ _) (dataL_byt HBY.out n) (by omega)⟩
  · obtain rfl : l = [] := List.eq_nil_of_length_eq_zero (by omega)
    obtain ⟨_, oa, c, rfl, _, _, _, _⟩ := hb
    have HR : Hid (rowB (List.replicate n 0) = rowB (dataL [] n)) := Lib.hid (by unfold dataL; simp)
    generalize rowB (List.replicate n 0) = cur at *
    clear HB
    go_enter Try.func8, Try.ntmps8
    go_wp2_with (refine wpList_copy_nothing rfl _ _ 23 23 rfl 5 Try.underlying23 SZ.out _ _ _ _ _ _ rfl rfl rfl ?_)
    go_ret
    rw [HR.out]
    exact ⟨_, rfl, new_block (Gr.alloc (Gr.refl _) _ _) (Nat.le_refl _) (heap_alloc_new _ _) (dataL_length _ _) (dataL_byt HBY.out n) (by omega)⟩
end Go.Proofs.Ytbabecjphmmngaa
namespace Go.Proofs.Ytbabecjphmmngaa
open Go.RowKit

theorem wake_at : atN 2 0 0 = [0, 1] := by decide +kernel
theorem wake_first : matP 1 1 2 0 (firstI 1) = [[3, 1], [1, 1]] := by
  have hm : MayP ((1 : Nat) : Int) ((1 : Nat) : Int) ((2 : Nat) : Int) := by unfold MayP; omega
  have h := firstM_is hm 0
  have hr := rowP_in hm (id := 0) (by unfold MayI; omega) 0
  have e : firstI 1 = [0] := by decide
  rw [e] at h ⊢
  have e2 : rowP ((1 : Nat) : Int) ((1 : Nat) : Int) ((2 : Nat) : Int) 0 0 = [1, 1] := by
    rw [hr]
    show onesL 2 (atN 2 0 0) = [1, 1]
    rw [wake_at]
    decide
  rw [ahead_one, List.map_cons, List.map_nil, e2] at h
  exact h
theorem wake_right : RightP 1 1 2 0 := by
  have hm : MayP ((1 : Nat) : Int) ((1 : Nat) : Int) ((2 : Nat) : Int) := by unfold MayP; omega
  refine ⟨hm, ?_⟩
  have hc : colsP 1 1 2 = 2 := by unfold colsP; rw [if_pos (by unfold MayP; omega)]; rfl
  rw [hc]
  show (rkL (matP 1 1 2 0 (firstI 1)) : Int) = 2
  rw [wake_first]
  have e0 : L.smul (fb 141) (L.vadd (vec [3, 1]) (vec [1, 1])) = L.unit 0 := funext fun j => by
    match j with
    | 0 => apply L.Fb.ext; decide +kernel
    | 1 => apply L.Fb.ext; decide +kernel
    | j + 2 => apply L.Fb.ext; show (L.mul (fb 141) (L.add (fb 0) (fb 0))).n = 0; decide +kernel
  have e1 : L.vadd (vec [1, 1]) (L.unit 0) = L.unit 1 := funext fun j => by
    match j with
    | 0 => apply L.Fb.ext; decide +kernel
    | 1 => apply L.Fb.ext; decide +kernel
    | j + 2 => apply L.Fb.ext; show (L.add (fb 0) L.zero).n = 0; decide +kernel
  have hA : ∀ x ∈ ([[3, 1], [1, 1]] : List (List Int)).map vec, L.Supp 2 x := by
    intro x hx
    obtain ⟨y, hy, rfl⟩ := List.mem_map.1 hx
    simp at hy
    rcases hy with rfl | rfl <;> exact vec_supp rfl
  have h0 : L.Sp (([[3, 1], [1, 1]] : List (List Int)).map vec) (L.unit 0) := by
    rw [← e0]
    exact L.Sp.smul _ (L.Sp.add (L.Sp.mem (by simp)) (L.Sp.mem (by simp)))
  have h1 : L.Sp (([[3, 1], [1, 1]] : List (List Int)).map vec) (L.unit 1) := by
    rw [← e1]
    exact L.Sp.add (L.Sp.mem (by simp)) h0
  have : rkL [[3, 1], [1, 1]] = 2 := L.rk_of_units hA fun i hi => by
    have : i = 0 ∨ i = 1 := by omega
    rcases this with rfl | rfl
    · exact h0
    · exact h1
  rw [this]
  rfl
set_option maxRecDepth 100000 in
set_option maxHeartbeats 800000 in
theorem encWakes_any {At : World → Value → (Nat → Prop) → Nat → Nat → Nat → Nat → List (List Int) → Prop} (O : EncOk At) (w : World) : Calls Try.prog 11 #[] w fun e w' => e = .returned (.bool true) ∧ Gr w w' := by
  have HO := Lib.hid O
  clear O
  have hm : MayP ((1 : Nat) : Int) ((1 : Nat) : Int) ((2 : Nat) : Int) := by unfold MayP; omega
  have HM := Lib.hid hm
  have hb56 : ∀ z ∈ ([5, 6] : List Int), Byt z := by
    intro z hz
    simp at hz
    unfold Byt
    omega
  have HB56 := Lib.hid hb56
  clear hm hb56
  go_enter Try.func11, Try.ntmps11
  go_wp2_with fail
  have HP0 : Hid (Par (w.alloc (.cells #[.int .i64 1, .int .i64 1, .int .i64 2] 25)) w.heap.size 1 1 2) := Lib.hid (heap_alloc_new _ _)
  have HG0 : Hid (Gr w (w.alloc (.cells #[.int .i64 1, .int .i64 1, .int .i64 2] 25))) := Lib.hid (Gr.alloc (Gr.refl _) _ _)
  generalize w.alloc (.cells #[.int .i64 1, .int .i64 1, .int .i64 2] 25) = W0 at *
  generalize w.heap.size = gp at *
  go_loopw [2] (fun iv W => iv = .int .u32 0 ∧ W = W0) (fun iv _ => 0)
  case atStart => exact ⟨rfl, rfl⟩
  case round =>
    obtain ⟨rfl, rfl⟩ := hrel
    have c0 := HP0.out.cell0
    have c1 := HP0.out.cell1
    have c2 := HP0.out.cell2
    go_wp2_with fail
    have hlit : Bs (wr.alloc (.cells (rowB [5, 6]) 5)) (.slice (some ⟨wr.heap.size, 0, none⟩) 2 2) [5, 6] := Blk.bs (L := [5, 6]) (heap_alloc_new _ _) [5, 6] 2 (Nat.le_refl _) (Nat.le_refl _) (by omega) HB56.out fun _ _ => rfl
    refine (HO.out.new 1 1 2 0 _ [5, 6] _ (by omega) hlit HM.out rfl wake_right).mono ?_
    rintro e w2 ⟨y, F, M, rfl, hmid, hat, hg2, _⟩
    obtain ⟨ay, rfl⟩ := HO.out.ptr hat
    have hsym : symP 1 1 2 0 M 0 = [5, 6] := IsMid.first HM.out hmid rfl HB56.out (i := 0) (by omega)
    have HSY := Lib.hid hsym
    have HMI := Lib.hid hmid
    have HAT := Lib.hid hat
    have HG2 := Lib.hid (Gr.trans HG0.out (Gr.trans (Gr.alloc (Gr.refl wr) _ _) hg2))
    clear hlit hmid hat hg2 hsym c0 c1 c2
    go_wp2_with fail
    refine (HO.out.symbol _ F 1 1 2 0 M 0 _ HM.out (by omega) HAT.out HMI.out.wide HMI.out.len ⟨by omega, by omega⟩).mono ?_
    rw [HSY.out]
    rintro e w3 ⟨v3, rfl, hn3⟩
    obtain ⟨o3, c3, hf3⟩ := Bs.form (New.bs hn3)
    have hl : ([5, 6] : List Int).length = 2 := rfl
    rw [hl] at hf3
    subst hf3
    have NW := Lib.hid hn3
    clear hn3 hl
    go_wp2_with fail
    have hlit : Bs (w3.alloc (.cells (rowB [5, 6]) 5)) (.slice (some ⟨w3.heap.size, 0, none⟩) 2 2) [5, 6] := Blk.bs (L := [5, 6]) (heap_alloc_new _ _) [5, 6] 2 (Nat.le_refl _) (Nat.le_refl _) (by omega) HB56.out fun _ _ => rfl
    refine (same_any _ _ [5, 6] [5, 6] _ (Bs.grown (New.bs NW.out) (Gr.alloc (Gr.refl _) _ _)) hlit).mono ?_
    rw [beq_self_eq_true]
    rintro e w4 ⟨rfl, hg4⟩
    have HGZ := Lib.hid (Gr.trans HG2.out (Gr.trans NW.out.1 (Gr.trans (Gr.alloc (Gr.refl w3) _ _) hg4)))
    clear hg4 hlit
    go_wp2_with fail
    go_ret
    exact ⟨rfl, HGZ.out⟩
end Go.Proofs.Ytbabecjphmmngaa
namespace Go.Proofs.Ytbabecjphmmngaa
open Go.RowKit

theorem bytes_cells {w : World} {o : Option Addr} {l : List Int} {n : Nat} (hl : l.length = n) (h : ∀ a, o = some a → ∀ i, i < n → w.cell? (a.add i) = some (.int .u8 (l.getD i 0))) :
    ∀ ad, o = some ad → ∀ i u, (l.map (Value.int .u8))[i]? = some u → w.cell? (ad.add i) = some u := by
  intro ad ha i u hu
  have hi : i < l.length := by
    have := (List.getElem?_eq_some_iff.1 hu).1
    rwa [List.length_map] at this
  rw [h ad ha i (by omega)]
  rw [List.getElem?_map, List.getElem?_eq_getElem hi] at hu
  rw [List.getD_eq_getElem?_getD, List.getElem?_eq_getElem hi]
  simpa using hu
theorem leadL_nought : ∀ l : List Int, leadL l = -1 → ∀ j, l.getD j 0 = 0
  | [], _, j => by simp
  | a :: l, h, j => by
    have hge := leadL_ge l
    unfold leadL at h
    split at h
    · rename_i ha
      split at h
      · rename_i hl
        cases j with
        | zero => simpa using ha
        | succ j => simpa using leadL_nought l hl j
      · omega
    · omega
theorem vec_nought {l : List Int} (h : leadL l = -1) : vec l = L.vzero := funext fun j => by
  show fb (l.getD j 0) = L.zero
  rw [leadL_nought l h j, fb_zero]
theorem vec_ne {l : List Int} (hb : ∀ x ∈ l, Byt x) (h : 0 ≤ leadL l) : vec l ≠ L.vzero := fun e => by
  have : leadL l = -1 := leadL_none l fun j _ => by
    have h1 : fb (l.getD j 0) = L.zero := congrFun e j
    exact fb_inj (getD_byt hb j) (by unfold Byt; omega) (by rw [h1, fb_zero])
  omega
theorem Bs.parts {w : World} {oa : Option Addr} {m c : Nat} {l : List Int} (h : Bs w (.slice oa m c) l) : l.length = m ∧ m ≤ c ∧ c ≤ 9223372036854775807 ∧ (oa = none → m = 0 ∧ c = 0) ∧ ∀ ad, oa = some ad → ∀ i u, (l.map (Value.int .u8))[i]? = some u → w.cell? (ad.add i) = some u := by
  obtain ⟨_, oa', c', he, h2, h3, h4, h5⟩ := h
  obtain ⟨rfl, rfl, rfl⟩ : oa = oa' ∧ m = l.length ∧ c = c' := by simpa using he
  exact ⟨rfl, h2, h3, fun e => ⟨by have := h4 e; omega, h4 e⟩, bytes_cells rfl h5⟩
/-- append of bytes that came in onto bytes of one's own. -/
theorem wpList_append_bytes {w : World} {ops : Array Oper} {rest : List Oper} {o : Oper} {a : Act} {Q : Exit → Act → World → Prop} (hgd : o.guard = none) (s x : Operand)
    (ho : o.op = .call { callee := .builtin .append, args := #[s, x], argTypes := #[23, 23] }) (base : Nat) (v : Value) (n : Nat) (l : List Int) (hs : a.eval s = v) (hown : w.ownsRow base 5 1 v n (l.map (Value.int .u8)))
    (oa : Option Addr) (m c : Nat) (l' : List Int) (hx : a.eval x = .slice oa m c) (hL : Bs w (.slice oa m c) l') (hm : n + m ≤ 1000000) (hbase : base ≤ w.heap.size)
    (h : ∀ v' w', w'.ownsRow base 5 1 v' (n + m) ((l ++ l').map (Value.int .u8)) → w.grownBy w' v.ownBlock → wpList Try.prog ops Q rest (a.put o.dst v') w') : wpList Try.prog ops Q (o :: rest) a w := by
  obtain ⟨i5, hi0, hz0, hz1, hz2⟩ := info_parts infoB
  obtain ⟨p1, p2, p3, p4, p5⟩ := hL.parts
  refine wpList_append_in hgd s x 23 ho base 5 i5 _ 1 Try.underlying23 hi0 hz0 hz1 hz2 rfl v n _ hs hown oa m c (l'.map (Value.int .u8)) hx p4 (by rw [List.length_map]; exact p1) p5 (ints_oneCell _ _) (by unfold maxLen; omega) (by omega) hbase ?_
  intro v' w' h1 h2
  exact h v' w' (by rw [List.map_append]; exact h1) h2
theorem step_append_bytes {w : World} {ops : Array Oper} {o : Oper} {a : Act} {K : Act → World → Prop} {Q : Exit → Act → World → Prop} {E : Prop} (hgd : o.guard = none) (s x : Operand)
    (ho : o.op = .call { callee := .builtin .append, args := #[s, x], argTypes := #[23, 23] }) (base : Nat) (v : Value) (n : Nat) (l : List Int) (hs : a.eval s = v) (hown : w.ownsRow base 5 1 v n (l.map (Value.int .u8)))
    (oa : Option Addr) (m c : Nat) (l' : List Int) (hx : a.eval x = .slice oa m c) (hL : Bs w (.slice oa m c) l') (hm : n + m ≤ 1000000) (hbase : base ≤ w.heap.size)
    (h : ∀ v' w', w'.ownsRow base 5 1 v' (n + m) ((l ++ l').map (Value.int .u8)) → w.grownBy w' v.ownBlock → K (a.put o.dst v') w') :
    if Region.wanted o (yielded ops a.tmps) = true then Oper.wp Try.prog o a w K Q else E := by
  obtain ⟨i5, hi0, hz0, hz1, hz2⟩ := info_parts infoB
  obtain ⟨p1, p2, p3, p4, p5⟩ := hL.parts
  refine step_append_in hgd s x 23 ho base 5 i5 _ 1 Try.underlying23 hi0 hz0 hz1 hz2 rfl v n _ hs hown oa m c (l'.map (Value.int .u8)) hx p4 (by rw [List.length_map]; exact p1) p5 (ints_oneCell _ _) (by unfold maxLen; omega) (by omega) hbase ?_
  intro v' w' h1 h2
  exact h v' w' (by rw [List.map_append]; exact h1) h2
theorem Bs.rb {w : World} {u : Value} {l : List Int} (h : Bs w u l) (w' : World) : Rb w.heap.size w' u := by
  intro a n c e hn
  obtain ⟨_, oa, cc, h1, h2, h3, h4, h5⟩ := h
  rw [h1] at e
  obtain ⟨rfl, rfl, rfl⟩ : oa = some a ∧ l.length = n ∧ cc = c := by simpa using e
  exact .inl (World.block_lt_of_cell? w _ (h5 a rfl 0 hn))
/-- A copy of the list of rows: new memory for the list, the rows as they were. -/
theorem wpList_append_rows {w : World} {ops : Array Oper} {rest : List Oper} {o : Oper} {a : Act} {Q : Exit → Act → World → Prop} (hgd : o.guard = none) (s x : Operand)
    (ho : o.op = .call { callee := .builtin .append, args := #[s, x], argTypes := #[36, 36] }) (hs : a.eval s = .slice none 0 0)
    (oa : Option Addr) (m c : Nat) (L : List (List Int)) (hx : a.eval x = .slice oa m c) (hl : L.length = m) (hL : Bss w (.slice oa m c) L) (hm : m ≤ 1000)
    (h : ∀ v' w' us, w'.ownsRow w.heap.size 23 1 v' m us → Gr w w' → (∀ i, i < m → Bs w' (us.getD i undef) (L.getD i []) ∧ Rb w.heap.size w' (us.getD i undef)) → wpList Try.prog ops Q rest (a.put o.dst v') w') : wpList Try.prog ops Q (o :: rest) a w := by
  obtain ⟨i0, hi0, hz0, hz1, hz2⟩ := info_parts info22
  obtain ⟨us, hv⟩ := hL.vals
  have hno : oa = none → m = 0 ∧ c = 0 := fun e => by
    obtain ⟨oa', c', he, h1, h2, h3, h4⟩ := hL
    obtain ⟨rfl, h5, rfl⟩ : oa = oa' ∧ m = L.length ∧ c = c' := by simpa using he
    have := h3 e
    omega
  refine wpList_append_in hgd s x 36 ho w.heap.size 23 i0 _ 24 Try.underlying36 hi0 hz0 hz1 hz2 rfl (.slice none 0 0) 0 [] hs (World.ownsRow_nil w _ 23 1) oa m c us hx hno (by rw [hv.1, hl]) hv.2.1 hv.2.2.2 (by unfold maxLen; omega) (by omega) (Nat.le_refl _) ?_
  intro v' w' hown hgrow
  rw [Nat.zero_add, List.nil_append] at hown
  have hg : Gr w w' := Gr.append (Gr.refl w) hgrow (fun _ h => by cases h)
  exact h v' w' us hown hg fun i hi => ⟨Bs.grown (hv.2.2.1 i (by omega)) hg, (hv.2.2.1 i (by omega)).rb w'⟩
theorem New.under {w w1 w2 : World} {v : Value} {l : List Int} (hg : Gr w w1) (h : New w1 w2 v l) : New w w2 v l := by
  obtain ⟨h1, h2, h3⟩ := h
  refine ⟨Gr.trans hg h1, h2, ?_⟩
  rcases h3 with h3 | ⟨g, c, cur, e1, e2, e3⟩
  · exact .inl h3
  · exact .inr ⟨g, c, cur, e1, Nat.le_trans hg.size e2, e3⟩
theorem zeroB (m : Nat) : Builtin.zeroCells (Value.int .u8 0).cells m = (List.replicate m (Value.int .u8 0)).toArray := by
  apply Array.ext
  · simp [Builtin.zeroCells, Value.cells]
  intro i h1 h2
  simp [Builtin.zeroCells, Value.cells, Nat.mod_one]
/-- append(v, make([]byte, m)...), v bytes of one's own. -/
theorem run_append_zeros (w : World) (ty : TypeId) (base : Nat) (v : Value) (n : Nat) (l : List Int) (hown : w.ownsRow base 5 1 v n (l.map (Value.int .u8))) (m : Nat) (hm : n + m ≤ 1000000) (hbase : base ≤ w.heap.size) :
    ∃ v' w', (Builtin.append_ #[23, 3] ty #[v, .int .i64 m]).run Try.prog w = .ok v' w' ∧ w'.ownsRow base 5 1 v' (n + m) ((l ++ List.replicate m 0).map (Value.int .u8)) ∧ w.grownBy w' v.ownBlock := by
  obtain ⟨i, hi, hz, hs, hb⟩ := info_parts infoB
  have ht := Try.underlying23
  have htn := Try.underlying3
  have hlen : ((l ++ List.replicate m 0).map (Value.int .u8)).length = n + m := by
    have := hown.1
    rw [List.length_map] at this
    rw [List.length_map, List.length_append, List.length_replicate]
    omega
  have hmap : (l ++ List.replicate m 0).map (Value.int .u8) = l.map (Value.int .u8) ++ List.replicate m (.int .u8 0) := by rw [List.map_append, List.map_replicate]
  have hln : (l.map (Value.int .u8)).length = n := by have := hown.1; omega
  have grown : ∀ (old : Nat) (row : Option Nat),
      (w.drew.alloc (.cells ((l.map (Value.int .u8)).toArray ++ Builtin.zeroCells (Value.int .u8 0).cells m ++ Builtin.zeroCells (Value.int .u8 0).cells (grownCap w (n + m) old 5 - (n + m))) 5)).ownsRow base 5 1
        (.slice (some ⟨w.heap.size, 0, none⟩) (n + m) (grownCap w (n + m) old 5)) (n + m) ((l ++ List.replicate m 0).map (Value.int .u8)) ∧
      w.grownBy (w.drew.alloc (.cells ((l.map (Value.int .u8)).toArray ++ Builtin.zeroCells (Value.int .u8 0).cells m ++ Builtin.zeroCells (Value.int .u8 0).cells (grownCap w (n + m) old 5 - (n + m))) 5)) row := by
    intro old row
    have hge := grownCap_ge w (n + m) old 5
    have hcm : grownCap w (n + m) old 5 ≤ maxLen := grownCap_le_maxLen w (n + m) old 5 (by unfold maxLen; omega)
    rw [zeroB, zeroB]
    refine ⟨⟨by rw [hlen, Nat.mul_one], .inr ⟨w.heap.size, _, _, rfl, hbase, heap_alloc_new w.drew _, hge, hcm, ?_, ?_⟩⟩, ⟨rfl, rfl, rfl, by simp, fun k hk _ => heap_alloc_old w.drew _ hk⟩⟩
    · simp only [Array.size_append, List.size_toArray, List.length_replicate, hln]
      omega
    · rw [hmap]
      simp only [Array.toList_append]
      rw [List.take_left' (by rw [List.length_append, hln, List.length_replicate, Nat.mul_one])]
  by_cases hm0 : m = 0
  · subst hm0
    rw [List.replicate_zero, List.append_nil] at *
    have hw : IntKind.i64.wrap (0 : Int) = 0 := by rw [IntKind.wrap_i64]; omega
    obtain ⟨_, ⟨rfl, rfl⟩ | ⟨g, cap, cur, rfl, hbg, hg, hnc, hcm, hcs, htake⟩⟩ := id hown
    · exact ⟨.slice none 0 0, w, by simp [Builtin.append_, run_underlying ht, run_underlying htn, sizeOf, typeInfo, hi, asInt, asIntOf, hw], hown, ⟨rfl, rfl, rfl, Nat.le_refl _, fun _ _ _ => rfl⟩⟩
    · exact ⟨_, w, by simp [Builtin.append_, run_underlying ht, run_underlying htn, sizeOf, typeInfo, hi, asInt, asIntOf, hw, hnc, storeCells], hown, ⟨rfl, rfl, rfl, Nat.le_refl _, fun _ _ _ => rfl⟩⟩
  · obtain ⟨_, ⟨rfl, rfl⟩ | ⟨g, cap, cur, rfl, hbg, hg, hnc, hcm, hcs, htake⟩⟩ := id hown
    · have hl0 : l = [] := by
        rw [List.length_map] at hln
        exact List.eq_nil_of_length_eq_zero hln
      subst hl0
      have hr := Lib.run_append_nil_zeros (P := Try.prog) w 23 3 ty 5 i _ .i64 .i64 ht htn hi hz m (by omega) (by rw [hs]; omega) (by omega) (by rw [hb]; omega)
      have hgr := grown 0 (Value.ownBlock (.slice none 0 0))
      simp only [Nat.zero_add, List.map_nil, Array.empty_append] at hgr ⊢
      exact ⟨_, _, hr, hgr.1, hgr.2⟩
    · by_cases hroom : n + m ≤ cap
      · have hw : IntKind.i64.wrap (m : Int) = m := by rw [IntKind.wrap_i64]; omega
        have hst := run_storeCells_at Try.prog g n 5 (List.replicate m (Value.int .u8 0)) 0 cur w hg (by rw [List.length_replicate]; omega) (by intro u hu; rw [(List.mem_replicate.1 hu).2]; rfl)
        simp only [Nat.add_zero] at hst
        have hneg : ¬ ((m : Int) < 0) := by omega
        have h48i : ¬ (281474976710656 < (m : Int)) := by omega
        refine ⟨.slice (some ⟨g, 0, none⟩) (n + m) cap, w.setRow g (cur.toList.take n ++ List.replicate m (Value.int .u8 0) ++ cur.toList.drop (n + m)).toArray, ?_, ?_, ?_⟩
        · simp [Builtin.append_, run_underlying ht, run_underlying htn, sizeOf, typeInfo, zeroValue, hi, hz, hs, hb, asInt, asIntOf, hw, hneg, h48i, hm0, hroom, Addr.add_lit, zeroB, hst]
        · refine ⟨by rw [hlen, Nat.mul_one], .inr ⟨g, cap, _, rfl, hbg, setRow_heap w g cur _ 5 _ hg, hroom, hcm, ?_, ?_⟩⟩
          · simp only [List.size_toArray, List.length_append, List.length_take, List.length_drop, Array.length_toList, List.length_replicate]
            omega
          · rw [hmap]
            simp only [List.append_assoc]
            rw [Nat.mul_one] at htake
            rw [htake, ← List.append_assoc, List.take_left' (by rw [List.length_append, hln, List.length_replicate, Nat.mul_one])]
        · exact ⟨rfl, rfl, rfl, by simp, fun k _ hk => setRow_other w g k _ (fun e => hk (by simp [Value.ownBlock, e]))⟩
      · have holds : ∀ j u, (l.map (Value.int .u8))[j]? = some u → w.cell? ((⟨g, 0, none⟩ : Addr).add j) = some u := hown.cells (g := g) rfl
        have hf := run_firstCells_some (P := Try.prog) w.drew i.size n ⟨g, 0, none⟩ n cap (l.map (Value.int .u8)) (by rw [hs, hln, Nat.mul_one]) (by simpa using holds)
        have hr := Lib.run_append_grow_zeros (P := Try.prog) w 23 3 ty 5 i _ .i64 .i64 ht htn hi hz (some ⟨g, 0, none⟩) n cap _ hf m (by omega) (by rw [hs]; omega) (by omega) (by omega) (by rw [hb]; omega) (by rw [hb]; exact growslice_fits (by omega) (by omega))
        have hgr := grown cap (Value.ownBlock (.slice (some ⟨g, 0, none⟩) n cap))
        exact ⟨_, _, hr, hgr.1, hgr.2⟩
theorem want_append_bytes {w : World} {ops : Array Oper} {rest : List Oper} {o : Oper} {a : Act} {Q : Exit → Act → World → Prop} (hw : Region.wanted o (yielded ops a.tmps) = true) (s x : Operand)
    (ho : o.op = .call { callee := .builtin .append, args := #[s, x], argTypes := #[23, 23] }) (base : Nat) (v : Value) (n : Nat) (l : List Int) (hs : a.eval s = v) (hown : w.ownsRow base 5 1 v n (l.map (Value.int .u8)))
    (oa : Option Addr) (m c : Nat) (l' : List Int) (hx : a.eval x = .slice oa m c) (hL : Bs w (.slice oa m c) l') (hm : n + m ≤ 1000000) (hbase : base ≤ w.heap.size)
    (h : ∀ v' w', w'.ownsRow base 5 1 v' (n + m) ((l ++ l').map (Value.int .u8)) → w.grownBy w' v.ownBlock → wpList Try.prog ops Q rest (a.put o.dst v') w') : wpList Try.prog ops Q (o :: rest) a w := by
  obtain ⟨i5, hi0, hz0, hz1, hz2⟩ := info_parts infoB
  obtain ⟨p1, p2, p3, p4, p5⟩ := hL.parts
  refine wpList_step fun K hK => ?_
  rw [if_pos hw]
  refine wp_append_in s x 23 ho base 5 i5 _ 1 Try.underlying23 hi0 hz0 hz1 hz2 rfl v n _ hs hown oa m c (l'.map (Value.int .u8)) hx p4 (by rw [List.length_map]; exact p1) p5 (ints_oneCell _ _) (by unfold maxLen; omega) (by omega) hbase ?_
  intro v' w' h1 h2
  exact hK _ _ (h v' w' (by rw [List.map_append]; exact h1) h2)
theorem want_append_zeros {w : World} {ops : Array Oper} {rest : List Oper} {o : Oper} {a : Act} {Q : Exit → Act → World → Prop} (hw : Region.wanted o (yielded ops a.tmps) = true) (s x : Operand)
    (ho : o.op = .call { callee := .builtin .append, args := #[s, x], argTypes := #[23, 3] }) (base : Nat) (v : Value) (n : Nat) (l : List Int) (hs : a.eval s = v) (hown : w.ownsRow base 5 1 v n (l.map (Value.int .u8)))
    (m : Nat) (hx : a.eval x = .int .i64 m) (hm : n + m ≤ 1000000) (hbase : base ≤ w.heap.size)
    (h : ∀ v' w', w'.ownsRow base 5 1 v' (n + m) ((l ++ List.replicate m 0).map (Value.int .u8)) → w.grownBy w' v.ownBlock → wpList Try.prog ops Q rest (a.put o.dst v') w') : wpList Try.prog ops Q (o :: rest) a w := by
  refine wpList_step fun K hK => ?_
  rw [if_pos hw]
  obtain ⟨v', w', hr, h2, h3⟩ := run_append_zeros w o.type base v n l hown m hm hbase
  unfold Oper.wp execOp
  simp only [ho, resolve, invoke, builtin, Sem.run_bind, Sem.run_pure, Result.andThen_ok, List.map_toArray, List.map_cons, List.map_nil, hs, hx, hr]
  exact hK _ _ (h v' w' h2 h3)
end Go.Proofs.Ytbabecjphmmngaa
namespace Go.Proofs.Ytbabecjphmmngaa
open Go.RowKit

/-- A byte is written: rows read otherwise, but for their lengths. -/
theorem Bs.poke {w : World} {u : Value} {l : List Int} (h : Bs w u l) {x : Addr} {y : Value} (hx : w.cell? x = some y) (z : Int) (hz : Byt z) : ∃ l', l'.length = l.length ∧ Bs (w.setCell x (.int .u8 z)) u l' := by
  obtain ⟨hb, oa, c, rfl, h2, h3, h4, h5⟩ := h
  by_cases h0 : 0 < l.length
  · obtain ⟨a, rfl⟩ : ∃ a, oa = some a := by
      cases oa with
      | some a => exact ⟨a, rfl⟩
      | none => exact absurd (h4 rfl) (by omega)
    refine ⟨lst l.length (fun i => if a.add i = x then z else l.getD i 0), lst_length _ _, lst_byt fun i _ => ?_, some a, c, by rw [lst_length], by rw [lst_length]; exact h2, h3, h4, fun a' ha i hi => ?_⟩
    · show Byt (if a.add i = x then z else l.getD i 0)
      split
      · exact hz
      · exact getD_byt hb i
    · cases ha
      rw [lst_length] at hi
      rw [lst_getD _ _ _ hi]
      by_cases e : a.add i = x
      · rw [if_pos e, e]
        exact World.cell?_setCell_same _ _ _ hx
      · rw [if_neg e, World.cell?_setCell_other _ _ _ _ (fun c => e c.symm)]
        exact h5 a rfl i hi
  · obtain rfl : l = [] := List.eq_nil_of_length_eq_zero (by omega)
    exact ⟨[], rfl, by simp, oa, c, rfl, h2, h3, h4, fun a _ i hi => by simp at hi⟩
/-- n rows of N bytes each, in memory of bytes from base on. -/
def OwnN (base : Nat) (w : World) (us : List Value) (n N : Nat) : Prop := ∀ i, i < n → (∃ l, l.length = N ∧ Bs w (us.getD i undef) l) ∧ Rn base w (us.getD i undef)
theorem OwnN.poke {base n N : Nat} {w : World} {us : List Value} (h : OwnN base w us n N) {x : Addr} {y : Value} {cur : Array Value} (hx : w.cell? x = some y) (hc : w.heap[x.block]? = some (.cells cur 5 (0, 0))) : OwnN base (w.setCell x (.int .u8 0)) us n N := fun i hi => by
  obtain ⟨⟨l, h1, h2⟩, h3⟩ := h i hi
  obtain ⟨l', h4, h5⟩ := h2.poke hx 0 (by unfold Byt; omega)
  refine ⟨⟨l', by rw [h4, h1], h5⟩, fun a m c e hm => ?_⟩
  obtain ⟨h6, cur', h7⟩ := h3 a m c e hm
  refine ⟨h6, ?_⟩
  by_cases e2 : a.block = x.block
  · rw [e2]
    simp only [World.setCell, Array.getElem?_modify, if_true, hc]
    exact ⟨_, rfl⟩
  · exact ⟨cur', by rw [heap_setCell_other _ _ _ _ e2]; exact h7⟩
/-- Rows of one's own, made since W, are overwritten. -/
structure Zeroing (W wr : World) (us : List Value) (g H N : Nat) : Prop where
  own : OwnN W.heap.size wr us H N
  cell : ∀ i, i < H → wr.cell? ⟨g, i, none⟩ = some (us.getD i undef)
  row : ∃ cur, wr.heap[g]? = some (.cells cur 23 (0, 0))
  gr : Gr W wr
theorem Zeroing.at {W wr : World} {us : List Value} {g H N : Nat} (h : Zeroing W wr us g H N) {i j : Nat} (hi : i < H) (hj : j < N) : ∃ a c v cur, us.getD i undef = .slice (some a) N c ∧ N ≤ c ∧ wr.cell? (a.add j) = some v ∧ wr.frozen? (a.add j) = false ∧ wr.heap[(a.add j).block]? = some (.cells cur 5 (0, 0)) ∧ W.heap.size ≤ (a.add j).block := by
  obtain ⟨⟨l, hl, hb⟩, hr⟩ := h.own i hi
  obtain ⟨a, c, h1, h2, h3, h4⟩ := Bs.at hb (by omega)
  rw [hl] at h1 h2 h4
  obtain ⟨h5, cur, h6⟩ := hr a N c h1 (by omega)
  have hab : (a.add j).block = a.block := by
    unfold Addr.add
    split <;> rfl
  refine ⟨a, c, _, cur, h1, h2, h4 j hj, ?_, by rw [hab]; exact h6, by rw [hab]; exact h5⟩
  unfold World.frozen?
  rw [hab, h6]
  simp
theorem Zeroing.poke {W wr : World} {us : List Value} {g H N : Nat} (h : Zeroing W wr us g H N) {x : Addr} {v : Value} {cur : Array Value} (hx : wr.cell? x = some v) (hc : wr.heap[x.block]? = some (.cells cur 5 (0, 0))) (hb : W.heap.size ≤ x.block) : Zeroing W (wr.setCell x (.int .u8 0)) us g H N := by
  obtain ⟨cur', h1⟩ := h.row
  have hne : g ≠ x.block := fun e => by
    rw [e, hc] at h1
    simp at h1
  refine ⟨h.own.poke hx hc, fun i hi => ?_, ⟨cur', by rw [heap_setCell_other _ _ _ _ hne]; exact h1⟩, Gr.setCell h.gr hb _⟩
  rw [World.cell?_setCell_other _ _ _ _ (fun e => hne (by rw [e]))]
  exact h.cell i hi
end Go.Proofs.Ytbabecjphmmngaa
namespace Go.Proofs.Ytbabecjphmmngaa
open Go.RowKit

theorem upTo_pre (m n : Int) (w : World) :
    Calls Try.prog 41 #[.int .i64 m, .int .i64 n] w fun e w' => e = .returned (.bool (decide (1 ≤ n ∧ n ≤ m))) ∧ w = w' := by
  by_cases h : 1 ≤ n
  · rw [show decide (1 ≤ n ∧ n ≤ m) = decide (n ≤ m) from by rw [decide_eq_decide]; omega]
    go_enter Try.func41, Try.ntmps41
    go_wp2
    go_ret
    exact ⟨rfl, rfl⟩
  · rw [decide_eq_false (by omega : ¬ (1 ≤ n ∧ n ≤ m))]
    go_enter Try.func41, Try.ntmps41
    go_wp2
    go_ret
    exact ⟨rfl, rfl⟩
set_option maxHeartbeats 800000 in
theorem may_pre (K H S : Int) (w : World) :
    Calls Try.prog 22 #[par K H S] w fun e w' => e = .returned (.bool (decide (MayP K H S))) ∧ Gr w w' := by
  have hd : decide (MayP K H S) = (decide (1 ≤ K ∧ K ≤ 16) && (decide (1 ≤ H ∧ H ≤ 4) && decide (1 ≤ S ∧ S ≤ 24))) := by
    rw [← Bool.decide_and, ← Bool.decide_and, decide_eq_decide]
    unfold MayP
    omega
  rw [hd]
  have b1 : ∀ x : Int, ∃ b : Bool, decide (1 ≤ x ∧ x ≤ 16) = b := fun x => ⟨_, rfl⟩
  obtain ⟨p, hp⟩ := b1 K
  obtain ⟨q, hq⟩ : ∃ b : Bool, decide (1 ≤ H ∧ H ≤ 4) = b := ⟨_, rfl⟩
  obtain ⟨r, hr⟩ : ∃ b : Bool, decide (1 ≤ S ∧ S ≤ 24) = b := ⟨_, rfl⟩
  have HP := Lib.hid hp
  have HQ := Lib.hid hq
  have HR := Lib.hid hr
  rw [hp, hq, hr]
  clear hp hq hr hd b1
  have P0 : Hid (Par (w.alloc (.cells #[.int .i64 K, .int .i64 H, .int .i64 S] 25)) w.heap.size K H S) := Lib.hid (heap_alloc_new _ _)
  have HG0 : Hid (Gr w (w.alloc (.cells #[.int .i64 K, .int .i64 H, .int .i64 S] 25))) := Lib.hid (Gr.alloc (Gr.refl _) _ _)
  go_enter Try.func22, Try.ntmps22
  cases p with
  | false =>
    go_wp2_with fail
    refine (upTo_pre 16 K _).mono ?_
    rw [HP.out]
    rintro e w1 ⟨rfl, rfl⟩
    go_wp2_with fail
    go_ret
    exact ⟨rfl, HG0.out⟩
  | true =>
    have c1 := P0.out.cell1
    have c2 := P0.out.cell2
    cases q with
    | false =>
      go_wp2_with fail
      refine (upTo_pre 16 K _).mono ?_
      rw [HP.out]
      rintro e w1 ⟨rfl, rfl⟩
      go_wp2_with fail
      refine (upTo_pre 4 H _).mono ?_
      rw [HQ.out]
      rintro e w1 ⟨rfl, rfl⟩
      go_wp2_with fail
      go_ret
      exact ⟨rfl, HG0.out⟩
    | true =>
      go_wp2_with fail
      refine (upTo_pre 16 K _).mono ?_
      rw [HP.out]
      rintro e w1 ⟨rfl, rfl⟩
      go_wp2_with fail
      refine (upTo_pre 4 H _).mono ?_
      rw [HQ.out]
      rintro e w1 ⟨rfl, rfl⟩
      go_wp2_with fail
      refine (upTo_pre 24 S _).mono ?_
      rw [HR.out]
      rintro e w1 ⟨rfl, rfl⟩
      go_wp2_with fail
      go_ret
      exact ⟨by simp, HG0.out⟩
set_option maxHeartbeats 400000 in
theorem cols_pre (K H S : Int) (w : World) :
    Calls Try.prog 38 #[par K H S] w fun e w' => e = .returned (.int .i64 (colsP K H S)) ∧ Gr w w' := by
  unfold colsP
  by_cases hm : MayP K H S
  · have hd := decide_eq_true hm
    have HM := Lib.hid hm
    rw [if_pos hm]
    have hk : -9223372036854775808 ≤ K + H ∧ K + H ≤ 9223372036854775807 := by have := hm; unfold MayP at this; omega
    have hwr : IntKind.i64.wrap (K + H) = K + H := by have := hk; simp [IntKind.wrap, IntKind.bits, IntKind.signed]; omega
    clear hm
    go_enter Try.func38, Try.ntmps38
    go_wp2_with fail
    refine (may_pre K H S _).mono ?_
    rw [hd]
    rintro e w1 ⟨rfl, hg⟩
    have P1 : Par w1 w.heap.size K H S := Par.grown (heap_alloc_new w _) hg
    have c0 := P1.cell0
    have c1 := P1.cell1
    have G1 := Lib.hid (Gr.trans (Gr.alloc (Gr.refl w) _ _) hg)
    clear hg P1
    go_wp2_with fail
    go_ret
    exact ⟨rfl, G1.out⟩
  · have hd := decide_eq_false hm
    rw [if_neg hm]
    clear hm
    go_enter Try.func38, Try.ntmps38
    go_wp2_with fail
    refine (may_pre K H S _).mono ?_
    rw [hd]
    rintro e w1 ⟨rfl, hg⟩
    have G1 := Lib.hid (Gr.trans (Gr.alloc (Gr.refl w) _ _) hg)
    clear hg
    go_wp2_with fail
    go_ret
    exact ⟨rfl, G1.out⟩
end Go.Proofs.Ytbabecjphmmngaa
