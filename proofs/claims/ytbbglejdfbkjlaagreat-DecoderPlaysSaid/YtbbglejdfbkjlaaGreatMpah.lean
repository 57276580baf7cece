/-
  Texts laid behind one another: Nc Jc Rx Js Jt Jp Az.
-/
import Derived.Test.YtbbglejdfbkjlaaGreatMpaf
import Derived.Test.YtbbglejdfbkjlaaGreatMpag
import Derived.Test.YtbbglejdfbkjlaaGreatMpac
import Derived.Laws.CopyOwn
import Derived.Test.YtbbglejdfbkjlaaGreatMpae
import Derived.Lib.AppendZerosOnto
namespace Go.Proofs.YtbbglejdfbkjlaaGreat
open Go.RowKit
structure EncOk (At : World → Value → (Nat → Prop) → Nat → Nat → Nat → Nat → List (List Int) → Prop) : Prop where
 ptr : ∀ {w : World} {y : Value} {F : Nat → Prop} {K H S seed : Nat} {M : List (List Int)}, At w y F K H S seed M → ∃ a, y = .pointer (some a)
 lt : ∀ {w : World} {y : Value} {F : Nat → Prop} {K H S seed : Nat} {M : List (List Int)}, At w y F K H S seed M → ∀ k, F k → k < w.heap.size
 keep : ∀ {w w' : World} {y : Value} {F G : Nat → Prop} {K H S seed : Nat} {M : List (List Int)}, At w y F K H S seed M → Kp G w w' → (∀ k, F k → ¬ G k) → At w' y F K H S seed M
 newArg : ∀ (K H S : Int) (seed : Nat) (v : Value) (D : List Int) (w : World), seed < 4294967296 → Bs w v D → D.length ≤ 100000 → ¬ (MayP K H S ∧ (D.length : Int) = K * S) →
  Calls Tryz.prog 12 #[par K H S, .int .u32 (seed : Int), v] w fun e w' => e = .returned (.tuple #[.pointer none, .int .i64 1]) ∧ Gr w w'
 newSeed : ∀ (K H S : Nat) (seed : Nat) (v : Value) (D : List Int) (w : World), seed < 4294967296 → Bs w v D → MayP K H S → D.length = K * S → ¬ RightP K H S seed →
  Calls Tryz.prog 12 #[par K H S, .int .u32 (seed : Int), v] w fun e w' => e = .returned (.tuple #[.pointer none, .int .i64 8]) ∧ Gr w w'
 new : ∀ (K H S : Nat) (seed : Nat) (v : Value) (D : List Int) (w : World), seed < 4294967296 → Bs w v D → MayP K H S → D.length = K * S → RightP K H S seed →
  Calls Tryz.prog 12 #[par K H S, .int .u32 (seed : Int), v] w fun e w' => ∃ y F M, e = .returned (.tuple #[y, .int .i64 0]) ∧ IsMid K H S seed D M ∧ At w' y F K H S seed M ∧ Gr w w' ∧ ∀ k, F k → w.heap.size ≤ k
 symbol : ∀ (y : Value) (F : Nat → Prop) (K H S seed : Nat) (M : List (List Int)) (id : Int) (w : World), MayP K H S → seed < 4294967296 → At w y F K H S seed M → Wide S M → M.length = K + H → I64 id →
  Calls Tryz.prog 22 #[y, .int .i64 id] w fun e w' => ∃ v, e = .returned v ∧ New w w' v (symP K H S seed M id)
 symbolNil : ∀ (id : Int) (w : World), I64 id → Calls Tryz.prog 22 #[.pointer none, .int .i64 id] w fun e w' => ∃ v, e = .returned v ∧ New w w' v []
theorem Bs.addr {w : World} {oa : Option Addr} {m c : Nat} {l : List Int} (h : Bs w (.slice oa m c) l) (hm : 0 < m) : ∃ a, oa = some a := by
 obtain ⟨_, oa', c', he, h2, h3, h4, h5⟩ := h
 obtain ⟨rfl, rfl, rfl⟩ : oa = oa' ∧ m = l.length ∧ c = c' := by simpa using he
 cases oa with
 | none => have := h4 rfl; omega
 | some a => exact ⟨a, rfl⟩
theorem Bs.part {w : World} {b : Addr} {m c lo hi : Nat} {l : List Int} (h : Bs w (.slice (some b) m c) l) (h1 : lo ≤ hi) (h2 : hi ≤ m) : Bs w (.slice (if c = lo then some b else some (b.add lo)) (hi - lo) (c - lo)) ((l.drop lo).take (hi - lo)) := by
 obtain ⟨h0, oa', c', he, p2, p3, p4, p5⟩ := h
 obtain ⟨rfl, rfl, rfl⟩ : some b = oa' ∧ m = l.length ∧ c = c' := by simpa using he
 have hl : ((l.drop lo).take (hi - lo)).length = hi - lo := by rw [List.length_take, List.length_drop]; omega
 refine ⟨fun x hx => h0 x (List.mem_of_mem_drop (List.mem_of_mem_take hx)), _, _, by rw [hl], by rw [hl]; omega, by omega, (fun e => by split at e <;> cases e), fun a ha i hi2 => ?_⟩
 rw [hl] at hi2
 rw [if_neg (by omega)] at ha
 cases ha
 rw [Addr.add_add', p5 b rfl (lo + i) (by omega), List.getD_eq_getElem?_getD, List.getD_eq_getElem?_getD, List.getElem?_take_of_lt hi2, List.getElem?_drop]
theorem EncOk.grown {At : World → Value → (Nat → Prop) → Nat → Nat → Nat → Nat → List (List Int) → Prop} (E : EncOk At) {w w' : World} {y : Value} {F : Nat → Prop} {K H S s : Nat} {M : List (List Int)} (h : At w y F K H S s M) (hg : Gr w w') : At w' y F K H S s M :=
 E.keep h (hg.kp fun _ => False) fun _ _ e => e
def nthS (s i : Nat) : Nat := (s + i) % 4294967296
theorem nthS_lt (s i : Nat) : nthS s i < 4294967296 := Nat.mod_lt _ (by omega)
theorem nthS_back (s i : Nat) (h : i ≤ 24) : ((((nthS s i : Nat) : Int) - s) % 4294967296).toNat = i := by
 unfold nthS
 omega
theorem nthS_succ (s i : Nat) : IntKind.u32.wrap ((nthS s i : Int) + 1) = (nthS s (i + 1) : Int) := by
 simp [IntKind.wrap, IntKind.bits, IntKind.signed]
 unfold nthS
 omega
set_option maxRecDepth 100000 in
set_option maxHeartbeats 800000 in
theorem seed_any (O : SystemOk) (K H S sd : Int) (w : World) :
  Calls Tryz.prog 11 #[par K H S, .int .u64 sd] w fun e w' => ∃ t : Nat, e = .returned (.int .u32 (t : Int)) ∧ t < 4294967296 ∧ Gr w w' := by
 have HO := Lib.hid O
 clear O
 obtain ⟨s0, hs0, hs1⟩ : ∃ s : Nat, sd % 4294967296 = s ∧ s < 4294967296 := ⟨(sd % 4294967296).toNat, by omega, by omega⟩
 have hw32 : IntKind.u32.wrap sd = (s0 : Int) := by rw [← hs0]; simp [IntKind.wrap, IntKind.bits, IntKind.signed]
 have h24 : IntKind.u32.wrap ((s0 : Int) + 24) = (nthS s0 24 : Int) := by simp [IntKind.wrap, IntKind.bits, IntKind.signed, nthS]
 have HP0 : Hid (Par (w.alloc (.cells #[.int .i64 K, .int .i64 H, .int .i64 S] 23)) w.heap.size K H S) := Lib.hid (heap_alloc_new _ _)
 have HG0 : Hid (Gr w (w.alloc (.cells #[.int .i64 K, .int .i64 H, .int .i64 S] 23))) := Lib.hid (Gr.alloc (Gr.refl _) _ _)
 have h00 : nthS s0 0 = s0 := by unfold nthS; omega
 have H00 := Lib.hid h00
 clear h00
 go_enter Tryz.func11, Tryz.ntmps11
 go_wp2_with fail
 generalize w.alloc (.cells #[.int .i64 K, .int .i64 H, .int .i64 S] 23) = W0 at *
 generalize w.heap.size = gp at *
 go_loopw [5] (fun iv W => ∃ i : Nat, i ≤ 24 ∧ iv = .int .u32 (nthS s0 i : Int) ∧ Gr W0 W) (fun iv _ => 24 - ((intOf iv - s0) % 4294967296).toNat)
 case atStart => exact ⟨0, by omega, by rw [H00.out], Gr.refl _⟩
 case round =>
  obtain ⟨wo, hwo⟩ : ∃ x, x = wr := ⟨_, rfl⟩
  subst hwo
  obtain ⟨i, hi, rfl, hg⟩ := hrel
  have HG := Lib.hid (Gr.trans HG0.out hg)
  have HGI := Lib.hid hg
  have HP := Lib.hid (HP0.out.grown hg)
  clear hg
  have c0 := HP.out.cell0
  have c1 := HP.out.cell1
  have c2 := HP.out.cell2
  by_cases hlt : i < 24
  ·have hne : nthS s0 i ≠ nthS s0 24 := by unfold nthS; omega
   have hne2 : ((nthS s0 i : Int) == (nthS s0 24 : Int)) = false := by rw [beq_eq_false_iff_ne]; omega
   have hsu := nthS_succ s0 i
   have hb1 := nthS_back s0 i (by omega)
   have hb2 := nthS_back s0 (i + 1) (by omega)
   have HB1 := Lib.hid hb1
   have HB2 := Lib.hid hb2
   have HLT := Lib.hid (nthS_lt s0 i)
   clear hb1 hb2
   obtain ⟨q, hq⟩ : ∃ q, nthS s0 i = q := ⟨_, rfl⟩
   obtain ⟨q1, hq1⟩ : ∃ q, nthS s0 (i + 1) = q := ⟨_, rfl⟩
   obtain ⟨q2, hq2⟩ : ∃ q, nthS s0 24 = q := ⟨_, rfl⟩
   rw [hq, hq2] at hne hne2
   rw [hq, hq1] at hsu
   rw [hq] at HB1 HLT
   rw [hq1] at HB2
   rw [hq2] at h24
   have HQ1 := Lib.hid hq1
   rw [hq]
   clear hq hq1 hq2
   go_wp2_with fail
   refine (HO.out.right K H S q _ HLT.out).mono ?_
   by_cases hr : RightP K H S q
   ·rw [decide_eq_true hr]
    rintro e w2 ⟨rfl, hg2⟩
    have HG2 := Lib.hid (Gr.trans HG.out hg2)
    clear hg2 hr
    go_wp2_with fail
    go_ret
    exact ⟨q, rfl, HLT.out, HG2.out⟩
   ·rw [decide_eq_false hr]
    rintro e w2 ⟨rfl, hg2⟩
    have HG2 := Lib.hid (Gr.trans HGI.out hg2)
    clear hg2 hr
    go_wp2_with fail
    exact ⟨⟨i + 1, by omega, by rw [HQ1.out], HG2.out⟩, by simp [intOf]; rw [HB1.out, HB2.out]; omega⟩
  ·obtain rfl : i = 24 := by omega
   go_wp2_with fail
   go_ret
   exact ⟨s0, rfl, hs1, HG.out⟩
def dataL (l : List Int) (n : Nat) : List Int := l.take n ++ List.replicate (n - l.length) 0
theorem dataL_length (l : List Int) (n : Nat) : (dataL l n).length = n := by
 unfold dataL
 rw [List.length_append, List.length_take, List.length_replicate]
 omega
theorem dataL_byt {l : List Int} (h : ∀ z ∈ l, Byt z) (n : Nat) : ∀ z ∈ dataL l n, Byt z := fun z hz => by
 unfold dataL at hz
 rw [List.mem_append] at hz
 rcases hz with hz | hz
 ·exact h z (List.mem_of_mem_take hz)
 ·exact replicate_byt _ z hz
theorem new_block {w W : World} {g n : Nat} {L : List Int} (hg : Gr w W) (hge : w.heap.size ≤ g) (hb : Blk W g L) (hl : L.length = n) (hB : ∀ z ∈ L, Byt z) (hn : n ≤ 1000000) : New w W (.slice (some ⟨g, 0, none⟩) n n) L :=
 ⟨hg, hB, .inr ⟨g, n, _, by rw [hl], hge, hb, by omega, by omega, fun i hi => rowB_get _ i hi⟩⟩
set_option maxRecDepth 100000 in
set_option maxHeartbeats 800000 in
theorem data_any (v : Value) (l : List Int) (n : Nat) (w : World) (hb : Bs w v l) (h1 : 1 ≤ n) (h2 : n ≤ 1000) :
  Calls Tryz.prog 13 #[v, .int .i64 (n : Int)] w fun e w' => ∃ u, e = .returned u ∧ New w w' u (dataL l n) := by
 have HBY := Lib.hid hb.1
 have hmk := make22 n n (by omega) (by omega)
 have hsz : (Tryz.prog.info? 5).map (·.size) = some 1 := by kernel_rfl
 have SZ := Lib.hid hsz
 have hB := heap_alloc_new w (.cells (rowB (List.replicate n 0)) 5)
 have HB := Lib.hid hB
 clear hsz hB
 by_cases h0 : 0 < l.length
 ·obtain ⟨a, c, rfl, _, _, h3⟩ := Bs.at hb h0
  obtain ⟨m, hm⟩ : ∃ m, l.length = m := ⟨_, rfl⟩
  rw [hm] at h3 ⊢
  have HM := Lib.hid hm
  have HC := Lib.hid h3
  have HS : Hid (((l.take n).map (Value.int .u8)).length = Nat.min m n) := Lib.hid (by rw [List.length_map, List.length_take, HM.out]; exact Nat.min_comm _ _)
  have HF : Hid (0 + ((l.take n).map (Value.int .u8)).length ≤ (rowB (List.replicate n 0)).size) := Lib.hid (by rw [List.length_map, List.length_take, rowB_size, List.length_replicate]; omega)
  have H1 : Hid (∀ v ∈ (l.take n).map (Value.int .u8), v.oneCell' = true) := Lib.hid (by
    intro v hv
    obtain ⟨x, _, rfl⟩ := List.mem_map.1 hv
    rfl)
  have HV : Hid (∀ j v, ((l.take n).map (Value.int .u8))[j]? = some v → (w.alloc (.cells (rowB (List.replicate n 0)) 5)).cell? (a.add j) = some v) := Lib.hid (by
    intro j v hv
    have hj := (List.getElem?_eq_some_iff.1 hv).1
    rw [List.length_map, List.length_take, HM.out] at hj
    rw [cell_grown (Gr.alloc (Gr.refl _) _ _) (HC.out j (by omega))]
    rw [List.getElem?_map, List.getElem?_take_of_lt (by omega), List.getElem?_eq_getElem (by rw [HM.out]; omega)] at hv
    rw [List.getD_eq_getElem?_getD, List.getElem?_eq_getElem (by rw [HM.out]; omega)]
    simpa using hv)
  have HR : Hid (((l.take n).map (Value.int .u8) ++ List.drop ((l.take n).map (Value.int .u8)).length (rowB (List.replicate n 0)).toList).toArray = rowB (dataL l n)) := Lib.hid (by
    unfold dataL rowB
    simp only [List.map_append, List.map_replicate, List.length_map, List.length_take, List.drop_replicate]
    congr 3
    omega)
  clear h3 hb
  generalize (l.take n).map (Value.int .u8) = cs at *
  generalize rowB (List.replicate n 0) = cur at *
  go_enter Tryz.func13, Tryz.ntmps13
  go_wp2_with (refine wpList_copy_own rfl _ _ 25 25 rfl 5 Tryz.underlying25 SZ.out w.heap.size 0 n n a m c rfl rfl cur 5 HB.out cs HS.out HV.out HF.out H1.out ?_)
  rw [World.setRow_alloc_new, HR.out]
  clear HR H1 HV HF HS HB SZ HC hmk
  go_wp2_with fail
  go_ret
  exact ⟨_, rfl, new_block (Gr.alloc (Gr.refl _) _ _) (Nat.le_refl _) (heap_alloc_new _ _) (dataL_length _ _) (dataL_byt HBY.out n) (by omega)⟩
 ·obtain rfl : l = [] := List.eq_nil_of_length_eq_zero (by omega)
  obtain ⟨_, oa, c, rfl, _, _, _, _⟩ := hb
  have HR : Hid (rowB (List.replicate n 0) = rowB (dataL [] n)) := Lib.hid (by unfold dataL; simp)
  generalize rowB (List.replicate n 0) = cur at *
  clear HB
  go_enter Tryz.func13, Tryz.ntmps13
  go_wp2_with (refine wpList_copy_nothing rfl _ _ 25 25 rfl 5 Tryz.underlying25 SZ.out _ _ _ _ _ _ rfl rfl rfl ?_)
  go_ret
  rw [HR.out]
  exact ⟨_, rfl, new_block (Gr.alloc (Gr.refl _) _ _) (Nat.le_refl _) (heap_alloc_new _ _) (dataL_length _ _) (dataL_byt HBY.out n) (by omega)⟩
end Go.Proofs.YtbbglejdfbkjlaaGreat
namespace Go.Proofs.YtbbglejdfbkjlaaGreat
open Go.RowKit
structure DecOk (At : World → Value → (Nat → Prop) → Nat → Nat → Nat → Nat → List Symb → Prop) : Prop where
 ptr : ∀ {w : World} {d : Value} {F : Nat → Prop} {K H S seed : Nat} {Y : List Symb}, At w d F K H S seed Y → ∃ a, d = .pointer (some a)
 lt : ∀ {w : World} {d : Value} {F : Nat → Prop} {K H S seed : Nat} {Y : List Symb}, At w d F K H S seed Y → ∀ k, F k → k < w.heap.size
 keep : ∀ {w w' : World} {d : Value} {F G : Nat → Prop} {K H S seed : Nat} {Y : List Symb}, At w d F K H S seed Y → Kp G w w' → (∀ k, F k → ¬ G k) → At w' d F K H S seed Y
 block : ∀ (K H S : Int) (seed : Nat) (v : Value) (Y : List Symb) (w : World), seed < 4294967296 → Syms w v Y → Y.length ≤ 800 → (∀ q ∈ Y, q.d.length ≤ 1000) →
  Calls Tryz.prog 17 #[par K H S, .int .u32 (seed : Int), v] w fun e w' => ∃ u x out, e = .returned (.tuple #[u, .int .i64 x]) ∧ Bs w' u out ∧ Gr w w' ∧ DecSays K H S seed Y x out
 new : ∀ (K H S : Nat) (seed : Nat) (w : World), seed < 4294967296 → MayP K H S →
  Calls Tryz.prog 23 #[par K H S, .int .u32 (seed : Int)] w fun e w' => ∃ d F, e = .returned d ∧ At w' d F K H S seed [] ∧ Gr w w' ∧ ∀ k, F k → w.heap.size ≤ k
 newNe : ∀ (K H S : Int) (seed : Nat) (w : World), seed < 4294967296 → ¬ MayP K H S →
  Calls Tryz.prog 23 #[par K H S, .int .u32 (seed : Int)] w fun e w' => e = .returned (.pointer none) ∧ Gr w w'
 add : ∀ (d : Value) (F : Nat → Prop) (K H S seed : Nat) (Y : List Symb) (id : Int) (v : Value) (x : List Int) (w : World), MayP K H S → seed < 4294967296 → At w d F K H S seed Y → AllY K H S Y → Y.length ≤ 700 → MayI id → Bs w v x → (∀ a m c, v = .slice (some a) m c → 0 < m → ¬ F a.block) → x.length = S →
  Calls Tryz.prog 25 #[d, .int .i64 id, v] w fun e w' => ∃ F', e = .returned (.bool true) ∧ At w' d F' K H S seed (Y ++ [⟨id, x⟩]) ∧ Kp F w w' ∧ ∀ k, F' k → F k ∨ w.heap.size ≤ k
 addNe : ∀ (d : Value) (F : Nat → Prop) (K H S seed : Nat) (Y : List Symb) (id : Int) (v : Value) (x : List Int) (w : World), MayP K H S → seed < 4294967296 → At w d F K H S seed Y → AllY K H S Y → Y.length ≤ 700 → I64 id → Bs w v x → x.length ≤ 1000 → ¬ (MayI id ∧ x.length = S) →
  Calls Tryz.prog 25 #[d, .int .i64 id, v] w fun e w' => ∃ F', e = .returned (.bool false) ∧ At w' d F' K H S seed Y ∧ Kp F w w' ∧ ∀ k, F' k → F k ∨ w.heap.size ≤ k
 need : ∀ (d : Value) (F : Nat → Prop) (K H S seed : Nat) (Y : List Symb) (w : World), MayP K H S → seed < 4294967296 → At w d F K H S seed Y → AllY K H S Y → Y.length ≤ 700 →
  Calls Tryz.prog 26 #[d] w fun e w' => ∃ F', e = .returned (.int .i64 ((K : Int) + H - (rkL (matP K H S seed (idsY Y)) : Int))) ∧ At w' d F' K H S seed Y ∧ Kp F w w' ∧ ∀ k, F' k → F k ∨ w.heap.size ≤ k
 blockM : ∀ (d : Value) (F : Nat → Prop) (K H S seed : Nat) (Y : List Symb) (w : World), MayP K H S → seed < 4294967296 → At w d F K H S seed Y → AllY K H S Y → Y.length ≤ 700 →
  Calls Tryz.prog 29 #[d] w fun e w' => ∃ F' u x out, e = .returned (.tuple #[u, .int .i64 x]) ∧ Bs w' u out ∧ DecSays K H S seed Y x out ∧ At w' d F' K H S seed Y ∧ Kp F w w' ∧ ∀ k, F' k → F k ∨ w.heap.size ≤ k
 addNil : ∀ (id : Int) (v : Value) (x : List Int) (w : World), I64 id → Bs w v x → x.length ≤ 1000 → Calls Tryz.prog 25 #[.pointer none, .int .i64 id, v] w fun e w' => e = .returned (.bool false) ∧ Gr w w'
 needNil : ∀ (w : World), Calls Tryz.prog 26 #[.pointer none] w fun e w' => e = .returned (.int .i64 0) ∧ Gr w w'
 blockNil : ∀ (w : World), Calls Tryz.prog 29 #[.pointer none] w fun e w' => ∃ u, e = .returned (.tuple #[u, .int .i64 1]) ∧ Bs w' u [] ∧ Gr w w'
theorem dec_none {e : Int} {out : List Int} (hs : DecSays 1 1 1 0 [] e out) : e = 9 := by
 have hm : MayP ((1 : Nat) : Int) ((1 : Nat) : Int) ((1 : Nat) : Int) := by unfold MayP; omega
 exact (dec_less (K := 1) (H := 1) (S := 1) (seed := 0) (D := [0]) (l := []) hm rfl (by simp) (by simp) hs).1
set_option maxRecDepth 100000 in
set_option maxHeartbeats 400000 in
theorem decWakes_any {At : World → Value → (Nat → Prop) → Nat → Nat → Nat → Nat → List Symb → Prop} (O : DecOk At) (w : World) : Calls Tryz.prog 9 #[] w fun e w' => e = .returned (.bool true) ∧ Gr w w' := by
 have HO := Lib.hid O
 clear O
 go_enter Tryz.func9, Tryz.ntmps9
 go_wp2_with fail
 refine (HO.out.block 1 1 1 0 _ [] _ (by omega) (Syms.nil _) (by simp) (by simp)).mono ?_
 rintro e w1 ⟨u, x, out, rfl, hb, hg, hs⟩
 have hx := dec_none hs
 subst hx
 obtain ⟨o, m, c, rfl⟩ := Bs.form4 hb
 have G1 := Lib.hid hg
 clear hb hg hs
 go_wp2_with fail
 go_ret
 exact ⟨rfl, G1.out⟩
def ids60 (l : List Int) (n : Nat) : List Int := (l.take n).map fun x => x % 60
theorem ids60_may (l : List Int) (n : Nat) : ∀ i ∈ ids60 l n, MayI i := fun i hi => by
 obtain ⟨x, _, rfl⟩ := List.mem_map.1 hi
 unfold MayI
 omega
theorem ids60_length (l : List Int) (n : Nat) : (ids60 l n).length = min n l.length := by simp [ids60]
theorem ids60_succ {l : List Int} {i : Nat} (h : i < l.length) : ids60 l (i + 1) = ids60 l i ++ [l.getD i 0 % 60] := by
 unfold ids60
 rw [List.take_add_one, List.getElem?_eq_getElem h, List.getD_eq_getElem?_getD, List.getElem?_eq_getElem h, List.map_append]
 rfl
theorem ids60_all {l : List Int} {n : Nat} (h : l.length ≤ n) : ids60 l n = ids60 l l.length := by
 unfold ids60
 rw [List.take_of_length_le h, List.take_of_length_le (Nat.le_refl _)]
theorem symY_snoc (K H S seed : Nat) (M : List (List Int)) (ids : List Int) (i : Int) : symY K H S seed M (ids ++ [i]) = symY K H S seed M ids ++ [⟨i, symP K H S seed M i⟩] := by simp [symY]
set_option maxRecDepth 100000 in
set_option maxHeartbeats 1600000 in
theorem symbols_any {At : World → Value → (Nat → Prop) → Nat → Nat → Nat → Nat → List (List Int) → Prop} (E : EncOk At) (y va : Value) (F : Nat → Prop) (K H S seed most : Nat) (M : List (List Int)) (l : List Int) (w : World) (hm : MayP K H S) (hs : seed < 4294967296)
  (hat : At w y F K H S seed M) (hM : Wide S M) (hMl : M.length = K + H) (hz : Zs w va l) (hmo : most ≤ 1000) :
  Calls Tryz.prog 14 #[y, va, .int .i64 (most : Int)] w fun e w' => ∃ v, e = .returned v ∧ SymsO (fun k => w.heap.size ≤ k) w.heap.size w' v (symY K H S seed M (ids60 l most)) ∧ Gr w w' := by
 have HE := Lib.hid E
 have HM := Lib.hid hm
 have HS := Lib.hid hs
 have HAT := Lib.hid hat
 have HMW := Lib.hid hM
 have HML := Lib.hid hMl
 have HZ := Lib.hid hz
 obtain ⟨oa, ca, rfl⟩ := hz.form
 obtain ⟨n, hn⟩ : ∃ n, l.length = n := ⟨_, rfl⟩
 rw [hn] at HZ ⊢
 have HN := Lib.hid hn
 obtain ⟨ay, rfl⟩ := E.ptr hat
 clear E hm hs hat hM hMl hz hn
 go_enter Tryz.func14, Tryz.ntmps14
 go_wp2_with fail
 go_loopw [7, 8] (fun sv iv W => ∃ i : Nat, i ≤ n ∧ i ≤ most ∧ iv = .int .i64 i ∧ SymsO (fun k => w.heap.size ≤ k) w.heap.size W sv (symY K H S seed M (ids60 l i)) ∧ Gr w W) (fun _ iv _ => n - (intOf iv).toNat)
 case atStart => exact ⟨0, by omega, by omega, rfl, by simpa [ids60, symY] using SymsO.nil _ _, Gr.refl _⟩
 case round =>
  obtain ⟨wo, hwo⟩ : ∃ x, x = wr := ⟨_, rfl⟩
  subst hwo
  obtain ⟨i, hi, him, rfl, ho, hg⟩ := hrel
  have hlen : (symY K H S seed M (ids60 l i)).length = i := by rw [symY_length, ids60_length, HN.out]; omega
  obtain ⟨oo, co, e0⟩ := ho.form
  rw [hlen] at e0
  subst e0
  have OO := Lib.hid ho
  have GG := Lib.hid hg
  have HLN := Lib.hid hlen
  clear ho hg hlen
  by_cases h1 : i < n
  ·by_cases h2 : i < most
   ·obtain ⟨aa, rfl⟩ := HZ.out.addr (by omega)
    have q1 := (HZ.out.grown GG.out).cellAt h1
    obtain ⟨x, hx⟩ : ∃ x, l.getD i 0 = x := ⟨_, rfl⟩
    rw [hx] at q1
    have hst : symY K H S seed M (ids60 l (i + 1)) = symY K H S seed M (ids60 l i) ++ [⟨x % 60, symP K H S seed M (x % 60)⟩] := by
     rw [ids60_succ (by rw [HN.out]; exact h1), hx, symY_snoc]
    have HST := Lib.hid hst
    obtain ⟨z, hz, hz0, hz1⟩ : ∃ z : Nat, x % 60 = (z : Int) ∧ 0 ≤ z ∧ z < 60 := ⟨(x % 60).toNat, by omega, by omega, by omega⟩
    have HZZ := Lib.hid hz
    clear hst hx hz
    go_wp2_with fail
    refine (within_any x 60 (by omega) (by omega) _).mono ?_
    rintro e w' ⟨rfl, rfl⟩
    rw [HZZ.out]
    go_wp2_with fail
    refine (HE.out.symbol _ F K H S seed M z _ HM.out HS.out (HE.out.grown HAT.out GG.out) HMW.out HML.out ⟨by omega, by omega⟩).mono ?_
    rintro e w2 ⟨v2, rfl, hn2⟩
    obtain ⟨o2, m2, c2, rfl⟩ := New.form3 hn2
    have N2 := Lib.hid hn2
    have gA : Gr w2 (w2.alloc (.cells #[.int .i64 (z : Int), .slice o2 m2 c2] 30)) := Gr.alloc (Gr.refl _) _ _
    have GA := Lib.hid gA
    have C0 : Hid ((w2.alloc (.cells #[.int .i64 (z : Int), .slice o2 m2 c2] 30)).cell? ⟨w2.heap.size, 0, none⟩ = some (.int .i64 (z : Int))) := Lib.hid (by rw [cell_of_row _ _ 0 _ _ _ (heap_alloc_new _ _)]; rfl)
    have C1 : Hid ((w2.alloc (.cells #[.int .i64 (z : Int), .slice o2 m2 c2] 30)).cell? ⟨w2.heap.size, 1, none⟩ = some (.slice o2 m2 c2)) := Lib.hid (by rw [cell_of_row _ _ 1 _ _ _ (heap_alloc_new _ _)]; rfl)
    have OA := Lib.hid (OO.out.grown (Gr.trans hn2.1 gA))
    have hv : SyVal (fun k => w.heap.size ≤ k) w.heap.size (w2.alloc (.cells #[.int .i64 (z : Int), .slice o2 m2 c2] 30)) (.int .i64 (z : Int)) (.slice o2 m2 c2) ⟨(z : Int), symP K H S seed M z⟩ := by
     have hb := Rb.gr (New.bs hn2) (New.rb hn2 w.heap.size) gA
     have hz64 : I64 (z : Int) := ⟨by omega, by omega⟩
     refine ⟨rfl, hz64, hb.1, hb.2, fun a m c e hmm => ?_⟩
     obtain ⟨_, _, ⟨_, oa', c', e2, _⟩ | ⟨g, c', cur, e2, q, _⟩⟩ := hn2
     ·rw [e2] at e
      cases e
      omega
     ·rw [e2] at e
      cases e
      exact Nat.le_trans GG.out.size q
    have HV := Lib.hid hv
    clear gA hn2 hv
    go_wp2_with (at_builtin; refine wpList_append_sy rfl _ _ rfl w.heap.size (.slice oo i co) (symY K H S seed M (ids60 l i)) rfl OA.out w2.heap.size (.int .i64 (z : Int)) (.slice o2 m2 c2) ⟨(z : Int), symP K H S seed M z⟩ rfl C0.out C1.out HV.out (by rw [HLN.out]; omega) (by have := GG.out.size; have := N2.out.1.size; simp; omega) ?_; intro v4 w4 h4 hg4 hgr4 hn4; have O4 := Lib.hid h4; have G4 := Lib.hid (hg4 w (Gr.trans GG.out (Gr.trans N2.out.1 GA.out)) (Nat.le_refl _)); clear h4 hg4 hgr4 hn4)
    exact ⟨⟨i + 1, by omega, by omega, by go_num, by rw [HST.out, HZZ.out]; exact O4.out, G4.out⟩, by simp [intOf]; omega⟩
   ·obtain rfl : i = most := by omega
    go_wp2_with fail
    go_ret
    exact ⟨_, rfl, OO.out, GG.out⟩
  ·obtain rfl : i = n := by omega
   go_wp2_with fail
   go_ret
   refine ⟨_, rfl, ?_, GG.out⟩
   rw [ids60_all (by rw [HN.out]; omega), HN.out]
   exact OO.out
end Go.Proofs.YtbbglejdfbkjlaaGreat
namespace Go.Proofs.YtbbglejdfbkjlaaGreat
open Go.RowKit
structure Rx (base : Nat) (W : World) (g n c k : Nat) (Lm : List (List Int)) (us : List Value) : Prop where
 own : W.ownsRow base 25 1 (.slice (some ⟨g, 0, none⟩) n c) n us
 row : ∀ i, i < n → Bs W (us.getD i undef) (Lm.getD i []) ∧ Rb base W (us.getD i undef)
 len : Lm.length = n
 wide : Wide k Lm
section
variable {base : Nat} {w0 W : World} {g n c k : Nat} {A Lm : List (List Int)} {us : List Value} {ps : List Nat} {col : Nat}
theorem Rx.cell (h : Rx base W g n c k Lm us) (i : Nat) (hi : i < n) :
  ∃ oi ci, us.getD i undef = .slice oi k ci ∧ W.cell? ⟨g, i, none⟩ = some (.slice oi k ci) ∧ ∀ j, j < k → ∃ a, oi = some a ∧ W.cell? (a.add j) = some (.int .u8 ((Lm.getD i []).getD j 0)) := by
 obtain ⟨g', c', he, _, _, _, _, hc⟩ := ownsRow_cell h.own (by omega)
 cases he
 have hb := (h.row i hi).1
 have hw := (h.wide.at i (by rw [h.len]; exact hi)).1
 obtain ⟨_, oi, ci, e, h1, _, h3, h4⟩ := hb
 rw [hw] at e h1 h4
 refine ⟨oi, ci, e, by rw [hc i hi, e], fun j hj => ?_⟩
 cases oi with
 | none => exact absurd (h3 rfl) (by omega)
 | some a => exact ⟨a, rfl, h4 a rfl j hj⟩
theorem Rx.frozen (h : Rx base W g n c k Lm us) (i : Nat) : W.frozen? ⟨g, i, none⟩ = false := by
 obtain ⟨_, ⟨he, _⟩ | ⟨g', c', cur, he, _, hg, _⟩⟩ := h.own
 ·cases he
 ·cases he
  exact frozen_of_row W g i _ _ hg
theorem Rx.low (h : Rx base W g n c k Lm us) : base ≤ g := (ownsRow_not_bytes h.own g rfl).1
theorem Rx.grow {W' : World} (h : Rx base W g n c k Lm us) (hg : Gr W W') : Rx base W' g n c k Lm us :=
 ⟨h.own.of_gr hg, fun i hi => Rb.gr (h.row i hi).1 (h.row i hi).2 hg, h.len, h.wide⟩
theorem Rx.put {u : Value} {l : List Int} (h : Rx base W g n c k Lm us) (i : Nat) (hi : i < n) (hb : Bs W u l) (hrb : Rb base W u) (hl : l.length = k) : Rx base (W.setCell ⟨g, i, none⟩ u) g n c k (Lm.set i l) (us.set i u) := by
 obtain ⟨h1, h2⟩ := Rws.set h.own h.len h.row i hi hb hrb
 exact ⟨h1, h2, by rw [List.length_set]; exact h.len, h.wide.set i hl hb.1⟩
theorem ownsRow_far {v : Value} {e : TypeId} {size m g' i : Nat} {u : Value} {xs : List Value} (h : W.ownsRow base e size v m xs) (hne : v.ownBlock ≠ some g') : (W.setCell ⟨g', i, none⟩ u).ownsRow base e size v m xs := by
 obtain ⟨h0, h1 | ⟨g, c, cur, rfl, hb, hg, h2⟩⟩ := h
 ·exact ⟨h0, .inl h1⟩
 ·refine ⟨h0, .inr ⟨g, c, cur, rfl, hb, ?_, h2⟩⟩
  rw [heap_setCell_other _ _ _ _ (fun e => hne (by subst e; rfl))]
  exact hg
theorem row_far {g' i : Nat} {u v : Value} {l : List Int} (hb : Bs W v l) (hr : Rb base W v) (hrow : ∀ q, some g' = some q → base ≤ q ∧ ∀ cur, W.heap[q]? ≠ some (.cells cur 5 (0, 0))) : Bs (W.setCell ⟨g', i, none⟩ u) v l ∧ Rb base (W.setCell ⟨g', i, none⟩ u) v :=
 Rb.kept hb hr (row := some g') (fun j _ hne => heap_setCell_other _ _ _ _ (fun e => hne (by rw [e]))) hrow
theorem Rx.far {g' i : Nat} {u : Value} (h : Rx base W g n c k Lm us) (hne : g ≠ g') (hrow : ∀ q, some g' = some q → base ≤ q ∧ ∀ cur, W.heap[q]? ≠ some (.cells cur 5 (0, 0))) : Rx base (W.setCell ⟨g', i, none⟩ u) g n c k Lm us :=
 ⟨ownsRow_far h.own (fun e => hne (by cases e; rfl)), fun j hj => row_far (h.row j hj).1 (h.row j hj).2 hrow, h.len, h.wide⟩
theorem Mx.rx (h : Mx w0 W g n c k A Lm ps col us) : Rx w0.heap.size W g n c k Lm us := ⟨h.own, h.row, h.len, h.wide⟩
theorem Rx.mx (h : Rx w0.heap.size W g n c k Lm us) (he : L.Ech (A.map vec) (Lm.map vec) ps col) (hg : Gr w0 W) : Mx w0 W g n c k A Lm ps col us := ⟨h.own, h.row, h.len, h.wide, he, hg⟩
theorem Rx.blk (h : Rx base W g n c k Lm us) : ∀ q, some g = some q → base ≤ q ∧ ∀ cur, W.heap[q]? ≠ some (.cells cur 5 (0, 0)) := fun q e => by
 cases e
 exact ownsRow_not_bytes h.own g rfl
theorem Rx.some_cell (h : Rx base W g n c k Lm us) (i j : Nat) (u : Value) (hj : j < n) : ∃ y, (W.setCell ⟨g, i, none⟩ u).cell? ⟨g, j, none⟩ = some y := by
 obtain ⟨_, ⟨he, _⟩ | ⟨g', c', cur, he, _, hg, hh1, hh2, hh3, _⟩⟩ := h.own
 ·cases he
 ·cases he
  have h2 := heap_setCell_same W g i cur _ u hg
  rw [cell_of_row _ g j _ _ _ h2]
  have : j < (cur.setIfInBounds i u).size := by simp; omega
  exact ⟨_, by rw [Array.getElem?_eq_getElem this]⟩
end
structure Pr (w0 W : World) (gx cx gy cy n k m : Nat) (A B X Y : List (List Int)) (col : Nat) (us vs : List Value) : Prop where
 x : Rx w0.heap.size W gx n cx k X us
 y : Rx w0.heap.size W gy n cy m Y vs
 ne : gx ≠ gy
 gr : Gr w0 W
 ech : L.Ech (A.map vec) (X.map vec) (List.range col) col
 sat : ∀ M, L.Sat (X.map vec) (Y.map vec) M ↔ L.Sat (A.map vec) (B.map vec) M
section
variable {w0 W : World} {gx cx gy cy n k m : Nat} {A B X Y : List (List Int)} {col : Nat} {us vs : List Value}
theorem Pr.grow {W' : World} (h : Pr w0 W gx cx gy cy n k m A B X Y col us vs) (hg : Gr W W') : Pr w0 W' gx cx gy cy n k m A B X Y col us vs :=
 ⟨h.x.grow hg, h.y.grow hg, h.ne, Gr.trans h.gr hg, h.ech, h.sat⟩
theorem map_swap (X : List (List Int)) (a d : Nat) : ((X.set a (X.getD d [])).set d (X.getD a [])).map vec = ((X.map vec).set a (L.rowAt (X.map vec) d)).set d (L.rowAt (X.map vec) a) := by
 rw [List.map_set, List.map_set, rowAt_vec, rowAt_vec]
theorem Pr.swap (h : Pr w0 W gx cx gy cy n k m A B X Y col us vs) (a d : Nat) (ha : col ≤ a) (ha2 : a < n) (hd : col ≤ d) (hd2 : d < n) :
  Pr w0 ((((W.setCell ⟨gx, a, none⟩ (us.getD d undef)).setCell ⟨gx, d, none⟩ (us.getD a undef)).setCell ⟨gy, a, none⟩ (vs.getD d undef)).setCell ⟨gy, d, none⟩ (vs.getD a undef)) gx cx gy cy n k m A B
   ((X.set a (X.getD d [])).set d (X.getD a [])) ((Y.set a (Y.getD d [])).set d (Y.getD a [])) col ((us.set a (us.getD d undef)).set d (us.getD a undef)) ((vs.set a (vs.getD d undef)).set d (vs.getD a undef)) := by
 have hr : (List.range col).length = col := by simp
 have m1 := Mx.swap (h.x.mx h.ech h.gr) a d (by rw [hr]; exact ha) ha2 (by rw [hr]; exact hd) hd2
 have far1 : Rx w0.heap.size (W.setCell ⟨gx, a, none⟩ (us.getD d undef)) gx n cx k (X.set a (X.getD d [])) (us.set a (us.getD d undef)) :=
  h.x.put a ha2 (h.x.row d hd2).1 (h.x.row d hd2).2 (h.x.wide.at d (by rw [h.x.len]; exact hd2)).1
 have y2 := (h.y.far (i := a) (u := us.getD d undef) h.ne.symm h.x.blk).far (i := d) (u := us.getD a undef) h.ne.symm far1.blk
 have y3 := y2.put a ha2 (y2.row d hd2).1 (y2.row d hd2).2 (y2.wide.at d (by rw [y2.len]; exact hd2)).1
 have va := row_far (i := a) (u := vs.getD d undef) (y2.row a ha2).1 (y2.row a ha2).2 y2.blk
 have y4 := y3.put d hd2 va.1 va.2 (y2.wide.at a (by rw [y2.len]; exact ha2)).1
 have x3 := m1.rx.far (i := a) (u := vs.getD d undef) h.ne y2.blk
 have x4 := x3.far (i := d) (u := vs.getD a undef) h.ne y3.blk
 refine ⟨x4, y4, h.ne, Gr.setCell (Gr.setCell m1.gr h.y.low _) h.y.low _, m1.ech, fun M => ?_⟩
 rw [map_swap, map_swap, L.Sat.swap (by simp [h.x.len, h.y.len]) (by simp [h.x.len, ha2]) (by simp [h.x.len, hd2])]
 exact h.sat M
theorem Pr.scaled {u v : Value} {z : Int} (h : Pr w0 W gx cx gy cy n k m A B X Y col us vs) (d : Nat) (hd : col ≤ d) (hd2 : d < n) (hz : Byt z) (hz0 : z ≠ 0)
  (hb : Bs W u (scaleL z (X.getD d []))) (hrb : Rb w0.heap.size W u) (hb' : Bs W v (scaleL z (Y.getD d []))) (hrb' : Rb w0.heap.size W v) :
  Pr w0 ((W.setCell ⟨gx, d, none⟩ u).setCell ⟨gy, d, none⟩ v) gx cx gy cy n k m A B (X.set d (scaleL z (X.getD d []))) (Y.set d (scaleL z (Y.getD d []))) col (us.set d u) (vs.set d v) := by
 have hr : (List.range col).length = col := by simp
 have m1 := Mx.scaled (h.x.mx h.ech h.gr) d (by rw [hr]; exact hd) hd2 hz hz0 hb hrb
 have y2 := h.y.far (i := d) (u := u) h.ne.symm h.x.blk
 have v2 := row_far (i := d) (u := u) hb' hrb' h.x.blk
 have wd := h.y.wide.at d (by rw [h.y.len]; exact hd2)
 have wx := h.x.wide.at d (by rw [h.x.len]; exact hd2)
 have y3 := y2.put d hd2 v2.1 v2.2 (by rw [scaleL_length]; exact wd.1)
 refine ⟨m1.rx.far h.ne y2.blk, y3, h.ne, Gr.setCell m1.gr h.y.low _, m1.ech, fun M => ?_⟩
 rw [List.map_set, List.map_set, vec_scale hz wx.2, vec_scale hz wd.2, ← rowAt_vec, ← rowAt_vec, L.Sat.scale (by simp [h.x.len, h.y.len]) (by simp [h.x.len, hd2]) (fb_ne hz hz0)]
 exact h.sat M
theorem Pr.added {u v : Value} {z : Int} (h : Pr w0 W gx cx gy cy n k m A B X Y col us vs) (i d : Nat) (hd : col ≤ d) (hd2 : d < n) (hi : i < n) (hne : i ≠ d) (hz : Byt z)
  (hb : Bs W u (axL z (X.getD d []) (X.getD i []))) (hrb : Rb w0.heap.size W u) (hb' : Bs W v (axL z (Y.getD d []) (Y.getD i []))) (hrb' : Rb w0.heap.size W v) :
  Pr w0 ((W.setCell ⟨gx, i, none⟩ u).setCell ⟨gy, i, none⟩ v) gx cx gy cy n k m A B (X.set i (axL z (X.getD d []) (X.getD i []))) (Y.set i (axL z (Y.getD d []) (Y.getD i []))) col (us.set i u) (vs.set i v) := by
 have hr : (List.range col).length = col := by simp
 have m1 := Mx.added (h.x.mx h.ech h.gr) i d (by rw [hr]; exact hd) hd2 hi hne hz hb hrb
 have y2 := h.y.far (i := i) (u := u) h.ne.symm h.x.blk
 have v2 := row_far (i := i) (u := u) hb' hrb' h.x.blk
 have wd := h.y.wide.at d (by rw [h.y.len]; exact hd2)
 have wi := h.y.wide.at i (by rw [h.y.len]; exact hi)
 have xd := h.x.wide.at d (by rw [h.x.len]; exact hd2)
 have xi := h.x.wide.at i (by rw [h.x.len]; exact hi)
 have y3 := y2.put i hi v2.1 v2.2 (by rw [axL_length]; exact wd.1)
 refine ⟨m1.rx.far h.ne y2.blk, y3, h.ne, Gr.setCell m1.gr h.y.low _, m1.ech, fun M => ?_⟩
 rw [List.map_set, List.map_set, vec_ax hz xd.2 xi.2 (by rw [xd.1, xi.1]), vec_ax hz wd.2 wi.2 (by rw [wd.1, wi.1]), ← rowAt_vec, ← rowAt_vec, ← rowAt_vec, ← rowAt_vec,
   L.Sat.add (by simp [h.x.len, h.y.len]) (by simp [h.x.len, hd2]) (by simp [h.x.len, hi]) hne]
 exact h.sat M
theorem Pr.next (h : Pr w0 W gx cx gy cy n k m A B X Y col us vs) (hc : col < n) (h1 : (X.getD col []).getD col 0 = 1) (h0 : ∀ s, s < n → s ≠ col → (X.getD s []).getD col 0 = 0) : Pr w0 W gx cx gy cy n k m A B X Y (col + 1) us vs := by
 have hr : (List.range col).length = col := by simp
 refine ⟨h.x, h.y, h.ne, h.gr, ?_, h.sat⟩
 rw [List.range_succ]
 refine h.ech.next (by rw [hr, List.length_map, h.x.len]; exact hc) (by rw [at_vec, hr, h1, fb_one]) fun s hs => ?_
 rw [hr] at hs
 rw [at_vec]
 by_cases e : s < n
 ·rw [h0 s e hs, fb_zero]
 ·have hnil : X.getD s [] = [] := by
   rw [List.getD_eq_getElem?_getD, List.getElem?_eq_none (by rw [h.x.len]; omega)]
   rfl
  rw [hnil]
  rfl
theorem Pr.start (hx : Rx w0.heap.size W gx n cx k A us) (hy : Rx w0.heap.size W gy n cy m B vs) (hne : gx ≠ gy) (hg : Gr w0 W) : Pr w0 W gx cx gy cy n k m A B A B 0 us vs :=
 ⟨hx, hy, hne, hg, L.Ech.start _, fun _ => Iff.rfl⟩
theorem Pr.pivot {rkZ : Nat} (h : Pr w0 W gx cx gy cy n k m A B X Y col us vs) (hA : Wide k A) (hr : rkZ = k) (he : rkZ = L.rk (A.map vec)) (hc : col < k) : ∃ s, col ≤ s ∧ s < n ∧ (X.getD s []).getD col 0 ≠ 0 := by
 obtain ⟨s, h1, h2, h3⟩ := h.ech.pivot hA.supp (by rw [← he, hr]) hc
 refine ⟨s, h1, by rw [List.length_map, h.x.len] at h2; exact h2, fun e => h3 ?_⟩
 rw [at_vec, e, fb_zero]
end
theorem add_nought (a : Addr) : a.add 0 = a := by
 unfold Addr.add
 split <;> simp_all
theorem ownsRow_through {base : Nat} {w w' : World} {e : TypeId} {size : Nat} {v : Value} {n : Nat} {xs : List Value} {row : Option Nat} (h : w.ownsRow base e size v n xs) (hg : w.grownBy w' row) (hne : v.ownBlock = none ∨ v.ownBlock ≠ row) : w'.ownsRow base e size v n xs := by
 obtain ⟨h0, h1 | ⟨g, c, cur, rfl, hb, hgg, h2⟩⟩ := h
 ·exact ⟨h0, .inl h1⟩
 ·refine ⟨h0, .inr ⟨g, c, cur, rfl, hb, ?_, h2⟩⟩
  rw [hg.block g (Array.getElem?_eq_some_iff.1 hgg).1 (fun e => by
    rcases hne with hne | hne
    · cases hne
    · exact hne e)]
  exact hgg
theorem ownsRow_lt {base : Nat} {w : World} {e : TypeId} {size : Nat} {v : Value} {n : Nat} {xs : List Value} (h : w.ownsRow base e size v n xs) : ∀ g, v.ownBlock = some g → g < w.heap.size := by
 intro g hg
 obtain ⟨_, ⟨rfl, _⟩ | ⟨g', c, cur, rfl, _, hgg, _⟩⟩ := h
 ·cases hg
 ·cases hg
  exact (Array.getElem?_eq_some_iff.1 hgg).1
theorem Rws.through {base : Nat} {w w' : World} {v : Value} {L : List (List Int)} {row : Option Nat} (h : Rws base w v L) (hg : w.grownBy w' row) (hne : v.ownBlock = none ∨ v.ownBlock ≠ row)
  (hrow : ∀ g, row = some g → base ≤ g ∧ ∀ cur, w.heap[g]? ≠ some (.cells cur 5 (0, 0))) : Rws base w' v L := by
 obtain ⟨us, ho, hr⟩ := h
 exact ⟨us, ownsRow_through ho hg hne, fun i hi => Rb.kept (hr i hi).1 (hr i hi).2 hg.block hrow⟩
theorem Rws.gr {base : Nat} {w w' : World} {v : Value} {L : List (List Int)} (h : Rws base w v L) (hg : Gr w w') : Rws base w' v L := by
 obtain ⟨us, ho, hr⟩ := h
 exact ⟨us, ho.of_gr hg, fun i hi => Rb.gr (hr i hi).1 (hr i hi).2 hg⟩
theorem Tri.of {w W : World} {a b : Addr} {u v : Value} (p1 : w.cell? a = some u) (p2 : w.cell? b = some v) (g : Gr w W) : W.cell? a = some u ∧ W.cell? b = some v ∧ Hid (Gr w W) := ⟨cell_grown g p1, cell_grown g p2, Lib.hid g⟩
def Apart2 (x y : Value) : Prop := ∀ g, x.ownBlock = some g → y.ownBlock ≠ some g
theorem Apart2.ne {x y : Value} (h : Apart2 x y) : y.ownBlock = none ∨ y.ownBlock ≠ x.ownBlock := by
 cases hx : x.ownBlock with
 | none => cases hy : y.ownBlock with
  | none => exact .inl rfl
  | some g => exact .inr (by simp)
 | some g => exact .inr (h g hx)
end Go.Proofs.YtbbglejdfbkjlaaGreat
namespace Go.Proofs.YtbbglejdfbkjlaaGreat
open Go.RowKit
theorem SymsO.beside {P : Nat → Prop} {base : Nat} {w w' : World} {v2 : Value} {L2 : List Symb} {row : Option Nat} (h : SymsO P base w v2 L2) (hg : w.grownBy w' row) (hne : ∀ g, v2.ownBlock = some g → row ≠ some g)
  (hno : ∀ g, row = some g → base ≤ g ∧ ∀ cur, w.heap[g]? ≠ some (.cells cur 5 (0, 0))) : SymsO P base w' v2 L2 := by
 obtain ⟨us, ho, hr⟩ := h
 exact ⟨us, own_through ho hg hne, fun i hi => ⟨(hr i hi).1, (hr i hi).2.1, (Rb.kept (hr i hi).2.2.1 (hr i hi).2.2.2.1 hg.block hno).1, (Rb.kept (hr i hi).2.2.1 (hr i hi).2.2.2.1 hg.block hno).2, (hr i hi).2.2.2.2⟩⟩
end Go.Proofs.YtbbglejdfbkjlaaGreat
namespace Go.Proofs.YtbbglejdfbkjlaaGreat
open Go.RowKit
def SmallY (Y : List Symb) : Prop := Y.length ≤ 100 ∧ ∀ q ∈ Y, q.d.length ≤ 100
theorem SmallY.set {Y : List Symb} (h : SmallY Y) (k : Nat) {d : List Int} (hd : d.length ≤ 100) : SmallY (Y.set k ⟨(Y.getD k noY).i, d⟩) := by
 refine ⟨by rw [List.length_set]; exact h.1, fun q hq => ?_⟩
 rcases List.mem_or_eq_of_mem_set hq with hq | rfl
 ·exact h.2 q hq
 ·exact hd
end Go.Proofs.YtbbglejdfbkjlaaGreat
namespace Go.Proofs.YtbbglejdfbkjlaaGreat
open Go.RowKit
def rhsY (H S : Nat) (Y : List Symb) : List (List Int) := List.replicate H (List.replicate S 0) ++ Y.map (·.d)
theorem rhsY_length (H S : Nat) (Y : List Symb) : (rhsY H S Y).length = H + Y.length := by simp [rhsY]
theorem rhsY_snoc (H S : Nat) (Y : List Symb) (q : Symb) : rhsY H S (Y ++ [q]) = rhsY H S Y ++ [q.d] := by simp [rhsY]
theorem rhsY_wide {H S : Nat} {Y : List Symb} (h : ∀ q ∈ Y, q.d.length = S ∧ ∀ z ∈ q.d, Byt z) : Wide S (rhsY H S Y) := fun r hr => by
 unfold rhsY at hr
 rcases List.mem_append.1 hr with hr | hr
 ·rw [List.eq_of_mem_replicate hr]
  exact ⟨by simp, replicate_byt S⟩
 ·obtain ⟨q, hq, rfl⟩ := List.mem_map.1 hr
  exact h q hq
theorem matY_is {K H S seed : Nat} {Y : List Symb} (h : AllY K H S Y) : matP K H S seed (idsY Y) = ahead K H ++ Y.map fun q => rowP K H S seed q.i := by
 rw [matP_in h.1]
 have e : (idsY Y).filter (fun i => decide (MayI i)) = idsY Y := List.filter_eq_self.2 fun i hi => decide_eq_true (idsY_may h i hi)
 rw [e]
 unfold idsY
 rw [List.map_map]
 rfl
theorem matY_length {K H S seed : Nat} {Y : List Symb} (h : AllY K H S Y) : (matP K H S seed (idsY Y)).length = H + Y.length := by
 rw [matY_is h, List.length_append, ahead_length, List.length_map]
theorem isMidY_mul {K H S seed : Nat} {Y : List Symb} {M : List (List Int)} (h : AllY K H S Y) (hl : M.length = K + H) (hw : Wide S M) : IsMidY K H S seed Y M ↔ L.mulM ((matP K H S seed (idsY Y)).map vec) (M.map vec) = (rhsY H S Y).map vec := by
 rw [matY_is h]
 unfold L.mulM rhsY
 rw [List.map_append, List.map_append, List.map_append, List.map_map, List.map_map, List.map_map, List.map_map, List.map_replicate, vec_noughts]
 have hah : (ahead K H).length = H := ahead_length K H
 constructor
 ·intro hm
  congr 1
  ·apply List.ext_getElem
   ·simp [hah]
   intro i h1 h2
   rw [List.getElem_map, List.getElem_replicate]
   exact hm.ahead _ (List.getElem_mem _)
  ·exact List.map_congr_left fun q hq => hm.rows q hq
 ·intro he
  obtain ⟨e1, e2⟩ := List.append_inj he (by simp [hah])
  refine ⟨hl, hw, fun r hr => ?_, fun q hq => List.map_inj_left.1 e2 q hq⟩
  obtain ⟨i, hi, rfl⟩ := List.getElem_of_mem hr
  have := congrArg (fun l => l[i]?) e1
  simp only [List.getElem?_map, List.getElem?_replicate] at this
  rw [List.getElem?_eq_getElem hi, if_pos (by omega)] at this
  simpa using this
theorem sol_dec {K H S seed : Nat} {Y : List Symb} {e : Int} {M : List (List Int)} (h : AllY K H S Y) (hb : ∀ q ∈ Y, ∀ z ∈ q.d, Byt z) (hs : SolSays (matP K H S seed (idsY Y)) (rhsY H S Y) e M) :
  (e = 0 ∧ IsMidY K H S seed Y M ∧ FullP K H S seed (idsY Y)) ∨ (e ≠ 0 ∧ DecSays K H S seed Y e []) := by
 have hm := h.1
 have hH : 1 ≤ H := by unfold MayP at hm; omega
 have hlen := matY_length (seed := seed) h
 have hne : matP K H S seed (idsY Y) ≠ [] := fun c => by rw [c] at hlen; simp at hlen; omega
 have hwA : wd (matP K H S seed (idsY Y)) = K + H := (matP_wide hm seed (idsY Y)).wd (by omega)
 have hwB : wd (rhsY H S Y) = S := (rhsY_wide (H := H) (S := S) fun q hq => ⟨by have := (h.2 q hq).2; omega, hb q hq⟩).wd (by rw [rhsY_length]; omega)
 rcases hs with ⟨h0, _⟩ | ⟨_, h1, h2, _⟩ | ⟨_, h1, h2, h3, h4, h5⟩ | ⟨_, h1, h2, _, h4⟩
 ·exact absurd h0 hne
 ·refine .inr ⟨by omega, .inr (.inl ⟨h, fun hf => ?_, h2, rfl⟩)⟩
  have := fullP_rk hf
  omega
 ·rw [hwB] at h4 h5
  rw [hwA] at h1 h3
  exact .inl ⟨h2, (isMidY_mul h h3 h5).2 h4.2.symm, fullP_of_rk hm h1⟩
 ·rw [hwA] at h1 h4
  rw [hwB] at h4
  refine .inr ⟨by omega, .inr (.inr (.inr ⟨h, fullP_of_rk hm h1, h2, rfl, ?_⟩))⟩
  rw [Int.toNat_natCast, Int.toNat_natCast, Int.toNat_natCast]
  rintro ⟨M', hM'⟩
  exact h4 _ (by rw [List.length_map, hM'.len]) hM'.wide.supp ((isMidY_mul h hM'.len hM'.wide).1 hM')
theorem AllY.snoc {K H S : Int} {Y : List Symb} {q : Symb} (h : AllY K H S Y) (h1 : MayI q.i) (h2 : (q.d.length : Int) = S) : AllY K H S (Y ++ [q]) := ⟨h.1, fun p hp => by
  rcases List.mem_append.1 hp with hp | hp
  · exact h.2 p hp
  · obtain rfl : p = q := by simpa using hp
    exact ⟨h1, h2⟩⟩
theorem idsY_snoc (Y : List Symb) (q : Symb) : idsY (Y ++ [q]) = idsY Y ++ [q.i] := by simp [idsY]
theorem idsY_length (Y : List Symb) : (idsY Y).length = Y.length := by simp [idsY]
theorem takeY_snoc {Y : List Symb} {i : Nat} (h : i < Y.length) : Y.take (i + 1) = Y.take i ++ [Y.getD i noY] := by
 rw [List.take_add_one, List.getElem?_eq_getElem h, List.getD_eq_getElem?_getD, List.getElem?_eq_getElem h]
 rfl
theorem dec_arg {K H S : Int} {seed : Nat} {Y : List Symb} (h : ¬ AllY K H S Y) : DecSays K H S seed Y 1 [] := .inl ⟨h, rfl, rfl⟩
end Go.Proofs.YtbbglejdfbkjlaaGreat
namespace Go.Proofs.YtbbglejdfbkjlaaGreat
open Go.RowKit
theorem bytes_cells {w : World} {o : Option Addr} {l : List Int} {n : Nat} (hl : l.length = n) (h : ∀ a, o = some a → ∀ i, i < n → w.cell? (a.add i) = some (.int .u8 (l.getD i 0))) :
  ∀ ad, o = some ad → ∀ i u, (l.map (Value.int .u8))[i]? = some u → w.cell? (ad.add i) = some u := by
 intro ad ha i u hu
 have hi : i < l.length := by
  have := (List.getElem?_eq_some_iff.1 hu).1
  rwa [List.length_map] at this
 rw [h ad ha i (by omega)]
 rw [List.getElem?_map, List.getElem?_eq_getElem hi] at hu
 rw [List.getD_eq_getElem?_getD, List.getElem?_eq_getElem hi]
 simpa using hu
theorem leadL_nought : ∀ l : List Int, leadL l = -1 → ∀ j, l.getD j 0 = 0
 | [], _, j => by simp
 | a :: l, h, j => by
  have hge := leadL_ge l
  unfold leadL at h
  split at h
  ·rename_i ha
   split at h
   ·rename_i hl
    cases j with
    | zero => simpa using ha
    | succ j => simpa using leadL_nought l hl j
   ·omega
  ·omega
theorem vec_nought {l : List Int} (h : leadL l = -1) : vec l = L.vzero := funext fun j => by
 show fb (l.getD j 0) = L.zero
 rw [leadL_nought l h j, fb_zero]
theorem vec_ne {l : List Int} (hb : ∀ x ∈ l, Byt x) (h : 0 ≤ leadL l) : vec l ≠ L.vzero := fun e => by
 have : leadL l = -1 := leadL_none l fun j _ => by
  have h1 : fb (l.getD j 0) = L.zero := congrFun e j
  exact fb_inj (getD_byt hb j) (by unfold Byt; omega) (by rw [h1, fb_zero])
 omega
theorem Bs.parts {w : World} {oa : Option Addr} {m c : Nat} {l : List Int} (h : Bs w (.slice oa m c) l) : l.length = m ∧ m ≤ c ∧ c ≤ 9223372036854775807 ∧ (oa = none → m = 0 ∧ c = 0) ∧ ∀ ad, oa = some ad → ∀ i u, (l.map (Value.int .u8))[i]? = some u → w.cell? (ad.add i) = some u := by
 obtain ⟨_, oa', c', he, h2, h3, h4, h5⟩ := h
 obtain ⟨rfl, rfl, rfl⟩ : oa = oa' ∧ m = l.length ∧ c = c' := by simpa using he
 exact ⟨rfl, h2, h3, fun e => ⟨by have := h4 e; omega, h4 e⟩, bytes_cells rfl h5⟩
theorem wpList_append_bytes {w : World} {ops : Array Oper} {rest : List Oper} {o : Oper} {a : Act} {Q : Exit → Act → World → Prop} (hgd : o.guard = none) (s x : Operand)
  (ho : o.op = .call { callee := .builtin .append, args := #[s, x], argTypes := #[25, 25] }) (base : Nat) (v : Value) (n : Nat) (l : List Int) (hs : a.eval s = v) (hown : w.ownsRow base 5 1 v n (l.map (Value.int .u8)))
  (oa : Option Addr) (m c : Nat) (l' : List Int) (hx : a.eval x = .slice oa m c) (hL : Bs w (.slice oa m c) l') (hm : n + m ≤ 1000000) (hbase : base ≤ w.heap.size)
  (h : ∀ v' w', w'.ownsRow base 5 1 v' (n + m) ((l ++ l').map (Value.int .u8)) → w.grownBy w' v.ownBlock → wpList Tryz.prog ops Q rest (a.put o.dst v') w') : wpList Tryz.prog ops Q (o :: rest) a w := by
 obtain ⟨i5, hi0, hz0, hz1, hz2⟩ := info_parts infoB
 obtain ⟨p1, p2, p3, p4, p5⟩ := hL.parts
 refine wpList_append_in hgd s x 25 ho base 5 i5 _ 1 Tryz.underlying25 hi0 hz0 hz1 hz2 rfl v n _ hs hown oa m c (l'.map (Value.int .u8)) hx p4 (by rw [List.length_map]; exact p1) p5 (ints_oneCell _ _) (by unfold maxLen; omega) (by omega) hbase ?_
 intro v' w' h1 h2
 exact h v' w' (by rw [List.map_append]; exact h1) h2
theorem step_append_bytes {w : World} {ops : Array Oper} {o : Oper} {a : Act} {K : Act → World → Prop} {Q : Exit → Act → World → Prop} {E : Prop} (hgd : o.guard = none) (s x : Operand)
  (ho : o.op = .call { callee := .builtin .append, args := #[s, x], argTypes := #[25, 25] }) (base : Nat) (v : Value) (n : Nat) (l : List Int) (hs : a.eval s = v) (hown : w.ownsRow base 5 1 v n (l.map (Value.int .u8)))
  (oa : Option Addr) (m c : Nat) (l' : List Int) (hx : a.eval x = .slice oa m c) (hL : Bs w (.slice oa m c) l') (hm : n + m ≤ 1000000) (hbase : base ≤ w.heap.size)
  (h : ∀ v' w', w'.ownsRow base 5 1 v' (n + m) ((l ++ l').map (Value.int .u8)) → w.grownBy w' v.ownBlock → K (a.put o.dst v') w') :
  if Region.wanted o (yielded ops a.tmps) = true then Oper.wp Tryz.prog o a w K Q else E := by
 obtain ⟨i5, hi0, hz0, hz1, hz2⟩ := info_parts infoB
 obtain ⟨p1, p2, p3, p4, p5⟩ := hL.parts
 refine step_append_in hgd s x 25 ho base 5 i5 _ 1 Tryz.underlying25 hi0 hz0 hz1 hz2 rfl v n _ hs hown oa m c (l'.map (Value.int .u8)) hx p4 (by rw [List.length_map]; exact p1) p5 (ints_oneCell _ _) (by unfold maxLen; omega) (by omega) hbase ?_
 intro v' w' h1 h2
 exact h v' w' (by rw [List.map_append]; exact h1) h2
theorem Bs.rb {w : World} {u : Value} {l : List Int} (h : Bs w u l) (w' : World) : Rb w.heap.size w' u := by
 intro a n c e hn
 obtain ⟨_, oa, cc, h1, h2, h3, h4, h5⟩ := h
 rw [h1] at e
 obtain ⟨rfl, rfl, rfl⟩ : oa = some a ∧ l.length = n ∧ cc = c := by simpa using e
 exact .inl (World.block_lt_of_cell? w _ (h5 a rfl 0 hn))
theorem wpList_append_rows {w : World} {ops : Array Oper} {rest : List Oper} {o : Oper} {a : Act} {Q : Exit → Act → World → Prop} (hgd : o.guard = none) (s x : Operand)
  (ho : o.op = .call { callee := .builtin .append, args := #[s, x], argTypes := #[65, 65] }) (hs : a.eval s = .slice none 0 0)
  (oa : Option Addr) (m c : Nat) (L : List (List Int)) (hx : a.eval x = .slice oa m c) (hl : L.length = m) (hL : Bss w (.slice oa m c) L) (hm : m ≤ 1000)
  (h : ∀ v' w' us, w'.ownsRow w.heap.size 25 1 v' m us → Gr w w' → (∀ i, i < m → Bs w' (us.getD i undef) (L.getD i []) ∧ Rb w.heap.size w' (us.getD i undef)) → wpList Tryz.prog ops Q rest (a.put o.dst v') w') : wpList Tryz.prog ops Q (o :: rest) a w := by
 obtain ⟨i0, hi0, hz0, hz1, hz2⟩ := info_parts info22
 obtain ⟨us, hv⟩ := hL.vals
 have hno : oa = none → m = 0 ∧ c = 0 := fun e => by
  obtain ⟨oa', c', he, h1, h2, h3, h4⟩ := hL
  obtain ⟨rfl, h5, rfl⟩ : oa = oa' ∧ m = L.length ∧ c = c' := by simpa using he
  have := h3 e
  omega
 refine wpList_append_in hgd s x 65 ho w.heap.size 25 i0 _ 24 Tryz.underlying65 hi0 hz0 hz1 hz2 rfl (.slice none 0 0) 0 [] hs (World.ownsRow_nil w _ 25 1) oa m c us hx hno (by rw [hv.1, hl]) hv.2.1 hv.2.2.2 (by unfold maxLen; omega) (by omega) (Nat.le_refl _) ?_
 intro v' w' hown hgrow
 rw [Nat.zero_add, List.nil_append] at hown
 have hg : Gr w w' := Gr.append (Gr.refl w) hgrow (fun _ h => by cases h)
 exact h v' w' us hown hg fun i hi => ⟨Bs.grown (hv.2.2.1 i (by omega)) hg, (hv.2.2.1 i (by omega)).rb w'⟩
theorem New.under {w w1 w2 : World} {v : Value} {l : List Int} (hg : Gr w w1) (h : New w1 w2 v l) : New w w2 v l := by
 obtain ⟨h1, h2, h3⟩ := h
 refine ⟨Gr.trans hg h1, h2, ?_⟩
 rcases h3 with h3 | ⟨g, c, cur, e1, e2, e3⟩
 ·exact .inl h3
 ·exact .inr ⟨g, c, cur, e1, Nat.le_trans hg.size e2, e3⟩
theorem zeroB (m : Nat) : Builtin.zeroCells (Value.int .u8 0).cells m = (List.replicate m (Value.int .u8 0)).toArray := by
 apply Array.ext
 ·simp [Builtin.zeroCells, Value.cells]
 intro i h1 h2
 simp [Builtin.zeroCells, Value.cells, Nat.mod_one]
theorem run_append_zeros (w : World) (ty : TypeId) (base : Nat) (v : Value) (n : Nat) (l : List Int) (hown : w.ownsRow base 5 1 v n (l.map (Value.int .u8))) (m : Nat) (hm : n + m ≤ 1000000) (hbase : base ≤ w.heap.size) :
  ∃ v' w', (Builtin.append_ #[25, 3] ty #[v, .int .i64 m]).run Tryz.prog w = .ok v' w' ∧ w'.ownsRow base 5 1 v' (n + m) ((l ++ List.replicate m 0).map (Value.int .u8)) ∧ w.grownBy w' v.ownBlock := by
 obtain ⟨i, hi, hz, hs, hb⟩ := info_parts infoB
 have ht := Tryz.underlying25
 have htn := Tryz.underlying3
 have hlen : ((l ++ List.replicate m 0).map (Value.int .u8)).length = n + m := by
  have := hown.1
  rw [List.length_map] at this
  rw [List.length_map, List.length_append, List.length_replicate]
  omega
 have hmap : (l ++ List.replicate m 0).map (Value.int .u8) = l.map (Value.int .u8) ++ List.replicate m (.int .u8 0) := by rw [List.map_append, List.map_replicate]
 have hln : (l.map (Value.int .u8)).length = n := by have := hown.1; omega
 have grown : ∀ (old : Nat) (row : Option Nat),
   (w.drew.alloc (.cells ((l.map (Value.int .u8)).toArray ++ Builtin.zeroCells (Value.int .u8 0).cells m ++ Builtin.zeroCells (Value.int .u8 0).cells (grownCap w (n + m) old 5 - (n + m))) 5)).ownsRow base 5 1
    (.slice (some ⟨w.heap.size, 0, none⟩) (n + m) (grownCap w (n + m) old 5)) (n + m) ((l ++ List.replicate m 0).map (Value.int .u8)) ∧
   w.grownBy (w.drew.alloc (.cells ((l.map (Value.int .u8)).toArray ++ Builtin.zeroCells (Value.int .u8 0).cells m ++ Builtin.zeroCells (Value.int .u8 0).cells (grownCap w (n + m) old 5 - (n + m))) 5)) row := by
  intro old row
  have hge := grownCap_ge w (n + m) old 5
  have hcm : grownCap w (n + m) old 5 ≤ maxLen := grownCap_le_maxLen w (n + m) old 5 (by unfold maxLen; omega)
  rw [zeroB, zeroB]
  refine ⟨⟨by rw [hlen, Nat.mul_one], .inr ⟨w.heap.size, _, _, rfl, hbase, heap_alloc_new w.drew _, hge, hcm, ?_, ?_⟩⟩, ⟨rfl, rfl, rfl, by simp, fun k hk _ => heap_alloc_old w.drew _ hk⟩⟩
  ·simp only [Array.size_append, List.size_toArray, List.length_replicate, hln]
   omega
  ·rw [hmap]
   simp only [Array.toList_append]
   rw [List.take_left' (by rw [List.length_append, hln, List.length_replicate, Nat.mul_one])]
 by_cases hm0 : m = 0
 ·subst hm0
  rw [List.replicate_zero, List.append_nil] at *
  have hw : IntKind.i64.wrap (0 : Int) = 0 := by rw [IntKind.wrap_i64]; omega
  obtain ⟨_, ⟨rfl, rfl⟩ | ⟨g, cap, cur, rfl, hbg, hg, hnc, hcm, hcs, htake⟩⟩ := id hown
  ·exact ⟨.slice none 0 0, w, by simp [Builtin.append_, run_underlying ht, run_underlying htn, sizeOf, typeInfo, hi, asInt, asIntOf, hw], hown, ⟨rfl, rfl, rfl, Nat.le_refl _, fun _ _ _ => rfl⟩⟩
  ·exact ⟨_, w, by simp [Builtin.append_, run_underlying ht, run_underlying htn, sizeOf, typeInfo, hi, asInt, asIntOf, hw, hnc, storeCells], hown, ⟨rfl, rfl, rfl, Nat.le_refl _, fun _ _ _ => rfl⟩⟩
 ·obtain ⟨_, ⟨rfl, rfl⟩ | ⟨g, cap, cur, rfl, hbg, hg, hnc, hcm, hcs, htake⟩⟩ := id hown
  ·have hl0 : l = [] := by
    rw [List.length_map] at hln
    exact List.eq_nil_of_length_eq_zero hln
   subst hl0
   have hr := Lib.run_append_nil_zeros (P := Tryz.prog) w 25 3 ty 5 i _ .i64 .i64 ht htn hi hz m (by omega) (by rw [hs]; omega) (by omega) (by rw [hb]; omega)
   have hgr := grown 0 (Value.ownBlock (.slice none 0 0))
   simp only [Nat.zero_add, List.map_nil, Array.empty_append] at hgr ⊢
   exact ⟨_, _, hr, hgr.1, hgr.2⟩
  ·by_cases hroom : n + m ≤ cap
   ·have hw : IntKind.i64.wrap (m : Int) = m := by rw [IntKind.wrap_i64]; omega
    have hst := run_storeCells_at Tryz.prog g n 5 (List.replicate m (Value.int .u8 0)) 0 cur w hg (by rw [List.length_replicate]; omega) (by intro u hu; rw [(List.mem_replicate.1 hu).2]; rfl)
    simp only [Nat.add_zero] at hst
    have hneg : ¬ ((m : Int) < 0) := by omega
    have h48i : ¬ (281474976710656 < (m : Int)) := by omega
    refine ⟨.slice (some ⟨g, 0, none⟩) (n + m) cap, w.setRow g (cur.toList.take n ++ List.replicate m (Value.int .u8 0) ++ cur.toList.drop (n + m)).toArray, ?_, ?_, ?_⟩
    ·simp [Builtin.append_, run_underlying ht, run_underlying htn, sizeOf, typeInfo, zeroValue, hi, hz, hs, hb, asInt, asIntOf, hw, hneg, h48i, hm0, hroom, Addr.add_lit, zeroB, hst]
    ·refine ⟨by rw [hlen, Nat.mul_one], .inr ⟨g, cap, _, rfl, hbg, setRow_heap w g cur _ 5 _ hg, hroom, hcm, ?_, ?_⟩⟩
     ·simp only [List.size_toArray, List.length_append, List.length_take, List.length_drop, Array.length_toList, List.length_replicate]
      omega
     ·rw [hmap]
      simp only [List.append_assoc]
      rw [Nat.mul_one] at htake
      rw [htake, ← List.append_assoc, List.take_left' (by rw [List.length_append, hln, List.length_replicate, Nat.mul_one])]
    ·exact ⟨rfl, rfl, rfl, by simp, fun k _ hk => setRow_other w g k _ (fun e => hk (by simp [Value.ownBlock, e]))⟩
   ·have holds : ∀ j u, (l.map (Value.int .u8))[j]? = some u → w.cell? ((⟨g, 0, none⟩ : Addr).add j) = some u := hown.cells (g := g) rfl
    have hf := run_firstCells_some (P := Tryz.prog) w.drew i.size n ⟨g, 0, none⟩ n cap (l.map (Value.int .u8)) (by rw [hs, hln, Nat.mul_one]) (by simpa using holds)
    have hr := Lib.run_append_grow_zeros (P := Tryz.prog) w 25 3 ty 5 i _ .i64 .i64 ht htn hi hz (some ⟨g, 0, none⟩) n cap _ hf m (by omega) (by rw [hs]; omega) (by omega) (by omega) (by rw [hb]; omega) (by rw [hb]; exact growslice_fits (by omega) (by omega))
    have hgr := grown cap (Value.ownBlock (.slice (some ⟨g, 0, none⟩) n cap))
    exact ⟨_, _, hr, hgr.1, hgr.2⟩
theorem want_append_zeros {w : World} {ops : Array Oper} {rest : List Oper} {o : Oper} {a : Act} {Q : Exit → Act → World → Prop} (hw : Region.wanted o (yielded ops a.tmps) = true) (s x : Operand)
  (ho : o.op = .call { callee := .builtin .append, args := #[s, x], argTypes := #[25, 3] }) (base : Nat) (v : Value) (n : Nat) (l : List Int) (hs : a.eval s = v) (hown : w.ownsRow base 5 1 v n (l.map (Value.int .u8)))
  (m : Nat) (hx : a.eval x = .int .i64 m) (hm : n + m ≤ 1000000) (hbase : base ≤ w.heap.size)
  (h : ∀ v' w', w'.ownsRow base 5 1 v' (n + m) ((l ++ List.replicate m 0).map (Value.int .u8)) → w.grownBy w' v.ownBlock → wpList Tryz.prog ops Q rest (a.put o.dst v') w') : wpList Tryz.prog ops Q (o :: rest) a w := by
 refine wpList_step fun K hK => ?_
 rw [if_pos hw]
 obtain ⟨v', w', hr, h2, h3⟩ := run_append_zeros w o.type base v n l hown m hm hbase
 unfold Oper.wp execOp
 simp only [ho, resolve, invoke, builtin, Sem.run_bind, Sem.run_pure, Result.andThen_ok, List.map_toArray, List.map_cons, List.map_nil, hs, hx, hr]
 exact hK _ _ (h v' w' h2 h3)
end Go.Proofs.YtbbglejdfbkjlaaGreat
