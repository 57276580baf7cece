/-
  wellspringlaw13.PlanWhole: the walk.
-/
import Derived.Test.YtdmcncpndogdlaaMgn
import Derived.Test.YtdmcncpndogdlaaMgm
namespace Go.Proofs.Ytdmcncpndogdlaa
open Go.RowKit

namespace PN
theorem leftTo_length (us : List Bool) : ∀ k, (leftTo us k).length = unkN us k
  | 0 => rfl
  | k + 1 => by
    have h := leftTo_length us k
    show (leftTo us k ++ _).length = _
    rw [List.length_append, h]
    unfold unkN
    rw [List.range_succ, List.filter_append, List.length_append]
    congr 1
    cases hu : us.getD k false
    · rw [List.filter_cons_of_pos (by rw [hu]; rfl)]
      simp
    · rw [List.filter_cons_of_neg (by rw [hu]; simp)]
      simp
theorem leftTo_rises (us : List Bool) : ∀ k, Rising (leftTo us k)
  | 0 => fun j hj => by simp [leftTo] at hj
  | k + 1 => by
    show Rising (leftTo us k ++ _)
    split
    · rw [List.append_nil]
      exact leftTo_rises us k
    · exact rising_snoc (leftTo_rises us k) fun x hx => by
        obtain ⟨i, h1, _, rfl⟩ := (leftTo_mem us k x).1 hx
        omega
theorem nodup_getD {α : Type} {l : List α} {k : Nat} {d : α} (h : l.Nodup) (hk : k < l.length) : l.getD k d ∉ l.take k := fun hm => by
  obtain ⟨i, hi, he⟩ := List.getElem_of_mem hm
  rw [List.length_take] at hi
  rw [List.getElem_take] at he
  rw [List.getD_eq_getElem?_getD, List.getElem?_eq_getElem hk] at he
  have h := List.nodup_iff_pairwise_ne.1 h
  rw [List.pairwise_iff_getElem] at h
  exact h i k (by omega) hk (by omega) he
theorem getD_mapP {α : Type} (f : Int × Int → α) (l : List (Int × Int)) (k : Nat) : (l.map f).getD k (f (0, 0)) = f (l.getD k (0, 0)) := by
  rw [List.getD_eq_getElem?_getD, List.getD_eq_getElem?_getD, List.getElem?_map]
  cases l[k]? <;> rfl
def hadC (n : Nat) (R : List (List Int)) (k : Nat) : List Int := dead n R ++ ((steps n R).take k).map Prod.snd
def hadR (n : Nat) (R : List (List Int)) (k : Nat) : List Int := left n R ++ ((steps n R).take k).map Prod.fst
theorem hadC_succ {n : Nat} {R : List (List Int)} {k : Nat} (hk : k < (steps n R).length) : hadC n R (k + 1) = hadC n R k ++ [((steps n R).getD k (0, 0)).2] := by
  unfold hadC
  rw [take_snoc _ _ (0, 0) hk, List.map_append, List.append_assoc]
  rfl
theorem hadR_succ {n : Nat} {R : List (List Int)} {k : Nat} (hk : k < (steps n R).length) : hadR n R (k + 1) = hadR n R k ++ [((steps n R).getD k (0, 0)).1] := by
  unfold hadR
  rw [take_snoc _ _ (0, 0) hk, List.map_append, List.append_assoc]
  rfl
theorem memP {l : List (Int × Int)} {k : Nat} (hk : k < l.length) : l.getD k (0, 0) ∈ l := by
  rw [List.getD_eq_getElem?_getD, List.getElem?_eq_getElem hk]
  exact List.getElem_mem hk
/-- What a step says. -/
theorem step_says {n : Nat} {R : List (List Int)} (hR : ∀ c ∈ R, MayRow n c) {k : Nat} (hk : k < (steps n R).length) :
    ∃ r x : Nat, (steps n R).getD k (0, 0) = ((r : Int), (x : Int)) ∧ r < R.length ∧ x < n ∧ (r : Int) ∉ hadR n R k ∧ (x : Int) ∉ hadC n R k ∧ (x : Int) ∈ R.getD r [] ∧ ∀ c ∈ R.getD r [], c ≠ (x : Int) → c ∈ hadC n R k := by
  have hF := run_facts hR n (Nat.le_refl _)
  have hm : (steps n R).getD k (0, 0) ∈ (steps n R) := memP hk
  obtain ⟨a1, a2, a3, a4⟩ := (run_rng hR n (Nat.le_refl _)).2 _ hm
  have hs := hF.says k hk
  have hs : ((steps n R).getD k (0, 0)).2 ∈ R.getD ((steps n R).getD k (0, 0)).1.toNat [] ∧ ∀ c ∈ R.getD ((steps n R).getD k (0, 0)).1.toNat [], c ≠ ((steps n R).getD k (0, 0)).2 → c ∈ dead n R ∨ ∃ p ∈ (steps n R).take k, p.2 = c := hs
  have n1 := nodup_getD (d := ((0, 0) : Int × Int).1) (k := k) hF.once.2.1 (by rw [List.length_map]; exact hk)
  have n2 := nodup_getD (d := ((0, 0) : Int × Int).2) (k := k) hF.once.2.2.1 (by rw [List.length_map]; exact hk)
  have n1 : ((steps n R).map Prod.fst).getD k ((0, 0) : Int × Int).1 ∉ ((steps n R).map Prod.fst).take k := n1
  have n2 : ((steps n R).map Prod.snd).getD k ((0, 0) : Int × Int).2 ∉ ((steps n R).map Prod.snd).take k := n2
  rw [getD_mapP Prod.fst, ← List.map_take] at n1
  rw [getD_mapP Prod.snd, ← List.map_take] at n2
  have hno := hF.once.2.2.2
  generalize hp : (steps n R).getD k (0, 0) = p at *
  obtain ⟨p1, p2⟩ := p
  obtain ⟨r, rfl⟩ : ∃ r : Nat, p1 = (r : Int) := ⟨p1.toNat, (Int.toNat_of_nonneg a1).symm⟩
  obtain ⟨x, rfl⟩ : ∃ x : Nat, p2 = (x : Int) := ⟨p2.toNat, (Int.toNat_of_nonneg a3).symm⟩
  have a2 : (r : Int) < R.length := a2
  have a4 : (x : Int) < n := a4
  have hs : (x : Int) ∈ R.getD (r : Int).toNat [] ∧ ∀ c ∈ R.getD (r : Int).toNat [], c ≠ (x : Int) → c ∈ dead n R ∨ ∃ p ∈ (steps n R).take k, p.2 = c := hs
  rw [Int.toNat_natCast] at hs
  refine ⟨r, x, rfl, by omega, by omega, fun h => ?_, fun h => ?_, hs.1, fun c hc hne => ?_⟩
  · rcases List.mem_append.1 h with h | h
    · obtain ⟨i, h1, h2, h3⟩ := (leftTo_mem _ _ _).1 h
      have h4 := (hF.row i h1).2 ⟨_, hm, by show (r : Int) = _; exact h3⟩
      rw [h2] at h4
      cases h4
    · exact n1 h
  · rcases List.mem_append.1 h with h | h
    · exact hno _ h _ hm rfl
    · exact n2 h
  · rcases hs.2 c hc hne with h | ⟨p, h, rfl⟩
    · exact List.mem_append.2 (.inl h)
    · exact List.mem_append.2 (.inr (List.mem_map.2 ⟨p, h, rfl⟩))
theorem whole_counts {n : Nat} {R : List (List Int)} (hR : ∀ c ∈ R, MayRow n c) : (steps n R).length + (dead n R).length = n ∧ (steps n R).length + (left n R).length = R.length ∧ Rising (left n R) ∧ (dead n R).Nodup := by
  have hF := run_facts hR n (Nat.le_refl _)
  have hc := (run_inv hR n (Nat.le_refl _)).cnt
  have hr := hF.rest
  refine ⟨hc, ?_, leftTo_rises _ _, hF.once.1⟩
  unfold left
  rw [leftTo_length]
  have : (steps n R).length = (run n R n).steps.length := rfl
  omega
end PN
theorem member_still (v : Value) (l : List Int) (x : Int) (w : World) (h : Zs w v l) (hx : x ∈ l) (hl : l.length ≤ 1000) :
    Calls Try.prog 16 #[v, .int .i64 x] w fun e w' => e = .returned (.bool true) ∧ w' = w := by
  obtain ⟨i0, hi0, he0⟩ := List.getElem_of_mem hx
  have hx0 : l.getD i0 0 = x := by
    rw [List.getD_eq_getElem?_getD, List.getElem?_eq_getElem hi0]
    exact he0
  obtain ⟨a, c, rfl, h1, h2, h3⟩ := Zs.at h (by omega)
  obtain ⟨n, hn⟩ : ∃ n, l.length = n := ⟨_, rfl⟩
  rw [hn] at h1 h3 hl hi0 ⊢
  have HC := Lib.hid h3
  have HX := Lib.hid hx0
  clear h h3 hn hx he0 hx0
  go_enter Try.func16, Try.ntmps16
  go_wp2
  go_loopw [8] (fun i wr => wr = w ∧ ∃ k : Nat, k ≤ n ∧ i = .int .i64 k ∧ ∀ j, j < k → l.getD j 0 ≠ x) (fun i _ => n - (intOf i).toNat)
  case atStart => exact ⟨rfl, 0, by omega, rfl, by omega⟩
  case round =>
    obtain ⟨rfl, k, hk, rfl, hs⟩ := hrel
    have HS := Lib.hid hs
    clear hs
    by_cases hlt : k < n
    · have q := HC.out k hlt
      obtain ⟨y, hy⟩ : ∃ y, l.getD k 0 = y := ⟨_, rfl⟩
      rw [hy] at q
      have HY := Lib.hid hy
      clear hy
      by_cases hxy : y = x
      · subst hxy
        go_wp2
        go_ret
        exact ⟨rfl, rfl⟩
      · have hb : (y == x) = false := by simpa using hxy
        go_wp2
        refine ⟨⟨trivial, k + 1, by omega, by go_num, fun j hj => ?_⟩, by simp [intOf]; omega⟩
        by_cases e : j = k
        · rw [e, HY.out]; exact hxy
        · exact HS.out j (by omega)
    · exact absurd HX.out (HS.out i0 (by omega))
theorem grAllocM {W w' : World} (h : Gr W w') (o : Obj) : Gr W (w'.alloc o) := Gr.of (Below.alloc h.below h.size _)
set_option maxRecDepth 100000 in
set_option maxHeartbeats 6400000 in
theorem planWhole_walk (O : InactOk) (n : Int) (vl : Value) (l : List Int) (w : World) (hl : Zs w vl l) :
    Calls Try.prog 4 #[.int .i64 n, vl] w fun e w' => e = .returned (.bool true) ∧ Gr w w' := by
  have HO := Lib.hid O
  have HL := Lib.hid hl
  clear O hl
  obtain ⟨N, hN, hN2⟩ : ∃ N : Nat, n % 24 = (N : Int) ∧ N ≤ 23 := ⟨(n % 24).toNat, by omega, by omega⟩
  have HN := Lib.hid hN
  clear hN
  have hmm := @run_makeMap Try.prog
  go_enter Try.func4, Try.ntmps4
  go_wp2_with fail
  refine (within_any n 24 (by omega) (by omega) _).mono ?_
  rintro e w' ⟨rfl, rfl⟩
  rw [HN.out]
  go_wp2_with fail
  refine (intRows_any _ l N 30 _ HL.out (by omega) (by omega)).mono ?_
  rintro e w1 ⟨v1, rfl, R, ho1, hg1, hL1, hM1⟩
  obtain ⟨o1, c1, e1⟩ := ho1.form
  obtain ⟨M, hM⟩ : ∃ m, R.length = m := ⟨_, rfl⟩
  rw [hM] at e1 hL1
  subst e1
  have HM := Lib.hid hM
  have E1 := Lib.hid ho1.zss
  have HMR := Lib.hid hM1
  have G1 := Lib.hid hg1
  clear ho1 hg1 hM1 hM HL
  go_wp2_with fail
  refine (HO.out.plan (N : Int) _ R _ ⟨by omega, by omega⟩ E1.out (by rw [HM.out]; omega) (fun c hc => by have h := HMR.out c hc; have := rising_le h.2 h.1; omega)).mono ?_
  rintro e w2 ⟨sv, dv, lv, st, de, le, ok, rfl, hs, hd, hl, hgp, hsy⟩
  rcases hsy with ⟨h, _⟩ | ⟨_, rfl, rfl, rfl, rfl⟩
  · exact absurd ⟨by omega, by omega, HMR.out⟩ h
  rw [Int.toNat_natCast] at hs hd hl
  obtain ⟨q1, q2, q3, q4⟩ := PN.whole_counts HMR.out
  obtain ⟨os, cs, e1⟩ := hs.form
  obtain ⟨K, hK⟩ : ∃ k, (PN.steps N R).length = k := ⟨_, rfl⟩
  rw [hK] at e1 q1 q2
  subst e1
  obtain ⟨od, cd, e2⟩ := hd.form
  obtain ⟨D, hD⟩ : ∃ k, (PN.dead N R).length = k := ⟨_, rfl⟩
  rw [hD] at e2 q1
  subst e2
  obtain ⟨ol, cl, e3⟩ := hl.form
  obtain ⟨F, hF⟩ : ∃ k, (PN.left N R).length = k := ⟨_, rfl⟩
  rw [hF] at e3 q2
  subst e3
  rw [HM.out] at q2
  have HK := Lib.hid hK
  have HD := Lib.hid hD
  have HF := Lib.hid hF
  have QR := Lib.hid q3
  have QN := Lib.hid q4
  have gA : Gr w2 (w2.alloc (.cells #[.slice os K cs, .slice od D cd, .slice ol F cl] 31)) := Gr.alloc (Gr.refl _) _ _
  have P1 : Hid ((w2.alloc (.cells #[.slice os K cs, .slice od D cd, .slice ol F cl] 31)).heap[w2.heap.size]? = some (.cells #[.slice os K cs, .slice od D cd, .slice ol F cl] 31 (0, 0))) := Lib.hid (heap_alloc_new _ _)
  have A1 := Lib.hid (hs.grown gA)
  have A2 := Lib.hid (hd.grown gA)
  have A3 := Lib.hid (hl.grown gA)
  have ER := Lib.hid (E1.out.grown (Gr.trans hgp gA))
  have G2 := Lib.hid (Gr.trans G1.out (Gr.trans hgp gA))
  have hqk : (K : Int) + D = N := by omega
  have hqf : (K : Int) + F = M := by omega
  clear hs hd hl hgp hK hD hF q3 q4 gA E1 G1
  go_wp2_with fail
  generalize w2.alloc (.cells #[.slice os K cs, .slice od D cd, .slice ol F cl] 31) = w3 at *
  generalize w2.heap.size = gp at *
  refine (rises_any _ (PN.left N R) _ A3.out QR.out (by rw [HF.out]; omega)).mono ?_
  rintro e w4 ⟨rfl, hg4⟩
  have P4 := Lib.hid (keptRow hg4 P1.out)
  have p0 : w4.cell? ⟨gp, 0, none⟩ = some (.slice os K cs) := by rw [cell_of_row _ _ _ _ _ _ P4.out]; rfl
  have p1 : w4.cell? ⟨gp, 1, none⟩ = some (.slice od D cd) := by rw [cell_of_row _ _ _ _ _ _ P4.out]; rfl
  have p2 : w4.cell? ⟨gp, 2, none⟩ = some (.slice ol F cl) := by rw [cell_of_row _ _ _ _ _ _ P4.out]; rfl
  have S4 := Lib.hid (A1.out.grown hg4)
  have D4 := Lib.hid (A2.out.grown hg4)
  have F4 := Lib.hid (A3.out.grown hg4)
  have R4 := Lib.hid (ER.out.grown hg4)
  have G4 := Lib.hid (Gr.trans G2.out hg4)
  clear hg4 P1 A1 A2 A3 ER G2
  have hgm : Gr w4 ((w4.alloc (.map #[] 0)).alloc (.map #[] 0)) := grAllocM (grAllocM (Gr.refl _) _) _
  have M1 : Hid (MapL ((w4.alloc (.map #[] 0)).alloc (.map #[] 0)) w4.heap.size 0 []) := Lib.hid (MapZ.like ((MapZ.made w4).grown (grAllocM (Gr.refl _) _)) fun _ => rfl)
  have hsz : (w4.alloc (.map #[] 0)).heap.size = w4.heap.size + 1 := by simp
  have M2 : Hid (MapL ((w4.alloc (.map #[] 0)).alloc (.map #[] 0)) (w4.heap.size + 1) 0 []) := Lib.hid (by
    have h := MapZ.made (w4.alloc (.map #[] 0))
    rw [hsz] at h
    exact h.like fun _ => rfl)
  obtain ⟨bd, hbd⟩ : ∃ b, b = w4.heap.size := ⟨_, rfl⟩
  obtain ⟨bu, hbu⟩ : ∃ b, b = w4.heap.size + 1 := ⟨_, rfl⟩
  have hne : bd ≠ bu := by omega
  have hne' : bu ≠ bd := by omega
  have hle1 : w4.heap.size ≤ bd := by omega
  have hle2 : w4.heap.size ≤ bu := by omega
  go_upto_region 7 with fail
  rw [← hbu] at M2
  rw [← hbd] at M1
  try rw [← hbu]
  try rw [← hbd]
  have c1 := cell_gr hgm p1
  have GM := Lib.hid hgm
  clear hgm hsz hbd hbu
  generalize ((w4.alloc (.map #[] 0)).alloc (.map #[] 0)) = w5 at *
  go_wp2_with fail
  go_loopw [65] (fun iv W => ∃ i : Nat, i ≤ D ∧ iv = .int .i64 i ∧ MapL W bd i ((PN.dead N R).take i) ∧ MapL W bu 0 [] ∧ Gr w4 W) (fun iv _ => D - (intOf iv).toNat)
  case atStart => exact ⟨0, by omega, rfl, M1.out, M2.out, GM.out⟩
  case round =>
    clear M1 M2 GM c1
    obtain ⟨wo, hwo⟩ : ∃ x, x = wr := ⟨_, rfl⟩
    subst hwo
    obtain ⟨i, hi, rfl, hm1, hm2, hg⟩ := hrel
    have M1 := Lib.hid hm1
    have M2 := Lib.hid hm2
    have GM := Lib.hid hg
    clear hm1 hm2 hg
    by_cases hid : i < D
    · obtain ⟨ad, rfl⟩ := Zs.addr D4.out (by omega)
      have qc := Zs.cellAt (D4.out.grown GM.out) (i := i) hid
      have hnot := PN.nodup_getD (d := (0 : Int)) QN.out (by rw [HD.out]; exact hid)
      have hmem := getD_memZ (l := PN.dead N R) (i := i) (by rw [HD.out]; exact hid)
      have hrg := (PN.run_rng HMR.out N (Nat.le_refl _)).1 _ hmem
      have htk := take_snoc (PN.dead N R) i 0 (by rw [HD.out]; exact hid)
      obtain ⟨c, hc⟩ : ∃ c : Nat, (PN.dead N R).getD i 0 = (c : Int) := ⟨((PN.dead N R).getD i 0).toNat, (Int.toNat_of_nonneg hrg.1).symm⟩
      rw [hc] at qc hnot hrg htk
      have HTK := Lib.hid htk
      have hc64 : I64 (c : Int) := ⟨by omega, by omega⟩
      have lk := M1.out.no hc64 hnot
      have HC := Lib.hid hc64
      have hcn : (c : Int) < N := hrg.2
      clear hmem htk hnot hc hrg hc64
      go_wp2_with (at_mapUpdate; refine wpList_putZ rfl _ _ _ rfl bd i _ (c : Int) rfl rfl rfl M1.out HC.out (by omega) ?_; intro w6 h6 hg6; have N1 := Lib.hid (MapL.snoc h6); have N2 := Lib.hid (MapZ.kept M2.out hg6 hne'); have G6 := Lib.hid (MapZ.gr GM.out hg6 hle1); clear h6 hg6)
      exact ⟨⟨i + 1, by omega, by go_num, by rw [HTK.out]; exact N1.out, N2.out, G6.out⟩, by simp [intOf]; omega⟩
    · obtain rfl : D = i := by omega
      have htd : (PN.dead N R).take D = PN.dead N R := List.take_of_length_le (by rw [HD.out]; exact Nat.le_refl _)
      rw [htd] at M1
      have p2' := cell_gr GM.out p2
      go_wp2_with fail
      clear p2' htd
      go_loopw [87] (fun iv W => ∃ i : Nat, i ≤ F ∧ iv = .int .i64 i ∧ MapL W bd D (PN.dead N R) ∧ MapL W bu i ((PN.left N R).take i) ∧ Gr w4 W) (fun iv _ => F - (intOf iv).toNat)
      case atStart => exact ⟨0, by omega, rfl, M1.out, M2.out, GM.out⟩
      case round =>
        clear M1 M2 GM
        obtain ⟨wq, hwq⟩ : ∃ x, x = wr := ⟨_, rfl⟩
        subst hwq
        obtain ⟨i, hi, rfl, hm1, hm2, hg⟩ := hrel
        have M1 := Lib.hid hm1
        have M2 := Lib.hid hm2
        have GM := Lib.hid hg
        clear hm1 hm2 hg
        by_cases hif : i < F
        · obtain ⟨ad, rfl⟩ := Zs.addr F4.out (by omega)
          have qc := Zs.cellAt (F4.out.grown GM.out) (i := i) hif
          have hmem := getD_memZ (l := PN.left N R) (i := i) (by rw [HF.out]; exact hif)
          obtain ⟨c, hcM, _, hc⟩ := (PN.leftTo_mem _ _ _).1 hmem
          have htk := take_snoc (PN.left N R) i 0 (by rw [HF.out]; exact hif)
          rw [hc] at qc htk
          rw [HM.out] at hcM
          have HTK := Lib.hid htk
          have HC : Hid (I64 (c : Int)) := Lib.hid ⟨by omega, by omega⟩
          have hcn : (c : Int) < M := by omega
          clear hmem htk hc
          go_wp2_with (at_mapUpdate; refine wpList_putZ rfl _ _ _ rfl bu i _ (c : Int) rfl rfl rfl M2.out HC.out (by omega) ?_; intro w6 h6 hg6; have N2 := Lib.hid (MapL.snoc h6); have N1 := Lib.hid (MapZ.kept M1.out hg6 hne); have G6 := Lib.hid (MapZ.gr GM.out hg6 hle2); clear h6 hg6)
          exact ⟨⟨i + 1, by omega, by go_num, N1.out, by rw [HTK.out]; exact N2.out, G6.out⟩, by simp [intOf]; omega⟩
        · obtain rfl : F = i := by omega
          have htf : (PN.left N R).take F = PN.left N R := List.take_of_length_le (by rw [HF.out]; exact Nat.le_refl _)
          rw [htf] at M2
          have p0' := cell_gr GM.out p0
          go_wp2_with fail
          clear p0' htf
          go_loopw [105] (fun kv W => ∃ k : Nat, k ≤ K ∧ kv = .int .i64 k ∧ MapL W bd (D + k) (PN.hadC N R k) ∧ MapL W bu (F + k) (PN.hadR N R k) ∧ Gr w4 W) (fun kv _ => K - (intOf kv).toNat)
          case atStart =>
            refine ⟨0, by omega, rfl, ?_, ?_, GM.out⟩
            · rw [show PN.hadC N R 0 = PN.dead N R from by unfold PN.hadC; simp]
              exact M1.out
            · rw [show PN.hadR N R 0 = PN.left N R from by unfold PN.hadR; simp]
              exact M2.out
          case round =>
            clear M1 M2 GM
            obtain ⟨wt, hwt⟩ : ∃ x, x = wr := ⟨_, rfl⟩
            subst hwt
            obtain ⟨k, hk, rfl, hm1, hm2, hg⟩ := hrel
            have M1 := Lib.hid hm1
            have M2 := Lib.hid hm2
            have GM := Lib.hid hg
            clear hm1 hm2 hg
            by_cases hkk : k < K
            · obtain ⟨bs, os', rfl⟩ := S4.out.lay (by omega)
              obtain ⟨r1, r2⟩ := (S4.out.grown GM.out).at hkk
              obtain ⟨r, x, hrx, hrM, hxN, s1, s2, s3, s4⟩ := PN.step_says HMR.out (k := k) (by rw [HK.out]; exact hkk)
              have hsc := PN.hadC_succ (n := N) (R := R) (k := k) (by rw [HK.out]; exact hkk)
              have hsr := PN.hadR_succ (n := N) (R := R) (k := k) (by rw [HK.out]; exact hkk)
              rw [hrx] at r1 r2 hsc hsr
              rw [HM.out] at hrM
              have r1 : wt.cell? ⟨bs, os' + k * 2, none⟩ = some (.int .i64 (r : Int)) := r1
              have r2 : wt.cell? ⟨bs, os' + k * 2 + 1, none⟩ = some (.int .i64 (x : Int)) := r2
              have HSC := Lib.hid hsc
              have HSR := Lib.hid hsr
              have HS1 := Lib.hid s1
              have HS2 := Lib.hid s2
              have HS3 := Lib.hid s3
              have HS4 := Lib.hid s4
              clear hsc hsr hrx s1 s2 s3 s4
              go_upto_region 24 with fail
              have gA : Gr wt (wt.alloc (.cells #[.int .i64 (r : Int), .int .i64 (x : Int)] 40)) := Gr.alloc (Gr.refl _) _ _
              have hblk : (wt.alloc (.cells #[.int .i64 (r : Int), .int .i64 (x : Int)] 40)).heap[wt.heap.size]? = some (.cells #[.int .i64 (r : Int), .int .i64 (x : Int)] 40 (0, 0)) := heap_alloc_new _ _
              have hsl : wt.heap.size < (wt.alloc (.cells #[.int .i64 (r : Int), .int .i64 (x : Int)] 40)).heap.size := by simp
              have HS := Lib.hid hblk
              have N1 : Hid (MapL _ bd (D + k) (PN.hadC N R k)) := Lib.hid (M1.out.grown gA)
              have N2 : Hid (MapL _ bu (F + k) (PN.hadR N R k)) := Lib.hid (M2.out.grown gA)
              have hb1 : wt.heap.size ≠ bd := by have := M1.out.lt; omega
              have hb2 : wt.heap.size ≠ bu := by have := M2.out.lt; omega
              have GN := Lib.hid (Gr.trans GM.out gA)
              clear gA hblk hsl M1 M2 GM r1 r2
              generalize (wt.alloc (.cells #[.int .i64 (r : Int), .int .i64 (x : Int)] 40)) = ws at *
              generalize wt.heap.size = gs at *
              have k0 : ws.cell? ⟨gs, 0, none⟩ = some (.int .i64 (r : Int)) := by rw [cell_of_row _ _ _ _ _ _ HS.out]; rfl
              have k1 : ws.cell? ⟨gs, 1, none⟩ = some (.int .i64 (x : Int)) := by rw [cell_of_row _ _ _ _ _ _ HS.out]; rfl
              obtain ⟨bx, rfl⟩ := Zss.addr R4.out (by omega)
              obtain ⟨u, q1, zc⟩ := Zss.rowAt (R4.out.grown GN.out) hrM
              obtain ⟨oc, nc, cc, rfl⟩ := zc.form3
              have hnc := zc.parts.1
              have hrN : nc ≤ 24 := by
                have h := HMR.out _ (getD_memL (L := R) (i := r) (by rw [HM.out]; exact hrM))
                have := rising_le h.2 h.1
                omega
              have lk1 : ∀ d, (Instr.lookup 38 (.map (some bu)) (.int .i64 (r : Int)) false).run Try.prog (ws.drewN d) = .ok (.bool false) (ws.drewN d) := fun d => MapL.no (MapZ.grown N2.out (gr_drN ws d)) ⟨by omega, by omega⟩ HS1.out
              have lk2 : ∀ d, (Instr.lookup 38 (.map (some bd)) (.int .i64 (x : Int)) false).run Try.prog (ws.drewN d) = .ok (.bool false) (ws.drewN d) := fun d => MapL.no (MapZ.grown N1.out (gr_drN ws d)) ⟨by omega, by omega⟩ HS2.out
              have HC : Hid (∀ d, Calls Try.prog 16 #[.slice oc nc cc, .int .i64 (x : Int)] (ws.drewN d) fun e w' => e = .returned (.bool true) ∧ ∃ m, w' = (ws.drewN d).drewN m) := Lib.hid (fun d => (member_still _ _ _ _ (zc.grown (gr_drN ws d)) HS3.out (by omega)).mono (by
                rintro e w' ⟨rfl, rfl⟩
                exact ⟨rfl, 0, rfl⟩))
              have ZC := Lib.hid zc
              have HNC := Lib.hid hnc
              have b0 : (0 : Int) ≤ (r : Int) := by omega
              have b1 : (r : Int) < (M : Int) := by omega
              clear zc hnc
              go_quiet (first | (go_at_call 16; refine Calls.quiet_of (HC.out _)))
              generalize hwv : World.drewN ws _ = wv
              have hgq : Gr ws wv := by rw [← hwv]; exact gr_drN ws _
              have k0 := cell_gr hgq k0
              have k1 := cell_gr hgq k1
              have q1 := cell_gr hgq q1
              have ZV := Lib.hid (ZC.out.grown hgq)
              have V1 : Hid (MapL wv bd (D + k) (PN.hadC N R k)) := Lib.hid (MapZ.grown N1.out hgq)
              have V2 : Hid (MapL wv bu (F + k) (PN.hadR N R k)) := Lib.hid (MapZ.grown N2.out hgq)
              have GV := Lib.hid (Gr.trans GN.out hgq)
              have HMP := Lib.hid (HMR.out _ (getD_memL (L := R) (i := r) (by rw [HM.out]; exact hrM))).1
              clear hwv hgq lk1 lk2 HC N1 N2 GN ZC HS
              go_wp2_with fail
              go_loopw [148] (fun jv W => ∃ j : Nat, j ≤ nc ∧ jv = .int .i64 j ∧ wv = W) (fun jv _ => nc - (intOf jv).toNat)
              case atStart => exact ⟨0, by omega, rfl, rfl⟩
              case round =>
                obtain ⟨j, hj, rfl, rfl⟩ := hrel
                by_cases hjn : j < nc
                · obtain ⟨bc, rfl⟩ := Zs.addr ZV.out (by omega)
                  have qj := Zs.cellAt ZV.out (i := j) hjn
                  have hmem := getD_memZ (l := R.getD r []) (i := j) (by rw [HNC.out]; exact hjn)
                  have hrg := HMP.out _ hmem
                  have hdn := HS4.out _ hmem
                  obtain ⟨c, hc⟩ : ∃ c : Nat, (R.getD r []).getD j 0 = (c : Int) := ⟨((R.getD r []).getD j 0).toNat, (Int.toNat_of_nonneg hrg.1).symm⟩
                  rw [hc] at qj hrg hdn
                  clear hmem hc
                  by_cases hcx : (c : Int) = (x : Int)
                  · clear hdn
                    have hcx' : c = x := by omega
                    subst hcx'
                    go_wp2_with fail
                    exact ⟨⟨j + 1, by omega, by go_num, trivial⟩, by simp [intOf]; omega⟩
                  · have lk := MapL.yes V1.out ⟨by omega, by omega⟩ (hdn hcx)
                    clear hdn
                    go_wp2_with fail
                    exact ⟨⟨j + 1, by omega, by go_num, trivial⟩, by simp [intOf]; omega⟩
                · obtain rfl : nc = j := by omega
                  go_wp2_with fail
                  have HR64 : Hid (I64 (r : Int)) := Lib.hid ⟨by omega, by omega⟩
                  have HX64 : Hid (I64 (x : Int)) := Lib.hid ⟨by omega, by omega⟩
                  have hgv : Gr wv wv.drew := Gr.drewQ (Gr.refl _)
                  obtain ⟨wU, eU, mU, gU⟩ := MapZ.put (MapZ.grown V2.out hgv) HR64.out (by omega)
                  obtain ⟨wUD, eUD, mUD, gUD⟩ := MapZ.put (MapZ.kept (MapZ.grown V1.out hgv) gU hne) HX64.out (by omega)
                  obtain ⟨wD, eD, mD, gD⟩ := MapZ.put (MapZ.grown V1.out hgv) HX64.out (by omega)
                  obtain ⟨wDU, eDU, mDU, gDU⟩ := MapZ.put (MapZ.kept (MapZ.grown V2.out hgv) gD hne') HR64.out (by omega)
                  have kU0 := gU.cell (cell_gr hgv k0) (fun e => hb2 (by cases e; rfl))
                  have kU1 := gU.cell (cell_gr hgv k1) (fun e => hb2 (by cases e; rfl))
                  have kD0 := gD.cell (cell_gr hgv k0) (fun e => hb1 (by cases e; rfl))
                  have kD1 := gD.cell (cell_gr hgv k1) (fun e => hb1 (by cases e; rfl))
                  have kUD0 := gUD.cell kU0 (fun e => hb1 (by cases e; rfl))
                  have kUD1 := gUD.cell kU1 (fun e => hb1 (by cases e; rfl))
                  have kDU0 := gDU.cell kD0 (fun e => hb2 (by cases e; rfl))
                  have kDU1 := gDU.cell kD1 (fun e => hb2 (by cases e; rfl))
                  have XU : Hid (MapL wUD bd (D + k + 1) (PN.hadC N R k ++ [(x : Int)]) ∧ MapL wUD bu (F + k + 1) (PN.hadR N R k ++ [(r : Int)]) ∧ Gr w4 wUD) := Lib.hid ⟨MapL.snoc mUD, MapZ.kept (MapL.snoc mU) gUD hne', MapZ.gr (MapZ.gr (Gr.drewQ GV.out) gU hle2) gUD hle1⟩
                  have XD : Hid (MapL wDU bd (D + k + 1) (PN.hadC N R k ++ [(x : Int)]) ∧ MapL wDU bu (F + k + 1) (PN.hadR N R k ++ [(r : Int)]) ∧ Gr w4 wDU) := Lib.hid ⟨MapZ.kept (MapL.snoc mD) gDU hne, MapL.snoc mDU, MapZ.gr (MapZ.gr (Gr.drewQ GV.out) gD hle1) gDU hle2⟩
                  clear mU gU mUD gUD mD gD mDU gDU hgv
                  go_region_held3 (fun W => W.cell? ⟨gs, 0, none⟩ = some (.int .i64 (r : Int)) ∧ W.cell? ⟨gs, 1, none⟩ = some (.int .i64 (x : Int))) (first | exact ⟨kU0, kU1⟩ | exact ⟨kD0, kD1⟩ | exact ⟨kUD0, kUD1⟩ | exact ⟨kDU0, kDU1⟩ | exact ⟨k0, k1⟩) (fail)
                  all_goals go_wp2_with fail
                  all_goals first
                    | exact ⟨⟨k + 1, by omega, by go_num, by rw [HSC.out]; exact XU.out.1, by rw [HSR.out]; exact XU.out.2.1, XU.out.2.2⟩, by simp [intOf]; omega⟩
                    | exact ⟨⟨k + 1, by omega, by go_num, by rw [HSC.out]; exact XD.out.1, by rw [HSR.out]; exact XD.out.2.1, XD.out.2.2⟩, by simp [intOf]; omega⟩
            · obtain rfl : k = K := by omega
              go_wp2_with fail
              refine (planWakes_any HO.out _).mono ?_
              rintro e w9 ⟨rfl, hg9⟩
              have G9 := Lib.hid (Gr.trans G4.out (Gr.trans GM.out hg9))
              clear hg9
              go_wp2_with fail
              go_ret
              exact ⟨rfl, G9.out⟩
end Go.Proofs.Ytdmcncpndogdlaa
