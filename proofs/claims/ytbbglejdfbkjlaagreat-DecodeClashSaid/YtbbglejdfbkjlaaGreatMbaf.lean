/-
  Texts laid behind one another: Jc DecodeBackW DecodeOrderW Rx Js Ji.
-/
import Derived.Test.YtbbglejdfbkjlaaGreatMbae
import Derived.Test.YtbbglejdfbkjlaaGreatMbad
import Derived.Test.YtbbglejdfbkjlaaGreatMbac
namespace Go.Proofs.YtbbglejdfbkjlaaGreat
open Go.RowKit
structure DecOk (At : World → Value → (Nat → Prop) → Nat → Nat → Nat → Nat → List Symb → Prop) : Prop where
 ptr : ∀ {w : World} {d : Value} {F : Nat → Prop} {K H S seed : Nat} {Y : List Symb}, At w d F K H S seed Y → ∃ a, d = .pointer (some a)
 lt : ∀ {w : World} {d : Value} {F : Nat → Prop} {K H S seed : Nat} {Y : List Symb}, At w d F K H S seed Y → ∀ k, F k → k < w.heap.size
 keep : ∀ {w w' : World} {d : Value} {F G : Nat → Prop} {K H S seed : Nat} {Y : List Symb}, At w d F K H S seed Y → Kp G w w' → (∀ k, F k → ¬ G k) → At w' d F K H S seed Y
 block : ∀ (K H S : Int) (seed : Nat) (v : Value) (Y : List Symb) (w : World), seed < 4294967296 → Syms w v Y → Y.length ≤ 800 → (∀ q ∈ Y, q.d.length ≤ 1000) →
  Calls Tryz.prog 17 #[par K H S, .int .u32 (seed : Int), v] w fun e w' => ∃ u x out, e = .returned (.tuple #[u, .int .i64 x]) ∧ Bs w' u out ∧ Gr w w' ∧ DecSays K H S seed Y x out
 new : ∀ (K H S : Nat) (seed : Nat) (w : World), seed < 4294967296 → MayP K H S →
  Calls Tryz.prog 23 #[par K H S, .int .u32 (seed : Int)] w fun e w' => ∃ d F, e = .returned d ∧ At w' d F K H S seed [] ∧ Gr w w' ∧ ∀ k, F k → w.heap.size ≤ k
 newNe : ∀ (K H S : Int) (seed : Nat) (w : World), seed < 4294967296 → ¬ MayP K H S →
  Calls Tryz.prog 23 #[par K H S, .int .u32 (seed : Int)] w fun e w' => e = .returned (.pointer none) ∧ Gr w w'
 add : ∀ (d : Value) (F : Nat → Prop) (K H S seed : Nat) (Y : List Symb) (id : Int) (v : Value) (x : List Int) (w : World), MayP K H S → seed < 4294967296 → At w d F K H S seed Y → AllY K H S Y → Y.length ≤ 700 → MayI id → Bs w v x → (∀ a m c, v = .slice (some a) m c → 0 < m → ¬ F a.block) → x.length = S →
  Calls Tryz.prog 25 #[d, .int .i64 id, v] w fun e w' => ∃ F', e = .returned (.bool true) ∧ At w' d F' K H S seed (Y ++ [⟨id, x⟩]) ∧ Kp F w w' ∧ ∀ k, F' k → F k ∨ w.heap.size ≤ k
 addNe : ∀ (d : Value) (F : Nat → Prop) (K H S seed : Nat) (Y : List Symb) (id : Int) (v : Value) (x : List Int) (w : World), MayP K H S → seed < 4294967296 → At w d F K H S seed Y → AllY K H S Y → Y.length ≤ 700 → I64 id → Bs w v x → x.length ≤ 1000 → ¬ (MayI id ∧ x.length = S) →
  Calls Tryz.prog 25 #[d, .int .i64 id, v] w fun e w' => ∃ F', e = .returned (.bool false) ∧ At w' d F' K H S seed Y ∧ Kp F w w' ∧ ∀ k, F' k → F k ∨ w.heap.size ≤ k
 need : ∀ (d : Value) (F : Nat → Prop) (K H S seed : Nat) (Y : List Symb) (w : World), MayP K H S → seed < 4294967296 → At w d F K H S seed Y → AllY K H S Y → Y.length ≤ 700 →
  Calls Tryz.prog 26 #[d] w fun e w' => ∃ F', e = .returned (.int .i64 ((K : Int) + H - (rkL (matP K H S seed (idsY Y)) : Int))) ∧ At w' d F' K H S seed Y ∧ Kp F w w' ∧ ∀ k, F' k → F k ∨ w.heap.size ≤ k
 blockM : ∀ (d : Value) (F : Nat → Prop) (K H S seed : Nat) (Y : List Symb) (w : World), MayP K H S → seed < 4294967296 → At w d F K H S seed Y → AllY K H S Y → Y.length ≤ 700 →
  Calls Tryz.prog 29 #[d] w fun e w' => ∃ F' u x out, e = .returned (.tuple #[u, .int .i64 x]) ∧ Bs w' u out ∧ DecSays K H S seed Y x out ∧ At w' d F' K H S seed Y ∧ Kp F w w' ∧ ∀ k, F' k → F k ∨ w.heap.size ≤ k
 addNil : ∀ (id : Int) (v : Value) (x : List Int) (w : World), I64 id → Bs w v x → x.length ≤ 1000 → Calls Tryz.prog 25 #[.pointer none, .int .i64 id, v] w fun e w' => e = .returned (.bool false) ∧ Gr w w'
 needNil : ∀ (w : World), Calls Tryz.prog 26 #[.pointer none] w fun e w' => e = .returned (.int .i64 0) ∧ Gr w w'
 blockNil : ∀ (w : World), Calls Tryz.prog 29 #[.pointer none] w fun e w' => ∃ u, e = .returned (.tuple #[u, .int .i64 1]) ∧ Bs w' u [] ∧ Gr w w'
theorem dec_none {e : Int} {out : List Int} (hs : DecSays 1 1 1 0 [] e out) : e = 9 := by
 have hm : MayP ((1 : Nat) : Int) ((1 : Nat) : Int) ((1 : Nat) : Int) := by unfold MayP; omega
 exact (dec_less (K := 1) (H := 1) (S := 1) (seed := 0) (D := [0]) (l := []) hm rfl (by simp) (by simp) hs).1
set_option maxRecDepth 100000 in
set_option maxHeartbeats 400000 in
theorem decWakes_any {At : World → Value → (Nat → Prop) → Nat → Nat → Nat → Nat → List Symb → Prop} (O : DecOk At) (w : World) : Calls Tryz.prog 9 #[] w fun e w' => e = .returned (.bool true) ∧ Gr w w' := by
 have HO := Lib.hid O
 clear O
 go_enter Tryz.func9, Tryz.ntmps9
 go_wp2_with fail
 refine (HO.out.block 1 1 1 0 _ [] _ (by omega) (Syms.nil _) (by simp) (by simp)).mono ?_
 rintro e w1 ⟨u, x, out, rfl, hb, hg, hs⟩
 have hx := dec_none hs
 subst hx
 obtain ⟨o, m, c, rfl⟩ := Bs.form4 hb
 have G1 := Lib.hid hg
 clear hb hg hs
 go_wp2_with fail
 go_ret
 exact ⟨rfl, G1.out⟩
def ids60 (l : List Int) (n : Nat) : List Int := (l.take n).map fun x => x % 60
theorem ids60_may (l : List Int) (n : Nat) : ∀ i ∈ ids60 l n, MayI i := fun i hi => by
 obtain ⟨x, _, rfl⟩ := List.mem_map.1 hi
 unfold MayI
 omega
theorem ids60_length (l : List Int) (n : Nat) : (ids60 l n).length = min n l.length := by simp [ids60]
theorem ids60_succ {l : List Int} {i : Nat} (h : i < l.length) : ids60 l (i + 1) = ids60 l i ++ [l.getD i 0 % 60] := by
 unfold ids60
 rw [List.take_add_one, List.getElem?_eq_getElem h, List.getD_eq_getElem?_getD, List.getElem?_eq_getElem h, List.map_append]
 rfl
theorem ids60_all {l : List Int} {n : Nat} (h : l.length ≤ n) : ids60 l n = ids60 l l.length := by
 unfold ids60
 rw [List.take_of_length_le h, List.take_of_length_le (Nat.le_refl _)]
theorem symY_snoc (K H S seed : Nat) (M : List (List Int)) (ids : List Int) (i : Int) : symY K H S seed M (ids ++ [i]) = symY K H S seed M ids ++ [⟨i, symP K H S seed M i⟩] := by simp [symY]
set_option maxRecDepth 100000 in
set_option maxHeartbeats 1600000 in
theorem symbols_any {At : World → Value → (Nat → Prop) → Nat → Nat → Nat → Nat → List (List Int) → Prop} (E : EncOk At) (y va : Value) (F : Nat → Prop) (K H S seed most : Nat) (M : List (List Int)) (l : List Int) (w : World) (hm : MayP K H S) (hs : seed < 4294967296)
  (hat : At w y F K H S seed M) (hM : Wide S M) (hMl : M.length = K + H) (hz : Zs w va l) (hmo : most ≤ 1000) :
  Calls Tryz.prog 14 #[y, va, .int .i64 (most : Int)] w fun e w' => ∃ v, e = .returned v ∧ SymsO (fun k => w.heap.size ≤ k) w.heap.size w' v (symY K H S seed M (ids60 l most)) ∧ Gr w w' := by
 have HE := Lib.hid E
 have HM := Lib.hid hm
 have HS := Lib.hid hs
 have HAT := Lib.hid hat
 have HMW := Lib.hid hM
 have HML := Lib.hid hMl
 have HZ := Lib.hid hz
 obtain ⟨oa, ca, rfl⟩ := hz.form
 obtain ⟨n, hn⟩ : ∃ n, l.length = n := ⟨_, rfl⟩
 rw [hn] at HZ ⊢
 have HN := Lib.hid hn
 obtain ⟨ay, rfl⟩ := E.ptr hat
 clear E hm hs hat hM hMl hz hn
 go_enter Tryz.func14, Tryz.ntmps14
 go_wp2_with fail
 go_loopw [7, 8] (fun sv iv W => ∃ i : Nat, i ≤ n ∧ i ≤ most ∧ iv = .int .i64 i ∧ SymsO (fun k => w.heap.size ≤ k) w.heap.size W sv (symY K H S seed M (ids60 l i)) ∧ Gr w W) (fun _ iv _ => n - (intOf iv).toNat)
 case atStart => exact ⟨0, by omega, by omega, rfl, by simpa [ids60, symY] using SymsO.nil _ _, Gr.refl _⟩
 case round =>
  obtain ⟨wo, hwo⟩ : ∃ x, x = wr := ⟨_, rfl⟩
  subst hwo
  obtain ⟨i, hi, him, rfl, ho, hg⟩ := hrel
  have hlen : (symY K H S seed M (ids60 l i)).length = i := by rw [symY_length, ids60_length, HN.out]; omega
  obtain ⟨oo, co, e0⟩ := ho.form
  rw [hlen] at e0
  subst e0
  have OO := Lib.hid ho
  have GG := Lib.hid hg
  have HLN := Lib.hid hlen
  clear ho hg hlen
  by_cases h1 : i < n
  ·by_cases h2 : i < most
   ·obtain ⟨aa, rfl⟩ := HZ.out.addr (by omega)
    have q1 := (HZ.out.grown GG.out).cellAt h1
    obtain ⟨x, hx⟩ : ∃ x, l.getD i 0 = x := ⟨_, rfl⟩
    rw [hx] at q1
    have hst : symY K H S seed M (ids60 l (i + 1)) = symY K H S seed M (ids60 l i) ++ [⟨x % 60, symP K H S seed M (x % 60)⟩] := by
     rw [ids60_succ (by rw [HN.out]; exact h1), hx, symY_snoc]
    have HST := Lib.hid hst
    obtain ⟨z, hz, hz0, hz1⟩ : ∃ z : Nat, x % 60 = (z : Int) ∧ 0 ≤ z ∧ z < 60 := ⟨(x % 60).toNat, by omega, by omega, by omega⟩
    have HZZ := Lib.hid hz
    clear hst hx hz
    go_wp2_with fail
    refine (within_any x 60 (by omega) (by omega) _).mono ?_
    rintro e w' ⟨rfl, rfl⟩
    rw [HZZ.out]
    go_wp2_with fail
    refine (HE.out.symbol _ F K H S seed M z _ HM.out HS.out (HE.out.grown HAT.out GG.out) HMW.out HML.out ⟨by omega, by omega⟩).mono ?_
    rintro e w2 ⟨v2, rfl, hn2⟩
    obtain ⟨o2, m2, c2, rfl⟩ := New.form3 hn2
    have N2 := Lib.hid hn2
    have gA : Gr w2 (w2.alloc (.cells #[.int .i64 (z : Int), .slice o2 m2 c2] 30)) := Gr.alloc (Gr.refl _) _ _
    have GA := Lib.hid gA
    have C0 : Hid ((w2.alloc (.cells #[.int .i64 (z : Int), .slice o2 m2 c2] 30)).cell? ⟨w2.heap.size, 0, none⟩ = some (.int .i64 (z : Int))) := Lib.hid (by rw [cell_of_row _ _ 0 _ _ _ (heap_alloc_new _ _)]; rfl)
    have C1 : Hid ((w2.alloc (.cells #[.int .i64 (z : Int), .slice o2 m2 c2] 30)).cell? ⟨w2.heap.size, 1, none⟩ = some (.slice o2 m2 c2)) := Lib.hid (by rw [cell_of_row _ _ 1 _ _ _ (heap_alloc_new _ _)]; rfl)
    have OA := Lib.hid (OO.out.grown (Gr.trans hn2.1 gA))
    have hv : SyVal (fun k => w.heap.size ≤ k) w.heap.size (w2.alloc (.cells #[.int .i64 (z : Int), .slice o2 m2 c2] 30)) (.int .i64 (z : Int)) (.slice o2 m2 c2) ⟨(z : Int), symP K H S seed M z⟩ := by
     have hb := Rb.gr (New.bs hn2) (New.rb hn2 w.heap.size) gA
     have hz64 : I64 (z : Int) := ⟨by omega, by omega⟩
     refine ⟨rfl, hz64, hb.1, hb.2, fun a m c e hmm => ?_⟩
     obtain ⟨_, _, ⟨_, oa', c', e2, _⟩ | ⟨g, c', cur, e2, q, _⟩⟩ := hn2
     ·rw [e2] at e
      cases e
      omega
     ·rw [e2] at e
      cases e
      exact Nat.le_trans GG.out.size q
    have HV := Lib.hid hv
    clear gA hn2 hv
    go_wp2_with (at_builtin; refine wpList_append_sy rfl _ _ rfl w.heap.size (.slice oo i co) (symY K H S seed M (ids60 l i)) rfl OA.out w2.heap.size (.int .i64 (z : Int)) (.slice o2 m2 c2) ⟨(z : Int), symP K H S seed M z⟩ rfl C0.out C1.out HV.out (by rw [HLN.out]; omega) (by have := GG.out.size; have := N2.out.1.size; simp; omega) ?_; intro v4 w4 h4 hg4 hgr4 hn4; have O4 := Lib.hid h4; have G4 := Lib.hid (hg4 w (Gr.trans GG.out (Gr.trans N2.out.1 GA.out)) (Nat.le_refl _)); clear h4 hg4 hgr4 hn4)
    exact ⟨⟨i + 1, by omega, by omega, by go_num, by rw [HST.out, HZZ.out]; exact O4.out, G4.out⟩, by simp [intOf]; omega⟩
   ·obtain rfl : i = most := by omega
    go_wp2_with fail
    go_ret
    exact ⟨_, rfl, OO.out, GG.out⟩
  ·obtain rfl : i = n := by omega
   go_wp2_with fail
   go_ret
   refine ⟨_, rfl, ?_, GG.out⟩
   rw [ids60_all (by rw [HN.out]; omega), HN.out]
   exact OO.out
end Go.Proofs.YtbbglejdfbkjlaaGreat
namespace Go.Proofs.YtbbglejdfbkjlaaGreat
open Go.RowKit
set_option maxRecDepth 100000 in
set_option maxHeartbeats 6400000 in
theorem decodeBack_walk {At : World → Value → (Nat → Prop) → Nat → Nat → Nat → Nat → List (List Int) → Prop} {At' : World → Value → (Nat → Prop) → Nat → Nat → Nat → Nat → List Symb → Prop} (O : SystemOk) (E : EncOk At) (C : DecOk At') (a b c sd : Int) (vd vi : Value) (D il : List Int) (w : World) (hd : Bs w vd D) (hi : Zs w vi il) :
  Calls Tryz.prog 4 #[.int .i64 a, .int .i64 b, .int .i64 c, .int .u64 sd, vd, vi] w fun e w' => e = .returned (.bool true) ∧ Gr w w' := by
 have HO := Lib.hid O
 have HE := Lib.hid E
 have HC := Lib.hid C
 have HD := Lib.hid hd
 have HI := Lib.hid hi
 obtain ⟨od, md, cd, rfl⟩ := Bs.form4 hd
 obtain ⟨oi, ci, rfl⟩ := hi.form
 clear O E C hd hi
 obtain ⟨K, hK, K1, K2⟩ : ∃ K : Nat, 1 + a % 16 = K ∧ 1 ≤ K ∧ K ≤ 16 := ⟨(1 + a % 16).toNat, by omega, by omega, by omega⟩
 obtain ⟨H, hH, H1, H2⟩ : ∃ K : Nat, 1 + b % 4 = K ∧ 1 ≤ K ∧ K ≤ 4 := ⟨(1 + b % 4).toNat, by omega, by omega, by omega⟩
 obtain ⟨S, hS, S1, S2⟩ : ∃ K : Nat, 1 + c % 24 = K ∧ 1 ≤ K ∧ K ≤ 24 := ⟨(1 + c % 24).toNat, by omega, by omega, by omega⟩
 have hm : MayP K H S := by unfold MayP; omega
 have HM := Lib.hid hm
 obtain ⟨Q, hQ⟩ : ∃ Q, K * S = Q := ⟨_, rfl⟩
 have hQ1 : 1 ≤ Q := by rw [← hQ]; exact Nat.mul_pos K1 S1
 have hQ2 : Q ≤ 384 := by rw [← hQ]; exact Nat.le_trans (Nat.mul_le_mul K2 S2) (by omega)
 have hQi : (K : Int) * (S : Int) = (Q : Int) := by rw [← hQ]; simp
 have hQw : IntKind.i64.wrap (Q : Int) = Q := by simp [IntKind.wrap, IntKind.bits, IntKind.signed]; omega
 have HQ := Lib.hid hQ
 clear hm hQ
 go_enter Tryz.func4, Tryz.ntmps4
 go_wp2_with fail
 refine (params_any a b c _).mono ?_
 rintro e w1 ⟨rfl, hg⟩
 rw [hK, hH, hS]
 clear hK hH hS
 go_wp2_with fail
 have HP : Hid (Par (w1.alloc (.cells #[.int .i64 (K : Int), .int .i64 (H : Int), .int .i64 (S : Int)] 23)) w1.heap.size K H S) := Lib.hid (heap_alloc_new _ _)
 have HG : Hid (Gr w (w1.alloc (.cells #[.int .i64 (K : Int), .int .i64 (H : Int), .int .i64 (S : Int)] 23))) := Lib.hid (Gr.alloc hg _ _)
 clear hg
 generalize w1.alloc (.cells #[.int .i64 (K : Int), .int .i64 (H : Int), .int .i64 (S : Int)] 23) = W0 at *
 generalize w1.heap.size = gp at *
 have c0 := HP.out.cell0
 have c1 := HP.out.cell1
 have c2 := HP.out.cell2
 go_wp2_with fail
 refine (seed_any HO.out K H S sd _).mono ?_
 rintro e w2 ⟨s, rfl, hs, hg2⟩
 have HP2 := Lib.hid (HP.out.grown hg2)
 have HG2 := Lib.hid (Gr.trans HG.out hg2)
 have HS := Lib.hid hs
 clear hg2 HP HG c0 c1 c2 hs
 have c0 := HP2.out.cell0
 have c1 := HP2.out.cell1
 have c2 := HP2.out.cell2
 go_wp2_with fail
 refine (data_any _ D Q _ (Bs.grown HD.out HG2.out) hQ1 (by omega)).mono ?_
 rintro e w3 ⟨x, rfl, hn3⟩
 obtain ⟨X, hX⟩ : ∃ X, dataL D Q = X := ⟨_, rfl⟩
 have HXB : Hid (∀ z ∈ X, Byt z) := Lib.hid (by rw [← hX]; exact dataL_byt HD.out.1 Q)
 have HXL : Hid (X.length = Q) := Lib.hid (by rw [← hX]; exact dataL_length D Q)
 rw [hX] at hn3
 obtain ⟨ox, cx, rfl⟩ := (New.bs hn3).form
 have HBX := Lib.hid (New.bs hn3)
 have HP3 := Lib.hid (HP2.out.grown hn3.1)
 have HG3 := Lib.hid (Gr.trans HG2.out hn3.1)
 rw [HXL.out] at HBX ⊢
 clear hn3 hX HP2 HG2 c0 c1 c2
 have c0 := HP3.out.cell0
 have c1 := HP3.out.cell1
 have c2 := HP3.out.cell2
 go_wp2_with fail
 by_cases hr : RightP K H S s
 ·refine (HE.out.new K H S s _ X _ HS.out HBX.out HM.out (by rw [HXL.out, HQ.out]) hr).mono ?_
  rintro e w4 ⟨y, F, M, rfl, hmid, hat, hg4, _⟩
  obtain ⟨ay, rfl⟩ := HE.out.ptr hat
  have HMI := Lib.hid hmid
  have HAT := Lib.hid hat
  have HBX4 := Lib.hid (Bs.grown HBX.out hg4)
  have HP4 := Lib.hid (HP3.out.grown hg4)
  have HG4 := Lib.hid (Gr.trans HG3.out hg4)
  clear hmid hat hg4 HBX HP3 HG3 c0 c1 c2
  go_wp2_with fail
  refine (symbols_any HE.out _ _ F K H S s 36 M il _ HM.out HS.out HAT.out HMI.out.wide HMI.out.len (HI.out.grown HG4.out) (by omega)).mono ?_
  rintro e w5 ⟨v5, rfl, ho5, hg5⟩
  have HIM := Lib.hid (ids60_may il 36)
  have hil : (ids60 il 36).length ≤ 36 := by rw [ids60_length]; omega
  generalize ids60 il 36 = ids at *
  obtain ⟨n, hn⟩ : ∃ n, ids.length = n := ⟨_, rfl⟩
  obtain ⟨o5, c5, e5⟩ := ho5.form
  rw [symY_length, hn] at e5
  subst e5
  rw [hn] at hil
  have HN := Lib.hid hn
  have HY5 := Lib.hid ho5.syms
  have HP5 := Lib.hid (HP4.out.grown hg5)
  have HG5 := Lib.hid (Gr.trans HG4.out hg5)
  have HBX5 := Lib.hid (Bs.grown HBX4.out hg5)
  clear ho5 hg5 hn HP4 HG4 HBX4 HAT
  go_wp2_with fail
  go_loopw [19, 59] (fun hv iv W => ∃ i : Nat, i ≤ n ∧ iv = .int .i64 i ∧ W.ownsRow w5.heap.size 3 1 hv i ((ids.take i).map (Value.int .i64)) ∧ Gr w5 W) (fun _ iv _ => n - (intOf iv).toNat)
  case atStart => exact ⟨0, by omega, rfl, World.ownsRow_nil _ _ _ _, Gr.refl _⟩
  case round =>
   obtain ⟨wo, hwo⟩ : ∃ x, x = wr := ⟨_, rfl⟩
   subst hwo
   obtain ⟨i, hi, rfl, ho, hg⟩ := hrel
   obtain ⟨oo, co, rfl⟩ := ownsRow_form ho
   have OO := Lib.hid ho
   have GG := Lib.hid hg
   clear ho hg
   by_cases hlt : i < n
   ·obtain ⟨b0, q0, rfl, _⟩ := HY5.out.lay (by omega)
    have hat := (HY5.out.grown GG.out).at hlt
    rw [symY_at (by rw [HN.out]; exact hlt)] at hat
    have hst := take_snocZ (l := ids) (i := i) (by rw [HN.out]; exact hlt)
    generalize ids.getD i 0 = id at *
    obtain ⟨oz, nz, cz, q1, q2, _, _⟩ := hat
    have HST := Lib.hid hst
    clear hst
    have gA : Gr wo (wo.alloc (.cells #[.int .i64 id, .slice oz nz cz] 30)) := Gr.alloc (Gr.refl _) _ _
    have k0 : (wo.alloc (.cells #[.int .i64 id, .slice oz nz cz] 30)).cell? ⟨wo.heap.size, 0, none⟩ = some (.int .i64 id) := by rw [cell_of_row _ _ 0 _ _ _ (heap_alloc_new _ _)]; rfl
    have OA := Lib.hid (OO.out.of_gr gA)
    have GA := Lib.hid (Gr.trans GG.out gA)
    clear gA
    go_upto_region 14 with fail
    generalize wo.alloc (.cells #[.int .i64 id, .slice oz nz cz] 30) = wA at *
    generalize wo.heap.size = gz at *
    go_wp2_with (at_builtin; refine wpList_append_int rfl _ _ rfl w5.heap.size (.slice oo i co) i (ids.take i) rfl (OA.out.of_gr (Gr.alloc (Gr.refl _) _ _)) wA.heap.size id rfl (by rw [cell_of_row _ _ 0 _ _ _ (heap_alloc_new wA _)]; rfl) (by omega) (by have := GA.out.size; simp; omega) ?_; intro g6 c6 w6 h1 h2 h3; have O6 := Lib.hid h1; have G6 := Lib.hid (gr_by_own (Gr.alloc GA.out _ _) h2 (OA.out.of_gr (Gr.alloc (Gr.refl _) _ _)) (Nat.le_refl _)); clear h1 h2 h3)
    exact ⟨⟨i + 1, by omega, by go_num, by rw [HST.out]; exact O6.out, G6.out⟩, by simp [intOf]; omega⟩
   ·obtain rfl : i = n := by omega
    have hzs : Zs wo (.slice oo i co) ids := by
     have h := OO.out
     rw [List.take_of_length_le (by rw [HN.out]; exact Nat.le_refl _)] at h
     exact owns_zs h HN.out fun x hx => may_i64 (HIM.out x hx)
    have HZ := Lib.hid hzs
    have HY6 := Lib.hid (HY5.out.grown GG.out)
    have HP6 := Lib.hid (HP5.out.grown GG.out)
    have HG6 := Lib.hid (Gr.trans HG5.out GG.out)
    have HX6 := Lib.hid (Bs.grown HBX5.out GG.out)
    clear hzs OO GG HY5 HP5 HG5 HBX5
    have c0 := HP6.out.cell0
    have c1 := HP6.out.cell1
    have c2 := HP6.out.cell2
    have hsl : ∀ q ∈ symY K H S s M ids, q.d.length ≤ 1000 := fun q hq => by
     have h1 := (symY_all (seed := s) HM.out HMI.out.wide HMI.out.len HIM.out).2 q hq
     omega
    go_wp2_with fail
    refine (HC.out.block K H S s _ (symY K H S s M ids) _ HS.out HY6.out (by rw [symY_length, HN.out]; omega) hsl).mono ?_
    rintro e w7 ⟨u, x7, out, rfl, hb7, hg7, hs7⟩
    obtain ⟨hf, hnf⟩ := dec_back HM.out HMI.out (by rw [HXL.out, HQ.out]) HXB.out HIM.out hs7
    obtain ⟨o7, m7, c7, rfl⟩ := Bs.form4 hb7
    have HB7 := Lib.hid hb7
    have HZ7 := Lib.hid (HZ.out.grown hg7)
    have HX7 := Lib.hid (Bs.grown HX6.out hg7)
    have HP7 := Lib.hid (HP6.out.grown hg7)
    have HG7 := Lib.hid (Gr.trans HG6.out hg7)
    clear hb7 hg7 hs7 hsl HZ HX6 HP6 HG6 c0 c1 c2
    have c0 := HP7.out.cell0
    have c1 := HP7.out.cell1
    have c2 := HP7.out.cell2
    by_cases hful : FullP K H S s ids
    ·obtain ⟨rfl, rfl⟩ := hf hful
     have HFU := Lib.hid (decide_eq_true hful)
     clear hf hnf hful
     go_wp2_with fail
     refine (HO.out.full K H S s _ ids _ HS.out HZ7.out (by rw [HN.out]; omega)).mono ?_
     rw [HFU.out]
     rintro e w8 ⟨rfl, hg8⟩
     have HB8 := Lib.hid (Bs.grown HB7.out hg8)
     have HX8 := Lib.hid (Bs.grown HX7.out hg8)
     have HG8 := Lib.hid (Gr.trans HG7.out hg8)
     clear hg8
     go_wp2_with fail
     refine (same_any _ _ _ _ _ HB8.out HX8.out).mono ?_
     rw [beq_self_eq_true]
     rintro e w9 ⟨rfl, hg9⟩
     have HG9 := Lib.hid (Gr.trans HG8.out hg9)
     clear hg9
     go_wp2_with fail
     refine (decWakes_any HC.out _).mono ?_
     rintro e wz ⟨rfl, hgz⟩
     have HGZ := Lib.hid (Gr.trans HG9.out hgz)
     clear hgz
     go_wp2_with fail
     go_ret
     exact ⟨rfl, HGZ.out⟩
    ·obtain ⟨rfl, rfl⟩ := hnf hful
     have HFU := Lib.hid (decide_eq_false hful)
     obtain rfl : m7 = 0 := by
      obtain ⟨o', c', he⟩ := HB7.out.form
      cases he
      rfl
     clear hf hnf hful
     go_wp2_with fail
     refine (HO.out.full K H S s _ ids _ HS.out HZ7.out (by rw [HN.out]; omega)).mono ?_
     rw [HFU.out]
     rintro e w8 ⟨rfl, hg8⟩
     have HG8 := Lib.hid (Gr.trans HG7.out hg8)
     clear hg8
     go_wp2_with fail
     refine (decWakes_any HC.out _).mono ?_
     rintro e wz ⟨rfl, hgz⟩
     have HGZ := Lib.hid (Gr.trans HG8.out hgz)
     clear hgz
     go_wp2_with fail
     go_ret
     exact ⟨rfl, HGZ.out⟩
 ·refine (HE.out.newSeed K H S s _ X _ HS.out HBX.out HM.out (by rw [HXL.out, HQ.out]) hr).mono ?_
  rintro e w4 ⟨rfl, hg4⟩
  have HG4 := Lib.hid (Gr.trans HG3.out hg4)
  clear hg4
  go_wp2_with fail
  refine (decWakes_any HC.out _).mono ?_
  rintro e w5 ⟨rfl, hg5⟩
  have HG5 := Lib.hid (Gr.trans HG4.out hg5)
  clear hg5
  go_wp2_with fail
  go_ret
  exact ⟨rfl, HG5.out⟩
end Go.Proofs.YtbbglejdfbkjlaaGreat
namespace Go.Proofs.YtbbglejdfbkjlaaGreat
open Go.RowKit
set_option maxRecDepth 100000 in
set_option maxHeartbeats 6400000 in
theorem decodeOrder_walk {At : World → Value → (Nat → Prop) → Nat → Nat → Nat → Nat → List (List Int) → Prop} {At' : World → Value → (Nat → Prop) → Nat → Nat → Nat → Nat → List Symb → Prop} (O : SystemOk) (E : EncOk At) (C : DecOk At') (a b c sd : Int) (vd vi : Value) (D il : List Int) (tn : Int) (w : World) (hd : Bs w vd D) (hi : Zs w vi il) :
  Calls Tryz.prog 5 #[.int .i64 a, .int .i64 b, .int .i64 c, .int .u64 sd, vd, vi, .int .i64 tn] w fun e w' => e = .returned (.bool true) ∧ Gr w w' := by
 have HO := Lib.hid O
 have HE := Lib.hid E
 have HC := Lib.hid C
 have HD := Lib.hid hd
 have HI := Lib.hid hi
 obtain ⟨od, md, cd, rfl⟩ := Bs.form4 hd
 obtain ⟨oi, ci, rfl⟩ := hi.form
 clear O E C hd hi
 obtain ⟨K, hK, K1, K2⟩ : ∃ K : Nat, 1 + a % 16 = K ∧ 1 ≤ K ∧ K ≤ 16 := ⟨(1 + a % 16).toNat, by omega, by omega, by omega⟩
 obtain ⟨H, hH, H1, H2⟩ : ∃ K : Nat, 1 + b % 4 = K ∧ 1 ≤ K ∧ K ≤ 4 := ⟨(1 + b % 4).toNat, by omega, by omega, by omega⟩
 obtain ⟨S, hS, S1, S2⟩ : ∃ K : Nat, 1 + c % 24 = K ∧ 1 ≤ K ∧ K ≤ 24 := ⟨(1 + c % 24).toNat, by omega, by omega, by omega⟩
 have hm : MayP K H S := by unfold MayP; omega
 have HM := Lib.hid hm
 obtain ⟨Q, hQ⟩ : ∃ Q, K * S = Q := ⟨_, rfl⟩
 have hQ1 : 1 ≤ Q := by rw [← hQ]; exact Nat.mul_pos K1 S1
 have hQ2 : Q ≤ 384 := by rw [← hQ]; exact Nat.le_trans (Nat.mul_le_mul K2 S2) (by omega)
 have hQi : (K : Int) * (S : Int) = (Q : Int) := by rw [← hQ]; simp
 have hQw : IntKind.i64.wrap (Q : Int) = Q := by simp [IntKind.wrap, IntKind.bits, IntKind.signed]; omega
 have HQ := Lib.hid hQ
 clear hm hQ
 go_enter Tryz.func5, Tryz.ntmps5
 go_wp2_with fail
 refine (params_any a b c _).mono ?_
 rintro e w1 ⟨rfl, hg⟩
 rw [hK, hH, hS]
 clear hK hH hS
 go_wp2_with fail
 have HP : Hid (Par (w1.alloc (.cells #[.int .i64 (K : Int), .int .i64 (H : Int), .int .i64 (S : Int)] 23)) w1.heap.size K H S) := Lib.hid (heap_alloc_new _ _)
 have HG : Hid (Gr w (w1.alloc (.cells #[.int .i64 (K : Int), .int .i64 (H : Int), .int .i64 (S : Int)] 23))) := Lib.hid (Gr.alloc hg _ _)
 clear hg
 generalize w1.alloc (.cells #[.int .i64 (K : Int), .int .i64 (H : Int), .int .i64 (S : Int)] 23) = W0 at *
 generalize w1.heap.size = gp at *
 have c0 := HP.out.cell0
 have c1 := HP.out.cell1
 have c2 := HP.out.cell2
 go_wp2_with fail
 refine (seed_any HO.out K H S sd _).mono ?_
 rintro e w2 ⟨s, rfl, hs, hg2⟩
 have HP2 := Lib.hid (HP.out.grown hg2)
 have HG2 := Lib.hid (Gr.trans HG.out hg2)
 have HS := Lib.hid hs
 clear hg2 HP HG c0 c1 c2 hs
 have c0 := HP2.out.cell0
 have c1 := HP2.out.cell1
 have c2 := HP2.out.cell2
 go_wp2_with fail
 obtain ⟨X, hX⟩ : ∃ X, dataL D Q = X := ⟨_, rfl⟩
 have HX := Lib.hid hX
 have HXB : Hid (∀ z ∈ X, Byt z) := Lib.hid (by rw [← hX]; exact dataL_byt HD.out.1 Q)
 have HXL : Hid (X.length = Q) := Lib.hid (by rw [← hX]; exact dataL_length D Q)
 clear hX
 by_cases hr : RightP K H S s
 ·have HR := Lib.hid hr
  clear hr
  go_region_held3 (fun W => W.cell? ⟨gp, 0, none⟩ = some (.int .i64 (K : Int)) ∧ W.cell? ⟨gp, 1, none⟩ = some (.int .i64 (H : Int)) ∧ W.cell? ⟨gp, 2, none⟩ = some (.int .i64 (S : Int))) (first | exact ⟨k20, k21, k22⟩ | exact ⟨k10, k11, k12⟩ | go_keep)
   (first
     | (go_at_call 12; refine (HE.out.new K H S s _ X _ HS.out B1.out HM.out (by rw [HXL.out, HQ.out]) HR.out).mono ?_; rintro e v2 ⟨y, F, M, rfl, hmid, hat, hg4, hF⟩; obtain ⟨ay, rfl⟩ := HE.out.ptr hat; have k20 := cell_grown hg4 (by exact k10); have k21 := cell_grown hg4 (by exact k11); have k22 := cell_grown hg4 (by exact k12); have HMI := Lib.hid hmid; have HAT := Lib.hid hat; have V2 : Hid (Gr w2 v2) := Lib.hid (Gr.trans V1.out hg4); clear hmid hat hg4 hF)
     | (go_at_call 13; refine (data_any _ D Q _ (Bs.grown HD.out (Gr.trans HG2.out (Gr.drew (Gr.refl _)))) hQ1 (by omega)).mono ?_; rw [HX.out]; rintro e v1 ⟨y1, rfl, hn1⟩; obtain ⟨o1, d1, hf1⟩ := (New.bs hn1).form; rw [HXL.out] at hf1; subst hf1; have B1 := Lib.hid (New.bs hn1); have hg1 := hn1.1; have k10 := cell_grown hg1 (by exact c0); have k11 := cell_grown hg1 (by exact c1); have k12 := cell_grown hg1 (by exact c2); have V1 : Hid (Gr w2 v1) := Lib.hid (by exact hg1); clear hn1 hg1))
  have HP4 := Lib.hid (HP2.out.grown V2.out)
  have HG4 := Lib.hid (Gr.trans HG2.out V2.out)
  clear HP2 HG2 V2 V1 B1 c0 c1 c2 k10 k11 k12 k20 k21 k22
  go_wp2_with fail
  refine (symbols_any HE.out _ _ F K H S s 26 M il _ HM.out HS.out HAT.out HMI.out.wide HMI.out.len (HI.out.grown HG4.out) (by omega)).mono ?_
  rintro e w5 ⟨v5, rfl, ho5, hg5⟩
  have HIM := Lib.hid (ids60_may il 26)
  have hil : (ids60 il 26).length ≤ 26 := by rw [ids60_length]; omega
  generalize ids60 il 26 = ids at *
  obtain ⟨R, hR⟩ : ∃ n, ids.length = n := ⟨_, rfl⟩
  obtain ⟨o5, c5, e5⟩ := ho5.form
  rw [symY_length, hR] at e5
  subst e5
  rw [hR] at hil
  have HSA := Lib.hid (symY_all (seed := s) HM.out HMI.out.wide HMI.out.len HIM.out)
  have HRL : Hid ((symY K H S s M ids).length = R) := Lib.hid (by rw [symY_length, hR])
  generalize symY K H S s M ids = Le at *
  have HO5 := Lib.hid ho5
  have HP5 := Lib.hid (HP4.out.grown hg5)
  have HG5 := Lib.hid (Gr.trans HG4.out hg5)
  have H25 := Lib.hid hg5.size
  clear ho5 hg5 HP4 HG4 HAT hR
  obtain ⟨k, hk, hk2⟩ : ∃ k : Nat, tn % ((R : Int) + 1) = (k : Int) ∧ k ≤ R := by
   have h1 := Int.emod_nonneg tn (by omega : (R : Int) + 1 ≠ 0)
   have h2 := Int.emod_lt_of_pos tn (by omega : 0 < (R : Int) + 1)
   exact ⟨(tn % ((R : Int) + 1)).toNat, by omega, by omega⟩
  have HK := Lib.hid hk
  clear hk
  go_wp2_with fail
  refine (within_any tn ((R : Int) + 1) (by omega) (by omega) _).mono ?_
  rintro e w' ⟨rfl, rfl⟩
  rw [HK.out]
  have c0 := HP5.out.cell0
  have c1 := HP5.out.cell1
  have c2 := HP5.out.cell2
  have HSL : Hid (∀ q ∈ Le, q.d.length ≤ 1000) := Lib.hid fun q hq => by
   have h1 := HSA.out.2 q hq
   omega
  go_wp2_with fail
  refine (HC.out.block K H S s _ Le _ HS.out HO5.out.syms (by rw [HRL.out]; omega) HSL.out).mono ?_
  rintro e w7 ⟨u, x7, out, rfl, hb7, hg7, hs7⟩
  obtain ⟨o7, m7, c7, rfl⟩ := Bs.form4 hb7
  have HB7 := Lib.hid hb7
  have HDS := Lib.hid hs7
  have HO7 := Lib.hid (HO5.out.grown hg7)
  have HP7 := Lib.hid (HP5.out.grown hg7)
  have HG7 := Lib.hid (Gr.trans HG5.out hg7)
  have H57 := Lib.hid (Nat.le_trans H25.out hg7.size)
  clear hb7 hg7 hs7 HP5 HO5 c0 c1 c2
  have c0 := HP7.out.cell0
  have c1 := HP7.out.cell1
  have c2 := HP7.out.cell2
  have hmem : ∀ q, q ∈ Le.drop k ++ Le ↔ q ∈ Le := fun q => by
   rw [List.mem_append]
   exact ⟨fun h => h.elim (fun h => List.mem_of_mem_drop h) id, .inr⟩
  have HME := Lib.hid hmem
  have HTL : Hid ((Le.drop k ++ Le).length ≤ 60 ∧ ∀ q ∈ Le.drop k ++ Le, q.d.length ≤ 1000) := Lib.hid ⟨by rw [List.length_append, List.length_drop, HRL.out]; omega, fun q hq => HSL.out q ((hmem q).1 hq)⟩
  clear hmem
  go_wp2_with fail
  go_cut [23, 24] (fun uv xv wx => ∃ u out, uv = u ∧ xv = .int .i64 x7 ∧ Bs wx u out ∧ Gr w7 wx ∧ Bs wx (.slice o7 m7 c7) out)
  case first =>
   rcases HO7.out.lies with ⟨rfl, rfl, rfl⟩ | ⟨g2, rfl, hc2⟩
   ·obtain rfl : Le = [] := List.eq_nil_of_length_eq_zero HRL.out
    obtain rfl : k = 0 := by omega
    go_region_held3 (fun W => W.cell? ⟨gp, 0, none⟩ = some (.int .i64 (K : Int)) ∧ W.cell? ⟨gp, 1, none⟩ = some (.int .i64 (H : Int)) ∧ W.cell? ⟨gp, 2, none⟩ = some (.int .i64 (S : Int))) (first | exact ⟨k20, k21, k22⟩ | go_keep)
     (first
       | (go_at_call 17; refine (HC.out.block K H S s _ [] _ HS.out (Syms.nil _) (by simp) (by simp)).mono ?_; rintro e v8 ⟨u8, x8, out8, rfl, hb8, hg8, hs8⟩; obtain ⟨rfl, rfl⟩ := DecSays.unique HDS.out hs8; obtain ⟨o8, m8, d8, rfl⟩ := Bs.form4 hb8; have k20 := cell_grown hg8 (by exact c0); have k21 := cell_grown hg8 (by exact c1); have k22 := cell_grown hg8 (by exact c2); have B8 := Lib.hid hb8; have V8 : Hid (Gr w7 v8) := Lib.hid (by exact hg8); clear hb8 hg8 hs8))
    go_wp2_with fail
    go_meet
    exact ⟨_, _, rfl, rfl, B8.out, V8.out, Bs.grown HB7.out V8.out⟩
   ·have hV0 : SymsV (fun _ => True) w7.heap.size w7 (some ⟨g2, 0, none⟩) R Le := (HO7.out.vals.mono H57.out).imp fun _ _ => trivial
    obtain ⟨od2, hod, hVd⟩ : ∃ od, (if c5 = k then some (⟨g2, 0, none⟩ : Addr) else some ⟨g2, k * 2, none⟩) = some od ∧ SymsV (fun _ => True) w7.heap.size w7 (some od) (R - k) (Le.drop k) := by
     by_cases e : c5 = k
     ·rw [if_pos e]
      have h1 : R - k = 0 := by omega
      have h2 : Le.drop k = [] := List.drop_eq_nil_of_le (by rw [HRL.out]; omega)
      rw [h1, h2]
      exact ⟨_, rfl, SymsV.nil _ _ _⟩
     ·rw [if_neg e]
      refine ⟨_, rfl, ?_⟩
      have h := hV0.drop k
      rw [Addr.add_mid, Nat.zero_add] at h
      exact h
    obtain ⟨y, hy⟩ : ∃ y, R - k = y := ⟨_, rfl⟩
    obtain ⟨z, hz⟩ : ∃ z, c5 - k = z := ⟨_, rfl⟩
    rw [hy] at hVd
    have VD := Lib.hid hVd
    have V0 := Lib.hid hV0
    have hyl : y ≤ 26 := by omega
    have HY : Hid (([] ++ Le.drop k : List Symb).length = y) := Lib.hid (by rw [List.nil_append, List.length_drop, HRL.out]; exact hy)
    have HT : Hid ((Le.drop k ++ Le).length = y + R) := Lib.hid (by rw [List.length_append, List.length_drop, HRL.out, hy])
    have b1 : (k : Int) ≤ R := by omega
    have b2 : (R : Int) ≤ c5 := by omega
    have b3 : (k : Int) ≤ c5 := by omega
    clear hVd hV0
    go_region_held3 (fun W => W.cell? ⟨gp, 0, none⟩ = some (.int .i64 (K : Int)) ∧ W.cell? ⟨gp, 1, none⟩ = some (.int .i64 (H : Int)) ∧ W.cell? ⟨gp, 2, none⟩ = some (.int .i64 (S : Int))) (first | exact ⟨k20, k21, k22⟩ | exact ⟨k60, k61, k62⟩ | exact ⟨k50, k51, k52⟩ | go_keep)
     (first
       | (go_at_call 17; have hx6 := L6; refine (HC.out.block K H S s _ (Le.drop k ++ Le) _ HS.out L6.out.syms (by have := HTL.out.1; omega) HTL.out.2).mono ?_; rintro e v8 ⟨u8, x8, out8, rfl, hb8, hg8, hs8⟩; obtain ⟨rfl, rfl⟩ := DecSays.unique HDS.out (hs8.congr HME.out); obtain ⟨o8, m8, d8, rfl⟩ := Bs.form4 hb8; have k20 := cell_grown hg8 (by exact k60); have k21 := cell_grown hg8 (by exact k61); have k22 := cell_grown hg8 (by exact k62); have B8 := Lib.hid hb8; have V8 : Hid (Gr w7 v8) := Lib.hid (Gr.trans G6.out hg8); clear hb8 hg8 hs8)
       | (have hx5 := L5; refine step_append_sys rfl _ _ (by rfl) w7.heap.size (.slice o9 y c9) ([] ++ Le.drop k) Le (by rfl) L5.out (some ⟨g2, 0, none⟩) R c5 (by rfl) (V0.out.grown G5.out) (fun e => by cases e) (by rw [HY.out]; omega) G5.out.size ?_; intro v6 w6 h6 hg6 hgr6; have L6 := Lib.hid h6; have G6 := Lib.hid (hg6 w7 G5.out (Nat.le_refl _)); have k60 := cell_grown G6.out (by exact c0); have k61 := cell_grown G6.out (by exact c1); have k62 := cell_grown G6.out (by exact c2); clear h6 hg6 hgr6; obtain ⟨o6, c6, e6⟩ := L6.out.form; rw [List.nil_append, HT.out] at e6; subst e6; rw [List.nil_append] at L6)
       | (refine step_append_sys rfl _ _ (by rfl) w7.heap.size (.slice none 0 0) [] (Le.drop k) (by rfl) (SymsO.nil _ _) (some od2) y z (by rfl) (VD.out.grown (Gr.drew (Gr.refl _))) (fun e => by cases e) (by simp; omega) (by simp) ?_; intro v5 w5 h5 hg5 hgr5; have L5 := Lib.hid h5; have G5 := Lib.hid (hg5 w7 (Gr.drew (Gr.refl _)) (Nat.le_refl _)); have k50 := cell_grown G5.out (by exact c0); have k51 := cell_grown G5.out (by exact c1); have k52 := cell_grown G5.out (by exact c2); clear h5 hg5 hgr5; obtain ⟨o9, c9, e9⟩ := L5.out.form; rw [HY.out] at e9; subst e9))
    go_wp2_with fail
    go_meet
    exact ⟨_, _, rfl, rfl, B8.out, V8.out, Bs.grown HB7.out V8.out⟩
  case rest =>
   obtain ⟨u8, out8, rfl, rfl, hb8, hg8, hb9⟩ := hcut
   obtain ⟨o8, m8, d8, rfl⟩ := Bs.form4 hb8
   have B8 := Lib.hid hb8
   have B9 := Lib.hid hb9
   have HG8 := Lib.hid (Gr.trans HG7.out hg8)
   clear hb8 hb9 hg8 HB7
   go_wp2_with fail
   refine (same_any _ _ _ _ _ B9.out B8.out).mono ?_
   rw [beq_self_eq_true]
   rintro e w9 ⟨rfl, hg9⟩
   have HG9 := Lib.hid (Gr.trans HG8.out hg9)
   clear hg9
   go_wp2_with fail
   refine (decWakes_any HC.out _).mono ?_
   rintro e wz ⟨rfl, hgz⟩
   have HGZ := Lib.hid (Gr.trans HG9.out hgz)
   clear hgz
   go_wp2_with fail
   go_ret
   exact ⟨rfl, HGZ.out⟩
 ·have HR := Lib.hid hr
  clear hr
  go_region_held3 (fun W => W.cell? ⟨gp, 0, none⟩ = some (.int .i64 (K : Int)) ∧ W.cell? ⟨gp, 1, none⟩ = some (.int .i64 (H : Int)) ∧ W.cell? ⟨gp, 2, none⟩ = some (.int .i64 (S : Int))) (first | exact ⟨k20, k21, k22⟩ | exact ⟨k10, k11, k12⟩ | go_keep)
   (first
     | (go_at_call 12; refine (HE.out.newSeed K H S s _ X _ HS.out B1.out HM.out (by rw [HXL.out, HQ.out]) HR.out).mono ?_; rintro e v2 ⟨rfl, hg4⟩; have k20 := cell_grown hg4 (by exact k10); have k21 := cell_grown hg4 (by exact k11); have k22 := cell_grown hg4 (by exact k12); have V2 : Hid (Gr w2 v2) := Lib.hid (Gr.trans V1.out hg4); clear hg4)
     | (go_at_call 13; refine (data_any _ D Q _ (Bs.grown HD.out (Gr.trans HG2.out (Gr.drew (Gr.refl _)))) hQ1 (by omega)).mono ?_; rw [HX.out]; rintro e v1 ⟨y1, rfl, hn1⟩; obtain ⟨o1, d1, hf1⟩ := (New.bs hn1).form; rw [HXL.out] at hf1; subst hf1; have B1 := Lib.hid (New.bs hn1); have hg1 := hn1.1; have k10 := cell_grown hg1 (by exact c0); have k11 := cell_grown hg1 (by exact c1); have k12 := cell_grown hg1 (by exact c2); have V1 : Hid (Gr w2 v1) := Lib.hid (by exact hg1); clear hn1 hg1))
  have HG4 := Lib.hid (Gr.trans HG2.out V2.out)
  go_wp2_with fail
  refine (decWakes_any HC.out _).mono ?_
  rintro e w5 ⟨rfl, hg5⟩
  have HG5 := Lib.hid (Gr.trans HG4.out hg5)
  clear hg5
  go_wp2_with fail
  go_ret
  exact ⟨rfl, HG5.out⟩
end Go.Proofs.YtbbglejdfbkjlaaGreat
namespace Go.Proofs.YtbbglejdfbkjlaaGreat
open Go.RowKit
section
variable {base : Nat} {w0 W : World} {g n c k : Nat} {A Lm : List (List Int)} {us : List Value} {ps : List Nat} {col : Nat}
theorem ownsRow_far {v : Value} {e : TypeId} {size m g' i : Nat} {u : Value} {xs : List Value} (h : W.ownsRow base e size v m xs) (hne : v.ownBlock ≠ some g') : (W.setCell ⟨g', i, none⟩ u).ownsRow base e size v m xs := by
 obtain ⟨h0, h1 | ⟨g, c, cur, rfl, hb, hg, h2⟩⟩ := h
 ·exact ⟨h0, .inl h1⟩
 ·refine ⟨h0, .inr ⟨g, c, cur, rfl, hb, ?_, h2⟩⟩
  rw [heap_setCell_other _ _ _ _ (fun e => hne (by subst e; rfl))]
  exact hg
theorem row_far {g' i : Nat} {u v : Value} {l : List Int} (hb : Bs W v l) (hr : Rb base W v) (hrow : ∀ q, some g' = some q → base ≤ q ∧ ∀ cur, W.heap[q]? ≠ some (.cells cur 5 (0, 0))) : Bs (W.setCell ⟨g', i, none⟩ u) v l ∧ Rb base (W.setCell ⟨g', i, none⟩ u) v :=
 Rb.kept hb hr (row := some g') (fun j _ hne => heap_setCell_other _ _ _ _ (fun e => hne (by rw [e]))) hrow
end
theorem add_nought (a : Addr) : a.add 0 = a := by
 unfold Addr.add
 split <;> simp_all
def Apart2 (x y : Value) : Prop := ∀ g, x.ownBlock = some g → y.ownBlock ≠ some g
end Go.Proofs.YtbbglejdfbkjlaaGreat
namespace Go.Proofs.YtbbglejdfbkjlaaGreat
open Go.RowKit
theorem SymsO.beside {P : Nat → Prop} {base : Nat} {w w' : World} {v2 : Value} {L2 : List Symb} {row : Option Nat} (h : SymsO P base w v2 L2) (hg : w.grownBy w' row) (hne : ∀ g, v2.ownBlock = some g → row ≠ some g)
  (hno : ∀ g, row = some g → base ≤ g ∧ ∀ cur, w.heap[g]? ≠ some (.cells cur 5 (0, 0))) : SymsO P base w' v2 L2 := by
 obtain ⟨us, ho, hr⟩ := h
 exact ⟨us, own_through ho hg hne, fun i hi => ⟨(hr i hi).1, (hr i hi).2.1, (Rb.kept (hr i hi).2.2.1 (hr i hi).2.2.2.1 hg.block hno).1, (Rb.kept (hr i hi).2.2.1 (hr i hi).2.2.2.1 hg.block hno).2, (hr i hi).2.2.2.2⟩⟩
theorem wpList_append_syA {P : Nat → Prop} {w : World} {ops : Array Oper} {rest : List Oper} {o : Oper} {a : Act} {Q : Exit → Act → World → Prop} (hgd : o.guard = none) (s x : Operand)
  (ho : o.op = .call { callee := .builtin .append, args := #[s, x], argTypes := #[27, 27] }) (base : Nat) (v : Value) (L : List Symb) (hs : a.eval s = v) (hR : SymsO P base w v L)
  (g : Nat) (uc ud : Value) (q : Symb) (hx : a.eval x = .slice (some ⟨g, 0, none⟩) 1 1) (hc : w.cell? ⟨g, 0, none⟩ = some uc) (hd : w.cell? ⟨g, 1, none⟩ = some ud) (hq : SyVal P base w uc ud q) (hm : L.length ≤ 100000) (hbase : base ≤ w.heap.size)
  (h : ∀ g' cap w', SymsO P base w' (.slice (some ⟨g', 0, none⟩) (L.length + 1) cap) (L ++ [q]) → (∀ w0, Gr w0 w → w0.heap.size ≤ base → Gr w0 w') → w.grownBy w' v.ownBlock → (v.ownBlock = some g' ∨ g' = w.heap.size) → (∀ t : TypeId, t ≠ 30 → ∀ g, v.ownBlock = some g → base ≤ g ∧ ∀ cur, w.heap[g]? ≠ some (.cells cur t (0, 0))) →
    (∀ v2 L2, SymsO P base w v2 L2 → Apart2 v v2 → SymsO P base w' v2 L2 ∧ Apart2 (.slice (some ⟨g', 0, none⟩) (L.length + 1) cap) v2) → wpList Tryz.prog ops Q rest (a.put o.dst (.slice (some ⟨g', 0, none⟩) (L.length + 1) cap)) w') : wpList Tryz.prog ops Q (o :: rest) a w := by
 obtain ⟨i, hi, hzz⟩ := Option.map_eq_some_iff.1 infoY
 simp only [Prod.mk.injEq] at hzz
 obtain ⟨hz0, hz1, hz2⟩ := hzz
 obtain ⟨z, hz, hzs⟩ := Option.map_eq_some_iff.1 hz0
 obtain ⟨us, hown, hr⟩ := hR
 have e1 := hq.1
 obtain ⟨od, cd, e2⟩ := hq.2.2.1.form
 refine wpList_append_lies w hgd s x 27 ho base 30 i z 2 32 Tryz.underlying27 hi hz hz1 hz2 hzs (by omega) v L.length us hs hown ⟨g, 0, none⟩ 1 1 [uc, ud] hx rfl (fun j u hj => by
   match j, hj with
   | 0, hj =>
     obtain rfl : uc = u := by simpa using hj
     exact hc
   | 1, hj =>
     obtain rfl : ud = u := by simpa using hj
     exact hd
   | j + 2, hj => simp at hj) (fun u hu => by
     simp at hu
     rcases hu with rfl | rfl
     · rw [e1]; rfl
     · rw [e2]; rfl) (by omega) (by unfold maxLen; omega) (by omega) hbase _ rfl ?_
 intro gg cap w' h1 h2 h3 _
 have hlen : us.length = L.length * 2 := hown.1
 refine h gg cap w' ⟨us ++ [uc, ud], by rw [List.length_append]; exact h1, fun k hk => ?_⟩ (fun w0 hg hb => Gr.append hg h2 fun k hv => by have := sy_base hown k hv; omega) h2 h3 (fun t ht => sy_not hown ht) fun v2 L2 hR2 hap => ⟨hR2.beside h2 (fun q e => fun e2 => hap q e2 e) (sy_not hown (by decide)), fun q e1' e2' => ?_⟩
 ·rw [List.length_append, List.length_singleton] at hk
  by_cases e : k < L.length
  ·rw [List.getD_eq_getElem?_getD, List.getD_eq_getElem?_getD, List.getD_eq_getElem?_getD, List.getElem?_append_left (by omega), List.getElem?_append_left (by omega), List.getElem?_append_left e, ← List.getD_eq_getElem?_getD, ← List.getD_eq_getElem?_getD, ← List.getD_eq_getElem?_getD]
   exact (hr k e).kept hown h2
  ·obtain rfl : k = L.length := by omega
   have d1 : (us ++ [uc, ud]).getD (L.length * 2) undef = uc := by rw [List.getD_eq_getElem?_getD, List.getElem?_append_right (by omega), hlen, Nat.sub_self]; rfl
   have d2 : (us ++ [uc, ud]).getD (L.length * 2 + 1) undef = ud := by rw [List.getD_eq_getElem?_getD, List.getElem?_append_right (by omega), hlen, Nat.add_sub_cancel_left]; rfl
   have d3 : (L ++ [q]).getD L.length noY = q := by rw [List.getD_eq_getElem?_getD, List.getElem?_append_right (by omega)]; simp
   rw [d1, d2, d3]
   exact hq.kept hown h2
 ·have e1'' : q = gg := by simpa [Value.ownBlock] using e1'.symm
  subst e1''
  rcases h3 with h3 | h3
  ·exact hap q h3 e2'
  ·have := hR2.own_lt q e2'
   omega
end Go.Proofs.YtbbglejdfbkjlaaGreat
namespace Go.Proofs.YtbbglejdfbkjlaaGreat
open Go.RowKit
def SymsI (P : Nat → Nat → Prop) (base : Nat) (w : World) (v : Value) (Y : List Symb) : Prop := ∃ us, w.ownsRow base 30 2 v Y.length us ∧ ∀ i, i < Y.length → SyVal (P i) base w (us.getD (i * 2) undef) (us.getD (i * 2 + 1) undef) (Y.getD i noY)
theorem SymsI.nil {P : Nat → Nat → Prop} (base : Nat) (w : World) : SymsI P base w (.slice none 0 0) [] := ⟨[], World.ownsRow_nil _ _ _ _, fun i hi => by simp at hi⟩
theorem SymsI.grown {P : Nat → Nat → Prop} {base : Nat} {w w' : World} {v : Value} {Y : List Symb} (h : SymsI P base w v Y) (hg : Gr w w') : SymsI P base w' v Y := by
 obtain ⟨us, ho, hr⟩ := h
 exact ⟨us, ho.of_gr hg, fun i hi => (hr i hi).gr hg⟩
theorem SymsI.o {P : Nat → Nat → Prop} {base : Nat} {w : World} {v : Value} {Y : List Symb} (h : SymsI P base w v Y) : SymsO (fun _ => True) base w v Y := by
 obtain ⟨us, ho, hr⟩ := h
 exact ⟨us, ho, fun i hi => (hr i hi).imp fun _ _ => trivial⟩
theorem SymsI.imp {P P' : Nat → Nat → Prop} {base : Nat} {w : World} {v : Value} {Y : List Symb} (h : SymsI P base w v Y) (hp : ∀ i b, i < Y.length → P i b → P' i b) : SymsI P' base w v Y := by
 obtain ⟨us, ho, hr⟩ := h
 exact ⟨us, ho, fun i hi => (hr i hi).imp fun b hb => hp i b hi hb⟩
theorem wpList_append_syI {P : Nat → Nat → Prop} {w : World} {ops : Array Oper} {rest : List Oper} {o : Oper} {a : Act} {Q : Exit → Act → World → Prop} (hgd : o.guard = none) (s x : Operand)
  (ho : o.op = .call { callee := .builtin .append, args := #[s, x], argTypes := #[27, 27] }) (base : Nat) (v : Value) (Y : List Symb) (hs : a.eval s = v) (hR : SymsI P base w v Y)
  (g : Nat) (uc ud : Value) (q : Symb) (hx : a.eval x = .slice (some ⟨g, 0, none⟩) 1 1) (hc : w.cell? ⟨g, 0, none⟩ = some uc) (hd : w.cell? ⟨g, 1, none⟩ = some ud) (hq : SyVal (P Y.length) base w uc ud q) (hm : Y.length ≤ 100000) (hbase : base ≤ w.heap.size)
  (h : ∀ v' w', SymsI P base w' v' (Y ++ [q]) → (∀ w0, Gr w0 w → w0.heap.size ≤ base → Gr w0 w') → w.heap.size ≤ w'.heap.size → wpList Tryz.prog ops Q rest (a.put o.dst v') w') : wpList Tryz.prog ops Q (o :: rest) a w := by
 obtain ⟨i, hi, hzz⟩ := Option.map_eq_some_iff.1 infoY
 simp only [Prod.mk.injEq] at hzz
 obtain ⟨hz0, hz1, hz2⟩ := hzz
 obtain ⟨z, hz, hzs⟩ := Option.map_eq_some_iff.1 hz0
 obtain ⟨us, hown, hr⟩ := hR
 have e1 := hq.1
 obtain ⟨od, cd, e2⟩ := hq.2.2.1.form
 refine wpList_append_own w hgd s x 27 ho base 30 i z 2 32 Tryz.underlying27 hi hz hz1 hz2 hzs (by omega) v Y.length us hs hown ⟨g, 0, none⟩ 1 1 [uc, ud] hx rfl (fun j u hj => by
   match j, hj with
   | 0, hj =>
     obtain rfl : uc = u := by simpa using hj
     exact hc
   | 1, hj =>
     obtain rfl : ud = u := by simpa using hj
     exact hd
   | j + 2, hj => simp at hj) (fun u hu => by
     simp at hu
     rcases hu with rfl | rfl
     · rw [e1]; rfl
     · rw [e2]; rfl) (by unfold maxLen; omega) (by omega) hbase ?_
 intro v' w' h1 h2 _
 have hlen : us.length = Y.length * 2 := hown.1
 refine h v' w' ⟨us ++ [uc, ud], by rw [List.length_append]; exact h1, fun k hk => ?_⟩ (fun w0 hg hb => Gr.append hg h2 fun k hv => by have := sy_base hown k hv; omega) h2.size
 rw [List.length_append, List.length_singleton] at hk
 by_cases e : k < Y.length
 ·rw [List.getD_eq_getElem?_getD, List.getD_eq_getElem?_getD, List.getD_eq_getElem?_getD, List.getElem?_append_left (by omega), List.getElem?_append_left (by omega), List.getElem?_append_left e, ← List.getD_eq_getElem?_getD, ← List.getD_eq_getElem?_getD, ← List.getD_eq_getElem?_getD]
  exact (hr k e).kept hown h2
 ·obtain rfl : k = Y.length := by omega
  have d1 : (us ++ [uc, ud]).getD (Y.length * 2) undef = uc := by rw [List.getD_eq_getElem?_getD, List.getElem?_append_right (by omega), hlen, Nat.sub_self]; rfl
  have d2 : (us ++ [uc, ud]).getD (Y.length * 2 + 1) undef = ud := by rw [List.getD_eq_getElem?_getD, List.getElem?_append_right (by omega), hlen, Nat.add_sub_cancel_left]; rfl
  have d3 : (Y ++ [q]).getD Y.length noY = q := by rw [List.getD_eq_getElem?_getD, List.getElem?_append_right (by omega)]; simp
  rw [d1, d2, d3]
  exact hq.kept hown h2
theorem cell_farY {W : World} {x y : Addr} {v u : Value} (h : W.cell? x = some u) (hne : x ≠ y) : (W.setCell y v).cell? x = some u := by
 rw [World.cell?_setCell_other _ _ _ _ hne.symm]
 exact h
theorem SymsI.turn {P : Nat → Nat → Prop} {base g o n c k : Nat} {w : World} {Y : List Symb} (h : SymsI P base w (.slice (some ⟨g, o, none⟩) n c) Y) (hk : k < n) (hP : ∀ i j b, i < n → j < n → P i b → P j b → i = j) (hb : ∀ i b, P i b → base ≤ b) (hd : 0 < (Y.getD k noY).d.length) :
  ∃ b od m cd, w.cell? ⟨g, o + k * 2 + 1, none⟩ = some (.slice (some ⟨b, od, none⟩) m cd) ∧ m = (Y.getD k noY).d.length ∧ m ≤ cd ∧ w.cell? ⟨b, od, none⟩ = some (.int .u8 ((Y.getD k noY).d.getD 0 0)) ∧ w.frozen? ⟨b, od, none⟩ = false ∧ base ≤ b ∧
   ∀ z, Byt z → Syms (w.setCell ⟨b, od, none⟩ (.int .u8 z)) (.slice (some ⟨g, o, none⟩) n c) (Y.set k ⟨(Y.getD k noY).i, (Y.getD k noY).d.set 0 z⟩) := by
 obtain ⟨us, ho, hr⟩ := h
 obtain ⟨hlen, ⟨he, _⟩ | ⟨g', c', cur, he, h1, h2, h3, h4, h5, h6⟩⟩ := ho
 ·cases he
 cases he
 have hcell : ∀ (W : World), W.heap[g]? = some (.cells cur 30 (0, 0)) → ∀ j, j < Y.length * 2 → W.cell? ⟨g, j, none⟩ = some (us.getD j undef) := fun W hW j hj => by
  rw [cell_of_row _ _ _ _ _ _ hW]
  have e : (cur.toList.take (Y.length * 2))[j]? = us[j]? := by rw [h6]
  rw [List.getElem?_take_of_lt hj] at e
  have hus : j < us.length := by omega
  rw [List.getD_eq_getElem?_getD, List.getElem?_eq_getElem hus]
  rw [List.getElem?_eq_getElem hus] at e
  simpa using e
 have hq := hr k hk
 obtain ⟨q1, q2, q3, q4, q5⟩ := hq
 obtain ⟨od', cd, e2⟩ := q3.form
 have q3' := q3
 rw [e2] at q3' q4 q5
 obtain ⟨ad, rfl⟩ := Bs.addr q3' hd
 obtain ⟨hby, oa, cc, hf, z2, z3, z4, z5⟩ := q3'
 cases hf
 have hc0 := z5 ad rfl 0 hd
 rw [add_noughtY] at hc0
 obtain ⟨b, od, sp⟩ := ad
 obtain rfl : sp = none := by
  cases sp with
  | none => rfl
  | some s =>
   unfold World.cell? at hc0
   split at hc0 <;> simp at hc0
 have hPk := q5 _ _ _ rfl hd
 have hbb := hb k _ hPk
 obtain ⟨curb, hcb⟩ : ∃ curb, w.heap[b]? = some (.cells curb 5 (0, 0)) := by
  rcases q4 _ _ _ rfl hd with h | h
  ·have : base ≤ b := hbb
   have h' : b < base := h
   omega
  ·exact h
 have hne : g ≠ b := fun e => by
  rw [← e, h2] at hcb
  simp at hcb
 refine ⟨b, od, _, cd, by rw [Nat.zero_add]; rw [hcell w h2 _ (by omega), e2], rfl, z2, hc0, frozen_of_row w b od _ _ hcb, hbb, fun z hz => ?_⟩
 have hW2 : (w.setCell ⟨b, od, none⟩ (.int .u8 z)).heap[g]? = some (.cells cur 30 (0, 0)) := by
  rw [heap_setCell_other _ _ _ _ hne]
  exact h2
 refine ⟨_, c, by rw [List.length_set], by rw [List.length_set]; exact h3, by unfold maxLen at h4; omega, (fun e => by cases e), fun _ => ⟨g, 0, rfl, fun i hi => ?_⟩⟩
 rw [List.length_set] at hi
 obtain ⟨p1, p2, p3, p4, p5⟩ := hr i hi
 by_cases e : i = k
 ·subst e
  have e3 : (Y.set i ⟨(Y.getD i noY).i, (Y.getD i noY).d.set 0 z⟩).getD i noY = ⟨(Y.getD i noY).i, (Y.getD i noY).d.set 0 z⟩ := by
   rw [List.getD_eq_getElem?_getD, List.getElem?_set_self hi]
   rfl
  rw [e3]
  refine ⟨some ⟨b, od, none⟩, (Y.getD i noY).d.length, cd, by rw [Nat.zero_add, hcell _ hW2 _ (by omega), p1], by rw [Nat.zero_add, hcell _ hW2 _ (by omega), e2], p2, fun x hx => ?_, some ⟨b, od, none⟩, cd, by rw [List.length_set], by rw [List.length_set]; exact z2, z3, (fun e => by cases e), fun a ha j hj => ?_⟩
  ·rcases List.mem_or_eq_of_mem_set hx with hx | rfl
   ·exact hby x hx
   ·exact hz
  ·cases ha
   rw [List.length_set] at hj
   by_cases ej : j = 0
   ·subst ej
    rw [add_noughtY, World.cell?_setCell_same _ _ _ hc0, List.getD_eq_getElem?_getD, List.getElem?_set_self hj]
    rfl
   ·have e6 : ((Y.getD i noY).d.set 0 z).getD j 0 = (Y.getD i noY).d.getD j 0 := by
     rw [List.getD_eq_getElem?_getD, List.getElem?_set_ne (fun c => ej c.symm), ← List.getD_eq_getElem?_getD]
    rw [cell_farY (z5 _ rfl j hj) (by unfold Addr.add; rw [if_neg ej]; simp)]
    show _ = some (Value.int .u8 (((Y.getD i noY).d.set 0 z).getD j 0))
    rw [e6]
 ·have e3 : (Y.set k ⟨(Y.getD k noY).i, (Y.getD k noY).d.set 0 z⟩).getD i noY = Y.getD i noY := by
   rw [List.getD_eq_getElem?_getD, List.getElem?_set_ne (fun c => e c.symm), ← List.getD_eq_getElem?_getD]
  rw [e3]
  obtain ⟨oi, ci, e4⟩ := p3.form
  rw [e4] at p3 p5
  refine ⟨oi, _, ci, by rw [Nat.zero_add, hcell _ hW2 _ (by omega), p1], by rw [Nat.zero_add, hcell _ hW2 _ (by omega), e4], p2, ?_⟩
  obtain ⟨r1, oa, cc, hf, r2, r3, r4, r5⟩ := p3
  cases hf
  refine ⟨r1, oi, ci, rfl, r2, r3, r4, fun a ha j hj => ?_⟩
  have hbl : (a.add j).block = a.block := by unfold Addr.add; split <;> rfl
  rw [cell_farY (r5 a ha j hj) (fun e5 => e (hP i k b hi hk (by
    have h7 := p5 a _ _ (by rw [ha]) (by omega)
    have h8 : a.block = b := by rw [← hbl, e5]
    rw [← h8]
    exact h7) hPk))]
end Go.Proofs.YtbbglejdfbkjlaaGreat
