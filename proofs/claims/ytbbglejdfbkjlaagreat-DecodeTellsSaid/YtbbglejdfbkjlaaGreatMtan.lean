/-
  Texts laid behind one another: Qd Qh Do Ly Cj.
-/
import Derived.Test.YtbbglejdfbkjlaaGreatMtam
import Derived.Test.YtbbglejdfbkjlaaGreatMtal
import Derived.Deep.CutBlock
import Derived.Deep.QuietTactic
import Derived.BigQuiet
import Derived.Test.YtbbglejdfbkjlaaGreatMtaa
import Derived.Shelf.Sort.Plain
import Derived.Shelf.Slices.In.SortNone
import Derived.Test.YtbbglejdfbkjlaaGreatMtac
import Derived.Lib.SortBridge
namespace Go.Proofs.YtbbglejdfbkjlaaGreat
open Go.RowKit
def VT : PL.Two L.V := ⟨L.vadd, L.vzero, L.vadd_comm, L.vadd_assoc, L.vzero_add, L.vadd_self⟩
def toE (q : Eqn) : PL.E L.V := ⟨q.c.map Int.toNat, vec q.d⟩
def valV (vs : List (List Int)) : Nat → L.V := fun x => vec (vs.getD x [])
def dlen : List Eqn → Nat
 | [] => 0
 | q :: _ => q.d.length
def MayEqs (n : Int) (L : List Eqn) : Prop := 0 ≤ n ∧ n ≤ 64 ∧ ∀ q ∈ L, MayRow n q.c ∧ q.d.length = dlen L
theorem vec_rest {S : Nat} {kn : List Bool} {vs : List (List Int)} (hv : Valed S kn vs) : ∀ (c d : List Int), d.length = S → (∀ z ∈ d, Byt z) → vec (restL kn vs c d) = L.vadd (vec d) (PL.tot VT (valV vs) ((c.map Int.toNat).filter fun x => kn.getD x false))
 | [], d, _, _ => (L.vadd_zero _).symm
 | x :: c, d, h1, h2 => by
  show vec (restL kn vs c (if kn.getD x.toNat false = true then sumL (vs.getD x.toNat []) d else d)) = _
  rw [List.map_cons]
  by_cases hk : kn.getD x.toNat false = true
  ·obtain ⟨a1, a2⟩ := hv.2 x.toNat hk
   rw [if_pos hk, vec_rest hv c _ (by rw [sumL_length, a1]) (sumL_byt a2 h2), vec_sum a2 h2 (by rw [a1, h1]), List.filter_cons_of_pos (p := fun x => kn.getD x false) hk]
   show _ = L.vadd (vec d) (L.vadd (vec (vs.getD x.toNat [])) _)
   rw [L.vadd_comm (vec (vs.getD x.toNat [])), L.vadd_assoc]
  ·rw [if_neg hk, vec_rest hv c d h1 h2, List.filter_cons_of_neg (p := fun x => kn.getD x false) hk]
structure PeelInv (n S : Nat) (E : List (PL.E L.V)) (kn : List Bool) (vs : List (List Int)) : Prop where
 len : kn.length = n
 val : Valed S kn vs
 no : ∀ x, kn.getD x false = false → vs.getD x [] = []
 der : ∀ x, kn.getD x false = true → PL.Der E x
 agree : ∀ v, PL.Holds VT E v → ∀ x, kn.getD x false = true → v x = valV vs x
theorem rep_false (n x : Nat) : (List.replicate n false).getD x false = false := by
 rw [List.getD_eq_getElem?_getD, List.getElem?_replicate]
 split <;> rfl
theorem PeelInv.start (n S : Nat) (E : List (PL.E L.V)) : PeelInv n S E (List.replicate n false) (List.replicate n []) := by
 refine ⟨by simp, ⟨by simp, fun x hx => ?_⟩, fun x _ => ?_, fun x hx => ?_, fun v _ x hx => ?_⟩
 ·rw [rep_false] at hx; cases hx
 ·rw [List.getD_eq_getElem?_getD, List.getElem?_replicate]
  split <;> rfl
 ·rw [rep_false] at hx; cases hx
 ·rw [rep_false] at hx; cases hx
theorem openL_mem {kn : List Bool} {c : List Int} {x : Int} : x ∈ openL kn c ↔ x ∈ c ∧ kn.getD x.toNat false = false := by
 unfold openL
 rw [List.mem_filter]
 cases kn.getD x.toNat false <;> simp
theorem getD_set_selfT {l : List Bool} {x : Nat} (h : x < l.length) (b : Bool) : (l.set x b).getD x false = b := by
 rw [List.getD_eq_getElem?_getD, List.getElem?_set_self h]
 rfl
theorem getD_set_neT {l : List Bool} {x y : Nat} (h : x ≠ y) (b : Bool) : (l.set x b).getD y false = l.getD y false := by
 rw [List.getD_eq_getElem?_getD, List.getElem?_set_ne h, List.getD_eq_getElem?_getD]
theorem mayRow_nodup {n : Int} {c : List Int} (h : MayRow n c) : (c.map Int.toNat).Nodup := by
 have hp : c.Pairwise (· < ·) := by
  rw [List.pairwise_iff_getElem]
  have key : ∀ d i, i + 1 + d < c.length → c.getD i 0 < c.getD (i + 1 + d) 0 := by
   intro d
   induction d with
   | zero => intro i hi; exact h.2 i hi
   | succ d ih => intro i hi; exact Int.lt_trans (ih i (by omega)) (h.2 (i + 1 + d) (by omega))
  intro i j hi hj hij
  have := key (j - i - 1) i (by omega)
  rw [show i + 1 + (j - i - 1) = j from by omega, List.getD_eq_getElem?_getD, List.getD_eq_getElem?_getD, List.getElem?_eq_getElem hi, List.getElem?_eq_getElem hj] at this
  exact this
 rw [List.nodup_iff_pairwise_ne, List.pairwise_map]
 refine List.Pairwise.imp_of_mem (fun {a b} ha hb hab => ?_) hp
 have h1 := h.1 a ha
 have h2 := h.1 b hb
 omega
theorem PeelInv.step {n S : Nat} {Eqs : List Eqn} {kn : List Bool} {vs : List (List Int)} (hm : ∀ q ∈ Eqs, MayRow n q.c ∧ q.d.length = S ∧ ∀ z ∈ q.d, Byt z) (h : PeelInv n S (Eqs.map toE) kn vs) {q : Eqn} (hq : q ∈ Eqs) {x : Nat} (ho : openL kn q.c = [(x : Int)]) :
  PeelInv n S (Eqs.map toE) (kn.set x true) (vs.set x (restL kn vs q.c q.d)) := by
 obtain ⟨m1, m2, m3⟩ := hm q hq
 have hx := openL_mem.1 (show (x : Int) ∈ openL kn q.c by rw [ho]; simp)
 rw [Int.toNat_natCast] at hx
 have hxn : x < kn.length := by have := m1.1 _ hx.1; rw [h.len]; omega
 have hxv : x < vs.length := by rw [h.val.1]; exact hxn
 have hr := restL_ok h.val q.c q.d m2 m3
 have hqe : toE q ∈ Eqs.map toE := List.mem_map.2 ⟨q, hq, rfl⟩
 have hcx : x ∈ (toE q).cols := List.mem_map.2 ⟨(x : Int), hx.1, Int.toNat_natCast x⟩
 have hoth : ∀ d, d ∈ (toE q).cols → d ≠ x → kn.getD d false = true := fun d hd hne => by
  obtain ⟨y, hy, rfl⟩ := List.mem_map.1 hd
  cases hk : kn.getD y.toNat false with
  | true => rfl
  | false =>
   have : y ∈ openL kn q.c := openL_mem.2 ⟨hy, hk⟩
   rw [ho] at this
   obtain rfl : y = (x : Int) := by simpa using this
   exact absurd (Int.toNat_natCast x) hne
 have hdx : PL.Der (Eqs.map toE) x := .by_row _ x hqe hcx fun d hd hne => h.der d (hoth d hd hne)
 have hnd : ∀ e, e ∈ Eqs.map toE → e.cols.Nodup := fun e he => by
  obtain ⟨r, hr, rfl⟩ := List.mem_map.1 he
  exact mayRow_nodup (hm r hr).1
 refine ⟨by rw [List.length_set]; exact h.len, ⟨by rw [List.length_set, List.length_set]; exact h.val.1, fun y hy => ?_⟩, fun y hy => ?_, fun y hy => ?_, fun v hv y hy => ?_⟩
 ·by_cases e : x = y
  ·subst e
   rw [getD_set_self _ _ _ hxv]
   exact hr
  ·rw [getD_set_ne _ _ _ _ e]
   rw [getD_set_neT e] at hy
   exact h.val.2 y hy
 ·by_cases e : x = y
  ·subst e
   rw [getD_set_selfT hxn] at hy
   cases hy
  ·rw [getD_set_neT e] at hy
   rw [getD_set_ne _ _ _ _ e]
   exact h.no y hy
 ·by_cases e : x = y
  ·subst e; exact hdx
  ·rw [getD_set_neT e] at hy
   exact h.der y hy
 ·by_cases e : x = y
  ·subst e
   unfold valV
   rw [getD_set_self _ _ _ hxv, vec_rest h.val q.c q.d m2 m3, PL.Holds.told VT hnd hv hqe hcx fun d hd hne => h.der d (hoth d hd hne)]
   show L.vadd (vec q.d) _ = L.vadd (vec q.d) _
   congr 1
   have e1 : ((toE q).cols.filter fun d => d != x) = ((q.c.map Int.toNat).filter fun x => kn.getD x false) := by
    refine List.filter_congr fun d hd => ?_
    by_cases e2 : d = x
    ·subst e2
     rw [hx.2]
     simp
    ·rw [hoth d hd e2]
     simpa using e2
   rw [e1]
   exact PL.tot_congr VT fun d hd => h.agree v hv d (List.mem_filter.1 hd).2
  ·rw [getD_set_neT e] at hy
   unfold valV
   rw [getD_set_ne _ _ _ _ e]
   exact h.agree v hv y hy
theorem PeelInv.closed {n S : Nat} {Eqs : List Eqn} {kn : List Bool} {vs : List (List Int)} (hm : ∀ q ∈ Eqs, MayRow n q.c) (h : PeelInv n S (Eqs.map toE) kn vs) (hc : ∀ q ∈ Eqs, (openL kn q.c).length ≠ 1) (x : Nat) : kn.getD x false = true ↔ PL.Der (Eqs.map toE) x := by
 refine ⟨h.der x, fun hd => ?_⟩
 refine PL.Der.closed (K := fun x => kn.getD x false = true) (fun e he c hce hoth => ?_) hd
 obtain ⟨q, hq, rfl⟩ := List.mem_map.1 he
 obtain ⟨y, hy, rfl⟩ := List.mem_map.1 hce
 cases hk : kn.getD y.toNat false with
 | true => rfl
 | false =>
  exfalso
  refine hc q hq ?_
  have hone : ∀ z ∈ openL kn q.c, z = y := fun z hz => by
   obtain ⟨z1, z2⟩ := openL_mem.1 hz
   apply Classical.byContradiction
   intro hne
   have hzn := (hm q hq).1 z z1
   have hyn := (hm q hq).1 y hy
   have := hoth z.toNat (List.mem_map.2 ⟨z, z1, rfl⟩) (by omega)
   rw [z2] at this
   cases this
  have hnd : (openL kn q.c).Nodup := by
   have := mayRow_nodup (hm q hq)
   have h2 : q.c.Nodup := by
    rw [List.nodup_iff_pairwise_ne, List.pairwise_map] at this
    rw [List.nodup_iff_pairwise_ne]
    exact this.imp fun h e => h (by rw [e])
   exact h2.filter _
  have hym : y ∈ openL kn q.c := openL_mem.2 ⟨hy, hk⟩
  match hl : openL kn q.c, hone, hnd, hym with
  | [], _, _, hym => simp at hym
  | [_], _, _, _ => rfl
  | a :: b :: l, hone, hnd, _ =>
   have h1 := hone a (by simp)
   have h2 := hone b (by simp)
   rw [List.nodup_cons] at hnd
   exact absurd (by rw [h1, ← h2]; simp) hnd.1
def leftE (kn : List Bool) (vs : List (List Int)) (Eqs : List Eqn) : List Eqn := (Eqs.filter fun q => decide (0 < (openL kn q.c).length)).map fun q => ⟨openL kn q.c, restL kn vs q.c q.d⟩
structure PeelOkIs (n S : Nat) (E : List (PL.E L.V)) (kn : List Bool) (vs : List (List Int)) : Prop where
 len : kn.length = n
 val : Valed S kn vs
 no : ∀ x, kn.getD x false = false → vs.getD x [] = []
 der : ∀ x, kn.getD x false = true ↔ PL.Der E x
 holds : PL.Holds VT E (valV vs)
def PeelSays (n : Int) (Eqs : List Eqn) (kn : List Bool) (vs : List (List Int)) (rs : List Eqn) (e : Int) : Prop :=
 (¬ MayEqs n Eqs ∧ e = 1 ∧ kn = [] ∧ vs = [] ∧ rs = []) ∨
 (MayEqs n Eqs ∧ (¬ ∃ v, PL.Holds VT (Eqs.map toE) v) ∧ e = 10 ∧ kn = [] ∧ vs = [] ∧ rs = []) ∨
 (MayEqs n Eqs ∧ e = 0 ∧ PeelOkIs n.toNat (dlen Eqs) (Eqs.map toE) kn vs ∧ rs = leftE kn vs Eqs)
end Go.Proofs.YtbbglejdfbkjlaaGreat
namespace Go.Proofs.YtbbglejdfbkjlaaGreat
open Go.RowKit
def noE : Eqn := ⟨[], []⟩
def EqAt (w : World) (b o i : Nat) (q : Eqn) : Prop := ∃ oc nc cc od nd cd, w.cell? ⟨b, o + i * 2, none⟩ = some (.slice oc nc cc) ∧ w.cell? ⟨b, o + i * 2 + 1, none⟩ = some (.slice od nd cd) ∧ Zs w (.slice oc nc cc) q.c ∧ Bs w (.slice od nd cd) q.d
theorem EqAt.grown {w w' : World} {b o i : Nat} {q : Eqn} (h : EqAt w b o i q) (hg : Gr w w') : EqAt w' b o i q := by
 obtain ⟨oc, nc, cc, od, nd, cd, h1, h2, h3, h4⟩ := h
 exact ⟨oc, nc, cc, od, nd, cd, cell_gr hg h1, cell_gr hg h2, h3.grown hg, h4.grown hg⟩
def Eqs (w : World) (v : Value) (L : List Eqn) : Prop :=
 ∃ oa c, v = .slice oa L.length c ∧ L.length ≤ c ∧ c ≤ 9223372036854775807 ∧ (oa = none → c = 0) ∧ (0 < L.length → ∃ b o, oa = some ⟨b, o, none⟩ ∧ ∀ i, i < L.length → EqAt w b o i (L.getD i noE))
theorem Eqs.grown {w w' : World} {v : Value} {L : List Eqn} (h : Eqs w v L) (hg : Gr w w') : Eqs w' v L := by
 obtain ⟨oa, c, h1, h2, h3, h4, h5⟩ := h
 refine ⟨oa, c, h1, h2, h3, h4, fun h0 => ?_⟩
 obtain ⟨b, o, q1, q2⟩ := h5 h0
 exact ⟨b, o, q1, fun i hi => (q2 i hi).grown hg⟩
theorem Eqs.nil (w : World) : Eqs w (.slice none 0 0) [] := ⟨none, 0, rfl, by simp, by omega, fun _ => rfl, fun h => by simp at h⟩
theorem Eqs.form {w : World} {v : Value} {L : List Eqn} (h : Eqs w v L) : ∃ o c, v = .slice o L.length c := by
 obtain ⟨oa, c, h1, _⟩ := h
 exact ⟨oa, c, h1⟩
theorem Eqs.lay {w : World} {oa : Option Addr} {m c : Nat} {L : List Eqn} (h : Eqs w (.slice oa m c) L) (hm : 0 < m) : ∃ b o, oa = some ⟨b, o, none⟩ ∧ ∀ i, i < m → EqAt w b o i (L.getD i noE) := by
 obtain ⟨oa', c', he, h2, h3, h4, h5⟩ := h
 obtain ⟨rfl, rfl, rfl⟩ : oa = oa' ∧ m = L.length ∧ c = c' := by simpa using he
 exact h5 hm
theorem Eqs.at {w : World} {b o m c : Nat} {L : List Eqn} (h : Eqs w (.slice (some ⟨b, o, none⟩) m c) L) {i : Nat} (hi : i < m) : EqAt w b o i (L.getD i noE) := by
 obtain ⟨b', o', he, h2⟩ := h.lay (by omega)
 simp at he
 obtain ⟨rfl, rfl⟩ := he
 exact h2 i hi
theorem gr_drN (W : World) (d : Nat) : Gr W (W.drewN d) := Gr.refl W
theorem Eqs.byt {w : World} {v : Value} {L : List Eqn} (h : Eqs w v L) : ∀ q ∈ L, ∀ z ∈ q.d, Byt z := fun q hq => by
 obtain ⟨i, hi, rfl⟩ := List.getElem_of_mem hq
 obtain ⟨oa, c, rfl, _, _, _, h5⟩ := h
 obtain ⟨b, o, _, h6⟩ := h5 (by omega)
 obtain ⟨_, _, _, _, _, _, _, _, _, h7⟩ := h6 i hi
 rw [List.getD_eq_getElem?_getD, List.getElem?_eq_getElem hi] at h7
 exact h7.1
theorem results_tmp4 {fn : Func} {t u v z : Tmp} (h : fn.results = #[.tmp t, .tmp u, .tmp v, .tmp z]) (tmps : Array Value) (P : Program) (w : World) :
  (results fn tmps).run P w = .ok (.tuple #[tmps.getD t undef, tmps.getD u undef, tmps.getD v undef, tmps.getD z undef]) w := by
 simp [results, h]
def RowOkE (n : Int) (L : List Eqn) (q : Eqn) : Prop := MayRow n q.c ∧ q.d.length = dlen L
theorem dlen_at {L : List Eqn} (h : 0 < L.length) : (L.getD 0 noE).d.length = dlen L := by
 cases L with
 | nil => simp at h
 | cons q L => rfl
theorem getD_memE {L : List Eqn} {i : Nat} (h : i < L.length) : L.getD i noE ∈ L := by
 rw [List.getD_eq_getElem?_getD, List.getElem?_eq_getElem h]
 exact List.getElem_mem h
structure KV (w0 W : World) (gk gv N : Nat) (kn : List Bool) (vs : List (List Int)) (us : List Value) : Prop where
 k : Blt W gk kn
 klow : w0.heap.size ≤ gk
 klen : kn.length = N
 own : W.ownsRow w0.heap.size 25 1 (.slice (some ⟨gv, 0, none⟩) N N) N us
 row : ∀ i, i < N → Bs W (us.getD i undef) (vs.getD i []) ∧ Rb w0.heap.size W (us.getD i undef)
 vlen : vs.length = N
 gr : Gr w0 W
section
variable {w0 W : World} {gk gv N : Nat} {kn : List Bool} {vs : List (List Int)} {us : List Value}
theorem KV.grow {W' : World} (h : KV w0 W gk gv N kn vs us) (hg : Gr W W') : KV w0 W' gk gv N kn vs us :=
 ⟨h.k.grown hg, h.klow, h.klen, h.own.of_gr hg, fun i hi => Rb.gr (h.row i hi).1 (h.row i hi).2 hg, h.vlen, Gr.trans h.gr hg⟩
theorem KV.low (h : KV w0 W gk gv N kn vs us) : w0.heap.size ≤ gv := (ownsRow_not_bytes h.own gv rfl).1
theorem KV.cellV (h : KV w0 W gk gv N kn vs us) (i : Nat) (hi : i < N) : W.cell? ⟨gv, i, none⟩ = some (us.getD i undef) := by
 obtain ⟨g', c', he, _, _, _, _, hc⟩ := ownsRow_cell h.own (by omega)
 cases he
 exact hc i hi
theorem KV.rowV (h : KV w0 W gk gv N kn vs us) : ∃ cur, W.heap[gv]? = some (.cells cur 25 (0, 0)) := by
 obtain ⟨_, ⟨he, _⟩ | ⟨g', c', cur, he, _, hg, _⟩⟩ := h.own
 ·cases he
 ·cases he
  exact ⟨cur, hg⟩
theorem KV.frozenV (h : KV w0 W gk gv N kn vs us) (i : Nat) : W.frozen? ⟨gv, i, none⟩ = false := by
 obtain ⟨cur, hg⟩ := h.rowV
 exact frozen_of_row W gv i _ _ hg
theorem KV.ne (h : KV w0 W gk gv N kn vs us) : gk ≠ gv := fun e => by
 obtain ⟨cur, hg⟩ := h.rowV
 have h1 := h.k
 unfold Blt at h1
 rw [e, hg] at h1
 simp at h1
theorem KV.cellK (h : KV w0 W gk gv N kn vs us) (i : Nat) (hi : i < N) : W.cell? ⟨gk, i, none⟩ = some (.bool (kn.getD i false)) := h.k.cell i (by rw [h.klen]; exact hi)
theorem KV.bl (h : KV w0 W gk gv N kn vs us) (hN : N ≤ 1000000) : Bl W (.slice (some ⟨gk, 0, none⟩) N N) kn := by
 have := h.k.bl (by rw [h.klen]; exact hN)
 rwa [h.klen] at this
theorem KV.bss (h : KV w0 W gk gv N kn vs us) : Bss W (.slice (some ⟨gv, 0, none⟩) N N) vs := owns_bss h.own h.vlen fun i hi => (h.row i (by rw [← h.vlen]; exact hi)).1
theorem KV.putV {u : Value} {l : List Int} (h : KV w0 W gk gv N kn vs us) {x : Nat} (hx : x < N) (hb : Bs W u l) (hrb : Rb w0.heap.size W u) : KV w0 (W.setCell ⟨gv, x, none⟩ u) gk gv N kn (vs.set x l) (us.set x u) := by
 obtain ⟨h1, h2⟩ := Rws.set h.own h.vlen h.row x hx hb hrb
 refine ⟨?_, h.klow, h.klen, h1, h2, by rw [List.length_set]; exact h.vlen, Gr.setCell h.gr h.low u⟩
 have h3 := h.k
 unfold Blt at *
 rw [heap_setCell_other _ _ _ _ h.ne]
 exact h3
theorem KV.putK (h : KV w0 W gk gv N kn vs us) (x : Nat) (b : Bool) : KV w0 (W.setCell ⟨gk, x, none⟩ (.bool b)) gk gv N (kn.set x b) vs us := by
 have hrow : ∀ q, some gk = some q → w0.heap.size ≤ q ∧ ∀ cur, W.heap[q]? ≠ some (.cells cur 5 (0, 0)) := fun q e => by
  cases e
  refine ⟨h.klow, fun cur hc => ?_⟩
  have h3 := h.k
  unfold Blt at h3
  rw [h3] at hc
  simp at hc
 exact ⟨h.k.set x b, h.klow, by rw [List.length_set]; exact h.klen, ownsRow_far h.own (fun e => h.ne (by cases e; rfl)), fun i hi => row_far (h.row i hi).1 (h.row i hi).2 hrow, h.vlen, Gr.setCell h.gr h.klow _⟩
end
theorem KV.of_blocks {w0 W : World} {gk gv N : Nat} (hN : N ≤ 1000000) (h1 : W.heap[gk]? = some (.cells (rowT (List.replicate N false)) 4 (0, 0))) (h2 : W.heap[gv]? = some (.cells (nils N) 25 (0, 0))) (hk : w0.heap.size ≤ gk) (hv : w0.heap.size ≤ gv) (hg : Gr w0 W) :
  KV w0 W gk gv N (List.replicate N false) (List.replicate N []) (List.replicate N (.slice none 0 0)) := by
 refine ⟨h1, hk, by simp, ⟨by simp, .inr ⟨gv, N, nils N, rfl, hv, h2, Nat.le_refl _, by unfold maxLen; omega, by simp [nils], by simp [nils]⟩⟩, fun i hi => ?_, by simp, hg⟩
 have e1 : (List.replicate N (Value.slice none 0 0)).getD i undef = .slice none 0 0 := by rw [List.getD_eq_getElem?_getD, List.getElem?_replicate, if_pos hi]; rfl
 have e2 : (List.replicate N ([] : List Int)).getD i [] = [] := by rw [List.getD_eq_getElem?_getD, List.getElem?_replicate, if_pos hi]; rfl
 rw [e1, e2]
 exact ⟨Bs.nil _, fun a n c e _ => by cases e⟩
theorem KV.start {w0 W : World} (N : Nat) (hN : N ≤ 1000000) (hg : Gr w0 W) : KV w0 ((W.alloc (.cells (rowT (List.replicate N false)) 4)).alloc (.cells (nils N) 25)) W.heap.size (W.heap.size + 1) N (List.replicate N false) (List.replicate N []) (List.replicate N (.slice none 0 0)) :=
 KV.of_blocks hN (heap_alloc2_old _ _ _) (heap_alloc2_new _ _ _) hg.size (by have := hg.size; omega) (Gr.alloc (Gr.alloc hg _ _) _ _)
theorem KV.start' {w0 W : World} (N : Nat) (hN : N ≤ 1000000) (hg : Gr w0 W) : KV w0 ((W.alloc (.cells (nils N) 25)).alloc (.cells (rowT (List.replicate N false)) 4)) (W.heap.size + 1) W.heap.size N (List.replicate N false) (List.replicate N []) (List.replicate N (.slice none 0 0)) :=
 KV.of_blocks hN (heap_alloc2_new _ _ _) (heap_alloc2_old _ _ _) (by have := hg.size; omega) hg.size (Gr.alloc (Gr.alloc hg _ _) _ _)
def unk (kn : List Bool) (N : Nat) : Nat := ((List.range N).filter fun i => !(kn.getD i false)).length
open Classical in
noncomputable def unkW (W : World) (gk N : Nat) : Nat := ((List.range N).filter fun i => decide (W.cell? ⟨gk, i, none⟩ = some (.bool false))).length
theorem KV.unkW {w0 W : World} {gk gv N : Nat} {kn : List Bool} {vs : List (List Int)} {us : List Value} (h : KV w0 W gk gv N kn vs us) : unkW W gk N = unk kn N := by
 unfold Go.Proofs.YtbbglejdfbkjlaaGreat.unkW unk
 congr 1
 refine List.filter_congr fun i hi => ?_
 rw [h.cellK i (List.mem_range.1 hi)]
 cases kn.getD i false <;> simp
theorem unk_set {kn : List Bool} {N x : Nat} (hl : kn.length = N) (hx : x < N) (hk : kn.getD x false = false) : unk (kn.set x true) N < unk kn N := by
 unfold unk
 have h1 : ((List.range N).filter fun i => !((kn.set x true).getD i false)) = ((List.range N).filter fun i => !(kn.getD i false)).filter fun i => i != x := by
  rw [List.filter_filter]
  refine List.filter_congr fun i _ => ?_
  by_cases e : x = i
  ·subst e
   rw [getD_set_selfT (by omega)]
   simp
  ·rw [getD_set_neT e]
   have : (i != x) = true := by simpa using fun h : i = x => e h.symm
   rw [this]
   simp
 rw [h1]
 have hm : x ∈ (List.range N).filter fun i => !(kn.getD i false) := List.mem_filter.2 ⟨List.mem_range.2 hx, by rw [hk]; rfl⟩
 exact List.length_filter_lt_length_iff_exists.2 ⟨x, hm, by simp⟩
def Rz (base : Nat) (w : World) (u : Value) : Prop := ∀ a n c, u = .slice (some a) n c → 0 < n → a.block < base ∨ ∃ cur, w.heap[a.block]? = some (.cells cur 3 (0, 0))
theorem Rz.kept {base : Nat} {w w' : World} {u : Value} {l : List Int} {row : Option Nat} (hb : Zs w u l) (hr : Rz base w u)
  (hk : ∀ k, k < w.heap.size → some k ≠ row → w'.heap[k]? = w.heap[k]?) (hrow : ∀ g, row = some g → base ≤ g ∧ ∀ cur, w.heap[g]? ≠ some (.cells cur 3 (0, 0))) : Zs w' u l ∧ Rz base w' u := by
 have far : ∀ a n c, u = .slice (some a) n c → 0 < n → a.block < w.heap.size → w'.heap[a.block]? = w.heap[a.block]? := by
  intro a n c hu hn hlt
  refine hk _ hlt fun e => ?_
  obtain ⟨h1, h2⟩ := hrow a.block e.symm
  rcases hr a n c hu hn with h | ⟨cur, h⟩
  ·omega
  ·exact h2 cur h
 obtain ⟨h0, oa, c, rfl, h2, h3, h4, h5⟩ := hb
 refine ⟨⟨h0, oa, c, rfl, h2, h3, h4, fun a ha i hi => ?_⟩, fun a n c' hu hn => ?_⟩
 ·have hc := h5 a ha i hi
  subst ha
  have hlt := World.block_lt_of_cell? w _ hc
  have hbl : (a.add i).block = a.block := by unfold Addr.add; split <;> rfl
  rw [hbl] at hlt
  rw [World.cell?_of_block (w := w) (w' := w') (a := a.add i) (by rw [hbl]; exact far a _ _ rfl (by omega) hlt)]
  exact hc
 ·rcases hr a n c' hu hn with h | ⟨cur, h⟩
  ·exact .inl h
  ·refine .inr ⟨cur, ?_⟩
   have hlt : a.block < w.heap.size := by
    rcases Nat.lt_or_ge a.block w.heap.size with hlt | hge
    ·exact hlt
    ·rw [Array.getElem?_eq_none hge] at h
     cases h
   rw [far a n c' hu hn hlt, h]
theorem Rz.gr {base : Nat} {w w' : World} {u : Value} {l : List Int} (hb : Zs w u l) (hr : Rz base w u) (hg : Gr w w') : Zs w' u l ∧ Rz base w' u :=
 Rz.kept (row := none) hb hr (fun k hk _ => hg.2.2.2.2 k hk) (fun g h => by cases h)
def EqVal (base : Nat) (w : World) (uc ud : Value) (q : Eqn) : Prop := Zs w uc q.c ∧ Rz base w uc ∧ Bs w ud q.d ∧ Rb base w ud
theorem EqVal.gr {base : Nat} {w w' : World} {uc ud : Value} {q : Eqn} (h : EqVal base w uc ud q) (hg : Gr w w') : EqVal base w' uc ud q :=
 ⟨(Rz.gr h.1 h.2.1 hg).1, (Rz.gr h.1 h.2.1 hg).2, (Rb.gr h.2.2.1 h.2.2.2 hg).1, (Rb.gr h.2.2.1 h.2.2.2 hg).2⟩
def EqsO (base : Nat) (w : World) (v : Value) (L : List Eqn) : Prop := ∃ us, w.ownsRow base 160 2 v L.length us ∧ ∀ i, i < L.length → EqVal base w (us.getD (i * 2) undef) (us.getD (i * 2 + 1) undef) (L.getD i noE)
theorem EqsO.nil (base : Nat) (w : World) : EqsO base w (.slice none 0 0) [] := ⟨[], World.ownsRow_nil _ _ _ _, fun i hi => by simp at hi⟩
theorem EqsO.grown {base : Nat} {w w' : World} {v : Value} {L : List Eqn} (h : EqsO base w v L) (hg : Gr w w') : EqsO base w' v L := by
 obtain ⟨us, ho, hr⟩ := h
 exact ⟨us, ho.of_gr hg, fun i hi => (hr i hi).gr hg⟩
theorem EqsO.form {base : Nat} {w : World} {v : Value} {L : List Eqn} (h : EqsO base w v L) : ∃ o c, v = .slice o L.length c := by
 obtain ⟨us, ⟨_, ⟨rfl, h⟩ | ⟨g, c, cur, rfl, _⟩⟩, _⟩ := h
 ·exact ⟨none, 0, by rw [h]⟩
 ·exact ⟨_, _, rfl⟩
theorem EqsO.eqs {base : Nat} {w : World} {v : Value} {L : List Eqn} (h : EqsO base w v L) : Eqs w v L := by
 obtain ⟨us, ⟨hlen, ⟨rfl, h0⟩ | ⟨g, c, cur, rfl, h1, h2, h3, h4, h5, h6⟩⟩, hr⟩ := h
 ·obtain rfl : L = [] := List.eq_nil_of_length_eq_zero h0
  exact Eqs.nil w
 ·refine ⟨_, c, rfl, h3, by unfold maxLen at h4; omega, (fun e => by cases e), fun _ => ⟨g, 0, rfl, fun i hi => ?_⟩⟩
  obtain ⟨z1, _, z3, _⟩ := hr i hi
  obtain ⟨oc, cc, e1⟩ := z1.form
  obtain ⟨od, cd, e2⟩ := z3.form
  have hcell : ∀ j, j < L.length * 2 → w.cell? ⟨g, j, none⟩ = some (us.getD j undef) := fun j hj => by
   rw [cell_of_row _ _ _ _ _ _ h2]
   have e : (cur.toList.take (L.length * 2))[j]? = us[j]? := by rw [h6]
   rw [List.getElem?_take_of_lt hj] at e
   have hus : j < us.length := by omega
   rw [List.getD_eq_getElem?_getD, List.getElem?_eq_getElem hus]
   rw [List.getElem?_eq_getElem hus] at e
   simpa using e
  rw [e1] at z1
  rw [e2] at z3
  exact ⟨oc, _, cc, od, _, cd, by rw [Nat.zero_add, hcell _ (by omega), e1], by rw [Nat.zero_add, hcell _ (by omega), e2], z1, z3⟩
theorem infoE : (Tryz.prog.info? 160).map (fun i => (i.zero.map (·.cells.size), i.size, i.bytes)) = some (some 2, 2, 48) := by kernel_rfl
theorem eq_not {w : World} {base : Nat} {v : Value} {n : Nat} {us : List Value} (h : w.ownsRow base 160 2 v n us) {t : TypeId} (ht : t ≠ 160) : ∀ g, v.ownBlock = some g → base ≤ g ∧ ∀ cur, w.heap[g]? ≠ some (.cells cur t (0, 0)) := by
 intro g hg
 obtain ⟨_, ⟨rfl, _⟩ | ⟨g', c, cur, rfl, hb, hgg, _⟩⟩ := h
 ·cases hg
 ·simp [Value.ownBlock] at hg
  subst hg
  refine ⟨hb, fun cur' e => ?_⟩
  rw [hgg] at e
  simp at e
  exact ht e.2.symm
theorem EqVal.kept {base : Nat} {w w' : World} {uc ud v : Value} {q : Eqn} {n : Nat} {us : List Value} (h : EqVal base w uc ud q) (ho : w.ownsRow base 160 2 v n us) (hg : w.grownBy w' v.ownBlock) : EqVal base w' uc ud q :=
 ⟨(Rz.kept h.1 h.2.1 hg.block (eq_not ho (by decide))).1, (Rz.kept h.1 h.2.1 hg.block (eq_not ho (by decide))).2, (Rb.kept h.2.2.1 h.2.2.2 hg.block (eq_not ho (by decide))).1, (Rb.kept h.2.2.1 h.2.2.2 hg.block (eq_not ho (by decide))).2⟩
theorem eq_base {w : World} {base : Nat} {v : Value} {n : Nat} {us : List Value} (h : w.ownsRow base 160 2 v n us) : ∀ g, v.ownBlock = some g → base ≤ g := by
 intro g hg
 obtain ⟨_, ⟨rfl, _⟩ | ⟨g', c, cur, rfl, hb, hgg, _⟩⟩ := h
 ·cases hg
 ·simp [Value.ownBlock] at hg
  omega
theorem wpList_append_eq {w : World} {ops : Array Oper} {rest : List Oper} {o : Oper} {a : Act} {Q : Exit → Act → World → Prop} (hgd : o.guard = none) (s x : Operand)
  (ho : o.op = .call { callee := .builtin .append, args := #[s, x], argTypes := #[110, 110] }) (base : Nat) (v : Value) (L : List Eqn) (hs : a.eval s = v) (hR : EqsO base w v L)
  (g : Nat) (uc ud : Value) (q : Eqn) (hx : a.eval x = .slice (some ⟨g, 0, none⟩) 1 1) (hc : w.cell? ⟨g, 0, none⟩ = some uc) (hd : w.cell? ⟨g, 1, none⟩ = some ud) (hq : EqVal base w uc ud q) (hm : L.length ≤ 100000) (hbase : base ≤ w.heap.size)
  (h : ∀ v' w', EqsO base w' v' (L ++ [q]) → (∀ w0, Gr w0 w → w0.heap.size ≤ base → Gr w0 w') → w.grownBy w' v.ownBlock → (∀ t : TypeId, t ≠ 160 → ∀ g, v.ownBlock = some g → base ≤ g ∧ ∀ cur, w.heap[g]? ≠ some (.cells cur t (0, 0))) → wpList Tryz.prog ops Q rest (a.put o.dst v') w') : wpList Tryz.prog ops Q (o :: rest) a w := by
 obtain ⟨i, hi, hzz⟩ := Option.map_eq_some_iff.1 infoE
 simp only [Prod.mk.injEq] at hzz
 obtain ⟨hz0, hz1, hz2⟩ := hzz
 obtain ⟨z, hz, hzs⟩ := Option.map_eq_some_iff.1 hz0
 obtain ⟨us, hown, hr⟩ := hR
 obtain ⟨oc, cc, e1⟩ := hq.1.form
 obtain ⟨od, cd, e2⟩ := hq.2.2.1.form
 refine wpList_append_own w hgd s x 110 ho base 160 i z 2 48 Tryz.underlying110 hi hz hz1 hz2 hzs (by omega) v L.length us hs hown ⟨g, 0, none⟩ 1 1 [uc, ud] hx rfl (fun j u hj => by
   match j, hj with
   | 0, hj =>
     obtain rfl : uc = u := by simpa using hj
     exact hc
   | 1, hj =>
     obtain rfl : ud = u := by simpa using hj
     exact hd
   | j + 2, hj => simp at hj) (fun u hu => by
     simp at hu
     rcases hu with rfl | rfl
     · rw [e1]; rfl
     · rw [e2]; rfl) (by unfold maxLen; omega) (by omega) hbase ?_
 intro v' w' h1 h2 _
 have hlen : us.length = L.length * 2 := hown.1
 refine h v' w' ⟨us ++ [uc, ud], by rw [List.length_append]; exact h1, fun k hk => ?_⟩ (fun w0 hg hb => Gr.append hg h2 fun k hv => by have := eq_base hown k hv; omega) h2 (fun t ht => eq_not hown ht)
 rw [List.length_append, List.length_singleton] at hk
 by_cases e : k < L.length
 ·rw [List.getD_eq_getElem?_getD, List.getD_eq_getElem?_getD, List.getD_eq_getElem?_getD, List.getElem?_append_left (by omega), List.getElem?_append_left (by omega), List.getElem?_append_left e, ← List.getD_eq_getElem?_getD, ← List.getD_eq_getElem?_getD, ← List.getD_eq_getElem?_getD]
  exact (hr k e).kept hown h2
 ·obtain rfl : k = L.length := by omega
  have d1 : (us ++ [uc, ud]).getD (L.length * 2) undef = uc := by rw [List.getD_eq_getElem?_getD, List.getElem?_append_right (by omega), hlen, Nat.sub_self]; rfl
  have d2 : (us ++ [uc, ud]).getD (L.length * 2 + 1) undef = ud := by rw [List.getD_eq_getElem?_getD, List.getElem?_append_right (by omega), hlen, Nat.add_sub_cancel_left]; rfl
  have d3 : (L ++ [q]).getD L.length noE = q := by rw [List.getD_eq_getElem?_getD, List.getElem?_append_right (by omega)]; simp
  rw [d1, d2, d3]
  exact hq.kept hown h2
theorem openL_nil {kn : List Bool} {c : List Int} (h : openL kn c = []) : ∀ x ∈ c, kn.getD x.toNat false = true := fun x hx => by
 cases hk : kn.getD x.toNat false with
 | true => rfl
 | false =>
  have : x ∈ openL kn c := openL_mem.2 ⟨hx, hk⟩
  rw [h] at this
  cases this
theorem rest_all {S : Nat} {kn : List Bool} {vs : List (List Int)} (hv : Valed S kn vs) {c d : List Int} (h1 : d.length = S) (h2 : ∀ z ∈ d, Byt z) (h : openL kn c = []) : vec (restL kn vs c d) = L.vadd (vec d) (PL.tot VT (valV vs) (c.map Int.toNat)) := by
 rw [vec_rest hv c d h1 h2]
 congr 2
 refine List.filter_eq_self.2 fun x hx => ?_
 obtain ⟨y, hy, rfl⟩ := List.mem_map.1 hx
 exact openL_nil h y hy
theorem PeelInv.clash {n S : Nat} {Eqs : List Eqn} {kn : List Bool} {vs : List (List Int)} (h : PeelInv n S (Eqs.map toE) kn vs) {q : Eqn} (hq : q ∈ Eqs) (h1 : q.d.length = S) (h2 : ∀ z ∈ q.d, Byt z) (ho : openL kn q.c = []) (hl : 0 ≤ leadL (restL kn vs q.c q.d)) : ¬ ∃ v, PL.Holds VT (Eqs.map toE) v := by
 rintro ⟨v, hv⟩
 have hok := restL_ok h.val q.c q.d h1 h2
 refine vec_ne hok.2 hl ?_
 rw [rest_all h.val h1 h2 ho]
 have hk : ∀ x, x ∈ (toE q).cols → kn.getD x false = true := fun x hx => by
  obtain ⟨y, hy, rfl⟩ := List.mem_map.1 hx
  exact openL_nil ho y hy
 have h3 := hv (toE q) (List.mem_map.2 ⟨q, hq, rfl⟩) fun x hx => h.der x (hk x hx)
 have h4 : PL.tot VT v (toE q).cols = PL.tot VT (valV vs) (toE q).cols := PL.tot_congr VT fun x hx => h.agree v hv x (hk x hx)
 rw [h4] at h3
 show L.vadd (vec q.d) (PL.tot VT (valV vs) (toE q).cols) = L.vzero
 rw [h3]
 exact L.vadd_self _
theorem PeelInv.done {n S : Nat} {Eqs : List Eqn} {kn : List Bool} {vs : List (List Int)} (hm : ∀ q ∈ Eqs, q.d.length = S ∧ ∀ z ∈ q.d, Byt z) (h : PeelInv n S (Eqs.map toE) kn vs) (hd : ∀ x, kn.getD x false = true ↔ PL.Der (Eqs.map toE) x) (hh : ∀ q ∈ Eqs, openL kn q.c = [] → leadL (restL kn vs q.c q.d) = -1) : PeelOkIs n S (Eqs.map toE) kn vs := by
 refine ⟨h.len, h.val, h.no, hd, fun e he hall => ?_⟩
 obtain ⟨q, hq, rfl⟩ := List.mem_map.1 he
 have ho : openL kn q.c = [] := by
  refine List.filter_eq_nil_iff.2 fun x hx => ?_
  have := (hd x.toNat).2 (hall x.toNat (List.mem_map.2 ⟨x, hx, rfl⟩))
  rw [this]
  simp
 have h1 := rest_all h.val (hm q hq).1 (hm q hq).2 ho
 rw [vec_nought (hh q hq ho)] at h1
 have h2 : L.vadd (vec q.d) (PL.tot VT (valV vs) (toE q).cols) = L.vadd (vec q.d) (vec q.d) := by
  rw [L.vadd_self]
  exact h1.symm
 exact PL.Two.cancel VT h2
theorem leftE_snoc (kn : List Bool) (vs : List (List Int)) (L : List Eqn) (q : Eqn) : leftE kn vs (L ++ [q]) = leftE kn vs L ++ (if 0 < (openL kn q.c).length then [⟨openL kn q.c, restL kn vs q.c q.d⟩] else []) := by
 unfold leftE
 rw [List.filter_append, List.map_append]
 congr 1
 by_cases h : 0 < (openL kn q.c).length
 ·rw [if_pos h, List.filter_cons_of_pos (by simpa using h)]
  rfl
 ·rw [if_neg h, List.filter_cons_of_neg (by simpa using h)]
  rfl
theorem leftE_le (kn : List Bool) (vs : List (List Int)) (L : List Eqn) : (leftE kn vs L).length ≤ L.length := by
 unfold leftE
 rw [List.length_map]
 exact List.length_filter_le _ _
end Go.Proofs.YtbbglejdfbkjlaaGreat
namespace Go.Proofs.YtbbglejdfbkjlaaGreat
open Go.RowKit
def DBlk (w : World) (g s : Nat) : Prop := w.heap[g]? = some (.cells #[.int .u64 (s : Int)] 196 (0, 0))
theorem DBlk.cell {w : World} {g s : Nat} (h : DBlk w g s) : w.cell? ⟨g, 0, none⟩ = some (.int .u64 (s : Int)) := by
 rw [cell_of_row w g 0 _ _ _ h]
 rfl
theorem DBlk.frozen {w : World} {g s : Nat} (h : DBlk w g s) : w.frozen? ⟨g, 0, none⟩ = false := frozen_of_row w g 0 _ _ h
theorem DBlk.set {w : World} {g s : Nat} (h : DBlk w g s) (t : Nat) : DBlk (w.setCell ⟨g, 0, none⟩ (.int .u64 (t : Int))) g t := by
 unfold DBlk at *
 rw [heap_setCell_same _ _ _ _ _ _ h]
 rfl
theorem DBlk.lt {w : World} {g s : Nat} (h : DBlk w g s) : g < w.heap.size := (Array.getElem?_eq_some_iff.1 h).1
def DAt (w : World) (d : Value) (F : Nat → Prop) (s : Nat) : Prop := ∃ g, d = .pointer (some ⟨g, 0, none⟩) ∧ DBlk w g s ∧ F = fun k => k = g
set_option maxHeartbeats 400000 in
theorem next_dev (g s : Nat) (w : World) (h : DBlk w g s) :
  Calls Tryz.prog 137 #[.pointer (some ⟨g, 0, none⟩)] w fun e w' => e = .returned (.int .u32 (topS (nextS s) : Nat)) ∧ DBlk w' g (nextS s) ∧ Kp (fun k => k = g) w w' := by
 have q1 := h.cell
 have q2 := h.frozen
 have H := Lib.hid h
 clear h
 go_enter Tryz.func137, Tryz.ntmps137
 go_wp2
 go_ret
 rw [next_wrap]
 refine ⟨?_, H.out.set _, Kp.set _ _ _ _⟩
 rw [← top_wrap s]
 rfl
set_option maxHeartbeats 400000 in
theorem below_dev (g s : Nat) (n : Int) (w : World) (h : DBlk w g s) (hn : n < 9223372036854775808) :
  Calls Tryz.prog 139 #[.pointer (some ⟨g, 0, none⟩), .int .i64 n] w fun e w' => e = .returned (.int .i64 (belowV s n)) ∧ DBlk w' g (belowS s n) ∧ Kp (fun k => k = g) w w' := by
 have H := Lib.hid h
 clear h
 by_cases h0 : n ≤ 0
 ·have e1 : belowV s n = 0 := if_pos h0
  have e2 : belowS s n = s := if_pos h0
  rw [e1, e2]
  clear e1 e2
  go_enter Tryz.func139, Tryz.ntmps139
  go_wp2
  go_ret
  exact ⟨rfl, H.out, Kp.refl _ _⟩
 ·have e1 : belowV s n = ((topS (nextS s) : Nat) : Int) % n := if_neg h0
  have e2 : belowS s n = nextS s := if_neg h0
  have E1 := Lib.hid e1
  have E2 := Lib.hid e2
  have ht := topS_lt (nextS_lt s)
  have hp : 0 < n := by omega
  clear e1 e2 h0
  go_enter Tryz.func139, Tryz.ntmps139
  go_wp2_with fail
  refine (next_dev g s _ H.out).mono ?_
  rintro e w1 ⟨rfl, hr, hk⟩
  have HR := Lib.hid hr
  have HK := Lib.hid hk
  clear hr hk
  generalize topS (nextS s) = tt at *
  have hr1 := Int.emod_nonneg (tt : Int) (by omega : n ≠ 0)
  have hr2 := Int.emod_lt_of_pos (tt : Int) hp
  generalize hrr : (tt : Int) % n = rr at *
  have HRR := Lib.hid hrr
  clear hrr
  go_wp2_with fail
  go_ret
  have hw : wrap64 rr = rr := by unfold wrap64; omega
  refine ⟨by rw [E1.out, HRR.out, hw]; rfl, by rw [E2.out]; exact HR.out, HK.out⟩
set_option maxHeartbeats 400000 in
theorem new_dev (s : Nat) (w : World) (hs : s < 4294967296) :
  Calls Tryz.prog 136 #[.int .u32 s] w fun e w' => ∃ g, e = .returned (.pointer (some ⟨g, 0, none⟩)) ∧ DBlk w' g s ∧ Gr w w' ∧ w.heap.size ≤ g := by
 go_enter Tryz.func136, Tryz.ntmps136
 go_wp2
 go_ret
 exact ⟨_, rfl, heap_alloc_new _ _, Gr.alloc (Gr.refl _) _ _, Nat.le_refl _⟩
theorem nextNil_dev (w : World) : Calls Tryz.prog 137 #[.pointer none] w fun e w' => e = .returned (.int .u32 0) ∧ Gr w w' := by
 go_enter Tryz.func137, Tryz.ntmps137
 go_wp2
 go_ret
 exact ⟨rfl, Gr.refl _⟩
set_option maxHeartbeats 400000 in
theorem belowNil_dev (n : Int) (w : World) (hn : n < 9223372036854775808) (_ : -9223372036854775808 ≤ n) : Calls Tryz.prog 139 #[.pointer none, .int .i64 n] w fun e w' => e = .returned (.int .i64 0) ∧ Gr w w' := by
 by_cases h0 : n ≤ 0
 ·go_enter Tryz.func139, Tryz.ntmps139
  go_wp2
  go_ret
  exact ⟨rfl, Gr.refl _⟩
 ·have hp : 0 < n := by omega
  clear h0
  go_enter Tryz.func139, Tryz.ntmps139
  go_wp2_with fail
  refine (nextNil_dev _).mono ?_
  rintro e w1 ⟨rfl, hg⟩
  have HG := Lib.hid hg
  clear hg
  go_wp2_with fail
  go_ret
  exact ⟨rfl, HG.out⟩
theorem draw_ok : DrawOk DAt where
 ptr := fun ⟨_, h, _⟩ => ⟨_, h⟩
 lt := by
  rintro w d F s ⟨g, rfl, hb, rfl⟩ k rfl
  exact hb.lt
 keep := by
  rintro w w' d F G s ⟨g, rfl, hb, rfl⟩ hk hd
  exact ⟨g, rfl, hk.block hb (hd g rfl), rfl⟩
 new := fun s w hs => (new_dev s w hs).mono (by
   rintro e w' ⟨g, rfl, hb, hg, hl⟩
   exact ⟨_, _, rfl, ⟨g, rfl, hb, rfl⟩, hg, fun k hk => hk ▸ hl⟩)
 next := by
  rintro d F s w _ ⟨g, rfl, hb, rfl⟩
  refine (next_dev g s w hb).mono ?_
  rintro e w' ⟨rfl, hb', hk⟩
  exact ⟨rfl, ⟨g, rfl, hb', rfl⟩, hk⟩
 below := by
  rintro d F s n w _ hn _ ⟨g, rfl, hb, rfl⟩
  refine (below_dev g s n w hb hn).mono ?_
  rintro e w' ⟨rfl, hb', hk⟩
  exact ⟨rfl, ⟨g, rfl, hb', rfl⟩, hk⟩
 nextNil := nextNil_dev
 belowNil := belowNil_dev
end Go.Proofs.YtbbglejdfbkjlaaGreat
namespace Go.Proofs.YtbbglejdfbkjlaaGreat
open Go.Shelf
def lays189_ren : Go.Shelf.Ren := ⟨fun | 189 => 145 | 125 => 153 | 257 => 154 | 128 => 157 | 129 => 158 | 294 => 159 | 295 => 160 | 296 => 161 | 297 => 162 | 298 => 163 | 299 => 164 | 216 => 165 | 300 => 166 | 301 => 167 | 328 => 168 | 329 => 169 | 330 => 170 | 331 => 171 | 332 => 172 | 215 => 173 | 343 => 174 | n => n, fun | 28 => 26 | 3 => 3 | 46 => 24 | 0 => 0 | 51 => 32 | 53 => 119 | 4 => 4 | 183 => 207 | 182 => 206 | 131 => 211 | 5 => 5 | 9 => 9 | 218 => 213 | 222 => 217 | 228 => 219 | 229 => 220 | n => n, fun | n => n⟩
theorem lays189 : Go.Proofs.Lays.n189 Tryz.prog lays189_ren := {
  mixed := by kernel_rfl
  f125 := Tryz.func153.trans (congrArg some (by kernel_rfl))
  f128 := Tryz.func157.trans (congrArg some (by kernel_rfl))
  f129 := Tryz.func158.trans (congrArg some (by kernel_rfl))
  f189 := Tryz.func145.trans (congrArg some (by kernel_rfl))
  f215 := Tryz.func173.trans (congrArg some (by kernel_rfl))
  f216 := Tryz.func165.trans (congrArg some (by kernel_rfl))
  f257 := Tryz.func154.trans (congrArg some (by kernel_rfl))
  f294 := Tryz.func159.trans (congrArg some (by kernel_rfl))
  f295 := Tryz.func160.trans (congrArg some (by kernel_rfl))
  f296 := Tryz.func161.trans (congrArg some (by kernel_rfl))
  f297 := Tryz.func162.trans (congrArg some (by kernel_rfl))
  f298 := Tryz.func163.trans (congrArg some (by kernel_rfl))
  f299 := Tryz.func164.trans (congrArg some (by kernel_rfl))
  f300 := Tryz.func166.trans (congrArg some (by kernel_rfl))
  f301 := Tryz.func167.trans (congrArg some (by kernel_rfl))
  f328 := Tryz.func168.trans (congrArg some (by kernel_rfl))
  f329 := Tryz.func169.trans (congrArg some (by kernel_rfl))
  f330 := Tryz.func170.trans (congrArg some (by kernel_rfl))
  f331 := Tryz.func171.trans (congrArg some (by kernel_rfl))
  f332 := Tryz.func172.trans (congrArg some (by kernel_rfl))
  f343 := Tryz.func174.trans (congrArg some (by kernel_rfl))
  t0 := Tryz.underlying0
  a0 := Tryz.isAgg0
  z0 := Tryz.sizeOf0
  v0 := Tryz.zeroValue0
  t3 := Tryz.underlying3
  a3 := Tryz.isAgg3
  z3 := Tryz.sizeOf3
  v3 := Tryz.zeroValue3
  t4 := Tryz.underlying4
  a4 := Tryz.isAgg4
  z4 := Tryz.sizeOf4
  v4 := Tryz.zeroValue4
  t5 := Tryz.underlying5
  a5 := Tryz.isAgg5
  z5 := Tryz.sizeOf5
  v5 := Tryz.zeroValue5
  t9 := Tryz.underlying9
  a9 := Tryz.isAgg9
  z9 := Tryz.sizeOf9
  v9 := Tryz.zeroValue9
  t28 := Tryz.underlying26
  a28 := Tryz.isAgg26
  z28 := Tryz.sizeOf26
  v28 := Tryz.zeroValue26
  t46 := Tryz.underlying24
  a46 := Tryz.isAgg24
  z46 := Tryz.sizeOf24
  v46 := Tryz.zeroValue24
  t51 := Tryz.underlying32
  a51 := Tryz.isAgg32
  z51 := Tryz.sizeOf32
  v51 := Tryz.zeroValue32
  t53 := Tryz.underlying119
  a53 := Tryz.isAgg119
  z53 := Tryz.sizeOf119
  v53 := Tryz.zeroValue119
  t131 := Tryz.underlying211
  a131 := Tryz.isAgg211
  z131 := Tryz.sizeOf211
  v131 := Tryz.zeroValue211
  t182 := Tryz.underlying206
  a182 := Tryz.isAgg206
  z182 := Tryz.sizeOf206
  v182 := Tryz.zeroValue206
  t183 := Tryz.underlying207
  a183 := Tryz.isAgg207
  z183 := Tryz.sizeOf207
  v183 := Tryz.zeroValue207
  t218 := Tryz.underlying213
  a218 := Tryz.isAgg213
  z218 := Tryz.sizeOf213
  v218 := Tryz.zeroValue213
  t222 := Tryz.underlying217
  a222 := Tryz.isAgg217
  z222 := Tryz.sizeOf217
  v222 := Tryz.zeroValue217
  t228 := Tryz.underlying219
  a228 := Tryz.isAgg219
  z228 := Tryz.sizeOf219
  v228 := Tryz.zeroValue219
  t229 := Tryz.underlying220
  a229 := Tryz.isAgg220
  z229 := Tryz.sizeOf220
  v229 := Tryz.zeroValue220 }
open Go.Sort Go.RowKit in
theorem slices_Sort_int (blk off cap : Nat) (zs : List Int) (w : World) (hH : Holds (Value.int .i64) w blk off zs.toArray) (hblk : blk < w.heap.size) (hsz : zs.length < 4611686018427387904) :
  Calls Tryz.prog 145 #[.slice (some ⟨blk, off, none⟩) zs.length cap] w fun e w' =>
   e = .returned (.tuple #[]) ∧ ∃ n os, w' = grow (putRow (Value.int .i64) (Sort.ahead w n) blk off (zs.mergeSort fun x y => decide (x ≤ y)).toArray) os := Any.slices_Sort_int lays189 blk off cap zs w hH hblk hsz
end Go.Proofs.YtbbglejdfbkjlaaGreat
namespace Go.Proofs.YtbbglejdfbkjlaaGreat
open Go.RowKit
def partU (N i : Nat) : List Int := upTo i ++ List.replicate (N - i) 0
theorem upTo_length (n : Nat) : (upTo n).length = n := by simp [upTo]
theorem partU_zero (N : Nat) : partU N 0 = List.replicate N 0 := by simp [partU, upTo]
theorem partU_all (N : Nat) : partU N N = upTo N := by simp [partU]
theorem partU_set {N i : Nat} (h : i < N) : (partU N i).set i (i : Int) = partU N (i + 1) := by
 unfold partU
 rw [List.set_append, if_neg (by rw [upTo_length]; omega), upTo_length, Nat.sub_self]
 obtain ⟨m, hm⟩ : ∃ m, N - i = m + 1 := ⟨N - i - 1, by omega⟩
 rw [hm, List.replicate_succ, List.set_cons_zero, upTo_succ, show N - (i + 1) = m from by omega, List.append_assoc]
 rfl
theorem BlzC.set {w : World} {g : Nat} {L : List Int} (h : Blz w g L) (i : Nat) (x : Int) : Blz (w.setCell ⟨g, i, none⟩ (.int .i64 x)) g (L.set i x) := by
 unfold Blz at *
 rw [heap_setCell_same _ _ _ _ _ _ h, rowZ_set]
theorem BlzC.frozen {w : World} {g : Nat} {L : List Int} (h : Blz w g L) (i : Nat) : w.frozen? ⟨g, i, none⟩ = false := frozen_of_row w g i _ _ h
theorem BlzC.iz {w : World} {g n : Nat} {L : List Int} (h : Blz w g L) (hl : L.length = n) (hn : n ≤ 9223372036854775807) : Iz w g n n L :=
 ⟨hl, Nat.le_refl _, hn, rowZ L, h, by simp [rowZ, hl], fun i hi => by rw [rowZ_get L i (by omega)]⟩
set_option maxRecDepth 100000 in
set_option maxHeartbeats 800000 in
theorem upTo_dev (N : Nat) (w : World) (hN : N ≤ 64) :
  Calls Tryz.prog 144 #[.int .i64 (N : Int)] w fun e w' => e = .returned (.slice (some ⟨w.heap.size, 0, none⟩) N N) ∧ Iz w' w.heap.size N N (upTo N) ∧ Gr w w' := by
 have hmk := makeZ N N (by omega) (by omega)
 go_enter Tryz.func144, Tryz.ntmps144
 go_wp2_with fail
 obtain ⟨g, hg⟩ : ∃ g, w.heap.size = g := ⟨_, rfl⟩
 have B0 : Hid (Blz (w.alloc (.cells (rowZ (List.replicate N 0)) 3)) g (partU N 0)) := Lib.hid (by
   rw [partU_zero, ← hg]
   exact heap_alloc_new _ _)
 have G2 : Hid (Gr w (w.alloc (.cells (rowZ (List.replicate N 0)) 3))) := Lib.hid (Gr.alloc (Gr.refl _) _ _)
 have HGL : Hid (w.heap.size ≤ g) := Lib.hid (by omega)
 rw [hg]
 generalize w.alloc (.cells (rowZ (List.replicate N 0)) 3) = w2 at *
 have HE := Lib.hid hg
 clear hmk hg
 go_loopw [9] (fun iv W => ∃ i : Nat, i ≤ N ∧ iv = .int .i64 i ∧ Blz W g (partU N i) ∧ Gr w W) (fun iv _ => N - (intOf iv).toNat)
 case atStart => exact ⟨0, by omega, rfl, B0.out, G2.out⟩
 case round =>
  obtain ⟨i, hi, rfl, hb, hgr⟩ := hrel
  have HB := Lib.hid hb
  have HG := Lib.hid hgr
  clear hb hgr B0 G2
  by_cases hlt : i < N
  ·have hl : i < (partU N i).length := by simp [partU, upTo_length]; omega
   have q1 := HB.out.cell i hl
   have q2 := BlzC.frozen HB.out i
   have HST := Lib.hid (partU_set hlt)
   clear hl
   go_wp2
   refine ⟨⟨i + 1, by omega, by go_num, ?_, Gr.setCell HG.out HGL.out _⟩, by simp [intOf]; omega⟩
   rw [← HST.out]
   exact BlzC.set HB.out i _
  ·obtain rfl : i = N := by omega
   go_wp2
   go_ret
   rw [HE.out]
   exact ⟨rfl, BlzC.iz (by rw [← partU_all]; exact HB.out) (upTo_length i) (by omega), HG.out⟩
def setsL : List Int → Nat → List Int → List Int
 | L, _, [] => L
 | L, o, v :: vs => setsL (L.set o v) (o + 1) vs
theorem setsL_get : ∀ (vs L : List Int) (o i : Nat), o + vs.length ≤ L.length → (setsL L o vs).getD i 0 = if o ≤ i ∧ i < o + vs.length then vs.getD (i - o) 0 else L.getD i 0
 | [], L, o, i, _ => by
  rw [if_neg (by rw [List.length_nil]; omega)]
  rfl
 | v :: vs, L, o, i, h => by
  rw [List.length_cons] at h
  show (setsL (L.set o v) (o + 1) vs).getD i 0 = _
  rw [setsL_get vs (L.set o v) (o + 1) i (by rw [List.length_set]; omega), List.length_cons]
  by_cases e : i = o
  ·subst e
   rw [if_neg (by omega), if_pos (by omega), Nat.sub_self, List.getD_eq_getElem?_getD, List.getElem?_set_self (by omega)]
   rfl
  ·by_cases e2 : o + 1 ≤ i ∧ i < o + 1 + vs.length
   ·rw [if_pos e2, if_pos (by omega), show i - o = (i - (o + 1)) + 1 from by omega]
    rfl
   ·rw [if_neg e2, if_neg (by omega), List.getD_eq_getElem?_getD, List.getElem?_set_ne (fun c => e c.symm), List.getD_eq_getElem?_getD]
theorem Iz.sets {g c n : Nat} : ∀ (vs : List Int) (W : World) (L : List Int) (o : Nat), Iz W g c n L → o + vs.length ≤ n → Iz (W.setCells g o (vs.map (Value.int .i64))) g c n (setsL L o vs)
 | [], _, _, _, h, _ => h
 | v :: vs, W, L, o, h, hl => by
  rw [List.length_cons] at hl
  exact Iz.sets vs _ _ (o + 1) (h.set o (by omega) v) (by omega)
theorem Kp.sets {g : Nat} : ∀ (vs : List Value) (o : Nat) (W : World), Kp (fun b => b = g) W (W.setCells g o vs)
 | [], _, _ => Kp.refl _ _
 | v :: vs, o, W => (Kp.set W g o v).trans (Kp.sets vs (o + 1) _) fun _ e => .inl e
theorem gr_grow (W : World) (os : Array Obj) : Gr W (Go.Sort.grow W os) :=
 ⟨rfl, rfl, rfl, by simp [Go.Sort.grow], fun _ hk => Go.Sort.heap_grow_old W os hk⟩
theorem isort_merge (l : List Int) (h : l.Nodup) : (l.mergeSort fun x y => decide (x ≤ y)) = C.isort l := by
 have hp := List.mergeSort_perm l (fun x y : Int => decide (x ≤ y))
 have hs : (l.mergeSort fun x y => decide (x ≤ y)).Pairwise (fun a b => decide (a ≤ b) = true) :=
  List.pairwise_mergeSort (fun a b c h1 h2 => by simp at *; omega) (fun a b => by simp; omega) l
 have hn : (l.mergeSort fun x y => decide (x ≤ y)).Nodup := hp.nodup_iff.2 h
 refine C.rise_ext _ _ ?_ (C.isort_sorted l h) fun x => by rw [C.mem_isort, hp.mem_iff]
 rw [List.nodup_iff_pairwise_ne] at hn
 exact (hs.and hn).imp fun {a b} ⟨h1, h2⟩ => by simp at h1; omega
theorem sort_dev (g c n k : Nat) (L : List Int) (W : World) (h : Iz W g c n L) (hk : k ≤ n) (hn : n ≤ 1000) (hd : (L.take k).Nodup) :
  Calls Tryz.prog 145 #[.slice (some ⟨g, 0, none⟩) k k] W fun e W' => e = .returned (.tuple #[]) ∧ Iz W' g c n (setsL L 0 (C.isort (L.take k))) ∧ Kp (fun b => b = g) W W' := by
 have hl : (L.take k).length = k := by rw [List.length_take, h.1]; omega
 have hH : Go.Sort.Holds (Value.int .i64) W g 0 (L.take k).toArray :=
  Go.Lib.holds_of_ints (by rw [h.1]; exact hk) (fun j hj => by rw [Nat.zero_add, h.cell j (by rw [← h.1]; exact hj)]) (fun j hj => by rw [Nat.zero_add]; exact h.frozen j)
 have hb : g < W.heap.size := by
  obtain ⟨_, _, _, cur, hg, _⟩ := h
  exact (Array.getElem?_eq_some_iff.1 hg).1
 have hc := slices_Sort_int g 0 k (L.take k) W hH hb (by omega)
 rw [hl, isort_merge _ hd] at hc
 refine hc.mono ?_
 rintro e W' ⟨rfl, m, os, rfl⟩
 have hil : (C.isort (L.take k)).length = k := by rw [C.isort_length, hl]
 have hw := Go.Lib.sorted_world (Value.int .i64) W g 0 m (L.take k).toArray (C.isort (L.take k)) os hH (by simp [hil]; rw [h.1]; omega)
 rw [hw]
 have hi : Iz (W.drewN m) g c n L := h.kp (F := fun _ => False) (Kp.refl _ W) (fun e => e)
 have hs := Iz.sets (C.isort (L.take k)) _ _ 0 hi (by omega)
 have hk2 : Kp (fun b => b = g) W ((W.drewN m).setCells g 0 ((C.isort (L.take k)).map (Value.int .i64))) := Kp.sets _ 0 (W.drewN m)
 exact ⟨rfl, hs.kp ((gr_grow _ _).kp fun _ => False) (fun e => e), hk2.trans ((gr_grow _ _).kp fun _ => False) (fun _ e => e.elim)⟩
theorem take_sets (L s : List Int) (h : s.length ≤ L.length) : (setsL L 0 s).length = L.length → (setsL L 0 s).take s.length = s := fun hl => by
 apply List.ext_getElem?
 intro i
 by_cases hi : i < s.length
 ·rw [List.getElem?_take_of_lt hi]
  have hg := setsL_get s L 0 i (by omega)
  rw [if_pos (by omega), Nat.sub_zero, List.getD_eq_getElem?_getD, List.getD_eq_getElem?_getD] at hg
  rw [List.getElem?_eq_getElem (by omega), List.getElem?_eq_getElem hi] at hg ⊢
  simpa using hg
 ·rw [List.getElem?_eq_none (by rw [List.length_take]; omega), List.getElem?_eq_none (by omega)]
theorem Iz.own {W : World} {g c n base : Nat} {L l : List Int} (h : Iz W g c n L) (k : Nat) (hk : k ≤ n) (hb : ∀ x ∈ l, I64 x) (hl : L.take k = l) (hg : base ≤ g) : OwnZ base W (.slice (some ⟨g, 0, none⟩) k k) l := by
 have hn : n ≤ 9223372036854775807 := by have := h.2.1; have := h.2.2.1; omega
 have hlk : l.length = k := by rw [← hl, List.length_take, h.1]; omega
 obtain ⟨h1, h2, h3, cur, h4, h5, h6⟩ := h
 refine ⟨hb, .inr ⟨g, k, c, by rw [hlk], hg, by omega, by omega, rfl, by omega, h3, cur, h4, h5, fun i hi => ?_⟩⟩
 rw [h6 i (by omega), ← hl, List.getD_eq_getElem?_getD, List.getD_eq_getElem?_getD, List.getElem?_take_of_lt (by omega)]
structure Bw (S : World → Nat → Prop) (d : Value) (F : Nat → Prop) (bv : Nat → Int) (N K : Nat) : Prop where
 keep : ∀ W W' j (G : Nat → Prop), S W j → Kp G W W' → (∀ k, F k → ¬ G k) → S W' j
 below : ∀ W j, j < K → S W j → Calls Tryz.prog 139 #[d, .int .i64 ((N : Int) - j)] W fun e W' => e = .returned (.int .i64 (bv j)) ∧ S W' (j + 1) ∧ Kp F W W'
set_option maxRecDepth 100000 in
set_option maxHeartbeats 1600000 in
theorem some_core (S : World → Nat → Prop) (d : Value) (F : Nat → Prop) (bv : Nat → Int) (q : Nat → Nat) (M : Nat → List Int) (N K : Nat) (w : World) (hN : N ≤ 64) (hK : K ≤ N)
  (B : Bw S d F bv N K) (hq : ∀ j, j < K → (j : Int) + bv j = q j ∧ q j < N ∧ -9223372036854775808 ≤ bv j ∧ bv j < 9223372036854775808) (hM0 : M 0 = upTo N) (hM : ∀ j, j < K → M (j + 1) = C.swap (M j) j (q j)) (hS : S w 0) (hF : ∀ k, F k → k < w.heap.size) (hi : C.Inj N (M K)) :
  Calls Tryz.prog 116 #[d, .int .i64 (N : Int), .int .i64 (K : Int)] w fun e w' => ∃ v, e = .returned v ∧ OwnZ w.heap.size w' v (C.isort ((M K).take K)) ∧ S w' K ∧ Kp F w w' := by
 have d1 : decide ((N : Int) < 0) = false := decide_eq_false (by omega)
 have d2 : decide ((64 : Int) < N) = false := decide_eq_false (by omega)
 have d3 : decide ((K : Int) < 0) = false := decide_eq_false (by omega)
 have d4 : decide (N < K) = false := decide_eq_false (by omega)
 have d5 : decide ((N : Int) < K) = false := decide_eq_false (by omega)
 have BB := Lib.hid B
 have HQ := Lib.hid hq
 have HM := Lib.hid hM
 have HS := Lib.hid hS
 have HF := Lib.hid hF
 have HI := Lib.hid hi
 clear B hq hM hS hF hi
 go_enter Tryz.func116, Tryz.ntmps116
 go_wp2_with fail
 refine (upTo_dev N _ hN).mono ?_
 rintro e w1 ⟨rfl, hz, hg⟩
 obtain ⟨g, hgg⟩ : ∃ g, w.heap.size = g := ⟨_, rfl⟩
 rw [hgg] at hz ⊢
 have HB : Hid (w.heap.size ≤ g) := Lib.hid (by omega)
 have HE := Lib.hid hgg
 have Z0 : Hid (Iz w1 g N N (M 0)) := Lib.hid (by rw [hM0]; exact hz)
 have K0 : Hid (Kp F w w1) := Lib.hid (hg.kp F)
 have S0 : Hid (S w1 0) := Lib.hid (BB.out.keep _ _ _ (fun _ => False) HS.out (hg.kp _) (fun _ _ e => e))
 clear hz hg hgg hM0 HS d1 d2 d3 d4 d5
 go_wp2_with fail
 go_loopw [29] (fun iv W => ∃ j : Nat, j ≤ K ∧ iv = .int .i64 j ∧ Iz W g N N (M j) ∧ S W j ∧ Kp F w W) (fun iv _ => K - (intOf iv).toNat)
 case atStart => exact ⟨0, by omega, rfl, Z0.out, S0.out, K0.out⟩
 case round =>
  clear Z0 S0 K0
  obtain ⟨wi, hwi⟩ : ∃ x, x = wr := ⟨_, rfl⟩
  subst hwi
  obtain ⟨j, hj, rfl, hz, hr, hk⟩ := hrel
  have ZZ := Lib.hid hz
  have RR := Lib.hid hr
  have KK := Lib.hid hk
  clear hz hr hk
  by_cases hlt : j < K
  ·obtain ⟨q1, pl2, hb1, hb2⟩ := HQ.out j hlt
   have FG : Hid (∀ k, F k → ¬ k = g) := Lib.hid fun k h e => by have := HF.out k h; have := HE.out; omega
   go_upto_region 8 with fail
   refine (BB.out.below _ j hlt RR.out).mono ?_
   rintro e w1 ⟨rfl, hr1, hk1⟩
   have Z1 := Lib.hid (ZZ.out.kp hk1 (fun e => FG.out g e rfl))
   have K1 := Lib.hid (KK.out.trans hk1 fun k e => .inl e)
   have SH := Lib.hid (HM.out j hlt)
   have R1 := Lib.hid hr1
   clear hr1 hk1 RR KK ZZ
   generalize q j = qq at *
   generalize bv j = bb at *
   have ji : j < N := by omega
   have ZS1 := Lib.hid (Z1.out.swap j qq ji pl2)
   rw [← SH.out] at ZS1
   have c1 := Z1.out.cell j ji
   have c2 := Z1.out.cell qq pl2
   have fr1 := Z1.out.frozen j
   have fr2 := Z1.out.frozen qq
   generalize hx : (M j).getD j 0 = x at *
   generalize hy : (M j).getD qq 0 = y at *
   obtain ⟨y2, hy2⟩ := Z1.out.any j qq y ji pl2
   have G1 : Hid (S ((w1.setCell ⟨g, j, none⟩ (.int .i64 y)).setCell ⟨g, qq, none⟩ (.int .i64 x)) (j + 1) ∧ Kp F w ((w1.setCell ⟨g, j, none⟩ (.int .i64 y)).setCell ⟨g, qq, none⟩ (.int .i64 x))) :=
    Lib.hid ⟨BB.out.keep _ _ _ _ (BB.out.keep _ _ _ _ R1.out (Kp.set _ _ _ _) FG.out) (Kp.set _ _ _ _) FG.out, (K1.out.setNew HB.out _ _).setNew HB.out _ _⟩
   clear R1 K1 hx hy Z1
   go_wp2
   go_region
   go_wp2
   exact ⟨⟨j + 1, by omega, by go_num, ZS1.out.kp ((Kp.refl (fun _ => False) _).drew) (fun e => e), BB.out.keep _ _ _ _ G1.out.1 ((Kp.refl (fun _ => False) _).drew) (fun _ _ e => e), G1.out.2.drew⟩, by simp [intOf]; omega⟩
  ·obtain rfl : j = K := by omega
   have hnd : ((M j).take j).Nodup := HI.out.nodup.sublist (List.take_sublist _ _)
   have HND := Lib.hid hnd
   have FG : Hid (∀ k, F k → ¬ k = g) := Lib.hid fun k h e => by have := HF.out k h; have := HE.out; omega
   clear hnd
   go_wp2_with fail
   refine (sort_dev g N N j (M j) _ ZZ.out hK (by omega) HND.out).mono ?_
   rintro e w2 ⟨rfl, hz2, hk2⟩
   have Z2 := Lib.hid hz2
   have K2 := Lib.hid hk2
   clear hz2 hk2
   go_wp2_with fail
   go_ret
   have hlt : ((M j).take j).length = j := by rw [List.length_take, HI.out.len]; omega
   have hil : (C.isort ((M j).take j)).length = j := by rw [C.isort_length, hlt]
   have htk := take_sets (M j) (C.isort ((M j).take j)) (by rw [hil, HI.out.len]; exact hK) (by rw [Z2.out.1, HI.out.len])
   rw [hil] at htk
   refine ⟨_, rfl, Z2.out.own j hK (fun x hx => ?_) htk (by have := HE.out; omega), BB.out.keep _ _ _ _ RR.out K2.out FG.out, KK.out.trans K2.out fun k e => .inr (by have := HE.out; omega)⟩
   have hx2 := List.mem_of_mem_take ((C.mem_isort x _).1 hx)
   obtain ⟨i, hi, rfl⟩ := List.getElem_of_mem hx2
   have := HI.out.rng i (by rw [← HI.out.len]; exact hi)
   rw [List.getD_eq_getElem?_getD, List.getElem?_eq_getElem hi] at this
   simp only [Option.getD_some] at this
   unfold I64
   omega
theorem some_none (d : Value) (n k : Int) (w : World) (hn : I64 n) (hk : I64 k) (hm : ¬ C.May n k) :
  Calls Tryz.prog 116 #[d, .int .i64 n, .int .i64 k] w fun e w' => e = .returned (.slice none 0 0) ∧ w' = w := by
 unfold I64 at hn hk
 unfold C.May at hm
 by_cases c1 : n < 0
 ·go_enter Tryz.func116, Tryz.ntmps116
  go_wp2
  go_ret
  exact ⟨rfl, rfl⟩
 ·by_cases c2 : 64 < n
  ·go_enter Tryz.func116, Tryz.ntmps116
   go_wp2
   go_ret
   exact ⟨rfl, rfl⟩
  ·by_cases c3 : k < 0
   ·go_enter Tryz.func116, Tryz.ntmps116
    go_wp2
    go_ret
    exact ⟨rfl, rfl⟩
   ·have c4 : n < k := by omega
    go_enter Tryz.func116, Tryz.ntmps116
    go_wp2
    go_ret
    exact ⟨rfl, rfl⟩
theorem choose_own (s : Nat) (d : Value) (F : Nat → Prop) (n k : Int) (w : World) (hn : I64 n) (hk : I64 k) (hs : s < 18446744073709551616) (hd : DAt w d F s) :
  Calls Tryz.prog 116 #[d, .int .i64 n, .int .i64 k] w fun e w' => ∃ v, e = .returned v ∧ OwnZ w.heap.size w' v (C.someZ s n k) ∧ DAt w' d F (C.someS s n k) ∧ Kp F w w' := by
 by_cases hm : C.May n k
 ·have e1 : C.someZ s n k = C.some s n.toNat k.toNat := if_pos hm
  have e2 : C.someS s n k = C.st s k.toNat := if_pos hm
  rw [e1, e2]
  obtain ⟨m1, m2, m3, m4⟩ := hm
  obtain ⟨N, rfl⟩ : ∃ N : Nat, n = N := ⟨n.toNat, by omega⟩
  obtain ⟨K, rfl⟩ : ∃ K : Nat, k = K := ⟨k.toNat, by omega⟩
  rw [Int.toNat_natCast, Int.toNat_natCast]
  refine some_core (fun W j => DAt W d F (C.st s j)) d F (fun j => belowV (C.st s j) ((N : Int) - j)) (C.pick s N) (C.shuf s N) N K w (by omega) (by omega) ⟨fun W W' j G h hkp hG => draw_ok.keep h hkp hG, fun W j hj h => ?_⟩ (fun j hj => ?_) rfl (fun j hj => rfl) hd (draw_ok.lt hd) (C.shuf_inj s N K (by omega))
  ·have hb := draw_ok.below d F (C.st s j) ((N : Int) - j) W (C.st_lt hs j) (by omega) (by omega) h
   rw [(C.pick_below (s := s) (show j < N by omega)).2] at hb
   exact hb
  ·have hr := belowV_rng (C.st s j) ((N : Int) - j)
   exact ⟨(C.pick_below (by omega)).1, (C.pick_lt (by omega)).2, by omega, by omega⟩
 ·have e1 : C.someZ s n k = [] := if_neg hm
  have e2 : C.someS s n k = s := if_neg hm
  rw [e1, e2]
  refine (some_none d n k w hn hk hm).mono ?_
  rintro e w' ⟨rfl, rfl⟩
  exact ⟨_, rfl, ⟨(fun x hx => by cases hx), .inl ⟨rfl, rfl⟩⟩, hd, Kp.refl _ _⟩
end Go.Proofs.YtbbglejdfbkjlaaGreat
