/-
  Texts laid behind one another: Qc Qd Bc Qh.
-/
import Derived.Test.YtdmcncpndogdlaaMga
import Derived.Test.YtdmcncpndogdlaaMgb
import Derived.Test.YtdmcncpndogdlaaMgi
import Derived.Lib.SliceRun
import Derived.Deep.CutBlock
import Derived.Deep.QuietTactic
import Derived.BigQuiet
namespace Go.Proofs.Ytdmcncpndogdlaa
open Go.RowKit

/-- A row of ones: the sum of what stands at c is d. -/
structure Eqn where
  c : List Int
  d : List Int
/-- A list that rises, from 0 to n - 1. -/
def MayRow (n : Int) (c : List Int) : Prop := (∀ x ∈ c, 0 ≤ x ∧ x < n) ∧ Rising c
def adjL (n : Int) (c : List Int) (i : Nat) : Prop := 0 ≤ c.getD i 0 ∧ c.getD i 0 < n ∧ (0 < i → c.getD (i - 1) 0 < c.getD i 0)
theorem mayRow_adj (n : Int) (c : List Int) : MayRow n c ↔ ∀ i, i < c.length → adjL n c i := by
  constructor
  · rintro ⟨h1, h2⟩ i hi
    have hm : c.getD i 0 ∈ c := by rw [List.getD_eq_getElem?_getD, List.getElem?_eq_getElem hi]; exact List.getElem_mem hi
    refine ⟨(h1 _ hm).1, (h1 _ hm).2, fun h0 => ?_⟩
    have := h2 (i - 1) (by omega)
    rwa [Nat.sub_add_cancel h0] at this
  · intro h
    refine ⟨fun x hx => ?_, fun i hi => ?_⟩
    · obtain ⟨i, hi, rfl⟩ := List.getElem_of_mem hx
      have := h i hi
      unfold adjL at this
      rw [List.getD_eq_getElem?_getD, List.getElem?_eq_getElem hi] at this
      exact ⟨this.1, this.2.1⟩
    · have := (h (i + 1) hi).2.2 (by omega)
      rwa [Nat.add_sub_cancel] at this
open Classical in
set_option maxHeartbeats 800000 in
theorem mayRow_any (n : Int) (v : Value) (c : List Int) (w : World) (h : Zs w v c) (hl : c.length ≤ 1000) :
    Calls Try.prog 24 #[.int .i64 n, v] w fun e w' => e = .returned (.bool (decide (MayRow n c))) ∧ w' = w := by
  obtain ⟨m, hm⟩ : ∃ m, c.length = m := ⟨_, rfl⟩
  have HZ := Lib.hid h
  obtain ⟨oa, ca, rfl⟩ := h.form
  rw [hm] at HZ hl ⊢
  have HADJ : Hid (MayRow n c ↔ ∀ i, i < m → adjL n c i) := Lib.hid (by rw [← hm]; exact mayRow_adj n c)
  clear h hm
  obtain ⟨b, hb⟩ : ∃ b, decide (MayRow n c) = b := ⟨_, rfl⟩
  rw [hb]
  have HB := Lib.hid hb
  clear hb
  go_enter Try.func24, Try.ntmps24
  go_wp2_with fail
  go_loopw [9] (fun i wr => wr = w ∧ ∃ k : Nat, k ≤ m ∧ i = .int .i64 k ∧ ∀ j, j < k → adjL n c j) (fun i _ => m - (intOf i).toNat)
  case atStart => exact ⟨rfl, 0, by omega, rfl, by omega⟩
  case round =>
    obtain ⟨rfl, i, hi, rfl, hs⟩ := hrel
    have HS := Lib.hid hs
    clear hs
    by_cases hlt : i < m
    · obtain ⟨a, rfl⟩ := HZ.out.addr (by omega)
      have q := HZ.out.cellAt hlt
      have hno : ¬ adjL n c i → b = false := fun h => by
        rw [← HB.out, decide_eq_false_iff_not, HADJ.out]
        exact fun hall => h (hall i hlt)
      have hyes : adjL n c i → ∀ j, j < i + 1 → adjL n c j := fun h j hj => by
        by_cases e : j = i
        · rw [e]; exact h
        · exact HS.out j (by omega)
      obtain ⟨x, hx⟩ : ∃ x, c.getD i 0 = x := ⟨_, rfl⟩
      rw [hx] at q
      by_cases h0 : x < 0
      · have hb := hno (fun h => by unfold adjL at h; omega)
        subst hb
        clear hno hyes hx
        go_wp2_with fail
        go_ret
        exact ⟨rfl, rfl⟩
      · by_cases h1 : n ≤ x
        · have hb := hno (fun h => by unfold adjL at h; omega)
          subst hb
          clear hno hyes hx
          go_wp2_with fail
          go_ret
          exact ⟨rfl, rfl⟩
        · by_cases hi0 : i = 0
          · subst hi0
            have HY := Lib.hid (hyes ⟨by omega, by omega, fun h => absurd h (by omega)⟩)
            rw [add_nought] at q
            clear hno hyes hx
            go_wp2_with fail
            exact ⟨⟨trivial, 1, by omega, rfl, HY.out⟩, by simp [intOf]; omega⟩
          · have q2 := HZ.out.cellAt (i := i - 1) (by omega)
            obtain ⟨y, hy⟩ : ∃ y, c.getD (i - 1) 0 = y := ⟨_, rfl⟩
            rw [hy] at q2
            obtain ⟨k, hk⟩ : ∃ k, i - 1 = k := ⟨_, rfl⟩
            have hki : (i : Int) - 1 = (k : Int) := by omega
            have hi1 : (0 : Int) < (i : Int) := by omega
            have hkm : (k : Int) < (m : Int) := by omega
            rw [hk] at q2
            by_cases h2 : x ≤ y
            · have hb := hno (fun h => by
                have := h.2.2 (by omega)
                rw [hy, hx] at this
                omega)
              subst hb
              clear hno hyes hx hy hk
              go_wp2_with fail
              go_ret
              exact ⟨rfl, rfl⟩
            · have HY := Lib.hid (hyes ⟨by omega, by omega, fun _ => by rw [hy, hx]; omega⟩)
              clear hno hyes hx hy hk
              go_wp2_with fail
              exact ⟨⟨trivial, i + 1, by omega, by go_num, HY.out⟩, by simp [intOf]; omega⟩
    · obtain rfl : m = i := by omega
      have hb : b = true := by
        rw [← HB.out, decide_eq_true_iff, HADJ.out]
        exact HS.out
      subst hb
      go_wp2_with fail
      go_ret
      exact ⟨rfl, rfl⟩
/-- The open columns. -/
def openL (kn : List Bool) (c : List Int) : List Int := c.filter fun x => !(kn.getD x.toNat false)
theorem openL_snoc (kn : List Bool) (c : List Int) (x : Int) : openL kn (c ++ [x]) = openL kn c ++ (if kn.getD x.toNat false = true then [] else [x]) := by
  unfold openL
  rw [List.filter_append]
  congr 1
  cases h : kn.getD x.toNat false <;> (rw [List.filter_cons, h]; rfl)
theorem take_snoc {α : Type} (l : List α) (i : Nat) (d : α) (h : i < l.length) : l.take (i + 1) = l.take i ++ [l.getD i d] := by
  rw [List.take_add_one, List.getElem?_eq_getElem h, List.getD_eq_getElem?_getD, List.getElem?_eq_getElem h]
  rfl
theorem openL_le (kn : List Bool) (c : List Int) : (openL kn c).length ≤ c.length := List.length_filter_le _ _
/-- The ints lie in memory of ints. -/
def InInts (w : World) (u : Value) : Prop := ∀ a n c, u = .slice (some a) n c → 0 < n → ∃ cur, w.heap[a.block]? = some (.cells cur 3 (0, 0))
theorem owns_inInts {w : World} {base : Nat} {v : Value} {n : Nat} {us : List Value} (h : w.ownsRow base 3 1 v n us) : InInts w v := fun a m c e _ => by
  obtain ⟨_, ⟨rfl, _⟩ | ⟨g, c', cur, rfl, _, hg, _⟩⟩ := h
  · cases e
  · cases e
    exact ⟨cur, hg⟩
set_option maxHeartbeats 800000 in
theorem open_own (vc vk : Value) (c : List Int) (kn : List Bool) (w : World) (hz : Zs w vc c) (hk : Bl w vk kn) (hr : ∀ x ∈ c, 0 ≤ x ∧ x < (kn.length : Int)) (hl : c.length ≤ 1000) (hkl : kn.length ≤ 1000) :
    Calls Try.prog 25 #[vc, vk] w fun e w' => ∃ v, e = .returned v ∧ w'.ownsRow w.heap.size 3 1 v (openL kn c).length ((openL kn c).map (Value.int .i64)) ∧ Gr w w' := by
  obtain ⟨m, hm⟩ : ∃ m, c.length = m := ⟨_, rfl⟩
  obtain ⟨n, hn⟩ : ∃ n, kn.length = n := ⟨_, rfl⟩
  have HZ := Lib.hid hz
  have HK := Lib.hid hk
  obtain ⟨oa, ca, rfl⟩ := hz.form
  obtain ⟨ok, ck, rfl⟩ := hk.form3
  rw [hm] at HZ hl ⊢
  rw [hn] at HK hkl hr ⊢
  have HM := Lib.hid hm
  have HR := Lib.hid hr
  clear hz hk hm hn hr
  go_enter Try.func25, Try.ntmps25
  go_wp2_with fail
  go_loopw [5, 10] (fun ov iv W => ∃ i : Nat, i ≤ m ∧ iv = .int .i64 i ∧ W.ownsRow w.heap.size 3 1 ov (openL kn (c.take i)).length ((openL kn (c.take i)).map (Value.int .i64)) ∧ Gr w W) (fun _ iv _ => m - (intOf iv).toNat)
  case atStart => exact ⟨0, by omega, rfl, World.ownsRow_nil _ _ _ _, Gr.refl _⟩
  case round =>
    obtain ⟨wo, hwo⟩ : ∃ x, x = wr := ⟨_, rfl⟩
    subst hwo
    obtain ⟨i, hi, rfl, ho, hg⟩ := hrel
    by_cases hlt : i < m
    · obtain ⟨a, rfl⟩ := HZ.out.addr (by omega)
      have q := (HZ.out.grown hg).cellAt hlt
      have hxm := HR.out (c.getD i 0) (by rw [List.getD_eq_getElem?_getD, List.getElem?_eq_getElem (by rw [HM.out]; exact hlt)]; exact List.getElem_mem _)
      have hxr := HZ.out.rng i (by rw [HM.out]; exact hlt)
      have hle := openL_le kn (c.take i)
      rw [List.length_take] at hle
      have hst : openL kn (c.take (i + 1)) = openL kn (c.take i) ++ (if kn.getD (c.getD i 0).toNat false = true then [] else [c.getD i 0]) := by
        rw [take_snoc c i 0 (by rw [HM.out]; exact hlt), openL_snoc]
      obtain ⟨x, hx⟩ : ∃ x : Nat, c.getD i 0 = (x : Int) := ⟨(c.getD i 0).toNat, by omega⟩
      rw [hx] at q hxm hxr hst
      rw [Int.toNat_natCast] at hst
      obtain ⟨ak, rfl⟩ := HK.out.addr (by omega)
      have q2 := (HK.out.grown hg).cellAt (i := x) (by omega)
      have hxn : (x : Int) < (n : Int) := hxm.2
      generalize openL kn (c.take i) = lo at *
      obtain ⟨lo', hlo⟩ : ∃ k, lo.length = k := ⟨_, rfl⟩
      rw [hlo] at ho hle
      obtain ⟨oo, co, rfl⟩ := ownsRow_form'' ho
      have HO := Lib.hid ho
      have HG := Lib.hid hg
      have HST := Lib.hid hst
      have HXR := Lib.hid hxr
      have HLO := Lib.hid hlo
      clear ho hg hst hx hxm hxr hlo
      cases hb : kn.getD x false with
      | true =>
        rw [hb] at q2
        rw [hb, if_pos rfl, List.append_nil] at HST
        clear hb
        go_wp2_with fail
        exact ⟨⟨i + 1, by omega, by go_num, by rw [HST.out, HLO.out]; exact HO.out, HG.out⟩, by simp [intOf]; omega⟩
      | false =>
        rw [hb] at q2
        rw [hb, if_neg (by simp)] at HST
        clear hb
        go_wp2_with (at_builtin; refine wpList_append_int rfl _ _ rfl w.heap.size (.slice oo lo' co) lo' lo rfl (HO.out.of_gr (Gr.alloc (Gr.refl _) _ _)) wo.heap.size (x : Int) rfl (by rw [cell_of_row _ _ 0 _ _ _ (heap_alloc_new wo _)]; rfl) (by omega) (by have := HG.out.size; simp; omega) ?_; intro g5 cap5 w5 h1 h2 h3; have O5 := Lib.hid h1; have G5 := Lib.hid h2; clear h1 h2 h3)
        have hg5 : Gr w w5 := gr_by_own (Gr.alloc HG.out (#[.int .i64 (x : Int)]) 3) G5.out (HO.out.of_gr (Gr.alloc (Gr.refl _) _ _)) (Nat.le_refl _)
        exact ⟨⟨i + 1, by omega, by go_num, by rw [HST.out, List.length_append, HLO.out]; exact O5.out, hg5⟩, by simp [intOf]; omega⟩
    · obtain rfl : m = i := by omega
      go_wp2_with fail
      go_ret
      rw [List.take_of_length_le (by rw [HM.out]; exact Nat.le_refl _)] at ho
      exact ⟨_, rfl, ho, hg⟩
theorem open_any (vc vk : Value) (c : List Int) (kn : List Bool) (w : World) (hz : Zs w vc c) (hk : Bl w vk kn) (hr : ∀ x ∈ c, 0 ≤ x ∧ x < (kn.length : Int)) (hl : c.length ≤ 1000) (hkl : kn.length ≤ 1000) :
    Calls Try.prog 25 #[vc, vk] w fun e w' => ∃ v, e = .returned v ∧ Zs w' v (openL kn c) ∧ InInts w' v ∧ Gr w w' :=
  (open_own vc vk c kn w hz hk hr hl hkl).mono (by
    rintro e w' ⟨v, rfl, ho, hg⟩
    exact ⟨v, rfl, owns_zs ho rfl (fun x hx => hz.1 x (List.mem_filter.1 hx).1), owns_inInts ho, hg⟩)
/-- What is left of a row's data. -/
def restL (kn : List Bool) (vs : List (List Int)) (c : List Int) (d : List Int) : List Int := c.foldl (fun s x => if kn.getD x.toNat false = true then sumL (vs.getD x.toNat []) s else s) d
theorem restL_snoc (kn : List Bool) (vs : List (List Int)) (c : List Int) (x : Int) (d : List Int) : restL kn vs (c ++ [x]) d = if kn.getD x.toNat false = true then sumL (vs.getD x.toNat []) (restL kn vs c d) else restL kn vs c d := by
  unfold restL
  rw [List.foldl_append]
  rfl
/-- Values of so many bytes, where they are known. -/
def Valed (S : Nat) (kn : List Bool) (vs : List (List Int)) : Prop := vs.length = kn.length ∧ ∀ x, kn.getD x false = true → (vs.getD x []).length = S ∧ ∀ z ∈ vs.getD x [], Byt z
theorem restL_ok {S : Nat} {kn : List Bool} {vs : List (List Int)} (hv : Valed S kn vs) : ∀ (c d : List Int), d.length = S → (∀ z ∈ d, Byt z) → (restL kn vs c d).length = S ∧ ∀ z ∈ restL kn vs c d, Byt z
  | [], d, h1, h2 => ⟨h1, h2⟩
  | x :: c, d, h1, h2 => by
    show (restL kn vs c (if kn.getD x.toNat false = true then sumL (vs.getD x.toNat []) d else d)).length = S ∧ ∀ z ∈ restL kn vs c (if kn.getD x.toNat false = true then sumL (vs.getD x.toNat []) d else d), Byt z
    split
    · rename_i hk
      obtain ⟨a1, a2⟩ := hv.2 x.toNat hk
      exact restL_ok hv c _ (by rw [sumL_length, a1]) (sumL_byt a2 h2)
    · exact restL_ok hv c d h1 h2
end Go.Proofs.Ytdmcncpndogdlaa
namespace Go.Proofs.Ytdmcncpndogdlaa
open Go.RowKit

def VT : PL.Two L.V := ⟨L.vadd, L.vzero, L.vadd_comm, L.vadd_assoc, L.vzero_add, L.vadd_self⟩
def toE (q : Eqn) : PL.E L.V := ⟨q.c.map Int.toNat, vec q.d⟩
def valV (vs : List (List Int)) : Nat → L.V := fun x => vec (vs.getD x [])
def dlen : List Eqn → Nat
  | [] => 0
  | q :: _ => q.d.length
def MayEqs (n : Int) (L : List Eqn) : Prop := 0 ≤ n ∧ n ≤ 64 ∧ ∀ q ∈ L, MayRow n q.c ∧ q.d.length = dlen L
theorem vec_rest {S : Nat} {kn : List Bool} {vs : List (List Int)} (hv : Valed S kn vs) : ∀ (c d : List Int), d.length = S → (∀ z ∈ d, Byt z) → vec (restL kn vs c d) = L.vadd (vec d) (PL.tot VT (valV vs) ((c.map Int.toNat).filter fun x => kn.getD x false))
  | [], d, _, _ => (L.vadd_zero _).symm
  | x :: c, d, h1, h2 => by
    show vec (restL kn vs c (if kn.getD x.toNat false = true then sumL (vs.getD x.toNat []) d else d)) = _
    rw [List.map_cons]
    by_cases hk : kn.getD x.toNat false = true
    · obtain ⟨a1, a2⟩ := hv.2 x.toNat hk
      rw [if_pos hk, vec_rest hv c _ (by rw [sumL_length, a1]) (sumL_byt a2 h2), vec_sum a2 h2 (by rw [a1, h1]), List.filter_cons_of_pos (p := fun x => kn.getD x false) hk]
      show _ = L.vadd (vec d) (L.vadd (vec (vs.getD x.toNat [])) _)
      rw [L.vadd_comm (vec (vs.getD x.toNat [])), L.vadd_assoc]
    · rw [if_neg hk, vec_rest hv c d h1 h2, List.filter_cons_of_neg (p := fun x => kn.getD x false) hk]
/-- What is known so far, and nothing else. -/
structure PeelInv (n S : Nat) (E : List (PL.E L.V)) (kn : List Bool) (vs : List (List Int)) : Prop where
  len : kn.length = n
  val : Valed S kn vs
  no : ∀ x, kn.getD x false = false → vs.getD x [] = []
  der : ∀ x, kn.getD x false = true → PL.Der E x
  agree : ∀ v, PL.Holds VT E v → ∀ x, kn.getD x false = true → v x = valV vs x
theorem rep_false (n x : Nat) : (List.replicate n false).getD x false = false := by
  rw [List.getD_eq_getElem?_getD, List.getElem?_replicate]
  split <;> rfl
theorem PeelInv.start (n S : Nat) (E : List (PL.E L.V)) : PeelInv n S E (List.replicate n false) (List.replicate n []) := by
  refine ⟨by simp, ⟨by simp, fun x hx => ?_⟩, fun x _ => ?_, fun x hx => ?_, fun v _ x hx => ?_⟩
  · rw [rep_false] at hx; cases hx
  · rw [List.getD_eq_getElem?_getD, List.getElem?_replicate]
    split <;> rfl
  · rw [rep_false] at hx; cases hx
  · rw [rep_false] at hx; cases hx
theorem openL_mem {kn : List Bool} {c : List Int} {x : Int} : x ∈ openL kn c ↔ x ∈ c ∧ kn.getD x.toNat false = false := by
  unfold openL
  rw [List.mem_filter]
  cases kn.getD x.toNat false <;> simp
theorem getD_set_selfT {l : List Bool} {x : Nat} (h : x < l.length) (b : Bool) : (l.set x b).getD x false = b := by
  rw [List.getD_eq_getElem?_getD, List.getElem?_set_self h]
  rfl
theorem getD_set_neT {l : List Bool} {x y : Nat} (h : x ≠ y) (b : Bool) : (l.set x b).getD y false = l.getD y false := by
  rw [List.getD_eq_getElem?_getD, List.getElem?_set_ne h, List.getD_eq_getElem?_getD]
theorem mayRow_nodup {n : Int} {c : List Int} (h : MayRow n c) : (c.map Int.toNat).Nodup := by
  have hp : c.Pairwise (· < ·) := by
    rw [List.pairwise_iff_getElem]
    have key : ∀ d i, i + 1 + d < c.length → c.getD i 0 < c.getD (i + 1 + d) 0 := by
      intro d
      induction d with
      | zero => intro i hi; exact h.2 i hi
      | succ d ih => intro i hi; exact Int.lt_trans (ih i (by omega)) (h.2 (i + 1 + d) (by omega))
    intro i j hi hj hij
    have := key (j - i - 1) i (by omega)
    rw [show i + 1 + (j - i - 1) = j from by omega, List.getD_eq_getElem?_getD, List.getD_eq_getElem?_getD, List.getElem?_eq_getElem hi, List.getElem?_eq_getElem hj] at this
    exact this
  rw [List.nodup_iff_pairwise_ne, List.pairwise_map]
  refine List.Pairwise.imp_of_mem (fun {a b} ha hb hab => ?_) hp
  have h1 := h.1 a ha
  have h2 := h.1 b hb
  omega
/-- A row with one open column tells it. -/
theorem PeelInv.step {n S : Nat} {Eqs : List Eqn} {kn : List Bool} {vs : List (List Int)} (hm : ∀ q ∈ Eqs, MayRow n q.c ∧ q.d.length = S ∧ ∀ z ∈ q.d, Byt z) (h : PeelInv n S (Eqs.map toE) kn vs) {q : Eqn} (hq : q ∈ Eqs) {x : Nat} (ho : openL kn q.c = [(x : Int)]) :
    PeelInv n S (Eqs.map toE) (kn.set x true) (vs.set x (restL kn vs q.c q.d)) := by
  obtain ⟨m1, m2, m3⟩ := hm q hq
  have hx := openL_mem.1 (show (x : Int) ∈ openL kn q.c by rw [ho]; simp)
  rw [Int.toNat_natCast] at hx
  have hxn : x < kn.length := by have := m1.1 _ hx.1; rw [h.len]; omega
  have hxv : x < vs.length := by rw [h.val.1]; exact hxn
  have hr := restL_ok h.val q.c q.d m2 m3
  have hqe : toE q ∈ Eqs.map toE := List.mem_map.2 ⟨q, hq, rfl⟩
  have hcx : x ∈ (toE q).cols := List.mem_map.2 ⟨(x : Int), hx.1, Int.toNat_natCast x⟩
  have hoth : ∀ d, d ∈ (toE q).cols → d ≠ x → kn.getD d false = true := fun d hd hne => by
    obtain ⟨y, hy, rfl⟩ := List.mem_map.1 hd
    cases hk : kn.getD y.toNat false with
    | true => rfl
    | false =>
      have : y ∈ openL kn q.c := openL_mem.2 ⟨hy, hk⟩
      rw [ho] at this
      obtain rfl : y = (x : Int) := by simpa using this
      exact absurd (Int.toNat_natCast x) hne
  have hdx : PL.Der (Eqs.map toE) x := .by_row _ x hqe hcx fun d hd hne => h.der d (hoth d hd hne)
  have hnd : ∀ e, e ∈ Eqs.map toE → e.cols.Nodup := fun e he => by
    obtain ⟨r, hr, rfl⟩ := List.mem_map.1 he
    exact mayRow_nodup (hm r hr).1
  refine ⟨by rw [List.length_set]; exact h.len, ⟨by rw [List.length_set, List.length_set]; exact h.val.1, fun y hy => ?_⟩, fun y hy => ?_, fun y hy => ?_, fun v hv y hy => ?_⟩
  · by_cases e : x = y
    · subst e
      rw [getD_set_self _ _ _ hxv]
      exact hr
    · rw [getD_set_ne _ _ _ _ e]
      rw [getD_set_neT e] at hy
      exact h.val.2 y hy
  · by_cases e : x = y
    · subst e
      rw [getD_set_selfT hxn] at hy
      cases hy
    · rw [getD_set_neT e] at hy
      rw [getD_set_ne _ _ _ _ e]
      exact h.no y hy
  · by_cases e : x = y
    · subst e; exact hdx
    · rw [getD_set_neT e] at hy
      exact h.der y hy
  · by_cases e : x = y
    · subst e
      unfold valV
      rw [getD_set_self _ _ _ hxv, vec_rest h.val q.c q.d m2 m3, PL.Holds.told VT hnd hv hqe hcx fun d hd hne => h.der d (hoth d hd hne)]
      show L.vadd (vec q.d) _ = L.vadd (vec q.d) _
      congr 1
      have e1 : ((toE q).cols.filter fun d => d != x) = ((q.c.map Int.toNat).filter fun x => kn.getD x false) := by
        refine List.filter_congr fun d hd => ?_
        by_cases e2 : d = x
        · subst e2
          rw [hx.2]
          simp
        · rw [hoth d hd e2]
          simpa using e2
      rw [e1]
      exact PL.tot_congr VT fun d hd => h.agree v hv d (List.mem_filter.1 hd).2
    · rw [getD_set_neT e] at hy
      unfold valV
      rw [getD_set_ne _ _ _ _ e]
      exact h.agree v hv y hy
/-- Where no row has just one open column, all is known that can be. -/
theorem PeelInv.closed {n S : Nat} {Eqs : List Eqn} {kn : List Bool} {vs : List (List Int)} (hm : ∀ q ∈ Eqs, MayRow n q.c) (h : PeelInv n S (Eqs.map toE) kn vs) (hc : ∀ q ∈ Eqs, (openL kn q.c).length ≠ 1) (x : Nat) : kn.getD x false = true ↔ PL.Der (Eqs.map toE) x := by
  refine ⟨h.der x, fun hd => ?_⟩
  refine PL.Der.closed (K := fun x => kn.getD x false = true) (fun e he c hce hoth => ?_) hd
  obtain ⟨q, hq, rfl⟩ := List.mem_map.1 he
  obtain ⟨y, hy, rfl⟩ := List.mem_map.1 hce
  cases hk : kn.getD y.toNat false with
  | true => rfl
  | false =>
    exfalso
    refine hc q hq ?_
    have hone : ∀ z ∈ openL kn q.c, z = y := fun z hz => by
      obtain ⟨z1, z2⟩ := openL_mem.1 hz
      apply Classical.byContradiction
      intro hne
      have hzn := (hm q hq).1 z z1
      have hyn := (hm q hq).1 y hy
      have := hoth z.toNat (List.mem_map.2 ⟨z, z1, rfl⟩) (by omega)
      rw [z2] at this
      cases this
    have hnd : (openL kn q.c).Nodup := by
      have := mayRow_nodup (hm q hq)
      have h2 : q.c.Nodup := by
        rw [List.nodup_iff_pairwise_ne, List.pairwise_map] at this
        rw [List.nodup_iff_pairwise_ne]
        exact this.imp fun h e => h (by rw [e])
      exact h2.filter _
    have hym : y ∈ openL kn q.c := openL_mem.2 ⟨hy, hk⟩
    match hl : openL kn q.c, hone, hnd, hym with
    | [], _, _, hym => simp at hym
    | [_], _, _, _ => rfl
    | a :: b :: l, hone, hnd, _ =>
      have h1 := hone a (by simp)
      have h2 := hone b (by simp)
      rw [List.nodup_cons] at hnd
      exact absurd (by rw [h1, ← h2]; simp) hnd.1
/-- What is left of all rows. -/
def leftE (kn : List Bool) (vs : List (List Int)) (Eqs : List Eqn) : List Eqn := (Eqs.filter fun q => decide (0 < (openL kn q.c).length)).map fun q => ⟨openL kn q.c, restL kn vs q.c q.d⟩
structure PeelOkIs (n S : Nat) (E : List (PL.E L.V)) (kn : List Bool) (vs : List (List Int)) : Prop where
  len : kn.length = n
  val : Valed S kn vs
  no : ∀ x, kn.getD x false = false → vs.getD x [] = []
  der : ∀ x, kn.getD x false = true ↔ PL.Der E x
  holds : PL.Holds VT E (valV vs)
def PeelSays (n : Int) (Eqs : List Eqn) (kn : List Bool) (vs : List (List Int)) (rs : List Eqn) (e : Int) : Prop :=
  (¬ MayEqs n Eqs ∧ e = 1 ∧ kn = [] ∧ vs = [] ∧ rs = []) ∨
  (MayEqs n Eqs ∧ (¬ ∃ v, PL.Holds VT (Eqs.map toE) v) ∧ e = 10 ∧ kn = [] ∧ vs = [] ∧ rs = []) ∨
  (MayEqs n Eqs ∧ e = 0 ∧ PeelOkIs n.toNat (dlen Eqs) (Eqs.map toE) kn vs ∧ rs = leftE kn vs Eqs)
theorem PeelOkIs.unique {n S : Nat} {E : List (PL.E L.V)} {kn kn' : List Bool} {vs vs' : List (List Int)} (hn : ∀ q, q ∈ E → q.cols.Nodup) (h : PeelOkIs n S E kn vs) (h' : PeelOkIs n S E kn' vs') : kn = kn' ∧ vs = vs' := by
  have e1 : kn = kn' := eq_of_getDb (by rw [h.len, h'.len]) fun x _ => by
    rw [Bool.eq_iff_iff, h.der, h'.der]
  subst e1
  refine ⟨rfl, ?_⟩
  have hl : vs.length = vs'.length := by rw [h.val.1, h'.val.1]
  apply List.ext_getElem hl
  intro x h1 h2
  have key : vs.getD x [] = vs'.getD x [] := by
    cases hk : kn.getD x false with
    | false => rw [h.no x hk, h'.no x hk]
    | true =>
      obtain ⟨a1, a2⟩ := h.val.2 x hk
      obtain ⟨b1, b2⟩ := h'.val.2 x hk
      exact vec_inj (by rw [a1, b1]) a2 b2 (PL.Holds.unique VT hn h.holds h'.holds ((h.der x).1 hk))
  rw [List.getD_eq_getElem?_getD, List.getD_eq_getElem?_getD, List.getElem?_eq_getElem h1, List.getElem?_eq_getElem h2] at key
  exact key
theorem PeelSays.unique {n : Int} {Eqs : List Eqn} {kn kn' : List Bool} {vs vs' : List (List Int)} {rs rs' : List Eqn} {e e' : Int} (h : PeelSays n Eqs kn vs rs e) (h' : PeelSays n Eqs kn' vs' rs' e') : kn = kn' ∧ vs = vs' ∧ rs = rs' ∧ e = e' := by
  have hnd : MayEqs n Eqs → ∀ q, q ∈ Eqs.map toE → q.cols.Nodup := fun hm q hq => by
    obtain ⟨r, hr, rfl⟩ := List.mem_map.1 hq
    exact mayRow_nodup (hm.2.2 r hr).1
  rcases h with ⟨a0, a1, a2, a3, a4⟩ | ⟨a0, a1, a2, a3, a4, a5⟩ | ⟨a0, a1, a2, a3⟩ <;> rcases h' with ⟨b0, b1, b2, b3, b4⟩ | ⟨b0, b1, b2, b3, b4, b5⟩ | ⟨b0, b1, b2, b3⟩
  · exact ⟨by rw [a2, b2], by rw [a3, b3], by rw [a4, b4], by rw [a1, b1]⟩
  · exact absurd b0 a0
  · exact absurd b0 a0
  · exact absurd a0 b0
  · exact ⟨by rw [a3, b3], by rw [a4, b4], by rw [a5, b5], by rw [a2, b2]⟩
  · exact absurd ⟨_, b2.holds⟩ a1
  · exact absurd a0 b0
  · exact absurd ⟨_, a2.holds⟩ b1
  · obtain ⟨c1, c2⟩ := PeelOkIs.unique (hnd a0) a2 b2
    exact ⟨c1, c2, by rw [a3, b3, c1, c2], by rw [a1, b1]⟩
end Go.Proofs.Ytdmcncpndogdlaa
namespace Go.Proofs.Ytdmcncpndogdlaa
open Go.RowKit

/-- A block's cells that are nil rows. -/
def nils (n : Nat) : Array Value := (List.replicate n (Value.slice none 0 0)).toArray
theorem nils_made (n : Nat) : madeCells #[.slice none 0 0] n = nils n := by
  apply Array.ext'
  rw [toList_madeCells_one]
  simp [nils]
end Go.Proofs.Ytdmcncpndogdlaa
namespace Go.Proofs.Ytdmcncpndogdlaa
open Go.RowKit

def noE : Eqn := ⟨[], []⟩
/-- The i-th row of ones behind offset o of block b. -/
def EqAt (w : World) (b o i : Nat) (q : Eqn) : Prop := ∃ oc nc cc od nd cd, w.cell? ⟨b, o + i * 2, none⟩ = some (.slice oc nc cc) ∧ w.cell? ⟨b, o + i * 2 + 1, none⟩ = some (.slice od nd cd) ∧ Zs w (.slice oc nc cc) q.c ∧ Bs w (.slice od nd cd) q.d
theorem EqAt.grown {w w' : World} {b o i : Nat} {q : Eqn} (h : EqAt w b o i q) (hg : Gr w w') : EqAt w' b o i q := by
  obtain ⟨oc, nc, cc, od, nd, cd, h1, h2, h3, h4⟩ := h
  exact ⟨oc, nc, cc, od, nd, cd, cell_gr hg h1, cell_gr hg h2, h3.grown hg, h4.grown hg⟩
/-- v is a slice of rows of ones that reads as L in w. -/
def Eqs (w : World) (v : Value) (L : List Eqn) : Prop :=
  ∃ oa c, v = .slice oa L.length c ∧ L.length ≤ c ∧ c ≤ 9223372036854775807 ∧ (oa = none → c = 0) ∧ (0 < L.length → ∃ b o, oa = some ⟨b, o, none⟩ ∧ ∀ i, i < L.length → EqAt w b o i (L.getD i noE))
theorem Eqs.grown {w w' : World} {v : Value} {L : List Eqn} (h : Eqs w v L) (hg : Gr w w') : Eqs w' v L := by
  obtain ⟨oa, c, h1, h2, h3, h4, h5⟩ := h
  refine ⟨oa, c, h1, h2, h3, h4, fun h0 => ?_⟩
  obtain ⟨b, o, q1, q2⟩ := h5 h0
  exact ⟨b, o, q1, fun i hi => (q2 i hi).grown hg⟩
theorem Eqs.nil (w : World) : Eqs w (.slice none 0 0) [] := ⟨none, 0, rfl, by simp, by omega, fun _ => rfl, fun h => by simp at h⟩
theorem Eqs.form {w : World} {v : Value} {L : List Eqn} (h : Eqs w v L) : ∃ o c, v = .slice o L.length c := by
  obtain ⟨oa, c, h1, _⟩ := h
  exact ⟨oa, c, h1⟩
theorem Eqs.lay {w : World} {oa : Option Addr} {m c : Nat} {L : List Eqn} (h : Eqs w (.slice oa m c) L) (hm : 0 < m) : ∃ b o, oa = some ⟨b, o, none⟩ ∧ ∀ i, i < m → EqAt w b o i (L.getD i noE) := by
  obtain ⟨oa', c', he, h2, h3, h4, h5⟩ := h
  obtain ⟨rfl, rfl, rfl⟩ : oa = oa' ∧ m = L.length ∧ c = c' := by simpa using he
  exact h5 hm
theorem Eqs.at {w : World} {b o m c : Nat} {L : List Eqn} (h : Eqs w (.slice (some ⟨b, o, none⟩) m c) L) {i : Nat} (hi : i < m) : EqAt w b o i (L.getD i noE) := by
  obtain ⟨b', o', he, h2⟩ := h.lay (by omega)
  simp at he
  obtain ⟨rfl, rfl⟩ := he
  exact h2 i hi
theorem gr_drN (W : World) (d : Nat) : Gr W (W.drewN d) := Gr.refl W
theorem Eqs.byt {w : World} {v : Value} {L : List Eqn} (h : Eqs w v L) : ∀ q ∈ L, ∀ z ∈ q.d, Byt z := fun q hq => by
  obtain ⟨i, hi, rfl⟩ := List.getElem_of_mem hq
  obtain ⟨oa, c, rfl, _, _, _, h5⟩ := h
  obtain ⟨b, o, _, h6⟩ := h5 (by omega)
  obtain ⟨_, _, _, _, _, _, _, _, _, h7⟩ := h6 i hi
  rw [List.getD_eq_getElem?_getD, List.getElem?_eq_getElem hi] at h7
  exact h7.1
theorem cell_far {W : World} {x y : Addr} {v u : Value} (h : W.cell? x = some u) (hne : x ≠ y) : (W.setCell y v).cell? x = some u := by
  rw [World.cell?_setCell_other _ _ _ _ hne.symm]
  exact h
theorem results_tmp4 {fn : Func} {t u v z : Tmp} (h : fn.results = #[.tmp t, .tmp u, .tmp v, .tmp z]) (tmps : Array Value) (P : Program) (w : World) :
    (results fn tmps).run P w = .ok (.tuple #[tmps.getD t undef, tmps.getD u undef, tmps.getD v undef, tmps.getD z undef]) w := by
  simp [results, h]
/-- The row may be, beside the first one. -/
def RowOkE (n : Int) (L : List Eqn) (q : Eqn) : Prop := MayRow n q.c ∧ q.d.length = dlen L
theorem dlen_at {L : List Eqn} (h : 0 < L.length) : (L.getD 0 noE).d.length = dlen L := by
  cases L with
  | nil => simp at h
  | cons q L => rfl
theorem getD_memE {L : List Eqn} {i : Nat} (h : i < L.length) : L.getD i noE ∈ L := by
  rw [List.getD_eq_getElem?_getD, List.getElem?_eq_getElem h]
  exact List.getElem_mem h
section
variable {w0 W : World} {gk gv N : Nat} {kn : List Bool} {vs : List (List Int)} {us : List Value}
end
/-- How many are not known. -/
def unk (kn : List Bool) (N : Nat) : Nat := ((List.range N).filter fun i => !(kn.getD i false)).length
open Classical in
noncomputable def unkW (W : World) (gk N : Nat) : Nat := ((List.range N).filter fun i => decide (W.cell? ⟨gk, i, none⟩ = some (.bool false))).length
theorem unk_set {kn : List Bool} {N x : Nat} (hl : kn.length = N) (hx : x < N) (hk : kn.getD x false = false) : unk (kn.set x true) N < unk kn N := by
  unfold unk
  have h1 : ((List.range N).filter fun i => !((kn.set x true).getD i false)) = ((List.range N).filter fun i => !(kn.getD i false)).filter fun i => i != x := by
    rw [List.filter_filter]
    refine List.filter_congr fun i _ => ?_
    by_cases e : x = i
    · subst e
      rw [getD_set_selfT (by omega)]
      simp
    · rw [getD_set_neT e]
      have : (i != x) = true := by simpa using fun h : i = x => e h.symm
      rw [this]
      simp
  rw [h1]
  have hm : x ∈ (List.range N).filter fun i => !(kn.getD i false) := List.mem_filter.2 ⟨List.mem_range.2 hx, by rw [hk]; rfl⟩
  exact List.length_filter_lt_length_iff_exists.2 ⟨x, hm, by simp⟩
/-- The ints lie in memory of ints, or ahead of base. -/
def Rz (base : Nat) (w : World) (u : Value) : Prop := ∀ a n c, u = .slice (some a) n c → 0 < n → a.block < base ∨ ∃ cur, w.heap[a.block]? = some (.cells cur 3 (0, 0))
theorem Rz.kept {base : Nat} {w w' : World} {u : Value} {l : List Int} {row : Option Nat} (hb : Zs w u l) (hr : Rz base w u)
    (hk : ∀ k, k < w.heap.size → some k ≠ row → w'.heap[k]? = w.heap[k]?) (hrow : ∀ g, row = some g → base ≤ g ∧ ∀ cur, w.heap[g]? ≠ some (.cells cur 3 (0, 0))) : Zs w' u l ∧ Rz base w' u := by
  have far : ∀ a n c, u = .slice (some a) n c → 0 < n → a.block < w.heap.size → w'.heap[a.block]? = w.heap[a.block]? := by
    intro a n c hu hn hlt
    refine hk _ hlt fun e => ?_
    obtain ⟨h1, h2⟩ := hrow a.block e.symm
    rcases hr a n c hu hn with h | ⟨cur, h⟩
    · omega
    · exact h2 cur h
  obtain ⟨h0, oa, c, rfl, h2, h3, h4, h5⟩ := hb
  refine ⟨⟨h0, oa, c, rfl, h2, h3, h4, fun a ha i hi => ?_⟩, fun a n c' hu hn => ?_⟩
  · have hc := h5 a ha i hi
    subst ha
    have hlt := World.block_lt_of_cell? w _ hc
    have hbl : (a.add i).block = a.block := by unfold Addr.add; split <;> rfl
    rw [hbl] at hlt
    rw [World.cell?_of_block (w := w) (w' := w') (a := a.add i) (by rw [hbl]; exact far a _ _ rfl (by omega) hlt)]
    exact hc
  · rcases hr a n c' hu hn with h | ⟨cur, h⟩
    · exact .inl h
    · refine .inr ⟨cur, ?_⟩
      have hlt : a.block < w.heap.size := by
        rcases Nat.lt_or_ge a.block w.heap.size with hlt | hge
        · exact hlt
        · rw [Array.getElem?_eq_none hge] at h
          cases h
      rw [far a n c' hu hn hlt, h]
theorem Rz.gr {base : Nat} {w w' : World} {u : Value} {l : List Int} (hb : Zs w u l) (hr : Rz base w u) (hg : Gr w w') : Zs w' u l ∧ Rz base w' u :=
  Rz.kept (row := none) hb hr (fun k hk _ => hg.2.2.2.2 k hk) (fun g h => by cases h)
/-- One row of ones, as two values. -/
def EqVal (base : Nat) (w : World) (uc ud : Value) (q : Eqn) : Prop := Zs w uc q.c ∧ Rz base w uc ∧ Bs w ud q.d ∧ Rb base w ud
theorem EqVal.gr {base : Nat} {w w' : World} {uc ud : Value} {q : Eqn} (h : EqVal base w uc ud q) (hg : Gr w w') : EqVal base w' uc ud q :=
  ⟨(Rz.gr h.1 h.2.1 hg).1, (Rz.gr h.1 h.2.1 hg).2, (Rb.gr h.2.2.1 h.2.2.2 hg).1, (Rb.gr h.2.2.1 h.2.2.2 hg).2⟩
theorem openL_nil {kn : List Bool} {c : List Int} (h : openL kn c = []) : ∀ x ∈ c, kn.getD x.toNat false = true := fun x hx => by
  cases hk : kn.getD x.toNat false with
  | true => rfl
  | false =>
    have : x ∈ openL kn c := openL_mem.2 ⟨hx, hk⟩
    rw [h] at this
    cases this
theorem rest_all {S : Nat} {kn : List Bool} {vs : List (List Int)} (hv : Valed S kn vs) {c d : List Int} (h1 : d.length = S) (h2 : ∀ z ∈ d, Byt z) (h : openL kn c = []) : vec (restL kn vs c d) = L.vadd (vec d) (PL.tot VT (valV vs) (c.map Int.toNat)) := by
  rw [vec_rest hv c d h1 h2]
  congr 2
  refine List.filter_eq_self.2 fun x hx => ?_
  obtain ⟨y, hy, rfl⟩ := List.mem_map.1 hx
  exact openL_nil h y hy
/-- A row all of whose columns are known does not hold: nothing does. -/
theorem PeelInv.clash {n S : Nat} {Eqs : List Eqn} {kn : List Bool} {vs : List (List Int)} (h : PeelInv n S (Eqs.map toE) kn vs) {q : Eqn} (hq : q ∈ Eqs) (h1 : q.d.length = S) (h2 : ∀ z ∈ q.d, Byt z) (ho : openL kn q.c = []) (hl : 0 ≤ leadL (restL kn vs q.c q.d)) : ¬ ∃ v, PL.Holds VT (Eqs.map toE) v := by
  rintro ⟨v, hv⟩
  have hok := restL_ok h.val q.c q.d h1 h2
  refine vec_ne hok.2 hl ?_
  rw [rest_all h.val h1 h2 ho]
  have hk : ∀ x, x ∈ (toE q).cols → kn.getD x false = true := fun x hx => by
    obtain ⟨y, hy, rfl⟩ := List.mem_map.1 hx
    exact openL_nil ho y hy
  have h3 := hv (toE q) (List.mem_map.2 ⟨q, hq, rfl⟩) fun x hx => h.der x (hk x hx)
  have h4 : PL.tot VT v (toE q).cols = PL.tot VT (valV vs) (toE q).cols := PL.tot_congr VT fun x hx => h.agree v hv x (hk x hx)
  rw [h4] at h3
  show L.vadd (vec q.d) (PL.tot VT (valV vs) (toE q).cols) = L.vzero
  rw [h3]
  exact L.vadd_self _
/-- Where each row all of whose columns are known holds, all is well. -/
theorem PeelInv.done {n S : Nat} {Eqs : List Eqn} {kn : List Bool} {vs : List (List Int)} (hm : ∀ q ∈ Eqs, q.d.length = S ∧ ∀ z ∈ q.d, Byt z) (h : PeelInv n S (Eqs.map toE) kn vs) (hd : ∀ x, kn.getD x false = true ↔ PL.Der (Eqs.map toE) x) (hh : ∀ q ∈ Eqs, openL kn q.c = [] → leadL (restL kn vs q.c q.d) = -1) : PeelOkIs n S (Eqs.map toE) kn vs := by
  refine ⟨h.len, h.val, h.no, hd, fun e he hall => ?_⟩
  obtain ⟨q, hq, rfl⟩ := List.mem_map.1 he
  have ho : openL kn q.c = [] := by
    refine List.filter_eq_nil_iff.2 fun x hx => ?_
    have := (hd x.toNat).2 (hall x.toNat (List.mem_map.2 ⟨x, hx, rfl⟩))
    rw [this]
    simp
  have h1 := rest_all h.val (hm q hq).1 (hm q hq).2 ho
  rw [vec_nought (hh q hq ho)] at h1
  have h2 : L.vadd (vec q.d) (PL.tot VT (valV vs) (toE q).cols) = L.vadd (vec q.d) (vec q.d) := by
    rw [L.vadd_self]
    exact h1.symm
  exact PL.Two.cancel VT h2
theorem leftE_snoc (kn : List Bool) (vs : List (List Int)) (L : List Eqn) (q : Eqn) : leftE kn vs (L ++ [q]) = leftE kn vs L ++ (if 0 < (openL kn q.c).length then [⟨openL kn q.c, restL kn vs q.c q.d⟩] else []) := by
  unfold leftE
  rw [List.filter_append, List.map_append]
  congr 1
  by_cases h : 0 < (openL kn q.c).length
  · rw [if_pos h, List.filter_cons_of_pos (by simpa using h)]
    rfl
  · rw [if_neg h, List.filter_cons_of_neg (by simpa using h)]
    rfl
theorem leftE_le (kn : List Bool) (vs : List (List Int)) (L : List Eqn) : (leftE kn vs L).length ≤ L.length := by
  unfold leftE
  rw [List.length_map]
  exact List.length_filter_le _ _
end Go.Proofs.Ytdmcncpndogdlaa
