/-
  Texts laid behind one another: Re Cp Ss So Ev My Cs Lin.
-/
import Derived.Test.YtmbikmlknbinpaaMgb
import Derived.Deep.AppendLies
import Derived.Test.YtmbikmlknbinpaaMga
namespace Go.Proofs.Ytmbikmlknbinpaa
open Go.RowKit

/-- Since w0 only new memory was made; f is a Field; the values of L read as their lists; the blocks of K hold their bytes. -/
def Env (w0 w : World) (f : Value) (L : List (Value × List Int)) (K : List (Nat × List Int)) : Prop := St w0 w f ∧ Al w L ∧ ∀ p ∈ K, Blk w p.1 p.2
theorem Env.step {w0 w w' : World} {f : Value} {L : List (Value × List Int)} {K : List (Nat × List Int)} (h : Env w0 w f L K) (hg : Gr w w') : Env w0 w' f L K :=
  ⟨St.step h.1 hg, Al.grown h.2.1 hg, fun p hp => Blk.grown (h.2.2 p hp) hg⟩
theorem Env.add {w0 w : World} {f v : Value} {l : List Int} {L : List (Value × List Int)} {K : List (Nat × List Int)} (h : Env w0 w f L K) (hb : Bs w v l) : Env w0 w f ((v, l) :: L) K :=
  ⟨h.1, Al.cons hb h.2.1, h.2.2⟩
theorem Env.addK {w0 w : World} {f : Value} {g : Nat} {l : List Int} {L : List (Value × List Int)} {K : List (Nat × List Int)} (h : Env w0 w f L K) (hb : Blk w g l) : Env w0 w f L ((g, l) :: K) :=
  ⟨h.1, h.2.1, fun p hp => by
    rcases List.mem_cons.1 hp with rfl | hp
    · exact hb
    · exact h.2.2 p hp⟩
theorem Env.f {w0 w : World} {f : Value} {L : List (Value × List Int)} {K : List (Nat × List Int)} (h : Env w0 w f L K) : IsF w f := h.1.2
theorem Env.bs {w0 w : World} {f : Value} {L : List (Value × List Int)} {K : List (Nat × List Int)} (h : Env w0 w f L K) (v : Value) (l : List Int) (hm : (v, l) ∈ L) : Bs w v l := h.2.1 (v, l) hm
theorem Env.blk {w0 w : World} {f : Value} {L : List (Value × List Int)} {K : List (Nat × List Int)} (h : Env w0 w f L K) (g : Nat) (l : List Int) (hm : (g, l) ∈ K) : Blk w g l := h.2.2 (g, l) hm
theorem New.empty {w w' : World} {v : Value} (h : New w w' v []) : ∃ oa c, v = .slice oa 0 c := by
  obtain ⟨_, _, h | h⟩ := h
  · obtain ⟨_, oa, c, rfl, _⟩ := h
    exact ⟨oa, c, rfl⟩
  · obtain ⟨g, c, _, rfl, _⟩ := h
    exact ⟨_, c, rfl⟩
theorem New.shape {w w' : World} {v : Value} {l : List Int} (h : New w w' v l) (hl : 0 < l.length) : ∃ g c, v = .slice (some ⟨g, 0, none⟩) l.length c ∧ l.length ≤ c ∧ c ≤ 9223372036854775807 := by
  obtain ⟨_, _, h | h⟩ := h
  · obtain ⟨rfl, _⟩ := h
    simp at hl
  · obtain ⟨g, c, _, rfl, _, _, h1, h2, _⟩ := h
    exact ⟨g, c, rfl, h1, h2⟩
theorem Mine.out {w w' : World} {e : Ending} {l : List Int} (h : Mine w w' e l) (hb : ∀ x ∈ l, Byt x) (hn : l.length ≤ 9223372036854775807) : ∃ v, e = .returned v ∧ Bs w' v l ∧ Gr w w' := by
  obtain ⟨g, he, _, hk, hg⟩ := h
  exact ⟨_, he, Blk.bs hk l _ (Nat.le_refl _) (Nat.le_refl _) hn hb fun _ _ => rfl, hg⟩
theorem leadL_unit (n k : Nat) (h : k < n) : leadL (unitL n k) = k :=
  leadL_at _ k (by rw [unitL_length]; exact h) (fun j hj => by rw [unitL_getD _ _ _ (by omega), if_neg (by omega)]) (by rw [unitL_getD _ _ _ h, if_pos rfl]; omega)
theorem leadL_behind (n k m : Nat) (h : k < n) : leadL (((unitL n k).drop (k + 1)).take m) = -1 :=
  leadL_none _ fun j hj => by
    have : j < m ∧ k + 1 + j < n := by
      rw [List.length_take, List.length_drop, unitL_length] at hj
      omega
    rw [List.getD_eq_getElem?_getD, List.getElem?_take_of_lt this.1, List.getElem?_drop, ← List.getD_eq_getElem?_getD, unitL_getD _ _ _ this.2, if_neg (by omega)]
end Go.Proofs.Ytmbikmlknbinpaa
namespace Go.Proofs.Ytmbikmlknbinpaa
open Go.RowKit

/-- What an owned row of bytes reads as. -/
theorem New.of_owns {w0 w : World} {g cap : Nat} {l : List Int} (hg : Gr w0 w) (hb : ∀ x ∈ l, Byt x) (h : w.ownsRow w0.heap.size 5 1 (.slice (some ⟨g, 0, none⟩) l.length cap) l.length (l.map (Value.int .u8))) : w0.heap.size ≤ g ∧ New w0 w (.slice (some ⟨g, 0, none⟩) l.length cap) l := by
  obtain ⟨_, h | h⟩ := h
  · simp at h
  · obtain ⟨g', cap', cur, he, h1, h2, h3, h4, _, h5⟩ := h
    simp only [Value.slice.injEq, Option.some.injEq, Addr.mk.injEq, and_true, true_and] at he
    obtain ⟨rfl, rfl⟩ := he
    refine ⟨h1, hg, hb, Or.inr ⟨g, cap, cur, rfl, h1, h2, h3, by unfold maxLen at h4; omega, fun i hi => ?_⟩⟩
    rw [Nat.mul_one] at h5
    have : (cur.toList.take l.length)[i]? = (l.map (Value.int .u8))[i]? := by rw [h5]
    rw [List.getElem?_take_of_lt hi] at this
    simpa [hi] using this
set_option maxRecDepth 100000 in
set_option maxHeartbeats 400000 in
theorem copy_any (oa : Option Addr) (n c : Nat) (l : List Int) (w : World) (hn : l.length = n) (h2 : n ≤ 1000000) (hc : Bs w (.slice oa n c) l) :
    Calls Try.prog 23 #[.slice oa n c] w fun e w' => ∃ g, e = .returned (.slice (some ⟨g, 0, none⟩) n (n + 2)) ∧ w.heap.size ≤ g ∧ New w w' (.slice (some ⟨g, 0, none⟩) n (n + 2)) l := by
  obtain ⟨hb, oa', c', he, h1, h3, h4, h5⟩ := hc
  obtain ⟨rfl, -, rfl⟩ : oa = oa' ∧ n = l.length ∧ c = c' := by simpa using he
  have HB := Lib.hid hb
  have HN := Lib.hid hn
  have HO : Hid (oa = none → n = 0 ∧ c = 0) := Lib.hid (fun h => ⟨by have := h4 h; omega, h4 h⟩)
  have HC : Hid (∀ ad, oa = some ad → ∀ j u, (l.map (Value.int .u8))[j]? = some u → (w.alloc (.cells (rowB (List.replicate (n + 2) 0)) 5)).cell? (ad.add j) = some u) := Lib.hid (fun ad ha j u hu => by
    have hj : j < l.length := by
      have := (List.getElem?_eq_some_iff.1 hu).1
      rwa [List.length_map] at this
    have := h5 ad ha j hj
    rw [cell_grown (Gr.alloc (Gr.refl _) _ _) this]
    simp [hj] at hu
    rw [← hu]
    simp [hj])
  have HL : Hid ((l.map (Value.int .u8)).length = n * 1) := Lib.hid (by rw [List.length_map, hn, Nat.mul_one])
  have H1 : Hid (∀ u ∈ l.map (Value.int .u8), u.oneCell' = true) := Lib.hid (by
    intro v hv
    simp at hv
    obtain ⟨j, _, rfl⟩ := hv
    rfl)
  have hmk : ∀ w, (Instr.makeSlice 24 (.int .i64 0) (.int .i64 ((n : Int) + 2))).run Try.prog w = .ok (.slice (some ⟨w.heap.size, 0, none⟩) 0 (n + 2)) (w.alloc (.cells (rowB (List.replicate (n + 2) 0)) 5)) := fun w => make22 0 (n + 2) (by omega) (by omega) w
  have HW : Hid ((w.alloc (.cells (rowB (List.replicate (n + 2) 0)) 5)).ownsRow w.heap.size 5 1 (.slice (some ⟨w.heap.size, 0, none⟩) 0 (n + 2)) 0 []) := Lib.hid (World.ownsRow_made w _ _ (Nat.le_refl _) (by unfold maxLen; omega) (by rw [rowB_size, List.length_replicate]; omega))
  have HG : Hid (Gr w (w.alloc (.cells (rowB (List.replicate (n + 2) 0)) 5))) := Lib.hid (Gr.alloc (Gr.refl _) _ _)
  obtain ⟨i, hi, hzz⟩ := Option.map_eq_some_iff.1 info5
  simp only [Prod.mk.injEq] at hzz
  obtain ⟨_, hs, _⟩ := hzz
  have HI := Lib.hid hi
  have HS := Lib.hid hs
  generalize hcs : l.map (Value.int .u8) = cs at *
  have HM := Lib.hid hcs
  clear hcs
  generalize rowB (List.replicate (n + 2) 0) = cur at *
  clear hb hn h1 h3 h4 h5 he hi hs
  go_enter Try.func23, Try.ntmps23
  go_wp2_with (refine wpList_append_fits_any _ rfl _ _ 24 rfl w.heap.size 5 i 1 Try.underlying24 HI.out HS.out w.heap.size 0 (n + 2) [] rfl HW.out oa n c cs rfl HL.out HO.out HC.out H1.out (by omega) ?_; intro w' hown hgrow; have HR := Lib.hid hown; have HQ := Lib.hid hgrow; clear hown hgrow)
  go_ret
  have hO := HR.out
  rw [List.nil_append, ← HM.out, Nat.zero_add, ← HN.out] at hO
  obtain ⟨h6, h7⟩ := New.of_owns (Gr.append HG.out HQ.out (fun k hk => by cases hk; exact Nat.le_refl _)) HB.out hO
  rw [HN.out] at h7
  exact ⟨_, by simp, h6, h7⟩
end Go.Proofs.Ytmbikmlknbinpaa
namespace Go.Proofs.Ytmbikmlknbinpaa
open Go.RowKit

/-- v is a slice of slices of bytes that reads as L in w. -/
def Bss (w : World) (v : Value) (L : List (List Int)) : Prop :=
  ∃ oa c, v = .slice oa L.length c ∧ L.length ≤ c ∧ c ≤ 9223372036854775807 ∧ (oa = none → c = 0) ∧ ∀ a, oa = some a → ∀ i, i < L.length → ∃ u, w.cell? (a.add i) = some u ∧ Bs w u (L.getD i [])
theorem Bss.nil (w : World) : Bss w (.slice none 0 0) [] := ⟨none, 0, rfl, by simp, by omega, fun _ => rfl, fun a h => by cases h⟩
theorem Bss.grown {w w' : World} {v : Value} {L : List (List Int)} (h : Bss w v L) (hg : Gr w w') : Bss w' v L := by
  obtain ⟨oa, c, h1, h2, h3, h4, h5⟩ := h
  refine ⟨oa, c, h1, h2, h3, h4, fun a ha i hi => ?_⟩
  obtain ⟨u, hu, hb⟩ := h5 a ha i hi
  exact ⟨u, cell_grown hg hu, Bs.grown hb hg⟩
theorem Bss.at {w : World} {v : Value} {L : List (List Int)} (h : Bss w v L) (hl : 0 < L.length) :
    ∃ a c, v = .slice (some a) L.length c ∧ L.length ≤ c ∧ c ≤ 9223372036854775807 ∧ ∀ i, i < L.length → ∃ u, w.cell? (a.add i) = some u ∧ Bs w u (L.getD i []) := by
  obtain ⟨oa, c, h1, h2, h3, h4, h5⟩ := h
  cases oa with
  | none => exact absurd (h4 rfl) (by omega)
  | some a => exact ⟨a, c, h1, h2, h3, h5 a rfl⟩
theorem eq_of_getL {x y : List (List Int)} (hl : y.length = x.length) (h : ∀ j, j < x.length → x.getD j [] = y.getD j []) : x = y := by
  apply List.ext_getElem hl.symm
  intro j h1 h2
  have := h j h1
  rw [List.getD_eq_getElem?_getD, List.getD_eq_getElem?_getD, List.getElem?_eq_getElem h1, List.getElem?_eq_getElem h2] at this
  simpa using this

theorem Two.gr {wr w1 : World} {P Q : Prop} (h : P ∧ Q ∧ Hid (Gr wr w1)) : Gr wr w1 := h.2.2.out
theorem Two.keep {wr w1 w2 : World} {a b : Addr} {u v : Value} (h : w1.cell? a = some u ∧ w1.cell? b = some v ∧ Hid (Gr wr w1)) (hg : Gr w1 w2) : w2.cell? a = some u ∧ w2.cell? b = some v ∧ Hid (Gr wr w2) :=
  ⟨cell_grown hg h.1, cell_grown hg h.2.1, Lib.hid (Gr.trans h.2.2.out hg)⟩
set_option maxHeartbeats 400000 in
theorem rows_core (a b : Addr) (n ca cb : Nat) (A B : List (List Int)) (w : World) (hn : A.length = n) (hl : B.length = n) (hx : n ≤ ca) (hy : n ≤ cb) (hm : ca ≤ 9223372036854775807)
    (hxc : ∀ i, i < n → ∃ u, w.cell? (a.add i) = some u ∧ Bs w u (A.getD i [])) (hyc : ∀ i, i < n → ∃ u, w.cell? (b.add i) = some u ∧ Bs w u (B.getD i [])) :
    Calls Try.prog 14 #[.slice (some a) n ca, .slice (some b) n cb] w fun e w' => e = .returned (.bool (A == B)) ∧ Gr w w' := by
  have HX := Lib.hid hxc
  have HY := Lib.hid hyc
  have HL := Lib.hid hl
  have HN := Lib.hid hn
  clear hxc hyc hl hn
  go_enter Try.func14, Try.ntmps14
  go_wp2
  go_loopw [13] (fun i wr => ∃ k : Nat, k ≤ n ∧ i = .int .i64 k ∧ Gr w wr ∧ (∀ j, j < k → A.getD j [] = B.getD j [])) (fun i _ => n - (intOf i).toNat)
  case atStart => exact ⟨0, by omega, rfl, Gr.refl _, by omega⟩
  case round =>
    obtain ⟨k, hk, rfl, hg, hs⟩ := hrel
    have HS := Lib.hid hs
    have G := Lib.hid hg
    clear hs hg
    by_cases hlt : k < n
    · obtain ⟨u, h1, hu⟩ := HX.out k hlt
      obtain ⟨v, h2, hv⟩ := HY.out k hlt
      have q1 := cell_grown G.out h1
      have q2 := cell_grown G.out h2
      have U := Lib.hid (Bs.grown hu G.out)
      have V := Lib.hid (Bs.grown hv G.out)
      obtain ⟨p, hp⟩ : ∃ p, A.getD k [] = p := ⟨_, rfl⟩
      obtain ⟨q, hq⟩ : ∃ q, B.getD k [] = q := ⟨_, rfl⟩
      rw [hp] at U
      rw [hq] at V
      have HP := Lib.hid hp
      have HQ := Lib.hid hq
      clear hp hq h1 h2 hu hv
      go_wp2
      go_region_held3 (fun W => W.cell? (a.add k) = some u ∧ W.cell? (b.add k) = some v ∧ Hid (Gr wr W)) (first | exact ⟨q1, q2, Lib.hid (Gr.refl _)⟩ | exact Two.keep (by assumption) hg | exact Two.keep (by assumption) (Gr.drew (Gr.refl _)) | go_keep)
        (first | (go_at_call 20; refine (same_any u v p q _ (Bs.grown U.out (Two.gr (by assumption))) (Bs.grown V.out (Two.gr (by assumption)))).mono ?_; rintro e w' ⟨rfl, hg⟩))
      have hZ := Lib.hid (Two.gr (wr := wr) (by assumption))
      obtain ⟨bb, hbb⟩ : ∃ bb, (p == q) = bb := ⟨_, rfl⟩
      rw [hbb]
      have HE := Lib.hid hbb
      clear hbb
      cases bb with
      | true =>
        have he : p = q := by simpa using HE.out
        go_wp2
        refine ⟨⟨k + 1, by omega, by go_num, Gr.trans G.out hZ.out, fun j hj => ?_⟩, by simp [intOf]; omega⟩
        by_cases e : j = k
        · rw [e, HP.out, HQ.out, he]
        · exact HS.out j (by omega)
      | false =>
        go_wp2
        go_ret
        have hne : (A == B) = false := by
          rw [beq_eq_false_iff_ne]
          intro c
          have h3 : p ≠ q := by simpa using HE.out
          apply h3
          rw [← HP.out, ← HQ.out, c]
        exact ⟨by rw [hne]; rfl, Gr.trans G.out hZ.out⟩
    · obtain rfl : k = n := by omega
      go_wp2
      go_ret
      have he : A = B := eq_of_getL (by rw [HL.out, HN.out]) (fun j hj => HS.out j (by rw [HN.out] at hj; exact hj))
      exact ⟨by rw [he]; simp, G.out⟩
set_option maxHeartbeats 400000 in
theorem rows_any (va vb : Value) (A B : List (List Int)) (w : World) (ha : Bss w va A) (hb : Bss w vb B) :
    Calls Try.prog 14 #[va, vb] w fun e w' => e = .returned (.bool (A == B)) ∧ Gr w w' := by
  by_cases hl : B.length = A.length
  · by_cases h0 : 0 < A.length
    · obtain ⟨a, ca, rfl, h1, h2, h3⟩ := Bss.at ha h0
      obtain ⟨b, cb, rfl, h4, h5, h6⟩ := Bss.at hb (by omega)
      rw [hl]
      rw [hl] at h4 h6
      exact rows_core a b A.length ca cb A B w rfl hl h1 h4 h2 h3 h6
    · obtain rfl : A = [] := List.eq_nil_of_length_eq_zero (by omega)
      obtain rfl : B = [] := List.eq_nil_of_length_eq_zero (by simpa using hl)
      obtain ⟨oa, ca, rfl, _, _, _, _⟩ := ha
      obtain ⟨ob, cb, rfl, _, _, _, _⟩ := hb
      go_enter Try.func14, Try.ntmps14
      go_wp2
      go_loopw [13] (fun i wr => i = .int .i64 0 ∧ wr = w) (fun _ _ => 0)
      case atStart => exact ⟨rfl, rfl⟩
      case round =>
        obtain ⟨rfl, rfl⟩ := hrel
        go_wp2
        go_ret
        exact ⟨rfl, Gr.refl _⟩
  · have hne : (A == B) = false := by
      rw [beq_eq_false_iff_ne]
      intro c
      rw [c] at hl
      exact hl rfl
    obtain ⟨oa, ca, rfl, h1, h2, _, _⟩ := ha
    obtain ⟨ob, cb, rfl, h3, h4, _, _⟩ := hb
    rw [hne]
    generalize A.length = n at *
    generalize B.length = m at *
    have ht : ((n : Int) != m) = true := by simp; omega
    go_enter Try.func14, Try.ntmps14
    go_wp2
    go_ret
    exact ⟨rfl, Gr.refl _⟩
end Go.Proofs.Ytmbikmlknbinpaa
namespace Go.Proofs.Ytmbikmlknbinpaa
open Go.RowKit

/-- The row u has no cell in a block that is not of bytes, unless that is below base. -/
def Rb (base : Nat) (w : World) (u : Value) : Prop := ∀ a n c, u = .slice (some a) n c → 0 < n → a.block < base ∨ ∃ cur, w.heap[a.block]? = some (.cells cur 5 (0, 0))
/-- v is a slice of rows in memory from base on, and reads as L in w. -/
def Rws (base : Nat) (w : World) (v : Value) (L : List (List Int)) : Prop :=
  ∃ us, w.ownsRow base 24 1 v L.length us ∧ ∀ i, i < L.length → Bs w (us.getD i undef) (L.getD i []) ∧ Rb base w (us.getD i undef)
theorem Rws.nil (base : Nat) (w : World) : Rws base w (.slice none 0 0) [] := ⟨[], World.ownsRow_nil w base 24 1, fun i hi => absurd hi (by simp)⟩
theorem ownsRow_cell {w : World} {base : Nat} {e : TypeId} {v : Value} {n : Nat} {us : List Value} (h : w.ownsRow base e 1 v n us) (hn : 0 < n) :
    ∃ g c, v = .slice (some ⟨g, 0, none⟩) n c ∧ n ≤ c ∧ c ≤ maxLen ∧ base ≤ g ∧ us.length = n ∧ ∀ i, i < n → w.cell? ⟨g, i, none⟩ = some (us.getD i undef) := by
  obtain ⟨hl, ⟨_, h0⟩ | ⟨g, c, cur, rfl, hb, hg, h1, h2, h3, h4⟩⟩ := h
  · omega
  · refine ⟨g, c, rfl, h1, h2, hb, by omega, fun i hi => ?_⟩
    rw [cell_of_row w g i _ _ _ hg, ← h4]
    rw [Nat.mul_one] at h3 ⊢
    have hi2 : i < cur.toList.length := by simp; omega
    rw [List.getD_eq_getElem?_getD, List.getElem?_take_of_lt hi]
    simp [show i < cur.size by omega]
theorem Rws.bss {base : Nat} {w : World} {v : Value} {L : List (List Int)} (h : Rws base w v L) : Bss w v L := by
  obtain ⟨us, ho, hr⟩ := h
  by_cases h0 : 0 < L.length
  · obtain ⟨g, c, rfl, h1, h2, _, _, h3⟩ := ownsRow_cell ho h0
    refine ⟨some ⟨g, 0, none⟩, c, rfl, h1, by unfold maxLen at h2; omega, (fun h => by cases h), fun a ha i hi => ?_⟩
    cases ha
    rw [Addr.add_mid, Nat.zero_add]
    exact ⟨_, h3 i hi, (hr i hi).1⟩
  · obtain rfl : L = [] := List.eq_nil_of_length_eq_zero (by omega)
    obtain ⟨_, ⟨rfl, _⟩ | ⟨g, c, cur, rfl, hb, hg, h1, h2, h3, h4⟩⟩ := ho
    · exact Bss.nil w
    · exact ⟨some ⟨g, 0, none⟩, c, rfl, h1, by unfold maxLen at h2; omega, (fun h => by cases h), fun a ha i hi => by simp at hi⟩
/-- Where all but one block is as it was, and that one holds no bytes and lies from base on, rows are as they were. -/
theorem Rb.kept {base : Nat} {w w' : World} {u : Value} {l : List Int} {row : Option Nat} (hb : Bs w u l) (hr : Rb base w u)
    (hk : ∀ k, k < w.heap.size → some k ≠ row → w'.heap[k]? = w.heap[k]?) (hrow : ∀ g, row = some g → base ≤ g ∧ ∀ cur, w.heap[g]? ≠ some (.cells cur 5 (0, 0))) : Bs w' u l ∧ Rb base w' u := by
  have far : ∀ a n c, u = .slice (some a) n c → 0 < n → a.block < w.heap.size → w'.heap[a.block]? = w.heap[a.block]? := by
    intro a n c hu hn hlt
    refine hk _ hlt fun e => ?_
    obtain ⟨h1, h2⟩ := hrow a.block e.symm
    rcases hr a n c hu hn with h | ⟨cur, h⟩
    · omega
    · exact h2 cur h
  obtain ⟨h0, oa, c, rfl, h2, h3, h4, h5⟩ := hb
  refine ⟨⟨h0, oa, c, rfl, h2, h3, h4, fun a ha i hi => ?_⟩, fun a n c' hu hn => ?_⟩
  · have hc := h5 a ha i hi
    subst ha
    have hlt := World.block_lt_of_cell? w _ hc
    have hbl : (a.add i).block = a.block := by unfold Addr.add; split <;> rfl
    rw [hbl] at hlt
    rw [World.cell?_of_block (w := w) (w' := w') (a := a.add i) (by rw [hbl]; exact far a _ _ rfl (by omega) hlt)]
    exact hc
  · rcases hr a n c' hu hn with h | ⟨cur, h⟩
    · exact .inl h
    · refine .inr ⟨cur, ?_⟩
      have hlt : a.block < w.heap.size := by
        rcases Nat.lt_or_ge a.block w.heap.size with hlt | hge
        · exact hlt
        · rw [Array.getElem?_eq_none hge] at h
          cases h
      rw [far a n c' hu hn hlt, h]
theorem Rb.gr {base : Nat} {w w' : World} {u : Value} {l : List Int} (hb : Bs w u l) (hr : Rb base w u) (hg : Gr w w') : Bs w' u l ∧ Rb base w' u :=
  Rb.kept (row := none) hb hr (fun k hk _ => hg.2.2.2.2 k hk) (fun g h => by cases h)
theorem ownsRow_not_bytes {w : World} {base : Nat} {v : Value} {n : Nat} {us : List Value} (h : w.ownsRow base 24 1 v n us) : ∀ g, v.ownBlock = some g → base ≤ g ∧ ∀ cur, w.heap[g]? ≠ some (.cells cur 5 (0, 0)) := by
  intro g hg
  obtain ⟨_, ⟨rfl, _⟩ | ⟨g', c, cur, rfl, hb, hgg, _⟩⟩ := h
  · cases hg
  · simp [Value.ownBlock] at hg
    subst hg
    refine ⟨hb, fun cur' => ?_⟩
    rw [hgg]
    simp
/-- Behind an append of one row. -/
theorem Rws.append {base : Nat} {w w' : World} {v v' u : Value} {L : List (List Int)} {l : List Int} {us : List Value} (ho : w.ownsRow base 24 1 v L.length us) (hr : ∀ i, i < L.length → Bs w (us.getD i undef) (L.getD i []) ∧ Rb base w (us.getD i undef))
    (hb : Bs w u l) (hrb : Rb base w u) (hown : w'.ownsRow base 24 1 v' (L.length + 1) (us ++ [u])) (hg : w.grownBy w' v.ownBlock) : Rws base w' v' (L ++ [l]) := by
  have hlen : us.length = L.length := by have := ho.1; omega
  have hrow := ownsRow_not_bytes ho
  refine ⟨us ++ [u], by rw [List.length_append]; exact hown, fun i hi => ?_⟩
  rw [List.length_append, List.length_singleton] at hi
  by_cases e : i < L.length
  · rw [List.getD_eq_getElem?_getD, List.getD_eq_getElem?_getD, List.getElem?_append_left (by omega), List.getElem?_append_left e, ← List.getD_eq_getElem?_getD, ← List.getD_eq_getElem?_getD]
    exact Rb.kept (hr i e).1 (hr i e).2 hg.block hrow
  · obtain rfl : i = L.length := by omega
    have e1 : (us ++ [u]).getD L.length undef = u := by rw [List.getD_eq_getElem?_getD, List.getElem?_append_right (by omega), hlen]; simp
    have e2 : (L ++ [l]).getD L.length [] = l := by rw [List.getD_eq_getElem?_getD, List.getElem?_append_right (by omega)]; simp
    rw [e1, e2]
    exact Rb.kept hb hrb hg.block hrow
/-- The row lies in memory of bytes, from base on. -/
def Rn (base : Nat) (w : World) (u : Value) : Prop := ∀ a n c, u = .slice (some a) n c → 0 < n → base ≤ a.block ∧ ∃ cur, w.heap[a.block]? = some (.cells cur 5 (0, 0))
/-- v is a slice of rows, all of it in memory from base on, and reads as L in w. -/
def RwsN (base : Nat) (w : World) (v : Value) (L : List (List Int)) : Prop :=
  ∃ us, w.ownsRow base 24 1 v L.length us ∧ ∀ i, i < L.length → Bs w (us.getD i undef) (L.getD i []) ∧ Rn base w (us.getD i undef)
theorem RwsN.rws {base : Nat} {w : World} {v : Value} {L : List (List Int)} (h : RwsN base w v L) : Rws base w v L := by
  obtain ⟨us, h1, h2⟩ := h
  exact ⟨us, h1, fun i hi => ⟨(h2 i hi).1, fun a n c e hn => .inr ((h2 i hi).2 a n c e hn).2⟩⟩
theorem RwsN.bss {base : Nat} {w : World} {v : Value} {L : List (List Int)} (h : RwsN base w v L) : Bss w v L := h.rws.bss
theorem info22 : (Try.prog.info? 24).map (fun i => (i.zero, i.size, i.bytes)) = some (some (.slice none 0 0), 1, 24) := by kernel_rfl
end Go.Proofs.Ytmbikmlknbinpaa
namespace Go.Proofs.Ytmbikmlknbinpaa
open Go.RowKit

/-- The first k rows of n bytes each. -/
def chunk (n : Nat) (l : List Int) (k : Nat) : List (List Int) := (List.range k).map fun i => (l.drop (n * i)).take n
theorem chunk_length (n : Nat) (l : List Int) (k : Nat) : (chunk n l k).length = k := by simp [chunk]
theorem chunk_succ (n : Nat) (l : List Int) (k : Nat) : chunk n l (k + 1) = chunk n l k ++ [(l.drop (n * k)).take n] := by
  simp [chunk, List.range_succ]
/-- How many rows there are. -/
def evenN (n : Nat) (l : List Int) : Nat := min 14 (l.length / n)
def evenL (n : Nat) (l : List Int) : List (List Int) := chunk n l (evenN n l)
theorem Bs.drop {w : World} {a : Addr} {m cap : Nat} {t : List Int} (h : Bs w (.slice (some a) m cap) t) (hm : t.length = m) (n : Nat) (hn : n ≤ m) :
    Bs w (.slice (if cap = n then some a else some (a.add n)) (m - n) (cap - n)) (t.drop n) := by
  have := Bs.slice h hm n m hn (Nat.le_refl _)
  rwa [List.take_of_length_le (by simp; omega)] at this
theorem Bs.head {w : World} {a : Addr} {m cap : Nat} {t : List Int} (h : Bs w (.slice (some a) m cap) t) (hm : t.length = m) (n : Nat) (hn : n ≤ m) :
    Bs w (.slice (some a) n n) (t.take n) := by
  obtain ⟨hb, oa, c, he, h3, h4, h5, h6⟩ := h
  cases he
  have hlen : (t.take n).length = n := by rw [List.length_take]; omega
  refine ⟨fun x hx => hb x (List.mem_of_mem_take hx), some a, n, by rw [hlen], by omega, by omega, (fun h => by cases h), fun a' ha i hi => ?_⟩
  cases ha
  rw [hlen] at hi
  rw [h6 a rfl i (by omega), List.getD_eq_getElem?_getD, List.getD_eq_getElem?_getD, List.getElem?_take_of_lt hi]
theorem Bs.low {w : World} {a : Addr} {n c : Nat} {l : List Int} (h : Bs w (.slice (some a) n c) l) (hn : 0 < n) : a.block < w.heap.size := by
  obtain ⟨_, oa, c', he, _, _, _, h6⟩ := h
  obtain ⟨rfl, rfl, _⟩ : some a = oa ∧ n = l.length ∧ c = c' := by simpa using he
  have := World.block_lt_of_cell? w _ (h6 a rfl 0 hn)
  have hbl : (a.add 0).block = a.block := by unfold Addr.add; split <;> rfl
  rwa [hbl] at this
theorem ownsRow_form {w : World} {base : Nat} {e : TypeId} {v : Value} {n : Nat} {us : List Value} (h : w.ownsRow base e 1 v n us) : ∃ oa c, v = .slice oa n c := by
  obtain ⟨_, ⟨rfl, rfl⟩ | ⟨g, c, cur, rfl, _⟩⟩ := h
  · exact ⟨_, _, rfl⟩
  · exact ⟨_, _, rfl⟩
theorem Bs.form {w : World} {v : Value} {l : List Int} (h : Bs w v l) : ∃ oa c, v = .slice oa l.length c := by
  obtain ⟨_, oa, c, h, _⟩ := h
  exact ⟨oa, c, h⟩
def lenOf : Value → Nat
  | .slice _ n _ => n
  | _ => 0
end Go.Proofs.Ytmbikmlknbinpaa
namespace Go.Proofs.Ytmbikmlknbinpaa
open Go.RowKit

def mayL (L : List (List Int)) : Bool := L.all fun r => r.length == (L.getD 0 []).length && decide (r.length ≤ 64)
theorem mayL_false {L : List (List Int)} (i : Nat) (hi : i < L.length) (h : ¬ ((L.getD i []).length = (L.getD 0 []).length ∧ (L.getD i []).length ≤ 64)) : mayL L = false := by
  rw [← Bool.not_eq_true]
  intro c
  unfold mayL at c
  rw [List.all_eq_true] at c
  have := c (L.getD i []) (by rw [List.getD_eq_getElem?_getD, List.getElem?_eq_getElem hi]; exact List.getElem_mem hi)
  simp at this
  exact h (by simpa using this)
theorem mayL_true {L : List (List Int)} (h : ∀ i, i < L.length → (L.getD i []).length = (L.getD 0 []).length ∧ (L.getD i []).length ≤ 64) : mayL L = true := by
  unfold mayL
  rw [List.all_eq_true]
  intro r hr
  obtain ⟨i, hi, rfl⟩ := List.getElem_of_mem hr
  have := h i hi
  rw [List.getD_eq_getElem?_getD, List.getElem?_eq_getElem hi] at this
  simpa using this
theorem mayL_at {L : List (List Int)} (h : mayL L = true) (i : Nat) (hi : i < L.length) : (L.getD i []).length = (L.getD 0 []).length ∧ (L.getD i []).length ≤ 64 := by
  unfold mayL at h
  rw [List.all_eq_true] at h
  have := h (L.getD i []) (by rw [List.getD_eq_getElem?_getD, List.getElem?_eq_getElem hi]; exact List.getElem_mem hi)
  simpa using this
theorem Two.drew {w1 : World} {P Q : World → Prop} (h : P w1 ∧ Q w1) (hp : P w1 → P w1.drew) (hq : Q w1 → Q w1.drew) : P w1.drew ∧ Q w1.drew := ⟨hp h.1, hq h.2⟩
end Go.Proofs.Ytmbikmlknbinpaa
namespace Go.Proofs.Ytmbikmlknbinpaa
open Go.RowKit

theorem New.rb {w w' : World} {v : Value} {l : List Int} (h : New w w' v l) (base : Nat) : Rb base w' v := by
  intro a n c hv hn
  obtain ⟨_, _, ⟨rfl, oa, c', rfl, _⟩ | ⟨g, c', cur, rfl, _, h2, _⟩⟩ := h
  · cases hv
    omega
  · cases hv
    exact .inr ⟨cur, h2⟩
set_option maxRecDepth 100000 in
set_option maxHeartbeats 1600000 in
theorem copies_any (va : Value) (L : List (List Int)) (w : World) (h : Bss w va L) (hl : L.length ≤ 1000) (hr : ∀ i, i < L.length → (L.getD i []).length ≤ 1000) :
    Calls Try.prog 24 #[va] w fun e w' => ∃ v, e = .returned v ∧ Rws w.heap.size w' v L ∧ Gr w w' := by
  obtain ⟨i0, hi0, hz0, hz1, hz2⟩ := info_parts info22
  have I0 := Lib.hid hi0
  have I1 := Lib.hid hz0
  have I2 := Lib.hid hz1
  have I3 := Lib.hid hz2
  have HR := Lib.hid hr
  obtain ⟨oa, c, rfl, h1, h2, h3, h4⟩ := h
  have HA := Lib.hid h4
  generalize hn : L.length = n at *
  have HN := Lib.hid hn
  have hoa : n = 0 ∨ ∃ a, oa = some a := by
    cases oa with
    | none => exact .inl (by have := h3 rfl; omega)
    | some a => exact .inr ⟨a, rfl⟩
  clear hi0 hz0 hz1 hz2 hr h3 h4 hn
  go_enter Try.func24, Try.ntmps24
  go_wp2
  go_loopw [3, 8] (fun o i wr => ∃ k : Nat, k ≤ n ∧ i = .int .i64 k ∧ Rws w.heap.size wr o (L.take k) ∧ Gr w wr) (fun _ i _ => n - (intOf i).toNat)
  case atStart => exact ⟨0, by omega, rfl, Rws.nil _ _, Gr.refl _⟩
  case round =>
    obtain ⟨k, hk, rfl, hrs, hg⟩ := hrel
    by_cases hlt : k < n
    · obtain ⟨a, rfl⟩ : ∃ a, oa = some a := by
        rcases hoa with c1 | c1
        · omega
        · exact c1
      obtain ⟨u, q0, hu⟩ := HA.out a rfl k hlt
      have q1 := cell_grown hg q0
      have hlk : (L.take k).length = k := by rw [List.length_take, HN.out]; omega
      obtain ⟨us, ho, hr⟩ := hrs
      obtain ⟨oo, co, rfl⟩ := ownsRow_form ho
      obtain ⟨ou, cu, rfl⟩ := hu.form
      have hm := HR.out k hlt
      obtain ⟨p, hp⟩ : ∃ p, (L.getD k []).length = p := ⟨_, rfl⟩
      rw [hp] at q1 hu hm
      rw [hlk] at ho hr ⊢
      have HU := Lib.hid (Bs.grown hu hg)
      have HO := Lib.hid ho
      have HRR := Lib.hid hr
      have HG := Lib.hid hg
      have HP := Lib.hid hp
      have HLK := Lib.hid hlk
      clear hu ho hr hg hp q0 hlk
      go_wp2_with (first
        | (go_at_call 23; refine (copy_any ou p cu (L.getD k []) _ HP.out (by omega) HU.out).mono ?_; rintro e w1 ⟨g1, rfl, hg1, hnw⟩; have HW := Lib.hid hnw; clear hnw)
        | (at_builtin; refine wpList_append_lies _ rfl _ _ _ rfl w.heap.size 24 i0 _ 1 24 Try.underlying25 I0.out I1.out I2.out I3.out rfl (by omega) (.slice oo k co) k us rfl (((HO.out.of_gr HW.out.1)).alloc _)
              ⟨w1.heap.size, 0, none⟩ 1 1 [.slice (some ⟨g1, 0, none⟩) p (p + 2)] rfl rfl (World.news_of_block (cs := #[.slice (some ⟨g1, 0, none⟩) p (p + 2)]) (t := 24) (fr := (0, 0)) (heap_alloc_new w1 _)) (by simp [Value.oneCell'])
              (by omega) (by unfold maxLen; omega) (by omega) (by have := HG.out.size; have := HW.out.1.size; simp; omega) (w1.heap.size + 1) (by simp) ?_; intro gg cap w2 hown1 hgrow hat hlt2))
      have hg1w : Gr wr (w1.alloc (.cells #[.slice (some ⟨g1, 0, none⟩) p (p + 2)] 24)) := Gr.alloc HW.out.1 _ _
      have hgw1 : Gr w1 (w1.alloc (.cells #[.slice (some ⟨g1, 0, none⟩) p (p + 2)] 24)) := Gr.alloc (Gr.refl _) _ _
      have hrow : ∀ g, (Value.slice oo k co).ownBlock = some g → w.heap.size ≤ g := fun g hg => (ownsRow_not_bytes HO.out g hg).1
      have hnb := Rb.gr (New.bs HW.out) (New.rb HW.out w.heap.size) hgw1
      have hap := Rws.append (L := L.take k) (l := L.getD k []) (by rw [HLK.out]; exact (HO.out.of_gr HW.out.1).alloc _) (fun i hi => Rb.gr (HRR.out i (by rwa [HLK.out] at hi)).1 (HRR.out i (by rwa [HLK.out] at hi)).2 hg1w)
        hnb.1 hnb.2 (by rw [HLK.out]; exact hown1) hgrow
      have htk : L.take k ++ [L.getD k []] = L.take (k + 1) := by
        rw [List.take_add_one, List.getD_eq_getElem?_getD, List.getElem?_eq_getElem (by rw [HN.out]; exact hlt)]
        rfl
      rw [htk] at hap
      have hgr := Gr.append (Gr.trans HG.out hg1w) hgrow hrow
      exact ⟨⟨k + 1, by omega, by go_num, hap, hgr⟩, by simp [intOf]; omega⟩
    · obtain rfl : k = n := by omega
      rw [List.take_of_length_le (by rw [HN.out]; omega)] at hrs
      have HRS := Lib.hid hrs
      have HG := Lib.hid hg
      clear hrs hg
      go_wp2
      go_ret
      exact ⟨_, rfl, HRS.out, HG.out⟩
end Go.Proofs.Ytmbikmlknbinpaa
namespace Go.Proofs.Ytmbikmlknbinpaa.L
open M

/-- An element of the field. -/
structure Fb where
  n : Nat
  lt : n < 256
theorem Fb.ext {a b : Fb} (h : a.n = b.n) : a = b := by
  cases a
  cases b
  simp at h
  subst h
  rfl
def zero : Fb := ⟨0, by decide⟩
def one : Fb := ⟨1, by decide⟩
def add (a b : Fb) : Fb := ⟨a.n ^^^ b.n, xor_lt a.lt b.lt⟩
def mul (a b : Fb) : Fb := ⟨mulN a.n b.n, mulN_lt _ _⟩
def inv (a : Fb) : Fb := ⟨invN a.n, invN_lt _⟩
theorem add_comm (a b : Fb) : add a b = add b a := Fb.ext (Nat.xor_comm _ _)
theorem add_assoc (a b c : Fb) : add (add a b) c = add a (add b c) := Fb.ext (Nat.xor_assoc _ _ _)
theorem add_zero (a : Fb) : add a zero = a := Fb.ext (Nat.xor_zero _)
theorem zero_add (a : Fb) : add zero a = a := Fb.ext (Nat.zero_xor _)
theorem add_self (a : Fb) : add a a = zero := Fb.ext (Nat.xor_self _)
theorem add_left_comm (a b c : Fb) : add a (add b c) = add b (add a c) := by rw [← add_assoc, add_comm a, add_assoc]
theorem mul_comm (a b : Fb) : mul a b = mul b a := Fb.ext (mulN_comm _ _)
theorem mul_assoc (a b c : Fb) : mul (mul a b) c = mul a (mul b c) := Fb.ext (mulN_assoc _ _ _)
theorem mul_one (a : Fb) : mul a one = a := Fb.ext (M.mulN_one a.n a.lt)
theorem one_mul (a : Fb) : mul one a = a := by rw [mul_comm, mul_one]
theorem mul_zero (a : Fb) : mul a zero = zero := Fb.ext (M.mulN_zero_right a.n)
theorem zero_mul (a : Fb) : mul zero a = zero := Fb.ext (M.mulN_zero_left a.n)
theorem mul_add (a b c : Fb) : mul a (add b c) = add (mul a b) (mul a c) := Fb.ext (mulN_xor _ _ _ b.lt c.lt)
theorem add_mul (a b c : Fb) : mul (add a b) c = add (mul a c) (mul b c) := by rw [mul_comm, mul_add, mul_comm c, mul_comm c]
theorem mul_inv (a : Fb) (h : a ≠ zero) : mul a (inv a) = one := Fb.ext (M.mulN_inv a.n a.lt (fun c => h (Fb.ext c)))
theorem inv_mul (a : Fb) (h : a ≠ zero) : mul (inv a) a = one := by rw [mul_comm, mul_inv a h]
theorem one_ne : one ≠ zero := by
  intro h
  have := congrArg Fb.n h
  exact absurd this (by decide)
theorem inv_ne (a : Fb) (h : a ≠ zero) : inv a ≠ zero := by
  intro c
  have := mul_inv a h
  rw [c, mul_zero] at this
  exact one_ne this.symm
theorem eq_of_add {a b : Fb} (h : add a b = zero) : a = b := by
  have : add (add a b) b = b := by rw [h, zero_add]
  rw [add_assoc, add_self, add_zero] at this
  exact this
theorem mul_eq_zero {a b : Fb} (h : mul a b = zero) (ha : a ≠ zero) : b = zero := by
  have : mul (inv a) (mul a b) = zero := by rw [h, mul_zero]
  rw [← mul_assoc, inv_mul a ha, one_mul] at this
  exact this

/-! ### Rows as functions of the place -/
abbrev V : Type := Nat → Fb
def vzero : V := fun _ => zero
def vadd (x y : V) : V := fun i => add (x i) (y i)
def smul (c : Fb) (x : V) : V := fun i => mul c (x i)
theorem vadd_comm (x y : V) : vadd x y = vadd y x := funext fun _ => add_comm _ _
theorem vadd_assoc (x y z : V) : vadd (vadd x y) z = vadd x (vadd y z) := funext fun _ => add_assoc _ _ _
theorem vadd_left_comm (x y z : V) : vadd x (vadd y z) = vadd y (vadd x z) := funext fun _ => add_left_comm _ _ _
theorem vadd_zero (x : V) : vadd x vzero = x := funext fun _ => add_zero _
theorem vzero_add (x : V) : vadd vzero x = x := funext fun _ => zero_add _
theorem vadd_self (x : V) : vadd x x = vzero := funext fun _ => add_self _
theorem smul_add (c : Fb) (x y : V) : smul c (vadd x y) = vadd (smul c x) (smul c y) := funext fun _ => mul_add _ _ _
theorem add_smul (c d : Fb) (x : V) : smul (add c d) x = vadd (smul c x) (smul d x) := funext fun _ => add_mul _ _ _
theorem smul_smul (c d : Fb) (x : V) : smul c (smul d x) = smul (mul c d) x := funext fun _ => (mul_assoc _ _ _).symm
theorem one_smul (x : V) : smul one x = x := funext fun _ => one_mul _
theorem zero_smul (x : V) : smul zero x = vzero := funext fun _ => zero_mul _
theorem smul_zero (c : Fb) : smul c vzero = vzero := funext fun _ => mul_zero _

/-- What a list of rows spans. -/
inductive Sp (A : List V) : V → Prop
  | zero : Sp A vzero
  | step (c : Fb) (x : V) (v : V) (hx : x ∈ A) (hv : Sp A v) : Sp A (vadd (smul c x) v)
theorem Sp.mem {A : List V} {x : V} (h : x ∈ A) : Sp A x := by
  have := Sp.step one x vzero h Sp.zero
  rwa [one_smul, vadd_zero] at this
theorem Sp.add {A : List V} {x y : V} (h : Sp A x) (h' : Sp A y) : Sp A (vadd x y) := by
  induction h with
  | zero => rwa [vzero_add]
  | step c x v hx _ ih => rw [vadd_assoc]; exact Sp.step c x _ hx ih
theorem Sp.smul {A : List V} {x : V} (c : Fb) (h : Sp A x) : Sp A (L.smul c x) := by
  induction h with
  | zero => rw [smul_zero]; exact Sp.zero
  | step d x v hx _ ih => rw [smul_add, smul_smul]; exact Sp.step _ x _ hx ih
theorem Sp.trans {A B : List V} (h : ∀ x ∈ A, Sp B x) {v : V} (hv : Sp A v) : Sp B v := by
  induction hv with
  | zero => exact Sp.zero
  | step c x v hx _ ih => exact Sp.add (Sp.smul c (h x hx)) ih
theorem Sp.mono {A B : List V} (h : ∀ x ∈ A, x ∈ B) {v : V} (hv : Sp A v) : Sp B v := Sp.trans (fun x hx => Sp.mem (h x hx)) hv
/-- Two lists span the same. -/
def Same (A B : List V) : Prop := ∀ v, Sp A v ↔ Sp B v
theorem Same.of {A B : List V} (h : ∀ x ∈ A, Sp B x) (h' : ∀ x ∈ B, Sp A x) : Same A B := fun _ => ⟨Sp.trans h, Sp.trans h'⟩
theorem Same.refl (A : List V) : Same A A := fun _ => Iff.rfl
theorem Same.symm {A B : List V} (h : Same A B) : Same B A := fun v => (h v).symm
theorem Same.trans {A B C : List V} (h : Same A B) (h' : Same B C) : Same A C := fun v => (h v).trans (h' v)
theorem Same.of_mem {A B : List V} (h : ∀ x, x ∈ A ↔ x ∈ B) : Same A B := Same.of (fun x hx => Sp.mem ((h x).1 hx)) (fun x hx => Sp.mem ((h x).2 hx))
/-- What vanishes at a place on all rows vanishes there on all that is spanned. -/
theorem Sp.at_zero {A : List V} {k : Nat} (h : ∀ x ∈ A, x k = L.zero) {v : V} (hv : Sp A v) : v k = L.zero := by
  induction hv with
  | zero => rfl
  | step c x v hx _ ih =>
    show L.add (L.mul c (x k)) (v k) = L.zero
    rw [h x hx, ih, mul_zero, add_zero]

/-! ### Reduced rows: each with the place where it begins -/
structure Rref (R : List (Nat × V)) : Prop where
  sorted : R.Pairwise fun a b => a.1 < b.1
  lead : ∀ p x, (p, x) ∈ R → x p = one
  ahead : ∀ p x, (p, x) ∈ R → ∀ k, k < p → x k = zero
  apart : ∀ p x q y, (p, x) ∈ R → (q, y) ∈ R → p ≠ q → x q = zero
def rows (R : List (Nat × V)) : List V := R.map (·.2)
/-- The sum of the rows, each times what v has where it begins. -/
def pick (v : V) : List (Nat × V) → V
  | [] => vzero
  | (p, x) :: R => vadd (smul (v p) x) (pick v R)
theorem pick_add (v w : V) : ∀ R, pick (vadd v w) R = vadd (pick v R) (pick w R)
  | [] => (vadd_zero _).symm
  | (p, x) :: R => by
    simp only [pick]
    rw [pick_add v w R, show vadd v w p = add (v p) (w p) from rfl, add_smul, vadd_assoc, vadd_assoc, vadd_left_comm (smul (w p) x)]
theorem pick_smul (c : Fb) (v : V) : ∀ R, pick (smul c v) R = smul c (pick v R)
  | [] => (smul_zero c).symm
  | (p, x) :: R => by
    simp only [pick]
    rw [pick_smul c v R, smul_add, smul_smul]
    rfl
theorem pick_none (v : V) : ∀ R, (∀ p x, (p, x) ∈ R → v p = zero) → pick v R = vzero
  | [], _ => rfl
  | (p, x) :: R, h => by
    simp only [pick]
    rw [h p x (by simp), zero_smul, vzero_add, pick_none v R (fun q y hq => h q y (by simp [hq]))]
theorem Rref.tail {a : Nat × V} {R : List (Nat × V)} (h : Rref (a :: R)) : Rref R :=
  ⟨(List.pairwise_cons.1 h.sorted).2, fun p x hx => h.lead p x (by simp [hx]), fun p x hx => h.ahead p x (by simp [hx]), fun p x q y hx hy => h.apart p x q y (by simp [hx]) (by simp [hy])⟩
theorem Rref.uniq_place {R : List (Nat × V)} (h : Rref R) {p : Nat} {x y : V} (hx : (p, x) ∈ R) (hy : (p, y) ∈ R) : x = y := by
  induction R with
  | nil => cases hx
  | cons a R ih =>
    have hs := (List.pairwise_cons.1 h.sorted).1
    rcases List.mem_cons.1 hx with rfl | hx'
    · rcases List.mem_cons.1 hy with e | hy'
      · exact (Prod.mk.inj e).2.symm
      · exact absurd (hs _ hy') (Nat.lt_irrefl _)
    · rcases List.mem_cons.1 hy with rfl | hy'
      · exact absurd (hs _ hx') (Nat.lt_irrefl _)
      · exact ih h.tail hx' hy'
/-- A row of the list is what it picks. -/
theorem pick_none_of (v : V) : ∀ S : List (Nat × V), (∀ q y, (q, y) ∈ S → v q = zero) → pick v S = vzero := pick_none v
theorem pick_row {R : List (Nat × V)} (h : Rref R) {p : Nat} {x : V} (hx : (p, x) ∈ R) : pick x R = x := by
  have key : ∀ S : List (Nat × V), (∀ a ∈ S, a ∈ R) → S.Pairwise (fun a b => a.1 < b.1) → ((p, x) ∈ S → pick x S = x) ∧ ((p, x) ∉ S → pick x S = vzero) := by
    intro S
    induction S with
    | nil => intro _ _; exact ⟨fun c => absurd c (by simp), fun _ => rfl⟩
    | cons a S ih =>
      obtain ⟨q, y⟩ := a
      intro hS hP
      have hP' := List.pairwise_cons.1 hP
      have i := ih (fun a ha => hS a (by simp [ha])) hP'.2
      have hy := hS (q, y) (by simp)
      simp only [pick]
      by_cases e : q = p
      · subst e
        obtain rfl := h.uniq_place hy hx
        have hn : (q, y) ∉ S := fun c => absurd (hP'.1 _ c) (Nat.lt_irrefl _)
        rw [i.2 hn, h.lead q y hy, one_smul, vadd_zero]
        exact ⟨fun _ => rfl, fun c => absurd (by simp) c⟩
      · rw [h.apart p x q y hx hy (fun c => e c.symm), zero_smul, vzero_add]
        have hne : (p, x) ≠ (q, y) := fun c => e (Prod.mk.inj c).1.symm
        refine ⟨fun c => i.1 ?_, fun c => i.2 fun c' => c (List.mem_cons_of_mem _ c')⟩
        rcases List.mem_cons.1 c with c | c
        · exact absurd c hne
        · exact c
  exact (key R (fun _ h => h) h.sorted).1 hx
/-- All that is spanned is what it picks. -/
theorem pick_span {R : List (Nat × V)} (h : Rref R) {v : V} (hv : Sp (rows R) v) : pick v R = v := by
  induction hv with
  | zero => exact pick_none _ _ fun _ _ _ => rfl
  | step c x v hx _ ih =>
    obtain ⟨⟨p, x'⟩, hm, rfl⟩ := List.mem_map.1 hx
    rw [pick_add, pick_smul, pick_row h hm, ih]
theorem span_zero {R : List (Nat × V)} (h : Rref R) {v : V} (hv : Sp (rows R) v) (h0 : ∀ p x, (p, x) ∈ R → v p = zero) : v = vzero := by
  rw [← pick_span h hv, pick_none v R h0]
/-- v begins at k. -/
def Begins (v : V) (k : Nat) : Prop := v k ≠ zero ∧ ∀ j, j < k → v j = zero
/-- What is spanned begins where a row begins. -/
theorem begins_at {R : List (Nat × V)} (h : Rref R) {v : V} (hv : Sp (rows R) v) {k : Nat} (hk : Begins v k) : ∃ x, (k, x) ∈ R := by
  have key : ∀ S : List (Nat × V), (∀ a ∈ S, a ∈ R) → S.Pairwise (fun a b => a.1 < b.1) → (∀ q y, (q, y) ∈ R → (q, y) ∉ S → v q = zero) → ∃ x, (k, x) ∈ R := by
    intro S
    induction S with
    | nil =>
      intro _ _ h0
      have := span_zero h hv (fun p x hx => h0 p x hx (by simp))
      rw [this] at hk
      exact absurd rfl hk.1
    | cons a S ih =>
      obtain ⟨q, y⟩ := a
      intro hS hP h0
      have hP' := List.pairwise_cons.1 hP
      have hy := hS (q, y) (by simp)
      by_cases hz : v q = zero
      · refine ih (fun a ha => hS a (by simp [ha])) hP'.2 (fun p x hx hn => ?_)
        by_cases e : (p, x) = (q, y)
        · obtain ⟨rfl, rfl⟩ := Prod.mk.inj e
          exact hz
        · exact h0 p x hx (by simp [e, hn])
      · have hkq : k ≤ q := by
          by_cases c : q < k
          · exact absurd (hk.2 q c) hz
          · omega
        by_cases e : k = q
        · subst e
          exact ⟨y, hy⟩
        · exfalso
          have hv2 := pick_span h hv
          have : v k = zero := by
            have hall : ∀ T : List (Nat × V), (∀ a ∈ T, a ∈ R) → pick v T k = zero := by
              intro T
              induction T with
              | nil => intro _; rfl
              | cons b T ihT =>
                obtain ⟨p, x⟩ := b
                intro hT
                have hx := hT (p, x) (by simp)
                show add (mul (v p) (x k)) (pick v T k) = zero
                rw [ihT (fun a ha => hT a (by simp [ha])), add_zero]
                by_cases c : k < p
                · rw [h.ahead p x hx k c, mul_zero]
                · by_cases c2 : p = k
                  · subst c2
                    have hm : (p, x) ∉ (q, y) :: S := by
                      intro c3
                      rcases List.mem_cons.1 c3 with c4 | c4
                      · exact e (Prod.mk.inj c4).1
                      · have := hP'.1 _ c4
                        simp at this
                        omega
                    rw [h0 p x hx hm, zero_mul]
                  · have : v p = zero := hk.2 p (by omega)
                    rw [this, zero_mul]
            rw [← hv2]
            exact hall R (fun _ h => h)
          exact hk.1 this
  exact key R (fun _ h => h) h.sorted (fun q y hq hn => absurd hq hn)
theorem lead_begins {R : List (Nat × V)} (h : Rref R) {p : Nat} {x : V} (hx : (p, x) ∈ R) : Begins x p :=
  ⟨by rw [h.lead p x hx]; exact one_ne, h.ahead p x hx⟩
theorem sorted_ext : ∀ (a b : List (Nat × V)), a.Pairwise (fun x y => x.1 < y.1) → b.Pairwise (fun x y => x.1 < y.1) → (∀ p x, (p, x) ∈ a ↔ (p, x) ∈ b) → a = b
  | [], [], _, _, _ => rfl
  | [], (p, x) :: b, _, _, h => absurd ((h p x).2 (by simp)) (by simp)
  | (p, x) :: a, [], _, _, h => absurd ((h p x).1 (by simp)) (by simp)
  | (p, x) :: a, (q, y) :: b, ha, hb, h => by
    have ha' := List.pairwise_cons.1 ha
    have hb' := List.pairwise_cons.1 hb
    have e : (p, x) = (q, y) := by
      rcases List.mem_cons.1 ((h p x).1 (by simp)) with c | c
      · exact c
      · rcases List.mem_cons.1 ((h q y).2 (by simp)) with c2 | c2
        · exact c2.symm
        · have h1 := hb'.1 _ c
          have h2 := ha'.1 _ c2
          simp at h1 h2
          omega
    obtain ⟨rfl, rfl⟩ := Prod.mk.inj e
    rw [sorted_ext a b ha'.2 hb'.2 fun r z => by
      constructor
      · intro hr
        rcases List.mem_cons.1 ((h r z).1 (by simp [hr])) with c | c
        · obtain ⟨rfl, rfl⟩ := Prod.mk.inj c
          exact absurd (ha'.1 _ hr) (Nat.lt_irrefl _)
        · exact c
      · intro hr
        rcases List.mem_cons.1 ((h r z).2 (by simp [hr])) with c | c
        · obtain ⟨rfl, rfl⟩ := Prod.mk.inj c
          exact absurd (hb'.1 _ hr) (Nat.lt_irrefl _)
        · exact c]
/-- There is just one list of reduced rows for what is spanned. -/
theorem rref_unique {R S : List (Nat × V)} (hR : Rref R) (hS : Rref S) (h : Same (rows R) (rows S)) : R = S := by
  have one_way : ∀ {R S : List (Nat × V)}, Rref R → Rref S → Same (rows R) (rows S) → ∀ p x, (p, x) ∈ R → (p, x) ∈ S := by
    intro R S hR hS h p x hx
    have hxs : Sp (rows R) x := Sp.mem (List.mem_map.2 ⟨(p, x), hx, rfl⟩)
    obtain ⟨y, hy⟩ := begins_at hS ((h x).1 hxs) (lead_begins hR hx)
    have hys : Sp (rows R) y := (h y).2 (Sp.mem (List.mem_map.2 ⟨(p, y), hy, rfl⟩))
    have hd : vadd x y = vzero := by
      refine span_zero hR (Sp.add hxs hys) fun q z hz => ?_
      show add (x q) (y q) = zero
      by_cases e : p = q
      · subst e
        rw [hR.lead p x hx, hS.lead p y hy, add_self]
      · rw [hR.apart p x q z hx hz e]
        obtain ⟨z', hz'⟩ := begins_at hS ((h z).1 (Sp.mem (List.mem_map.2 ⟨(q, z), hz, rfl⟩))) (lead_begins hR hz)
        rw [hS.apart p y q z' hy hz' e, add_self]
    have : x = y := funext fun i => eq_of_add (congrFun hd i)
    rw [this]
    exact hy
  exact sorted_ext R S hR.sorted hS.sorted fun p x => ⟨one_way hR hS h p x, one_way hS hR h.symm p x⟩
end Go.Proofs.Ytmbikmlknbinpaa.L
