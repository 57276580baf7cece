/-
  Slices of rows as lists of lists: what reads as such, and the verifier's comparison of two.
-/
import Derived.Test.YtocigdcbfbnfoaaCp
namespace Go.Proofs.Ytocigdcbfbnfoaa
open Go.RowKit

/-- v is a slice of slices of bytes that reads as L in w. -/
def Bss (w : World) (v : Value) (L : List (List Int)) : Prop :=
  ∃ oa c, v = .slice oa L.length c ∧ L.length ≤ c ∧ c ≤ 9223372036854775807 ∧ (oa = none → c = 0) ∧ ∀ a, oa = some a → ∀ i, i < L.length → ∃ u, w.cell? (a.add i) = some u ∧ Bs w u (L.getD i [])
theorem Bss.nil (w : World) : Bss w (.slice none 0 0) [] := ⟨none, 0, rfl, by simp, by omega, fun _ => rfl, fun a h => by cases h⟩
theorem Bss.grown {w w' : World} {v : Value} {L : List (List Int)} (h : Bss w v L) (hg : Gr w w') : Bss w' v L := by
  obtain ⟨oa, c, h1, h2, h3, h4, h5⟩ := h
  refine ⟨oa, c, h1, h2, h3, h4, fun a ha i hi => ?_⟩
  obtain ⟨u, hu, hb⟩ := h5 a ha i hi
  exact ⟨u, cell_grown hg hu, Bs.grown hb hg⟩
theorem Bss.at {w : World} {v : Value} {L : List (List Int)} (h : Bss w v L) (hl : 0 < L.length) :
    ∃ a c, v = .slice (some a) L.length c ∧ L.length ≤ c ∧ c ≤ 9223372036854775807 ∧ ∀ i, i < L.length → ∃ u, w.cell? (a.add i) = some u ∧ Bs w u (L.getD i []) := by
  obtain ⟨oa, c, h1, h2, h3, h4, h5⟩ := h
  cases oa with
  | none => exact absurd (h4 rfl) (by omega)
  | some a => exact ⟨a, c, h1, h2, h3, h5 a rfl⟩
theorem eq_of_getL {x y : List (List Int)} (hl : y.length = x.length) (h : ∀ j, j < x.length → x.getD j [] = y.getD j []) : x = y := by
  apply List.ext_getElem hl.symm
  intro j h1 h2
  have := h j h1
  rw [List.getD_eq_getElem?_getD, List.getD_eq_getElem?_getD, List.getElem?_eq_getElem h1, List.getElem?_eq_getElem h2] at this
  simpa using this

theorem Two.gr {wr w1 : World} {P Q : Prop} (h : P ∧ Q ∧ Hid (Gr wr w1)) : Gr wr w1 := h.2.2.out
theorem Two.keep {wr w1 w2 : World} {a b : Addr} {u v : Value} (h : w1.cell? a = some u ∧ w1.cell? b = some v ∧ Hid (Gr wr w1)) (hg : Gr w1 w2) : w2.cell? a = some u ∧ w2.cell? b = some v ∧ Hid (Gr wr w2) :=
  ⟨cell_grown hg h.1, cell_grown hg h.2.1, Lib.hid (Gr.trans h.2.2.out hg)⟩
set_option maxHeartbeats 400000 in
theorem rows_core (a b : Addr) (n ca cb : Nat) (A B : List (List Int)) (w : World) (hn : A.length = n) (hl : B.length = n) (hx : n ≤ ca) (hy : n ≤ cb) (hm : ca ≤ 9223372036854775807)
    (hxc : ∀ i, i < n → ∃ u, w.cell? (a.add i) = some u ∧ Bs w u (A.getD i [])) (hyc : ∀ i, i < n → ∃ u, w.cell? (b.add i) = some u ∧ Bs w u (B.getD i [])) :
    Calls Try.prog 12 #[.slice (some a) n ca, .slice (some b) n cb] w fun e w' => e = .returned (.bool (A == B)) ∧ Gr w w' := by
  have HX := Lib.hid hxc
  have HY := Lib.hid hyc
  have HL := Lib.hid hl
  have HN := Lib.hid hn
  clear hxc hyc hl hn
  go_enter Try.func12, Try.ntmps12
  go_wp2
  go_loopw [13] (fun i wr => ∃ k : Nat, k ≤ n ∧ i = .int .i64 k ∧ Gr w wr ∧ (∀ j, j < k → A.getD j [] = B.getD j [])) (fun i _ => n - (intOf i).toNat)
  case atStart => exact ⟨0, by omega, rfl, Gr.refl _, by omega⟩
  case round =>
    obtain ⟨k, hk, rfl, hg, hs⟩ := hrel
    have HS := Lib.hid hs
    have G := Lib.hid hg
    clear hs hg
    by_cases hlt : k < n
    · obtain ⟨u, h1, hu⟩ := HX.out k hlt
      obtain ⟨v, h2, hv⟩ := HY.out k hlt
      have q1 := cell_grown G.out h1
      have q2 := cell_grown G.out h2
      have U := Lib.hid (Bs.grown hu G.out)
      have V := Lib.hid (Bs.grown hv G.out)
      obtain ⟨p, hp⟩ : ∃ p, A.getD k [] = p := ⟨_, rfl⟩
      obtain ⟨q, hq⟩ : ∃ q, B.getD k [] = q := ⟨_, rfl⟩
      rw [hp] at U
      rw [hq] at V
      have HP := Lib.hid hp
      have HQ := Lib.hid hq
      clear hp hq h1 h2 hu hv
      go_wp2
      go_region_held3 (fun W => W.cell? (a.add k) = some u ∧ W.cell? (b.add k) = some v ∧ Hid (Gr wr W)) (first | exact ⟨q1, q2, Lib.hid (Gr.refl _)⟩ | exact Two.keep (by assumption) hg | exact Two.keep (by assumption) (Gr.drew (Gr.refl _)) | go_keep)
        (first | (go_at_call 22; refine (same_any u v p q _ (Bs.grown U.out (Two.gr (by assumption))) (Bs.grown V.out (Two.gr (by assumption)))).mono ?_; rintro e w' ⟨rfl, hg⟩))
      have hZ := Lib.hid (Two.gr (wr := wr) (by assumption))
      obtain ⟨bb, hbb⟩ : ∃ bb, (p == q) = bb := ⟨_, rfl⟩
      rw [hbb]
      have HE := Lib.hid hbb
      clear hbb
      cases bb with
      | true =>
        have he : p = q := by simpa using HE.out
        go_wp2
        refine ⟨⟨k + 1, by omega, by go_num, Gr.trans G.out hZ.out, fun j hj => ?_⟩, by simp [intOf]; omega⟩
        by_cases e : j = k
        · rw [e, HP.out, HQ.out, he]
        · exact HS.out j (by omega)
      | false =>
        go_wp2
        go_ret
        have hne : (A == B) = false := by
          rw [beq_eq_false_iff_ne]
          intro c
          have h3 : p ≠ q := by simpa using HE.out
          apply h3
          rw [← HP.out, ← HQ.out, c]
        exact ⟨by rw [hne]; rfl, Gr.trans G.out hZ.out⟩
    · obtain rfl : k = n := by omega
      go_wp2
      go_ret
      have he : A = B := eq_of_getL (by rw [HL.out, HN.out]) (fun j hj => HS.out j (by rw [HN.out] at hj; exact hj))
      exact ⟨by rw [he]; simp, G.out⟩
set_option maxHeartbeats 400000 in
theorem rows_any (va vb : Value) (A B : List (List Int)) (w : World) (ha : Bss w va A) (hb : Bss w vb B) :
    Calls Try.prog 12 #[va, vb] w fun e w' => e = .returned (.bool (A == B)) ∧ Gr w w' := by
  by_cases hl : B.length = A.length
  · by_cases h0 : 0 < A.length
    · obtain ⟨a, ca, rfl, h1, h2, h3⟩ := Bss.at ha h0
      obtain ⟨b, cb, rfl, h4, h5, h6⟩ := Bss.at hb (by omega)
      rw [hl]
      rw [hl] at h4 h6
      exact rows_core a b A.length ca cb A B w rfl hl h1 h4 h2 h3 h6
    · obtain rfl : A = [] := List.eq_nil_of_length_eq_zero (by omega)
      obtain rfl : B = [] := List.eq_nil_of_length_eq_zero (by simpa using hl)
      obtain ⟨oa, ca, rfl, _, _, _, _⟩ := ha
      obtain ⟨ob, cb, rfl, _, _, _, _⟩ := hb
      go_enter Try.func12, Try.ntmps12
      go_wp2
      go_loopw [13] (fun i wr => i = .int .i64 0 ∧ wr = w) (fun _ _ => 0)
      case atStart => exact ⟨rfl, rfl⟩
      case round =>
        obtain ⟨rfl, rfl⟩ := hrel
        go_wp2
        go_ret
        exact ⟨rfl, Gr.refl _⟩
  · have hne : (A == B) = false := by
      rw [beq_eq_false_iff_ne]
      intro c
      rw [c] at hl
      exact hl rfl
    obtain ⟨oa, ca, rfl, h1, h2, _, _⟩ := ha
    obtain ⟨ob, cb, rfl, h3, h4, _, _⟩ := hb
    rw [hne]
    generalize A.length = n at *
    generalize B.length = m at *
    have ht : ((n : Int) != m) = true := by simp; omega
    go_enter Try.func12, Try.ntmps12
    go_wp2
    go_ret
    exact ⟨rfl, Gr.refl _⟩
end Go.Proofs.Ytocigdcbfbnfoaa
