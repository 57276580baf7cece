/-
  The document's own answers on matrices: whether rows may be one; the verifier's copies of rows.
-/
import Derived.Test.YtmeojdnalhaooaaEv
namespace Go.Proofs.Ytmeojdnalhaooaa
open Go.RowKit

def mayL (L : List (List Int)) : Bool := L.all fun r => r.length == (L.getD 0 []).length && decide (r.length ≤ 64)
theorem mayL_false {L : List (List Int)} (i : Nat) (hi : i < L.length) (h : ¬ ((L.getD i []).length = (L.getD 0 []).length ∧ (L.getD i []).length ≤ 64)) : mayL L = false := by
  rw [← Bool.not_eq_true]
  intro c
  unfold mayL at c
  rw [List.all_eq_true] at c
  have := c (L.getD i []) (by rw [List.getD_eq_getElem?_getD, List.getElem?_eq_getElem hi]; exact List.getElem_mem hi)
  simp at this
  exact h (by simpa using this)
theorem mayL_true {L : List (List Int)} (h : ∀ i, i < L.length → (L.getD i []).length = (L.getD 0 []).length ∧ (L.getD i []).length ≤ 64) : mayL L = true := by
  unfold mayL
  rw [List.all_eq_true]
  intro r hr
  obtain ⟨i, hi, rfl⟩ := List.getElem_of_mem hr
  have := h i hi
  rw [List.getD_eq_getElem?_getD, List.getElem?_eq_getElem hi] at this
  simpa using this
theorem mayL_at {L : List (List Int)} (h : mayL L = true) (i : Nat) (hi : i < L.length) : (L.getD i []).length = (L.getD 0 []).length ∧ (L.getD i []).length ≤ 64 := by
  unfold mayL at h
  rw [List.all_eq_true] at h
  have := h (L.getD i []) (by rw [List.getD_eq_getElem?_getD, List.getElem?_eq_getElem hi]; exact List.getElem_mem hi)
  simpa using this
theorem Two.drew {w1 : World} {P Q : World → Prop} (h : P w1 ∧ Q w1) (hp : P w1 → P w1.drew) (hq : Q w1 → Q w1.drew) : P w1.drew ∧ Q w1.drew := ⟨hp h.1, hq h.2⟩
set_option maxHeartbeats 400000 in
theorem mayMat_core (a : Addr) (n c : Nat) (L : List (List Int)) (w : World) (hn : L.length = n) (h0 : 0 < n) (hnb : n ≤ 1000000)
    (hc : ∀ i, i < n → ∃ u, w.cell? (a.add i) = some u ∧ Bs w u (L.getD i [])) :
    Calls Try.prog 37 #[.slice (some a) n c] w fun e w' => e = .returned (.bool (mayL L)) ∧ Gr w w' := by
  have HC := Lib.hid hc
  have HN := Lib.hid hn
  clear hc hn
  go_enter Try.func37, Try.ntmps37
  go_wp2
  go_loopw [6] (fun i wr => ∃ k : Nat, k ≤ n ∧ i = .int .i64 k ∧ Gr w wr ∧ ∀ j, j < k → (L.getD j []).length = (L.getD 0 []).length ∧ (L.getD j []).length ≤ 64) (fun i _ => n - (intOf i).toNat)
  case atStart => exact ⟨0, by omega, rfl, Gr.refl _, by omega⟩
  case round =>
    obtain ⟨k, hk, rfl, hg, hs⟩ := hrel
    have HS := Lib.hid hs
    have G := Lib.hid hg
    clear hs hg
    by_cases hlt : k < n
    · obtain ⟨u, h1, hu⟩ := HC.out k hlt
      obtain ⟨v, h2, hv⟩ := HC.out 0 h0
      have q1 := cell_grown G.out h1
      have q2 := cell_grown G.out h2
      rw [show a.add 0 = a from by simp [Addr.add]] at q2
      obtain ⟨ou, cu, rfl⟩ := hu.form
      obtain ⟨ov, cv, rfl⟩ := hv.form
      obtain ⟨p, hp⟩ : ∃ p, (L.getD k []).length = p := ⟨_, rfl⟩
      obtain ⟨q, hq⟩ : ∃ q, (L.getD 0 []).length = q := ⟨_, rfl⟩
      rw [hp] at q1
      rw [hq] at q2
      have HP := Lib.hid hp
      have HQ := Lib.hid hq
      clear hp hq h1 h2 hu hv
      by_cases e1 : p = q
      · by_cases e2 : p ≤ 64
        · subst e1
          go_wp2
          go_quiet (fail)
          have hZ : Hid (Gr wr wr.drew) := Lib.hid (Gr.drew (Gr.refl _))
          go_wp2
          refine ⟨⟨k + 1, by omega, by go_num, Gr.trans G.out hZ.out, fun j hj => ?_⟩, by simp [intOf]; omega⟩
          by_cases e : j = k
          · rw [e, HP.out, HQ.out]
            exact ⟨rfl, e2⟩
          · exact HS.out j (by omega)
        · subst e1
          go_wp2
          go_quiet (fail)
          have hZ : Hid (Gr wr wr.drew) := Lib.hid (Gr.drew (Gr.refl _))
          go_wp2
          go_ret
          exact ⟨by rw [mayL_false k (by rw [HN.out]; exact hlt) (fun c => e2 (by rw [← HP.out]; exact c.2))]; rfl, Gr.trans G.out hZ.out⟩
      · have hne : ((p : Int) != q) = true := by simp; omega
        go_wp2
        go_quiet (fail)
        have hZ : Hid (Gr wr wr.drew) := Lib.hid (Gr.drew (Gr.refl _))
        go_wp2
        go_ret
        exact ⟨by rw [mayL_false k (by rw [HN.out]; exact hlt) (fun c => e1 (by rw [← HP.out, ← HQ.out]; exact c.1))]; rfl, Gr.trans G.out hZ.out⟩
    · obtain rfl : k = n := by omega
      go_wp2
      go_ret
      exact ⟨by rw [mayL_true (fun i hi => HS.out i (by rw [HN.out] at hi; exact hi))]; rfl, G.out⟩
set_option maxHeartbeats 400000 in
theorem mayMat_any (v : Value) (L : List (List Int)) (w : World) (h : Bss w v L) (hn : L.length ≤ 1000000) :
    Calls Try.prog 37 #[v] w fun e w' => e = .returned (.bool (mayL L)) ∧ Gr w w' := by
  by_cases h0 : 0 < L.length
  · obtain ⟨a, c, rfl, _, _, h3⟩ := Bss.at h h0
    exact mayMat_core a L.length c L w rfl h0 hn h3
  · obtain rfl : L = [] := List.eq_nil_of_length_eq_zero (by omega)
    obtain ⟨oa, c, rfl, _, _, _, _⟩ := h
    go_enter Try.func37, Try.ntmps37
    go_wp2
    go_loopw [6] (fun i wr => i = .int .i64 0 ∧ wr = w) (fun _ _ => 0)
    case atStart => exact ⟨rfl, rfl⟩
    case round =>
      obtain ⟨rfl, rfl⟩ := hrel
      go_wp2
      go_ret
      exact ⟨rfl, Gr.refl _⟩
end Go.Proofs.Ytmeojdnalhaooaa
