/-
  The verifier's copies of rows.
-/
import Derived.Test.YtgbdhdjcjilooaaMy
namespace Go.Proofs.Ytgbdhdjcjilooaa
open Go.RowKit

theorem New.rb {w w' : World} {v : Value} {l : List Int} (h : New w w' v l) (base : Nat) : Rb base w' v := by
  intro a n c hv hn
  obtain ⟨_, _, ⟨rfl, oa, c', rfl, _⟩ | ⟨g, c', cur, rfl, _, h2, _⟩⟩ := h
  · cases hv
    omega
  · cases hv
    exact .inr ⟨cur, h2⟩
theorem _root_.Go.World.ownsRow.of_gr {w w' : World} {base : Nat} {e : TypeId} {size : Nat} {v : Value} {n : Nat} {xs : List Value} (h : w.ownsRow base e size v n xs) (hg : Gr w w') : w'.ownsRow base e size v n xs := by
  obtain ⟨h0, h1 | ⟨g, c, cur, rfl, hb, hgg, h2⟩⟩ := h
  · exact ⟨h0, .inl h1⟩
  · exact ⟨h0, .inr ⟨g, c, cur, rfl, hb, keptRow hg hgg, h2⟩⟩
set_option maxRecDepth 100000 in
set_option maxHeartbeats 1600000 in
theorem copies_any (va : Value) (L : List (List Int)) (w : World) (h : Bss w va L) (hl : L.length ≤ 1000) (hr : ∀ i, i < L.length → (L.getD i []).length ≤ 1000) :
    Calls Try.prog 20 #[va] w fun e w' => ∃ v, e = .returned v ∧ Rws w.heap.size w' v L ∧ Gr w w' := by
  obtain ⟨i0, hi0, hz0, hz1, hz2⟩ := info_parts info22
  have I0 := Lib.hid hi0
  have I1 := Lib.hid hz0
  have I2 := Lib.hid hz1
  have I3 := Lib.hid hz2
  have HR := Lib.hid hr
  obtain ⟨oa, c, rfl, h1, h2, h3, h4⟩ := h
  have HA := Lib.hid h4
  generalize hn : L.length = n at *
  have HN := Lib.hid hn
  have hoa : n = 0 ∨ ∃ a, oa = some a := by
    cases oa with
    | none => exact .inl (by have := h3 rfl; omega)
    | some a => exact .inr ⟨a, rfl⟩
  clear hi0 hz0 hz1 hz2 hr h3 h4 hn
  go_enter Try.func20, Try.ntmps20
  go_wp2
  go_loopw [3, 8] (fun o i wr => ∃ k : Nat, k ≤ n ∧ i = .int .i64 k ∧ Rws w.heap.size wr o (L.take k) ∧ Gr w wr) (fun _ i _ => n - (intOf i).toNat)
  case atStart => exact ⟨0, by omega, rfl, Rws.nil _ _, Gr.refl _⟩
  case round =>
    obtain ⟨k, hk, rfl, hrs, hg⟩ := hrel
    by_cases hlt : k < n
    · obtain ⟨a, rfl⟩ : ∃ a, oa = some a := by
        rcases hoa with c1 | c1
        · omega
        · exact c1
      obtain ⟨u, q0, hu⟩ := HA.out a rfl k hlt
      have q1 := cell_grown hg q0
      have hlk : (L.take k).length = k := by rw [List.length_take, HN.out]; omega
      obtain ⟨us, ho, hr⟩ := hrs
      obtain ⟨oo, co, rfl⟩ := ownsRow_form ho
      obtain ⟨ou, cu, rfl⟩ := hu.form
      have hm := HR.out k hlt
      obtain ⟨p, hp⟩ : ∃ p, (L.getD k []).length = p := ⟨_, rfl⟩
      rw [hp] at q1 hu hm
      rw [hlk] at ho hr ⊢
      have HU := Lib.hid (Bs.grown hu hg)
      have HO := Lib.hid ho
      have HRR := Lib.hid hr
      have HG := Lib.hid hg
      have HP := Lib.hid hp
      have HLK := Lib.hid hlk
      clear hu ho hr hg hp q0 hlk
      go_wp2_with (first
        | (go_at_call 37; refine (copy_any ou p cu (L.getD k []) _ HP.out (by omega) HU.out).mono ?_; rintro e w1 ⟨g1, rfl, hg1, hnw⟩; have HW := Lib.hid hnw; clear hnw)
        | (at_builtin; refine wpList_append_lies _ rfl _ _ _ rfl w.heap.size 22 i0 _ 1 24 Try.underlying24 I0.out I1.out I2.out I3.out rfl (by omega) (.slice oo k co) k us rfl (((HO.out.of_gr HW.out.1)).alloc _)
              ⟨w1.heap.size, 0, none⟩ 1 1 [.slice (some ⟨g1, 0, none⟩) p (p + 2)] rfl rfl (World.news_of_block (cs := #[.slice (some ⟨g1, 0, none⟩) p (p + 2)]) (t := 22) (fr := (0, 0)) (heap_alloc_new w1 _)) (by simp [Value.oneCell'])
              (by omega) (by unfold maxLen; omega) (by omega) (by have := HG.out.size; have := HW.out.1.size; simp; omega) (w1.heap.size + 1) (by simp) ?_; intro gg cap w2 hown1 hgrow hat hlt2))
      have hg1w : Gr wr (w1.alloc (.cells #[.slice (some ⟨g1, 0, none⟩) p (p + 2)] 22)) := Gr.alloc HW.out.1 _ _
      have hgw1 : Gr w1 (w1.alloc (.cells #[.slice (some ⟨g1, 0, none⟩) p (p + 2)] 22)) := Gr.alloc (Gr.refl _) _ _
      have hrow : ∀ g, (Value.slice oo k co).ownBlock = some g → w.heap.size ≤ g := fun g hg => (ownsRow_not_bytes HO.out g hg).1
      have hnb := Rb.gr (New.bs HW.out) (New.rb HW.out w.heap.size) hgw1
      have hap := Rws.append (L := L.take k) (l := L.getD k []) (by rw [HLK.out]; exact (HO.out.of_gr HW.out.1).alloc _) (fun i hi => Rb.gr (HRR.out i (by rwa [HLK.out] at hi)).1 (HRR.out i (by rwa [HLK.out] at hi)).2 hg1w)
        hnb.1 hnb.2 (by rw [HLK.out]; exact hown1) hgrow
      have htk : L.take k ++ [L.getD k []] = L.take (k + 1) := by
        rw [List.take_add_one, List.getD_eq_getElem?_getD, List.getElem?_eq_getElem (by rw [HN.out]; exact hlt)]
        rfl
      rw [htk] at hap
      have hgr := Gr.append (Gr.trans HG.out hg1w) hgrow hrow
      exact ⟨⟨k + 1, by omega, by go_num, hap, hgr⟩, by simp [intOf]; omega⟩
    · obtain rfl : k = n := by omega
      rw [List.take_of_length_le (by rw [HN.out]; omega)] at hrs
      have HRS := Lib.hid hrs
      have HG := Lib.hid hg
      clear hrs hg
      go_wp2
      go_ret
      exact ⟨_, rfl, HRS.out, HG.out⟩
end Go.Proofs.Ytgbdhdjcjilooaa
