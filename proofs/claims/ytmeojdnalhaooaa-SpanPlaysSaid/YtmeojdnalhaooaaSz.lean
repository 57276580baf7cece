/-
  Package span as it was written: all of it.
-/
import Derived.Test.YtmeojdnalhaooaaSy
namespace Go.Proofs.Ytmeojdnalhaooaa
open Go.RowKit

set_option maxHeartbeats 400000 in
theorem newNe_any (f : Value) (n : Int) (w : World) (_ : IsF w f) (hn : ¬ (0 ≤ n ∧ n ≤ 64)) :
    Calls Try.prog 7 #[f, .int .i64 n] w fun e w' => e = .returned (.pointer none) ∧ Gr w w' := by
  by_cases h0 : n < 0
  · go_enter Try.func7, Try.ntmps7
    go_wp2
    go_ret
    exact ⟨rfl, Gr.refl _⟩
  · have h1 : 64 < n := by omega
    go_enter Try.func7, Try.ntmps7
    go_wp2
    go_ret
    exact ⟨rfl, Gr.refl _⟩
theorem SAt.gr {w w' : World} {f s : Value} {F : Nat → Prop} {n : Nat} {A : List (List Int)} (h : SAt w f s F n A) (hg : Gr w w') : SAt w' f s F n A := by
  obtain ⟨b, h0, us, Ls, rfl, hs, hB, hn, rfl⟩ := h
  exact ⟨b, h0, us, Ls, rfl, hs.grown hg, hB, hn, rfl⟩
theorem span_ok : SpanOk SAt where
  ptr := fun h => h.ptr
  lt := fun h => h.lt
  keep := fun h hk hf hd => h.keep hk hf hd
  new := fun f n w hf hn => (new_span f n w hf hn).mono fun e w' => by
    rintro ⟨b, h, rfl, hs, hg, hb, hh⟩
    refine ⟨_, Fo b h (List.replicate n (.slice none 0 0)), rfl, ⟨b, h, _, _, rfl, hs, Bg.start n, hn, rfl⟩, hg, ?_⟩
    rintro k (rfl | rfl | ⟨u, hu, hk⟩)
    · exact hb
    · exact hh
    · rw [(List.mem_replicate.1 hu).2] at hk
      cases hk
  newNe := newNe_any
  add := fun f s v F n A x w _ h _ hv _ hx => by
    obtain ⟨b, h0, us, Ls, rfl, hs, hB, hn, rfl⟩ := h
    exact add_span f v b h0 n us Ls A x w hs hB hn hv hx
  addNe := fun f s v F n A x w _ h _ hv _ hx => by
    obtain ⟨b, h0, us, Ls, rfl, hs, hB, hn, rfl⟩ := h
    refine (addNe_any b h0 n us Ls v x w hs hv hx).mono ?_
    rintro e w' ⟨rfl, hg⟩
    exact ⟨rfl, ⟨b, h0, us, Ls, rfl, hs.grown hg, hB, hn, rfl⟩, hg.kp _⟩
  has := fun f s v F n A x w _ h _ hv _ => by
    obtain ⟨b, h0, us, Ls, rfl, hs, hB, hn, rfl⟩ := h
    exact has_any b h0 n us Ls A v x w hs hB hn hv
  rest := fun f s v F n A x w _ h _ hv hx => by
    obtain ⟨b, h0, us, Ls, rfl, hs, hB, hn, rfl⟩ := h
    refine (rest_any b h0 n us Ls A v x w hs hB hn hv hx).mono ?_
    rintro e w' ⟨u, y, rfl, hnw, hr⟩
    exact ⟨u, y, rfl, New.bs hnw, hr.rest hB, hnw.1⟩
  restNe := fun f s v F n A x w _ h _ hv _ hx => by
    obtain ⟨b, h0, us, Ls, rfl, hs, hB, hn, rfl⟩ := h
    refine (restNe_any b h0 n us Ls v x w hs hv hx).mono ?_
    rintro e w' ⟨rfl, hg⟩
    exact ⟨_, rfl, Bs.nil _, hg⟩
  rank := fun f s F n A w _ h _ => by
    obtain ⟨b, h0, us, Ls, rfl, hs, hB, hn, rfl⟩ := h
    have hr : rkL A = (rowsOf Ls).length := hB.isRed.rank
    rw [hr]
    exact rank_any b h0 n us Ls w hs hB.len hn
  rows := fun f s F n A w _ h _ => by
    obtain ⟨b, h0, us, Ls, rfl, hs, hB, hn, rfl⟩ := h
    refine (rowsS_any b h0 n us Ls w hs hB.len hn).mono ?_
    rintro e w' ⟨v, rfl, h1, hg⟩
    exact ⟨v, _, rfl, h1, hB.isRed, hg⟩
  clone := fun f s F n A w _ h _ => by
    obtain ⟨b, h0, us, Ls, rfl, hs, hB, hn, rfl⟩ := h
    refine (clone_span b h0 n us Ls w hs hB.len hn).mono ?_
    rintro e w' ⟨b', h', us', rfl, h1, hg, hF⟩
    exact ⟨_, _, rfl, ⟨b', h', us', Ls, rfl, h1, hB, hn, rfl⟩, hg, hF⟩
  addNil := addNil_any
  hasNil := hasNil_any
  restNil := fun v x w hv => by
    refine (restNil_any v x w hv).mono ?_
    rintro e w' ⟨rfl, hg⟩
    exact ⟨_, rfl, Bs.nil _, hg⟩
  rankNil := rankNil_any
  rowsNil := rowsNil_any
  cloneNil := cloneNil_any
end Go.Proofs.Ytmeojdnalhaooaa
