/-
  A record as a law is handed it: eight cells.
-/
import Derived.Test.YtjkfiimlaigdhaaDoorMgi
import Derived.Test.YtjkfiimlaigdhaaDoorIn
import Derived.Lib.SmallJoins
namespace Go.Proofs.YtjkfiimlaigdhaaDoor
open Go.RowKit Go.ChangeShapes Go.WideShapes Go.Joins

theorem read_int {H : Type} {enc : TypeId × Value → H} {P : Program} {w : World} {base : Nat} {spare : Nat → Bool} {held : Bool} {t : TypeId} {k : IntKind} {fuel : Nat} {v : Value} {y : Option (DataW H × List MemPlace)} (ht : P.underlying t = some (.int k))
    (h : DataW.trod enc P w base spare held fuel t [v] = y) (hy : y.isSome = true) : ∃ z, v = .int k z ∧ (Lit.int k z).wf = true := by
  obtain ⟨q, hq⟩ := Option.isSome_iff_exists.1 hy
  rw [hq] at h
  obtain ⟨z, e, _, hw⟩ := DataW.trod_int ht h
  simp at e
  exact ⟨z, e, hw⟩
theorem some_at {α : Type} {l : List α} {n i : Nat} (h : l.length = n) (hi : i < n) : (l[i]?).isSome = true := by
  rw [List.getElem?_eq_getElem (by omega)]
  rfl
/-- A record by value, with what its bytes read as. -/
def RcP (w : World) (v : Value) (z : Rcd × List Int) : Prop := ∃ u, v = z.1.val u ∧ Bs w u z.2 ∧ z.1.Fit
theorem bs_trodR {H : Type} {enc : TypeId × Value → H} {w : World} {base : Nat} {held : Bool} {fuel : Nat} {v : Value} {y : Option (DataW H × List MemPlace)}
    (h : DataW.trod enc Tryd.prog w base (fun _ => true) held fuel 25 [v] = y) (hy : y.isSome = true) : ∃ l, Bs w v l := by
  obtain ⟨q, hq⟩ := Option.isSome_iff_exists.1 hy
  rw [hq] at h
  rcases open_ints Tryd.underlying25 Tryd.underlying5 (by kernel_rfl) h with ⟨hcs, _⟩ | ⟨a, l, c, zs, hcs, _, hl, hm, hz, _, hcell, hwz⟩
  · simp at hcs
    subst hcs
    exact ⟨[], Bs.nil w⟩
  · simp at hcs
    subst hcs
    exact ⟨_, (Bs.of_in (.inr ⟨a, rfl, hl, hm, by simpa using hz, hcell, hwz⟩)).1⟩
set_option maxRecDepth 100000 in
theorem open_rec {H : Type} {enc : TypeId × Value → H} {w : World} {base b0 : Nat} {held : Bool} {r : Reach} {v : Value} {d : DataW H} {p : List MemPlace}
    (hv : Value.okWide Tryd.prog w r b0 27 v) (h : DataW.Trod enc Tryd.prog w base (fun _ => true) held 27 v d p) : ∃ z, RcP w v z := by
  have hC : Tryd.prog.cellsOf 27 = 8 := by kernel_rfl
  have hC3 : Tryd.prog.cellsOf 23 = 3 := by kernel_rfl
  have hC1 : Tryd.prog.cellsOf 3 = 1 := by kernel_rfl
  have hCu : Tryd.prog.cellsOf 24 = 1 := by kernel_rfl
  have hCb : Tryd.prog.cellsOf 25 = 1 := by kernel_rfl
  obtain ⟨cs, rfl, hsz⟩ := okWide_struct Tryd.underlying27 hv
  obtain ⟨l⟩ := cs
  match l, hsz.trans hC with
  | [c0, c1, c2, c3, c4, c5, c6, c7], _ =>
    obtain ⟨fuel, hf⟩ := h
    obtain ⟨xs, n, _, hx, _, hlen, hg⟩ := DataW.trod_struct Tryd.underlying27 hf
    have g0 : DataW.trod enc Tryd.prog w base (fun _ => true) held n 3 ((List.drop 0 [c0, c1, c2, c3, c4, c5, c6, c7]).take (Tryd.prog.cellsOf 3)) = xs[0]? := hg 0 _ rfl
    rw [hC1] at g0
    have g1 : DataW.trod enc Tryd.prog w base (fun _ => true) held n 3 ((List.drop 1 [c0, c1, c2, c3, c4, c5, c6, c7]).take (Tryd.prog.cellsOf 3)) = xs[1]? := hg 1 _ rfl
    rw [hC1] at g1
    have g2 : DataW.trod enc Tryd.prog w base (fun _ => true) held n 3 ((List.drop 2 [c0, c1, c2, c3, c4, c5, c6, c7]).take (Tryd.prog.cellsOf 3)) = xs[2]? := hg 2 _ rfl
    rw [hC1] at g2
    have g3 : DataW.trod enc Tryd.prog w base (fun _ => true) held n 23 ((List.drop 3 [c0, c1, c2, c3, c4, c5, c6, c7]).take (Tryd.prog.cellsOf 23)) = xs[3]? := hg 3 _ rfl
    rw [hC3] at g3
    have g4 : DataW.trod enc Tryd.prog w base (fun _ => true) held n 24 ((List.drop 6 [c0, c1, c2, c3, c4, c5, c6, c7]).take (Tryd.prog.cellsOf 24)) = xs[4]? := hg 4 _ rfl
    rw [hCu] at g4
    have g5 : DataW.trod enc Tryd.prog w base (fun _ => true) held n 25 ((List.drop 7 [c0, c1, c2, c3, c4, c5, c6, c7]).take (Tryd.prog.cellsOf 25)) = xs[5]? := hg 5 _ rfl
    rw [hCb] at g5
    have s3 := some_at (i := 3) hlen (by decide)
    obtain ⟨z0, rfl, w0⟩ := read_int Tryd.underlying3 g0 (some_at hlen (by decide))
    obtain ⟨z1, rfl, w1⟩ := read_int Tryd.underlying3 g1 (some_at hlen (by decide))
    obtain ⟨z2, rfl, w2⟩ := read_int Tryd.underlying3 g2 (some_at hlen (by decide))
    obtain ⟨z6, rfl, w6⟩ := read_int Tryd.underlying24 g4 (some_at hlen (by decide))
    obtain ⟨ld, hd⟩ := bs_trodR g5 (some_at hlen (by decide))
    obtain ⟨q3, hq3⟩ := Option.isSome_iff_exists.1 s3
    rw [hq3] at g3
    obtain ⟨ys, m, _, _, _, hylen, hh⟩ := DataW.trod_struct Tryd.underlying23 g3
    have k0 : DataW.trod enc Tryd.prog w base (fun _ => true) held m 3 ((List.drop 0 [c3, c4, c5]).take (Tryd.prog.cellsOf 3)) = ys[0]? := hh 0 _ rfl
    rw [hC1] at k0
    have k1 : DataW.trod enc Tryd.prog w base (fun _ => true) held m 3 ((List.drop 1 [c3, c4, c5]).take (Tryd.prog.cellsOf 3)) = ys[1]? := hh 1 _ rfl
    rw [hC1] at k1
    have k2 : DataW.trod enc Tryd.prog w base (fun _ => true) held m 3 ((List.drop 2 [c3, c4, c5]).take (Tryd.prog.cellsOf 3)) = ys[2]? := hh 2 _ rfl
    rw [hC1] at k2
    obtain ⟨z3, rfl, w3⟩ := read_int Tryd.underlying3 k0 (some_at hylen (by decide))
    obtain ⟨z4, rfl, w4⟩ := read_int Tryd.underlying3 k1 (some_at hylen (by decide))
    obtain ⟨z5, rfl, w5⟩ := read_int Tryd.underlying3 k2 (some_at hylen (by decide))
    have hb := bounds_u32 w6
    obtain ⟨s, rfl⟩ : ∃ s : Nat, z6 = (s : Int) := ⟨z6.toNat, by omega⟩
    exact ⟨(⟨z0, z1, z2, z3, z4, z5, s⟩, ld), c7, rfl, hd, i64_of_wf w0, i64_of_wf w1, i64_of_wf w2, i64_of_wf w3, i64_of_wf w4, i64_of_wf w5, by show s < 4294967296; omega⟩
end Go.Proofs.YtjkfiimlaigdhaaDoor
