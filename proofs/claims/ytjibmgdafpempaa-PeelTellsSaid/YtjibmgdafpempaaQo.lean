/-
  A slice of equations as a law is handed it reads as a list of rows of ones.
-/
import Derived.Test.YtjibmgdafpempaaMgj
import Derived.Test.YtjibmgdafpempaaIn
import Derived.Deep.SlicePairs
namespace Go.Proofs.Ytjibmgdafpempaa
open Go.RowKit Go.ChangeShapes Go.WideShapes

theorem zs_trod {H : Type} {enc : TypeId × Value → H} {w : World} {base : Nat} {held : Bool} {fuel : Nat} {v : Value} {x : DataW H × List MemPlace}
    (h : DataW.trod enc Try.prog w base (fun _ => true) held fuel 23 [v] = some x) : ∃ l, Zs w v l := by
  rcases open_ints Try.underlying23 Try.underlying3 (by kernel_rfl) h with ⟨hcs, _⟩ | ⟨a, l, c, zs, hcs, _, hl, hm, hz, _, hcell, hwz⟩
  · simp at hcs
    subst hcs
    exact ⟨[], Zs.nil w⟩
  · simp at hcs
    subst hcs
    exact ⟨_, (Zs.of_in (.inr ⟨a, rfl, hl, hm, by simpa using hz, hcell, hwz⟩)).1⟩
theorem bs_trod {H : Type} {enc : TypeId × Value → H} {w : World} {base : Nat} {held : Bool} {fuel : Nat} {v : Value} {x : DataW H × List MemPlace}
    (h : DataW.trod enc Try.prog w base (fun _ => true) held fuel 24 [v] = some x) : ∃ l, Bs w v l := by
  rcases open_ints Try.underlying24 Try.underlying5 (by kernel_rfl) h with ⟨hcs, _⟩ | ⟨a, l, c, zs, hcs, _, hl, hm, hz, _, hcell, hwz⟩
  · simp at hcs
    subst hcs
    exact ⟨[], Bs.nil w⟩
  · simp at hcs
    subst hcs
    exact ⟨_, (Bs.of_in (.inr ⟨a, rfl, hl, hm, by simpa using hz, hcell, hwz⟩)).1⟩
theorem open_eqs {H : Type} {enc : TypeId × Value → H} {w : World} {base : Nat} {held : Bool} {fuel : Nat} {a : Option Addr} {len cap : Nat} {x : DataW H × List MemPlace}
    (h : DataW.trod enc Try.prog w base (fun _ => true) held fuel 22 (Value.slice a len cap).cells.toList = some x) : ∃ L, Eqs w (.slice a len cap) L := by
  rcases Deep.open_slice_pairs Try.underlying22 Try.underlying27 (by kernel_rfl) rfl rfl (by kernel_rfl) (by kernel_rfl) h with ⟨hcs, _⟩ | ⟨a', l, c, m, n, V0, V1, D0, D1, P0, P1, hcs, _, h1, h2, hm, _, h3⟩
  · simp [Value.cells] at hcs
    obtain ⟨rfl, rfl, rfl⟩ := hcs
    exact ⟨[], Eqs.nil w⟩
  · simp [Value.cells] at hcs
    obtain ⟨rfl, rfl, rfl⟩ := hcs
    have hmx : maxLen = 9223372036854775807 := rfl
    have hlm : len ≤ m := by rw [hm]; simpa using h1
    have each : ∀ i, ∃ q : Eqn, i < len → (∃ oc nc cc od nd cd, w.cell? (a'.add (i * 2)) = some (.slice oc nc cc) ∧ w.cell? (a'.add (i * 2 + 1)) = some (.slice od nd cd) ∧ Zs w (.slice oc nc cc) q.c ∧ Bs w (.slice od nd cd) q.d) := fun i => by
      by_cases hi : i < len
      · obtain ⟨q0, q1, t0, t1⟩ := h3 i (by omega)
        obtain ⟨lc, hc⟩ := zs_trod t0
        obtain ⟨ld, hd⟩ := bs_trod t1
        obtain ⟨oc, nc, cc, ec⟩ := hc.form3
        obtain ⟨od, nd, cd, ed⟩ := hd.form4
        rw [ec] at q0 hc
        rw [ed] at q1 hd
        exact ⟨⟨lc, ld⟩, fun _ => ⟨oc, nc, cc, od, nd, cd, q0, q1, hc, hd⟩⟩
      · exact ⟨noE, fun h => absurd h hi⟩
    obtain ⟨F, hF⟩ : ∃ F : Nat → Eqn, ∀ i, i < len → (∃ oc nc cc od nd cd, w.cell? (a'.add (i * 2)) = some (.slice oc nc cc) ∧ w.cell? (a'.add (i * 2 + 1)) = some (.slice od nd cd) ∧ Zs w (.slice oc nc cc) (F i).c ∧ Bs w (.slice od nd cd) (F i).d) :=
      ⟨fun i => Classical.choose (each i), fun i => Classical.choose_spec (each i)⟩
    refine ⟨(List.range len).map F, some a', cap, by simp, by simpa using h1, by omega, (fun h => by cases h), fun h0 => ?_⟩
    have h0' : 0 < len := by simpa using h0
    obtain ⟨_, _, _, _, _, _, s0, _⟩ := hF 0 h0'
    obtain ⟨b, o, s⟩ := a'
    have hs : s = none := by
      have := World.cell?_spot s0
      simpa [Addr.add] using this
    subst hs
    refine ⟨b, o, rfl, fun i hi => ?_⟩
    have hi' : i < len := by simpa using hi
    have e : ((List.range len).map F).getD i noE = F i := by
      rw [List.getD_eq_getElem?_getD, List.getElem?_map, List.getElem?_range hi']
      rfl
    rw [e]
    obtain ⟨oc, nc, cc, od, nd, cd, z0, z1, z2, z3⟩ := hF i hi'
    rw [Addr.add_mid] at z0 z1
    exact ⟨oc, nc, cc, od, nd, cd, z0, z1, z2, z3⟩
end Go.Proofs.Ytjibmgdafpempaa
