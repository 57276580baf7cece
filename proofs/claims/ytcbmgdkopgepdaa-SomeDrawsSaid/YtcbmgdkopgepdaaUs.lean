/-
  Slices of numbers of 32 bits as lists; the verifier's comparison of two.
-/
import Derived.Test.YtcbmgdkopgepdaaDr
import Derived.Test.YtcbmgdkopgepdaaZs
import Derived.Deep.QuietTactic
import Derived.BigQuiet
import Derived.Deep.AppendLies
namespace Go.Proofs.Ytcbmgdkopgepdaa
open Go.RowKit

def Us (w : World) (v : Value) (l : List Int) : Prop :=
  ∃ oa c, v = .slice oa l.length c ∧ l.length ≤ c ∧ c ≤ 9223372036854775807 ∧ (oa = none → c = 0) ∧ ∀ a, oa = some a → ∀ i, i < l.length → w.cell? (a.add i) = some (.int .u32 (l.getD i 0))
theorem Us.at {w : World} {v : Value} {l : List Int} (h : Us w v l) (hl : 0 < l.length) :
    ∃ a c, v = .slice (some a) l.length c ∧ l.length ≤ c ∧ c ≤ 9223372036854775807 ∧ ∀ i, i < l.length → w.cell? (a.add i) = some (.int .u32 (l.getD i 0)) := by
  obtain ⟨oa, c, h1, h2, h3, h4, h5⟩ := h
  cases oa with
  | none => exact absurd (h4 rfl) (by omega)
  | some a => exact ⟨a, c, h1, h2, h3, h5 a rfl⟩
theorem eq_of_getD' {x y : List Int} (hl : y.length = x.length) (h : ∀ j, j < x.length → x.getD j 0 = y.getD j 0) : x = y := by
  apply List.ext_getElem hl.symm
  intro j h1 h2
  have := h j h1
  rw [List.getD_eq_getElem?_getD, List.getD_eq_getElem?_getD, List.getElem?_eq_getElem h1, List.getElem?_eq_getElem h2] at this
  simpa using this

theorem infoU : (Try.prog.info? 25).map (fun i => (i.zero, i.size, i.bytes)) = some (some (.int .u32 0), 1, 4) := by kernel_rfl
theorem info_parts' {t : TypeId} {z : Option Value} {a b : Nat} (h : (Try.prog.info? t).map (fun i => (i.zero, i.size, i.bytes)) = some (z, a, b)) : ∃ i, Try.prog.info? t = some i ∧ i.zero = z ∧ i.size = a ∧ i.bytes = b := by
  obtain ⟨i, hi, he⟩ := Option.map_eq_some_iff.1 h
  simp only [Prod.mk.injEq] at he
  exact ⟨i, hi, he.1, he.2.1, he.2.2⟩
/-- Behind a call that writes only blocks ahead of base, a row of one's own from base on is as it was. -/
theorem ownsRow_kp {F : Nat → Prop} {w w' : World} {base : Nat} {e : TypeId} {size : Nat} {v : Value} {n : Nat} {xs : List Value} (h : w.ownsRow base e size v n xs) (hk : Kp F w w') (hF : ∀ k, F k → k < base) : w'.ownsRow base e size v n xs := by
  obtain ⟨h0, h1 | ⟨g, c, cur, rfl, hb, hg, h2⟩⟩ := h
  · exact ⟨h0, .inl h1⟩
  · exact ⟨h0, .inr ⟨g, c, cur, rfl, hb, hk.block hg (fun e => by have := hF g e; omega), h2⟩⟩
theorem ownsRow_base' {w : World} {base : Nat} {e : TypeId} {size : Nat} {v : Value} {n : Nat} {us : List Value} (h : w.ownsRow base e size v n us) : ∀ g, v.ownBlock = some g → base ≤ g := by
  intro g hg
  obtain ⟨_, ⟨rfl, _⟩ | ⟨g', c, cur, rfl, hb, _⟩⟩ := h
  · simp [Value.ownBlock] at hg
  · simp [Value.ownBlock] at hg
    omega
theorem ownsRow_form' {w : World} {base : Nat} {e : TypeId} {v : Value} {n : Nat} {us : List Value} (h : w.ownsRow base e 1 v n us) : ∃ oa c, v = .slice oa n c := by
  obtain ⟨_, ⟨rfl, rfl⟩ | ⟨g, c, cur, rfl, _⟩⟩ := h
  · exact ⟨_, _, rfl⟩
  · exact ⟨_, _, rfl⟩
theorem ownsRow_us {w : World} {base n : Nat} {v : Value} {l : List Int} (h : w.ownsRow base 25 1 v n (l.map (Value.int .u32))) (hl : l.length = n) : Us w v l := by
  subst hl
  obtain ⟨h0, ⟨rfl, h1⟩ | ⟨g, c, cur, rfl, hb, hg, h1, h2, h3, h4⟩⟩ := h
  · obtain rfl : l = [] := List.eq_nil_of_length_eq_zero (by omega)
    exact ⟨none, 0, rfl, by simp, by omega, fun _ => rfl, fun a h => by cases h⟩
  · refine ⟨some ⟨g, 0, none⟩, c, rfl, h1, by unfold maxLen at h2; omega, (fun h => by cases h), fun a ha i hi => ?_⟩
    cases ha
    have hadd : (⟨g, 0, none⟩ : Addr).add i = ⟨g, i, none⟩ := by unfold Addr.add; split <;> simp_all
    rw [hadd, cell_of_row w g i _ _ _ hg]
    rw [Nat.mul_one] at h4
    have : (cur.toList.take l.length)[i]? = (l.map (Value.int .u32))[i]? := by rw [h4]
    rw [List.getElem?_take_of_lt hi] at this
    simpa [hi] using this
/-- The state behind k draws; the numbers drawn. -/
def sq (s : Nat) : Nat → Nat
  | 0 => s
  | k + 1 => nextS (sq s k)
theorem sq_lt {s : Nat} (h : s < 18446744073709551616) : ∀ k, sq s k < 18446744073709551616
  | 0 => h
  | _ + 1 => nextS_lt _
def outs (s m : Nat) : List Int := (List.range m).map fun i => ((topS (sq s (i + 1)) : Nat) : Int)
theorem outs_length (s m : Nat) : (outs s m).length = m := by simp [outs]
theorem outs_succ (s m : Nat) : outs s (m + 1) = outs s m ++ [((topS (sq s (m + 1)) : Nat) : Int)] := by simp [outs, List.range_succ]
end Go.Proofs.Ytcbmgdkopgepdaa
