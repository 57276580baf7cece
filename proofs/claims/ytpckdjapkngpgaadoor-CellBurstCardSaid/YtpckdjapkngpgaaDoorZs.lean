/-
  Slices of ints as lists.
-/
import Derived.Test.YtpckdjapkngpgaaDoorKp
import Derived.Lib.Hide
import Derived.OpenShut
namespace Go.Proofs.YtpckdjapkngpgaaDoor
open Go.RowKit

def I64 (x : Int) : Prop := -9223372036854775808 ≤ x ∧ x < 9223372036854775808
/-- v is a slice of ints that reads as l in w. -/
def Zs (w : World) (v : Value) (l : List Int) : Prop :=
  (∀ x ∈ l, I64 x) ∧ ∃ oa c, v = .slice oa l.length c ∧ l.length ≤ c ∧ c ≤ 9223372036854775807 ∧ (oa = none → c = 0) ∧ ∀ a, oa = some a → ∀ i, i < l.length → w.cell? (a.add i) = some (.int .i64 (l.getD i 0))
theorem cell_gr {w w' : World} (hg : Gr w w') {a : Addr} {x : Value} (h : w.cell? a = some x) : w'.cell? a = some x := (hg.kp fun _ => False).cell h (fun e => e)
theorem Zs.rng {w : World} {v : Value} {l : List Int} (h : Zs w v l) (i : Nat) (hi : i < l.length) : I64 (l.getD i 0) := by
  rw [List.getD_eq_getElem?_getD, List.getElem?_eq_getElem hi]
  exact h.1 _ (List.getElem_mem hi)
theorem Zs.grown {w w' : World} {v : Value} {l : List Int} (h : Zs w v l) (hg : Gr w w') : Zs w' v l := by
  obtain ⟨h0, oa, c, h1, h2, h3, h4, h5⟩ := h
  exact ⟨h0, oa, c, h1, h2, h3, h4, fun a ha i hi => cell_gr hg (h5 a ha i hi)⟩
theorem i64_of_wf {a : Int} (h : (Lit.int .i64 a).wf = true) : I64 a := by
  have := bounds_i64 h
  unfold I64
  omega
theorem Zs.of_in {w : World} {a : Option Addr} {len cap : Nat} {zs : List Int}
    (h : (a = none ∧ len = 0 ∧ cap = 0 ∧ zs = []) ∨ ∃ x, a = some x ∧ len ≤ cap ∧ cap ≤ maxLen ∧ zs.length = cap ∧ (∀ i, i < zs.length → w.cell? (x.add i) = some (.int .i64 (zs.getD i 0))) ∧ ∀ n ∈ zs, (Lit.int .i64 n).wf = true) :
    Zs w (.slice a len cap) (zs.take len) ∧ (zs.take len).length = len := by
  rcases h with ⟨rfl, rfl, rfl, rfl⟩ | ⟨x, rfl, h1, h2, h3, h4, h5⟩
  · exact ⟨⟨by simp, none, 0, rfl, by simp, by omega, fun _ => rfl, fun a h => by cases h⟩, rfl⟩
  · have hl : (zs.take len).length = len := by rw [List.length_take]; omega
    refine ⟨⟨fun z hz => i64_of_wf (h5 z (List.mem_of_mem_take hz)), some x, cap, by rw [hl], by rw [hl]; exact h1, by have : maxLen = 9223372036854775807 := rfl; omega, (fun h => by cases h), fun a ha i hi => ?_⟩, hl⟩
    cases ha
    rw [hl] at hi
    rw [h4 i (by omega), List.getD_eq_getElem?_getD, List.getD_eq_getElem?_getD, List.getElem?_take_of_lt hi]
theorem Zs.form3 {w : World} {v : Value} {l : List Int} (h : Zs w v l) : ∃ o m c, v = .slice o m c := by
  obtain ⟨_, oa, c, h1, _⟩ := h
  exact ⟨oa, _, c, h1⟩
/-- v's memory is none of F. -/
def AwayZ (F : Nat → Prop) (v : Value) : Prop := ∀ a m c, v = .slice (some a) m c → 0 < m → ¬ F a.block
theorem add_blk (a : Addr) (n : Nat) : (a.add n).block = a.block := by
  unfold Addr.add
  split <;> rfl
theorem Zs.kp {F : Nat → Prop} {w w' : World} {v : Value} {l : List Int} (h : Zs w v l) (hk : Kp F w w') (ha : AwayZ F v) : Zs w' v l := by
  obtain ⟨h0, oa, c, rfl, h2, h3, h4, h5⟩ := h
  exact ⟨h0, oa, c, rfl, h2, h3, h4, fun a he i hi => hk.cell (h5 a he i hi) (by
    rw [add_blk]
    subst he
    exact ha a _ c rfl (by omega))⟩
/-- What was there ahead of F lies away from it. -/
theorem Zs.away {F : Nat → Prop} {w : World} {v : Value} {l : List Int} (h : Zs w v l) (hF : ∀ k, F k → w.heap.size ≤ k) : AwayZ F v := fun a m c hv hm e => by
  obtain ⟨_, oa, c', he, _, _, _, h5⟩ := h
  rw [he] at hv
  obtain ⟨rfl, rfl, rfl⟩ : oa = some a ∧ l.length = m ∧ c' = c := by simpa using hv
  have := World.block_lt_of_cell? w _ (h5 a rfl 0 hm)
  rw [add_blk] at this
  have := hF _ e
  omega
end Go.Proofs.YtpckdjapkngpgaaDoor
