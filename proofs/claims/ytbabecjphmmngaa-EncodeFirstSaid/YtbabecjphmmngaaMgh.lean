/-
  Texts laid behind one another: Rd Ra Yc Yb Hd Yd Ye.
-/
import Derived.Test.YtbabecjphmmngaaMgf
import Derived.BigRegion
import Derived.Deep.RegionLaw
import Derived.Laws.AppendOwnNone
import Derived.Deep.DeepCutAuto
import Derived.Test.YtbabecjphmmngaaMgg
import Derived.Test.YtbabecjphmmngaaMgb
import Derived.Test.YtbabecjphmmngaaProg
import Derived.Deep.RegionHeld3
namespace Go.Proofs.Ytbabecjphmmngaa
open Go.RowKit

theorem info5' : (Try.prog.info? 5).map (fun i => (i.zero, i.size, i.bytes)) = some (some (.int .u8 0), 1, 1) := by kernel_rfl
end Go.Proofs.Ytbabecjphmmngaa
namespace Go.Proofs.Ytbabecjphmmngaa
open Go.RowKit

end Go.Proofs.Ytbabecjphmmngaa
namespace Go.Proofs.Ytbabecjphmmngaa
open Go.RowKit

end Go.Proofs.Ytbabecjphmmngaa
namespace Go.Proofs.Ytbabecjphmmngaa
open Go.RowKit

end Go.Proofs.Ytbabecjphmmngaa
namespace Go.Proofs.Ytbabecjphmmngaa

/-- An operation whose guard says no is passed. -/
theorem wpAnyH_skip {P : Program} {md : Region.Mode} {ops : Array Oper} {Q : Exit → Act → World → Prop} {S : World → Prop} {i d : Nat} {oi : Oper} {fuel : Nat} {listed : Array Bool} {a : Act} {w : World} (hi : ops[i]? = some oi) (hd : oi.dst = some d)
    (hs : Region.noSelect ops = true) (hf : Region.free md ops listed i = true) (hr : (Region.ready md ops listed).contains i = true)
    (hQ : ∀ c a w, Q (.panic c) (a.put oi.dst undef) w → Q (.panic c) a w) (hw : Region.wanted oi (yielded ops a.tmps) = false) (hS : S w)
    (h : wpAnyH P md ops Q S fuel (listed.setIfInBounds i true) { a with tmps := a.tmps.setIfInBounds d undef } w) : wpAnyH P md ops Q S (fuel + 1) listed a w :=
  wpAnyH_take hi hs hf hr hQ (.inr ⟨hw, rfl⟩) hS (by rw [hd]; exact h)
/-- An operation that yields v is taken. -/
theorem wpAnyH_yield {P : Program} {md : Region.Mode} {ops : Array Oper} {Q : Exit → Act → World → Prop} {S : World → Prop} {i d : Nat} {oi : Oper} {v : Value} {fuel : Nat} {listed : Array Bool} {a : Act} {w : World} (hi : ops[i]? = some oi) (hd : oi.dst = some d)
    (hs : Region.noSelect ops = true) (hf : Region.free md ops listed i = true) (hr : (Region.ready md ops listed).contains i = true)
    (hQ : ∀ c a w, Q (.panic c) (a.put oi.dst v) w → Q (.panic c) a w) (hy : YieldsIf P ops S oi v a) (hS : S w)
    (h : wpAnyH P md ops Q S fuel (listed.setIfInBounds i true) { a with tmps := a.tmps.setIfInBounds d v } w) : wpAnyH P md ops Q S (fuel + 1) listed a w :=
  wpAnyH_take hi hs hf hr hQ hy hS (by rw [hd]; exact h)
end Go.Proofs.Ytbabecjphmmngaa
namespace Go.Proofs.Ytbabecjphmmngaa
open Go.RowKit

/-- The contracts of package system. -/
structure SystemOk : Prop where
  matrix : ∀ (K H S : Int) (seed : Nat) (v : Value) (l : List Int) (w : World), seed < 4294967296 → Zs w v l → l.length ≤ 900 →
    Calls Try.prog 24 #[par K H S, .int .u32 (seed : Int), v] w fun e w' => ∃ u, e = .returned u ∧ Bss w' u (matP K H S seed l) ∧ Gr w w'
  rank : ∀ (K H S : Int) (seed : Nat) (v : Value) (l : List Int) (w : World), seed < 4294967296 → Zs w v l → l.length ≤ 900 →
    Calls Try.prog 48 #[par K H S, .int .u32 (seed : Int), v] w fun e w' => e = .returned (.int .i64 (rkL (matP K H S seed l))) ∧ Gr w w'
  full : ∀ (K H S : Int) (seed : Nat) (v : Value) (l : List Int) (w : World), seed < 4294967296 → Zs w v l → l.length ≤ 900 →
    Calls Try.prog 27 #[par K H S, .int .u32 (seed : Int), v] w fun e w' => e = .returned (.bool (decide (FullP K H S seed l))) ∧ Gr w w'
  right : ∀ (K H S : Int) (seed : Nat) (w : World), seed < 4294967296 →
    Calls Try.prog 10 #[par K H S, .int .u32 (seed : Int)] w fun e w' => e = .returned (.bool (decide (RightP K H S seed))) ∧ Gr w w'
end Go.Proofs.Ytbabecjphmmngaa
namespace Go.Proofs.Ytbabecjphmmngaa
open Go.RowKit

theorem sysWake_rank : rkL (matP 2 1 1 1 []) = 1 := by
  rw [matP_nil]
  have h := aheadP_in (K := 2) (H := 1) (S := 1) (by unfold MayP; omega)
  rw [show aheadP 2 1 1 = ahead 2 1 from h, ahead_rk]
theorem sysWake_len : (matP 2 1 1 1 []).length = 1 := by
  rw [matP_nil]
  have h := aheadP_in (K := 2) (H := 1) (S := 1) (by unfold MayP; omega)
  rw [show aheadP 2 1 1 = ahead 2 1 from h, ahead_length]
theorem sysWake_full : decide (FullP 2 1 1 1 []) = false := decide_eq_false fun h => by
  have h2 := h.2
  rw [sysWake_rank] at h2
  have : colsP 2 1 1 = 3 := by unfold colsP; rw [if_pos (by unfold MayP; omega)]; rfl
  omega
/-- 0, 1, .., n - 1, without k. -/
def lessI (n k : Nat) : List Int := (firstI n).filter fun i => decide (i ≠ (k : Int))
theorem lessI_succ (n k : Nat) : lessI (n + 1) k = if n = k then lessI n k else lessI n k ++ [(n : Int)] := by
  unfold lessI
  rw [firstI_succ, List.filter_append]
  by_cases e : n = k
  · subst e
    rw [if_pos rfl]
    simp
  · rw [if_neg e]
    have : ¬ ((n : Int) = (k : Int)) := by omega
    simp [this]
theorem lessI_le (n k : Nat) : (lessI n k).length ≤ n := by
  have := List.length_filter_le (fun i => decide (i ≠ (k : Int))) (firstI n)
  rw [firstI_length] at this
  exact this
theorem lessI_lt {n k : Nat} (h : k < n) : (lessI n k).length < n := by
  induction n with
  | zero => omega
  | succ n ih =>
    rw [lessI_succ]
    by_cases e : n = k
    · rw [if_pos e]
      have := lessI_le n k
      omega
    · rw [if_neg e, List.length_append]
      have := ih (by omega)
      simp
      omega
theorem lessI_i64 {n k : Nat} (h : n ≤ 1000) : ∀ x ∈ lessI n k, I64 x := fun x hx => firstI_i64 h x (List.mem_filter.1 hx).1
theorem few_not_full {K H : Nat} {S : Int} (hm : MayP K H S) (seed : Nat) (l : List Int) (h : l.length < K) : ¬ FullP K H S seed l := fun hf => by
  have h2 := hf.2
  have hw := rkL_le_rows (matP_wide hm seed l)
  have hl : (matP K H S seed l).length ≤ H + l.length := by
    rw [matP_in hm, List.length_append, ahead_length, List.length_map]
    have := List.length_filter_le (fun i => decide (MayI i)) l
    omega
  have : colsP K H S = K + H := by unfold colsP; rw [if_pos hm]
  omega
end Go.Proofs.Ytbabecjphmmngaa
