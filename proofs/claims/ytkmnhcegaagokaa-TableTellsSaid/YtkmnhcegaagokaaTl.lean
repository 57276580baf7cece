/-
  What package soliton is to do, as contracts; the document's example of it.
-/
import Derived.Test.YtkmnhcegaagokaaTd
namespace Go.Proofs.Ytkmnhcegaagokaa
open Go.RowKit

theorem tabZ_rng {N : Nat} (h1 : 1 ≤ N) (h2 : N ≤ 64) : ∀ x ∈ T.tabZ N, 0 ≤ x ∧ x < 8388608 := by
  intro x hx
  obtain ⟨i, hi, rfl⟩ := List.mem_map.1 hx
  have := T.sum_le h1 h2 (i := i + 1) (by have := List.mem_range.1 hi; omega)
  omega
set_option maxHeartbeats 400000 in
theorem refTable_any (l : Int) (w : World) : Calls Try.prog 9 #[.int .i64 l] w fun e w' => ∃ v, e = .returned v ∧ Zs w' v (T.tab l) ∧ Gr w w' := by
  by_cases hin : 1 ≤ l ∧ l ≤ 64
  · obtain ⟨N, rfl⟩ : ∃ N : Nat, l = N := ⟨l.toNat, by omega⟩
    rw [T.tab_in (by omega) (by omega)]
    exact refTable_in N w (by omega) (by omega)
  · rw [T.tab_out hin]
    by_cases h1 : l < 1
    · go_enter Try.func9, Try.ntmps9
      go_wp2
      go_ret
      exact ⟨_, rfl, Zs.nil _, Gr.refl _⟩
    · have h2 : 64 < l := by omega
      go_enter Try.func9, Try.ntmps9
      go_wp2
      go_ret
      exact ⟨_, rfl, Zs.nil _, Gr.refl _⟩
/-- The contracts of package soliton, of tables; At: how a Draw lies in memory. -/
structure SolOk (At : World → Value → (Nat → Prop) → Nat → Prop) : Prop where
  table : ∀ (l : Int) (w : World), I64 l → Calls Try.prog 8 #[.int .i64 l] w fun e w' => ∃ v, e = .returned v ∧ Zs w' v (T.tab l) ∧ Gr w w'
  degree : ∀ (v : Value) (l x : Int) (w : World), I64 l → I64 x → Zs w v (T.tab l) → Calls Try.prog 12 #[v, .int .i64 x] w fun e w' => e = .returned (.int .i64 (T.deg (T.tab l) x)) ∧ Gr w w'
  draw : ∀ (v d : Value) (l : Int) (F : Nat → Prop) (s : Nat) (w : World), I64 l → s < 18446744073709551616 → Zs w v (T.tab l) → AwayZ F v → At w d F s →
    Calls Try.prog 15 #[v, d] w fun e w' => e = .returned (.int .i64 (drawV (T.tab l) s)) ∧ At w' d F (drawS (T.tab l) s) ∧ Kp F w w'
theorem tableOne : T.tab 1 = [2097152] := by decide +kernel
theorem i64_tab {l : Int} (h : 1 ≤ l ∧ l ≤ 64) : I64 l := by unfold I64; omega
set_option maxHeartbeats 400000 in
theorem tabWakes_any {At : World → Value → (Nat → Prop) → Nat → Prop} (O : SolOk At) (w : World) : Calls Try.prog 20 #[] w fun e w' => e = .returned (.bool true) ∧ Gr w w' := by
  have H := Lib.hid O
  clear O
  go_enter Try.func20, Try.ntmps20
  go_wp2_with fail
  refine (H.out.table 1 _ (i64_tab ⟨by omega, by omega⟩)).mono ?_
  rw [tableOne]
  rintro e w1 ⟨v, rfl, hz, hg⟩
  have HZ := Lib.hid hz
  have G1 := Lib.hid hg
  obtain ⟨a, c, rfl, h1, h2, h3⟩ := Zs.at hz (by simp)
  have q := h3 0 (by simp)
  rw [show a.add 0 = a from by simp [Addr.add]] at q
  rw [show ([2097152] : List Int).getD 0 0 = 2097152 from rfl] at q
  rw [show ([2097152] : List Int).length = 1 from rfl] at *
  clear hz hg h3
  go_wp2_with fail
  refine (H.out.degree _ 1 5 _ (i64_tab ⟨by omega, by omega⟩) (by unfold I64; omega) (by rw [tableOne]; exact HZ.out)).mono ?_
  rw [tableOne, show T.deg [2097152] 5 = 1 from by decide +kernel]
  rintro e w2 ⟨rfl, hg2⟩
  have G2 := Lib.hid (Gr.trans G1.out hg2)
  clear hg2
  go_wp2
  go_ret
  exact ⟨rfl, G2.out⟩
end Go.Proofs.Ytkmnhcegaagokaa
