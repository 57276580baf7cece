/-
  Law DrawSums, walked: the first numbers of two seeds and of their sum.
-/
import Derived.Test.YtlonjmdicochnaaUs
import Derived.BigRegion
namespace Go.Proofs.Ytlonjmdicochnaa
open Go.RowKit

theorem next_lin (s : Nat) : ∃ k : Nat, s * 6364136223846793005 + 1442695040888963407 = nextS s + 18446744073709551616 * k := ⟨(s * 6364136223846793005 + 1442695040888963407) / 18446744073709551616, by unfold nextS; omega⟩
/-- The first numbers of x and y are, together, those of x + y and of 0, but for one. -/
theorem sums_near (x y : Nat) : ∃ e : Int, -1 ≤ e ∧ e ≤ 1 ∧ ∃ m : Int, ((topS (nextS x) : Nat) : Int) + (topS (nextS y) : Nat) - (topS (nextS (x + y)) : Nat) - (topS (nextS 0) : Nat) = e + 4294967296 * m := by
  obtain ⟨k1, h1⟩ := next_lin x
  obtain ⟨k2, h2⟩ := next_lin y
  obtain ⟨k3, h3⟩ := next_lin (x + y)
  obtain ⟨k4, h4⟩ := next_lin 0
  generalize nextS x = P at *
  generalize nextS y = Q at *
  generalize nextS (x + y) = R at *
  generalize nextS 0 = T at *
  have hD : (P : Int) + Q - R - T = 18446744073709551616 * ((k3 : Int) + k4 - k1 - k2) := by omega
  clear h1 h2 h3 h4
  generalize (k3 : Int) + k4 - k1 - k2 = m at *
  unfold topS
  have e1 : (P : Int) = 4294967296 * ((P / 4294967296 : Nat) : Int) + ((P % 4294967296 : Nat) : Int) := by omega
  have e2 : (Q : Int) = 4294967296 * ((Q / 4294967296 : Nat) : Int) + ((Q % 4294967296 : Nat) : Int) := by omega
  have e3 : (R : Int) = 4294967296 * ((R / 4294967296 : Nat) : Int) + ((R % 4294967296 : Nat) : Int) := by omega
  have e4 : (T : Int) = 4294967296 * ((T / 4294967296 : Nat) : Int) + ((T % 4294967296 : Nat) : Int) := by omega
  have b1 : P % 4294967296 < 4294967296 := Nat.mod_lt _ (by omega)
  have b2 : Q % 4294967296 < 4294967296 := Nat.mod_lt _ (by omega)
  have b3 : R % 4294967296 < 4294967296 := Nat.mod_lt _ (by omega)
  have b4 : T % 4294967296 < 4294967296 := Nat.mod_lt _ (by omega)
  generalize P / 4294967296 = p at *
  generalize Q / 4294967296 = q at *
  generalize R / 4294967296 = r at *
  generalize T / 4294967296 = t at *
  generalize P % 4294967296 = p' at *
  generalize Q % 4294967296 = q' at *
  generalize R % 4294967296 = r' at *
  generalize T % 4294967296 = t' at *
  refine ⟨(p : Int) + q - r - t - 4294967296 * m, by omega, by omega, m, by omega⟩
theorem sums_wrap (a b c d : Int) (h : ∃ e : Int, -1 ≤ e ∧ e ≤ 1 ∧ ∃ m : Int, a + b - c - d = e + 4294967296 * m) :
    (a + b - c - d + 1) % 4294967296 ≤ 2 := by
  obtain ⟨e, h1, h2, m, h3⟩ := h
  omega
theorem add_nil (a : Addr) : a.add 0 = a := by
  unfold Addr.add
  split <;> simp_all
def seeds4 (x y : Nat) : List Nat := [x, y, x + y, 0]
def tops (l : List Nat) : List Int := l.map fun s => ((topS (nextS s) : Nat) : Int)
set_option maxRecDepth 100000 in
set_option maxHeartbeats 3200000 in
theorem drawSums_walk {At : World → Value → (Nat → Prop) → Nat → Prop} (O : DrawOk At) (sa sb : Int) (w : World) (_ : 0 ≤ sa) (_ : sa < 18446744073709551616) (_ : 0 ≤ sb) (_ : sb < 18446744073709551616) :
    Calls Try.prog 6 #[.int .u64 sa, .int .u64 sb] w fun e w' => e = .returned (.bool true) ∧ Gr w w' := by
  obtain ⟨i0, hi0, hz0, hz1, hz2⟩ := info_parts' infoU
  have I0 := Lib.hid hi0
  have I1 := Lib.hid hz0
  have I2 := Lib.hid hz1
  have I3 := Lib.hid hz2
  clear hi0 hz0 hz1 hz2
  have H := Lib.hid O
  clear O
  go_enter Try.func6, Try.ntmps6
  go_wp2
  obtain ⟨x, hx, hx1⟩ : ∃ x : Nat, sa % 4294967296 / 2 = x ∧ x < 2147483648 := ⟨(sa % 4294967296 / 2).toNat, by omega, by omega⟩
  obtain ⟨y, hy, hy1⟩ : ∃ y : Nat, sb % 4294967296 / 2 = y ∧ y < 2147483648 := ⟨(sb % 4294967296 / 2).toNat, by omega, by omega⟩
  rw [hx, hy, show (x : Int) + (y : Int) = ((x + y : Nat) : Int) by push_cast; rfl]
  have hcell : ∀ j, j < 4 → (w.alloc (.cells #[.int .u32 (x : Int), .int .u32 (y : Int), .int .u32 ((x + y : Nat) : Int), .int .u32 0] 26)).cell? ⟨w.heap.size, j, none⟩ = some (.int .u32 (((seeds4 x y).getD j 0 : Nat) : Int)) := fun j hj => by
    rw [cell_of_row _ _ j _ _ _ (heap_alloc_new w _)]
    have : j = 0 ∨ j = 1 ∨ j = 2 ∨ j = 3 := by omega
    rcases this with rfl | rfl | rfl | rfl <;> rfl
  have hbd : ∀ j, (seeds4 x y).getD j 0 < 4294967296 := fun j => by
    match j with
    | 0 => show x < _; omega
    | 1 => show y < _; omega
    | 2 => show x + y < _; omega
    | 3 => show 0 < _; omega
    | k + 4 => show 0 < _; omega
  have hW : Gr w (w.alloc (.cells #[.int .u32 (x : Int), .int .u32 (y : Int), .int .u32 ((x + y : Nat) : Int), .int .u32 0] 26)) := Gr.alloc (Gr.refl _) _ _
  have HC := Lib.hid hcell
  have HB := Lib.hid hbd
  have HW := Lib.hid hW
  clear hcell hbd hW hx hy
  generalize (x + y : Nat) = z at *
  generalize w.alloc (.cells #[.int .u32 (x : Int), .int .u32 (y : Int), .int .u32 (z : Int), .int .u32 0] 26) = W at *
  generalize w.heap.size = g at *
  go_loopw [7, 25] (fun n i wr => ∃ j : Nat, j ≤ 4 ∧ i = .int .i64 j ∧ wr.ownsRow W.heap.size 26 1 n j ((tops ((seeds4 x y).take j)).map (Value.int .u32)) ∧ Gr W wr) (fun _ i _ => 4 - (intOf i).toNat)
  case atStart => exact ⟨0, by omega, rfl, World.ownsRow_nil _ _ _ _, Gr.refl _⟩
  case round =>
    obtain ⟨j, hj, rfl, hown, hg⟩ := hrel
    obtain ⟨ob, cb, rfl⟩ := ownsRow_form' hown
    have HO := Lib.hid hown
    have HG := Lib.hid hg
    clear hown hg
    by_cases hlt : j < 4
    · have q1 := cell_gr HG.out (HC.out j hlt)
      have hb := HB.out j
      have HCS : Hid ((tops ((seeds4 x y).take j)).map (Value.int .u32) ++ [.int .u32 ((topS (nextS ((seeds4 x y).getD j 0)) : Nat) : Int)] = (tops ((seeds4 x y).take (j + 1))).map (Value.int .u32)) := Lib.hid (by
        have : j = 0 ∨ j = 1 ∨ j = 2 ∨ j = 3 := by omega
        rcases this with rfl | rfl | rfl | rfl <;> rfl)
      generalize (tops ((seeds4 x y).take j)).map (Value.int .u32) = cs at *
      generalize (seeds4 x y).getD j 0 = sj at *
      go_wp2_with fail
      refine (H.out.new sj _ hb).mono ?_
      rintro e w1 ⟨d, F, rfl, ha, hg1, hF⟩
      obtain ⟨ad, rfl⟩ := H.out.ptr ha
      have HD1 : Hid (Dr At wr w1 (.pointer (some ad)) F sj) := Lib.hid ⟨ha, hF, hg1, by omega⟩
      clear ha hg1 hF q1
      go_wp2_with fail
      refine (H.out.next _ F _ _ HD1.out.2.2.2 HD1.out.1).mono ?_
      rintro e w2 ⟨rfl, ha, hk⟩
      have HD2 := Lib.hid (HD1.out.step ha hk (nextS_lt _))
      have HO2 := Lib.hid (ownsRow_kp HO.out (HD2.out.2.2.1.kp fun _ => False) (fun _ e => e.elim))
      have hsz : W.heap.size ≤ w2.heap.size := Nat.le_trans HG.out.size HD2.out.2.2.1.size
      clear ha hk
      generalize ((topS (nextS sj) : Nat) : Int) = tt at *
      go_wp2_with (at_builtin; refine wpList_append_lies _ rfl _ _ _ rfl W.heap.size 26 i0 _ 1 4 Try.underlying38 I0.out I1.out I2.out I3.out rfl (by omega) (.slice ob j cb) j cs rfl (HO2.out.alloc _) ⟨w2.heap.size, 0, none⟩ 1 1 [.int .u32 tt] rfl rfl (World.news_of_block (cs := #[.int .u32 tt]) (t := 26) (fr := (0, 0)) (heap_alloc_new w2 _)) (by simp [Value.oneCell']) (by omega) (by unfold maxLen; omega) (by omega) (by simp; omega) (w2.heap.size + 1) (by simp) ?_; intro gg cap w7 hown1 hgrow hat hlt7)
      exact ⟨⟨j + 1, by omega, by go_num, by rw [← HCS.out]; exact hown1, Gr.append (Gr.alloc (Gr.trans HG.out HD2.out.2.2.1) _ _) hgrow (ownsRow_base' HO2.out)⟩, by simp [intOf]; omega⟩
    · obtain rfl : j = 4 := by omega
      have hu := ownsRow_us HO.out (by rfl)
      obtain ⟨gn, cn, hv, _, _⟩ := World.ownsRow.form HO.out (by omega)
      obtain ⟨rfl, rfl⟩ : ob = some ⟨gn, 0, none⟩ ∧ cb = cn := by
        simp only [Value.slice.injEq] at hv
        exact ⟨hv.1, hv.2.2⟩
      obtain ⟨a, c, he, u1, u2, u3⟩ := Us.at hu (by show 0 < 4; omega)
      obtain ⟨rfl, rfl⟩ : (⟨gn, 0, none⟩ : Addr) = a ∧ cb = c := by
        simp only [Value.slice.injEq, Option.some.injEq] at he
        exact ⟨he.1, he.2.2⟩
      have hadd : ∀ i, (⟨gn, 0, none⟩ : Addr).add i = ⟨gn, i, none⟩ := fun i => by unfold Addr.add; split <;> simp_all
      have q0 := u3 0 (by show 0 < 4; omega)
      have q1 := u3 1 (by show 1 < 4; omega)
      have q2 := u3 2 (by show 2 < 4; omega)
      have q3 := u3 3 (by show 3 < 4; omega)
      rw [hadd] at q0 q1 q2 q3
      rw [show (tops ((seeds4 x y).take 4)).getD 0 0 = ((topS (nextS x) : Nat) : Int) from rfl] at q0
      rw [show (tops ((seeds4 x y).take 4)).getD 1 0 = ((topS (nextS y) : Nat) : Int) from rfl] at q1
      rw [show (tops ((seeds4 x y).take 4)).getD 2 0 = ((topS (nextS (x + y)) : Nat) : Int) from rfl] at q2
      rw [show (tops ((seeds4 x y).take 4)).getD 3 0 = ((topS (nextS 0) : Nat) : Int) from rfl] at q3
      have hs := sums_wrap _ _ _ _ (sums_near x y)
      have hc4 : 4 ≤ cb := u1
      clear he u1 u2 u3 hu HO HB HC hadd hv
      generalize ((topS (nextS x) : Nat) : Int) = t0 at *
      generalize ((topS (nextS y) : Nat) : Int) = t1 at *
      generalize ((topS (nextS (x + y)) : Nat) : Int) = t2 at *
      generalize ((topS (nextS 0) : Nat) : Int) = t3 at *
      go_wp2
      go_region
      go_wp2_with fail
      refine (drawWakes_any H.out _).mono ?_
      rintro e w7 ⟨rfl, hg⟩
      have G := Lib.hid (Gr.trans HW.out (Gr.trans (Gr.trans HG.out (Gr.drew (Gr.refl _))) hg))
      clear hg
      go_wp2_with fail
      go_ret
      exact ⟨rfl, G.out⟩
end Go.Proofs.Ytlonjmdicochnaa
