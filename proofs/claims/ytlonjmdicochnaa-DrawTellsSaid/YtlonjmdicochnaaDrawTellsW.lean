/-
  Law DrawTells, walked.
-/
import Derived.Test.YtlonjmdicochnaaDr
import Derived.Test.YtlonjmdicochnaaZs
import Derived.Deep.RegionHeld3
namespace Go.Proofs.Ytlonjmdicochnaa
open Go.RowKit

set_option maxRecDepth 100000 in
set_option maxHeartbeats 1600000 in
theorem drawTells_walk {At : World → Value → (Nat → Prop) → Nat → Prop} (O : DrawOk At) (sd : Int) (vl : Value) (l : List Int) (w : World) (_ : 0 ≤ sd) (_ : sd < 18446744073709551616) (hl : Zs w vl l) :
    Calls Try.prog 3 #[.int .u64 sd, vl] w fun e w' => e = .returned (.bool true) ∧ Gr w w' := by
  have H := Lib.hid O
  have HL := Lib.hid hl
  obtain ⟨_, oa, ca, rfl, a1, a2, a3, a4⟩ := hl
  generalize hn : l.length = n at *
  have HN := Lib.hid hn
  have HA := Lib.hid a4
  have HAN := Lib.hid a3
  obtain ⟨s0, hs0, hs1⟩ : ∃ s : Nat, sd % 4294967296 = s ∧ s < 4294967296 := ⟨(sd % 4294967296).toNat, by omega, by omega⟩
  clear O a3 a4 hn
  go_enter Try.func3, Try.ntmps3
  go_wp2_with fail
  refine (H.out.new s0 _ hs1).mono ?_
  rintro e w1 ⟨d, F, rfl, ha, hg1, hF⟩
  obtain ⟨ad, rfl⟩ := H.out.ptr ha
  have HD1 : Hid (Dr At w w1 (.pointer (some ad)) F s0) := Lib.hid ⟨ha, hF, hg1, by omega⟩
  clear ha hg1 hF
  go_wp2
  have HR : Hid (RAt (w1.alloc (.cells #[.int .u64 (s0 : Int)] 30)) w1.heap.size s0) := Lib.hid (heap_alloc_new _ _)
  have HNF : Hid (¬ F w1.heap.size) := Lib.hid (fun e => by have := H.out.lt HD1.out.1 _ e; omega)
  have HGR : Hid (w.heap.size ≤ w1.heap.size) := Lib.hid HD1.out.2.2.1.size
  have HD2 : Hid (Dr At w (w1.alloc (.cells #[.int .u64 (s0 : Int)] 30)) (.pointer (some ad)) F s0) := Lib.hid (HD1.out.grown H.out (Gr.alloc (Gr.refl _) _ _))
  clear HD1
  rw [hs0]
  clear hs0
  generalize w1.alloc (.cells #[.int .u64 (s0 : Int)] 30) = W at *
  generalize w1.heap.size = gr at *
  go_loopw [7] (fun i wr => ∃ (ii s : Nat), ii ≤ n ∧ i = .int .i64 ii ∧ Dr At w wr (.pointer (some ad)) F s ∧ RAt wr gr s) (fun i _ => n - (intOf i).toNat)
  case atStart => exact ⟨0, s0, by omega, rfl, HD2.out, HR.out⟩
  case round =>
    clear HD2 HR
    obtain ⟨ii, s, hii, rfl, hd, hr⟩ := hrel
    have HD := Lib.hid hd
    have HR := Lib.hid hr
    clear hd hr
    by_cases hgo : ii < n ∧ ii < 60
    · obtain ⟨hlt, hlt2⟩ := hgo
      by_cases h3 : ii % 4 = 3
      · have hm : (ii : Int) % 4 = 3 := by omega
        go_wp2_with fail
        refine (H.out.next _ F s _ HD.out.2.2.2 HD.out.1).mono ?_
        rintro e w5 ⟨rfl, ha, hk⟩
        have HD5 := Lib.hid (HD.out.step ha hk (nextS_lt s))
        have HR5 := Lib.hid (HR.out.kept hk HNF.out)
        clear ha hk
        go_wp2_with fail
        refine (refNext_any gr s _ HR5.out).mono ?_
        rintro e w6 ⟨rfl, hr, hk⟩
        have HD6 := Lib.hid (HD5.out.other H.out hk (fun k e => by subst e; exact HGR.out) (fun k hF e => HNF.out (by rw [← e]; exact hF)))
        have HR6 := Lib.hid hr
        clear hr hk
        generalize topS (nextS s) = tt at *
        go_wp2
        exact ⟨⟨ii + 1, nextS s, by omega, by go_num, HD6.out, HR6.out⟩, by simp [intOf]; omega⟩
      · have hm : ((ii : Int) % 4 == 3) = false := by simp; omega
        obtain ⟨al, rfl⟩ : ∃ al, oa = some al := by
          cases oa with
          | none => exact absurd (HAN.out rfl) (by omega)
          | some al => exact ⟨al, rfl⟩
        have p1 := HA.out al rfl ii hlt
        have hz := HL.out.rng ii (by rw [HN.out]; exact hlt)
        generalize l.getD ii 0 = z at *
        have q1 := cell_gr HD.out.2.2.1 p1
        obtain ⟨hz1, hz2⟩ := hz
        have HDd := Lib.hid (HD.out.grown H.out (Gr.drew (Gr.refl wr)))
        have HRd : Hid (RAt wr.drew gr s) := Lib.hid (HR.out.kept (Kp.drew (Kp.refl (fun _ => False) wr)) (fun e => e))
        go_wp2
        go_region_held3 (fun W => W.cell? (al.add ii) = some (.int .i64 z)) (first | exact q1 | exact q5 | exact q6 | go_keep) (first
          | (go_at_call 10; refine (H.out.below _ F s z _ HD.out.2.2.2 hz2 hz1 HDd.out.1).mono ?_; rintro e w5 ⟨rfl, ha, hk⟩; have HD5 := Lib.hid (HDd.out.step ha hk (belowS_lt HD.out.2.2.2 z)); have HR5 := Lib.hid (HRd.out.kept hk HNF.out); have q5 := cell_gr HD5.out.2.2.1 p1; clear ha hk)
          | (go_at_call 11; refine (refBelow_any gr s z _ HR5.out hz2).mono ?_; rintro e w6 ⟨rfl, hr, hk⟩; have HD6 := Lib.hid (HD5.out.other H.out hk (fun k e => by subst e; exact HGR.out) (fun k hF e => HNF.out (by rw [← e]; exact hF))); have HR6 := Lib.hid hr; have q6 := cell_gr HD6.out.2.2.1 p1; clear hr hk))
        generalize belowV s z = vv at *
        go_wp2
        exact ⟨⟨ii + 1, belowS s z, by omega, by go_num, HD6.out, HR6.out⟩, by simp [intOf]; omega⟩
    · go_wp2_with fail
      all_goals
        refine (H.out.next _ F s _ HD.out.2.2.2 HD.out.1).mono ?_
        rintro e w5 ⟨rfl, ha, hk⟩
        have HD5 := Lib.hid (HD.out.step ha hk (nextS_lt s))
        have HR5 := Lib.hid (HR.out.kept hk HNF.out)
        clear ha hk
        go_wp2_with fail
        refine (refNext_any gr s _ HR5.out).mono ?_
        rintro e w6 ⟨rfl, hr, hk⟩
        have HD6 := Lib.hid (HD5.out.other H.out hk (fun k e => by subst e; exact HGR.out) (fun k hF e => HNF.out (by rw [← e]; exact hF)))
        clear hr hk
        generalize topS (nextS s) = tt at *
        go_wp2_with fail
        refine (drawWakes_any H.out _).mono ?_
        rintro e w7 ⟨rfl, hg⟩
        have G := Lib.hid (Gr.trans HD6.out.2.2.1 hg)
        clear hg
        go_wp2_with fail
        go_ret
        exact ⟨rfl, G.out⟩
end Go.Proofs.Ytlonjmdicochnaa
