/-
  Law DrawApart, walked.
-/
import Derived.Test.YtlonjmdicochnaaUs
import Derived.Test.YtlonjmdicochnaaRef
namespace Go.Proofs.Ytlonjmdicochnaa
open Go.RowKit

set_option maxRecDepth 100000 in
set_option maxHeartbeats 3200000 in
theorem drawApart_walk {At : World → Value → (Nat → Prop) → Nat → Prop} (O : DrawOk At) (sd nn kk : Int) (w : World) (_ : 0 ≤ sd) (_ : sd < 18446744073709551616) (hN : nn < 9223372036854775808 ∧ -9223372036854775808 ≤ nn) :
    Calls Try.prog 5 #[.int .u64 sd, .int .i64 nn, .int .i64 kk] w fun e w' => e = .returned (.bool true) ∧ Gr w w' := by
  obtain ⟨i0, hi0, hz0, hz1, hz2⟩ := info_parts' infoU
  have I0 := Lib.hid hi0
  have I1 := Lib.hid hz0
  have I2 := Lib.hid hz1
  have I3 := Lib.hid hz2
  clear hi0 hz0 hz1 hz2
  have H := Lib.hid O
  obtain ⟨s0, hs0, hs1⟩ : ∃ s : Nat, sd % 4294967296 = s ∧ s < 4294967296 := ⟨(sd % 4294967296).toNat, by omega, by omega⟩
  obtain ⟨p, hp, hp1⟩ : ∃ p : Nat, nn % 50 = p ∧ p < 50 := ⟨(nn % 50).toNat, by omega, by omega⟩
  obtain ⟨q, hq, hq1⟩ : ∃ q : Nat, kk % 20 = q ∧ q < 20 := ⟨(kk % 20).toNat, by omega, by omega⟩
  have HN := Lib.hid hN
  have HP := Lib.hid hp
  have HQ := Lib.hid hq
  clear O hp hq hN
  go_enter Try.func5, Try.ntmps5
  go_wp2_with fail
  refine (H.out.new s0 _ hs1).mono ?_
  rintro e w1 ⟨d, F, rfl, ha, hg1, hF⟩
  obtain ⟨ad, rfl⟩ := H.out.ptr ha
  have HD1 : Hid (Dr At w w1 (.pointer (some ad)) F s0) := Lib.hid ⟨ha, hF, hg1, by omega⟩
  clear ha hg1 hF
  rw [hs0]
  clear hs0
  go_wp2
  go_loopw [8] (fun i wr => ∃ (ii s : Nat), ii ≤ p ∧ i = .int .i64 ii ∧ Dr At w wr (.pointer (some ad)) F s) (fun i _ => p - (intOf i).toNat)
  case atStart => exact ⟨0, s0, by omega, rfl, HD1.out⟩
  case round =>
    clear HD1
    obtain ⟨ii, s, hii, rfl, hd⟩ := hrel
    have HD := Lib.hid hd
    clear hd
    by_cases hlt : ii < p
    · go_wp2_with fail
      refine (within_any nn 50 (by omega) (by omega) _).mono ?_
      rintro e w' ⟨rfl, rfl⟩
      rw [HP.out]
      go_wp2_with fail
      refine (H.out.next _ F s _ HD.out.2.2.2 HD.out.1).mono ?_
      rintro e w5 ⟨rfl, ha, hk⟩
      have HD5 := Lib.hid (HD.out.step ha hk (nextS_lt s))
      clear ha hk
      go_wp2
      exact ⟨⟨ii + 1, nextS s, by omega, by go_num, HD5.out⟩, by simp [intOf]; omega⟩
    · obtain rfl : p = ii := by omega
      go_wp2_with fail
      refine (within_any nn 50 (by omega) (by omega) _).mono ?_
      rintro e w' ⟨rfl, rfl⟩
      rw [HP.out]
      go_wp2_with fail
      refine (H.out.clone _ F s _ HD.out.2.2.2 HD.out.1).mono ?_
      rintro e w5 ⟨c, F', rfl, ha, hg, hF⟩
      obtain ⟨ac, rfl⟩ := H.out.ptr ha
      have HD5 := Lib.hid (HD.out.grown H.out hg)
      have HC5 : Hid (Dr At w w5 (.pointer (some ac)) F' s) := Lib.hid ⟨ha, fun k hk => Nat.le_trans HD.out.2.2.1.size (hF k hk), Gr.trans HD.out.2.2.1 hg, HD.out.2.2.2⟩
      have HFF : Hid (∀ k, F k → ¬ F' k) := Lib.hid (fun k h1 h2 => by
        have := H.out.lt HD.out.1 k h1
        have := hF k h2
        omega)
      have HL1 : Hid (∀ k, F k → k < w5.heap.size) := Lib.hid (H.out.lt HD5.out.1)
      have HL2 : Hid (∀ k, F' k → k < w5.heap.size) := Lib.hid (H.out.lt ha)
      have HSZ : Hid (w.heap.size ≤ w5.heap.size) := Lib.hid HD5.out.2.2.1.size
      clear ha hg hF HD
      go_wp2_with fail
      refine (within_any kk 20 (by omega) (by omega) _).mono ?_
      rintro e w' ⟨rfl, rfl⟩
      rw [HQ.out]
      go_wp2
      obtain ⟨M, hM, hM1, hM2⟩ : ∃ M : Nat, (1 : Int) + q = M ∧ 1 ≤ M ∧ M ≤ 20 := ⟨1 + q, by omega, by omega, by omega⟩
      rw [hM]
      clear hM
      go_loopw [10, 13] (fun a i wr => ∃ ii : Nat, ii ≤ M ∧ i = .int .i64 ii ∧ wr.ownsRow w5.heap.size 26 1 a ii ((outs s ii).map (Value.int .u32)) ∧ Dr At w wr (.pointer (some ad)) F s ∧ Dr At w wr (.pointer (some ac)) F' (sq s ii) ∧ w5.heap.size ≤ wr.heap.size) (fun _ i _ => M - (intOf i).toNat)
      case atStart => exact ⟨0, by omega, rfl, World.ownsRow_nil _ _ _ _, HD5.out, HC5.out, Nat.le_refl _⟩
      case round =>
        clear HD5 HC5
        obtain ⟨ii, hii, rfl, hown, hd, hc, hsz⟩ := hrel
        have HD := Lib.hid hd
        have HC := Lib.hid hc
        obtain ⟨oo, co, rfl⟩ := ownsRow_form' hown
        have HO := Lib.hid hown
        clear hd hc hown
        by_cases hlt : ii < M
        · go_wp2_with fail
          refine (H.out.next _ F' _ _ HC.out.2.2.2 HC.out.1).mono ?_
          rintro e w6 ⟨rfl, ha, hk⟩
          have HC6 := Lib.hid (HC.out.step ha hk (nextS_lt _))
          have HD6 := Lib.hid (HD.out.other H.out hk HC.out.2.1 (fun k h1 h2 => HFF.out k h1 h2))
          have HO6 := Lib.hid (ownsRow_kp HO.out hk HL2.out)
          have hsz6 : w5.heap.size ≤ w6.heap.size := Nat.le_trans hsz hk.size
          have HCS : Hid ((outs s ii).map (Value.int .u32) ++ [.int .u32 ((topS (nextS (sq s ii)) : Nat) : Int)] = (outs s (ii + 1)).map (Value.int .u32)) := Lib.hid (by rw [outs_succ, List.map_append]; rfl)
          clear ha hk
          generalize (outs s ii).map (Value.int .u32) = cs at *
          generalize ((topS (nextS (sq s ii)) : Nat) : Int) = tt at *
          go_wp2_with (at_builtin; refine wpList_append_lies _ rfl _ _ _ rfl w5.heap.size 26 i0 _ 1 4 Try.underlying38 I0.out I1.out I2.out I3.out rfl (by omega) (.slice oo ii co) ii cs rfl (HO6.out.alloc _) ⟨w6.heap.size, 0, none⟩ 1 1 [.int .u32 tt] rfl rfl (World.news_of_block (cs := #[.int .u32 tt]) (t := 26) (fr := (0, 0)) (heap_alloc_new w6 _)) (by simp [Value.oneCell']) (by omega) (by unfold maxLen; omega) (by omega) (by simp; omega) (w6.heap.size + 1) (by simp) ?_; intro gg cap w7 hown1 hgrow hat hlt7)
          have hk7 : Kp (fun _ => False) w6 (w6.alloc (.cells #[.int .u32 tt] 26)) := (Gr.alloc (Gr.refl _) _ _).kp _
          have hr7 : ∀ k, (Value.slice oo ii co).ownBlock = some k → w5.heap.size ≤ k := ownsRow_base' HO6.out
          have hg7 : Kp (fun k => w5.heap.size ≤ k) (w6.alloc (.cells #[.int .u32 tt] 26)) w7 := ⟨hgrow.os, hgrow.tape, hgrow.output, hgrow.size, fun k hk hn => hgrow.block k hk fun e => hn (hr7 k e.symm)⟩
          have hkk : Kp (fun k => w5.heap.size ≤ k) w6 w7 := (hk7.mono (fun _ e => e.elim)).trans hg7 (fun _ e => .inl e)
          have hx1 : ∀ k, w5.heap.size ≤ k → w.heap.size ≤ k := fun k e => Nat.le_trans HSZ.out e
          have hx2 : ∀ k, F k → ¬ w5.heap.size ≤ k := fun k e => by have := HL1.out k e; omega
          have hx3 : ∀ k, F' k → ¬ w5.heap.size ≤ k := fun k e => by have := HL2.out k e; omega
          have hsz7 := hkk.size
          exact ⟨⟨ii + 1, by omega, by go_num, by rw [← HCS.out]; exact hown1, HD6.out.other H.out hkk hx1 hx2, HC6.out.other H.out hkk hx1 hx3, by omega⟩, by simp [intOf]; omega⟩
        · obtain rfl : M = ii := by omega
          obtain ⟨w6, hw6⟩ : ∃ x, x = wr := ⟨_, rfl⟩
          subst hw6
          go_wp2
          go_loopw [11, 14] (fun b i wr => ∃ jj : Nat, jj ≤ M ∧ i = .int .i64 jj ∧ wr.ownsRow w6.heap.size 26 1 b jj ((outs s jj).map (Value.int .u32)) ∧ Dr At w wr (.pointer (some ad)) F (sq s jj) ∧ Kp F w6 wr) (fun _ i _ => M - (intOf i).toNat)
          case atStart => exact ⟨0, by omega, rfl, World.ownsRow_nil _ _ _ _, HD.out, Kp.refl _ _⟩
          case round =>
            clear HD
            obtain ⟨jj, hjj, rfl, hown, hd, hkp⟩ := hrel
            have HD := Lib.hid hd
            obtain ⟨ob, cb, rfl⟩ := ownsRow_form' hown
            have HB := Lib.hid hown
            have HK := Lib.hid hkp
            have hsz6 : w6.heap.size ≤ wr.heap.size := hkp.size
            clear hd hown hkp
            by_cases hlt : jj < M
            · go_wp2_with fail
              refine (H.out.next _ F _ _ HD.out.2.2.2 HD.out.1).mono ?_
              rintro e w8 ⟨rfl, ha, hk⟩
              have HD8 := Lib.hid (HD.out.step ha hk (nextS_lt _))
              have HB8 := Lib.hid (ownsRow_kp HB.out hk (fun k e => Nat.lt_of_lt_of_le (HL1.out k e) hsz))
              have HK8 := Lib.hid (HK.out.trans hk (fun k e => .inl e))
              have hsz8 : w6.heap.size ≤ w8.heap.size := Nat.le_trans hsz6 hk.size
              have HCS : Hid ((outs s jj).map (Value.int .u32) ++ [.int .u32 ((topS (nextS (sq s jj)) : Nat) : Int)] = (outs s (jj + 1)).map (Value.int .u32)) := Lib.hid (by rw [outs_succ, List.map_append]; rfl)
              clear ha hk
              generalize hcs : (outs s jj).map (Value.int .u32) = cs at *
              generalize ((topS (nextS (sq s jj)) : Nat) : Int) = tt at *
              clear hcs
              go_wp2_with (at_builtin; refine wpList_append_lies _ rfl _ _ _ rfl w6.heap.size 26 i0 _ 1 4 Try.underlying38 I0.out I1.out I2.out I3.out rfl (by omega) (.slice ob jj cb) jj cs rfl (HB8.out.alloc _) ⟨w8.heap.size, 0, none⟩ 1 1 [.int .u32 tt] rfl rfl (World.news_of_block (cs := #[.int .u32 tt]) (t := 26) (fr := (0, 0)) (heap_alloc_new w8 _)) (by simp [Value.oneCell']) (by omega) (by unfold maxLen; omega) (by omega) (by simp; omega) (w8.heap.size + 1) (by simp) ?_; intro gg cap w7 hown1 hgrow hat hlt7)
              have hr7 : ∀ k, (Value.slice ob jj cb).ownBlock = some k → w6.heap.size ≤ k := ownsRow_base' HB8.out
              have hg7 : Kp (fun k => w6.heap.size ≤ k) (w8.alloc (.cells #[.int .u32 tt] 26)) w7 := ⟨hgrow.os, hgrow.tape, hgrow.output, hgrow.size, fun k hk hn => hgrow.block k hk fun e => hn (hr7 k e.symm)⟩
              have hkk : Kp (fun k => w6.heap.size ≤ k) w8 w7 := ((Kp.refl (fun k => w6.heap.size ≤ k) w8).alloc _ _).trans hg7 (fun _ e => .inl e)
              have hx1 : ∀ k, w6.heap.size ≤ k → w.heap.size ≤ k := fun k e => Nat.le_trans (Nat.le_trans HSZ.out hsz) e
              have hx2 : ∀ k, F k → ¬ w6.heap.size ≤ k := fun k e => by have := HL1.out k e; omega
              exact ⟨⟨jj + 1, by omega, by go_num, by rw [← HCS.out]; exact hown1, HD8.out.other H.out hkk hx1 hx2, HK8.out.trans hkk (fun k e => .inr e)⟩, by simp [intOf]; omega⟩
            · obtain rfl : M = jj := by omega
              have HUA := Lib.hid (ownsRow_us (ownsRow_kp HO.out HK.out HL1.out) (outs_length s M))
              have HUB := Lib.hid (ownsRow_us HB.out (outs_length s M))
              go_wp2_with fail
              refine (sameU_any _ _ (outs s M) (outs s M) _ HUA.out HUB.out).mono ?_
              rintro e w9 ⟨rfl, hg⟩
              rw [show (outs s M == outs s M) = true by simp]
              have G9 := Lib.hid (Gr.trans HD.out.2.2.1 hg)
              clear hg
              go_wp2_with fail
              refine (H.out.nextNil _).mono ?_
              rintro e w10 ⟨rfl, hg⟩
              have G10 := Lib.hid (Gr.trans G9.out hg)
              clear hg
              go_wp2_with fail
              refine (H.out.belowNil _ _ HN.out.1 HN.out.2).mono ?_
              rintro e w11 ⟨rfl, hg⟩
              have G11 := Lib.hid (Gr.trans G10.out hg)
              clear hg
              go_wp2_with fail
              refine (H.out.cloneNil _).mono ?_
              rintro e w12 ⟨rfl, hg⟩
              have G12 := Lib.hid (Gr.trans G11.out hg)
              clear hg
              go_wp2_with fail
              refine (drawWakes_any H.out _).mono ?_
              rintro e w13 ⟨rfl, hg⟩
              have G13 := Lib.hid (Gr.trans G12.out hg)
              clear hg
              go_wp2_with fail
              go_ret
              exact ⟨rfl, G13.out⟩
end Go.Proofs.Ytlonjmdicochnaa
