/-
  Law SomeSets, walked: as many as are asked, rising, from 0 on and below the bound.
-/
import Derived.Test.YtcbmgdkopgepdaaCw
namespace Go.Proofs.Ytcbmgdkopgepdaa
open Go.RowKit

theorem someZ_in {s n k : Nat} (h1 : n ≤ 64) (h2 : k ≤ n) : C.someZ s n k = C.some s n k := by
  unfold C.someZ
  rw [if_pos ⟨by omega, by omega, by omega, by omega⟩, Int.toNat_natCast, Int.toNat_natCast]
theorem someZ_out {s : Nat} {n k : Int} (h : ¬ C.May n k) : C.someZ s n k = [] := if_neg h
set_option maxRecDepth 100000 in
set_option maxHeartbeats 1600000 in
theorem someSets_walk {At : World → Value → (Nat → Prop) → Nat → Prop} (D : DrawOk At) (O : ChooseOk At) (sd n k : Int) (w : World) (_ : 0 ≤ sd) (_ : sd < 18446744073709551616) :
    Calls Try.prog 4 #[.int .u64 sd, .int .i64 n, .int .i64 k] w fun e w' => e = .returned (.bool true) ∧ Gr w w' := by
  have H := Lib.hid O
  have HD := Lib.hid D
  clear O D
  obtain ⟨N, hN, hN1⟩ : ∃ p : Nat, n % 65 = p ∧ p < 65 := ⟨(n % 65).toNat, by omega, by omega⟩
  obtain ⟨M, hM⟩ : ∃ M : Nat, N + 1 = M := ⟨_, rfl⟩
  have fM : (N : Int) + 1 = M := by omega
  obtain ⟨K, hK, hK1⟩ : ∃ K : Nat, k % M = K ∧ K < M := by
    have q1 := Int.emod_nonneg k (by omega : (M : Int) ≠ 0)
    have q2 := Int.emod_lt_of_pos k (by omega : (0 : Int) < M)
    exact ⟨(k % M).toNat, by omega, by omega⟩
  obtain ⟨s0, hs0, hs1⟩ : ∃ s : Nat, sd % 4294967296 = s ∧ s < 4294967296 := ⟨(sd % 4294967296).toNat, by omega, by omega⟩
  have HN := Lib.hid hN
  have HK := Lib.hid hK
  have hKN : K ≤ N := by omega
  have HSZ := Lib.hid (someZ_in (s := s0) (by omega : N ≤ 64) hKN)
  have HSA := Lib.hid (someZ_in (s := s0) (by omega : N ≤ 64) (Nat.le_refl N))
  clear hN hK
  go_enter Try.func4, Try.ntmps4
  go_wp2_with fail
  refine (within_any n 65 (by omega) (by omega) _).mono ?_
  rintro e w' ⟨rfl, rfl⟩
  rw [HN.out]
  go_wp2_with fail
  refine (within_any k M (by omega) (by omega) _).mono ?_
  rintro e w' ⟨rfl, rfl⟩
  rw [HK.out]
  go_wp2_with fail
  refine (HD.out.new s0 _ hs1).mono ?_
  rintro e w1 ⟨d, F, rfl, ha, hg1, hF⟩
  obtain ⟨ad, rfl⟩ := HD.out.ptr ha
  have HA := Lib.hid ha
  have HFW := Lib.hid hF
  have G1 := Lib.hid hg1
  clear ha hg1 hF
  go_wp2_with fail
  refine (H.out.some _ N K F s0 _ (i64_small (by omega) (by omega)) (i64_small (by omega) (by omega)) (by omega) HA.out).mono ?_
  rw [HSZ.out]
  rintro e w2 ⟨v, rfl, hz, _, _, hk⟩
  have G2 := Lib.hid (hk.gr G1.out HFW.out)
  have HZ := Lib.hid hz
  obtain ⟨o, c, rfl⟩ := hz.form
  have hlen : (C.some s0 N K).length = K := C.some_length hKN
  have HRI := Lib.hid (rising_of (C.some_sorted (s := s0) hKN))
  have HRG := Lib.hid (fun x hx => C.some_rng (s := s0) hKN hx : ∀ x, x ∈ C.some s0 N K → 0 ≤ x ∧ x < (N : Int))
  have HLE := Lib.hid hlen
  rw [hlen] at HZ ⊢
  clear hz hk hlen HA HFW
  generalize C.some s0 N K = l at *
  go_wp2_with fail
  refine (rises_any _ l _ HZ.out HRI.out (by rw [HLE.out]; omega)).mono ?_
  rintro e w3 ⟨rfl, hg3⟩
  have G3 := Lib.hid (Gr.trans G2.out hg3)
  have Z3 := Lib.hid (HZ.out.grown hg3)
  clear hg3 HZ HRI
  go_wp2
  go_loopw [34] (fun i wr => ∃ t : Nat, t ≤ K ∧ i = .int .i64 t ∧ Gr w3 wr) (fun i _ => K - (intOf i).toNat)
  case atStart => exact ⟨0, by omega, rfl, Gr.refl _⟩
  case round =>
    obtain ⟨t, ht, rfl, hg⟩ := hrel
    have HG := Lib.hid hg
    clear hg
    by_cases hlt : t < K
    · obtain ⟨a, c', he, _, _, h5⟩ := Zs.at Z3.out (by rw [HLE.out]; omega)
      rw [HLE.out] at he h5
      obtain ⟨ho, hc⟩ : o = some a ∧ c = c' := by simpa using he
      subst ho
      subst hc
      have q := cell_gr HG.out (h5 t hlt)
      have hx := HRG.out (l.getD t 0) (by
        rw [List.getD_eq_getElem?_getD, List.getElem?_eq_getElem (by rw [HLE.out]; exact hlt)]
        exact List.getElem_mem _)
      obtain ⟨x, hxx⟩ : ∃ x, l.getD t 0 = x := ⟨_, rfl⟩
      rw [hxx] at q hx
      obtain ⟨x0, x1⟩ := hx
      clear hxx h5 he
      go_wp2
      exact ⟨⟨t + 1, by omega, by go_num, HG.out⟩, by simp [intOf]; omega⟩
    · obtain rfl : t = K := by omega
      have G4 := Lib.hid (Gr.trans G3.out HG.out)
      clear HG Z3 HRG
      go_wp2_with fail
      refine (HD.out.new s0 _ hs1).mono ?_
      rintro e w5 ⟨d, F2, rfl, ha, hg5, hF⟩
      obtain ⟨ad2, rfl⟩ := HD.out.ptr ha
      have HA := Lib.hid ha
      have HFW := Lib.hid hF
      have G5 := Lib.hid hg5
      clear ha hg5 hF
      go_wp2_with fail
      refine (H.out.some _ N N F2 s0 _ (i64_small (by omega) (by omega)) (i64_small (by omega) (by omega)) (by omega) HA.out).mono ?_
      rw [HSA.out]
      rintro e w6 ⟨v6, rfl, hz, _, _, hk⟩
      have G6 := Lib.hid (Gr.trans G4.out (hk.gr G5.out HFW.out))
      obtain ⟨o6, c6, rfl⟩ := hz.form
      rw [C.some_length (Nat.le_refl N)]
      clear hz hk HA HFW G5
      go_wp2_with fail
      refine (HD.out.new s0 _ hs1).mono ?_
      rintro e w7 ⟨d, F3, rfl, ha, hg7, hF⟩
      obtain ⟨ad3, rfl⟩ := HD.out.ptr ha
      have HA := Lib.hid ha
      have HFW := Lib.hid hF
      have G7 := Lib.hid hg7
      clear ha hg7 hF
      go_wp2_with fail
      refine (H.out.some _ N M F3 s0 _ (i64_small (by omega) (by omega)) (i64_small (by omega) (by omega)) (by omega) HA.out).mono ?_
      rw [someZ_out (fun h => by have := h.2.2.2; omega)]
      rintro e w8 ⟨v8, rfl, hz, _, _, hk⟩
      have G8 := Lib.hid (Gr.trans G6.out (hk.gr G7.out HFW.out))
      obtain ⟨o8, c8, rfl⟩ := hz.form
      rw [show ([] : List Int).length = 0 from rfl]
      clear hz hk HA HFW G7
      go_wp2_with fail
      refine (chooseWakes_any HD.out H.out _).mono ?_
      rintro e w9 ⟨rfl, hg9⟩
      have G9 := Lib.hid (Gr.trans G8.out hg9)
      clear hg9
      go_wp2
      go_ret
      exact ⟨rfl, G9.out⟩
end Go.Proofs.Ytcbmgdkopgepdaa
