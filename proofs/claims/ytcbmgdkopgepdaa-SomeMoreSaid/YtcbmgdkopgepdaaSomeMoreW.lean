/-
  Law SomeMore, walked: who chooses one more has the others, too.
-/
import Derived.Test.YtcbmgdkopgepdaaSomeSetsW
namespace Go.Proofs.Ytcbmgdkopgepdaa
open Go.RowKit

set_option maxRecDepth 100000 in
set_option maxHeartbeats 1600000 in
theorem someMore_walk {At : World → Value → (Nat → Prop) → Nat → Prop} (D : DrawOk At) (O : ChooseOk At) (sd n k : Int) (w : World) (_ : 0 ≤ sd) (_ : sd < 18446744073709551616) :
    Calls Try.prog 5 #[.int .u64 sd, .int .i64 n, .int .i64 k] w fun e w' => e = .returned (.bool true) ∧ Gr w w' := by
  have H := Lib.hid O
  have HD := Lib.hid D
  clear O D
  obtain ⟨pw, hp, hp2⟩ : ∃ p : Nat, n % 64 = p ∧ p < 64 := ⟨(n % 64).toNat, by omega, by omega⟩
  obtain ⟨N, hN, hN1, hN2⟩ : ∃ N : Nat, (1 : Int) + pw = N ∧ 1 ≤ N ∧ N ≤ 64 := ⟨1 + pw, by omega, by omega, by omega⟩
  obtain ⟨K, hK, hK1⟩ : ∃ K : Nat, k % N = K ∧ K < N := by
    have q1 := Int.emod_nonneg k (by omega : (N : Int) ≠ 0)
    have q2 := Int.emod_lt_of_pos k (by omega : (0 : Int) < N)
    exact ⟨(k % N).toNat, by omega, by omega⟩
  obtain ⟨s0, hs0, hs1⟩ : ∃ s : Nat, sd % 4294967296 = s ∧ s < 4294967296 := ⟨(sd % 4294967296).toNat, by omega, by omega⟩
  obtain ⟨M, hM⟩ : ∃ M : Nat, K + 1 = M := ⟨_, rfl⟩
  have fM : (K : Int) + 1 = M := by omega
  have HP := Lib.hid hp
  have HK := Lib.hid hK
  have HSZ := Lib.hid (someZ_in (s := s0) hN2 (by omega : K ≤ N))
  have HSA := Lib.hid (someZ_in (s := s0) hN2 (by omega : M ≤ N))
  have HMO : Hid (∀ x, x ∈ C.some s0 N K → x ∈ C.some s0 N M) := Lib.hid (fun x hx => by rw [← hM]; exact C.some_more hK1 hx)
  clear hp hK
  go_enter Try.func5, Try.ntmps5
  go_wp2_with fail
  refine (within_any n 64 (by omega) (by omega) _).mono ?_
  rintro e w' ⟨rfl, rfl⟩
  rw [HP.out]
  go_wp2_with fail
  refine (within_any k N (by omega) (by omega) _).mono ?_
  rintro e w' ⟨rfl, rfl⟩
  rw [HK.out]
  go_wp2_with fail
  refine (HD.out.new s0 _ hs1).mono ?_
  rintro e w1 ⟨d, F, rfl, ha, hg1, hF⟩
  obtain ⟨ad, rfl⟩ := HD.out.ptr ha
  have HA := Lib.hid ha
  have HFW := Lib.hid hF
  have G1 := Lib.hid hg1
  clear ha hg1 hF
  go_wp2_with fail
  refine (H.out.some _ N K F s0 _ (i64_small (by omega) (by omega)) (i64_small (by omega) (by omega)) (by omega) HA.out).mono ?_
  rw [HSZ.out]
  rintro e w2 ⟨v, rfl, hz, _, _, hk⟩
  have G2 := Lib.hid (hk.gr G1.out HFW.out)
  have HZ := Lib.hid hz
  obtain ⟨o, c, rfl⟩ := hz.form
  have hlen : (C.some s0 N K).length = K := C.some_length (by omega)
  have HLE := Lib.hid hlen
  rw [hlen] at HZ ⊢
  clear hz hk hlen HA HFW G1
  go_wp2_with fail
  refine (HD.out.new s0 _ hs1).mono ?_
  rintro e w3 ⟨d, F2, rfl, ha, hg3, hF⟩
  obtain ⟨ad2, rfl⟩ := HD.out.ptr ha
  have HA := Lib.hid ha
  have HFW := Lib.hid hF
  have G3 := Lib.hid hg3
  clear ha hg3 hF
  go_wp2_with fail
  refine (H.out.some _ N M F2 s0 _ (i64_small (by omega) (by omega)) (i64_small (by omega) (by omega)) (by omega) HA.out).mono ?_
  rw [HSA.out]
  rintro e w4 ⟨v2, rfl, hz2, _, _, hk⟩
  have G4 := Lib.hid (hk.gr G3.out HFW.out)
  have HZ2 := Lib.hid hz2
  obtain ⟨o2, c2, rfl⟩ := hz2.form
  have hlen2 : (C.some s0 N M).length = M := C.some_length (by omega)
  have HLE2 := Lib.hid hlen2
  rw [hlen2] at HZ2 ⊢
  have Z4 := Lib.hid (HZ.out.grown G4.out)
  have G5 := Lib.hid (Gr.trans G2.out G4.out)
  clear hz2 hk hlen2 HA HFW G3 HZ G2 G4
  generalize C.some s0 N K = l at *
  generalize C.some s0 N M = l2 at *
  go_wp2
  go_loopw [43] (fun i wr => ∃ t : Nat, t ≤ K ∧ i = .int .i64 t ∧ Gr w4 wr) (fun i _ => K - (intOf i).toNat)
  case atStart => exact ⟨0, by omega, rfl, Gr.refl _⟩
  case round =>
    obtain ⟨t, ht, rfl, hg⟩ := hrel
    have HG := Lib.hid hg
    clear hg
    by_cases hlt : t < K
    · obtain ⟨a, c', he, _, _, h5⟩ := Zs.at Z4.out (by rw [HLE.out]; omega)
      rw [HLE.out] at he h5
      obtain ⟨ho, hc⟩ : o = some a ∧ c = c' := by simpa using he
      subst ho
      subst hc
      have q := cell_gr HG.out (h5 t hlt)
      have hx := HMO.out (l.getD t 0) (by
        rw [List.getD_eq_getElem?_getD, List.getElem?_eq_getElem (by rw [HLE.out]; exact hlt)]
        exact List.getElem_mem _)
      obtain ⟨x, hxx⟩ : ∃ x, l.getD t 0 = x := ⟨_, rfl⟩
      rw [hxx] at q hx
      have HX := Lib.hid hx
      clear hxx h5 he hx
      go_wp2_with fail
      refine (member_any _ l2 x _ (HZ2.out.grown HG.out) HX.out (by rw [HLE2.out]; omega)).mono ?_
      rintro e w6 ⟨rfl, hg6⟩
      have G6 := Lib.hid (Gr.trans HG.out hg6)
      clear hg6
      go_wp2
      exact ⟨⟨t + 1, by omega, by go_num, G6.out⟩, by simp [intOf]; omega⟩
    · obtain rfl : t = K := by omega
      go_wp2_with fail
      refine (chooseWakes_any HD.out H.out _).mono ?_
      rintro e w9 ⟨rfl, hg9⟩
      have G9 := Lib.hid (Gr.trans G5.out (Gr.trans HG.out hg9))
      clear hg9
      go_wp2
      go_ret
      exact ⟨rfl, G9.out⟩
end Go.Proofs.Ytcbmgdkopgepdaa
