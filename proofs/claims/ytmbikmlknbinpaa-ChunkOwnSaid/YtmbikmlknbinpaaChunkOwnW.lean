/-
  Law ChunkOwn, walked: blocks and objects are new memory.
-/
import Derived.Test.YtmbikmlknbinpaaChunkCountsW
import Derived.Test.YtmbikmlknbinpaaMgg
import Derived.Test.YtmbikmlknbinpaaMgc
import Derived.Test.YtmbikmlknbinpaaMgh
namespace Go.Proofs.Ytmbikmlknbinpaa
open Go.RowKit

theorem Zeroing.put18 {W wr : World} {us : List Value} {g H N : Nat} (h : Zeroing W wr us g H N) {x : Addr} {v : Value} {cur : Array Value} (hx : wr.cell? x = some v) (hc : wr.heap[x.block]? = some (.cells cur 5 (0, 0))) (hb : W.heap.size ≤ x.block) (z : Int) (hz : Byt z) : Zeroing W (wr.setCell x (.int .u8 z)) us g H N := by
  obtain ⟨cur', h1⟩ := h.row
  have hne : g ≠ x.block := fun e => by
    rw [e, hc] at h1
    simp at h1
  refine ⟨fun i hi => ?_, fun i hi => ?_, ⟨cur', by rw [heap_setCell_other _ _ _ _ hne]; exact h1⟩, Gr.setCell h.gr hb _⟩
  · obtain ⟨⟨l, h1, h2⟩, h3⟩ := h.own i hi
    obtain ⟨l', h4, h5⟩ := h2.poke hx z hz
    refine ⟨⟨l', by rw [h4, h1], h5⟩, fun a m c e hm => ?_⟩
    obtain ⟨h6, cur', h7⟩ := h3 a m c e hm
    refine ⟨h6, ?_⟩
    by_cases e2 : a.block = x.block
    · rw [e2]
      simp only [World.setCell, Array.getElem?_modify, if_true, hc]
      exact ⟨_, rfl⟩
    · exact ⟨cur', by rw [heap_setCell_other _ _ _ _ e2]; exact h7⟩
  · rw [World.cell?_setCell_other _ _ _ _ (fun e => hne (by rw [e]))]
    exact h.cell i hi
theorem Zeroing.at18 {W wr : World} {us : List Value} {g H N : Nat} (h : Zeroing W wr us g H N) {i j : Nat} (hi : i < H) (hj : j < N) : ∃ a c z, us.getD i undef = .slice (some a) N c ∧ N ≤ c ∧ wr.cell? (a.add j) = some (.int .u8 z) ∧ Byt z ∧ wr.frozen? (a.add j) = false ∧ ∀ z', Byt z' → Zeroing W (wr.setCell (a.add j) (.int .u8 z')) us g H N := by
  obtain ⟨a, c, v, cur, e1, e2, e3, e4, e5, e6⟩ := h.at hi hj
  obtain ⟨⟨l, hl, hb⟩, _⟩ := h.own i hi
  rw [e1] at hb
  obtain ⟨h0, oa, c', he, h2, h3, h4, h5⟩ := hb
  simp only [Value.slice.injEq] at he
  obtain ⟨rfl, _, rfl⟩ := he
  have h6 := h5 a rfl j (by omega)
  refine ⟨a, c, l.getD j 0, e1, e2, h6, getD_byt h0 j, e4, fun z' hz' => h.put18 e3 e5 e6 z' hz'⟩
theorem Zeroing.grow18 {W wr w' : World} {us : List Value} {g H N : Nat} (h : Zeroing W wr us g H N) (hg : Gr wr w') : Zeroing W w' us g H N := by
  obtain ⟨cur', h1⟩ := h.row
  refine ⟨fun i hi => ?_, fun i hi => cell_grown hg (h.cell i hi), ⟨cur', keptRow hg h1⟩, Gr.trans h.gr hg⟩
  obtain ⟨⟨l, h1, h2⟩, h3⟩ := h.own i hi
  refine ⟨⟨l, h1, h2.grown hg⟩, fun a m c e hm => ?_⟩
  obtain ⟨h6, cur', h7⟩ := h3 a m c e hm
  exact ⟨h6, cur', keptRow hg h7⟩
theorem Zeroing.of18 {W w' : World} {o : Option Addr} {q c N : Nat} {L : List (List Int)} (h : RwsN W.heap.size w' (.slice o q c) L) (hq : L.length = q) (h0 : 0 < q) (hN : ∀ x ∈ L, x.length = N) (hg : Gr W w') : ∃ g us, o = some ⟨g, 0, none⟩ ∧ Zeroing W w' us g q N := by
  obtain ⟨us, ho, hr⟩ := h
  rw [hq] at ho hr
  obtain ⟨g, c0, he, q1, q2, q3, q4, q5⟩ := ownsRow_cell ho h0
  simp only [Value.slice.injEq] at he
  obtain ⟨rfl, -, rfl⟩ := he
  refine ⟨g, us, rfl, fun i hi => ⟨⟨_, hN _ ?_, (hr i hi).1⟩, (hr i hi).2⟩, q5, ?_, hg⟩
  · rw [List.getD_eq_getElem?_getD, List.getElem?_eq_getElem (by omega)]
    exact List.getElem_mem _
  · obtain ⟨_, ⟨he, _⟩ | ⟨g', c', cur, he, _, h1, _⟩⟩ := ho
    · cases he
    · simp only [Value.slice.injEq, Option.some.injEq, Addr.mk.injEq] at he
      obtain ⟨⟨rfl, -⟩, -⟩ := he
      exact ⟨cur, h1⟩
set_option maxRecDepth 100000 in
set_option maxHeartbeats 3200000 in
theorem chunkOwn_walk (O : ChunkOk) (a b' c' : Int) (v : Value) (l0 : List Int) (w : World) (h : Bs w v l0) :
    Calls Try.prog 6 #[.int .i64 a, .int .i64 b', .int .i64 c', v] w fun e w' => e = .returned (.bool true) ∧ Gr w w' := by
  have HO := Lib.hid O
  have HB0 := Lib.hid h
  have hmp : MayP (1 + a % 16) (1 + b' % 4) (1 + c' % 24) := by unfold MayP; omega
  obtain ⟨K, hK⟩ : ∃ K, 1 + a % 16 = K := ⟨_, rfl⟩
  obtain ⟨H, hH⟩ : ∃ K, 1 + b' % 4 = K := ⟨_, rfl⟩
  obtain ⟨S, hS⟩ : ∃ K, 1 + c' % 24 = K := ⟨_, rfl⟩
  have HPK : Hid (1 + a % 16 = K ∧ 1 + b' % 4 = H ∧ 1 + c' % 24 = S) := Lib.hid ⟨hK, hH, hS⟩
  rw [hK, hH, hS] at hmp
  have HM := Lib.hid hmp
  obtain ⟨hw1, hw2, hw3⟩ := Ck.wdt_in hmp
  obtain ⟨W, hW⟩ : ∃ W, Ck.wdt K S = W := ⟨_, rfl⟩
  rw [hW] at hw1 hw2
  have HW := Lib.hid hW
  have P0 : Hid (∀ w1 : World, Par (w1.alloc (.cells #[.int .i64 K, .int .i64 H, .int .i64 S] 23)) w1.heap.size K H S) := Lib.hid fun w1 => heap_alloc_new _ _
  obtain ⟨ov, nv, cv, rfl⟩ : ∃ o m c, v = .slice o m c := by
    obtain ⟨o, c, e⟩ := h.form
    exact ⟨o, _, c, e⟩
  clear O h hmp hK hH hS hW hw3
  go_enter Try.func6, Try.ntmps6
  go_wp2_with fail
  refine (cut_any _ l0 300 _ HB0.out (by omega)).mono ?_
  rintro e w' ⟨v1, rfl, hb1, rfl⟩
  obtain ⟨b, hb⟩ : ∃ L, l0.take 300 = L := ⟨_, rfl⟩
  have HBL : Hid (b.length ≤ 300) := Lib.hid (by rw [← hb, List.length_take]; omega)
  rw [hb] at hb1
  obtain ⟨n, hn⟩ : ∃ n, b.length = n := ⟨_, rfl⟩
  have HN := Lib.hid hn
  obtain ⟨o, c, e1⟩ := hb1.form
  rw [hn] at e1
  subst e1
  have B1 := Lib.hid hb1
  have hn6 : n ≤ 300 := by rw [← hn]; exact HBL.out
  clear hb hb1 HB0 hn
  go_wp2_with fail
  refine (params_any a b' c' _).mono ?_
  rw [HPK.out.1, HPK.out.2.1, HPK.out.2.2]
  rintro e w1 ⟨rfl, hg1⟩
  have P1 := Lib.hid (P0.out w1)
  have G1 : Hid (Gr w (w1.alloc (.cells #[.int .i64 K, .int .i64 H, .int .i64 S] 23))) := Lib.hid (Gr.alloc hg1 _ _)
  clear hg1 P0
  go_upto_region 3 with fail
  generalize w1.alloc (.cells #[.int .i64 K, .int .i64 H, .int .i64 S] 23) = W1 at *
  generalize w1.heap.size = gp at *
  have B2 := Lib.hid (B1.out.grown G1.out)
  go_wp2_with fail
  refine (copy_any o n c b _ HN.out (by omega) B2.out).mono ?_
  rintro e wA ⟨gc, rfl, hgc, hnc⟩
  have CA := Lib.hid (New.bs hnc)
  have PA := Lib.hid (P1.out.grown hnc.1)
  have GA := Lib.hid (Gr.trans G1.out hnc.1)
  have BA := Lib.hid (B2.out.grown hnc.1)
  have c0 := PA.out.cell0
  have c1 := PA.out.cell1
  have c2 := PA.out.cell2
  clear hgc hnc P1 G1 B1 B2
  go_wp2_with fail
  refine (HO.out.split K H S _ b _ (by have := HBL.out; omega) CA.out).mono ?_
  rintro e w2 ⟨u2, rfl, hr2, hg2⟩
  obtain ⟨L, hL⟩ : ∃ L, Ck.blocksP K H S b = L := ⟨_, rfl⟩
  have HLB : Hid (L = Ck.blocks W b) := Lib.hid (by rw [← hL]; unfold Ck.blocksP; rw [if_pos HM.out, HW.out])
  have HJB : Hid (Ck.JoinOk K H S L b.length ∧ Ck.joinP K H S L b.length = b) := Lib.hid (by rw [← hL]; exact Ck.join_blocks HM.out)
  rw [hL] at hr2
  obtain ⟨q, hq⟩ : ∃ q, L.length = q := ⟨_, rfl⟩
  have HQ := Lib.hid hq
  obtain ⟨o2, cc2, e2⟩ := hr2.form5
  rw [hq] at e2
  subst e2
  have hq6 : q ≤ 300 := by
    rw [← hq, HLB.out, Ck.blocks_length]
    exact Nat.le_trans (Ck.cnt_le hw1) HBL.out
  have HWI : Hid (∀ x ∈ L, x.length = W) := Lib.hid (by rw [HLB.out]; exact Ck.blocks_wide)
  have HZQ : Hid (0 < q → ∃ g us, o2 = some ⟨g, 0, none⟩ ∧ Zeroing wA w2 us g q W) := Lib.hid fun h0 => Zeroing.of18 hr2 hq h0 HWI.out hg2
  have HR2 := Lib.hid hr2.bss
  have P2 := Lib.hid (PA.out.grown hg2)
  have GA2 := Lib.hid hg2
  clear hr2 hg2 hL hq PA c0 c1 c2
  go_wp2_with fail
  refine (copies_any _ L _ HR2.out (by rw [HQ.out]; omega) (fun i hi => by
    have : L.getD i [] ∈ L := by
      rw [List.getD_eq_getElem?_getD, List.getElem?_eq_getElem hi]
      exact List.getElem_mem _
    rw [HWI.out _ this]
    omega)).mono ?_
  rintro e w3 ⟨u3, rfl, hr3, hg3⟩
  obtain ⟨o3, m3, c3, rfl⟩ : ∃ o m c, u3 = .slice o m c := by
    obtain ⟨oa, c, he, _⟩ := hr3.bss
    exact ⟨oa, _, c, he⟩
  have HC3 := Lib.hid hr3.bss
  have P3 := Lib.hid (P2.out.grown hg3)
  have G23 := Lib.hid hg3
  have HR3 := Lib.hid (HR2.out.grown hg3)
  have c0 := P3.out.cell0
  have c1 := P3.out.cell1
  have c2 := P3.out.cell2
  have hnn : ((n : Int) != (n : Int)) = false := by simp
  clear hr3 hg3 P2
  go_wp2_with fail
  refine (HO.out.join K H S _ L n _ ⟨by omega, by omega⟩ (by rw [HQ.out]; omega) (fun x hx => by rw [HWI.out x hx]; omega) HR3.out).mono ?_
  rw [← HN.out, HJB.out.2, decide_eq_true HJB.out.1, HN.out]
  rintro e w4 ⟨u4, rfl, hn4⟩
  obtain ⟨o4, c4, e4⟩ := (New.bs hn4).form
  rw [HN.out] at e4
  subst e4
  have HXW : Hid (0 < n → ∃ gx, o4 = some ⟨gx, 0, none⟩ ∧ w3.heap.size ≤ gx ∧ n ≤ c4 ∧ Wb w4 gx b) := Lib.hid fun h0 => by
    obtain ⟨g, c, e, h1, h2, _, h4⟩ := Wb.of_new hn4 (by rw [HN.out]; exact h0)
    simp only [Value.slice.injEq] at e
    obtain ⟨rfl, -, rfl⟩ := e
    exact ⟨g, rfl, h1, by rw [HN.out] at h2; exact h2, h4⟩
  have G34 := Lib.hid hn4.1
  clear hn4 c0 c1 c2 P3
  go_wp2_with fail
  go_loopw [50] (fun iv X => ∃ (i : Nat) (Y : List Int), i ≤ n ∧ iv = .int .i64 i ∧ Y.length = n ∧ (∀ z ∈ Y, Byt z) ∧ (∀ gx, o4 = some ⟨gx, 0, none⟩ → 0 < n → Wb X gx Y) ∧ Gr w3 X) (fun iv _ => n - (intOf iv).toNat)
  case atStart =>
    refine ⟨0, b, by omega, rfl, HN.out, BA.out.1, fun gx hgx h0 => ?_, G34.out⟩
    obtain ⟨g, e, _, _, h4⟩ := HXW.out h0
    rw [e] at hgx
    cases hgx
    exact h4
  case round =>
    obtain ⟨wi, hwi⟩ : ∃ x, x = wr := ⟨_, rfl⟩
    subst hwi
    obtain ⟨i, Y, hi, rfl, hyl, hyb, hyw, hg⟩ := hrel
    have HG := Lib.hid hg
    have HYL := Lib.hid hyl
    have HYB := Lib.hid hyb
    have HYW := Lib.hid hyw
    clear hg hyl hyb hyw
    by_cases hlt : i < n
    · obtain ⟨gx, rfl, hge, hnc4, _⟩ := HXW.out (by omega)
      have hwb := HYW.out gx rfl (by omega)
      have q1 := hwb.cell i (by rw [HYL.out]; exact hlt)
      have q2 := hwb.frozen i
      have HWB := Lib.hid hwb
      have HGE := Lib.hid hge
      obtain ⟨y, hy⟩ : ∃ y, Y.getD i 0 = y := ⟨_, rfl⟩
      rw [hy] at q1
      clear hwb hge hy
      go_wp2_with fail
      refine ⟨⟨i + 1, Y.set i ((y + 1) % 256), by omega, by go_num, by rw [List.length_set, HYL.out], fun z hz => ?_, fun g2 e2 _ => ?_, Gr.setCell HG.out HGE.out _⟩, by simp [intOf]; omega⟩
      · rcases List.mem_or_eq_of_mem_set hz with h | h
        · exact HYB.out z h
        · rw [h]
          unfold Byt
          omega
      · cases e2
        exact HWB.out.set i ((y + 1) % 256)
    · have HRI := Lib.hid (HR2.out.grown (Gr.trans G23.out HG.out))
      have HCI := Lib.hid (HC3.out.grown HG.out)
      go_wp2_with fail
      refine (rows_any _ _ L L _ HRI.out HCI.out).mono ?_
      rw [beq_self_eq_true]
      rintro e w6 ⟨rfl, hg6⟩
      have G26 := Lib.hid (Gr.trans G23.out (Gr.trans HG.out hg6))
      have G36 := Lib.hid (Gr.trans GA2.out G26.out)
      clear hg6
      go_wp2_with fail
      go_loopw [66] (fun iv X => ∃ t : Nat, t ≤ q ∧ iv = .int .i64 t ∧ (0 < q → ∃ g us, o2 = some ⟨g, 0, none⟩ ∧ Zeroing wA X us g q W) ∧ Gr wA X) (fun iv _ => q - (intOf iv).toNat)
      case atStart => exact ⟨0, by omega, rfl, fun h0 => by obtain ⟨g, us, e, hz⟩ := HZQ.out h0; exact ⟨g, us, e, hz.grow18 G26.out⟩, G36.out⟩
      case round =>
        obtain ⟨wo, hwo⟩ : ∃ x, x = wr := ⟨_, rfl⟩
        subst hwo
        obtain ⟨t, ht, rfl, hz, hg⟩ := hrel
        have HZ0 := Lib.hid hz
        have HGA := Lib.hid hg
        clear hz hg
        by_cases hlt2 : t < q
        · obtain ⟨g, us, rfl, hzz⟩ := HZ0.out (by omega)
          have HZ := Lib.hid hzz
          have hct := HZ.out.cell t hlt2
          obtain ⟨⟨lt, hl1, hl2⟩, _⟩ := HZ.out.own t hlt2
          obtain ⟨ot, ct, hf⟩ := hl2.form
          rw [hf, hl1] at hct
          have HF := Lib.hid hf
          clear hzz hl1 hl2 hf
          go_wp2_with fail
          clear hct
          go_loopw [74] (fun jv X => ∃ j : Nat, j ≤ W ∧ jv = .int .i64 j ∧ Zeroing wA X us g q W) (fun jv _ => W - (intOf jv).toNat)
          case atStart => exact ⟨0, by omega, rfl, HZ.out⟩
          case round =>
            clear HZ
            obtain ⟨wj, hwj⟩ : ∃ x, x = wr := ⟨_, rfl⟩
            subst hwj
            obtain ⟨j, hj, rfl, hz⟩ := hrel
            have HZ := Lib.hid hz
            by_cases hlj : j < W
            · have hct := hz.cell t hlt2
              obtain ⟨ad, cc, z, e1, e2, e3, e4, e5, e6⟩ := hz.at18 hlt2 hlj
              rw [e1] at hct
              have HZ2 := Lib.hid (e6 ((z + 1) % 256) (by unfold Byt; omega))
              clear hz e6 e1
              go_wp2_with fail
              exact ⟨⟨j + 1, by omega, by go_num, HZ2.out⟩, by simp [intOf]; omega⟩
            · obtain rfl : j = W := by omega
              clear hz
              have HGZ := Lib.hid HZ.out.gr
              go_wp2_with fail
              refine ⟨⟨t + 1, by omega, by go_num, fun _ => ⟨g, us, rfl, HZ.out⟩, HGZ.out⟩, by simp [intOf]; omega⟩
        · have HCI := Lib.hid (CA.out.grown HGA.out)
          have HBI := Lib.hid (BA.out.grown HGA.out)
          have HGW := Lib.hid (Gr.trans GA.out HGA.out)
          go_wp2_with fail
          refine (same_any _ _ b b _ HCI.out HBI.out).mono ?_
          rw [beq_self_eq_true]
          rintro e w8 ⟨rfl, hg8⟩
          have G8 := Lib.hid (Gr.trans HGW.out hg8)
          clear hg8
          go_wp2_with fail
          refine (chunkWakes_any HO.out _).mono ?_
          rintro e w9 ⟨rfl, hg9⟩
          have G9 := Lib.hid (Gr.trans G8.out hg9)
          clear hg9
          go_wp2_with fail
          go_ret
          exact ⟨rfl, G9.out⟩
end Go.Proofs.Ytmbikmlknbinpaa
