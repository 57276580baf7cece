/-
  Law RecordApart, walked: records that are unlike in any part have unlike cells.
-/
import Derived.Test.YtjkfiimlaigdhaaDoorMgi
import Derived.Test.YtjkfiimlaigdhaaDoorMgj
import Derived.Deep.DeepCutAuto
import Derived.Deep.CutBlock
namespace Go.Proofs.YtjkfiimlaigdhaaDoor
open Go.RowKit

theorem fit_may {r : Rcd} {d : List Int} (h : MayR r d) (hs : r.s < 4294967296) : r.Fit := by
  obtain ⟨⟨a1, a2⟩, ⟨a3, a4⟩, ⟨a5, a6⟩, ⟨a7, a8⟩, ⟨a9, a10⟩, ⟨a11, a12⟩, a13⟩ := rec_bounds h
  unfold Rcd.Fit I64
  omega
set_option maxRecDepth 100000 in
set_option maxHeartbeats 3200000 in
theorem recordApart_walk (object block id a b c x sd what vv : Int) (w : World) (O : RecOk w) :
    Calls Tryd.prog 6 #[.int .i64 object, .int .i64 block, .int .i64 id, .int .i64 a, .int .i64 b, .int .i64 c, .int .i64 x, .int .u64 sd, .int .i64 what, .int .i64 vv] w fun e w' => e = .returned (.bool true) ∧ Gr w w' := by
  have HO := Lib.hid O
  obtain ⟨m, hm6, hm7⟩ : ∃ m : Nat, what % 6 = m ∧ m < 6 := ⟨(what % 6).toNat, by omega, by omega⟩
  have HM6 := Lib.hid hm6
  clear O hm6
  go_enter Tryd.func6, Tryd.ntmps6
  go_wp2_with fail
  refine (made_any5 object block id a b c x sd _).mono ?_
  rintro e w1 ⟨s0, u1, d, he, hs, hd, hn⟩
  have hm := madeR_may object block id a b c s0 d hd
  have hf := madeR_fit object block id a b c s0 hs
  have hss : (madeR object block id a b c s0).s = s0 := rfl
  obtain ⟨r, hr⟩ : ∃ r, madeR object block id a b c s0 = r := ⟨_, rfl⟩
  rw [hr] at he hm hf hss
  obtain ⟨ro, rb, ri, K, H', S, s⟩ := r
  simp only at hss
  subst hss
  obtain ⟨o1, n1, c1, rfl⟩ := New.form3 hn
  obtain rfl : e = .returned (.agg #[.int .i64 ro, .int .i64 rb, .int .i64 ri, .int .i64 K, .int .i64 H', .int .i64 S, .int .u32 (s : Int), (.slice o1 n1 c1)]) := he
  have HDL : Hid (d.length ≤ 24) := Lib.hid (by omega)
  have HM := Lib.hid hm
  have HF := Lib.hid hf
  have HT := Lib.hid (isR_put hm hs)
  have HSB := Lib.hid hs
  have A1 : Hid (RcAt (w1.alloc (.cells #[.int .i64 ro, .int .i64 rb, .int .i64 ri, .int .i64 K, .int .i64 H', .int .i64 S, .int .u32 (s : Int), (.slice o1 n1 c1)] 27)) w1.heap.size ⟨ro, rb, ri, K, H', S, s⟩ (.slice o1 n1 c1)) := Lib.hid (heap_alloc_new _ _)
  have G1 : Hid (Gr w (w1.alloc (.cells #[.int .i64 ro, .int .i64 rb, .int .i64 ri, .int .i64 K, .int .i64 H', .int .i64 S, .int .u32 (s : Int), (.slice o1 n1 c1)] 27))) := Lib.hid (Gr.alloc hn.1 _ _)
  have B1 := Lib.hid ((New.bs hn).grown (Gr.alloc (Gr.refl _) (#[.int .i64 ro, .int .i64 rb, .int .i64 ri, .int .i64 K, .int .i64 H', .int .i64 S, .int .u32 (s : Int), (.slice o1 n1 c1)]) 27))
  clear hr hm hf hs hd hn
  go_upto_region 2 with fail
  generalize (w1.alloc (.cells #[.int .i64 ro, .int .i64 rb, .int .i64 ri, .int .i64 K, .int .i64 H', .int .i64 S, .int .u32 (s : Int), (.slice o1 n1 c1)] 27)) = W1 at *
  generalize w1.heap.size = g1 at *
  obtain ⟨p0, p1, p2, p3, p4, p5, p6, p7⟩ := A1.out.cell
  simp only at p0 p1 p2 p3 p4 p5 p6
  go_upto_region 3 with fail
  have G12 : Hid (Gr W1 (W1.alloc (.cells #[.int .i64 ro, .int .i64 rb, .int .i64 ri, .int .i64 K, .int .i64 H', .int .i64 S, .int .u32 (s : Int), (.slice o1 n1 c1)] 27))) := Lib.hid (Gr.alloc (Gr.refl _) _ _)
  have Q2 : Hid (RcAt (W1.alloc (.cells #[.int .i64 ro, .int .i64 rb, .int .i64 ri, .int .i64 K, .int .i64 H', .int .i64 S, .int .u32 (s : Int), (.slice o1 n1 c1)] 27)) W1.heap.size ⟨ro, rb, ri, K, H', S, s⟩ (.slice o1 n1 c1)) := Lib.hid (heap_alloc_new _ _)
  have HN1 : Hid (d.length = n1 ∧ 1 ≤ n1 ∧ n1 ≤ 24) := Lib.hid (by
    obtain ⟨_, _, e⟩ := B1.out.form
    have h := HM.out.2.2.2.2.2
    simp only [Value.slice.injEq] at e
    have h2 := h.2
    have h3 := h.1
    unfold MayP at h3
    simp only at h2 h3
    have h4 := e.2.1
    omega)
  clear p0 p1 p2 p3 p4 p5 p6 p7
  generalize (W1.alloc (.cells #[.int .i64 ro, .int .i64 rb, .int .i64 ri, .int .i64 K, .int .i64 H', .int .i64 S, .int .u32 (s : Int), (.slice o1 n1 c1)] 27)) = W2 at *
  generalize hg2 : W1.heap.size = g2 at Q2 ⊢
  have HGE : Hid (W1.heap.size ≤ g2) := Lib.hid (Nat.le_of_eq hg2)
  obtain ⟨p0, p1, p2, p3, p4, p5, p6, p7⟩ := Q2.out.cell
  obtain ⟨f0, f1, f2, f3, f4, f5, f6, f7⟩ := Q2.out.frozen
  simp only at p0 p1 p2 p3 p4 p5 p6
  go_wp2_with fail
  refine (within_any what 6 (by omega) (by omega) _).mono ?_
  rw [HM6.out]
  rintro e w' ⟨rfl, rfl⟩
  go_upto_block 0 with fail
  go_cut [] (fun wx => ∃ (r2 : Rcd) (v2 : Value) (d2 : List Int), RcAt wx g2 r2 v2 ∧ Bs wx v2 d2 ∧ MayR r2 d2 ∧ r2.s < 4294967296 ∧ Gr W1 wx)
  case first =>
    have hcs : m = 0 ∨ m = 1 ∨ m = 2 ∨ m = 3 ∨ m = 4 ∨ m = 5 := by omega
    rcases hcs with rfl | rfl | rfl | rfl | rfl | rfl
    · obtain ⟨y, hy, hy1, hy2⟩ : ∃ y : Int, vv % 16777216 = y ∧ 0 ≤ y ∧ y < 16777216 := ⟨_, rfl, by omega, by omega⟩
      have HY := Lib.hid hy
      have QZ := Lib.hid (Q2.out.set_o y)
      have GZ := Lib.hid (G12.out.setCell (a := ⟨g2, 0, none⟩) HGE.out (.int .i64 y))
      have MZ : Hid (MayR ⟨y, rb, ri, K, H', S, s⟩ d) := Lib.hid (by obtain ⟨h1, h2, h3, h4, h5, h6, h7⟩ := HM.out; refine ⟨?_, ?_, ?_, ?_, ?_, h6, h7⟩ <;> (unfold MayI at *; simp only at *; omega))
      clear hy
      go_wp2_with fail
      refine (within_big vv 16777216 (by omega) (by omega) _).mono ?_
      rw [HY.out]
      rintro e w' ⟨rfl, rfl⟩
      go_wp2_with fail
      go_meet
      exact ⟨_, _, d, QZ.out, B1.out.grown GZ.out, MZ.out, HSB.out, GZ.out⟩
    · obtain ⟨y, hy, hy1, hy2⟩ : ∃ y : Int, vv % 8 = y ∧ 0 ≤ y ∧ y < 8 := ⟨_, rfl, by omega, by omega⟩
      have HY := Lib.hid hy
      have QZ := Lib.hid (Q2.out.set_b y)
      have GZ := Lib.hid (G12.out.setCell (a := ⟨g2, 1, none⟩) HGE.out (.int .i64 y))
      have MZ : Hid (MayR ⟨ro, y, ri, K, H', S, s⟩ d) := Lib.hid (by obtain ⟨h1, h2, h3, h4, h5, h6, h7⟩ := HM.out; refine ⟨?_, ?_, ?_, ?_, ?_, h6, h7⟩ <;> (unfold MayI at *; simp only at *; omega))
      clear hy
      go_wp2_with fail
      refine (within_any vv 8 (by omega) (by omega) _).mono ?_
      rw [HY.out]
      rintro e w' ⟨rfl, rfl⟩
      go_wp2_with fail
      go_meet
      exact ⟨_, _, d, QZ.out, B1.out.grown GZ.out, MZ.out, HSB.out, GZ.out⟩
    · obtain ⟨y, hy, hy1, hy2⟩ : ∃ y : Int, vv % 65536 = y ∧ 0 ≤ y ∧ y < 65536 := ⟨_, rfl, by omega, by omega⟩
      have HY := Lib.hid hy
      have QZ := Lib.hid (Q2.out.set_i y)
      have GZ := Lib.hid (G12.out.setCell (a := ⟨g2, 2, none⟩) HGE.out (.int .i64 y))
      have MZ : Hid (MayR ⟨ro, rb, y, K, H', S, s⟩ d) := Lib.hid (by obtain ⟨h1, h2, h3, h4, h5, h6, h7⟩ := HM.out; refine ⟨?_, ?_, ?_, ?_, ?_, h6, h7⟩ <;> (unfold MayI at *; simp only at *; omega))
      clear hy
      go_wp2_with fail
      refine (within_any vv 65536 (by omega) (by omega) _).mono ?_
      rw [HY.out]
      rintro e w' ⟨rfl, rfl⟩
      go_wp2_with fail
      go_meet
      exact ⟨_, _, d, QZ.out, B1.out.grown GZ.out, MZ.out, HSB.out, GZ.out⟩
    · obtain ⟨y, hy, hy1, hy2⟩ : ∃ y : Int, vv % 16 = y ∧ 0 ≤ y ∧ y < 16 := ⟨_, rfl, by omega, by omega⟩
      have HY := Lib.hid hy
      have QZ := Lib.hid (Q2.out.set_K (1 + y))
      have GZ := Lib.hid (G12.out.setCell (a := ⟨g2, 3, none⟩) HGE.out (.int .i64 (1 + y)))
      have MZ : Hid (MayR ⟨ro, rb, ri, 1 + y, H', S, s⟩ d) := Lib.hid (by obtain ⟨h1, h2, h3, h4, h5, h6, h7⟩ := HM.out; refine ⟨h1, h2, h3, h4, h5, ?_, h7⟩; unfold MayP at *; simp only at *; omega)
      clear hy
      go_wp2_with fail
      refine (within_any vv 16 (by omega) (by omega) _).mono ?_
      rw [HY.out]
      rintro e w' ⟨rfl, rfl⟩
      go_wp2_with fail
      go_meet
      exact ⟨_, _, d, QZ.out, B1.out.grown GZ.out, MZ.out, HSB.out, GZ.out⟩
    · obtain ⟨y, hy, hy2⟩ : ∃ y : Nat, IntKind.u32.wrap vv = y ∧ y < 4294967296 := ⟨(vv % 4294967296).toNat, by simp [IntKind.wrap, IntKind.bits, IntKind.signed]; omega, by omega⟩
      have QZ := Lib.hid (Q2.out.set_s y)
      have GZ := Lib.hid (G12.out.setCell (a := ⟨g2, 6, none⟩) HGE.out (.int .u32 (y : Int)))
      have MZ : Hid (MayR ⟨ro, rb, ri, K, H', S, y⟩ d) := Lib.hid HM.out
      go_wp2_with fail
      go_meet
      exact ⟨_, _, d, QZ.out, B1.out.grown GZ.out, MZ.out, hy2, GZ.out⟩
    · obtain ⟨-, hn1b, hn1c⟩ := HN1.out
      have A2 := Lib.hid (A1.out.grown G12.out)
      obtain ⟨-, -, -, -, -, -, -, a7⟩ := A2.out.cell
      obtain ⟨i, hi, hi2⟩ : ∃ i : Nat, vv % (n1 : Int) = i ∧ i < n1 := by
        have h1 := Int.emod_nonneg vv (by omega : (n1 : Int) ≠ 0)
        have h2 := Int.emod_lt_of_pos vv (by omega : (0 : Int) < (n1 : Int))
        exact ⟨(vv % (n1 : Int)).toNat, by omega, by omega⟩
      have HI := Lib.hid hi
      clear hi A2
      go_upto_region 6 with (first
        | (at_builtin; refine wpList_append_bytes rfl _ _ rfl W2.heap.size (.slice none 0 0) 0 [] rfl (World.ownsRow_nil _ _ _ _) o1 n1 c1 d rfl (B1.out.grown G12.out) (by omega) (Nat.le_refl _) ?_; intro v5 w5 ho5 hg5; rw [Nat.zero_add, List.nil_append] at ho5; have N5 : Hid (New W2 w5 v5 d) := Lib.hid (New.of_row (Gr.append (Gr.refl W2) hg5 (fun _ h => by cases h)) B1.out.1 (by rw [HN1.out.1]; exact ho5)); clear ho5 hg5; obtain ⟨g5, d5, hv5, hge5, hd5, hd6, hwb5⟩ := Wb.of_new N5.out (by rw [HN1.out.1]; omega); rw [HN1.out.1] at hv5 hd5; subst hv5; have Q5 := Lib.hid (Q2.out.grown N5.out.1); obtain ⟨-, -, -, -, -, -, -, p7'⟩ := Q5.out.cell; obtain ⟨-, -, -, -, -, -, -, f7'⟩ := Q5.out.frozen))
      have QZ := Lib.hid (Q5.out.bytes (.slice (some ⟨g5, 0, none⟩) n1 d5))
      have GZ : Hid (Gr W1 (w5.setCell ⟨g2, 7, none⟩ (.slice (some ⟨g5, 0, none⟩) n1 d5))) := Lib.hid ((Gr.trans G12.out N5.out.1).setCell (a := ⟨g2, 7, none⟩) HGE.out (.slice (some ⟨g5, 0, none⟩) n1 d5))
      have HG5 : Hid (g5 ≠ g2) := Lib.hid (by have := (Array.getElem?_eq_some_iff.1 Q2.out).1; omega)
      have WZ : Hid (Wb (w5.setCell ⟨g2, 7, none⟩ (.slice (some ⟨g5, 0, none⟩) n1 d5)) g5 d) := Lib.hid (by
        obtain ⟨cur, h1, h2⟩ := hwb5
        exact ⟨cur, (heap_setCell_other _ _ _ _ HG5.out).trans h1, h2⟩)
      have HGE5 : Hid (W1.heap.size ≤ g5) := Lib.hid (Nat.le_trans G12.out.size hge5)
      have HDB : Hid (∀ z ∈ d, Byt z) := Lib.hid B1.out.1
      clear hwb5 hge5 p7' f7' Q5 N5 a7 p0 p1 p2 p3 p4 p5 p6 p7 f0 f1 f2 f3 f4 f5 f6 f7
      generalize w5.setCell ⟨g2, 7, none⟩ (.slice (some ⟨g5, 0, none⟩) n1 d5) = W5 at *
      obtain ⟨-, -, -, -, -, -, -, p7⟩ := QZ.out.cell
      have hby := Crc.getD_byt HDB.out i
      obtain ⟨b, hb1⟩ : ∃ b : Nat, d.getD i 0 = b := ⟨(d.getD i 0).toNat, by unfold Byt at hby; omega⟩
      have hb2 : b < 256 := by unfold Byt at hby; omega
      obtain ⟨cn, hcn, hcn2⟩ : ∃ cn : Nat, IntKind.u8.wrap (vv / 32) = cn ∧ cn < 256 := ⟨(vv / 32 % 256).toNat, by simp [IntKind.wrap, IntKind.bits, IntKind.signed]; omega, by omega⟩
      have HCN := Lib.hid hcn
      have q1 := WZ.out.cell i (by rw [HN1.out.1]; exact hi2)
      have q2 := WZ.out.frozen i
      rw [hb1] at q1
      have e3 := u8_xor_nat b cn hb2 hcn2
      have hi3 : (i : Int) < (n1 : Int) := by omega
      have QF : Hid (RcAt (W5.setCell ⟨g5, i, none⟩ (.int .u8 ((b ^^^ cn : Nat) : Int))) g2 ⟨ro, rb, ri, K, H', S, s⟩ (.slice (some ⟨g5, 0, none⟩) n1 d5)) := Lib.hid (QZ.out.other (fun e => HG5.out e.symm) i _)
      have GF : Hid (Gr W1 (W5.setCell ⟨g5, i, none⟩ (.int .u8 ((b ^^^ cn : Nat) : Int)))) := Lib.hid (GZ.out.setCell (a := ⟨g5, i, none⟩) HGE5.out _)
      have HDS : Hid (∀ z ∈ d.set i ((b ^^^ cn : Nat) : Int), Byt z) := Lib.hid fun z hz => by
        rcases List.mem_or_eq_of_mem_set hz with h | h
        · exact HDB.out z h
        · rw [h]
          have := Nat.xor_lt_two_pow (n := 8) (x := b) (y := cn) (by omega) hcn2
          unfold Byt
          omega
      have BF : Hid (Bs (W5.setCell ⟨g5, i, none⟩ (.int .u8 ((b ^^^ cn : Nat) : Int))) (.slice (some ⟨g5, 0, none⟩) n1 d5) (d.set i ((b ^^^ cn : Nat) : Int))) := Lib.hid (by
        have h := (WZ.out.set i ((b ^^^ cn : Nat) : Int)).bs HDS.out (by rw [List.length_set, HN1.out.1]; exact hd5) hd6
        rwa [List.length_set, HN1.out.1] at h)
      have MF : Hid (MayR ⟨ro, rb, ri, K, H', S, s⟩ (d.set i ((b ^^^ cn : Nat) : Int))) := Lib.hid (by
        obtain ⟨h1, h2, h3, h4, h5, h6, h7⟩ := HM.out
        exact ⟨h1, h2, h3, h4, h5, h6, by rw [List.length_set]; exact h7⟩)
      clear hb1 hby hcn
      go_region_law (first
        | ((try go_simp); go_at_call 9; refine (within_any vv n1 (by omega) (by omega) _).mono ?_; rw [HI.out]; rintro e w' ⟨rfl, rfl⟩))
      all_goals go_wp2_with fail
      all_goals rw [HCN.out, e3]
      all_goals go_meet
      all_goals exact ⟨⟨ro, rb, ri, K, H', S, s⟩, (.slice (some ⟨g5, 0, none⟩) n1 d5), _, QF.out, BF.out, MF.out, HSB.out, GF.out⟩
  case rest =>
    obtain ⟨⟨yo, yb, yi, yK, yH, yS, ys⟩, v2, d2, hq, hb, hm2, hs2, hg⟩ := hcut
    simp only at hs2
    obtain ⟨o2, n2, c2, rfl⟩ := hb.any3
    have QC := Lib.hid hq
    have BC := Lib.hid hb
    have HM2 := Lib.hid hm2
    have HS2 := Lib.hid hs2
    have GC := Lib.hid hg
    have GWC := Lib.hid (Gr.trans G1.out hg)
    have AC := Lib.hid (A1.out.grown hg)
    have DC := Lib.hid (B1.out.grown hg)
    have HF2 := Lib.hid (fit_may hm2 hs2)
    have HL2 := Lib.hid (putR_len hm2)
    have HDL2 : Hid (d2.length ≤ 24) := Lib.hid (rec_bounds hm2).2.2.2.2.2.2
    obtain ⟨eq, heq⟩ : ∃ eq, (putR ⟨yo, yb, yi, yK, yH, yS, ys⟩ d2 == putR ⟨ro, rb, ri, K, H', S, s⟩ d) = eq := ⟨_, rfl⟩
    have HEQ := Lib.hid heq
    have HEI : Hid (eq = true ↔ ⟨yo, yb, yi, yK, yH, yS, ys⟩ = (⟨ro, rb, ri, K, H', S, s⟩ : Rcd) ∧ d2 = d) := Lib.hid (by
      rw [← heq]
      refine ⟨fun h => putR_inj hm2 hs2 HM.out HSB.out (beq_iff_eq.1 h), fun h => beq_iff_eq.2 ?_⟩
      rw [h.1, h.2])
    have hbb : (eq == eq) = true := beq_self_eq_true eq
    clear heq
    clear hq hb hm2 hs2 hg A1 B1 G12 HGE Q2 p0 p1 p2 p3 p4 p5 p6 p7 f0 f1 f2 f3 f4 f5 f6 f7
    have HSA : Hid (∀ W, Gr wc W → W.cell? ⟨g2, 0, none⟩ = some (.int .i64 yo) ∧ W.cell? ⟨g2, 1, none⟩ = some (.int .i64 yb) ∧ W.cell? ⟨g2, 2, none⟩ = some (.int .i64 yi) ∧ W.cell? ⟨g2, 3, none⟩ = some (.int .i64 yK) ∧ W.cell? ⟨g2, 4, none⟩ = some (.int .i64 yH) ∧ W.cell? ⟨g2, 5, none⟩ = some (.int .i64 yS) ∧ W.cell? ⟨g2, 6, none⟩ = some (.int .u32 (ys : Int)) ∧ W.cell? ⟨g2, 7, none⟩ = some (.slice o2 n2 c2) ∧ W.cell? ⟨g1, 0, none⟩ = some (.int .i64 ro) ∧ W.cell? ⟨g1, 1, none⟩ = some (.int .i64 rb) ∧ W.cell? ⟨g1, 2, none⟩ = some (.int .i64 ri) ∧ W.cell? ⟨g1, 3, none⟩ = some (.int .i64 K) ∧ W.cell? ⟨g1, 4, none⟩ = some (.int .i64 H') ∧ W.cell? ⟨g1, 5, none⟩ = some (.int .i64 S) ∧ W.cell? ⟨g1, 6, none⟩ = some (.int .u32 (s : Int)) ∧ W.cell? ⟨g1, 7, none⟩ = some (.slice o1 n1 c1)) := Lib.hid fun W hW => by
      obtain ⟨q0, q1, q2, q3, q4, q5, q6, q7⟩ := (QC.out.grown hW).cell
      obtain ⟨a0, a1, a2, a3, a4, a5, a6, a7⟩ := (AC.out.grown hW).cell
      exact ⟨q0, q1, q2, q3, q4, q5, q6, q7, a0, a1, a2, a3, a4, a5, a6, a7⟩
    have sc := HSA.out wc (Gr.refl _)
    have s0 := HSA.out wc.drew (Gr.drew (Gr.refl _))
    go_upto_region 17 with fail
    go_region_held3 (fun W => W.cell? ⟨g2, 0, none⟩ = some (.int .i64 yo) ∧ W.cell? ⟨g2, 1, none⟩ = some (.int .i64 yb) ∧ W.cell? ⟨g2, 2, none⟩ = some (.int .i64 yi) ∧ W.cell? ⟨g2, 3, none⟩ = some (.int .i64 yK) ∧ W.cell? ⟨g2, 4, none⟩ = some (.int .i64 yH) ∧ W.cell? ⟨g2, 5, none⟩ = some (.int .i64 yS) ∧ W.cell? ⟨g2, 6, none⟩ = some (.int .u32 (ys : Int)) ∧ W.cell? ⟨g2, 7, none⟩ = some (.slice o2 n2 c2) ∧ W.cell? ⟨g1, 0, none⟩ = some (.int .i64 ro) ∧ W.cell? ⟨g1, 1, none⟩ = some (.int .i64 rb) ∧ W.cell? ⟨g1, 2, none⟩ = some (.int .i64 ri) ∧ W.cell? ⟨g1, 3, none⟩ = some (.int .i64 K) ∧ W.cell? ⟨g1, 4, none⟩ = some (.int .i64 H') ∧ W.cell? ⟨g1, 5, none⟩ = some (.int .i64 S) ∧ W.cell? ⟨g1, 6, none⟩ = some (.int .u32 (s : Int)) ∧ W.cell? ⟨g1, 7, none⟩ = some (.slice o1 n1 c1)) (first | with_reducible exact s6 | with_reducible exact s5 | with_reducible exact s4 | with_reducible exact s3 | with_reducible exact s2 | with_reducible exact s1 | with_reducible exact s0 | with_reducible exact sc)
      (first
        | (go_at_call 7; have h := M5; clear h; refine (recWakes_any HO.out _ (Gr.trans GWC.out V5.out)).mono ?_; rintro e v6 ⟨rfl, hg6⟩; have V6 : Hid (Gr wc v6) := Lib.hid (Gr.trans V5.out hg6); have s6 := HSA.out v6 V6.out; clear hg6; have M6 := True.intro)
        | (go_at_call 15; have h := M4; clear h; (fail_if_success have h := M5); refine (HO.out.put ⟨yo, yb, yi, yK, yH, yS, ys⟩ _ d2 _ (Gr.trans GWC.out V4.out) HF2.out (by have := HDL2.out; omega) (BC.out.grown V4.out)).mono ?_; rintro e v5 ⟨u5, rfl, hn5⟩; obtain ⟨o5, c5, e5⟩ := (New.bs hn5).form5; rw [HL2.out] at e5; subst e5; have V5 : Hid (Gr wc v5) := Lib.hid (Gr.trans V4.out hn5.1); have s5 := HSA.out v5 V5.out; clear hn5; have M5 := True.intro)
        | (go_at_call 22; have h := M3; clear h; (fail_if_success have h := M4); refine (sameR_any ⟨yo, yb, yi, yK, yH, yS, ys⟩ ⟨ro, rb, ri, K, H', S, s⟩ _ _ d2 d _ eq HEI.out (BC.out.grown V3.out) (DC.out.grown V3.out)).mono ?_; rintro e v4 ⟨rfl, hg4⟩; have V4 : Hid (Gr wc v4) := Lib.hid (Gr.trans V3.out hg4); have s4 := HSA.out v4 V4.out; clear hg4; have M4 := True.intro)
        | (go_at_call 14; have h := M2; clear h; (fail_if_success have h := M3); refine (same_any _ _ (putR ⟨yo, yb, yi, yK, yH, yS, ys⟩ d2) (putR ⟨ro, rb, ri, K, H', S, s⟩ d) _ (N1.out.grown G2.out) N2.out).mono ?_; rw [HEQ.out]; rintro e v3 ⟨rfl, hg3⟩; have V3 : Hid (Gr wc v3) := Lib.hid (Gr.trans V2.out hg3); have s3 := HSA.out v3 V3.out; clear hg3; have M3 := True.intro)
        | (go_at_call 15; have h := M1; clear h; (fail_if_success have h := M2); refine (HO.out.put ⟨ro, rb, ri, K, H', S, s⟩ _ d _ (Gr.trans GWC.out V1.out) HF.out (by have := HDL.out; omega) (DC.out.grown V1.out)).mono ?_; rintro e v2 ⟨u2, rfl, hn2⟩; obtain ⟨o6, n6, c6, rfl⟩ := New.form3 hn2; have N2 := Lib.hid (New.bs hn2); have G2 := Lib.hid hn2.1; have V2 : Hid (Gr wc v2) := Lib.hid (Gr.trans V1.out hn2.1); have s2 := HSA.out v2 V2.out; clear hn2; have M2 := True.intro)
        | (go_at_call 15; (fail_if_success have h := M1); refine (HO.out.put ⟨yo, yb, yi, yK, yH, yS, ys⟩ _ d2 _ (Gr.trans GWC.out (Gr.drew (Gr.refl _))) HF2.out (by have := HDL2.out; omega) (BC.out.grown (Gr.drew (Gr.refl _)))).mono ?_; rintro e v1 ⟨u1, rfl, hn1⟩; obtain ⟨o7, n7, c7, rfl⟩ := New.form3 hn1; have N1 := Lib.hid (New.bs hn1); have V1 : Hid (Gr wc v1) := Lib.hid (Gr.trans (Gr.drew (Gr.refl _)) hn1.1); have s1 := HSA.out v1 V1.out; clear hn1; have M1 := True.intro))
    all_goals (try go_simp)
    go_wp2_with fail
    go_ret
    exact ⟨rfl, Gr.trans G1.out (Gr.trans GC.out V6.out)⟩
end Go.Proofs.YtjkfiimlaigdhaaDoor
