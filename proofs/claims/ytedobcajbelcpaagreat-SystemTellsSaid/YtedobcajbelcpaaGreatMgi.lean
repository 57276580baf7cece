/-
  Texts laid behind one another: SystemGrowsW LtTellsW Pc Ro Md.
-/
import Derived.Test.YtedobcajbelcpaaGreatMgh
import Derived.Test.YtedobcajbelcpaaGreatMgg
import Derived.Test.YtedobcajbelcpaaGreatMgf
import Derived.Test.YtedobcajbelcpaaGreatMgd
import Derived.BigRegion
import Derived.Deep.RegionLaw
import Derived.Deep.DeepCutAuto
import Derived.Deep.RegionHeld3
namespace Go.Proofs.YtedobcajbelcpaaGreat
open Go.RowKit

theorem Zs.take {w : World} {oa : Option Addr} {m c : Nat} {l : List Int} (h : Zs w (.slice oa m c) l) (n : Nat) (hn : n ≤ m) : Zs w (.slice oa n c) (l.take n) := by
  obtain ⟨h0, oa', c', he, h2, h3, h4, h5⟩ := h
  obtain ⟨rfl, rfl, rfl⟩ : oa = oa' ∧ m = l.length ∧ c = c' := by simpa using he
  have hl : (l.take n).length = n := by rw [List.length_take]; omega
  refine ⟨fun x hx => h0 x (List.mem_of_mem_take hx), oa, c, by rw [hl], by rw [hl]; omega, h3, h4, fun a ha i hi => ?_⟩
  rw [hl] at hi
  rw [h5 a ha i (by omega), List.getD_eq_getElem?_getD, List.getD_eq_getElem?_getD, List.getElem?_take_of_lt hi]
theorem rk_grows {K H : Nat} {S : Int} (hm : MayP K H S) (seed : Nat) (l : List Int) (x : Int) :
    rkL (matP K H S seed l) ≤ rkL (matP K H S seed (l ++ [x])) ∧ rkL (matP K H S seed (l ++ [x])) ≤ rkL (matP K H S seed l) + 1 := by
  rw [matP_snoc]
  by_cases h : MayP (K : Int) (H : Int) S ∧ MayI x
  · rw [if_pos h]
    exact rkL_snoc (matP_wide hm seed l) (rowP_wide hm h.2 seed).1
  · rw [if_neg h, List.append_nil]
    omega
theorem full_is {K H : Nat} {S : Int} (hm : MayP K H S) (seed : Nat) (l : List Int) : decide (FullP K H S seed l) = ((rkL (matP K H S seed l) : Int) == ((K + H : Nat) : Int)) := by
  have h : FullP K H S seed l ↔ (rkL (matP K H S seed l) : Int) = ((K + H : Nat) : Int) := by
    unfold FullP colsP
    rw [if_pos hm]
    constructor
    · intro h; have := h.2; omega
    · intro h; exact ⟨hm, by omega⟩
  exact decide_eq_decide.2 h
end Go.Proofs.YtedobcajbelcpaaGreat
namespace Go.Proofs.YtedobcajbelcpaaGreat
open Go.RowKit

theorem Bs.form3 {w : World} {v : Value} {l : List Int} (h : Bs w v l) : ∃ o m c, v = .slice o m c := by
  obtain ⟨o, c, h⟩ := h.form
  exact ⟨o, _, c, h⟩
theorem ownsRow_form3 {w : World} {base : Nat} {e : TypeId} {v : Value} {n : Nat} {us : List Value} (h : w.ownsRow base e 1 v n us) : ∃ o m c, v = .slice o m c := by
  obtain ⟨o, c, h⟩ := ownsRow_form'' h
  exact ⟨o, _, c, h⟩
/-- Two parameters lie in block g. -/
def Twos (w : World) (g : Nat) : Prop := ∀ t, t < 2 → ∃ K H S, w.cell? ⟨g, t * 3, none⟩ = some (.int .i64 K) ∧ w.cell? ⟨g, t * 3 + 1, none⟩ = some (.int .i64 H) ∧ w.cell? ⟨g, t * 3 + 2, none⟩ = some (.int .i64 S)
theorem Twos.grown {w w' : World} {g : Nat} (h : Twos w g) (hg : Gr w w') : Twos w' g := fun t ht => by
  obtain ⟨K, H, S, h1, h2, h3⟩ := h t ht
  exact ⟨K, H, S, cell_grown hg h1, cell_grown hg h2, cell_grown hg h3⟩
end Go.Proofs.YtedobcajbelcpaaGreat
namespace Go.Proofs.YtedobcajbelcpaaGreat
open Go.RowKit

theorem upTo_pre (m n : Int) (w : World) :
    Calls Tryz.prog 33 #[.int .i64 m, .int .i64 n] w fun e w' => e = .returned (.bool (decide (1 ≤ n ∧ n ≤ m))) ∧ w = w' := by
  by_cases h : 1 ≤ n
  · rw [show decide (1 ≤ n ∧ n ≤ m) = decide (n ≤ m) from by rw [decide_eq_decide]; omega]
    go_enter Tryz.func33, Tryz.ntmps33
    go_wp2
    go_ret
    exact ⟨rfl, rfl⟩
  · rw [decide_eq_false (by omega : ¬ (1 ≤ n ∧ n ≤ m))]
    go_enter Tryz.func33, Tryz.ntmps33
    go_wp2
    go_ret
    exact ⟨rfl, rfl⟩
set_option maxHeartbeats 800000 in
theorem may_pre (K H S : Int) (w : World) :
    Calls Tryz.prog 20 #[par K H S] w fun e w' => e = .returned (.bool (decide (MayP K H S))) ∧ Gr w w' := by
  have hd : decide (MayP K H S) = (decide (1 ≤ K ∧ K ≤ 16) && (decide (1 ≤ H ∧ H ≤ 4) && decide (1 ≤ S ∧ S ≤ 24))) := by
    rw [← Bool.decide_and, ← Bool.decide_and, decide_eq_decide]
    unfold MayP
    omega
  rw [hd]
  have b1 : ∀ x : Int, ∃ b : Bool, decide (1 ≤ x ∧ x ≤ 16) = b := fun x => ⟨_, rfl⟩
  obtain ⟨p, hp⟩ := b1 K
  obtain ⟨q, hq⟩ : ∃ b : Bool, decide (1 ≤ H ∧ H ≤ 4) = b := ⟨_, rfl⟩
  obtain ⟨r, hr⟩ : ∃ b : Bool, decide (1 ≤ S ∧ S ≤ 24) = b := ⟨_, rfl⟩
  have HP := Lib.hid hp
  have HQ := Lib.hid hq
  have HR := Lib.hid hr
  rw [hp, hq, hr]
  clear hp hq hr hd b1
  have P0 : Hid (Par (w.alloc (.cells #[.int .i64 K, .int .i64 H, .int .i64 S] 23)) w.heap.size K H S) := Lib.hid (heap_alloc_new _ _)
  have HG0 : Hid (Gr w (w.alloc (.cells #[.int .i64 K, .int .i64 H, .int .i64 S] 23))) := Lib.hid (Gr.alloc (Gr.refl _) _ _)
  go_enter Tryz.func20, Tryz.ntmps20
  cases p with
  | false =>
    go_wp2_with fail
    refine (upTo_pre 16 K _).mono ?_
    rw [HP.out]
    rintro e w1 ⟨rfl, rfl⟩
    go_wp2_with fail
    go_ret
    exact ⟨rfl, HG0.out⟩
  | true =>
    have c1 := P0.out.cell1
    have c2 := P0.out.cell2
    cases q with
    | false =>
      go_wp2_with fail
      refine (upTo_pre 16 K _).mono ?_
      rw [HP.out]
      rintro e w1 ⟨rfl, rfl⟩
      go_wp2_with fail
      refine (upTo_pre 4 H _).mono ?_
      rw [HQ.out]
      rintro e w1 ⟨rfl, rfl⟩
      go_wp2_with fail
      go_ret
      exact ⟨rfl, HG0.out⟩
    | true =>
      go_wp2_with fail
      refine (upTo_pre 16 K _).mono ?_
      rw [HP.out]
      rintro e w1 ⟨rfl, rfl⟩
      go_wp2_with fail
      refine (upTo_pre 4 H _).mono ?_
      rw [HQ.out]
      rintro e w1 ⟨rfl, rfl⟩
      go_wp2_with fail
      refine (upTo_pre 24 S _).mono ?_
      rw [HR.out]
      rintro e w1 ⟨rfl, rfl⟩
      go_wp2_with fail
      go_ret
      exact ⟨by simp, HG0.out⟩
set_option maxHeartbeats 400000 in
theorem cols_pre (K H S : Int) (w : World) :
    Calls Tryz.prog 29 #[par K H S] w fun e w' => e = .returned (.int .i64 (colsP K H S)) ∧ Gr w w' := by
  unfold colsP
  by_cases hm : MayP K H S
  · have hd := decide_eq_true hm
    have HM := Lib.hid hm
    rw [if_pos hm]
    have hk : -9223372036854775808 ≤ K + H ∧ K + H ≤ 9223372036854775807 := by have := hm; unfold MayP at this; omega
    have hwr : IntKind.i64.wrap (K + H) = K + H := by have := hk; simp [IntKind.wrap, IntKind.bits, IntKind.signed]; omega
    clear hm
    go_enter Tryz.func29, Tryz.ntmps29
    go_wp2_with fail
    refine (may_pre K H S _).mono ?_
    rw [hd]
    rintro e w1 ⟨rfl, hg⟩
    have P1 : Par w1 w.heap.size K H S := Par.grown (heap_alloc_new w _) hg
    have c0 := P1.cell0
    have c1 := P1.cell1
    have G1 := Lib.hid (Gr.trans (Gr.alloc (Gr.refl w) _ _) hg)
    clear hg P1
    go_wp2_with fail
    go_ret
    exact ⟨rfl, G1.out⟩
  · have hd := decide_eq_false hm
    rw [if_neg hm]
    clear hm
    go_enter Tryz.func29, Tryz.ntmps29
    go_wp2_with fail
    refine (may_pre K H S _).mono ?_
    rw [hd]
    rintro e w1 ⟨rfl, hg⟩
    have G1 := Lib.hid (Gr.trans (Gr.alloc (Gr.refl w) _ _) hg)
    clear hg
    go_wp2_with fail
    go_ret
    exact ⟨rfl, G1.out⟩
end Go.Proofs.YtedobcajbelcpaaGreat
namespace Go.Proofs.YtedobcajbelcpaaGreat
open Go.RowKit

/-- A Field that has its tables. -/
def Fd (w : World) (f : Value) : Prop := ∃ b, f = .pointer (some ⟨b, 0, none⟩) ∧ FieldAt w b
theorem Fd.grown {w w' : World} {f : Value} (h : Fd w f) (hg : Gr w w') : Fd w' f := by
  obtain ⟨b, h1, h2⟩ := h
  exact ⟨b, h1, FieldAt.grown h2 hg⟩
set_option maxHeartbeats 400000 in
theorem tabled_any (f : Value) (w : World) (h : IsF w f) :
    Calls Tryz.prog 85 #[f] w fun e w' => ∃ b, e = .returned (.pointer (some ⟨b, 0, none⟩)) ∧ FieldAt w' b ∧ Gr w w' := by
  rcases h with rfl | ⟨b, rfl, hb⟩
  · go_enter Tryz.func85, Tryz.ntmps85
    go_wp2_with (go_at_call 34; refine (new_any _).mono ?_; rintro e w' ⟨b, rfl, hf, hg⟩; have HF := Lib.hid hf; clear hf; have HG := Lib.hid hg; clear hg)
    go_ret
    exact ⟨_, rfl, HF.out, HG.out⟩
  · have HF := Lib.hid hb
    clear hb
    go_enter Tryz.func85, Tryz.ntmps85
    go_wp2_with fail
    go_ret
    exact ⟨_, rfl, HF.out, Gr.refl _⟩
set_option maxHeartbeats 400000 in
theorem made_field (b : Nat) (w : World) (hb : FieldAt w b) :
    Calls Tryz.prog 64 #[.pointer (some ⟨b, 0, none⟩)] w fun e w' => e = .returned (.pointer (some ⟨b, 0, none⟩)) ∧ w = w' := by
  have h0 := FieldAt.ex hb 0 (by omega)
  rw [M.exN_zero] at h0
  clear hb
  go_enter Tryz.func64, Tryz.ntmps64
  go_wp2_with fail
  go_ret
  exact ⟨rfl, rfl⟩
/-- With tables at hand a product leaves the world as it is (but for draws). -/
theorem mul_field (t : Nat) (a b : Int) (ha : Byt a) (hb : Byt b) (w : World) (hf : FieldAt w t) :
    Calls Tryz.prog 86 #[.pointer (some ⟨t, 0, none⟩), .int .u8 a, .int .u8 b] w fun e w' => e = .returned (.int .u8 (mulZ a b)) ∧ ∃ d, w' = w.drewN d := by
  obtain ⟨a0, a1⟩ := ha
  obtain ⟨b0, b1⟩ := hb
  by_cases az : a = 0
  · subst az
    go_enter Tryz.func86, Tryz.ntmps86
    go_wp2_with fail
    go_ret
    exact ⟨ret_int (by simp [mulZ, M.mulN_zero_left]), 0, rfl⟩
  by_cases bz : b = 0
  · subst bz
    go_enter Tryz.func86, Tryz.ntmps86
    go_wp2_with fail
    go_ret
    exact ⟨ret_int (by simp [mulZ, M.mulN_zero_right]), 0, rfl⟩
  · have HF := Lib.hid hf
    clear hf
    have ea : (a == 0) = false := by simpa using az
    have eb : (b == 0) = false := by simpa using bz
    obtain ⟨x, rfl⟩ := Int.eq_ofNat_of_zero_le a0
    obtain ⟨y, rfl⟩ := Int.eq_ofNat_of_zero_le b0
    clear az bz
    have hx : x < 256 := by omega
    have hy : y < 256 := by omega
    go_enter Tryz.func86, Tryz.ntmps86
    go_wp2_with (go_at_call 64; refine (made_field t _ HF.out).mono ?_; rintro e w' ⟨rfl, rfl⟩)
    have c1 := FieldAt.lg HF.out x hx
    have c2 := FieldAt.lg HF.out y hy
    have hi : (M.lgN x + M.lgN y) % 255 < 255 := Nat.mod_lt _ (by omega)
    have c3 := FieldAt.ex HF.out _ hi
    have l1 := M.lgN_lt x
    have l2 := M.lgN_lt y
    have E : Hid (mulZ x y = ((M.exN ((M.lgN x + M.lgN y) % 255) : Nat) : Int)) := Lib.hid (by
      unfold mulZ
      rw [M.mulN_nz _ _ (by simp at ea; simpa using ea) (by simp at eb; simpa using eb)]
      rfl)
    generalize M.lgN x = p at *
    generalize M.lgN y = q at *
    go_quiet (fail)
    go_wp2
    go_ret
    exact ⟨ret_int E.out.symm, _, rfl⟩
theorem New.of_blk {w w' : World} {g n : Nat} {l : List Int} (hg : Gr w w') (hb : ∀ x ∈ l, Byt x) (hs : w.heap.size ≤ g) (hk : Blk w' g l) (hl : l.length = n) (hn : n ≤ 1000000) : New w w' (.slice (some ⟨g, 0, none⟩) n n) l := by
  subst hl
  exact ⟨hg, hb, Or.inr ⟨g, l.length, rowB l, rfl, hs, hk, Nat.le_refl _, by omega, fun i hi => rowB_get l i hi⟩⟩
theorem New.nought {w w' : World} (hg : Gr w w') : New w w' (.slice none 0 0) [] := ⟨hg, by simp, Or.inl ⟨rfl, none, 0, rfl, fun _ => rfl, by omega⟩⟩
theorem New.made0 {w w' : World} {g : Nat} (hg : Gr w w') : New w w' (.slice (some ⟨g, 0, none⟩) 0 0) [] := ⟨hg, by simp, Or.inl ⟨rfl, _, 0, rfl, fun _ => rfl, by omega⟩⟩
theorem Making.drawn {w wr : World} {g n k : Nat} {f : Nat → Int} (h : Making w g n f k wr) (d : Nat) : Making w g n f k (wr.drewN d) := by
  obtain ⟨h1, h2, h3⟩ := h
  exact ⟨h1, h2, h3⟩
def sumF (x y : List Int) : Nat → Int := fun i => addZ (x.getD i 0) (y.getD i 0)
theorem sumF_byt {x y : List Int} {n : Nat} (hx : ∀ i, Byt (x.getD i 0)) (hy : ∀ i, Byt (y.getD i 0)) : ∀ z ∈ lst n (sumF x y), Byt z := lst_byt fun i _ => addZ_byt (hx i) (hy i)

def axF (c : Int) (x y : List Int) : Nat → Int := fun i => addZ (y.getD i 0) (mulZ c (x.getD i 0))
theorem axF_byt {c : Int} {x y : List Int} {n : Nat} (hy : ∀ i, Byt (y.getD i 0)) : ∀ z ∈ lst n (axF c x y), Byt z := lst_byt fun i _ => addZ_byt (hy i) (mulZ_byt _ _)
theorem cell_set_farN {W : World} {x y : Addr} {v u : Value} {d : Nat} (h : W.cell? x = some u) (hne : x ≠ y) : ((W.drewN d).setCell y v).drew.cell? x = some u := cell_set_far (by exact h) hne
set_option maxHeartbeats 400000 in
theorem axpy_core (f : Value) (a b : Addr) (n ca cb : Nat) (c : Int) (x y : List Int) (w : World) (hf : IsF w f) (hc : Byt c) (hx : ∀ i, Byt (x.getD i 0)) (hy : ∀ i, Byt (y.getD i 0)) (hn : n ≤ 1000000)
    (hxc : ∀ i, i < n → w.cell? (a.add i) = some (.int .u8 (x.getD i 0))) (hyc : ∀ i, i < n → w.cell? (b.add i) = some (.int .u8 (y.getD i 0))) :
    Calls Tryz.prog 87 #[f, .int .u8 c, .slice (some a) n ca, .slice (some b) n cb] w fun e w' => ∃ v, e = .returned (.tuple #[v, .bool true]) ∧ New w w' v (lst n (axF c x y)) := by
  have HXB := Lib.hid hx
  have HYB := Lib.hid hy
  have HX := Lib.hid hxc
  have HY := Lib.hid hyc
  have HF := Lib.hid hf
  have hmk := make22 n n (by omega) (by omega)
  clear hx hy hxc hyc hf
  have hR : ∃ cur, cur = rowB (List.replicate n 0) := ⟨_, rfl⟩
  obtain ⟨cur, hcur⟩ := hR
  rw [← hcur] at hmk
  have HC := Lib.hid hcur
  clear hcur
  go_enter Tryz.func87, Tryz.ntmps87
  go_wp2_with (first | (go_at_call 85; refine (tabled_any f _ HF.out).mono ?_; rintro e w1 ⟨t, rfl, ht, hg1⟩; have HT := Lib.hid ht; clear ht; have G1 := Lib.hid hg1; clear hg1))
  clear hmk
  have HX1 : Hid (∀ i, i < n → w1.cell? (a.add i) = some (.int .u8 (x.getD i 0))) := Lib.hid fun i hi => cell_grown G1.out (HX.out i hi)
  have HY1 : Hid (∀ i, i < n → w1.cell? (b.add i) = some (.int .u8 (y.getD i 0))) := Lib.hid fun i hi => cell_grown G1.out (HY.out i hi)
  have hsz : w.heap.size ≤ w1.heap.size := G1.out.size
  have HB : Hid (Making w1 w1.heap.size n (axF c x y) 0 (w1.alloc (.cells cur 5))) :=
    Lib.hid ⟨Gr.alloc (Gr.refl _) _ _, Nat.le_refl _, by rw [HC.out, ← part_nil]; exact heap_alloc_new _ _⟩
  clear HC HX HY HF
  generalize hW : w1.alloc (.cells cur 5) = W at *
  generalize hG : w1.heap.size = g at *
  go_loopw [24] (fun i wr => ∃ k : Nat, k ≤ n ∧ i = .int .i64 k ∧ Making w1 g n (axF c x y) k wr) (fun i _ => n - (intOf i).toNat)
  case atStart => exact ⟨0, by omega, rfl, HB.out⟩
  case round =>
    clear HB
    obtain ⟨k, hk, rfl, hm⟩ := hrel
    obtain ⟨hg, hge, hblk⟩ := hm
    by_cases hlt : k < n
    · have q1 := cell_grown hg (HX1.out k hlt)
      have q2 := cell_grown hg (HY1.out k hlt)
      have q3 := Blk.cell hblk k (by rw [lst_length]; exact hlt)
      have q4 := frozen_of_row wr g k _ _ hblk
      have n1 : a.add k ≠ ⟨g, k, none⟩ := far_of hge (HX1.out k hlt)
      have n2 : b.add k ≠ ⟨g, k, none⟩ := far_of hge (HY1.out k hlt)
      have M0 : Hid (Making w1 g n (axF c x y) k wr) := Lib.hid ⟨hg, hge, hblk⟩
      have HT1 : Hid (FieldAt wr t) := Lib.hid (FieldAt.grown HT.out hg)
      have E : Hid (addZ (y.getD k 0) (mulZ c (x.getD k 0)) = axF c x y k) := Lib.hid rfl
      have hp := HXB.out k
      have hq := HYB.out k
      have hm := mulZ_byt c (x.getD k 0)
      clear hg hge hblk
      generalize (lst n (part (axF c x y) k)).getD k 0 = old at *
      generalize x.getD k 0 = p at *
      generalize y.getD k 0 = q at *
      generalize hM : mulZ c p = m at *
      go_wp2
      go_region_held3 (fun W => W.cell? (a.add k) = some (.int .u8 p) ∧ W.cell? (b.add k) = some (.int .u8 q)) (first | exact ⟨cell_set_far q1 n1, cell_set_far q2 n2⟩ | exact ⟨cell_set_farN q1 n1, cell_set_farN q2 n2⟩ | go_keep)
        (first | (go_at_call 99; refine (add_any _ q m hq hm _).mono ?_; rintro e w' ⟨rfl, rfl⟩) | (go_at_call 86; refine (mul_field t c p hc hp _ (by exact HT1.out)).mono ?_; rw [hM]; rintro e w' ⟨rfl, nd, rfl⟩))
      have E2 : ((q.toNat ^^^ m.toNat : Nat) : Int) = axF c x y k := by rw [← E.out]; rfl
      rw [E2]
      go_wp2
      exact ⟨⟨k + 1, by omega, by go_num, Making.drew (Making.store (Making.drawn M0.out _))⟩, by simp [intOf]; omega⟩
    · obtain rfl : k = n := by omega
      rw [part_all] at hblk
      have G := Lib.hid hg
      have K := Lib.hid hblk
      clear hg hblk
      go_wp2
      go_ret2
      exact ⟨_, rfl, New.of_blk (Gr.trans G1.out G.out) (axF_byt HYB.out) (by omega) K.out (lst_length _ _) hn⟩

def scF (c : Int) (x : List Int) : Nat → Int := fun i => mulZ c (x.getD i 0)
set_option maxHeartbeats 400000 in
theorem scale_core (f : Value) (a : Addr) (n ca : Nat) (c : Int) (x : List Int) (w : World) (hf : IsF w f) (hc : Byt c) (hx : ∀ i, Byt (x.getD i 0)) (hn : n ≤ 1000000)
    (hxc : ∀ i, i < n → w.cell? (a.add i) = some (.int .u8 (x.getD i 0))) :
    Calls Tryz.prog 78 #[f, .int .u8 c, .slice (some a) n ca] w fun e w' => ∃ v, e = .returned v ∧ New w w' v (lst n (scF c x)) := by
  have HXB := Lib.hid hx
  have HX := Lib.hid hxc
  have HF := Lib.hid hf
  have hmk := make22 n n (by omega) (by omega)
  clear hx hxc hf
  have hR : ∃ cur, cur = rowB (List.replicate n 0) := ⟨_, rfl⟩
  obtain ⟨cur, hcur⟩ := hR
  rw [← hcur] at hmk
  have HC := Lib.hid hcur
  clear hcur
  go_enter Tryz.func78, Tryz.ntmps78
  go_wp2_with (first | (go_at_call 85; refine (tabled_any f _ HF.out).mono ?_; rintro e w1 ⟨t, rfl, ht, hg1⟩; have HT := Lib.hid ht; clear ht; have G1 := Lib.hid hg1; clear hg1))
  clear hmk
  have HX1 : Hid (∀ i, i < n → w1.cell? (a.add i) = some (.int .u8 (x.getD i 0))) := Lib.hid fun i hi => cell_grown G1.out (HX.out i hi)
  have hsz : w.heap.size ≤ w1.heap.size := G1.out.size
  have HB : Hid (Making w1 w1.heap.size n (scF c x) 0 (w1.alloc (.cells cur 5))) :=
    Lib.hid ⟨Gr.alloc (Gr.refl _) _ _, Nat.le_refl _, by rw [HC.out, ← part_nil]; exact heap_alloc_new _ _⟩
  clear HC HX HF
  generalize hW : w1.alloc (.cells cur 5) = W at *
  generalize hG : w1.heap.size = g at *
  go_loopw [16] (fun i wr => ∃ k : Nat, k ≤ n ∧ i = .int .i64 k ∧ Making w1 g n (scF c x) k wr) (fun i _ => n - (intOf i).toNat)
  case atStart => exact ⟨0, by omega, rfl, HB.out⟩
  case round =>
    clear HB
    obtain ⟨k, hk, rfl, hm⟩ := hrel
    obtain ⟨hg, hge, hblk⟩ := hm
    by_cases hlt : k < n
    · have q1 := cell_grown hg (HX1.out k hlt)
      have q3 := Blk.cell hblk k (by rw [lst_length]; exact hlt)
      have q4 := frozen_of_row wr g k _ _ hblk
      have n1 : a.add k ≠ ⟨g, k, none⟩ := far_of hge (HX1.out k hlt)
      have M0 : Hid (Making w1 g n (scF c x) k wr) := Lib.hid ⟨hg, hge, hblk⟩
      have HT1 : Hid (FieldAt wr t) := Lib.hid (FieldAt.grown HT.out hg)
      have E : Hid (mulZ c (x.getD k 0) = scF c x k) := Lib.hid rfl
      have hp := HXB.out k
      clear hg hge hblk
      generalize (lst n (part (scF c x) k)).getD k 0 = old at *
      generalize x.getD k 0 = p at *
      go_wp2_with (first | (go_at_call 86; refine (mul_field t c p hc hp _ (by exact HT1.out)).mono ?_; rw [E.out]; rintro e w' ⟨rfl, d, rfl⟩))
      exact ⟨⟨k + 1, by omega, by go_num, Making.store (Making.drawn M0.out _)⟩, by simp [intOf]; omega⟩
    · obtain rfl : k = n := by omega
      rw [part_all] at hblk
      have G := Lib.hid hg
      have K := Lib.hid hblk
      clear hg hblk
      go_wp2
      go_ret
      exact ⟨_, rfl, New.of_blk (Gr.trans G1.out G.out) (lst_byt fun i _ => mulZ_byt _ _) (by omega) K.out (lst_length _ _) hn⟩

set_option maxHeartbeats 400000 in
theorem axpy_none (f : Value) (c : Int) (oa ob : Option Addr) (ca cb : Nat) (w : World) (hf : IsF w f) :
    Calls Tryz.prog 87 #[f, .int .u8 c, .slice oa 0 ca, .slice ob 0 cb] w fun e w' => ∃ v, e = .returned (.tuple #[v, .bool true]) ∧ New w w' v [] := by
  have hmk : ∀ w, (Instr.makeSlice 41 (.int .i64 0) (.int .i64 0)).run Tryz.prog w = .ok (.slice (some ⟨w.heap.size, 0, none⟩) 0 0) (w.alloc (.cells (rowB []) 5)) := fun w => make22 0 0 (by omega) (by omega) w
  generalize rowB [] = cur at *
  have HF := Lib.hid hf
  clear hf
  go_enter Tryz.func87, Tryz.ntmps87
  go_wp2_with (first | (go_at_call 85; refine (tabled_any f _ HF.out).mono ?_; rintro e w1 ⟨t, rfl, ht, hg1⟩; clear ht; have G1 := Lib.hid hg1; clear hg1))
  clear hmk
  go_loopw [24] (fun i wr => i = .int .i64 0 ∧ wr = w1.alloc (.cells cur 5)) (fun _ _ => 0)
  case atStart => exact ⟨rfl, rfl⟩
  case round =>
    obtain ⟨rfl, rfl⟩ := hrel
    go_wp2
    go_ret2
    exact ⟨_, rfl, New.made0 (Gr.alloc G1.out _ _)⟩
set_option maxHeartbeats 400000 in
theorem scale_none (f : Value) (c : Int) (oa : Option Addr) (ca : Nat) (w : World) (hf : IsF w f) :
    Calls Tryz.prog 78 #[f, .int .u8 c, .slice oa 0 ca] w fun e w' => ∃ v, e = .returned v ∧ New w w' v [] := by
  have hmk : ∀ w, (Instr.makeSlice 41 (.int .i64 0) (.int .i64 0)).run Tryz.prog w = .ok (.slice (some ⟨w.heap.size, 0, none⟩) 0 0) (w.alloc (.cells (rowB []) 5)) := fun w => make22 0 0 (by omega) (by omega) w
  generalize rowB [] = cur at *
  have HF := Lib.hid hf
  clear hf
  go_enter Tryz.func78, Tryz.ntmps78
  go_wp2_with (first | (go_at_call 85; refine (tabled_any f _ HF.out).mono ?_; rintro e w1 ⟨t, rfl, ht, hg1⟩; clear ht; have G1 := Lib.hid hg1; clear hg1))
  clear hmk
  go_loopw [16] (fun i wr => i = .int .i64 0 ∧ wr = w1.alloc (.cells cur 5)) (fun _ _ => 0)
  case atStart => exact ⟨rfl, rfl⟩
  case round =>
    obtain ⟨rfl, rfl⟩ := hrel
    go_wp2
    go_ret
    exact ⟨_, rfl, New.made0 (Gr.alloc G1.out _ _)⟩
set_option maxHeartbeats 400000 in
theorem axpy_ne (f : Value) (c : Int) (oa ob : Option Addr) (n m ca cb : Nat) (w : World) (h : m ≠ n) :
    Calls Tryz.prog 87 #[f, .int .u8 c, .slice oa n ca, .slice ob m cb] w fun e w' => ∃ v, e = .returned (.tuple #[v, .bool false]) ∧ New w w' v [] := by
  have hb : ((n : Int) != (m : Int)) = true := by simpa using (by omega : (n : Int) ≠ m)
  clear h
  go_enter Tryz.func87, Tryz.ntmps87
  go_wp2
  go_ret2
  exact ⟨_, rfl, New.nought (Gr.refl _)⟩
set_option maxHeartbeats 400000 in
theorem unit_ne (n k : Int) (w : World) (h : ¬ (1 ≤ n ∧ n ≤ 64 ∧ 0 ≤ k ∧ k < n)) :
    Calls Tryz.prog 44 #[.int .i64 n, .int .i64 k] w fun e w' => ∃ v, e = .returned v ∧ New w w' v [] := by
  by_cases h1 : 64 < n
  · clear h
    go_enter Tryz.func44, Tryz.ntmps44
    go_wp2
    go_ret
    exact ⟨_, rfl, New.nought (Gr.refl _)⟩
  by_cases h2 : k < 0
  · clear h
    go_enter Tryz.func44, Tryz.ntmps44
    go_wp2
    go_ret
    exact ⟨_, rfl, New.nought (Gr.refl _)⟩
  · have h3 : n ≤ k := by omega
    clear h
    go_enter Tryz.func44, Tryz.ntmps44
    go_wp2
    go_ret
    exact ⟨_, rfl, New.nought (Gr.refl _)⟩
theorem unitL_set (n k : Nat) : (List.replicate n (0 : Int)).set k 1 = unitL n k := by
  unfold unitL lst
  apply List.ext_getElem
  · simp
  intro j h1 h2
  simp only [List.getElem_set, List.getElem_replicate, List.getElem_map, List.getElem_range]
  by_cases e : k = j
  · rw [if_pos e, if_pos e.symm]
  · rw [if_neg e, if_neg (fun c => e c.symm)]
theorem unitL_byt (n k : Nat) : ∀ z ∈ unitL n k, Byt z := lst_byt fun i _ => by
  unfold Byt
  split <;> omega
set_option maxHeartbeats 400000 in
theorem unit_any (n k : Nat) (w : World) (h1 : 1 ≤ n) (h2 : n ≤ 64) (h3 : k < n) :
    Calls Tryz.prog 44 #[.int .i64 n, .int .i64 k] w fun e w' => ∃ v, e = .returned v ∧ New w w' v (unitL n k) := by
  have hmk := make22 n n (by omega) (by omega)
  have hR : ∃ cur, cur = rowB (List.replicate n 0) := ⟨_, rfl⟩
  obtain ⟨cur, hcur⟩ := hR
  rw [← hcur] at hmk
  have c1 : ∀ w : World, (w.alloc (.cells cur 5)).cell? ⟨w.heap.size, k, none⟩ = some (.int .u8 0) := fun w => by
    rw [cell_of_row _ _ _ _ _ _ (heap_alloc_new _ _), hcur, rowB_get _ _ (by simpa using h3), replicate_getD]
  have c2 : ∀ w : World, (w.alloc (.cells cur 5)).frozen? ⟨w.heap.size, k, none⟩ = false := fun w => frozen_of_row _ _ k _ _ (heap_alloc_new _ _)
  have HC := Lib.hid hcur
  clear hcur
  have d1 := c1 w
  have d2 := c2 w
  clear c1 c2
  go_enter Tryz.func44, Tryz.ntmps44
  go_wp2
  go_ret
  refine ⟨_, rfl, New.of_blk (Gr.alloc (Gr.refl _) _ _) (unitL_byt n k) (Nat.le_refl _) ?_ (lst_length _ _) (by omega)⟩
  show (w.alloc _).heap[w.heap.size]? = _
  rw [heap_alloc_new, HC.out, rowB_set, unitL_set]
theorem lst_eq_sum (x y : List Int) : lst x.length (sumF x y) = sumL x y := rfl
theorem lst_eq_ax (c : Int) (x y : List Int) : lst x.length (axF c x y) = axL c x y := rfl
theorem lst_eq_sc (c : Int) (x : List Int) : lst x.length (scF c x) = scaleL c x := rfl
theorem ok_axpy : ∀ (f va vb : Value) (c : Int) (x y : List Int) (w : World), IsF w f → Byt c → Bs w va x → Bs w vb y → x.length ≤ 1000000 → y.length = x.length →
    Calls Tryz.prog 87 #[f, .int .u8 c, va, vb] w fun e w' => ∃ v, e = .returned (.tuple #[v, .bool true]) ∧ New w w' v (axL c x y) :=
  fun f va vb c x y w hf hc ha hb hn hl => by
    rw [← lst_eq_ax]
    by_cases h0 : 0 < x.length
    · obtain ⟨a, ca, rfl, _, _, h3⟩ := Bs.at ha h0
      obtain ⟨b, cb, rfl, _, _, h6⟩ := Bs.at hb (by omega)
      rw [hl] at h6 ⊢
      exact axpy_core f a b x.length ca cb c x y w hf hc (Bs.byt ha) (Bs.byt hb) hn h3 h6
    · obtain rfl : x = [] := List.eq_nil_of_length_eq_zero (by omega)
      obtain rfl : y = [] := List.eq_nil_of_length_eq_zero hl
      obtain ⟨_, oa, ca, rfl, _, _, _, _⟩ := ha
      obtain ⟨_, ob, cb, rfl, _, _, _, _⟩ := hb
      exact axpy_none f c oa ob ca cb w hf
theorem ok_axpyNe : ∀ (f va vb : Value) (c : Int) (x y : List Int) (w : World), IsF w f → Byt c → Bs w va x → Bs w vb y → x.length ≤ 1000000 → y.length ≤ 1000000 → y.length ≠ x.length →
    Calls Tryz.prog 87 #[f, .int .u8 c, va, vb] w fun e w' => ∃ v, e = .returned (.tuple #[v, .bool false]) ∧ New w w' v [] :=
  fun f va vb c x y w _ _ ha hb _ _ hl => by
    obtain ⟨_, oa, ca, rfl, _, _, _, _⟩ := ha
    obtain ⟨_, ob, cb, rfl, _, _, _, _⟩ := hb
    exact axpy_ne f c oa ob _ _ ca cb w hl
theorem ok_scale : ∀ (f va : Value) (c : Int) (x : List Int) (w : World), IsF w f → Byt c → Bs w va x → x.length ≤ 1000000 →
    Calls Tryz.prog 78 #[f, .int .u8 c, va] w fun e w' => ∃ v, e = .returned v ∧ New w w' v (scaleL c x) :=
  fun f va c x w hf hc ha hn => by
    rw [← lst_eq_sc]
    by_cases h0 : 0 < x.length
    · obtain ⟨a, ca, rfl, _, _, h3⟩ := Bs.at ha h0
      exact scale_core f a x.length ca c x w hf hc (Bs.byt ha) hn h3
    · obtain rfl : x = [] := List.eq_nil_of_length_eq_zero (by omega)
      obtain ⟨_, oa, ca, rfl, _, _, _, _⟩ := ha
      exact scale_none f c oa ca w hf
theorem ok_unit : ∀ (n k : Nat) (w : World), 1 ≤ n → n ≤ 64 → k < n →
    Calls Tryz.prog 44 #[.int .i64 n, .int .i64 k] w fun e w' => ∃ v, e = .returned v ∧ New w w' v (unitL n k) :=
  fun n k w h1 h2 h3 => unit_any n k w h1 h2 h3
theorem ok_unitNe : ∀ (n k : Int) (w : World), ¬ (1 ≤ n ∧ n ≤ 64 ∧ 0 ≤ k ∧ k < n) →
    Calls Tryz.prog 44 #[.int .i64 n, .int .i64 k] w fun e w' => ∃ v, e = .returned v ∧ New w w' v [] :=
  fun n k w h => unit_ne n k w h
end Go.Proofs.YtedobcajbelcpaaGreat
namespace Go.Proofs.YtedobcajbelcpaaGreat
open Go.RowKit

set_option maxHeartbeats 400000 in
theorem columns_any (v : Value) (A : List (List Int)) (w : World) (h : Bss w v A) :
    Calls Tryz.prog 58 #[v] w fun e w' => e = .returned (.int .i64 (wd A)) ∧ Gr w w' := by
  by_cases h0 : 0 < A.length
  · obtain ⟨a, c, rfl, h1, h2, h3⟩ := Bss.at h h0
    obtain ⟨u, q, hu⟩ := h3 0 h0
    rw [show a.add 0 = a from by simp [Addr.add]] at q
    obtain ⟨ou, cu, rfl⟩ := hu.form
    have e : (A.getD 0 []).length = wd A := rfl
    rw [e] at q
    clear h h3 hu e
    generalize wd A = k at *
    generalize A.length = n at *
    have hb : ((n : Int) == 0) = false := by simp; omega
    go_enter Tryz.func58, Tryz.ntmps58
    go_wp2
    go_ret
    exact ⟨rfl, Gr.refl _⟩
  · obtain rfl : A = [] := List.eq_nil_of_length_eq_zero (by omega)
    obtain ⟨oa, c, rfl, _, _, _, _⟩ := h
    rw [wd_nil]
    go_enter Tryz.func58, Tryz.ntmps58
    go_wp2
    go_ret
    exact ⟨rfl, Gr.refl _⟩
theorem mayL_iff {A : List (List Int)} (h : ∀ j, j < A.length → (A.getD j []).length = wd A) : mayL A = decide (wd A ≤ 64) := by
  by_cases h0 : 0 < A.length
  · by_cases h1 : wd A ≤ 64
    · rw [decide_eq_true h1]
      exact mayL_true fun i hi => ⟨h i hi, by rw [h i hi]; exact h1⟩
    · rw [decide_eq_false h1]
      exact mayL_false 0 h0 fun c => h1 c.2
  · obtain rfl : A = [] := List.eq_nil_of_length_eq_zero (by omega)
    rfl
set_option maxHeartbeats 400000 in
theorem may_core (a : Addr) (n c : Nat) (L : List (List Int)) (w : World) (hn : L.length = n) (hnb : n ≤ 1000000) (hs : Bss w (.slice (some a) n c) L)
    (hc : ∀ i, i < n → ∃ u, w.cell? (a.add i) = some u ∧ Bs w u (L.getD i [])) :
    Calls Tryz.prog 55 #[.slice (some a) n c] w fun e w' => e = .returned (.bool (mayL L)) ∧ Gr w w' := by
  have HC := Lib.hid hc
  have HN := Lib.hid hn
  have HS := Lib.hid hs
  clear hc hn hs
  go_enter Tryz.func55, Tryz.ntmps55
  go_wp2_with (first | (go_at_call 58; refine (columns_any _ L _ HS.out).mono ?_; rintro e w1 ⟨rfl, hg1⟩; have G1 := Lib.hid hg1; clear hg1))
  have HW : Hid (wd L = wd L) := Lib.hid rfl
  obtain ⟨q, hq⟩ : ∃ q, wd L = q := ⟨_, rfl⟩
  have HQ := Lib.hid hq
  rw [hq]
  clear hq HW
  go_loopw [10] (fun i wr => ∃ k : Nat, k ≤ n ∧ i = .int .i64 k ∧ Gr w wr ∧ ∀ j, j < k → (L.getD j []).length = wd L) (fun i _ => n - (intOf i).toNat)
  case atStart => exact ⟨0, by omega, rfl, G1.out, by omega⟩
  case round =>
    obtain ⟨k, hk, rfl, hg, hs⟩ := hrel
    have HJ := Lib.hid hs
    have G := Lib.hid hg
    clear hs hg
    by_cases hlt : k < n
    · obtain ⟨u, h1, hu⟩ := HC.out k hlt
      have q1 := cell_grown G.out h1
      obtain ⟨ou, cu, rfl⟩ := hu.form
      obtain ⟨p, hp⟩ : ∃ p, (L.getD k []).length = p := ⟨_, rfl⟩
      rw [hp] at q1
      have HP := Lib.hid hp
      clear hp h1 hu
      by_cases e1 : p = q
      · subst e1
        go_wp2
        refine ⟨⟨k + 1, by omega, by go_num, G.out, fun j hj => ?_⟩, by simp [intOf]; omega⟩
        by_cases e : j = k
        · rw [e, HP.out, HQ.out]
        · exact HJ.out j (by omega)
      · have hne : ((p : Int) != q) = true := by simp; omega
        go_wp2
        go_ret
        exact ⟨by rw [mayL_false k (by rw [HN.out]; exact hlt) (fun c => e1 (by rw [← HP.out, ← HQ.out]; exact c.1))]; rfl, G.out⟩
    · obtain rfl : k = n := by omega
      have E : Hid (mayL L = decide (q ≤ 64)) := Lib.hid (by rw [← HQ.out]; exact mayL_iff (fun i hi => HJ.out i (by rw [HN.out] at hi; exact hi)))
      have hd : decide ((q : Int) ≤ 64) = decide (q ≤ 64) := decide_eq_decide.2 (by omega)
      have HD := Lib.hid hd
      clear hd
      go_wp2
      go_ret
      exact ⟨by rw [E.out, ← HD.out]; rfl, G.out⟩
set_option maxHeartbeats 400000 in
theorem may_nil (oa : Option Addr) (c : Nat) (w : World) (h : Bss w (.slice oa 0 c) []) :
    Calls Tryz.prog 55 #[.slice oa 0 c] w fun e w' => e = .returned (.bool true) ∧ Gr w w' := by
  have HS := Lib.hid h
  clear h
  go_enter Tryz.func55, Tryz.ntmps55
  go_wp2_with (first | (go_at_call 58; refine (columns_any _ [] _ HS.out).mono ?_; rw [wd_nil]; rintro e w1 ⟨rfl, hg1⟩; have G1 := Lib.hid hg1; clear hg1))
  go_loopw [10] (fun i wr => i = .int .i64 0 ∧ wr = w1) (fun _ _ => 0)
  case atStart => exact ⟨rfl, rfl⟩
  case round =>
    obtain ⟨rfl, rfl⟩ := hrel
    go_wp2
    go_ret
    exact ⟨rfl, G1.out⟩
theorem may_any (v : Value) (L : List (List Int)) (w : World) (h : Bss w v L) (hn : L.length ≤ 1000000) :
    Calls Tryz.prog 55 #[v] w fun e w' => e = .returned (.bool (mayL L)) ∧ Gr w w' := by
  by_cases h0 : 0 < L.length
  · have hs := h
    obtain ⟨a, c, rfl, _, _, h3⟩ := Bss.at h h0
    exact may_core a L.length c L w rfl hn hs h3
  · obtain rfl : L = [] := List.eq_nil_of_length_eq_zero (by omega)
    have hs := h
    obtain ⟨oa, c, rfl, _, _, _, _⟩ := h
    exact may_nil oa c w hs
set_option maxHeartbeats 400000 in
theorem mtabled_any (f : Value) (w : World) (h : IsF w f) :
    Calls Tryz.prog 57 #[f] w fun e w' => ∃ b, e = .returned (.pointer (some ⟨b, 0, none⟩)) ∧ FieldAt w' b ∧ Gr w w' := by
  rcases h with rfl | ⟨b, rfl, hb⟩
  · go_enter Tryz.func57, Tryz.ntmps57
    go_wp2_with (go_at_call 34; refine (new_any _).mono ?_; rintro e w' ⟨b, rfl, hf, hg⟩; have HF := Lib.hid hf; clear hf; have HG := Lib.hid hg; clear hg)
    go_ret
    exact ⟨_, rfl, HF.out, HG.out⟩
  · have HF := Lib.hid hb
    clear hb
    go_enter Tryz.func57, Tryz.ntmps57
    go_wp2_with fail
    go_ret
    exact ⟨_, rfl, HF.out, Gr.refl _⟩
set_option maxHeartbeats 400000 in
/-- With tables at hand an inverse leaves the world as it is (but for draws). -/
theorem inv_field (t : Nat) (a : Int) (ha : Byt a) (w : World) (hf : FieldAt w t) :
    Calls Tryz.prog 79 #[.pointer (some ⟨t, 0, none⟩), .int .u8 a] w fun e w' => e = .returned (.int .u8 (invZ a)) ∧ ∃ d, w' = w.drewN d := by
  obtain ⟨a0, a1⟩ := ha
  by_cases az : a = 0
  · subst az
    go_enter Tryz.func79, Tryz.ntmps79
    go_wp2_with fail
    go_ret
    exact ⟨rfl, 0, rfl⟩
  · have HF := Lib.hid hf
    clear hf
    have ea : (a == 0) = false := by simpa using az
    obtain ⟨x, rfl⟩ := Int.eq_ofNat_of_zero_le a0
    have hx : x < 256 := by omega
    have l1 := (M.ex_lg x hx (by simpa using az)).2
    clear az
    go_enter Tryz.func79, Tryz.ntmps79
    go_wp2_with (go_at_call 64; refine (made_field t _ HF.out).mono ?_; rintro e w' ⟨rfl, rfl⟩)
    have c1 := FieldAt.lg HF.out x hx
    have hi : (255 - M.lgN x) % 255 < 255 := Nat.mod_lt _ (by omega)
    have c3 := FieldAt.ex HF.out _ hi
    have E : Hid (invZ x = ((M.exN ((255 - M.lgN x) % 255) : Nat) : Int)) := Lib.hid (by
      unfold invZ M.invN
      rw [if_neg (by simp at ea; simpa using ea)]
      rfl)
    generalize M.lgN x = p at *
    rw [show (255 - p) % 255 = (-(p : Int) % 255).toNat from by omega] at c3 E
    clear hi
    go_quiet (fail)
    go_wp2
    go_ret
    exact ⟨ret_int E.out.symm, _, rfl⟩
section
variable {w0 : World} {g n c k : Nat} {A Lm : List (List Int)} {ps : List Nat} {col : Nat} {us : List Value}
set_option maxHeartbeats 800000 in
theorem beginning_any (w : World) (h : Mx w0 w g n c k A Lm ps col us) (st cl : Nat) (hst : st ≤ n) (hcl : cl < k) (hn : n ≤ 1000) :
    Calls Tryz.prog 77 #[.slice (some ⟨g, 0, none⟩) n c, .int .i64 st, .int .i64 cl] w fun e w' => Gr w w' ∧
      ((e = .returned (.int .i64 (-1)) ∧ ∀ s, st ≤ s → s < n → (Lm.getD s []).getD cl 0 = 0) ∨ ∃ t : Nat, e = .returned (.int .i64 t) ∧ st ≤ t ∧ t < n ∧ (Lm.getD t []).getD cl 0 ≠ 0) := by
  have HX := Lib.hid h
  clear h
  go_enter Tryz.func77, Tryz.ntmps77
  go_wp2
  refine wp_scope_jumps 0 (fun a' w' => ∃ (t : Nat) (u0 u1 u2 u3 u4 u5 u6 u8 u9 u10 u11 u12 u13 u14 u15 u16 u17 u18 u19 u20 u21 u22 u23 : Value), st ≤ t ∧ t < n ∧ (Lm.getD t []).getD cl 0 ≠ 0 ∧ w' = w ∧ a' = { tmps := #[u0, u1, u2, u3, u4, u5, u6, .int .i64 t, u8, u9, u10, u11, u12, u13, u14, u15, u16, u17, u18, u19, u20, u21, u22, u23], defers := [] }) (fun _ _ => 0) rfl ?_ ?_
  rotate_left
  · rintro a' w' ⟨t, u0, u1, u2, u3, u4, u5, u6, u8, u9, u10, u11, u12, u13, u14, u15, u16, u17, u18, u19, u20, u21, u22, u23, h1, h2, h3, rfl, rfl⟩
    have H3 := Lib.hid h3
    clear h3
    go_wp2
    simp only [Exit.jump]
    go_ret
    exact ⟨Gr.refl _, .inr ⟨t, rfl, h1, h2, H3.out⟩⟩
  go_wp2
  go_loopw [7] (fun i wr => wr = w ∧ ∃ ii : Nat, ii ≤ n ∧ st ≤ ii ∧ i = .int .i64 ii ∧ ∀ s, st ≤ s → s < ii → (Lm.getD s []).getD cl 0 = 0) (fun i _ => n - (intOf i).toNat)
  case atStart => exact ⟨rfl, st, hst, Nat.le_refl _, rfl, by omega⟩
  case round =>
    obtain ⟨rfl, ii, hii, hdi, rfl, ht⟩ := hrel
    have HT := Lib.hid ht
    clear ht
    by_cases hlt : ii < n
    · obtain ⟨oi, ci, _, e1, e2⟩ := HX.out.cell ii hlt
      obtain ⟨b, rfl, e3⟩ := e2 cl hcl
      have hbb := HX.out.wide.byt ii cl
      clear e2
      obtain ⟨z, hz⟩ : ∃ z, (Lm.getD ii []).getD cl 0 = z := ⟨_, rfl⟩
      rw [hz] at e3 hbb
      have HZ := Lib.hid hz
      clear hz
      by_cases hz0 : z = 0
      · subst hz0
        go_wp2
        refine ⟨⟨trivial, ii + 1, by omega, by omega, by go_num, fun s s1 s2 => ?_⟩, by simp [intOf]; omega⟩
        by_cases e : s = ii
        · rw [e, HZ.out]
        · exact HT.out s s1 (by omega)
      · have hzb : (z != 0) = true := by simpa using hz0
        go_wp2
        go_step3
        exact ⟨rfl, ii, _, _, _, _, _, _, _, _, _, _, _, _, _, _, _, _, _, _, _, _, _, _, _, hdi, hlt, by rw [HZ.out]; exact hz0, rfl, rfl⟩
    · obtain rfl : n = ii := by omega
      go_wp2
      simp only [Exit.jump]
      go_ret
      exact ⟨Gr.refl _, .inl ⟨rfl, HT.out⟩⟩
end
end Go.Proofs.YtedobcajbelcpaaGreat
