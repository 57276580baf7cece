/-
  Package row as it was written: each of its functions, walked once.
-/
import Derived.Test.YtocigdcbfbnfoaaRk
namespace Go.Proofs.Ytocigdcbfbnfoaa
open Go.RowKit

/-- A Field that has its tables. -/
def Fd (w : World) (f : Value) : Prop := ∃ b, f = .pointer (some ⟨b, 0, none⟩) ∧ FieldAt w b
theorem Fd.grown {w w' : World} {f : Value} (h : Fd w f) (hg : Gr w w') : Fd w' f := by
  obtain ⟨b, h1, h2⟩ := h
  exact ⟨b, h1, FieldAt.grown h2 hg⟩
set_option maxHeartbeats 400000 in
theorem tabled_any (f : Value) (w : World) (h : IsF w f) :
    Calls Try.prog 28 #[f] w fun e w' => ∃ b, e = .returned (.pointer (some ⟨b, 0, none⟩)) ∧ FieldAt w' b ∧ Gr w w' := by
  rcases h with rfl | ⟨b, rfl, hb⟩
  · go_enter Try.func28, Try.ntmps28
    go_wp2_with (go_at_call 16; refine (new_any _).mono ?_; rintro e w' ⟨b, rfl, hf, hg⟩; have HF := Lib.hid hf; clear hf; have HG := Lib.hid hg; clear hg)
    go_ret
    exact ⟨_, rfl, HF.out, HG.out⟩
  · have HF := Lib.hid hb
    clear hb
    go_enter Try.func28, Try.ntmps28
    go_wp2_with fail
    go_ret
    exact ⟨_, rfl, HF.out, Gr.refl _⟩
set_option maxHeartbeats 400000 in
theorem made_field (b : Nat) (w : World) (hb : FieldAt w b) :
    Calls Try.prog 38 #[.pointer (some ⟨b, 0, none⟩)] w fun e w' => e = .returned (.pointer (some ⟨b, 0, none⟩)) ∧ w = w' := by
  have h0 := FieldAt.ex hb 0 (by omega)
  rw [M.exN_zero] at h0
  clear hb
  go_enter Try.func38, Try.ntmps38
  go_wp2_with fail
  go_ret
  exact ⟨rfl, rfl⟩
/-- With tables at hand a product leaves the world as it is (but for draws). -/
theorem mul_field (t : Nat) (a b : Int) (ha : Byt a) (hb : Byt b) (w : World) (hf : FieldAt w t) :
    Calls Try.prog 29 #[.pointer (some ⟨t, 0, none⟩), .int .u8 a, .int .u8 b] w fun e w' => e = .returned (.int .u8 (mulZ a b)) ∧ ∃ d, w' = w.drewN d := by
  obtain ⟨a0, a1⟩ := ha
  obtain ⟨b0, b1⟩ := hb
  by_cases az : a = 0
  · subst az
    go_enter Try.func29, Try.ntmps29
    go_wp2_with fail
    go_ret
    exact ⟨ret_int (by simp [mulZ, M.mulN_zero_left]), 0, rfl⟩
  by_cases bz : b = 0
  · subst bz
    go_enter Try.func29, Try.ntmps29
    go_wp2_with fail
    go_ret
    exact ⟨ret_int (by simp [mulZ, M.mulN_zero_right]), 0, rfl⟩
  · have HF := Lib.hid hf
    clear hf
    have ea : (a == 0) = false := by simpa using az
    have eb : (b == 0) = false := by simpa using bz
    obtain ⟨x, rfl⟩ := Int.eq_ofNat_of_zero_le a0
    obtain ⟨y, rfl⟩ := Int.eq_ofNat_of_zero_le b0
    clear az bz
    have hx : x < 256 := by omega
    have hy : y < 256 := by omega
    go_enter Try.func29, Try.ntmps29
    go_wp2_with (go_at_call 38; refine (made_field t _ HF.out).mono ?_; rintro e w' ⟨rfl, rfl⟩)
    have c1 := FieldAt.lg HF.out x hx
    have c2 := FieldAt.lg HF.out y hy
    have hi : (M.lgN x + M.lgN y) % 255 < 255 := Nat.mod_lt _ (by omega)
    have c3 := FieldAt.ex HF.out _ hi
    have l1 := M.lgN_lt x
    have l2 := M.lgN_lt y
    have E : Hid (mulZ x y = ((M.exN ((M.lgN x + M.lgN y) % 255) : Nat) : Int)) := Lib.hid (by
      unfold mulZ
      rw [M.mulN_nz _ _ (by simp at ea; simpa using ea) (by simp at eb; simpa using eb)]
      rfl)
    generalize M.lgN x = p at *
    generalize M.lgN y = q at *
    go_quiet (fail)
    go_wp2
    go_ret
    exact ⟨ret_int E.out.symm, _, rfl⟩
theorem New.of_blk {w w' : World} {g n : Nat} {l : List Int} (hg : Gr w w') (hb : ∀ x ∈ l, Byt x) (hs : w.heap.size ≤ g) (hk : Blk w' g l) (hl : l.length = n) (hn : n ≤ 1000000) : New w w' (.slice (some ⟨g, 0, none⟩) n n) l := by
  subst hl
  exact ⟨hg, hb, Or.inr ⟨g, l.length, rowB l, rfl, hs, hk, Nat.le_refl _, by omega, fun i hi => rowB_get l i hi⟩⟩
theorem New.nought {w w' : World} (hg : Gr w w') : New w w' (.slice none 0 0) [] := ⟨hg, by simp, Or.inl ⟨rfl, none, 0, rfl, fun _ => rfl, by omega⟩⟩
theorem New.made0 {w w' : World} {g : Nat} (hg : Gr w w') : New w w' (.slice (some ⟨g, 0, none⟩) 0 0) [] := ⟨hg, by simp, Or.inl ⟨rfl, _, 0, rfl, fun _ => rfl, by omega⟩⟩
theorem Making.drawn {w wr : World} {g n k : Nat} {f : Nat → Int} (h : Making w g n f k wr) (d : Nat) : Making w g n f k (wr.drewN d) := by
  obtain ⟨h1, h2, h3⟩ := h
  exact ⟨h1, h2, h3⟩
def sumF (x y : List Int) : Nat → Int := fun i => addZ (x.getD i 0) (y.getD i 0)
theorem sumF_byt {x y : List Int} {n : Nat} (hx : ∀ i, Byt (x.getD i 0)) (hy : ∀ i, Byt (y.getD i 0)) : ∀ z ∈ lst n (sumF x y), Byt z := lst_byt fun i _ => addZ_byt (hx i) (hy i)

def axF (c : Int) (x y : List Int) : Nat → Int := fun i => addZ (y.getD i 0) (mulZ c (x.getD i 0))
theorem axF_byt {c : Int} {x y : List Int} {n : Nat} (hy : ∀ i, Byt (y.getD i 0)) : ∀ z ∈ lst n (axF c x y), Byt z := lst_byt fun i _ => addZ_byt (hy i) (mulZ_byt _ _)
theorem cell_set_farN {W : World} {x y : Addr} {v u : Value} {d : Nat} (h : W.cell? x = some u) (hne : x ≠ y) : ((W.drewN d).setCell y v).drew.cell? x = some u := cell_set_far (by exact h) hne
set_option maxHeartbeats 400000 in
theorem axpy_core (f : Value) (a b : Addr) (n ca cb : Nat) (c : Int) (x y : List Int) (w : World) (hf : IsF w f) (hc : Byt c) (hx : ∀ i, Byt (x.getD i 0)) (hy : ∀ i, Byt (y.getD i 0)) (hn : n ≤ 1000000)
    (hxc : ∀ i, i < n → w.cell? (a.add i) = some (.int .u8 (x.getD i 0))) (hyc : ∀ i, i < n → w.cell? (b.add i) = some (.int .u8 (y.getD i 0))) :
    Calls Try.prog 43 #[f, .int .u8 c, .slice (some a) n ca, .slice (some b) n cb] w fun e w' => ∃ v, e = .returned (.tuple #[v, .bool true]) ∧ New w w' v (lst n (axF c x y)) := by
  have HXB := Lib.hid hx
  have HYB := Lib.hid hy
  have HX := Lib.hid hxc
  have HY := Lib.hid hyc
  have HF := Lib.hid hf
  have hmk := make22 n n (by omega) (by omega)
  clear hx hy hxc hyc hf
  have hR : ∃ cur, cur = rowB (List.replicate n 0) := ⟨_, rfl⟩
  obtain ⟨cur, hcur⟩ := hR
  rw [← hcur] at hmk
  have HC := Lib.hid hcur
  clear hcur
  go_enter Try.func43, Try.ntmps43
  go_wp2_with (first | (go_at_call 28; refine (tabled_any f _ HF.out).mono ?_; rintro e w1 ⟨t, rfl, ht, hg1⟩; have HT := Lib.hid ht; clear ht; have G1 := Lib.hid hg1; clear hg1))
  clear hmk
  have HX1 : Hid (∀ i, i < n → w1.cell? (a.add i) = some (.int .u8 (x.getD i 0))) := Lib.hid fun i hi => cell_grown G1.out (HX.out i hi)
  have HY1 : Hid (∀ i, i < n → w1.cell? (b.add i) = some (.int .u8 (y.getD i 0))) := Lib.hid fun i hi => cell_grown G1.out (HY.out i hi)
  have hsz : w.heap.size ≤ w1.heap.size := G1.out.size
  have HB : Hid (Making w1 w1.heap.size n (axF c x y) 0 (w1.alloc (.cells cur 5))) :=
    Lib.hid ⟨Gr.alloc (Gr.refl _) _ _, Nat.le_refl _, by rw [HC.out, ← part_nil]; exact heap_alloc_new _ _⟩
  clear HC HX HY HF
  generalize hW : w1.alloc (.cells cur 5) = W at *
  generalize hG : w1.heap.size = g at *
  go_loopw [24] (fun i wr => ∃ k : Nat, k ≤ n ∧ i = .int .i64 k ∧ Making w1 g n (axF c x y) k wr) (fun i _ => n - (intOf i).toNat)
  case atStart => exact ⟨0, by omega, rfl, HB.out⟩
  case round =>
    clear HB
    obtain ⟨k, hk, rfl, hm⟩ := hrel
    obtain ⟨hg, hge, hblk⟩ := hm
    by_cases hlt : k < n
    · have q1 := cell_grown hg (HX1.out k hlt)
      have q2 := cell_grown hg (HY1.out k hlt)
      have q3 := Blk.cell hblk k (by rw [lst_length]; exact hlt)
      have q4 := frozen_of_row wr g k _ _ hblk
      have n1 : a.add k ≠ ⟨g, k, none⟩ := far_of hge (HX1.out k hlt)
      have n2 : b.add k ≠ ⟨g, k, none⟩ := far_of hge (HY1.out k hlt)
      have M0 : Hid (Making w1 g n (axF c x y) k wr) := Lib.hid ⟨hg, hge, hblk⟩
      have HT1 : Hid (FieldAt wr t) := Lib.hid (FieldAt.grown HT.out hg)
      have E : Hid (addZ (y.getD k 0) (mulZ c (x.getD k 0)) = axF c x y k) := Lib.hid rfl
      have hp := HXB.out k
      have hq := HYB.out k
      have hm := mulZ_byt c (x.getD k 0)
      clear hg hge hblk
      generalize (lst n (part (axF c x y) k)).getD k 0 = old at *
      generalize x.getD k 0 = p at *
      generalize y.getD k 0 = q at *
      generalize hM : mulZ c p = m at *
      go_wp2
      go_region_held3 (fun W => W.cell? (a.add k) = some (.int .u8 p) ∧ W.cell? (b.add k) = some (.int .u8 q)) (first | exact ⟨cell_set_far q1 n1, cell_set_far q2 n2⟩ | exact ⟨cell_set_farN q1 n1, cell_set_farN q2 n2⟩ | go_keep)
        (first | (go_at_call 19; refine (add_any _ q m hq hm _).mono ?_; rintro e w' ⟨rfl, rfl⟩) | (go_at_call 29; refine (mul_field t c p hc hp _ (by exact HT1.out)).mono ?_; rw [hM]; rintro e w' ⟨rfl, nd, rfl⟩))
      have E2 : ((q.toNat ^^^ m.toNat : Nat) : Int) = axF c x y k := by rw [← E.out]; rfl
      rw [E2]
      go_wp2
      exact ⟨⟨k + 1, by omega, by go_num, Making.drew (Making.store (Making.drawn M0.out _))⟩, by simp [intOf]; omega⟩
    · obtain rfl : k = n := by omega
      rw [part_all] at hblk
      have G := Lib.hid hg
      have K := Lib.hid hblk
      clear hg hblk
      go_wp2
      go_ret2
      exact ⟨_, rfl, New.of_blk (Gr.trans G1.out G.out) (axF_byt HYB.out) (by omega) K.out (lst_length _ _) hn⟩

def scF (c : Int) (x : List Int) : Nat → Int := fun i => mulZ c (x.getD i 0)
set_option maxHeartbeats 400000 in
theorem scale_core (f : Value) (a : Addr) (n ca : Nat) (c : Int) (x : List Int) (w : World) (hf : IsF w f) (hc : Byt c) (hx : ∀ i, Byt (x.getD i 0)) (hn : n ≤ 1000000)
    (hxc : ∀ i, i < n → w.cell? (a.add i) = some (.int .u8 (x.getD i 0))) :
    Calls Try.prog 40 #[f, .int .u8 c, .slice (some a) n ca] w fun e w' => ∃ v, e = .returned v ∧ New w w' v (lst n (scF c x)) := by
  have HXB := Lib.hid hx
  have HX := Lib.hid hxc
  have HF := Lib.hid hf
  have hmk := make22 n n (by omega) (by omega)
  clear hx hxc hf
  have hR : ∃ cur, cur = rowB (List.replicate n 0) := ⟨_, rfl⟩
  obtain ⟨cur, hcur⟩ := hR
  rw [← hcur] at hmk
  have HC := Lib.hid hcur
  clear hcur
  go_enter Try.func40, Try.ntmps40
  go_wp2_with (first | (go_at_call 28; refine (tabled_any f _ HF.out).mono ?_; rintro e w1 ⟨t, rfl, ht, hg1⟩; have HT := Lib.hid ht; clear ht; have G1 := Lib.hid hg1; clear hg1))
  clear hmk
  have HX1 : Hid (∀ i, i < n → w1.cell? (a.add i) = some (.int .u8 (x.getD i 0))) := Lib.hid fun i hi => cell_grown G1.out (HX.out i hi)
  have hsz : w.heap.size ≤ w1.heap.size := G1.out.size
  have HB : Hid (Making w1 w1.heap.size n (scF c x) 0 (w1.alloc (.cells cur 5))) :=
    Lib.hid ⟨Gr.alloc (Gr.refl _) _ _, Nat.le_refl _, by rw [HC.out, ← part_nil]; exact heap_alloc_new _ _⟩
  clear HC HX HF
  generalize hW : w1.alloc (.cells cur 5) = W at *
  generalize hG : w1.heap.size = g at *
  go_loopw [16] (fun i wr => ∃ k : Nat, k ≤ n ∧ i = .int .i64 k ∧ Making w1 g n (scF c x) k wr) (fun i _ => n - (intOf i).toNat)
  case atStart => exact ⟨0, by omega, rfl, HB.out⟩
  case round =>
    clear HB
    obtain ⟨k, hk, rfl, hm⟩ := hrel
    obtain ⟨hg, hge, hblk⟩ := hm
    by_cases hlt : k < n
    · have q1 := cell_grown hg (HX1.out k hlt)
      have q3 := Blk.cell hblk k (by rw [lst_length]; exact hlt)
      have q4 := frozen_of_row wr g k _ _ hblk
      have n1 : a.add k ≠ ⟨g, k, none⟩ := far_of hge (HX1.out k hlt)
      have M0 : Hid (Making w1 g n (scF c x) k wr) := Lib.hid ⟨hg, hge, hblk⟩
      have HT1 : Hid (FieldAt wr t) := Lib.hid (FieldAt.grown HT.out hg)
      have E : Hid (mulZ c (x.getD k 0) = scF c x k) := Lib.hid rfl
      have hp := HXB.out k
      clear hg hge hblk
      generalize (lst n (part (scF c x) k)).getD k 0 = old at *
      generalize x.getD k 0 = p at *
      go_wp2_with (first | (go_at_call 29; refine (mul_field t c p hc hp _ (by exact HT1.out)).mono ?_; rw [E.out]; rintro e w' ⟨rfl, d, rfl⟩))
      exact ⟨⟨k + 1, by omega, by go_num, Making.store (Making.drawn M0.out _)⟩, by simp [intOf]; omega⟩
    · obtain rfl : k = n := by omega
      rw [part_all] at hblk
      have G := Lib.hid hg
      have K := Lib.hid hblk
      clear hg hblk
      go_wp2
      go_ret
      exact ⟨_, rfl, New.of_blk (Gr.trans G1.out G.out) (lst_byt fun i _ => mulZ_byt _ _) (by omega) K.out (lst_length _ _) hn⟩

set_option maxHeartbeats 400000 in
theorem dot_core (f : Value) (a b : Addr) (n ca cb : Nat) (x y : List Int) (w : World) (hf : IsF w f) (hx : ∀ i, Byt (x.getD i 0)) (hy : ∀ i, Byt (y.getD i 0)) (hn : n ≤ 1000000)
    (hxc : ∀ i, i < n → w.cell? (a.add i) = some (.int .u8 (x.getD i 0))) (hyc : ∀ i, i < n → w.cell? (b.add i) = some (.int .u8 (y.getD i 0))) :
    Calls Try.prog 18 #[f, .slice (some a) n ca, .slice (some b) n cb] w fun e w' => e = .returned (.tuple #[.int .u8 (dotL x y n), .bool true]) ∧ Gr w w' := by
  have HXB := Lib.hid hx
  have HYB := Lib.hid hy
  have HX := Lib.hid hxc
  have HY := Lib.hid hyc
  have HF := Lib.hid hf
  clear hx hy hxc hyc hf
  go_enter Try.func18, Try.ntmps18
  go_wp2_with (first | (go_at_call 28; refine (tabled_any f _ HF.out).mono ?_; rintro e w1 ⟨t, rfl, ht, hg1⟩; have HT := Lib.hid ht; clear ht; have G1 := Lib.hid hg1; clear hg1))
  go_loopw [8, 19] (fun s i wr => ∃ k : Nat, k ≤ n ∧ i = .int .i64 k ∧ s = .int .u8 (dotL x y k) ∧ Gr w1 wr) (fun _ i _ => n - (intOf i).toNat)
  case atStart => exact ⟨0, by omega, rfl, rfl, Gr.refl _⟩
  case round =>
    obtain ⟨k, hk, rfl, rfl, hg⟩ := hrel
    by_cases hlt : k < n
    · have q1 := cell_grown (Gr.trans G1.out hg) (HX.out k hlt)
      have q2 := cell_grown (Gr.trans G1.out hg) (HY.out k hlt)
      have E : Hid (addZ (dotL x y k) (mulZ (x.getD k 0) (y.getD k 0)) = dotL x y (k + 1)) := Lib.hid rfl
      have HT1 : Hid (FieldAt wr t) := Lib.hid (FieldAt.grown HT.out hg)
      have hp := HXB.out k
      have hq := HYB.out k
      have hd := dotL_byt x y k
      have hm := mulZ_byt (x.getD k 0) (y.getD k 0)
      have G := Lib.hid hg
      clear hg
      generalize dotL x y k = d at *
      generalize x.getD k 0 = p at *
      generalize y.getD k 0 = q at *
      generalize hM : mulZ p q = m at *
      go_wp2
      go_region_held3 (fun W => W.cell? (a.add k) = some (.int .u8 p) ∧ W.cell? (b.add k) = some (.int .u8 q)) (go_keep)
        (first | (go_at_call 19; refine (add_any _ d m hd hm _).mono ?_; rintro e w' ⟨rfl, rfl⟩) | (go_at_call 29; refine (mul_field t p q hp hq _ (by exact HT1.out)).mono ?_; rw [hM]; rintro e w' ⟨rfl, nd, rfl⟩))
      have E2 : ((d.toNat ^^^ m.toNat : Nat) : Int) = dotL x y (k + 1) := by rw [← E.out]; rfl
      rw [E2]
      go_wp2
      exact ⟨⟨k + 1, by omega, by go_num, rfl, G.out⟩, by simp [intOf]; omega⟩
    · obtain rfl : k = n := by omega
      have G := Lib.hid hg
      clear hg
      go_wp2
      go_ret2
      exact ⟨rfl, Gr.trans G1.out G.out⟩

set_option maxHeartbeats 400000 in
theorem axpy_none (f : Value) (c : Int) (oa ob : Option Addr) (ca cb : Nat) (w : World) (hf : IsF w f) :
    Calls Try.prog 43 #[f, .int .u8 c, .slice oa 0 ca, .slice ob 0 cb] w fun e w' => ∃ v, e = .returned (.tuple #[v, .bool true]) ∧ New w w' v [] := by
  have hmk : ∀ w, (Instr.makeSlice 33 (.int .i64 0) (.int .i64 0)).run Try.prog w = .ok (.slice (some ⟨w.heap.size, 0, none⟩) 0 0) (w.alloc (.cells (rowB []) 5)) := fun w => make22 0 0 (by omega) (by omega) w
  generalize rowB [] = cur at *
  have HF := Lib.hid hf
  clear hf
  go_enter Try.func43, Try.ntmps43
  go_wp2_with (first | (go_at_call 28; refine (tabled_any f _ HF.out).mono ?_; rintro e w1 ⟨t, rfl, ht, hg1⟩; clear ht; have G1 := Lib.hid hg1; clear hg1))
  clear hmk
  go_loopw [24] (fun i wr => i = .int .i64 0 ∧ wr = w1.alloc (.cells cur 5)) (fun _ _ => 0)
  case atStart => exact ⟨rfl, rfl⟩
  case round =>
    obtain ⟨rfl, rfl⟩ := hrel
    go_wp2
    go_ret2
    exact ⟨_, rfl, New.made0 (Gr.alloc G1.out _ _)⟩
set_option maxHeartbeats 400000 in
theorem scale_none (f : Value) (c : Int) (oa : Option Addr) (ca : Nat) (w : World) (hf : IsF w f) :
    Calls Try.prog 40 #[f, .int .u8 c, .slice oa 0 ca] w fun e w' => ∃ v, e = .returned v ∧ New w w' v [] := by
  have hmk : ∀ w, (Instr.makeSlice 33 (.int .i64 0) (.int .i64 0)).run Try.prog w = .ok (.slice (some ⟨w.heap.size, 0, none⟩) 0 0) (w.alloc (.cells (rowB []) 5)) := fun w => make22 0 0 (by omega) (by omega) w
  generalize rowB [] = cur at *
  have HF := Lib.hid hf
  clear hf
  go_enter Try.func40, Try.ntmps40
  go_wp2_with (first | (go_at_call 28; refine (tabled_any f _ HF.out).mono ?_; rintro e w1 ⟨t, rfl, ht, hg1⟩; clear ht; have G1 := Lib.hid hg1; clear hg1))
  clear hmk
  go_loopw [16] (fun i wr => i = .int .i64 0 ∧ wr = w1.alloc (.cells cur 5)) (fun _ _ => 0)
  case atStart => exact ⟨rfl, rfl⟩
  case round =>
    obtain ⟨rfl, rfl⟩ := hrel
    go_wp2
    go_ret
    exact ⟨_, rfl, New.made0 (Gr.alloc G1.out _ _)⟩
set_option maxHeartbeats 400000 in
theorem dot_none (f : Value) (oa ob : Option Addr) (ca cb : Nat) (w : World) (hf : IsF w f) :
    Calls Try.prog 18 #[f, .slice oa 0 ca, .slice ob 0 cb] w fun e w' => e = .returned (.tuple #[.int .u8 0, .bool true]) ∧ Gr w w' := by
  have HF := Lib.hid hf
  clear hf
  go_enter Try.func18, Try.ntmps18
  go_wp2_with (first | (go_at_call 28; refine (tabled_any f _ HF.out).mono ?_; rintro e w1 ⟨t, rfl, ht, hg1⟩; clear ht; have G1 := Lib.hid hg1; clear hg1))
  go_loopw [8, 19] (fun s i wr => i = .int .i64 0 ∧ s = .int .u8 0 ∧ wr = w1) (fun _ _ _ => 0)
  case atStart => exact ⟨rfl, rfl, rfl⟩
  case round =>
    obtain ⟨rfl, rfl, rfl⟩ := hrel
    go_wp2
    go_ret2
    exact ⟨rfl, G1.out⟩

set_option maxHeartbeats 400000 in
theorem axpy_ne (f : Value) (c : Int) (oa ob : Option Addr) (n m ca cb : Nat) (w : World) (h : m ≠ n) :
    Calls Try.prog 43 #[f, .int .u8 c, .slice oa n ca, .slice ob m cb] w fun e w' => ∃ v, e = .returned (.tuple #[v, .bool false]) ∧ New w w' v [] := by
  have hb : ((n : Int) != (m : Int)) = true := by simpa using (by omega : (n : Int) ≠ m)
  clear h
  go_enter Try.func43, Try.ntmps43
  go_wp2
  go_ret2
  exact ⟨_, rfl, New.nought (Gr.refl _)⟩
set_option maxHeartbeats 400000 in
theorem dot_ne (f : Value) (oa ob : Option Addr) (n m ca cb : Nat) (w : World) (h : m ≠ n) :
    Calls Try.prog 18 #[f, .slice oa n ca, .slice ob m cb] w fun e w' => e = .returned (.tuple #[.int .u8 0, .bool false]) ∧ Gr w w' := by
  have hb : ((n : Int) != (m : Int)) = true := by simpa using (by omega : (n : Int) ≠ m)
  clear h
  go_enter Try.func18, Try.ntmps18
  go_wp2
  go_ret2
  exact ⟨rfl, Gr.refl _⟩

set_option maxHeartbeats 400000 in
theorem unit_ne (n k : Int) (w : World) (h : ¬ (1 ≤ n ∧ n ≤ 64 ∧ 0 ≤ k ∧ k < n)) :
    Calls Try.prog 30 #[.int .i64 n, .int .i64 k] w fun e w' => ∃ v, e = .returned v ∧ New w w' v [] := by
  by_cases h1 : 64 < n
  · clear h
    go_enter Try.func30, Try.ntmps30
    go_wp2
    go_ret
    exact ⟨_, rfl, New.nought (Gr.refl _)⟩
  by_cases h2 : k < 0
  · clear h
    go_enter Try.func30, Try.ntmps30
    go_wp2
    go_ret
    exact ⟨_, rfl, New.nought (Gr.refl _)⟩
  · have h3 : n ≤ k := by omega
    clear h
    go_enter Try.func30, Try.ntmps30
    go_wp2
    go_ret
    exact ⟨_, rfl, New.nought (Gr.refl _)⟩
theorem unitL_set (n k : Nat) : (List.replicate n (0 : Int)).set k 1 = unitL n k := by
  unfold unitL lst
  apply List.ext_getElem
  · simp
  intro j h1 h2
  simp only [List.getElem_set, List.getElem_replicate, List.getElem_map, List.getElem_range]
  by_cases e : k = j
  · rw [if_pos e, if_pos e.symm]
  · rw [if_neg e, if_neg (fun c => e c.symm)]
theorem unitL_byt (n k : Nat) : ∀ z ∈ unitL n k, Byt z := lst_byt fun i _ => by
  unfold Byt
  split <;> omega
set_option maxHeartbeats 400000 in
theorem unit_any (n k : Nat) (w : World) (h1 : 1 ≤ n) (h2 : n ≤ 64) (h3 : k < n) :
    Calls Try.prog 30 #[.int .i64 n, .int .i64 k] w fun e w' => ∃ v, e = .returned v ∧ New w w' v (unitL n k) := by
  have hmk := make22 n n (by omega) (by omega)
  have hR : ∃ cur, cur = rowB (List.replicate n 0) := ⟨_, rfl⟩
  obtain ⟨cur, hcur⟩ := hR
  rw [← hcur] at hmk
  have c1 : ∀ w : World, (w.alloc (.cells cur 5)).cell? ⟨w.heap.size, k, none⟩ = some (.int .u8 0) := fun w => by
    rw [cell_of_row _ _ _ _ _ _ (heap_alloc_new _ _), hcur, rowB_get _ _ (by simpa using h3), replicate_getD]
  have c2 : ∀ w : World, (w.alloc (.cells cur 5)).frozen? ⟨w.heap.size, k, none⟩ = false := fun w => frozen_of_row _ _ k _ _ (heap_alloc_new _ _)
  have HC := Lib.hid hcur
  clear hcur
  have d1 := c1 w
  have d2 := c2 w
  clear c1 c2
  go_enter Try.func30, Try.ntmps30
  go_wp2
  go_ret
  refine ⟨_, rfl, New.of_blk (Gr.alloc (Gr.refl _) _ _) (unitL_byt n k) (Nat.le_refl _) ?_ (lst_length _ _) (by omega)⟩
  show (w.alloc _).heap[w.heap.size]? = _
  rw [heap_alloc_new, HC.out, rowB_set, unitL_set]
theorem lst_eq_sum (x y : List Int) : lst x.length (sumF x y) = sumL x y := rfl
theorem lst_eq_ax (c : Int) (x y : List Int) : lst x.length (axF c x y) = axL c x y := rfl
theorem lst_eq_sc (c : Int) (x : List Int) : lst x.length (scF c x) = scaleL c x := rfl
theorem ok_axpy : ∀ (f va vb : Value) (c : Int) (x y : List Int) (w : World), IsF w f → Byt c → Bs w va x → Bs w vb y → x.length ≤ 1000000 → y.length = x.length →
    Calls Try.prog 43 #[f, .int .u8 c, va, vb] w fun e w' => ∃ v, e = .returned (.tuple #[v, .bool true]) ∧ New w w' v (axL c x y) :=
  fun f va vb c x y w hf hc ha hb hn hl => by
    rw [← lst_eq_ax]
    by_cases h0 : 0 < x.length
    · obtain ⟨a, ca, rfl, _, _, h3⟩ := Bs.at ha h0
      obtain ⟨b, cb, rfl, _, _, h6⟩ := Bs.at hb (by omega)
      rw [hl] at h6 ⊢
      exact axpy_core f a b x.length ca cb c x y w hf hc (Bs.byt ha) (Bs.byt hb) hn h3 h6
    · obtain rfl : x = [] := List.eq_nil_of_length_eq_zero (by omega)
      obtain rfl : y = [] := List.eq_nil_of_length_eq_zero hl
      obtain ⟨_, oa, ca, rfl, _, _, _, _⟩ := ha
      obtain ⟨_, ob, cb, rfl, _, _, _, _⟩ := hb
      exact axpy_none f c oa ob ca cb w hf
theorem ok_axpyNe : ∀ (f va vb : Value) (c : Int) (x y : List Int) (w : World), IsF w f → Byt c → Bs w va x → Bs w vb y → x.length ≤ 1000000 → y.length ≤ 1000000 → y.length ≠ x.length →
    Calls Try.prog 43 #[f, .int .u8 c, va, vb] w fun e w' => ∃ v, e = .returned (.tuple #[v, .bool false]) ∧ New w w' v [] :=
  fun f va vb c x y w _ _ ha hb _ _ hl => by
    obtain ⟨_, oa, ca, rfl, _, _, _, _⟩ := ha
    obtain ⟨_, ob, cb, rfl, _, _, _, _⟩ := hb
    exact axpy_ne f c oa ob _ _ ca cb w hl
theorem ok_dot : ∀ (f va vb : Value) (x y : List Int) (w : World), IsF w f → Bs w va x → Bs w vb y → x.length ≤ 1000000 → y.length = x.length →
    Calls Try.prog 18 #[f, va, vb] w fun e w' => e = .returned (.tuple #[.int .u8 (dotL x y x.length), .bool true]) ∧ Gr w w' :=
  fun f va vb x y w hf ha hb hn hl => by
    by_cases h0 : 0 < x.length
    · obtain ⟨a, ca, rfl, _, _, h3⟩ := Bs.at ha h0
      obtain ⟨b, cb, rfl, _, _, h6⟩ := Bs.at hb (by omega)
      rw [hl] at h6 ⊢
      exact dot_core f a b x.length ca cb x y w hf (Bs.byt ha) (Bs.byt hb) hn h3 h6
    · obtain rfl : x = [] := List.eq_nil_of_length_eq_zero (by omega)
      obtain rfl : y = [] := List.eq_nil_of_length_eq_zero hl
      obtain ⟨_, oa, ca, rfl, _, _, _, _⟩ := ha
      obtain ⟨_, ob, cb, rfl, _, _, _, _⟩ := hb
      exact dot_none f oa ob ca cb w hf
theorem ok_dotNe : ∀ (f va vb : Value) (x y : List Int) (w : World), IsF w f → Bs w va x → Bs w vb y → x.length ≤ 1000000 → y.length ≤ 1000000 → y.length ≠ x.length →
    Calls Try.prog 18 #[f, va, vb] w fun e w' => e = .returned (.tuple #[.int .u8 0, .bool false]) ∧ Gr w w' :=
  fun f va vb x y w _ ha hb _ _ hl => by
    obtain ⟨_, oa, ca, rfl, _, _, _, _⟩ := ha
    obtain ⟨_, ob, cb, rfl, _, _, _, _⟩ := hb
    exact dot_ne f oa ob _ _ ca cb w hl
theorem ok_scale : ∀ (f va : Value) (c : Int) (x : List Int) (w : World), IsF w f → Byt c → Bs w va x → x.length ≤ 1000000 →
    Calls Try.prog 40 #[f, .int .u8 c, va] w fun e w' => ∃ v, e = .returned v ∧ New w w' v (scaleL c x) :=
  fun f va c x w hf hc ha hn => by
    rw [← lst_eq_sc]
    by_cases h0 : 0 < x.length
    · obtain ⟨a, ca, rfl, _, _, h3⟩ := Bs.at ha h0
      exact scale_core f a x.length ca c x w hf hc (Bs.byt ha) hn h3
    · obtain rfl : x = [] := List.eq_nil_of_length_eq_zero (by omega)
      obtain ⟨_, oa, ca, rfl, _, _, _, _⟩ := ha
      exact scale_none f c oa ca w hf
theorem ok_unit : ∀ (n k : Nat) (w : World), 1 ≤ n → n ≤ 64 → k < n →
    Calls Try.prog 30 #[.int .i64 n, .int .i64 k] w fun e w' => ∃ v, e = .returned v ∧ New w w' v (unitL n k) :=
  fun n k w h1 h2 h3 => unit_any n k w h1 h2 h3
theorem ok_unitNe : ∀ (n k : Int) (w : World), ¬ (1 ≤ n ∧ n ≤ 64 ∧ 0 ≤ k ∧ k < n) →
    Calls Try.prog 30 #[.int .i64 n, .int .i64 k] w fun e w' => ∃ v, e = .returned v ∧ New w w' v [] :=
  fun n k w h => unit_ne n k w h
end Go.Proofs.Ytocigdcbfbnfoaa
