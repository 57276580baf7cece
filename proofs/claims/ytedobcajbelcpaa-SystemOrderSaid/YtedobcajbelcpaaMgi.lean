/-
  Texts laid behind one another: Ro Md Me Az.
-/
import Derived.Test.YtedobcajbelcpaaMgd
import Derived.Test.YtedobcajbelcpaaMgf
import Derived.BigRegion
import Derived.Deep.RegionLaw
import Derived.Deep.DeepCutAuto
import Derived.Deep.RegionHeld3
import Derived.Test.YtedobcajbelcpaaMgg
import Derived.Lib.AppendZerosOnto
namespace Go.Proofs.Ytedobcajbelcpaa
open Go.RowKit

/-- A Field that has its tables. -/
def Fd (w : World) (f : Value) : Prop := ∃ b, f = .pointer (some ⟨b, 0, none⟩) ∧ FieldAt w b
theorem Fd.grown {w w' : World} {f : Value} (h : Fd w f) (hg : Gr w w') : Fd w' f := by
  obtain ⟨b, h1, h2⟩ := h
  exact ⟨b, h1, FieldAt.grown h2 hg⟩
set_option maxHeartbeats 400000 in
theorem tabled_any (f : Value) (w : World) (h : IsF w f) :
    Calls Try.prog 61 #[f] w fun e w' => ∃ b, e = .returned (.pointer (some ⟨b, 0, none⟩)) ∧ FieldAt w' b ∧ Gr w w' := by
  rcases h with rfl | ⟨b, rfl, hb⟩
  · go_enter Try.func61, Try.ntmps61
    go_wp2_with (go_at_call 20; refine (new_any _).mono ?_; rintro e w' ⟨b, rfl, hf, hg⟩; have HF := Lib.hid hf; clear hf; have HG := Lib.hid hg; clear hg)
    go_ret
    exact ⟨_, rfl, HF.out, HG.out⟩
  · have HF := Lib.hid hb
    clear hb
    go_enter Try.func61, Try.ntmps61
    go_wp2_with fail
    go_ret
    exact ⟨_, rfl, HF.out, Gr.refl _⟩
set_option maxHeartbeats 400000 in
theorem made_field (b : Nat) (w : World) (hb : FieldAt w b) :
    Calls Try.prog 42 #[.pointer (some ⟨b, 0, none⟩)] w fun e w' => e = .returned (.pointer (some ⟨b, 0, none⟩)) ∧ w = w' := by
  have h0 := FieldAt.ex hb 0 (by omega)
  rw [M.exN_zero] at h0
  clear hb
  go_enter Try.func42, Try.ntmps42
  go_wp2_with fail
  go_ret
  exact ⟨rfl, rfl⟩
/-- With tables at hand a product leaves the world as it is (but for draws). -/
theorem mul_field (t : Nat) (a b : Int) (ha : Byt a) (hb : Byt b) (w : World) (hf : FieldAt w t) :
    Calls Try.prog 62 #[.pointer (some ⟨t, 0, none⟩), .int .u8 a, .int .u8 b] w fun e w' => e = .returned (.int .u8 (mulZ a b)) ∧ ∃ d, w' = w.drewN d := by
  obtain ⟨a0, a1⟩ := ha
  obtain ⟨b0, b1⟩ := hb
  by_cases az : a = 0
  · subst az
    go_enter Try.func62, Try.ntmps62
    go_wp2_with fail
    go_ret
    exact ⟨ret_int (by simp [mulZ, M.mulN_zero_left]), 0, rfl⟩
  by_cases bz : b = 0
  · subst bz
    go_enter Try.func62, Try.ntmps62
    go_wp2_with fail
    go_ret
    exact ⟨ret_int (by simp [mulZ, M.mulN_zero_right]), 0, rfl⟩
  · have HF := Lib.hid hf
    clear hf
    have ea : (a == 0) = false := by simpa using az
    have eb : (b == 0) = false := by simpa using bz
    obtain ⟨x, rfl⟩ := Int.eq_ofNat_of_zero_le a0
    obtain ⟨y, rfl⟩ := Int.eq_ofNat_of_zero_le b0
    clear az bz
    have hx : x < 256 := by omega
    have hy : y < 256 := by omega
    go_enter Try.func62, Try.ntmps62
    go_wp2_with (go_at_call 42; refine (made_field t _ HF.out).mono ?_; rintro e w' ⟨rfl, rfl⟩)
    have c1 := FieldAt.lg HF.out x hx
    have c2 := FieldAt.lg HF.out y hy
    have hi : (M.lgN x + M.lgN y) % 255 < 255 := Nat.mod_lt _ (by omega)
    have c3 := FieldAt.ex HF.out _ hi
    have l1 := M.lgN_lt x
    have l2 := M.lgN_lt y
    have E : Hid (mulZ x y = ((M.exN ((M.lgN x + M.lgN y) % 255) : Nat) : Int)) := Lib.hid (by
      unfold mulZ
      rw [M.mulN_nz _ _ (by simp at ea; simpa using ea) (by simp at eb; simpa using eb)]
      rfl)
    generalize M.lgN x = p at *
    generalize M.lgN y = q at *
    go_quiet (fail)
    go_wp2
    go_ret
    exact ⟨ret_int E.out.symm, _, rfl⟩
theorem New.of_blk {w w' : World} {g n : Nat} {l : List Int} (hg : Gr w w') (hb : ∀ x ∈ l, Byt x) (hs : w.heap.size ≤ g) (hk : Blk w' g l) (hl : l.length = n) (hn : n ≤ 1000000) : New w w' (.slice (some ⟨g, 0, none⟩) n n) l := by
  subst hl
  exact ⟨hg, hb, Or.inr ⟨g, l.length, rowB l, rfl, hs, hk, Nat.le_refl _, by omega, fun i hi => rowB_get l i hi⟩⟩
theorem New.nought {w w' : World} (hg : Gr w w') : New w w' (.slice none 0 0) [] := ⟨hg, by simp, Or.inl ⟨rfl, none, 0, rfl, fun _ => rfl, by omega⟩⟩
theorem New.made0 {w w' : World} {g : Nat} (hg : Gr w w') : New w w' (.slice (some ⟨g, 0, none⟩) 0 0) [] := ⟨hg, by simp, Or.inl ⟨rfl, _, 0, rfl, fun _ => rfl, by omega⟩⟩
theorem Making.drawn {w wr : World} {g n k : Nat} {f : Nat → Int} (h : Making w g n f k wr) (d : Nat) : Making w g n f k (wr.drewN d) := by
  obtain ⟨h1, h2, h3⟩ := h
  exact ⟨h1, h2, h3⟩
def sumF (x y : List Int) : Nat → Int := fun i => addZ (x.getD i 0) (y.getD i 0)
theorem sumF_byt {x y : List Int} {n : Nat} (hx : ∀ i, Byt (x.getD i 0)) (hy : ∀ i, Byt (y.getD i 0)) : ∀ z ∈ lst n (sumF x y), Byt z := lst_byt fun i _ => addZ_byt (hx i) (hy i)

def axF (c : Int) (x y : List Int) : Nat → Int := fun i => addZ (y.getD i 0) (mulZ c (x.getD i 0))
theorem axF_byt {c : Int} {x y : List Int} {n : Nat} (hy : ∀ i, Byt (y.getD i 0)) : ∀ z ∈ lst n (axF c x y), Byt z := lst_byt fun i _ => addZ_byt (hy i) (mulZ_byt _ _)
theorem cell_set_farN {W : World} {x y : Addr} {v u : Value} {d : Nat} (h : W.cell? x = some u) (hne : x ≠ y) : ((W.drewN d).setCell y v).drew.cell? x = some u := cell_set_far (by exact h) hne
set_option maxHeartbeats 400000 in
theorem axpy_core (f : Value) (a b : Addr) (n ca cb : Nat) (c : Int) (x y : List Int) (w : World) (hf : IsF w f) (hc : Byt c) (hx : ∀ i, Byt (x.getD i 0)) (hy : ∀ i, Byt (y.getD i 0)) (hn : n ≤ 1000000)
    (hxc : ∀ i, i < n → w.cell? (a.add i) = some (.int .u8 (x.getD i 0))) (hyc : ∀ i, i < n → w.cell? (b.add i) = some (.int .u8 (y.getD i 0))) :
    Calls Try.prog 63 #[f, .int .u8 c, .slice (some a) n ca, .slice (some b) n cb] w fun e w' => ∃ v, e = .returned (.tuple #[v, .bool true]) ∧ New w w' v (lst n (axF c x y)) := by
  have HXB := Lib.hid hx
  have HYB := Lib.hid hy
  have HX := Lib.hid hxc
  have HY := Lib.hid hyc
  have HF := Lib.hid hf
  have hmk := make22 n n (by omega) (by omega)
  clear hx hy hxc hyc hf
  have hR : ∃ cur, cur = rowB (List.replicate n 0) := ⟨_, rfl⟩
  obtain ⟨cur, hcur⟩ := hR
  rw [← hcur] at hmk
  have HC := Lib.hid hcur
  clear hcur
  go_enter Try.func63, Try.ntmps63
  go_wp2_with (first | (go_at_call 61; refine (tabled_any f _ HF.out).mono ?_; rintro e w1 ⟨t, rfl, ht, hg1⟩; have HT := Lib.hid ht; clear ht; have G1 := Lib.hid hg1; clear hg1))
  clear hmk
  have HX1 : Hid (∀ i, i < n → w1.cell? (a.add i) = some (.int .u8 (x.getD i 0))) := Lib.hid fun i hi => cell_grown G1.out (HX.out i hi)
  have HY1 : Hid (∀ i, i < n → w1.cell? (b.add i) = some (.int .u8 (y.getD i 0))) := Lib.hid fun i hi => cell_grown G1.out (HY.out i hi)
  have hsz : w.heap.size ≤ w1.heap.size := G1.out.size
  have HB : Hid (Making w1 w1.heap.size n (axF c x y) 0 (w1.alloc (.cells cur 5))) :=
    Lib.hid ⟨Gr.alloc (Gr.refl _) _ _, Nat.le_refl _, by rw [HC.out, ← part_nil]; exact heap_alloc_new _ _⟩
  clear HC HX HY HF
  generalize hW : w1.alloc (.cells cur 5) = W at *
  generalize hG : w1.heap.size = g at *
  go_loopw [24] (fun i wr => ∃ k : Nat, k ≤ n ∧ i = .int .i64 k ∧ Making w1 g n (axF c x y) k wr) (fun i _ => n - (intOf i).toNat)
  case atStart => exact ⟨0, by omega, rfl, HB.out⟩
  case round =>
    clear HB
    obtain ⟨k, hk, rfl, hm⟩ := hrel
    obtain ⟨hg, hge, hblk⟩ := hm
    by_cases hlt : k < n
    · have q1 := cell_grown hg (HX1.out k hlt)
      have q2 := cell_grown hg (HY1.out k hlt)
      have q3 := Blk.cell hblk k (by rw [lst_length]; exact hlt)
      have q4 := frozen_of_row wr g k _ _ hblk
      have n1 : a.add k ≠ ⟨g, k, none⟩ := far_of hge (HX1.out k hlt)
      have n2 : b.add k ≠ ⟨g, k, none⟩ := far_of hge (HY1.out k hlt)
      have M0 : Hid (Making w1 g n (axF c x y) k wr) := Lib.hid ⟨hg, hge, hblk⟩
      have HT1 : Hid (FieldAt wr t) := Lib.hid (FieldAt.grown HT.out hg)
      have E : Hid (addZ (y.getD k 0) (mulZ c (x.getD k 0)) = axF c x y k) := Lib.hid rfl
      have hp := HXB.out k
      have hq := HYB.out k
      have hm := mulZ_byt c (x.getD k 0)
      clear hg hge hblk
      generalize (lst n (part (axF c x y) k)).getD k 0 = old at *
      generalize x.getD k 0 = p at *
      generalize y.getD k 0 = q at *
      generalize hM : mulZ c p = m at *
      go_wp2
      go_region_held3 (fun W => W.cell? (a.add k) = some (.int .u8 p) ∧ W.cell? (b.add k) = some (.int .u8 q)) (first | exact ⟨cell_set_far q1 n1, cell_set_far q2 n2⟩ | exact ⟨cell_set_farN q1 n1, cell_set_farN q2 n2⟩ | go_keep)
        (first | (go_at_call 75; refine (add_any _ q m hq hm _).mono ?_; rintro e w' ⟨rfl, rfl⟩) | (go_at_call 62; refine (mul_field t c p hc hp _ (by exact HT1.out)).mono ?_; rw [hM]; rintro e w' ⟨rfl, nd, rfl⟩))
      have E2 : ((q.toNat ^^^ m.toNat : Nat) : Int) = axF c x y k := by rw [← E.out]; rfl
      rw [E2]
      go_wp2
      exact ⟨⟨k + 1, by omega, by go_num, Making.drew (Making.store (Making.drawn M0.out _))⟩, by simp [intOf]; omega⟩
    · obtain rfl : k = n := by omega
      rw [part_all] at hblk
      have G := Lib.hid hg
      have K := Lib.hid hblk
      clear hg hblk
      go_wp2
      go_ret2
      exact ⟨_, rfl, New.of_blk (Gr.trans G1.out G.out) (axF_byt HYB.out) (by omega) K.out (lst_length _ _) hn⟩

def scF (c : Int) (x : List Int) : Nat → Int := fun i => mulZ c (x.getD i 0)
set_option maxHeartbeats 400000 in
theorem scale_core (f : Value) (a : Addr) (n ca : Nat) (c : Int) (x : List Int) (w : World) (hf : IsF w f) (hc : Byt c) (hx : ∀ i, Byt (x.getD i 0)) (hn : n ≤ 1000000)
    (hxc : ∀ i, i < n → w.cell? (a.add i) = some (.int .u8 (x.getD i 0))) :
    Calls Try.prog 54 #[f, .int .u8 c, .slice (some a) n ca] w fun e w' => ∃ v, e = .returned v ∧ New w w' v (lst n (scF c x)) := by
  have HXB := Lib.hid hx
  have HX := Lib.hid hxc
  have HF := Lib.hid hf
  have hmk := make22 n n (by omega) (by omega)
  clear hx hxc hf
  have hR : ∃ cur, cur = rowB (List.replicate n 0) := ⟨_, rfl⟩
  obtain ⟨cur, hcur⟩ := hR
  rw [← hcur] at hmk
  have HC := Lib.hid hcur
  clear hcur
  go_enter Try.func54, Try.ntmps54
  go_wp2_with (first | (go_at_call 61; refine (tabled_any f _ HF.out).mono ?_; rintro e w1 ⟨t, rfl, ht, hg1⟩; have HT := Lib.hid ht; clear ht; have G1 := Lib.hid hg1; clear hg1))
  clear hmk
  have HX1 : Hid (∀ i, i < n → w1.cell? (a.add i) = some (.int .u8 (x.getD i 0))) := Lib.hid fun i hi => cell_grown G1.out (HX.out i hi)
  have hsz : w.heap.size ≤ w1.heap.size := G1.out.size
  have HB : Hid (Making w1 w1.heap.size n (scF c x) 0 (w1.alloc (.cells cur 5))) :=
    Lib.hid ⟨Gr.alloc (Gr.refl _) _ _, Nat.le_refl _, by rw [HC.out, ← part_nil]; exact heap_alloc_new _ _⟩
  clear HC HX HF
  generalize hW : w1.alloc (.cells cur 5) = W at *
  generalize hG : w1.heap.size = g at *
  go_loopw [16] (fun i wr => ∃ k : Nat, k ≤ n ∧ i = .int .i64 k ∧ Making w1 g n (scF c x) k wr) (fun i _ => n - (intOf i).toNat)
  case atStart => exact ⟨0, by omega, rfl, HB.out⟩
  case round =>
    clear HB
    obtain ⟨k, hk, rfl, hm⟩ := hrel
    obtain ⟨hg, hge, hblk⟩ := hm
    by_cases hlt : k < n
    · have q1 := cell_grown hg (HX1.out k hlt)
      have q3 := Blk.cell hblk k (by rw [lst_length]; exact hlt)
      have q4 := frozen_of_row wr g k _ _ hblk
      have n1 : a.add k ≠ ⟨g, k, none⟩ := far_of hge (HX1.out k hlt)
      have M0 : Hid (Making w1 g n (scF c x) k wr) := Lib.hid ⟨hg, hge, hblk⟩
      have HT1 : Hid (FieldAt wr t) := Lib.hid (FieldAt.grown HT.out hg)
      have E : Hid (mulZ c (x.getD k 0) = scF c x k) := Lib.hid rfl
      have hp := HXB.out k
      clear hg hge hblk
      generalize (lst n (part (scF c x) k)).getD k 0 = old at *
      generalize x.getD k 0 = p at *
      go_wp2_with (first | (go_at_call 62; refine (mul_field t c p hc hp _ (by exact HT1.out)).mono ?_; rw [E.out]; rintro e w' ⟨rfl, d, rfl⟩))
      exact ⟨⟨k + 1, by omega, by go_num, Making.store (Making.drawn M0.out _)⟩, by simp [intOf]; omega⟩
    · obtain rfl : k = n := by omega
      rw [part_all] at hblk
      have G := Lib.hid hg
      have K := Lib.hid hblk
      clear hg hblk
      go_wp2
      go_ret
      exact ⟨_, rfl, New.of_blk (Gr.trans G1.out G.out) (lst_byt fun i _ => mulZ_byt _ _) (by omega) K.out (lst_length _ _) hn⟩

set_option maxHeartbeats 400000 in
theorem axpy_none (f : Value) (c : Int) (oa ob : Option Addr) (ca cb : Nat) (w : World) (hf : IsF w f) :
    Calls Try.prog 63 #[f, .int .u8 c, .slice oa 0 ca, .slice ob 0 cb] w fun e w' => ∃ v, e = .returned (.tuple #[v, .bool true]) ∧ New w w' v [] := by
  have hmk : ∀ w, (Instr.makeSlice 41 (.int .i64 0) (.int .i64 0)).run Try.prog w = .ok (.slice (some ⟨w.heap.size, 0, none⟩) 0 0) (w.alloc (.cells (rowB []) 5)) := fun w => make22 0 0 (by omega) (by omega) w
  generalize rowB [] = cur at *
  have HF := Lib.hid hf
  clear hf
  go_enter Try.func63, Try.ntmps63
  go_wp2_with (first | (go_at_call 61; refine (tabled_any f _ HF.out).mono ?_; rintro e w1 ⟨t, rfl, ht, hg1⟩; clear ht; have G1 := Lib.hid hg1; clear hg1))
  clear hmk
  go_loopw [24] (fun i wr => i = .int .i64 0 ∧ wr = w1.alloc (.cells cur 5)) (fun _ _ => 0)
  case atStart => exact ⟨rfl, rfl⟩
  case round =>
    obtain ⟨rfl, rfl⟩ := hrel
    go_wp2
    go_ret2
    exact ⟨_, rfl, New.made0 (Gr.alloc G1.out _ _)⟩
set_option maxHeartbeats 400000 in
theorem scale_none (f : Value) (c : Int) (oa : Option Addr) (ca : Nat) (w : World) (hf : IsF w f) :
    Calls Try.prog 54 #[f, .int .u8 c, .slice oa 0 ca] w fun e w' => ∃ v, e = .returned v ∧ New w w' v [] := by
  have hmk : ∀ w, (Instr.makeSlice 41 (.int .i64 0) (.int .i64 0)).run Try.prog w = .ok (.slice (some ⟨w.heap.size, 0, none⟩) 0 0) (w.alloc (.cells (rowB []) 5)) := fun w => make22 0 0 (by omega) (by omega) w
  generalize rowB [] = cur at *
  have HF := Lib.hid hf
  clear hf
  go_enter Try.func54, Try.ntmps54
  go_wp2_with (first | (go_at_call 61; refine (tabled_any f _ HF.out).mono ?_; rintro e w1 ⟨t, rfl, ht, hg1⟩; clear ht; have G1 := Lib.hid hg1; clear hg1))
  clear hmk
  go_loopw [16] (fun i wr => i = .int .i64 0 ∧ wr = w1.alloc (.cells cur 5)) (fun _ _ => 0)
  case atStart => exact ⟨rfl, rfl⟩
  case round =>
    obtain ⟨rfl, rfl⟩ := hrel
    go_wp2
    go_ret
    exact ⟨_, rfl, New.made0 (Gr.alloc G1.out _ _)⟩
set_option maxHeartbeats 400000 in
theorem axpy_ne (f : Value) (c : Int) (oa ob : Option Addr) (n m ca cb : Nat) (w : World) (h : m ≠ n) :
    Calls Try.prog 63 #[f, .int .u8 c, .slice oa n ca, .slice ob m cb] w fun e w' => ∃ v, e = .returned (.tuple #[v, .bool false]) ∧ New w w' v [] := by
  have hb : ((n : Int) != (m : Int)) = true := by simpa using (by omega : (n : Int) ≠ m)
  clear h
  go_enter Try.func63, Try.ntmps63
  go_wp2
  go_ret2
  exact ⟨_, rfl, New.nought (Gr.refl _)⟩
set_option maxHeartbeats 400000 in
theorem unit_ne (n k : Int) (w : World) (h : ¬ (1 ≤ n ∧ n ≤ 64 ∧ 0 ≤ k ∧ k < n)) :
    Calls Try.prog 31 #[.int .i64 n, .int .i64 k] w fun e w' => ∃ v, e = .returned v ∧ New w w' v [] := by
  by_cases h1 : 64 < n
  · clear h
    go_enter Try.func31, Try.ntmps31
    go_wp2
    go_ret
    exact ⟨_, rfl, New.nought (Gr.refl _)⟩
  by_cases h2 : k < 0
  · clear h
    go_enter Try.func31, Try.ntmps31
    go_wp2
    go_ret
    exact ⟨_, rfl, New.nought (Gr.refl _)⟩
  · have h3 : n ≤ k := by omega
    clear h
    go_enter Try.func31, Try.ntmps31
    go_wp2
    go_ret
    exact ⟨_, rfl, New.nought (Gr.refl _)⟩
theorem unitL_set (n k : Nat) : (List.replicate n (0 : Int)).set k 1 = unitL n k := by
  unfold unitL lst
  apply List.ext_getElem
  · simp
  intro j h1 h2
  simp only [List.getElem_set, List.getElem_replicate, List.getElem_map, List.getElem_range]
  by_cases e : k = j
  · rw [if_pos e, if_pos e.symm]
  · rw [if_neg e, if_neg (fun c => e c.symm)]
theorem unitL_byt (n k : Nat) : ∀ z ∈ unitL n k, Byt z := lst_byt fun i _ => by
  unfold Byt
  split <;> omega
set_option maxHeartbeats 400000 in
theorem unit_any (n k : Nat) (w : World) (h1 : 1 ≤ n) (h2 : n ≤ 64) (h3 : k < n) :
    Calls Try.prog 31 #[.int .i64 n, .int .i64 k] w fun e w' => ∃ v, e = .returned v ∧ New w w' v (unitL n k) := by
  have hmk := make22 n n (by omega) (by omega)
  have hR : ∃ cur, cur = rowB (List.replicate n 0) := ⟨_, rfl⟩
  obtain ⟨cur, hcur⟩ := hR
  rw [← hcur] at hmk
  have c1 : ∀ w : World, (w.alloc (.cells cur 5)).cell? ⟨w.heap.size, k, none⟩ = some (.int .u8 0) := fun w => by
    rw [cell_of_row _ _ _ _ _ _ (heap_alloc_new _ _), hcur, rowB_get _ _ (by simpa using h3), replicate_getD]
  have c2 : ∀ w : World, (w.alloc (.cells cur 5)).frozen? ⟨w.heap.size, k, none⟩ = false := fun w => frozen_of_row _ _ k _ _ (heap_alloc_new _ _)
  have HC := Lib.hid hcur
  clear hcur
  have d1 := c1 w
  have d2 := c2 w
  clear c1 c2
  go_enter Try.func31, Try.ntmps31
  go_wp2
  go_ret
  refine ⟨_, rfl, New.of_blk (Gr.alloc (Gr.refl _) _ _) (unitL_byt n k) (Nat.le_refl _) ?_ (lst_length _ _) (by omega)⟩
  show (w.alloc _).heap[w.heap.size]? = _
  rw [heap_alloc_new, HC.out, rowB_set, unitL_set]
theorem lst_eq_sum (x y : List Int) : lst x.length (sumF x y) = sumL x y := rfl
theorem lst_eq_ax (c : Int) (x y : List Int) : lst x.length (axF c x y) = axL c x y := rfl
theorem lst_eq_sc (c : Int) (x : List Int) : lst x.length (scF c x) = scaleL c x := rfl
theorem ok_axpy : ∀ (f va vb : Value) (c : Int) (x y : List Int) (w : World), IsF w f → Byt c → Bs w va x → Bs w vb y → x.length ≤ 1000000 → y.length = x.length →
    Calls Try.prog 63 #[f, .int .u8 c, va, vb] w fun e w' => ∃ v, e = .returned (.tuple #[v, .bool true]) ∧ New w w' v (axL c x y) :=
  fun f va vb c x y w hf hc ha hb hn hl => by
    rw [← lst_eq_ax]
    by_cases h0 : 0 < x.length
    · obtain ⟨a, ca, rfl, _, _, h3⟩ := Bs.at ha h0
      obtain ⟨b, cb, rfl, _, _, h6⟩ := Bs.at hb (by omega)
      rw [hl] at h6 ⊢
      exact axpy_core f a b x.length ca cb c x y w hf hc (Bs.byt ha) (Bs.byt hb) hn h3 h6
    · obtain rfl : x = [] := List.eq_nil_of_length_eq_zero (by omega)
      obtain rfl : y = [] := List.eq_nil_of_length_eq_zero hl
      obtain ⟨_, oa, ca, rfl, _, _, _, _⟩ := ha
      obtain ⟨_, ob, cb, rfl, _, _, _, _⟩ := hb
      exact axpy_none f c oa ob ca cb w hf
theorem ok_axpyNe : ∀ (f va vb : Value) (c : Int) (x y : List Int) (w : World), IsF w f → Byt c → Bs w va x → Bs w vb y → x.length ≤ 1000000 → y.length ≤ 1000000 → y.length ≠ x.length →
    Calls Try.prog 63 #[f, .int .u8 c, va, vb] w fun e w' => ∃ v, e = .returned (.tuple #[v, .bool false]) ∧ New w w' v [] :=
  fun f va vb c x y w _ _ ha hb _ _ hl => by
    obtain ⟨_, oa, ca, rfl, _, _, _, _⟩ := ha
    obtain ⟨_, ob, cb, rfl, _, _, _, _⟩ := hb
    exact axpy_ne f c oa ob _ _ ca cb w hl
theorem ok_scale : ∀ (f va : Value) (c : Int) (x : List Int) (w : World), IsF w f → Byt c → Bs w va x → x.length ≤ 1000000 →
    Calls Try.prog 54 #[f, .int .u8 c, va] w fun e w' => ∃ v, e = .returned v ∧ New w w' v (scaleL c x) :=
  fun f va c x w hf hc ha hn => by
    rw [← lst_eq_sc]
    by_cases h0 : 0 < x.length
    · obtain ⟨a, ca, rfl, _, _, h3⟩ := Bs.at ha h0
      exact scale_core f a x.length ca c x w hf hc (Bs.byt ha) hn h3
    · obtain rfl : x = [] := List.eq_nil_of_length_eq_zero (by omega)
      obtain ⟨_, oa, ca, rfl, _, _, _, _⟩ := ha
      exact scale_none f c oa ca w hf
theorem ok_unit : ∀ (n k : Nat) (w : World), 1 ≤ n → n ≤ 64 → k < n →
    Calls Try.prog 31 #[.int .i64 n, .int .i64 k] w fun e w' => ∃ v, e = .returned v ∧ New w w' v (unitL n k) :=
  fun n k w h1 h2 h3 => unit_any n k w h1 h2 h3
theorem ok_unitNe : ∀ (n k : Int) (w : World), ¬ (1 ≤ n ∧ n ≤ 64 ∧ 0 ≤ k ∧ k < n) →
    Calls Try.prog 31 #[.int .i64 n, .int .i64 k] w fun e w' => ∃ v, e = .returned v ∧ New w w' v [] :=
  fun n k w h => unit_ne n k w h
end Go.Proofs.Ytedobcajbelcpaa
namespace Go.Proofs.Ytedobcajbelcpaa
open Go.RowKit

set_option maxHeartbeats 400000 in
theorem columns_any (v : Value) (A : List (List Int)) (w : World) (h : Bss w v A) :
    Calls Try.prog 40 #[v] w fun e w' => e = .returned (.int .i64 (wd A)) ∧ Gr w w' := by
  by_cases h0 : 0 < A.length
  · obtain ⟨a, c, rfl, h1, h2, h3⟩ := Bss.at h h0
    obtain ⟨u, q, hu⟩ := h3 0 h0
    rw [show a.add 0 = a from by simp [Addr.add]] at q
    obtain ⟨ou, cu, rfl⟩ := hu.form
    have e : (A.getD 0 []).length = wd A := rfl
    rw [e] at q
    clear h h3 hu e
    generalize wd A = k at *
    generalize A.length = n at *
    have hb : ((n : Int) == 0) = false := by simp; omega
    go_enter Try.func40, Try.ntmps40
    go_wp2
    go_ret
    exact ⟨rfl, Gr.refl _⟩
  · obtain rfl : A = [] := List.eq_nil_of_length_eq_zero (by omega)
    obtain ⟨oa, c, rfl, _, _, _, _⟩ := h
    rw [wd_nil]
    go_enter Try.func40, Try.ntmps40
    go_wp2
    go_ret
    exact ⟨rfl, Gr.refl _⟩
theorem mayL_iff {A : List (List Int)} (h : ∀ j, j < A.length → (A.getD j []).length = wd A) : mayL A = decide (wd A ≤ 64) := by
  by_cases h0 : 0 < A.length
  · by_cases h1 : wd A ≤ 64
    · rw [decide_eq_true h1]
      exact mayL_true fun i hi => ⟨h i hi, by rw [h i hi]; exact h1⟩
    · rw [decide_eq_false h1]
      exact mayL_false 0 h0 fun c => h1 c.2
  · obtain rfl : A = [] := List.eq_nil_of_length_eq_zero (by omega)
    rfl
set_option maxHeartbeats 400000 in
theorem may_core (a : Addr) (n c : Nat) (L : List (List Int)) (w : World) (hn : L.length = n) (hnb : n ≤ 1000000) (hs : Bss w (.slice (some a) n c) L)
    (hc : ∀ i, i < n → ∃ u, w.cell? (a.add i) = some u ∧ Bs w u (L.getD i [])) :
    Calls Try.prog 37 #[.slice (some a) n c] w fun e w' => e = .returned (.bool (mayL L)) ∧ Gr w w' := by
  have HC := Lib.hid hc
  have HN := Lib.hid hn
  have HS := Lib.hid hs
  clear hc hn hs
  go_enter Try.func37, Try.ntmps37
  go_wp2_with (first | (go_at_call 40; refine (columns_any _ L _ HS.out).mono ?_; rintro e w1 ⟨rfl, hg1⟩; have G1 := Lib.hid hg1; clear hg1))
  have HW : Hid (wd L = wd L) := Lib.hid rfl
  obtain ⟨q, hq⟩ : ∃ q, wd L = q := ⟨_, rfl⟩
  have HQ := Lib.hid hq
  rw [hq]
  clear hq HW
  go_loopw [10] (fun i wr => ∃ k : Nat, k ≤ n ∧ i = .int .i64 k ∧ Gr w wr ∧ ∀ j, j < k → (L.getD j []).length = wd L) (fun i _ => n - (intOf i).toNat)
  case atStart => exact ⟨0, by omega, rfl, G1.out, by omega⟩
  case round =>
    obtain ⟨k, hk, rfl, hg, hs⟩ := hrel
    have HJ := Lib.hid hs
    have G := Lib.hid hg
    clear hs hg
    by_cases hlt : k < n
    · obtain ⟨u, h1, hu⟩ := HC.out k hlt
      have q1 := cell_grown G.out h1
      obtain ⟨ou, cu, rfl⟩ := hu.form
      obtain ⟨p, hp⟩ : ∃ p, (L.getD k []).length = p := ⟨_, rfl⟩
      rw [hp] at q1
      have HP := Lib.hid hp
      clear hp h1 hu
      by_cases e1 : p = q
      · subst e1
        go_wp2
        refine ⟨⟨k + 1, by omega, by go_num, G.out, fun j hj => ?_⟩, by simp [intOf]; omega⟩
        by_cases e : j = k
        · rw [e, HP.out, HQ.out]
        · exact HJ.out j (by omega)
      · have hne : ((p : Int) != q) = true := by simp; omega
        go_wp2
        go_ret
        exact ⟨by rw [mayL_false k (by rw [HN.out]; exact hlt) (fun c => e1 (by rw [← HP.out, ← HQ.out]; exact c.1))]; rfl, G.out⟩
    · obtain rfl : k = n := by omega
      have E : Hid (mayL L = decide (q ≤ 64)) := Lib.hid (by rw [← HQ.out]; exact mayL_iff (fun i hi => HJ.out i (by rw [HN.out] at hi; exact hi)))
      have hd : decide ((q : Int) ≤ 64) = decide (q ≤ 64) := decide_eq_decide.2 (by omega)
      have HD := Lib.hid hd
      clear hd
      go_wp2
      go_ret
      exact ⟨by rw [E.out, ← HD.out]; rfl, G.out⟩
set_option maxHeartbeats 400000 in
theorem may_nil (oa : Option Addr) (c : Nat) (w : World) (h : Bss w (.slice oa 0 c) []) :
    Calls Try.prog 37 #[.slice oa 0 c] w fun e w' => e = .returned (.bool true) ∧ Gr w w' := by
  have HS := Lib.hid h
  clear h
  go_enter Try.func37, Try.ntmps37
  go_wp2_with (first | (go_at_call 40; refine (columns_any _ [] _ HS.out).mono ?_; rw [wd_nil]; rintro e w1 ⟨rfl, hg1⟩; have G1 := Lib.hid hg1; clear hg1))
  go_loopw [10] (fun i wr => i = .int .i64 0 ∧ wr = w1) (fun _ _ => 0)
  case atStart => exact ⟨rfl, rfl⟩
  case round =>
    obtain ⟨rfl, rfl⟩ := hrel
    go_wp2
    go_ret
    exact ⟨rfl, G1.out⟩
theorem may_any (v : Value) (L : List (List Int)) (w : World) (h : Bss w v L) (hn : L.length ≤ 1000000) :
    Calls Try.prog 37 #[v] w fun e w' => e = .returned (.bool (mayL L)) ∧ Gr w w' := by
  by_cases h0 : 0 < L.length
  · have hs := h
    obtain ⟨a, c, rfl, _, _, h3⟩ := Bss.at h h0
    exact may_core a L.length c L w rfl hn hs h3
  · obtain rfl : L = [] := List.eq_nil_of_length_eq_zero (by omega)
    have hs := h
    obtain ⟨oa, c, rfl, _, _, _, _⟩ := h
    exact may_nil oa c w hs
set_option maxHeartbeats 400000 in
theorem mtabled_any (f : Value) (w : World) (h : IsF w f) :
    Calls Try.prog 39 #[f] w fun e w' => ∃ b, e = .returned (.pointer (some ⟨b, 0, none⟩)) ∧ FieldAt w' b ∧ Gr w w' := by
  rcases h with rfl | ⟨b, rfl, hb⟩
  · go_enter Try.func39, Try.ntmps39
    go_wp2_with (go_at_call 20; refine (new_any _).mono ?_; rintro e w' ⟨b, rfl, hf, hg⟩; have HF := Lib.hid hf; clear hf; have HG := Lib.hid hg; clear hg)
    go_ret
    exact ⟨_, rfl, HF.out, HG.out⟩
  · have HF := Lib.hid hb
    clear hb
    go_enter Try.func39, Try.ntmps39
    go_wp2_with fail
    go_ret
    exact ⟨_, rfl, HF.out, Gr.refl _⟩
set_option maxHeartbeats 400000 in
/-- With tables at hand an inverse leaves the world as it is (but for draws). -/
theorem inv_field (t : Nat) (a : Int) (ha : Byt a) (w : World) (hf : FieldAt w t) :
    Calls Try.prog 55 #[.pointer (some ⟨t, 0, none⟩), .int .u8 a] w fun e w' => e = .returned (.int .u8 (invZ a)) ∧ ∃ d, w' = w.drewN d := by
  obtain ⟨a0, a1⟩ := ha
  by_cases az : a = 0
  · subst az
    go_enter Try.func55, Try.ntmps55
    go_wp2_with fail
    go_ret
    exact ⟨rfl, 0, rfl⟩
  · have HF := Lib.hid hf
    clear hf
    have ea : (a == 0) = false := by simpa using az
    obtain ⟨x, rfl⟩ := Int.eq_ofNat_of_zero_le a0
    have hx : x < 256 := by omega
    have l1 := (M.ex_lg x hx (by simpa using az)).2
    clear az
    go_enter Try.func55, Try.ntmps55
    go_wp2_with (go_at_call 42; refine (made_field t _ HF.out).mono ?_; rintro e w' ⟨rfl, rfl⟩)
    have c1 := FieldAt.lg HF.out x hx
    have hi : (255 - M.lgN x) % 255 < 255 := Nat.mod_lt _ (by omega)
    have c3 := FieldAt.ex HF.out _ hi
    have E : Hid (invZ x = ((M.exN ((255 - M.lgN x) % 255) : Nat) : Int)) := Lib.hid (by
      unfold invZ M.invN
      rw [if_neg (by simp at ea; simpa using ea)]
      rfl)
    generalize M.lgN x = p at *
    rw [show (255 - p) % 255 = (-(p : Int) % 255).toNat from by omega] at c3 E
    clear hi
    go_quiet (fail)
    go_wp2
    go_ret
    exact ⟨ret_int E.out.symm, _, rfl⟩
section
variable {w0 : World} {g n c k : Nat} {A Lm : List (List Int)} {ps : List Nat} {col : Nat} {us : List Value}
set_option maxHeartbeats 800000 in
theorem beginning_any (w : World) (h : Mx w0 w g n c k A Lm ps col us) (st cl : Nat) (hst : st ≤ n) (hcl : cl < k) (hn : n ≤ 1000) :
    Calls Try.prog 53 #[.slice (some ⟨g, 0, none⟩) n c, .int .i64 st, .int .i64 cl] w fun e w' => Gr w w' ∧
      ((e = .returned (.int .i64 (-1)) ∧ ∀ s, st ≤ s → s < n → (Lm.getD s []).getD cl 0 = 0) ∨ ∃ t : Nat, e = .returned (.int .i64 t) ∧ st ≤ t ∧ t < n ∧ (Lm.getD t []).getD cl 0 ≠ 0) := by
  have HX := Lib.hid h
  clear h
  go_enter Try.func53, Try.ntmps53
  go_wp2
  refine wp_scope_jumps 0 (fun a' w' => ∃ (t : Nat) (u0 u1 u2 u3 u4 u5 u6 u8 u9 u10 u11 u12 u13 u14 u15 u16 u17 u18 u19 u20 u21 u22 u23 : Value), st ≤ t ∧ t < n ∧ (Lm.getD t []).getD cl 0 ≠ 0 ∧ w' = w ∧ a' = { tmps := #[u0, u1, u2, u3, u4, u5, u6, .int .i64 t, u8, u9, u10, u11, u12, u13, u14, u15, u16, u17, u18, u19, u20, u21, u22, u23], defers := [] }) (fun _ _ => 0) rfl ?_ ?_
  rotate_left
  · rintro a' w' ⟨t, u0, u1, u2, u3, u4, u5, u6, u8, u9, u10, u11, u12, u13, u14, u15, u16, u17, u18, u19, u20, u21, u22, u23, h1, h2, h3, rfl, rfl⟩
    have H3 := Lib.hid h3
    clear h3
    go_wp2
    simp only [Exit.jump]
    go_ret
    exact ⟨Gr.refl _, .inr ⟨t, rfl, h1, h2, H3.out⟩⟩
  go_wp2
  go_loopw [7] (fun i wr => wr = w ∧ ∃ ii : Nat, ii ≤ n ∧ st ≤ ii ∧ i = .int .i64 ii ∧ ∀ s, st ≤ s → s < ii → (Lm.getD s []).getD cl 0 = 0) (fun i _ => n - (intOf i).toNat)
  case atStart => exact ⟨rfl, st, hst, Nat.le_refl _, rfl, by omega⟩
  case round =>
    obtain ⟨rfl, ii, hii, hdi, rfl, ht⟩ := hrel
    have HT := Lib.hid ht
    clear ht
    by_cases hlt : ii < n
    · obtain ⟨oi, ci, _, e1, e2⟩ := HX.out.cell ii hlt
      obtain ⟨b, rfl, e3⟩ := e2 cl hcl
      have hbb := HX.out.wide.byt ii cl
      clear e2
      obtain ⟨z, hz⟩ : ∃ z, (Lm.getD ii []).getD cl 0 = z := ⟨_, rfl⟩
      rw [hz] at e3 hbb
      have HZ := Lib.hid hz
      clear hz
      by_cases hz0 : z = 0
      · subst hz0
        go_wp2
        refine ⟨⟨trivial, ii + 1, by omega, by omega, by go_num, fun s s1 s2 => ?_⟩, by simp [intOf]; omega⟩
        by_cases e : s = ii
        · rw [e, HZ.out]
        · exact HT.out s s1 (by omega)
      · have hzb : (z != 0) = true := by simpa using hz0
        go_wp2
        go_step3
        exact ⟨rfl, ii, _, _, _, _, _, _, _, _, _, _, _, _, _, _, _, _, _, _, _, _, _, _, _, hdi, hlt, by rw [HZ.out]; exact hz0, rfl, rfl⟩
    · obtain rfl : n = ii := by omega
      go_wp2
      simp only [Exit.jump]
      go_ret
      exact ⟨Gr.refl _, .inl ⟨rfl, HT.out⟩⟩
end
end Go.Proofs.Ytedobcajbelcpaa
namespace Go.Proofs.Ytedobcajbelcpaa
open Go.RowKit

theorem gr_drew {W w2 : World} (h : Gr W.drew w2) : Gr W w2 := h
theorem gr_drewN {W w2 : World} {d : Nat} (h : Gr (W.drewN d) w2) : Gr W w2 := h
section
variable {w0 : World} {g n c k : Nat} {A Lm : List (List Int)} {ps : List Nat} {col : Nat} {us : List Value}
set_option maxRecDepth 100000 in
set_option maxHeartbeats 1600000 in
theorem sweep_any (w : World) (h : Mx w0 w g n c k A Lm ps col us) (ft : Nat) (hf : FieldAt w ft) (hfg : ft ≠ g) (d cl : Nat) (hd : ps.length ≤ d) (hd2 : d < n) (hcl : cl < k) (hone : (Lm.getD d []).getD cl 0 = 1) (hn : n ≤ 1000) (hk : k ≤ 1000) (hnc : n ≤ c) (hc : c ≤ 9223372036854775807) :
    Calls Try.prog 56 #[.pointer (some ⟨ft, 0, none⟩), .slice (some ⟨g, 0, none⟩) n c, .int .i64 d, .int .i64 cl] w fun e w' => e = .returned (.tuple #[]) ∧ FieldAt w' ft ∧
      ∃ L3 us3, Mx w0 w' g n c k A L3 ps col us3 ∧ (L3.getD d []).getD cl 0 = 1 ∧ ∀ s, s < n → s ≠ d → (L3.getD s []).getD cl 0 = 0 := by
  have HX := Lib.hid h
  have HF0 := Lib.hid hf
  have HO := Lib.hid hone
  have HFG := Lib.hid hfg
  clear h hf hone hfg
  go_enter Try.func56, Try.ntmps56
  go_wp2
  go_loopw [12] (fun i W => ∃ (j : Nat) (L3 : List (List Int)) (us3 : List Value), j ≤ n ∧ i = .int .i64 j ∧ Mx w0 W g n c k A L3 ps col us3 ∧ FieldAt W ft ∧ (L3.getD d []).getD cl 0 = 1 ∧ ∀ s, s < j → s ≠ d → (L3.getD s []).getD cl 0 = 0) (fun i _ => n - (intOf i).toNat)
  case atStart => exact ⟨0, Lm, us, by omega, rfl, HX.out, HF0.out, HO.out, by omega⟩
  case round =>
    clear HX HO HF0
    obtain ⟨j, L3, us3, hj, rfl, hx3, hft, hone, hzs⟩ := hrel
    have H3 := Lib.hid hx3
    have HF := Lib.hid hft
    have HONE := Lib.hid hone
    have HZS := Lib.hid hzs
    clear hx3 hone hzs hft
    by_cases hlt : j < n
    · obtain ⟨oj, cj, ej, qj, rj⟩ := H3.out.cell j hlt
      obtain ⟨bj, rfl, rqj⟩ := rj cl hcl
      clear rj
      by_cases hjd : j = d
      · subst hjd
        clear ej
        go_wp2
        refine ⟨⟨j + 1, L3, us3, by omega, by go_num, H3.out, HF.out, HONE.out, fun s s1 s2 => HZS.out s (by omega) s2⟩, by simp [intOf]; omega⟩
      · have hjd' : ((j : Int) != d) = true := by simp; omega
        have hbz := H3.out.wide.byt j cl
        generalize hzz : (L3.getD j []).getD cl 0 = z at *
        have HZZ := Lib.hid hzz
        have HEJ := Lib.hid ej
        have HJD := Lib.hid hjd
        clear hzz ej hjd
        by_cases hz0 : z = 0
        · subst hz0
          go_wp2
          refine ⟨⟨j + 1, L3, us3, by omega, by go_num, H3.out, HF.out, HONE.out, fun s s1 s2 => ?_⟩, by simp [intOf]; omega⟩
          by_cases e : s = j
          · rw [e, HZZ.out]
          · exact HZS.out s (by omega) s2
        · have hzb : (z != 0) = true := by simpa using hz0
          obtain ⟨od, cd, ed, qd, _⟩ := H3.out.cell d hd2
          have fj := H3.out.frozen j
          have hrj := (H3.out.row j hlt).1
          have hrd := (H3.out.row d hd2).1
          rw [HEJ.out] at hrj
          rw [ed] at hrd
          have RJ := Lib.hid hrj
          have RD := Lib.hid hrd
          have WJ : Hid ((L3.getD j []).length = k) := Lib.hid (H3.out.wide.at j (by rw [H3.out.len]; exact hlt)).1
          have WD : Hid ((L3.getD d []).length = k) := Lib.hid (H3.out.wide.at d (by rw [H3.out.len]; exact hd2)).1
          clear hrj hrd ed hz0
          go_wp2
          go_region_law (first
            | ((try go_simp); go_at_call 63; refine (ok_axpy _ _ _ z (L3.getD d []) (L3.getD j []) _ (Or.inr ⟨ft, rfl, by exact HF.out⟩) hbz (Bs.grown RD.out (Gr.drew (Gr.refl _))) (Bs.grown RJ.out (Gr.drew (Gr.refl _))) (by rw [WD.out]; omega) (by rw [WJ.out, WD.out])).mono ?_; rintro e w2 ⟨v2, rfl, hnw⟩; obtain ⟨o2, m2, c2', rfl⟩ := New.form3 hnw; have hc2 := cell_grown hnw.1 qj; have hf2 := frozen_grown hnw.1 qj fj; have HNW := Lib.hid hnw; clear hnw))
          all_goals
            go_wp2_with fail
            refine ⟨⟨j + 1, _, _, by omega, by go_num, (H3.out.grow (Gr.trans (Gr.drew (Gr.refl _)) HNW.out.1)).added j d hd hd2 hlt HJD.out hbz (New.bs HNW.out) (New.rb HNW.out _), FieldAt.put (FieldAt.grown HF.out (gr_drew HNW.out.1)) HFG.out, ?_, fun s s1 s2 => ?_⟩, by simp [intOf]; omega⟩
            · rw [getD_set_ne _ _ _ _ HJD.out, HONE.out]
            · by_cases e : s = j
              · rw [e, getD_set_self _ _ _ (by rw [H3.out.len]; exact hlt), axL_getD _ _ _ _ (by rw [WD.out]; exact hcl), HONE.out, HZZ.out, mulZ_one z hbz, addZ_self]
              · rw [getD_set_ne _ _ _ _ (fun c => e c.symm)]
                exact HZS.out s (by omega) s2
    · obtain rfl : j = n := by omega
      go_wp2
      go_end0
      exact ⟨rfl, HF.out, L3, us3, H3.out, HONE.out, fun s s1 s2 => HZS.out s s1 s2⟩
set_option maxRecDepth 100000 in
set_option maxHeartbeats 3200000 in
theorem eliminate_any (w : World) (h : Mx w0 w g n c k A A [] 0 us) (ft : Nat) (hf : FieldAt w ft) (hfg : ft ≠ g) (cols : Nat) (hcols : cols ≤ k) (hn : n ≤ 1000) (hk : k ≤ 1000) (hnc : n ≤ c) (hc : c ≤ 9223372036854775807) :
    Calls Try.prog 38 #[.pointer (some ⟨ft, 0, none⟩), .slice (some ⟨g, 0, none⟩) n c, .int .i64 cols] w fun e w' => ∃ (ps : List Nat) (Lm : List (List Int)) (us' : List Value), e = .returned (.int .i64 (ps.length : Nat)) ∧ Mx w0 w' g n c k A Lm ps cols us' := by
  have HX0 := Lib.hid h
  have HF0 := Lib.hid hf
  have HFG := Lib.hid hfg
  clear h hf hfg
  go_enter Try.func38, Try.ntmps38
  go_wp2
  go_loopw [7, 11] (fun dd cc W => ∃ (cl : Nat) (Lm : List (List Int)) (ps : List Nat) (us : List Value), cl ≤ cols ∧ cc = .int .i64 cl ∧ dd = .int .i64 (ps.length : Nat) ∧ FieldAt W ft ∧ Mx w0 W g n c k A Lm ps cl us) (fun _ cc _ => cols - (intOf cc).toNat)
  case atStart => exact ⟨0, A, [], us, by omega, rfl, rfl, HF0.out, HX0.out⟩
  case round =>
    clear HX0 HF0
    obtain ⟨cl, Lm, ps, us, hcl, rfl, rfl, hff, hx⟩ := hrel
    have HX := Lib.hid hx
    have HF := Lib.hid hff
    have hdn : ps.length ≤ n := by have := hx.ech.le; rw [List.length_map, hx.len] at this; exact this
    generalize hd : ps.length = d at *
    have HD := Lib.hid hd
    clear hx hd hff
    by_cases hend : cl < cols
    · have hck : cl < k := by omega
      go_wp2_with fail
      refine (beginning_any _ HX.out d cl hdn hck hn).mono ?_
      rintro e w1 ⟨hg1, ⟨rfl, h0⟩ | ⟨t, rfl, t1, t2, t3⟩⟩
      · have HX1 := Lib.hid (HX.out.grow hg1)
        have HF1 := Lib.hid (FieldAt.grown HF.out hg1)
        have H0 := Lib.hid h0
        clear HX h0 hg1
        go_wp2
        refine ⟨⟨cl + 1, Lm, ps, us, by omega, by go_num, by rw [HD.out], HF1.out, HX1.out.to (HX1.out.ech.skip fun s hs => ?_)⟩, by simp [intOf]; omega⟩
        rw [at_vec]
        by_cases e : s < n
        · rw [H0.out s (by rw [← HD.out]; exact hs) e, fb_zero]
        · have hnil : Lm.getD s [] = [] := by
            rw [List.getD_eq_getElem?_getD, List.getElem?_eq_none (by rw [HX1.out.len]; omega)]
            rfl
          rw [hnil]
          rfl
      · have HX1 := Lib.hid (HX.out.grow hg1)
        have HF1 := Lib.hid (FieldAt.grown HF.out hg1)
        have H0 := Lib.hid t3
        clear HX t3 hg1 HF
        have hd1 : d < n := by omega
        obtain ⟨oa1, ca1, ea, qa, _⟩ := HX1.out.cell t t2
        obtain ⟨od1, cd1, ed, qd, _⟩ := HX1.out.cell d hd1
        have ft1 := HX1.out.frozen t
        have fd1 := HX1.out.frozen d
        have HEA := Lib.hid ea
        have HED := Lib.hid ed
        clear ea ed
        obtain ⟨y, hy⟩ : ∃ y, (w1.setCell ⟨g, d, none⟩ (.slice oa1 k ca1)).cell? ⟨g, t, none⟩ = some y := by
          obtain ⟨_, ⟨he, _⟩ | ⟨g', c', cur, he, _, hg, hh1, hh2, hh3, _⟩⟩ := HX1.out.own
          · cases he
          · cases he
            have h2 := heap_setCell_same w1 g d cur _ (.slice oa1 k ca1) hg
            rw [cell_of_row _ g t _ _ _ h2]
            have : t < (cur.setIfInBounds d (.slice oa1 k ca1)).size := by simp; omega
            exact ⟨_, by rw [Array.getElem?_eq_getElem this]⟩
        go_wp2
        go_region
        have hsw := (HX1.out.swap d t (by rw [HD.out]; exact Nat.le_refl _) hd1 (by rw [HD.out]; exact t1) t2).grow (Gr.drew (Gr.refl _))
        rw [HEA.out, HED.out] at hsw
        have hz1 : (((Lm.set d (Lm.getD t [])).set t (Lm.getD d [])).getD d []).getD cl 0 ≠ 0 := by
          by_cases e : t = d
          · subst e
            rw [getD_set_self _ _ _ (by rw [List.length_set, HX1.out.len]; exact hd1)]
            exact H0.out
          · rw [getD_set_ne _ _ _ _ e, getD_set_self _ _ _ (by rw [HX1.out.len]; exact hd1)]
            exact H0.out
        have H1 := Lib.hid hsw
        have HZ1 := Lib.hid hz1
        have HF2 : Hid (FieldAt ((w1.setCell ⟨g, d, none⟩ (.slice oa1 k ca1)).setCell ⟨g, t, none⟩ (.slice od1 k cd1)).drew ft) := Lib.hid (FieldAt.grown (FieldAt.put (FieldAt.put HF1.out HFG.out) HFG.out) (Gr.drew (Gr.refl _)))
        clear hsw hz1 hy ft1 fd1 qa qd HEA HED H0 HX1 HF1
        generalize ((w1.setCell ⟨g, d, none⟩ (.slice oa1 k ca1)).setCell ⟨g, t, none⟩ (.slice od1 k cd1)).drew = W1 at *
        generalize (us.set d (.slice oa1 k ca1)).set t (.slice od1 k cd1) = us1 at *
        generalize (Lm.set d (Lm.getD t [])).set t (Lm.getD d []) = L1 at *
        obtain ⟨ob1, cb1, eb1, qb1, rb1⟩ := H1.out.cell d hd1
        obtain ⟨b1, rfl, rq1⟩ := rb1 cl hck
        have fr1 := H1.out.frozen d
        have hbz := H1.out.wide.byt d cl
        have hrow := (H1.out.row d hd1).1
        rw [eb1] at hrow
        have HROW := Lib.hid hrow
        have HLK : Hid ((L1.getD d []).length = k) := Lib.hid (H1.out.wide.at d (by rw [H1.out.len]; exact hd1)).1
        clear rb1 hrow eb1
        generalize hzz : (L1.getD d []).getD cl 0 = z at *
        have HZZ := Lib.hid hzz
        clear hzz
        go_upto_region 8 with fail
        go_cut [] (fun wx => ∃ L2 us2, Mx w0 wx g n c k A L2 ps cl us2 ∧ (L2.getD d []).getD cl 0 = 1 ∧ FieldAt wx ft)
        case first =>
          go_region_law (first
            | ((try go_simp); go_at_call 55; refine (inv_field ft z hbz _ (by exact HF2.out)).mono ?_; rintro e w' ⟨rfl, nd, rfl⟩)
            | ((try go_simp); go_at_call 54; refine (ok_scale _ _ (invZ z) (L1.getD d []) _ (Or.inr ⟨ft, rfl, by exact HF2.out⟩) (invZ_byt z) (by exact HROW.out) (by rw [HLK.out]; omega)).mono ?_; rintro e w2 ⟨v2, rfl, hnw⟩; obtain ⟨o2, m2, c2', rfl⟩ := New.form3 hnw; have hc2 := cell_grown hnw.1 (by exact qb1); have hf2 := frozen_grown hnw.1 (by exact qb1) (by exact fr1); have HG2 := Lib.hid (show Gr W1 _ from hnw.1); have HNW := Lib.hid hnw; clear hnw))
          all_goals
            go_wp2_with fail
            go_meet
            refine ⟨_, _, (H1.out.grow HG2.out).scaled d (by rw [HD.out]; exact Nat.le_refl _) hd1 (invZ_byt z) (invZ_ne hbz HZ1.out) (New.bs HNW.out) ?_, ?_, FieldAt.put (FieldAt.grown HF2.out HG2.out) HFG.out⟩
            · exact New.rb HNW.out _
            · rw [getD_set_self _ _ _ (by rw [H1.out.len]; exact hd1), scaleL_getD _ _ _ (by rw [HLK.out]; exact hck), HZZ.out, inv_mulZ hbz HZ1.out]
        case rest =>
          clear H1 HZ1 qb1 rq1 fr1 hbz HROW HLK HZZ HF2
          obtain ⟨L2, us2, hx2, hone, hf2⟩ := hcut
          have H2 := Lib.hid hx2
          have HONE := Lib.hid hone
          have HF3 := Lib.hid hf2
          clear hx2 hone hf2
          go_wp2_with fail
          refine (sweep_any _ H2.out ft HF3.out HFG.out d cl (by rw [HD.out]; exact Nat.le_refl _) hd1 hck HONE.out hn hk hnc hc).mono ?_
          rintro e w3 ⟨rfl, hf3, L3, us3, hx3, hone3, hzs⟩
          have H3 := Lib.hid hx3
          have HF4 := Lib.hid hf3
          have HONE3 := Lib.hid hone3
          have HZS := Lib.hid hzs
          clear hx3 hf3 hone3 hzs H2 HONE HF3
          go_wp2
          refine ⟨⟨cl + 1, L3, ps ++ [cl], us3, by omega, by go_num, by rw [List.length_append, HD.out]; go_num, HF4.out, H3.out.to (H3.out.ech.next ?_ ?_ fun s hs => ?_)⟩, by simp [intOf]; omega⟩
          · rw [List.length_map, H3.out.len, HD.out]; exact hd1
          · rw [at_vec, HD.out, HONE3.out, fb_one]
          · rw [at_vec]
            by_cases e : s < n
            · rw [HZS.out s e (by rw [← HD.out]; exact hs), fb_zero]
            · have hnil : L3.getD s [] = [] := by
                rw [List.getD_eq_getElem?_getD, List.getElem?_eq_none (by rw [H3.out.len]; omega)]
                rfl
              rw [hnil]
              rfl
    · obtain rfl : cl = cols := by omega
      go_wp2
      go_ret
      exact ⟨ps, Lm, us, by rw [HD.out]; rfl, HX.out⟩
end
set_option maxHeartbeats 400000 in
/-- Without columns there is nothing to do. -/
theorem eliminate_none (f v : Value) (w : World) :
    Calls Try.prog 38 #[f, v, .int .i64 0] w fun e w' => e = .returned (.int .i64 0) ∧ Gr w w' := by
  go_enter Try.func38, Try.ntmps38
  go_wp2
  go_loopw [7, 11] (fun dd cc W => dd = .int .i64 0 ∧ cc = .int .i64 0 ∧ W = w) (fun _ _ _ => 0)
  case atStart => exact ⟨rfl, rfl, rfl⟩
  case round =>
    obtain ⟨rfl, rfl, rfl⟩ := hrel
    go_wp2
    go_ret
    exact ⟨rfl, Gr.refl _⟩
end Go.Proofs.Ytedobcajbelcpaa
namespace Go.Proofs.Ytedobcajbelcpaa
open Go.RowKit

theorem bytes_cells {w : World} {o : Option Addr} {l : List Int} {n : Nat} (hl : l.length = n) (h : ∀ a, o = some a → ∀ i, i < n → w.cell? (a.add i) = some (.int .u8 (l.getD i 0))) :
    ∀ ad, o = some ad → ∀ i u, (l.map (Value.int .u8))[i]? = some u → w.cell? (ad.add i) = some u := by
  intro ad ha i u hu
  have hi : i < l.length := by
    have := (List.getElem?_eq_some_iff.1 hu).1
    rwa [List.length_map] at this
  rw [h ad ha i (by omega)]
  rw [List.getElem?_map, List.getElem?_eq_getElem hi] at hu
  rw [List.getD_eq_getElem?_getD, List.getElem?_eq_getElem hi]
  simpa using hu
theorem leadL_nought : ∀ l : List Int, leadL l = -1 → ∀ j, l.getD j 0 = 0
  | [], _, j => by simp
  | a :: l, h, j => by
    have hge := leadL_ge l
    unfold leadL at h
    split at h
    · rename_i ha
      split at h
      · rename_i hl
        cases j with
        | zero => simpa using ha
        | succ j => simpa using leadL_nought l hl j
      · omega
    · omega
theorem vec_nought {l : List Int} (h : leadL l = -1) : vec l = L.vzero := funext fun j => by
  show fb (l.getD j 0) = L.zero
  rw [leadL_nought l h j, fb_zero]
theorem vec_ne {l : List Int} (hb : ∀ x ∈ l, Byt x) (h : 0 ≤ leadL l) : vec l ≠ L.vzero := fun e => by
  have : leadL l = -1 := leadL_none l fun j _ => by
    have h1 : fb (l.getD j 0) = L.zero := congrFun e j
    exact fb_inj (getD_byt hb j) (by unfold Byt; omega) (by rw [h1, fb_zero])
  omega
theorem Bs.parts {w : World} {oa : Option Addr} {m c : Nat} {l : List Int} (h : Bs w (.slice oa m c) l) : l.length = m ∧ m ≤ c ∧ c ≤ 9223372036854775807 ∧ (oa = none → m = 0 ∧ c = 0) ∧ ∀ ad, oa = some ad → ∀ i u, (l.map (Value.int .u8))[i]? = some u → w.cell? (ad.add i) = some u := by
  obtain ⟨_, oa', c', he, h2, h3, h4, h5⟩ := h
  obtain ⟨rfl, rfl, rfl⟩ : oa = oa' ∧ m = l.length ∧ c = c' := by simpa using he
  exact ⟨rfl, h2, h3, fun e => ⟨by have := h4 e; omega, h4 e⟩, bytes_cells rfl h5⟩
/-- append of bytes that came in onto bytes of one's own. -/
theorem wpList_append_bytes {w : World} {ops : Array Oper} {rest : List Oper} {o : Oper} {a : Act} {Q : Exit → Act → World → Prop} (hgd : o.guard = none) (s x : Operand)
    (ho : o.op = .call { callee := .builtin .append, args := #[s, x], argTypes := #[41, 41] }) (base : Nat) (v : Value) (n : Nat) (l : List Int) (hs : a.eval s = v) (hown : w.ownsRow base 5 1 v n (l.map (Value.int .u8)))
    (oa : Option Addr) (m c : Nat) (l' : List Int) (hx : a.eval x = .slice oa m c) (hL : Bs w (.slice oa m c) l') (hm : n + m ≤ 1000000) (hbase : base ≤ w.heap.size)
    (h : ∀ v' w', w'.ownsRow base 5 1 v' (n + m) ((l ++ l').map (Value.int .u8)) → w.grownBy w' v.ownBlock → wpList Try.prog ops Q rest (a.put o.dst v') w') : wpList Try.prog ops Q (o :: rest) a w := by
  obtain ⟨i5, hi0, hz0, hz1, hz2⟩ := info_parts infoB
  obtain ⟨p1, p2, p3, p4, p5⟩ := hL.parts
  refine wpList_append_in hgd s x 41 ho base 5 i5 _ 1 Try.underlying41 hi0 hz0 hz1 hz2 rfl v n _ hs hown oa m c (l'.map (Value.int .u8)) hx p4 (by rw [List.length_map]; exact p1) p5 (ints_oneCell _ _) (by unfold maxLen; omega) (by omega) hbase ?_
  intro v' w' h1 h2
  exact h v' w' (by rw [List.map_append]; exact h1) h2
theorem step_append_bytes {w : World} {ops : Array Oper} {o : Oper} {a : Act} {K : Act → World → Prop} {Q : Exit → Act → World → Prop} {E : Prop} (hgd : o.guard = none) (s x : Operand)
    (ho : o.op = .call { callee := .builtin .append, args := #[s, x], argTypes := #[41, 41] }) (base : Nat) (v : Value) (n : Nat) (l : List Int) (hs : a.eval s = v) (hown : w.ownsRow base 5 1 v n (l.map (Value.int .u8)))
    (oa : Option Addr) (m c : Nat) (l' : List Int) (hx : a.eval x = .slice oa m c) (hL : Bs w (.slice oa m c) l') (hm : n + m ≤ 1000000) (hbase : base ≤ w.heap.size)
    (h : ∀ v' w', w'.ownsRow base 5 1 v' (n + m) ((l ++ l').map (Value.int .u8)) → w.grownBy w' v.ownBlock → K (a.put o.dst v') w') :
    if Region.wanted o (yielded ops a.tmps) = true then Oper.wp Try.prog o a w K Q else E := by
  obtain ⟨i5, hi0, hz0, hz1, hz2⟩ := info_parts infoB
  obtain ⟨p1, p2, p3, p4, p5⟩ := hL.parts
  refine step_append_in hgd s x 41 ho base 5 i5 _ 1 Try.underlying41 hi0 hz0 hz1 hz2 rfl v n _ hs hown oa m c (l'.map (Value.int .u8)) hx p4 (by rw [List.length_map]; exact p1) p5 (ints_oneCell _ _) (by unfold maxLen; omega) (by omega) hbase ?_
  intro v' w' h1 h2
  exact h v' w' (by rw [List.map_append]; exact h1) h2
theorem Bs.rb {w : World} {u : Value} {l : List Int} (h : Bs w u l) (w' : World) : Rb w.heap.size w' u := by
  intro a n c e hn
  obtain ⟨_, oa, cc, h1, h2, h3, h4, h5⟩ := h
  rw [h1] at e
  obtain ⟨rfl, rfl, rfl⟩ : oa = some a ∧ l.length = n ∧ cc = c := by simpa using e
  exact .inl (World.block_lt_of_cell? w _ (h5 a rfl 0 hn))
/-- A copy of the list of rows: new memory for the list, the rows as they were. -/
theorem wpList_append_rows {w : World} {ops : Array Oper} {rest : List Oper} {o : Oper} {a : Act} {Q : Exit → Act → World → Prop} (hgd : o.guard = none) (s x : Operand)
    (ho : o.op = .call { callee := .builtin .append, args := #[s, x], argTypes := #[36, 36] }) (hs : a.eval s = .slice none 0 0)
    (oa : Option Addr) (m c : Nat) (L : List (List Int)) (hx : a.eval x = .slice oa m c) (hl : L.length = m) (hL : Bss w (.slice oa m c) L) (hm : m ≤ 1000)
    (h : ∀ v' w' us, w'.ownsRow w.heap.size 41 1 v' m us → Gr w w' → (∀ i, i < m → Bs w' (us.getD i undef) (L.getD i []) ∧ Rb w.heap.size w' (us.getD i undef)) → wpList Try.prog ops Q rest (a.put o.dst v') w') : wpList Try.prog ops Q (o :: rest) a w := by
  obtain ⟨i0, hi0, hz0, hz1, hz2⟩ := info_parts info22
  obtain ⟨us, hv⟩ := hL.vals
  have hno : oa = none → m = 0 ∧ c = 0 := fun e => by
    obtain ⟨oa', c', he, h1, h2, h3, h4⟩ := hL
    obtain ⟨rfl, h5, rfl⟩ : oa = oa' ∧ m = L.length ∧ c = c' := by simpa using he
    have := h3 e
    omega
  refine wpList_append_in hgd s x 36 ho w.heap.size 41 i0 _ 24 Try.underlying36 hi0 hz0 hz1 hz2 rfl (.slice none 0 0) 0 [] hs (World.ownsRow_nil w _ 41 1) oa m c us hx hno (by rw [hv.1, hl]) hv.2.1 hv.2.2.2 (by unfold maxLen; omega) (by omega) (Nat.le_refl _) ?_
  intro v' w' hown hgrow
  rw [Nat.zero_add, List.nil_append] at hown
  have hg : Gr w w' := Gr.append (Gr.refl w) hgrow (fun _ h => by cases h)
  exact h v' w' us hown hg fun i hi => ⟨Bs.grown (hv.2.2.1 i (by omega)) hg, (hv.2.2.1 i (by omega)).rb w'⟩
theorem New.under {w w1 w2 : World} {v : Value} {l : List Int} (hg : Gr w w1) (h : New w1 w2 v l) : New w w2 v l := by
  obtain ⟨h1, h2, h3⟩ := h
  refine ⟨Gr.trans hg h1, h2, ?_⟩
  rcases h3 with h3 | ⟨g, c, cur, e1, e2, e3⟩
  · exact .inl h3
  · exact .inr ⟨g, c, cur, e1, Nat.le_trans hg.size e2, e3⟩
theorem zeroB (m : Nat) : Builtin.zeroCells (Value.int .u8 0).cells m = (List.replicate m (Value.int .u8 0)).toArray := by
  apply Array.ext
  · simp [Builtin.zeroCells, Value.cells]
  intro i h1 h2
  simp [Builtin.zeroCells, Value.cells, Nat.mod_one]
/-- append(v, make([]byte, m)...), v bytes of one's own. -/
theorem run_append_zeros (w : World) (ty : TypeId) (base : Nat) (v : Value) (n : Nat) (l : List Int) (hown : w.ownsRow base 5 1 v n (l.map (Value.int .u8))) (m : Nat) (hm : n + m ≤ 1000000) (hbase : base ≤ w.heap.size) :
    ∃ v' w', (Builtin.append_ #[41, 3] ty #[v, .int .i64 m]).run Try.prog w = .ok v' w' ∧ w'.ownsRow base 5 1 v' (n + m) ((l ++ List.replicate m 0).map (Value.int .u8)) ∧ w.grownBy w' v.ownBlock := by
  obtain ⟨i, hi, hz, hs, hb⟩ := info_parts infoB
  have ht := Try.underlying41
  have htn := Try.underlying3
  have hlen : ((l ++ List.replicate m 0).map (Value.int .u8)).length = n + m := by
    have := hown.1
    rw [List.length_map] at this
    rw [List.length_map, List.length_append, List.length_replicate]
    omega
  have hmap : (l ++ List.replicate m 0).map (Value.int .u8) = l.map (Value.int .u8) ++ List.replicate m (.int .u8 0) := by rw [List.map_append, List.map_replicate]
  have hln : (l.map (Value.int .u8)).length = n := by have := hown.1; omega
  have grown : ∀ (old : Nat) (row : Option Nat),
      (w.drew.alloc (.cells ((l.map (Value.int .u8)).toArray ++ Builtin.zeroCells (Value.int .u8 0).cells m ++ Builtin.zeroCells (Value.int .u8 0).cells (grownCap w (n + m) old 5 - (n + m))) 5)).ownsRow base 5 1
        (.slice (some ⟨w.heap.size, 0, none⟩) (n + m) (grownCap w (n + m) old 5)) (n + m) ((l ++ List.replicate m 0).map (Value.int .u8)) ∧
      w.grownBy (w.drew.alloc (.cells ((l.map (Value.int .u8)).toArray ++ Builtin.zeroCells (Value.int .u8 0).cells m ++ Builtin.zeroCells (Value.int .u8 0).cells (grownCap w (n + m) old 5 - (n + m))) 5)) row := by
    intro old row
    have hge := grownCap_ge w (n + m) old 5
    have hcm : grownCap w (n + m) old 5 ≤ maxLen := grownCap_le_maxLen w (n + m) old 5 (by unfold maxLen; omega)
    rw [zeroB, zeroB]
    refine ⟨⟨by rw [hlen, Nat.mul_one], .inr ⟨w.heap.size, _, _, rfl, hbase, heap_alloc_new w.drew _, hge, hcm, ?_, ?_⟩⟩, ⟨rfl, rfl, rfl, by simp, fun k hk _ => heap_alloc_old w.drew _ hk⟩⟩
    · simp only [Array.size_append, List.size_toArray, List.length_replicate, hln]
      omega
    · rw [hmap]
      simp only [Array.toList_append]
      rw [List.take_left' (by rw [List.length_append, hln, List.length_replicate, Nat.mul_one])]
  by_cases hm0 : m = 0
  · subst hm0
    rw [List.replicate_zero, List.append_nil] at *
    have hw : IntKind.i64.wrap (0 : Int) = 0 := by rw [IntKind.wrap_i64]; omega
    obtain ⟨_, ⟨rfl, rfl⟩ | ⟨g, cap, cur, rfl, hbg, hg, hnc, hcm, hcs, htake⟩⟩ := id hown
    · exact ⟨.slice none 0 0, w, by simp [Builtin.append_, run_underlying ht, run_underlying htn, sizeOf, typeInfo, hi, asInt, asIntOf, hw], hown, ⟨rfl, rfl, rfl, Nat.le_refl _, fun _ _ _ => rfl⟩⟩
    · exact ⟨_, w, by simp [Builtin.append_, run_underlying ht, run_underlying htn, sizeOf, typeInfo, hi, asInt, asIntOf, hw, hnc, storeCells], hown, ⟨rfl, rfl, rfl, Nat.le_refl _, fun _ _ _ => rfl⟩⟩
  · obtain ⟨_, ⟨rfl, rfl⟩ | ⟨g, cap, cur, rfl, hbg, hg, hnc, hcm, hcs, htake⟩⟩ := id hown
    · have hl0 : l = [] := by
        rw [List.length_map] at hln
        exact List.eq_nil_of_length_eq_zero hln
      subst hl0
      have hr := Lib.run_append_nil_zeros (P := Try.prog) w 41 3 ty 5 i _ .i64 .i64 ht htn hi hz m (by omega) (by rw [hs]; omega) (by omega) (by rw [hb]; omega)
      have hgr := grown 0 (Value.ownBlock (.slice none 0 0))
      simp only [Nat.zero_add, List.map_nil, Array.empty_append] at hgr ⊢
      exact ⟨_, _, hr, hgr.1, hgr.2⟩
    · by_cases hroom : n + m ≤ cap
      · have hw : IntKind.i64.wrap (m : Int) = m := by rw [IntKind.wrap_i64]; omega
        have hst := run_storeCells_at Try.prog g n 5 (List.replicate m (Value.int .u8 0)) 0 cur w hg (by rw [List.length_replicate]; omega) (by intro u hu; rw [(List.mem_replicate.1 hu).2]; rfl)
        simp only [Nat.add_zero] at hst
        have hneg : ¬ ((m : Int) < 0) := by omega
        have h48i : ¬ (281474976710656 < (m : Int)) := by omega
        refine ⟨.slice (some ⟨g, 0, none⟩) (n + m) cap, w.setRow g (cur.toList.take n ++ List.replicate m (Value.int .u8 0) ++ cur.toList.drop (n + m)).toArray, ?_, ?_, ?_⟩
        · simp [Builtin.append_, run_underlying ht, run_underlying htn, sizeOf, typeInfo, zeroValue, hi, hz, hs, hb, asInt, asIntOf, hw, hneg, h48i, hm0, hroom, Addr.add_lit, zeroB, hst]
        · refine ⟨by rw [hlen, Nat.mul_one], .inr ⟨g, cap, _, rfl, hbg, setRow_heap w g cur _ 5 _ hg, hroom, hcm, ?_, ?_⟩⟩
          · simp only [List.size_toArray, List.length_append, List.length_take, List.length_drop, Array.length_toList, List.length_replicate]
            omega
          · rw [hmap]
            simp only [List.append_assoc]
            rw [Nat.mul_one] at htake
            rw [htake, ← List.append_assoc, List.take_left' (by rw [List.length_append, hln, List.length_replicate, Nat.mul_one])]
        · exact ⟨rfl, rfl, rfl, by simp, fun k _ hk => setRow_other w g k _ (fun e => hk (by simp [Value.ownBlock, e]))⟩
      · have holds : ∀ j u, (l.map (Value.int .u8))[j]? = some u → w.cell? ((⟨g, 0, none⟩ : Addr).add j) = some u := hown.cells (g := g) rfl
        have hf := run_firstCells_some (P := Try.prog) w.drew i.size n ⟨g, 0, none⟩ n cap (l.map (Value.int .u8)) (by rw [hs, hln, Nat.mul_one]) (by simpa using holds)
        have hr := Lib.run_append_grow_zeros (P := Try.prog) w 41 3 ty 5 i _ .i64 .i64 ht htn hi hz (some ⟨g, 0, none⟩) n cap _ hf m (by omega) (by rw [hs]; omega) (by omega) (by omega) (by rw [hb]; omega) (by rw [hb]; exact growslice_fits (by omega) (by omega))
        have hgr := grown cap (Value.ownBlock (.slice (some ⟨g, 0, none⟩) n cap))
        exact ⟨_, _, hr, hgr.1, hgr.2⟩
theorem want_append_bytes {w : World} {ops : Array Oper} {rest : List Oper} {o : Oper} {a : Act} {Q : Exit → Act → World → Prop} (hw : Region.wanted o (yielded ops a.tmps) = true) (s x : Operand)
    (ho : o.op = .call { callee := .builtin .append, args := #[s, x], argTypes := #[41, 41] }) (base : Nat) (v : Value) (n : Nat) (l : List Int) (hs : a.eval s = v) (hown : w.ownsRow base 5 1 v n (l.map (Value.int .u8)))
    (oa : Option Addr) (m c : Nat) (l' : List Int) (hx : a.eval x = .slice oa m c) (hL : Bs w (.slice oa m c) l') (hm : n + m ≤ 1000000) (hbase : base ≤ w.heap.size)
    (h : ∀ v' w', w'.ownsRow base 5 1 v' (n + m) ((l ++ l').map (Value.int .u8)) → w.grownBy w' v.ownBlock → wpList Try.prog ops Q rest (a.put o.dst v') w') : wpList Try.prog ops Q (o :: rest) a w := by
  obtain ⟨i5, hi0, hz0, hz1, hz2⟩ := info_parts infoB
  obtain ⟨p1, p2, p3, p4, p5⟩ := hL.parts
  refine wpList_step fun K hK => ?_
  rw [if_pos hw]
  refine wp_append_in s x 41 ho base 5 i5 _ 1 Try.underlying41 hi0 hz0 hz1 hz2 rfl v n _ hs hown oa m c (l'.map (Value.int .u8)) hx p4 (by rw [List.length_map]; exact p1) p5 (ints_oneCell _ _) (by unfold maxLen; omega) (by omega) hbase ?_
  intro v' w' h1 h2
  exact hK _ _ (h v' w' (by rw [List.map_append]; exact h1) h2)
theorem want_append_zeros {w : World} {ops : Array Oper} {rest : List Oper} {o : Oper} {a : Act} {Q : Exit → Act → World → Prop} (hw : Region.wanted o (yielded ops a.tmps) = true) (s x : Operand)
    (ho : o.op = .call { callee := .builtin .append, args := #[s, x], argTypes := #[41, 3] }) (base : Nat) (v : Value) (n : Nat) (l : List Int) (hs : a.eval s = v) (hown : w.ownsRow base 5 1 v n (l.map (Value.int .u8)))
    (m : Nat) (hx : a.eval x = .int .i64 m) (hm : n + m ≤ 1000000) (hbase : base ≤ w.heap.size)
    (h : ∀ v' w', w'.ownsRow base 5 1 v' (n + m) ((l ++ List.replicate m 0).map (Value.int .u8)) → w.grownBy w' v.ownBlock → wpList Try.prog ops Q rest (a.put o.dst v') w') : wpList Try.prog ops Q (o :: rest) a w := by
  refine wpList_step fun K hK => ?_
  rw [if_pos hw]
  obtain ⟨v', w', hr, h2, h3⟩ := run_append_zeros w o.type base v n l hown m hm hbase
  unfold Oper.wp execOp
  simp only [ho, resolve, invoke, builtin, Sem.run_bind, Sem.run_pure, Result.andThen_ok, List.map_toArray, List.map_cons, List.map_nil, hs, hx, hr]
  exact hK _ _ (h v' w' h2 h3)
end Go.Proofs.Ytedobcajbelcpaa
