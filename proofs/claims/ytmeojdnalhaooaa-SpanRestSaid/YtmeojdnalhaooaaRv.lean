/-
  The document's own answers on rows of bytes.
-/
import Derived.Test.YtmeojdnalhaooaaSp
import Derived.Deep.RegionHeld3
namespace Go.Proofs.Ytmeojdnalhaooaa
open Go.RowKit

/-- A list by its places. -/
def lst (n : Nat) (f : Nat → Int) : List Int := (List.range n).map f
theorem lst_length (n : Nat) (f : Nat → Int) : (lst n f).length = n := by simp [lst]
theorem lst_getD (n : Nat) (f : Nat → Int) (i : Nat) (h : i < n) : (lst n f).getD i 0 = f i := by simp [lst, h]
theorem lst_congr (n : Nat) (f f' : Nat → Int) (h : ∀ j, j < n → f j = f' j) : lst n f = lst n f' :=
  List.map_congr_left fun j hj => h j (List.mem_range.1 hj)
theorem lst_set (n : Nat) (f : Nat → Int) (k : Nat) (v : Int) : (lst n f).set k v = lst n (fun j => if j = k then v else f j) := by
  apply List.ext_getElem
  · simp [lst]
  intro j h1 h2
  simp only [lst, List.getElem_set, List.getElem_map, List.getElem_range]
  by_cases e : k = j
  · rw [if_pos e, if_pos e.symm]
  · rw [if_neg e, if_neg (fun c => e c.symm)]
theorem lst_self (l : List Int) : lst l.length (fun i => l.getD i 0) = l := by
  apply List.ext_getElem
  · simp [lst]
  intro j h1 h2
  simp [lst, h2]
theorem lst_byt {n : Nat} {f : Nat → Int} (h : ∀ i, i < n → Byt (f i)) : ∀ x ∈ lst n f, Byt x := by
  intro x hx
  simp [lst] at hx
  obtain ⟨i, hi, rfl⟩ := hx
  exact h i hi
/-- The first k places are made, the others are 0. -/
def part (f : Nat → Int) (k : Nat) : Nat → Int := fun j => if j < k then f j else 0
theorem part_set (n : Nat) (f : Nat → Int) (k : Nat) : (lst n (part f k)).set k (f k) = lst n (part f (k + 1)) := by
  rw [lst_set]
  apply lst_congr
  intro j _
  unfold part
  by_cases e : j = k
  · rw [if_pos e, if_pos (by omega), e]
  · by_cases h : j < k
    · rw [if_neg e, if_pos h, if_pos (by omega)]
    · rw [if_neg e, if_neg h, if_neg (by omega)]
theorem part_nil (n : Nat) (f : Nat → Int) : List.replicate n 0 = lst n (part f 0) := by
  apply List.ext_getElem
  · simp [lst]
  intro j h1 h2
  simp [lst, part]
theorem part_all (n : Nat) (f : Nat → Int) : lst n (part f n) = lst n f := lst_congr n _ _ fun j h => by simp [part, h]

theorem far_of {w : World} {g k : Nat} {a : Addr} {v : Value} (hg : w.heap.size ≤ g) (h : w.cell? a = some v) : a ≠ ⟨g, k, none⟩ := by
  intro c
  subst c
  have := World.block_lt_of_cell? w _ h
  simp at this
  omega
theorem cell_set_far {W : World} {x y : Addr} {v u : Value} (h : W.cell? x = some u) (hne : x ≠ y) : (W.setCell y v).drew.cell? x = some u := by
  rw [World.cell?_drew, World.cell?_setCell_other _ _ _ _ hne.symm]
  exact h
/-- c times a, plus b, place by place. -/
def axpyL (c : Int) (a b : List Int) : Nat → Int := fun i => addZ (b.getD i 0) (mulZ c (a.getD i 0))
/-- In wr there stands in block g what k rounds have made; only new memory was written since w. -/
def Making (w : World) (g n : Nat) (f : Nat → Int) (k : Nat) (wr : World) : Prop := Gr w wr ∧ w.heap.size ≤ g ∧ Blk wr g (lst n (part f k))
theorem Making.store {w wr : World} {g n k : Nat} {f : Nat → Int} (h : Making w g n f k wr) : Making w g n f (k + 1) (wr.setCell ⟨g, k, none⟩ (.int .u8 (f k))) := by
  obtain ⟨h1, h2, h3⟩ := h
  refine ⟨Gr.setCell h1 h2 _, h2, ?_⟩
  unfold Blk at *
  rw [heap_setCell_same _ _ _ _ _ _ h3, rowB_set, part_set]

theorem Making.drew {w wr : World} {g n k : Nat} {f : Nat → Int} (h : Making w g n f k wr) : Making w g n f k wr.drew := ⟨Gr.drew h.1, h.2.1, h.2.2⟩
set_option maxHeartbeats 400000 in
theorem refAxpy_core (a b : Addr) (n ca cb : Nat) (c : Int) (x y : List Int) (w : World) (hx : ∀ i, Byt (x.getD i 0)) (hy : ∀ i, Byt (y.getD i 0)) (hc : Byt c) (hn : n ≤ 281474976710000)
    (hxc : ∀ i, i < n → w.cell? (a.add i) = some (.int .u8 (x.getD i 0))) (hyc : ∀ i, i < n → w.cell? (b.add i) = some (.int .u8 (y.getD i 0))) :
    Calls Try.prog 18 #[.int .u8 c, .slice (some a) n ca, .slice (some b) n cb] w fun e w' => ∃ g, e = .returned (.slice (some ⟨g, 0, none⟩) n n) ∧ w.heap.size ≤ g ∧ Blk w' g (lst n (axpyL c x y)) ∧ Gr w w' := by
  have HXB := Lib.hid hx
  have HYB := Lib.hid hy
  have HX := Lib.hid hxc
  have HY := Lib.hid hyc
  have hmk := make22 n n (by omega) (by omega)
  clear hx hy hxc hyc
  have HB : Hid (Making w w.heap.size n (axpyL c x y) 0 (w.alloc (.cells (rowB (List.replicate n 0)) 5))) :=
    Lib.hid ⟨Gr.alloc (Gr.refl _) _ _, Nat.le_refl _, by rw [← part_nil]; exact heap_alloc_new _ _⟩
  generalize rowB (List.replicate n 0) = cur at *
  go_enter Try.func18, Try.ntmps18
  go_wp2
  clear hmk
  generalize hW : w.alloc (.cells cur 5) = W at *
  generalize hG : w.heap.size = g at *
  go_loopw [14] (fun i wr => ∃ k : Nat, k ≤ n ∧ i = .int .i64 k ∧ Making w g n (axpyL c x y) k wr) (fun i _ => n - (intOf i).toNat)
  case atStart => exact ⟨0, by omega, rfl, HB.out⟩
  case round =>
    clear HB
    obtain ⟨k, hk, rfl, hm⟩ := hrel
    obtain ⟨hg, hge, hblk⟩ := hm
    by_cases hlt : k < n
    · have q1 := cell_grown hg (HX.out k hlt)
      have q2 := cell_grown hg (HY.out k hlt)
      have q3 := Blk.cell hblk k (by rw [lst_length]; exact hlt)
      have q4 := frozen_of_row wr g k _ _ hblk
      have n1 : a.add k ≠ ⟨g, k, none⟩ := far_of hge (HX.out k hlt)
      have n2 : b.add k ≠ ⟨g, k, none⟩ := far_of hge (HY.out k hlt)
      have M0 : Hid (Making w g n (axpyL c x y) k wr) := Lib.hid ⟨hg, hge, hblk⟩
      have E : Hid (bits BinOp.xor IntKind.u8 (y.getD k 0) (mulZ c (x.getD k 0)) = axpyL c x y k) := Lib.hid (xorZ _ _ (HYB.out k) (mulZ_byt _ _))
      have hp := HXB.out k
      clear hg hge hblk
      generalize (lst n (part (axpyL c x y) k)).getD k 0 = old at *
      generalize x.getD k 0 = p at *
      generalize y.getD k 0 = q at *
      go_wp2
      go_region_held3 (fun W => W.cell? (a.add k) = some (.int .u8 p) ∧ W.cell? (b.add k) = some (.int .u8 q)) (first | exact ⟨cell_set_far q1 n1, cell_set_far q2 n2⟩ | go_keep)
        (first | (go_at_call 40; refine (refMul_any c p hc hp _).mono ?_; rintro e w' ⟨rfl, rfl⟩))
      rw [E.out]
      go_wp2
      exact ⟨⟨k + 1, by omega, by go_num, Making.drew (Making.store M0.out)⟩, by simp [intOf]; omega⟩
    · obtain rfl : k = n := by omega
      rw [part_all] at hblk
      have G := Lib.hid hg
      have K := Lib.hid hblk
      clear hg hblk
      go_wp2
      go_ret
      exact ⟨g, rfl, hge, K.out, G.out⟩
set_option maxHeartbeats 400000 in
theorem refAxpy_none (oa ob : Option Addr) (ca cb : Nat) (c : Int) (w : World) :
    Calls Try.prog 18 #[.int .u8 c, .slice oa 0 ca, .slice ob 0 cb] w fun e w' => ∃ g, e = .returned (.slice (some ⟨g, 0, none⟩) 0 0) ∧ w.heap.size ≤ g ∧ Blk w' g [] ∧ Gr w w' := by
  have hmk : ∀ w, (Instr.makeSlice 23 (.int .i64 0) (.int .i64 0)).run Try.prog w = .ok (.slice (some ⟨w.heap.size, 0, none⟩) 0 0) (w.alloc (.cells (rowB []) 5)) := fun w => make22 0 0 (by omega) (by omega) w
  generalize hR : rowB [] = cur at *
  have R := Lib.hid hR
  clear hR
  go_enter Try.func18, Try.ntmps18
  go_wp2
  clear hmk
  go_loopw [14] (fun i wr => i = .int .i64 0 ∧ wr = w.alloc (.cells cur 5)) (fun _ _ => 0)
  case atStart => exact ⟨rfl, rfl⟩
  case round =>
    obtain ⟨rfl, rfl⟩ := hrel
    go_wp2
    go_ret
    exact ⟨_, rfl, Nat.le_refl _, by unfold Blk; rw [heap_alloc_new, R.out], Gr.alloc (Gr.refl _) _ _⟩
/-- What a call hands back as a row of its own: a slice of a new block that holds just l. -/
def Mine (w w' : World) (e : Ending) (l : List Int) : Prop := ∃ g, e = .returned (.slice (some ⟨g, 0, none⟩) l.length l.length) ∧ w.heap.size ≤ g ∧ Blk w' g l ∧ Gr w w'
theorem refAxpy_any (c : Int) (va vb : Value) (x y : List Int) (w : World) (hc : Byt c) (ha : Bs w va x) (hb : Bs w vb y) (hl : x.length = y.length) (hn : y.length ≤ 281474976710000) :
    Calls Try.prog 18 #[.int .u8 c, va, vb] w fun e w' => Mine w w' e (lst y.length (axpyL c x y)) := by
  unfold Mine
  rw [lst_length]
  have hx := Bs.byt ha
  have hy := Bs.byt hb
  by_cases h0 : 0 < y.length
  · obtain ⟨a, ca, rfl, h1, _, h3⟩ := Bs.at ha (by omega)
    obtain ⟨b, cb, rfl, h4, _, h6⟩ := Bs.at hb h0
    rw [hl] at h1 h3 ⊢
    exact refAxpy_core a b y.length ca cb c x y w hx hy hc hn h3 h6
  · obtain rfl : y = [] := List.eq_nil_of_length_eq_zero (by omega)
    obtain rfl : x = [] := List.eq_nil_of_length_eq_zero hl
    obtain ⟨_, oa, ca, rfl, _, _, _, _⟩ := ha
    obtain ⟨_, ob, cb, rfl, _, _, _, _⟩ := hb
    exact refAxpy_none oa ob ca cb c w
end Go.Proofs.Ytmeojdnalhaooaa
