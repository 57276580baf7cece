/-
  Slices of bytes in new memory: the verifier's copies.
-/
import Derived.Test.YtpckdjapkngpgaaDoorSl
import Derived.Laws.CopyOwn
namespace Go.Proofs.YtpckdjapkngpgaaDoor
open Go.RowKit

/-- A block's cells that are the bytes of a list. -/
def rowB (L : List Int) : Array Value := (L.map (Value.int .u8)).toArray
theorem rowB_size (L : List Int) : (rowB L).size = L.length := by simp [rowB]
theorem rowB_get (L : List Int) (i : Nat) (h : i < L.length) : (rowB L)[i]? = some (.int .u8 (L.getD i 0)) := by
  simp [rowB, h]
theorem rowB_set (L : List Int) (i : Nat) (x : Int) : (rowB L).setIfInBounds i (.int .u8 x) = rowB (L.set i x) := by
  simp [rowB, List.map_set]
theorem rowB_one (L : List Int) : (rowB L).all (·.oneCell') = true := by
  rw [Array.all_eq_true_iff_forall_mem]
  intro v hv
  simp [rowB] at hv
  obtain ⟨j, _, rfl⟩ := hv
  rfl
theorem rowB_made (n : Nat) : madeCells #[.int .u8 0] n = rowB (List.replicate n 0) := by
  apply Array.ext'
  rw [toList_madeCells_one]
  simp [rowB]
/-- Block g is whole, of bytes L. -/
def Blk (w : World) (g : Nat) (L : List Int) : Prop := w.heap[g]? = some (.cells (rowB L) 5 (0, 0))
theorem Blk.grown {w w' : World} {g : Nat} {L : List Int} (h : Blk w g L) (hg : Gr w w') : Blk w' g L := keptRow hg h
theorem Blk.cell {w : World} {g : Nat} {L : List Int} (h : Blk w g L) (i : Nat) (hi : i < L.length) : w.cell? ⟨g, i, none⟩ = some (.int .u8 (L.getD i 0)) := by
  rw [cell_of_row w g i _ _ _ h, rowB_get L i hi]
theorem Blk.bs {w : World} {g : Nat} {L : List Int} (h : Blk w g L) (l : List Int) (c : Nat) (hl : l.length ≤ L.length) (hlc : l.length ≤ c) (hc : c ≤ 9223372036854775807) (hb : ∀ x ∈ l, Byt x) (he : ∀ i, i < l.length → L.getD i 0 = l.getD i 0) :
    Bs w (.slice (some ⟨g, 0, none⟩) l.length c) l :=
  ⟨hb, some ⟨g, 0, none⟩, c, rfl, hlc, hc, (fun h => by cases h), fun a ha i hi => by
    cases ha
    rw [Addr.add_mid, Nat.zero_add, Blk.cell h i (by omega), he i hi]⟩
theorem info5 : (Tryd.prog.info? 5).map (fun i => (i.zero, i.size, i.bytes)) = some (some (.int .u8 0), 1, 1) := by kernel_rfl
theorem make22 (l c : Nat) (h : l ≤ c) (hc : c ≤ 281474976710656) (w : World) :
    (Instr.makeSlice 22 (.int .i64 (l : Int)) (.int .i64 (c : Int))).run Tryd.prog w = .ok (.slice (some ⟨w.heap.size, 0, none⟩) l c) (w.alloc (.cells (rowB (List.replicate c 0)) 5)) := by
  obtain ⟨i, hi, hzz⟩ := Option.map_eq_some_iff.1 info5
  simp only [Prod.mk.injEq] at hzz
  obtain ⟨hz, hs, hb⟩ := hzz
  have hr := run_make (P := Tryd.prog) w 22 5 i _ Tryd.underlying22 hi hz .i64 .i64 l c (by omega) (by omega) (by rw [hb]; omega) (by omega)
  rw [Int.toNat_natCast, Int.toNat_natCast, hs, Nat.mul_one] at hr
  rw [hr, ← rowB_made]
  rfl

/-- What stands in the two places behind, when k of them are set. -/
def marks (m : Int) : Nat → List Int
  | 0 => [0, 0]
  | 1 => [m, 0]
  | _ => [m, m]
theorem marks_length (m : Int) (k : Nat) : (marks m k).length = 2 := by
  unfold marks
  split <;> rfl
theorem marks_set (l : List Int) (n : Nat) (m : Int) (k : Nat) (hn : l.length = n) (h : k < 2) : (l ++ marks m k).set (n + k) m = l ++ marks m (k + 1) := by
  subst hn
  rw [List.set_append, if_neg (by omega), Nat.add_sub_cancel_left]
  have : k = 0 ∨ k = 1 := by omega
  rcases this with rfl | rfl <;> rfl
def spW (w : World) (L : List Int) : World := w.alloc (.cells (rowB L) 5)
set_option maxHeartbeats 400000 in
theorem spare_core (a : Addr) (n c : Nat) (l : List Int) (m : Int) (w : World) (hn : l.length = n) (h2 : n ≤ 281474976710000) (h0 : 0 < n)
    (hc : ∀ i, i < n → w.cell? (a.add i) = some (.int .u8 (l.getD i 0))) :
    Calls Tryd.prog 9 #[.slice (some a) n c, .int .u8 m] w fun e w' => ∃ g, e = .returned (.slice (some ⟨g, 0, none⟩) n (n + 2)) ∧ w.heap.size ≤ g ∧ Blk w' g (l ++ [m, m]) ∧ Gr w w' := by
  have HC := Lib.hid hc
  have HN := Lib.hid hn
  have hmk := make22 n (n + 2) (by omega) (by omega)
  rw [show ((n + 2 : Nat) : Int) = (n : Int) + 2 from by omega] at hmk
  clear hc hn
  go_enter Tryd.func9, Tryd.ntmps9
  have hsz : (Tryd.prog.info? 5).map (·.size) = some 1 := by kernel_rfl
  have SZ := Lib.hid hsz
  clear hsz
  have hB := heap_alloc_new w (.cells (rowB (List.replicate (n + 2) 0)) 5)
  have HB := Lib.hid hB
  clear hB
  have HS : Hid ((l.map (Value.int .u8)).length = Nat.min n n) := Lib.hid (by rw [List.length_map, HN.out]; simp)
  have HF : Hid (0 + (l.map (Value.int .u8)).length ≤ (rowB (List.replicate (n + 2) 0)).size) := Lib.hid (by rw [List.length_map, HN.out, rowB_size, List.length_replicate]; omega)
  have H1 : Hid (∀ v ∈ l.map (Value.int .u8), v.oneCell' = true) := Lib.hid (by
    intro v hv
    simp at hv
    obtain ⟨j, _, rfl⟩ := hv
    rfl)
  have HV : Hid (∀ j v, (l.map (Value.int .u8))[j]? = some v → (w.alloc (.cells (rowB (List.replicate (n + 2) 0)) 5)).cell? (a.add j) = some v) := Lib.hid (by
    intro j v hv
    have hj : j < n := by
      have := (List.getElem?_eq_some_iff.1 hv).1
      rw [List.length_map, HN.out] at this
      exact this
    have := HC.out j hj
    rw [cell_grown (Gr.alloc (Gr.refl _) _ _) this]
    simp [HN.out, hj] at hv
    rw [← hv]
    simp [HN.out, hj])
  have HR : Hid ((l.map (Value.int .u8) ++ List.drop (l.map (Value.int .u8)).length (rowB (List.replicate (n + 2) 0)).toList).toArray = rowB (l ++ marks m 0)) := Lib.hid (by
    simp [rowB, HN.out, marks])
  generalize l.map (Value.int .u8) = cs at *
  generalize rowB (List.replicate (n + 2) 0) = cur at *
  go_wp2_with (refine wpList_copy_own rfl _ _ 22 22 rfl 5 Tryd.underlying22 SZ.out w.heap.size 0 n (n + 2) a n c rfl rfl cur 5 HB.out cs HS.out HV.out HF.out H1.out ?_)
  rw [World.setRow_alloc_new, HR.out]
  clear HR H1 HV HF HS HB SZ HC hmk
  go_loopw [7] (fun i wr => ∃ k : Nat, k ≤ 2 ∧ i = .int .i64 ((n + k : Nat) : Int) ∧ wr = spW w (l ++ marks m k)) (fun i _ => n + 2 - (intOf i).toNat)
  case atStart => exact ⟨0, by omega, rfl, rfl⟩
  case round =>
    obtain ⟨k, hk, rfl, rfl⟩ := hrel
    unfold spW
    by_cases hlt : k < 2
    · have hg : (rowB (l ++ marks m k))[n + k]? = some (.int .u8 ((l ++ marks m k).getD (n + k) 0)) := rowB_get _ _ (by rw [List.length_append, HN.out, marks_length]; omega)
      have HST : Hid ((rowB (l ++ marks m k)).setIfInBounds (n + k) (.int .u8 m) = rowB (l ++ marks m (k + 1))) := Lib.hid (by rw [rowB_set, marks_set l n m k HN.out hlt])
      generalize (l ++ marks m k).getD (n + k) 0 = old at *
      generalize rowB (l ++ marks m k) = C at *
      go_wp2
      exact ⟨⟨k + 1, by omega, by go_num, by rw [HST.out]⟩, by simp [intOf]; omega⟩
    · obtain rfl : k = 2 := by omega
      go_wp2
      go_ret
      exact ⟨_, rfl, Nat.le_refl _, heap_alloc_new _ _, Gr.alloc (Gr.refl _) _ _⟩
set_option maxHeartbeats 400000 in
theorem spare_none (oa : Option Addr) (c : Nat) (m : Int) (w : World) :
    Calls Tryd.prog 9 #[.slice oa 0 c, .int .u8 m] w fun e w' => ∃ g, e = .returned (.slice (some ⟨g, 0, none⟩) 0 2) ∧ w.heap.size ≤ g ∧ Blk w' g [m, m] ∧ Gr w w' := by
  have hmk : ∀ w, (Instr.makeSlice 22 (.int .i64 0) (.int .i64 2)).run Tryd.prog w = .ok (.slice (some ⟨w.heap.size, 0, none⟩) 0 2) (w.alloc (.cells (rowB (List.replicate 2 0)) 5)) := fun w => make22 0 2 (by omega) (by omega) w
  have hsz : (Tryd.prog.info? 5).map (·.size) = some 1 := by kernel_rfl
  have SZ := Lib.hid hsz
  clear hsz
  have HR : Hid (rowB (List.replicate 2 0) = rowB (marks m 0)) := Lib.hid rfl
  generalize rowB (List.replicate 2 0) = cur at *
  go_enter Tryd.func9, Tryd.ntmps9
  go_wp2_with (refine wpList_copy_nothing rfl _ _ 22 22 rfl 5 Tryd.underlying22 SZ.out _ _ _ _ _ _ rfl rfl rfl ?_)
  rw [HR.out]
  clear HR SZ hmk
  go_loopw [7] (fun i wr => ∃ k : Nat, k ≤ 2 ∧ i = .int .i64 (k : Int) ∧ wr = spW w (marks m k)) (fun i _ => 2 - (intOf i).toNat)
  case atStart => exact ⟨0, by omega, rfl, rfl⟩
  case round =>
    obtain ⟨k, hk, rfl, rfl⟩ := hrel
    unfold spW
    by_cases hlt : k < 2
    · have hg : (rowB (marks m k))[k]? = some (.int .u8 ((marks m k).getD k 0)) := rowB_get _ _ (by rw [marks_length]; omega)
      have HST : Hid ((rowB (marks m k)).setIfInBounds k (.int .u8 m) = rowB (marks m (k + 1))) := Lib.hid (by rw [rowB_set]; have := marks_set [] 0 m k rfl hlt; simp at this; rw [this])
      generalize (marks m k).getD k 0 = old at *
      generalize rowB (marks m k) = C at *
      go_wp2
      exact ⟨⟨k + 1, by omega, by go_num, by rw [HST.out]⟩, by simp [intOf]; omega⟩
    · obtain rfl : k = 2 := by omega
      go_wp2
      go_ret
      exact ⟨_, rfl, Nat.le_refl _, heap_alloc_new _ _, Gr.alloc (Gr.refl _) _ _⟩
theorem spare_any (v : Value) (l : List Int) (m : Int) (w : World) (h : Bs w v l) (hc : l.length ≤ 281474976710000) :
    Calls Tryd.prog 9 #[v, .int .u8 m] w fun e w' => ∃ g, e = .returned (.slice (some ⟨g, 0, none⟩) l.length (l.length + 2)) ∧ w.heap.size ≤ g ∧ Blk w' g (l ++ [m, m]) ∧ Gr w w' := by
  by_cases h0 : 0 < l.length
  · obtain ⟨a, c, rfl, _, _, h3⟩ := Bs.at h h0
    exact spare_core a l.length c l m w rfl hc h0 h3
  · obtain rfl : l = [] := List.eq_nil_of_length_eq_zero (by omega)
    obtain ⟨_, oa, c, rfl, _, _, _, _⟩ := h
    exact spare_none oa c m w

theorem Blk.bs_pre {w : World} {g : Nat} {l r : List Int} (h : Blk w g (l ++ r)) (hb : ∀ x ∈ l, Byt x) (hn : (l ++ r).length ≤ 9223372036854775807) : Bs w (.slice (some ⟨g, 0, none⟩) l.length (l ++ r).length) l :=
  Blk.bs h l _ (by simp) (by simp) hn hb (fun i hi => by
    rw [List.getD_eq_getElem?_getD, List.getD_eq_getElem?_getD, List.getElem?_append_left hi])
set_option maxHeartbeats 400000 in
theorem kept_true (g : Nat) (l : List Int) (vw : Value) (m : Int) (w : World) (h : Blk w g (l ++ [m, m])) (hb : ∀ x ∈ l, Byt x) (hw : Bs w vw l) (hn : l.length ≤ 281474976710000) :
    Calls Tryd.prog 14 #[.slice (some ⟨g, 0, none⟩) l.length (l.length + 2), vw, .int .u8 m] w fun e w' => e = .returned (.bool true) ∧ Gr w w' := by
  have hB : Bs w (.slice (some ⟨g, 0, none⟩) l.length (l.length + 2)) l := by
    have := Blk.bs_pre h hb (by simp; omega)
    simpa using this
  have HS : Hid (Calls Tryd.prog 11 #[.slice (some ⟨g, 0, none⟩) l.length (l.length + 2), vw] w fun e w' => e = .returned (.bool true) ∧ Gr w w') := Lib.hid ((same_any _ _ l l w hB hw).mono fun _ _ ⟨he, hg⟩ => ⟨by rw [he]; simp, hg⟩)
  have HM : Hid (∀ k, k < 2 → (l ++ [m, m]).getD (l.length + k) 0 = m ∧ l.length + k < (l ++ [m, m]).length) := Lib.hid (fun k hk => by
    rw [List.getD_eq_getElem?_getD, List.getElem?_append_right (by omega), Nat.add_sub_cancel_left]
    have : k = 0 ∨ k = 1 := by omega
    rcases this with rfl | rfl <;> simp)
  have H := Lib.hid h
  clear h hB hb hw
  generalize l ++ [m, m] = L at *
  generalize l.length = n at *
  go_enter Tryd.func14, Tryd.ntmps14
  go_wp2_with (go_at_call 11; refine HS.out.mono ?_; rintro e w' ⟨rfl, hg⟩; have G := Lib.hid hg; clear hg)
  go_loop [8] (fun i => ∃ k : Nat, k ≤ 2 ∧ i = .int .i64 ((n + k : Nat) : Int)) (fun i => n + 2 - (intOf i).toNat)
  case atStart => exact ⟨0, by omega, rfl⟩
  case round =>
    obtain ⟨k, hk, rfl⟩ := hrel
    by_cases hlt : k < 2
    · have hc : w'.cell? ⟨g, n + k, none⟩ = some (.int .u8 m) := by
        rw [Blk.cell (Blk.grown H.out G.out) (n + k) (HM.out k hlt).2, (HM.out k hlt).1]
      go_wp2
      exact ⟨⟨k + 1, by omega, by go_num⟩, by simp [intOf]; omega⟩
    · obtain rfl : k = 2 := by omega
      go_wp2
      go_ret
      exact ⟨rfl, G.out⟩

set_option maxHeartbeats 400000 in
theorem cut_any (v : Value) (l : List Int) (n : Nat) (w : World) (h : Bs w v l) (hn : n ≤ 1000000) :
    Calls Tryd.prog 19 #[v, .int .i64 n] w fun e w' => ∃ v', e = .returned v' ∧ Bs w' v' (l.take n) ∧ w = w' := by
  obtain ⟨hb, oa, c, rfl, h1, h2, h3, h4⟩ := h
  have hlen : (l.take n).length = min l.length n := by rw [List.length_take, Nat.min_comm]
  have HR : Hid (Bs w (.slice oa (min l.length n) c) (l.take n)) := Lib.hid ⟨fun x hx => hb x (List.mem_of_mem_take hx), oa, c, by rw [hlen], by rw [hlen]; omega, h2, h3, fun a ha i hi => by
    rw [hlen] at hi
    rw [h4 a ha i (by omega), List.getD_eq_getElem?_getD, List.getD_eq_getElem?_getD, List.getElem?_take_of_lt (by omega)]⟩
  clear hlen h4 hb
  generalize l.take n = t at *
  generalize l.length = m at *
  by_cases hm : m ≤ n
  · go_enter Tryd.func19, Tryd.ntmps19
    go_wp2
    go_ret
    exact ⟨_, rfl, by rw [Nat.min_eq_left hm] at HR; exact HR.out, rfl⟩
  · go_enter Tryd.func19, Tryd.ntmps19
    go_wp2
    go_ret
    exact ⟨_, rfl, by rw [Nat.min_eq_right (by omega)] at HR; exact HR.out, rfl⟩
end Go.Proofs.YtpckdjapkngpgaaDoor
