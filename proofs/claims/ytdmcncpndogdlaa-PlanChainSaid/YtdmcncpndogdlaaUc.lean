/-
  slices.Repeat of one true: as many as are asked.
-/
import Derived.Test.YtdmcncpndogdlaaUb
import Derived.Laws.CopyOwn
namespace Go.Proofs.Ytdmcncpndogdlaa
open Go.RowKit

def mulHi (N : Int) : Int := IntKind.u64.wrap
              (IntKind.u64.wrap
                  (IntKind.u64.wrap
                      (IntKind.u64.wrap
                          (bits BinOp.and IntKind.u64 1 4294967295 * bits BinOp.and IntKind.u64 N 4294967295) /
                        4294967296) /
                    4294967296) +
                IntKind.u64.wrap
                    (bits BinOp.and IntKind.u64
                        (IntKind.u64.wrap
                          (IntKind.u64.wrap
                              (bits BinOp.and IntKind.u64 1 4294967295 * bits BinOp.and IntKind.u64 N 4294967295) /
                            4294967296))
                        4294967295 +
                      IntKind.u64.wrap (bits BinOp.and IntKind.u64 1 4294967295 * (N / 4294967296))) /
                  4294967296)
theorem mulHi_all : ∀ n : Fin 65, mulHi (n.val : Int) = 0 := by decide +kernel
set_option maxRecDepth 100000 in
set_option maxHeartbeats 1600000 in
theorem mul64_one (N : Nat) (w : World) (hN : N ≤ 64) :
    Calls Try.prog 31 #[.int .u64 1, .int .u64 (N : Int)] w fun e w' => e = .returned (.tuple #[.int .u64 0, .int .u64 (N : Int)]) ∧ w' = w := by
  go_enter Try.func31, Try.ntmps31
  go_wp2_with fail
  go_ret2
  refine ⟨?_, rfl⟩
  have h : ∀ n : Nat, n ≤ 64 → mulHi (n : Int) = 0 := by
    intro n hn
    have := mulHi_all ⟨n, by omega⟩
    exact this
  have h1 := h N hN
  unfold mulHi at h1
  rw [h1]
  rfl
set_option maxRecDepth 100000 in
set_option maxHeartbeats 1600000 in
theorem mul_one (N : Nat) (w : World) (hN : N ≤ 64) :
    Calls Try.prog 28 #[.int .u64 1, .int .u64 (N : Int)] w fun e w' => e = .returned (.tuple #[.int .u64 0, .int .u64 (N : Int)]) ∧ w' = w := by
  go_enter Try.func28, Try.ntmps28
  go_wp2_with fail
  refine (mul64_one N _ hN).mono ?_
  rintro e w' ⟨rfl, rfl⟩
  go_wp2_with fail
  go_ret2
  exact ⟨rfl, rfl⟩
theorem infoBo : (Try.prog.info? 4).map (·.size) = some 1 := by kernel_rfl
/-- The first n of N trues. -/
def trueL (n N : Nat) : List Bool := List.replicate n true ++ List.replicate (N - n) false
theorem trueL_length {n N : Nat} (h : n ≤ N) : (trueL n N).length = N := by
  simp [trueL]
  omega
theorem trueL_zero (N : Nat) : trueL 0 N = List.replicate N false := by simp [trueL]
theorem trueL_all (N : Nat) : trueL N N = List.replicate N true := by simp [trueL]
theorem trueL_get {n N j : Nat} (h : j < n) : (trueL n N).getD j false = true := by
  simp [trueL, List.getD_eq_getElem?_getD, List.getElem?_append_left, h]
theorem trueL_splice {n N k : Nat} (h : n + k ≤ N) : splice ((trueL n N).map Value.bool) n (List.replicate k (Value.bool true)) = (trueL (n + k) N).map Value.bool := by
  have e1 : (trueL n N).map Value.bool = List.replicate n (Value.bool true) ++ (List.replicate k (Value.bool false) ++ List.replicate (N - (n + k)) (Value.bool false)) := by
    unfold trueL
    rw [List.map_append, List.map_replicate, List.map_replicate, List.replicate_append_replicate, show k + (N - (n + k)) = N - n from by omega]
  unfold splice
  rw [e1, List.take_left' (by simp), ← List.append_assoc, ← List.append_assoc, List.drop_left' (by simp), List.replicate_append_replicate]
  unfold trueL
  rw [List.map_append, List.map_replicate, List.map_replicate]
open Go.RowKit in
set_option maxHeartbeats 1600000 in
theorem wpList_copy_true {w w0 : World} {ops : Array Oper} {rest : List Oper} {o : Oper} {a : Act} {Q : Exit → Act → World → Prop} (hgd : o.guard = none) (d s : Operand)
    (ho : o.op = .call { callee := .builtin .copy, args := #[d, s], argTypes := #[48, 48] }) (g n N k : Nat) (hg : Blt w g (trueL n N)) (dp : Option Addr) (dLen dCap : Nat) (hd : a.eval d = .slice dp dLen dCap) (hdp : 0 < k → dp = some ⟨g, n, none⟩) (hdl : dLen = N - n) (hn : n ≤ N)
    (ad : Addr) (sLen sCap : Nat) (hs : a.eval s = .slice (some ad) sLen sCap) (hsrc : ∀ j, j < sLen → w.cell? (ad.add j) = some (.bool true)) (hk : k = Nat.min sLen dLen) (h0 : Gr w0 w) (hge : w0.heap.size ≤ g)
    (h : ∀ w', Blt w' g (trueL (n + k) N) → Gr w0 w' → wpList Try.prog ops Q rest (a.put o.dst (.int .i64 (k : Int))) w') : wpList Try.prog ops Q (o :: rest) a w := by
  have hmin : k ≤ sLen := by rw [hk]; exact Nat.min_le_left sLen dLen
  have hmin2 : k ≤ dLen := by rw [hk]; exact Nat.min_le_right sLen dLen
  refine wpList_copy_splice hgd d s 48 48 ho 4 Try.underlying48 infoBo dp (some ad) dLen dCap sLen sCap hd hs g n ((trueL n N).map Value.bool) 4 hg (List.replicate k (.bool true)) (by rw [List.length_replicate, hk]) ?_ ?_ ?_ w0.heap.size w0 h0.below hge ?_
  · intro hp
    rw [List.length_replicate] at hp
    refine ⟨hdp hp, ad, rfl, fun j v hv => ?_⟩
    have hj := (List.getElem?_eq_some_iff.1 hv).1
    rw [List.length_replicate] at hj
    rw [hsrc j (by omega)]
    rw [List.getElem?_replicate, if_pos hj] at hv
    exact hv
  · rw [List.length_replicate, List.length_map, trueL_length hn]
    omega
  · intro v hv
    rw [(List.mem_replicate.1 hv).2]
    rfl
  · intro w' hw' hb
    have e : n + k ≤ N := by omega
    have hw' := hw'.out
    rw [trueL_splice e] at hw'
    have := h w' hw' (Gr.of hb)
    rw [List.length_replicate]
    exact this
open Go.RowKit in
set_option maxHeartbeats 1600000 in
theorem step_copy_true {w w0 : World} {ops : Array Oper} {o : Oper} {a : Act} {K : Act → World → Prop} {Q : Exit → Act → World → Prop} {E : Prop} (hgd : o.guard = none) (d s : Operand)
    (ho : o.op = .call { callee := .builtin .copy, args := #[d, s], argTypes := #[48, 48] }) (g n N k : Nat) (hg : Blt w g (trueL n N)) (dp : Option Addr) (dLen dCap : Nat) (hd : a.eval d = .slice dp dLen dCap) (hdp : 0 < k → dp = some ⟨g, n, none⟩) (hdl : dLen = N - n) (hn : n ≤ N)
    (ad : Addr) (sLen sCap : Nat) (hs : a.eval s = .slice (some ad) sLen sCap) (hsrc : ∀ j, j < sLen → w.cell? (ad.add j) = some (.bool true)) (hk : k = Nat.min sLen dLen) (h0 : Gr w0 w) (hge : w0.heap.size ≤ g)
    (h : ∀ w', Blt w' g (trueL (n + k) N) → Gr w0 w' → K (a.put o.dst (.int .i64 (k : Int))) w') : if Region.wanted o (yielded ops a.tmps) = true then Oper.wp Try.prog o a w K Q else E := by
  have hmin : k ≤ sLen := by rw [hk]; exact Nat.min_le_left sLen dLen
  have hmin2 : k ≤ dLen := by rw [hk]; exact Nat.min_le_right sLen dLen
  refine step_copy_splice hgd d s 48 48 ho 4 Try.underlying48 infoBo dp (some ad) dLen dCap sLen sCap hd hs g n ((trueL n N).map Value.bool) 4 hg (List.replicate k (.bool true)) (by rw [List.length_replicate, hk]) ?_ ?_ ?_ w0.heap.size w0 h0.below hge ?_
  · intro hp
    rw [List.length_replicate] at hp
    refine ⟨hdp hp, ad, rfl, fun j v hv => ?_⟩
    have hj := (List.getElem?_eq_some_iff.1 hv).1
    rw [List.length_replicate] at hj
    rw [hsrc j (by omega)]
    rw [List.getElem?_replicate, if_pos hj] at hv
    exact hv
  · rw [List.length_replicate, List.length_map, trueL_length hn]
    omega
  · intro v hv
    rw [(List.mem_replicate.1 hv).2]
    rfl
  · intro w' hw' hb
    have e : n + k ≤ N := by omega
    have hw' := hw'.out
    rw [trueL_splice e] at hw'
    have := h w' hw' (Gr.of hb)
    rw [List.length_replicate]
    exact this
set_option maxRecDepth 100000 in
set_option maxHeartbeats 1600000 in
theorem repeat_any (N : Nat) (g : Nat) (w : World) (hN : N ≤ 64) (hg : w.cell? ⟨g, 0, none⟩ = some (.bool true)) :
    Calls Try.prog 19 #[.slice (some ⟨g, 0, none⟩) 1 1, .int .i64 (N : Int)] w fun e w' => ∃ g', e = .returned (.slice (some ⟨g', 0, none⟩) N N) ∧ Blt w' g' (List.replicate N true) ∧ w.heap.size ≤ g' ∧ Gr w w' := by
  have hmk := makeT N (by omega)
  have hnn : ¬ (N : Int) < 0 := by omega
  have hw1 : IntKind.u64.wrap (N : Int) = (N : Int) := by
    have : ∀ n : Fin 65, IntKind.u64.wrap (n.val : Int) = (n.val : Int) := by decide +kernel
    exact this ⟨N, by omega⟩
  go_enter Try.func19, Try.ntmps19
  go_wp2_with fail
  refine (mul_one N _ hN).mono ?_
  rintro e w' ⟨rfl, rfl⟩
  have hsz : w'.heap.size = w'.heap.size := rfl
  obtain ⟨g', hg'⟩ : ∃ x, w'.heap.size = x := ⟨_, rfl⟩
  have G1 : Hid (Gr w' (w'.alloc (.cells (rowT (List.replicate N false)) 4))) := Lib.hid (Gr.alloc (Gr.refl _) _ _)
  have B1 : Hid (Blt (w'.alloc (.cells (rowT (List.replicate N false)) 4)) g' (trueL 0 N)) := Lib.hid (by rw [trueL_zero, ← hg']; exact heap_alloc_new _ _)
  have HG := Lib.hid (cell_gr G1.out hg)
  have HGE := Lib.hid hg'
  go_upto_region 7 with fail
  clear hmk hsz hg hg'
  generalize w'.alloc (.cells (rowT (List.replicate N false)) 4) = w1 at *
  obtain ⟨k, hk⟩ : ∃ k, k = Nat.min 1 N := ⟨_, rfl⟩
  have hkN : k ≤ N := by rw [hk]; exact Nat.min_le_right _ _
  have hk0 : 0 < N → 0 < k := by intro h; rw [hk]; exact Nat.lt_min.2 ⟨by omega, h⟩
  have HK0 := Lib.hid hk0
  clear hk0
  have HK := Lib.hid hk
  clear hk
  have t1 : ∀ j, j < 1 → w1.cell? ((⟨g, 0, none⟩ : Addr).add j) = some (.bool true) := fun j hj => by
    obtain rfl : j = 0 := by omega
    exact HG.out
  have T1 := Lib.hid t1
  have HGL : Hid (w'.heap.size ≤ g') := Lib.hid (by rw [HGE.out]; exact Nat.le_refl _)
  clear t1
  go_wp2_with (refine wpList_copy_true (w0 := w') rfl _ _ rfl g' 0 N k B1.out (some ⟨g', 0, none⟩) N N rfl (fun _ => rfl) (by omega) (by omega) ⟨g, 0, none⟩ 1 1 rfl T1.out HK.out G1.out HGL.out ?_; intro w2 h1 h2; have B2 := Lib.hid h1; have G2 := Lib.hid h2; clear h1 h2)
  go_loopw [8] (fun nv W => ∃ n : Nat, n ≤ N ∧ (0 < N → 0 < n) ∧ nv = .int .i64 n ∧ Blt W g' (trueL n N) ∧ Gr w' W) (fun nv _ => N - (intOf nv).toNat)
  case atStart => exact ⟨k, hkN, HK0.out, rfl, by have := B2.out; rwa [Nat.zero_add] at this, G2.out⟩
  case round =>
    clear B2 G2
    obtain ⟨wo, hwo⟩ : ∃ x, x = wr := ⟨_, rfl⟩
    subst hwo
    obtain ⟨n, hn, hn0, rfl, hb, hgr⟩ := hrel
    have B3 := Lib.hid hb
    have G3 := Lib.hid hgr
    clear hb hgr
    by_cases hlt : n < N
    · have hn1 := hn0 (by omega)
      clear hn0
      obtain ⟨y, hy⟩ : ∃ y, N - n = y := ⟨_, rfl⟩
      obtain ⟨k9, hk9⟩ : ∃ k, k = Nat.min n y := ⟨_, rfl⟩
      have hky : 0 < k9 := by rw [hk9]; exact Nat.lt_min.2 ⟨hn1, by omega⟩
      have hkn : k9 ≤ n := by rw [hk9]; exact Nat.min_le_left _ _
      have hkm : k9 ≤ y := by rw [hk9]; exact Nat.min_le_right _ _
      have hnk : IntKind.i64.wrap ((n : Int) + (k9 : Int)) = (n : Int) + (k9 : Int) := IntWalk.i64_in _ (by omega)
      have hne : ¬ N = n := by omega
      have hif : (if N = n then some (⟨g', 0, none⟩ : Addr) else some ⟨g', n, none⟩) = some ⟨g', n, none⟩ := by rw [if_neg hne]
      have TT : Hid (∀ W, Gr wo W → ∀ j, j < n → W.cell? ((⟨g', 0, none⟩ : Addr).add j) = some (.bool true)) := Lib.hid fun W hW j hj => by
        rw [Addr.add_mid, Nat.zero_add, (B3.out.grown hW).cell j (by rw [trueL_length hn]; omega), trueL_get hj]
      have HK9 := Lib.hid hk9
      have HYN : Hid (y = N - n) := Lib.hid hy.symm
      clear hk9
      go_upto_region 9 with fail
      have B9 : Hid (Blt wo.drew g' (trueL n N)) := Lib.hid B3.out
      have T9 := Lib.hid (TT.out wo.drew (Gr.drew (Gr.refl _)))
      have G9 : Hid (Gr w' wo.drew) := Lib.hid (Gr.drew G3.out)
      have HD0 : Hid (0 < k9 → (some ⟨g', n, none⟩ : Option Addr) = some ⟨g', n, none⟩) := Lib.hid fun _ => rfl
      go_region_law (refine step_copy_true (w0 := w') rfl (.tmp 41) (.tmp 44) rfl g' n N k9 B9.out (some ⟨g', n, none⟩) y y (by simp [Act.eval, Act.put]) HD0.out HYN.out hn ⟨g', 0, none⟩ n N (by simp [Act.eval, Act.put]) T9.out HK9.out G9.out HGL.out ?_; intro w2 h1 h2; have B4 := Lib.hid h1; have G4 := Lib.hid h2; clear h1 h2)
      go_wp2_with fail
      exact ⟨⟨n + k9, by omega, fun _ => by omega, by first | rfl | rw [Int.natCast_add], B4.out, G4.out⟩, by simp [intOf]; omega⟩
    · obtain rfl : n = N := by omega
      clear hn0
      go_wp2_with fail
      go_ret
      exact ⟨g', rfl, by have := B3.out; rwa [trueL_all] at this, by rw [HGE.out]; exact Nat.le_refl _, G3.out⟩
end Go.Proofs.Ytdmcncpndogdlaa
