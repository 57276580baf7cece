/-
  Rows out of bytes: how wide; columns.
-/
import Derived.Test.YtpckdjapkngpgaaDoorMk
import Derived.Test.YtpckdjapkngpgaaDoorEv
import Derived.Test.YtpckdjapkngpgaaDoorCs
import Derived.Test.YtpckdjapkngpgaaDoorMx
import Derived.Test.YtpckdjapkngpgaaDoorAq
namespace Go.Proofs.YtpckdjapkngpgaaDoor
open Go.RowKit

/-- Behind an append of one row to rows under way. -/
theorem Rws.more {base n : Nat} {w0 wo wr w4 : World} {v v' u : Value} {us : List Value} {L : List (List Int)} {l : List Int} (hL : L.length = n) (ho : wo.ownsRow base 22 1 v n us)
    (hr : ∀ i, i < n → Bs wo (us.getD i undef) (L.getD i []) ∧ Rb base wo (us.getD i undef)) (hb : Bs wr u l) (hrb : Rb base wr u) (hg : Gr wo wr) (hown : w4.ownsRow base 22 1 v' (n + 1) (us ++ [u]))
    (hgrow : (wr.alloc (.cells #[u] 22)).grownBy w4 v.ownBlock) (h0 : Gr w0 wo) (hw : w0.heap.size ≤ base) : Rws base w4 v' (L ++ [l]) ∧ Gr w0 w4 := by
  subst hL
  have hg1 : Gr wo (wr.alloc (.cells #[u] 22)) := Gr.alloc hg _ _
  have hg2 : Gr wr (wr.alloc (.cells #[u] 22)) := Gr.alloc (Gr.refl _) _ _
  have hnb := Rb.gr hb hrb hg2
  exact ⟨Rws.append ((ho.of_gr hg).alloc _) (fun i hi => Rb.gr (hr i hi).1 (hr i hi).2 hg1) hnb.1 hnb.2 hown hgrow,
    Gr.append (Gr.trans h0 hg1) hgrow fun k hk => Nat.le_trans hw (ownsRow_base ho k hk)⟩
theorem infoB : (Tryd.prog.info? 5).map (fun i => (i.zero, i.size, i.bytes)) = some (some (.int .u8 0), 1, 1) := by kernel_rfl
theorem Bs.byt' {w : World} {v : Value} {l : List Int} (h : Bs w v l) : ∀ x ∈ l, Byt x := h.1
theorem evenL_length (n : Nat) (l : List Int) : (evenL n l).length = evenN n l := chunk_length _ _ _
theorem evenN_le (n : Nat) (l : List Int) : evenN n l ≤ 14 := Nat.min_le_left _ _
theorem even_wide {n : Nat} {l : List Int} (hb : ∀ x ∈ l, Byt x) (h1 : 1 ≤ n) : Wide n (evenL n l) := by
  intro r hr
  unfold evenL chunk at hr
  obtain ⟨i, hi, rfl⟩ := List.mem_map.1 hr
  have h2 : i < l.length / n := Nat.lt_of_lt_of_le (List.mem_range.1 hi) (Nat.min_le_right _ _)
  have h3 : (i + 1) * n ≤ l.length := (Nat.le_div_iff_mul_le (by omega)).1 (by omega)
  have h4 : n * i + n ≤ l.length := by rw [Nat.mul_comm, ← Nat.succ_mul]; exact h3
  refine ⟨by rw [List.length_take, List.length_drop]; omega, fun x hx => hb x (List.mem_of_mem_drop (List.mem_of_mem_take hx))⟩
/-- The places j of all rows. -/
def colZ (A : List (List Int)) (j : Nat) : List Int := A.map fun r => r.getD j 0
def trZ (n : Nat) (A : List (List Int)) : List (List Int) := (List.range n).map (colZ A)
theorem colZ_length (A : List (List Int)) (j : Nat) : (colZ A j).length = A.length := by simp [colZ]
theorem trZ_length (n : Nat) (A : List (List Int)) : (trZ n A).length = n := by simp [trZ]
theorem colZ_getD (A : List (List Int)) (j i : Nat) : (colZ A j).getD i 0 = (A.getD i []).getD j 0 := by
  unfold colZ
  rw [List.getD_eq_getElem?_getD, List.getElem?_map]
  by_cases h : i < A.length
  · rw [List.getElem?_eq_getElem h, List.getD_eq_getElem?_getD (l := A), List.getElem?_eq_getElem h]
    rfl
  · rw [List.getElem?_eq_none (by omega), List.getD_eq_getElem?_getD (l := A), List.getElem?_eq_none (by omega)]
    rfl
theorem colZ_byt {k : Nat} {A : List (List Int)} (h : Wide k A) (j : Nat) : ∀ x ∈ colZ A j, Byt x := by
  intro x hx
  obtain ⟨r, hr, rfl⟩ := List.mem_map.1 hx
  exact getD_byt (h r hr).2 j
theorem trZ_succ (n : Nat) (A : List (List Int)) : trZ (n + 1) A = trZ n A ++ [colZ A n] := by simp [trZ, List.range_succ]
theorem colZ_succ (A : List (List Int)) (j i : Nat) (hi : i < A.length) : colZ (A.take (i + 1)) j = colZ (A.take i) j ++ [(A.getD i []).getD j 0] := by
  unfold colZ
  rw [List.take_add_one, List.getElem?_eq_getElem hi, List.getD_eq_getElem?_getD (l := A), List.getElem?_eq_getElem hi, List.map_append]
  rfl
theorem trZ_wide {k : Nat} {A : List (List Int)} (h : Wide k A) (n : Nat) : Wide A.length (trZ n A) := by
  intro r hr
  obtain ⟨j, _, rfl⟩ := List.mem_map.1 hr
  exact ⟨colZ_length A j, colZ_byt h j⟩
theorem trZ_vec (n : Nat) (A : List (List Int)) : (trZ n A).map vec = L.tr n (A.map vec) := by
  unfold trZ L.tr
  rw [List.map_map]
  apply List.map_congr_left
  intro j _
  funext i
  show fb ((colZ A j).getD i 0) = L.rowAt (A.map vec) i j
  rw [colZ_getD, at_vec]
theorem trZ_rk {k : Nat} {A : List (List Int)} (h : Wide k A) : rkL (trZ k A) = rkL A := by
  unfold rkL
  rw [trZ_vec]
  exact L.rk_tr h.supp
theorem Bss.take {w : World} {oa : Option Addr} {m c : Nat} {X : List (List Int)} (h : Bss w (.slice oa m c) X) (hm : X.length = m) (n : Nat) (hn : n ≤ m) : Bss w (.slice oa n c) (X.take n) := by
  obtain ⟨oa', c', he, h2, h3, h4, h5⟩ := h
  obtain ⟨rfl, _, rfl⟩ : oa = oa' ∧ m = X.length ∧ c = c' := by simpa using he
  have hl : (X.take n).length = n := by rw [List.length_take]; omega
  refine ⟨oa, c, by rw [hl], by rw [hl]; omega, h3, h4, fun a ha i hi => ?_⟩
  rw [hl] at hi
  obtain ⟨u, h6, h7⟩ := h5 a ha i (by omega)
  refine ⟨u, h6, ?_⟩
  rw [List.getD_eq_getElem?_getD, List.getElem?_take_of_lt hi, ← List.getD_eq_getElem?_getD]
  exact h7
theorem sol_low {A B S : List (List Int)} {e : Int} (h0 : A ≠ []) (hr : rkL A < wd A) (h : SolSays A B e S) : e = 9 ∧ S = [] := by
  rcases h with ⟨q, _⟩ | ⟨_, _, h1, h2⟩ | ⟨_, h1, _⟩ | ⟨_, h1, _⟩
  · exact absurd q h0
  · exact ⟨h1, h2⟩
  · omega
  · omega
theorem sol_back {m : Nat} {A X B S : List (List Int)} {e : Int} (hA : Wide (wd A) A) (h0 : A ≠ []) (hX : Wide m X) (hXl : X.length = wd A) (hB : IsMul m A X B) (hwb : wd B = m) (hr : rkL A = wd A) (h : SolSays A B e S) : e = 0 ∧ S = X := by
  rcases h with ⟨q, _⟩ | ⟨_, h1, _⟩ | ⟨_, _, h1, h2, h3, h4⟩ | ⟨_, _, _, _, h2⟩
  · exact absurd q h0
  · omega
  · refine ⟨h1, map_vec_inj h4 (by rw [hwb]; exact hX) (L.mul_unique hA.supp hr (by simp [h2]) (by simp [hXl]) ?_)⟩
    rw [← h3.2, ← hB.2]
  · exact absurd hB.2.symm (h2 _ (by simp [hXl]) (by rw [hwb]; exact hX.supp))
theorem sol_any {A C S : List (List Int)} {e : Int} (hA : Wide (wd A) A) (h0 : A ≠ []) (hC : Wide (wd C) C) (hCl : C.length = A.length) (hr : rkL A = wd A) (h : SolSays A C e S) :
    (e = 0 ∧ S.length = wd A ∧ IsMul (wd C) A S C ∧ Wide (wd C) S) ∨ (e = 10 ∧ A.length ≠ wd A) := by
  rcases h with ⟨q, _⟩ | ⟨_, h1, _⟩ | ⟨_, _, h1, h2, h3, h4⟩ | ⟨_, _, h1, _, h2⟩
  · exact absurd q h0
  · omega
  · exact .inl ⟨h1, h2, h3, h4⟩
  · refine .inr ⟨h1, fun e => ?_⟩
    obtain ⟨M, m1, m2, m3⟩ := L.square hA.supp (by simp [e]) hr (C := C.map vec) (by simp [hCl, e]) hC.supp
    exact h2 M m1 m2 m3
theorem rkL_nil : rkL [] = 0 := L.rk_eq (R := []) ⟨L.Rref.nil, L.Same.refl _⟩
theorem rkL_le_cols {k : Nat} {A : List (List Int)} (h : Wide k A) : rkL A ≤ k := L.rk_le_cols h.supp
theorem rkL_le_rows {k : Nat} {A : List (List Int)} (h : Wide k A) : rkL A ≤ A.length := by
  have := L.rk_le_len h.supp
  rwa [List.length_map] at this
theorem IsMul.rk {k m : Nat} {A X o : List (List Int)} (h : IsMul m A X o) (hA : Wide k A) (hX : Wide m X) : rkL o ≤ rkL A ∧ rkL o ≤ rkL X := by
  unfold rkL
  rw [h.2]
  exact ⟨L.rk_mul_left hA.supp hX.supp, L.rk_mul_right hX.supp⟩
end Go.Proofs.YtpckdjapkngpgaaDoor
