/-
  Texts laid behind one another: Ne.
-/
import Derived.Test.YtbbglejdfbkjlaaGreatMpah
namespace Go.Proofs.YtbbglejdfbkjlaaGreat
open Go.RowKit
theorem wpList_append_rowA {w : World} {ops : Array Oper} {rest : List Oper} {o : Oper} {a : Act} {Q : Exit → Act → World → Prop} (hgd : o.guard = none) (s x : Operand)
  (ho : o.op = .call { callee := .builtin .append, args := #[s, x], argTypes := #[65, 65] }) (base : Nat) (v : Value) (L : List (List Int)) (hs : a.eval s = v) (hR : Rws base w v L)
  (g : Nat) (u : Value) (l : List Int) (hx : a.eval x = .slice (some ⟨g, 0, none⟩) 1 1) (hc : w.cell? ⟨g, 0, none⟩ = some u) (hb : Bs w u l) (hrb : Rb base w u) (hm : L.length ≤ 100000) (hbase : base ≤ w.heap.size)
  (h : ∀ v' w', Rws base w' v' (L ++ [l]) → (∀ w0, Gr w0 w → w0.heap.size ≤ base → Gr w0 w') → Ke 25 w w' → (∀ v2 L2, Rws base w v2 L2 → Apart2 v v2 → Rws base w' v2 L2 ∧ Apart2 v' v2) → wpList Tryz.prog ops Q rest (a.put o.dst v') w') : wpList Tryz.prog ops Q (o :: rest) a w := by
 obtain ⟨i0, hi0, hz0, hz1, hz2⟩ := info_parts info22
 obtain ⟨us, hown, hr⟩ := hR
 obtain ⟨ou, cu, hf⟩ := hb.form
 refine wpList_append_lies w hgd s x 65 ho base 25 i0 _ 1 24 Tryz.underlying65 hi0 hz0 hz1 hz2 rfl (by omega) v L.length us hs hown ⟨g, 0, none⟩ 1 1 [u] hx rfl (fun j y hj => by
   cases j with
   | zero =>
     obtain rfl : u = y := by simpa using hj
     exact hc
   | succ j => simp at hj) (by intro y hy; obtain rfl : y = u := by simpa using hy
                               rw [hf]; rfl) (by omega) (by unfold maxLen; omega) (by omega) hbase _ rfl ?_
 intro gg cap w' h1 h2 h3 _
 refine h _ w' (Rws.append hown hr hb hrb h1 h2) (fun w0 hg hb => gr_by_own hg h2 hown hb) (Ke.of_own hown h2) fun v2 L2 hR2 hap => ⟨hR2.through h2 hap.ne (ownsRow_not_bytes hown), fun q e1 e2 => ?_⟩
 have e1' : q = gg := by simpa [Value.ownBlock] using e1.symm
 subst e1'
 rcases h3 with h3 | h3
 ·exact hap q h3 e2
 ·obtain ⟨us2, ho2, _⟩ := hR2
  have := ownsRow_lt ho2 q e2
  omega
theorem sum_back {x y : List Int} (hl : x.length = y.length) : (lst y.length fun i => addZ (y.getD i 0) (x.getD i 0)) = sumL x y := by
 unfold sumL
 rw [hl]
 exact lst_congr _ _ _ fun i _ => addZ_comm _ _
theorem addL_length {S : Nat} {M : List (List Int)} (hM : Wide S M) : ∀ A : List Int, (∀ x ∈ A, 0 ≤ x ∧ x < (M.length : Int)) → (addL S M A).length = S := fun A => by
 suffices ∀ s : List Int, s.length = S → (∀ x ∈ A, 0 ≤ x ∧ x < (M.length : Int)) → (A.foldl (fun s i => sumL (M.getD i.toNat []) s) s).length = S from this _ (by simp)
 induction A with
 | nil => intro s hs _; exact hs
 | cons a A ih =>
  intro s _ hA
  have ha := hA a (by simp)
  rw [List.foldl_cons]
  exact ih _ (by rw [sumL_length]; exact (hM.at a.toNat (by omega)).1) fun x hx => hA x (by simp [hx])
theorem Bss.len3 {w : World} {o : Option Addr} {m c : Nat} {L : List (List Int)} (h : Bss w (.slice o m c) L) : m = L.length := by
 obtain ⟨oa, ca, he, _⟩ := h
 simp at he
 exact he.2.1
set_option maxRecDepth 100000 in
set_option maxHeartbeats 800000 in
theorem refAdd_any (K H : Int) (S : Nat) (vm va : Value) (M : List (List Int)) (A : List Int) (w : World) (hb : Bss w vm M) (hM : Wide S M) (hA : ∀ x ∈ A, 0 ≤ x ∧ x < (M.length : Int)) (hz : Zs w va A) (hS : S ≤ 1000) (hl : A.length ≤ 1000) (hlM : M.length ≤ 1000) :
  Calls Tryz.prog 43 #[par K H S, vm, va] w fun e w' => ∃ v, e = .returned v ∧ New w w' v (addL S M A) := by
 have hmk := make22 S S (by omega) (by omega)
 have P0 : Hid (Par (w.alloc (.cells #[.int .i64 K, .int .i64 H, .int .i64 S] 23)) w.heap.size K H S) := Lib.hid (heap_alloc_new _ _)
 have HG0 : Hid (Gr w (w.alloc (.cells #[.int .i64 K, .int .i64 H, .int .i64 S] 23))) := Lib.hid (Gr.alloc (Gr.refl _) _ _)
 obtain ⟨n, hn⟩ : ∃ n, A.length = n := ⟨_, rfl⟩
 have HZ := Lib.hid hz
 have HBS := Lib.hid hb
 obtain ⟨om, mm, cm, rfl⟩ := hb.form3
 obtain ⟨oa, ca, rfl⟩ := hz.form
 rw [hn] at HZ hl ⊢
 have HN := Lib.hid hn
 have HM := Lib.hid hM
 have HA := Lib.hid hA
 clear hn hb hz hM hA
 go_enter Tryz.func43, Tryz.ntmps43
 go_wp2_with fail
 have N0 : Hid (New w ((w.alloc (.cells #[.int .i64 K, .int .i64 H, .int .i64 S] 23)).alloc (.cells (rowB (List.replicate S 0)) 5)) (.slice (some ⟨w.heap.size + 1, 0, none⟩) S S) (addL S M (A.take 0))) := Lib.hid (by
   rw [List.take_zero, addL_nil]
   exact new_block (Gr.alloc HG0.out _ _) (by omega) (heap_alloc2_new _ _ _) (by simp) (replicate_byt S) (by omega))
 clear hmk P0 HG0
 generalize (w.alloc (.cells #[.int .i64 K, .int .i64 H, .int .i64 S] 23)).alloc (.cells (rowB (List.replicate S 0)) 5) = W2 at *
 go_loopw [7, 15] (fun sv iv W => ∃ i : Nat, i ≤ n ∧ iv = .int .i64 i ∧ New w W sv (addL S M (A.take i))) (fun _ iv _ => n - (intOf iv).toNat)
 case atStart => exact ⟨0, by omega, rfl, N0.out⟩
 case round =>
  clear N0
  obtain ⟨wo, hwo⟩ : ∃ x, x = wr := ⟨_, rfl⟩
  subst hwo
  obtain ⟨i, hi, rfl, hn⟩ := hrel
  obtain ⟨os, ms, cs, rfl⟩ := New.form3 hn
  have NW := Lib.hid hn
  clear hn
  by_cases hlt : i < n
  ·obtain ⟨a, rfl⟩ := HZ.out.addr (by omega)
   have q1 := (HZ.out.grown NW.out.1).cellAt hlt
   have hx := HA.out (A.getD i 0) (by rw [List.getD_eq_getElem?_getD, List.getElem?_eq_getElem (by rw [HN.out]; exact hlt)]; exact List.getElem_mem _)
   obtain ⟨x, hxe⟩ : ∃ x, (A.getD i 0).toNat = x := ⟨_, rfl⟩
   have hxi : A.getD i 0 = (x : Int) := by omega
   have hxl : x < M.length := by omega
   rw [hxi] at q1
   have hmm : mm = M.length := (HBS.out.grown NW.out.1).len3
   obtain ⟨b, rfl⟩ := HBS.out.addr (by omega)
   obtain ⟨u, q2, hu⟩ := (HBS.out.grown NW.out.1).rowAt (i := x) (by omega)
   obtain ⟨ou, mu, cu, rfl⟩ := hu.form4
   have HU := Lib.hid hu
   have hst : addL S M (A.take (i + 1)) = sumL (M.getD x []) (addL S M (A.take i)) := by
    rw [List.take_add_one, List.getElem?_eq_getElem (by rw [HN.out]; exact hlt)]
    show addL S M (A.take i ++ [A[i]'_]) = _
    rw [addL_snoc]
    congr 2
    rw [← hxe, List.getD_eq_getElem?_getD, List.getElem?_eq_getElem (by rw [HN.out]; exact hlt)]
    rfl
   have hxm := (HM.out).at x hxl
   have hal : (addL S M (A.take i)).length = S := addL_length HM.out _ (fun z hz => HA.out z (List.mem_of_mem_take hz))
   have HST := Lib.hid hst
   have HXM := Lib.hid hxm
   have HAL := Lib.hid hal
   have hxlm : x < mm := by omega
   clear hu hst hxm hal hx hxe hxi hxl hmm
   go_wp2_with fail
   refine (refSum_any _ _ (M.getD x []) (addL S M (A.take i)) _ HU.out (New.bs NW.out) (by rw [HXM.out.1, HAL.out]) (by rw [HAL.out]; omega)).mono ?_
   rw [sum_back (by rw [HXM.out.1, HAL.out])]
   rintro e w3 hmi
   obtain ⟨v3, rfl, hn3⟩ := Mine.new hmi (sumL_byt HXM.out.2 (New.bs NW.out).1) (by rw [sumL_length, HXM.out.1]; omega)
   have N3 := Lib.hid (New.under NW.out.1 hn3)
   clear hmi hn3
   go_wp2_with fail
   exact ⟨⟨i + 1, by omega, by go_num, by rw [HST.out]; exact N3.out⟩, by simp [intOf]; omega⟩
  ·obtain rfl : i = n := by omega
   go_wp2_with fail
   go_ret
   refine ⟨_, rfl, ?_⟩
   have := NW.out
   rwa [List.take_of_length_le (by rw [HN.out]; exact Nat.le_refl _)] at this
end Go.Proofs.YtbbglejdfbkjlaaGreat
