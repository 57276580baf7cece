/-
  Package mat as it was written: copies of rows, rows side by side, rows without their first elements.
-/
import Derived.Test.YtgbdhdjcjilooaaMg
import Derived.Test.YtgbdhdjcjilooaaSv
import Derived.Lib.SliceRun
namespace Go.Proofs.Ytgbdhdjcjilooaa
open Go.RowKit

theorem Bs.parts {w : World} {oa : Option Addr} {m c : Nat} {l : List Int} (h : Bs w (.slice oa m c) l) : l.length = m ∧ m ≤ c ∧ c ≤ 9223372036854775807 ∧ (oa = none → m = 0 ∧ c = 0) ∧ ∀ ad, oa = some ad → ∀ i u, (l.map (Value.int .u8))[i]? = some u → w.cell? (ad.add i) = some u := by
  obtain ⟨_, oa', c', he, h2, h3, h4, h5⟩ := h
  obtain ⟨rfl, rfl, rfl⟩ : oa = oa' ∧ m = l.length ∧ c = c' := by simpa using he
  exact ⟨rfl, h2, h3, fun e => ⟨by have := h4 e; omega, h4 e⟩, bytes_cells rfl h5⟩
/-- append of bytes that came in onto bytes of one's own. -/
theorem wpList_append_bytes {w : World} {ops : Array Oper} {rest : List Oper} {o : Oper} {a : Act} {Q : Exit → Act → World → Prop} (hgd : o.guard = none) (s x : Operand)
    (ho : o.op = .call { callee := .builtin .append, args := #[s, x], argTypes := #[22, 22] }) (base : Nat) (v : Value) (n : Nat) (l : List Int) (hs : a.eval s = v) (hown : w.ownsRow base 5 1 v n (l.map (Value.int .u8)))
    (oa : Option Addr) (m c : Nat) (l' : List Int) (hx : a.eval x = .slice oa m c) (hL : Bs w (.slice oa m c) l') (hm : n + m ≤ 1000000) (hbase : base ≤ w.heap.size)
    (h : ∀ v' w', w'.ownsRow base 5 1 v' (n + m) ((l ++ l').map (Value.int .u8)) → w.grownBy w' v.ownBlock → wpList Try.prog ops Q rest (a.put o.dst v') w') : wpList Try.prog ops Q (o :: rest) a w := by
  obtain ⟨i5, hi0, hz0, hz1, hz2⟩ := info_parts infoB
  obtain ⟨p1, p2, p3, p4, p5⟩ := hL.parts
  refine wpList_append_in hgd s x 22 ho base 5 i5 _ 1 Try.underlying22 hi0 hz0 hz1 hz2 rfl v n _ hs hown oa m c (l'.map (Value.int .u8)) hx p4 (by rw [List.length_map]; exact p1) p5 (ints_oneCell _ _) (by unfold maxLen; omega) (by omega) hbase ?_
  intro v' w' h1 h2
  exact h v' w' (by rw [List.map_append]; exact h1) h2
theorem step_append_bytes {w : World} {ops : Array Oper} {o : Oper} {a : Act} {K : Act → World → Prop} {Q : Exit → Act → World → Prop} {E : Prop} (hgd : o.guard = none) (s x : Operand)
    (ho : o.op = .call { callee := .builtin .append, args := #[s, x], argTypes := #[22, 22] }) (base : Nat) (v : Value) (n : Nat) (l : List Int) (hs : a.eval s = v) (hown : w.ownsRow base 5 1 v n (l.map (Value.int .u8)))
    (oa : Option Addr) (m c : Nat) (l' : List Int) (hx : a.eval x = .slice oa m c) (hL : Bs w (.slice oa m c) l') (hm : n + m ≤ 1000000) (hbase : base ≤ w.heap.size)
    (h : ∀ v' w', w'.ownsRow base 5 1 v' (n + m) ((l ++ l').map (Value.int .u8)) → w.grownBy w' v.ownBlock → K (a.put o.dst v') w') :
    if Region.wanted o (yielded ops a.tmps) = true then Oper.wp Try.prog o a w K Q else E := by
  obtain ⟨i5, hi0, hz0, hz1, hz2⟩ := info_parts infoB
  obtain ⟨p1, p2, p3, p4, p5⟩ := hL.parts
  refine step_append_in hgd s x 22 ho base 5 i5 _ 1 Try.underlying22 hi0 hz0 hz1 hz2 rfl v n _ hs hown oa m c (l'.map (Value.int .u8)) hx p4 (by rw [List.length_map]; exact p1) p5 (ints_oneCell _ _) (by unfold maxLen; omega) (by omega) hbase ?_
  intro v' w' h1 h2
  exact h v' w' (by rw [List.map_append]; exact h1) h2
set_option maxHeartbeats 400000 in
theorem clone_any (v : Value) (l : List Int) (w : World) (h : Bs w v l) (hl : l.length ≤ 1000000) :
    Calls Try.prog 39 #[v] w fun e w' => ∃ v', e = .returned v' ∧ w'.ownsRow w.heap.size 5 1 v' l.length (l.map (Value.int .u8)) ∧ Gr w w' := by
  have HS := Lib.hid h
  obtain ⟨_, oa, c, rfl, h1, h2, h3, _⟩ := h
  obtain ⟨n, hn⟩ : ∃ n, l.length = n := ⟨_, rfl⟩
  rw [hn] at HS h1 hl ⊢
  have HN := Lib.hid hn
  clear hn
  have hnil : ∀ (W : World) (x : Option Addr) (p q : Nat), (binOp .eql 22 (.slice x p q) (.slice none 0 0)).run Try.prog W = .ok (.bool x.isNone) W := fun W x p q => Lib.run_eql_slice_nil W _ _ x p q 0 0 Try.underlying22
  cases oa with
  | none =>
    obtain rfl : c = 0 := h3 rfl
    obtain rfl : n = 0 := by omega
    obtain rfl : l = [] := List.eq_nil_of_length_eq_zero HN.out
    clear HS h3
    go_enter Try.func39, Try.ntmps39
    go_wp2
    go_ret
    exact ⟨_, rfl, World.ownsRow_nil _ _ _ _, Gr.refl _⟩
  | some a =>
    clear h3
    have hown : Hid ((w.alloc (.cells #[] 5)).ownsRow w.heap.size 5 1 (.slice (some ⟨w.heap.size, 0, none⟩) 0 0) 0 (([] : List Int).map (Value.int .u8))) := Lib.hid ⟨rfl, .inr ⟨w.heap.size, 0, #[], rfl, Nat.le_refl _, heap_alloc_new _ _, Nat.le_refl _, by unfold maxLen; omega, rfl, rfl⟩⟩
    have hg : Hid (Gr w (w.alloc (.cells #[] 5))) := Lib.hid (Gr.alloc (Gr.refl _) _ _)
    go_enter Try.func39, Try.ntmps39
    go_wp2_with (first
      | (at_builtin; refine wpList_append_bytes rfl _ _ rfl w.heap.size _ 0 [] rfl (by exact hown.out) (some a) n c l rfl (Bs.grown HS.out hg.out) (by omega) (by exact hg.out.size) ?_; intro v2 w2 hown2 hgrow2; rw [Nat.zero_add, List.nil_append] at hown2; obtain ⟨o2, c2, rfl⟩ := ownsRow_form hown2; have H2 := Lib.hid hown2; have G2 := Lib.hid (Gr.append hg.out hgrow2 (ownsRow_base hown.out)); clear hown2 hgrow2))
    go_ret
    exact ⟨_, rfl, H2.out, G2.out⟩
theorem ownsRow_gr {w w1 w2 : World} {v : Value} {n : Nat} {us : List Value} (h : w1.ownsRow w.heap.size 5 1 v n us) (hg : Gr w w1) (h2 : w1.grownBy w2 v.ownBlock) : Gr w w2 := Gr.append hg h2 (ownsRow_base h)
set_option maxRecDepth 100000 in
set_option maxHeartbeats 1600000 in
theorem joined_any (va vb : Value) (A B : List (List Int)) (k m : Nat) (w : World) (ha : Bss w va A) (hb : Bss w vb B) (hl : A.length ≤ 1000) (hlb : B.length = A.length) (h0 : 0 < A.length) (hA : Wide k A) (hB : Wide m B) (hk : k ≤ 64) (hm : m ≤ 64) :
    Calls Try.prog 25 #[va, vb] w fun e w' => ∃ g us L, e = .returned (.slice (some ⟨g, 0, none⟩) A.length A.length) ∧ Fill w w' g A.length (fun i l => l = A.getD i [] ++ B.getD i []) A.length us L := by
  obtain ⟨a, c0, rfl, h1, h2, h3⟩ := Bss.at ha h0
  obtain ⟨b, cb, rfl, b1, b2, b3⟩ := Bss.at hb (by omega)
  rw [hlb] at b1 b3 ⊢
  obtain ⟨n, hn⟩ : ∃ n, A.length = n := ⟨_, rfl⟩
  have HN := Lib.hid hn
  have HNB : Hid (B.length = n) := Lib.hid (by rw [hlb, hn])
  rw [hn] at h1 h3 b1 b3 hl h0 ⊢
  have HA := Lib.hid h3
  have HB := Lib.hid b3
  have WA := Lib.hid hA
  have WB := Lib.hid hB
  have hmk := make24 n n (by omega) (by omega)
  have hR : ∃ cur, cur = nils n := ⟨_, rfl⟩
  obtain ⟨cur, hcur⟩ := hR
  rw [← hcur] at hmk
  have HF0 : Hid (Fill w (w.alloc (.cells cur 22)) w.heap.size n (fun i l => l = A.getD i [] ++ B.getD i []) 0 (List.replicate n (.slice none 0 0)) (List.replicate n [])) := Lib.hid (by rw [hcur]; exact Fill.start w n (by omega) _)
  clear ha hb hlb hn h3 b3 hA hB hcur
  go_enter Try.func25, Try.ntmps25
  go_wp2
  clear hmk
  generalize hW : w.alloc (.cells cur 22) = W at *
  generalize hG : w.heap.size = g at *
  go_loopw [12] (fun i wr => ∃ (j : Nat) (us : List Value) (L : List (List Int)), j ≤ n ∧ i = .int .i64 j ∧ Fill w wr g n (fun i l => l = A.getD i [] ++ B.getD i []) j us L) (fun i _ => n - (intOf i).toNat)
  case atStart => exact ⟨0, _, _, by omega, rfl, HF0.out⟩
  case round =>
    clear HF0
    obtain ⟨j, us, Lx, hj, rfl, hfl⟩ := hrel
    have FL := Lib.hid hfl
    clear hfl
    by_cases hlt : j < n
    · obtain ⟨u, q0, hu⟩ := HA.out j hlt
      obtain ⟨u', q0', hu'⟩ := HB.out j hlt
      have q1 := cell_grown FL.out.gr q0
      have q2 := cell_grown FL.out.gr q0'
      have hu1 := Bs.grown hu FL.out.gr
      have hu2 := Bs.grown hu' FL.out.gr
      obtain ⟨ou, cu, rfl⟩ := hu.form
      obtain ⟨ou', cu', rfl⟩ := hu'.form
      have hwa := WA.out.at j (by rw [HN.out]; exact hlt)
      have hwb := WB.out.at j (by rw [HNB.out]; exact hlt)
      rw [hwa.1] at q1 hu1
      rw [hwb.1] at q2 hu2
      have HU1 := Lib.hid hu1
      have HU2 := Lib.hid hu2
      have HWA := Lib.hid hwa
      have HWB := Lib.hid hwb
      have qc := FL.out.cell j hlt
      have qf := FL.out.frozen j
      clear q0 q0' hu hu' hu1 hu2 hwa hwb
      go_wp2
      go_region_law (first
        | ((try go_simp); go_at_call 39; refine (clone_any _ (A.getD j []) _ (by exact HU1.out) (by rw [HWA.out.1]; omega)).mono ?_; rintro e w2 ⟨v2, rfl, hown2, hg2⟩; rw [HWA.out.1] at hown2; obtain ⟨o2, c2, rfl⟩ := ownsRow_form hown2; have hq2 := cell_grown hg2 (by exact q2); have HO2 := Lib.hid hown2; have HG2 : Hid (Gr wr w2) := Lib.hid (by exact hg2); clear hown2 hg2)
        | (refine step_append_bytes rfl _ _ rfl wr.heap.size (.slice o2 k c2) k (A.getD j []) (by rfl) (by exact HO2.out) ou' m cu' (B.getD j []) (by rfl) (by exact Bs.grown HU2.out HG2.out) (by omega) (by exact HG2.out.size) ?_; intro v3 w3 hown3 hgrow3; obtain ⟨o3, c3, rfl⟩ := ownsRow_form hown3; have HO3 := Lib.hid hown3; have HG3 : Hid (Gr wr w3) := Lib.hid (ownsRow_gr (by exact HO2.out) HG2.out (by exact hgrow3)); have hc3 := cell_grown HG3.out qc; have hf3 := frozen_grown HG3.out qc qf; clear hown3 hgrow3))
      all_goals
        have hlen : (A.getD j [] ++ B.getD j []).length = k + m := by rw [List.length_append, HWA.out.1, HWB.out.1]
        have NW : Hid (New wr w3 (.slice o3 (k + m) c3) (A.getD j [] ++ B.getD j [])) := Lib.hid (New.of_row HG3.out (fun x hx => by
          rcases List.mem_append.1 hx with hx | hx
          · exact HWA.out.2 x hx
          · exact HWB.out.2 x hx) (by rw [hlen]; exact HO3.out))
        go_wp2_with fail
        exact ⟨⟨j + 1, _, _, by omega, by go_num, (FL.out.grow HG3.out).put hlt (New.bs NW.out) (New.rb NW.out _) rfl⟩, by simp [intOf]; omega⟩
    · obtain rfl : j = n := by omega
      go_wp2
      go_ret
      exact ⟨g, us, Lx, rfl, FL.out⟩
end Go.Proofs.Ytgbdhdjcjilooaa
