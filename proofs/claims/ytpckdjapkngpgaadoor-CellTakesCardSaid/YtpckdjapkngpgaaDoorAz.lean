/-
  Bytes and noughts appended to bytes of one's own; rows of noughts.
-/
import Derived.Test.YtpckdjapkngpgaaDoorAp
import Derived.Test.YtpckdjapkngpgaaDoorMx
import Derived.Lib.AppendZerosOnto
namespace Go.Proofs.YtpckdjapkngpgaaDoor
open Go.RowKit

theorem bytes_cells {w : World} {o : Option Addr} {l : List Int} {n : Nat} (hl : l.length = n) (h : ∀ a, o = some a → ∀ i, i < n → w.cell? (a.add i) = some (.int .u8 (l.getD i 0))) :
    ∀ ad, o = some ad → ∀ i u, (l.map (Value.int .u8))[i]? = some u → w.cell? (ad.add i) = some u := by
  intro ad ha i u hu
  have hi : i < l.length := by
    have := (List.getElem?_eq_some_iff.1 hu).1
    rwa [List.length_map] at this
  rw [h ad ha i (by omega)]
  rw [List.getElem?_map, List.getElem?_eq_getElem hi] at hu
  rw [List.getD_eq_getElem?_getD, List.getElem?_eq_getElem hi]
  simpa using hu
theorem leadL_nought : ∀ l : List Int, leadL l = -1 → ∀ j, l.getD j 0 = 0
  | [], _, j => by simp
  | a :: l, h, j => by
    have hge := leadL_ge l
    unfold leadL at h
    split at h
    · rename_i ha
      split at h
      · rename_i hl
        cases j with
        | zero => simpa using ha
        | succ j => simpa using leadL_nought l hl j
      · omega
    · omega
theorem vec_nought {l : List Int} (h : leadL l = -1) : vec l = L.vzero := funext fun j => by
  show fb (l.getD j 0) = L.zero
  rw [leadL_nought l h j, fb_zero]
theorem vec_ne {l : List Int} (hb : ∀ x ∈ l, Byt x) (h : 0 ≤ leadL l) : vec l ≠ L.vzero := fun e => by
  have : leadL l = -1 := leadL_none l fun j _ => by
    have h1 : fb (l.getD j 0) = L.zero := congrFun e j
    exact fb_inj (getD_byt hb j) (by unfold Byt; omega) (by rw [h1, fb_zero])
  omega
theorem Bs.parts {w : World} {oa : Option Addr} {m c : Nat} {l : List Int} (h : Bs w (.slice oa m c) l) : l.length = m ∧ m ≤ c ∧ c ≤ 9223372036854775807 ∧ (oa = none → m = 0 ∧ c = 0) ∧ ∀ ad, oa = some ad → ∀ i u, (l.map (Value.int .u8))[i]? = some u → w.cell? (ad.add i) = some u := by
  obtain ⟨_, oa', c', he, h2, h3, h4, h5⟩ := h
  obtain ⟨rfl, rfl, rfl⟩ : oa = oa' ∧ m = l.length ∧ c = c' := by simpa using he
  exact ⟨rfl, h2, h3, fun e => ⟨by have := h4 e; omega, h4 e⟩, bytes_cells rfl h5⟩
/-- append of bytes that came in onto bytes of one's own. -/
theorem wpList_append_bytes {w : World} {ops : Array Oper} {rest : List Oper} {o : Oper} {a : Act} {Q : Exit → Act → World → Prop} (hgd : o.guard = none) (s x : Operand)
    (ho : o.op = .call { callee := .builtin .append, args := #[s, x], argTypes := #[22, 22] }) (base : Nat) (v : Value) (n : Nat) (l : List Int) (hs : a.eval s = v) (hown : w.ownsRow base 5 1 v n (l.map (Value.int .u8)))
    (oa : Option Addr) (m c : Nat) (l' : List Int) (hx : a.eval x = .slice oa m c) (hL : Bs w (.slice oa m c) l') (hm : n + m ≤ 1000000) (hbase : base ≤ w.heap.size)
    (h : ∀ v' w', w'.ownsRow base 5 1 v' (n + m) ((l ++ l').map (Value.int .u8)) → w.grownBy w' v.ownBlock → wpList Tryd.prog ops Q rest (a.put o.dst v') w') : wpList Tryd.prog ops Q (o :: rest) a w := by
  obtain ⟨i5, hi0, hz0, hz1, hz2⟩ := info_parts infoB
  obtain ⟨p1, p2, p3, p4, p5⟩ := hL.parts
  refine wpList_append_in hgd s x 22 ho base 5 i5 _ 1 Tryd.underlying22 hi0 hz0 hz1 hz2 rfl v n _ hs hown oa m c (l'.map (Value.int .u8)) hx p4 (by rw [List.length_map]; exact p1) p5 (ints_oneCell _ _) (by unfold maxLen; omega) (by omega) hbase ?_
  intro v' w' h1 h2
  exact h v' w' (by rw [List.map_append]; exact h1) h2
theorem step_append_bytes {w : World} {ops : Array Oper} {o : Oper} {a : Act} {K : Act → World → Prop} {Q : Exit → Act → World → Prop} {E : Prop} (hgd : o.guard = none) (s x : Operand)
    (ho : o.op = .call { callee := .builtin .append, args := #[s, x], argTypes := #[22, 22] }) (base : Nat) (v : Value) (n : Nat) (l : List Int) (hs : a.eval s = v) (hown : w.ownsRow base 5 1 v n (l.map (Value.int .u8)))
    (oa : Option Addr) (m c : Nat) (l' : List Int) (hx : a.eval x = .slice oa m c) (hL : Bs w (.slice oa m c) l') (hm : n + m ≤ 1000000) (hbase : base ≤ w.heap.size)
    (h : ∀ v' w', w'.ownsRow base 5 1 v' (n + m) ((l ++ l').map (Value.int .u8)) → w.grownBy w' v.ownBlock → K (a.put o.dst v') w') :
    if Region.wanted o (yielded ops a.tmps) = true then Oper.wp Tryd.prog o a w K Q else E := by
  obtain ⟨i5, hi0, hz0, hz1, hz2⟩ := info_parts infoB
  obtain ⟨p1, p2, p3, p4, p5⟩ := hL.parts
  refine step_append_in hgd s x 22 ho base 5 i5 _ 1 Tryd.underlying22 hi0 hz0 hz1 hz2 rfl v n _ hs hown oa m c (l'.map (Value.int .u8)) hx p4 (by rw [List.length_map]; exact p1) p5 (ints_oneCell _ _) (by unfold maxLen; omega) (by omega) hbase ?_
  intro v' w' h1 h2
  exact h v' w' (by rw [List.map_append]; exact h1) h2
theorem Bs.rb {w : World} {u : Value} {l : List Int} (h : Bs w u l) (w' : World) : Rb w.heap.size w' u := by
  intro a n c e hn
  obtain ⟨_, oa, cc, h1, h2, h3, h4, h5⟩ := h
  rw [h1] at e
  obtain ⟨rfl, rfl, rfl⟩ : oa = some a ∧ l.length = n ∧ cc = c := by simpa using e
  exact .inl (World.block_lt_of_cell? w _ (h5 a rfl 0 hn))
/-- A copy of the list of rows: new memory for the list, the rows as they were. -/
theorem wpList_append_rows {w : World} {ops : Array Oper} {rest : List Oper} {o : Oper} {a : Act} {Q : Exit → Act → World → Prop} (hgd : o.guard = none) (s x : Operand)
    (ho : o.op = .call { callee := .builtin .append, args := #[s, x], argTypes := #[34, 34] }) (hs : a.eval s = .slice none 0 0)
    (oa : Option Addr) (m c : Nat) (L : List (List Int)) (hx : a.eval x = .slice oa m c) (hl : L.length = m) (hL : Bss w (.slice oa m c) L) (hm : m ≤ 1000)
    (h : ∀ v' w' us, w'.ownsRow w.heap.size 22 1 v' m us → Gr w w' → (∀ i, i < m → Bs w' (us.getD i undef) (L.getD i []) ∧ Rb w.heap.size w' (us.getD i undef)) → wpList Tryd.prog ops Q rest (a.put o.dst v') w') : wpList Tryd.prog ops Q (o :: rest) a w := by
  obtain ⟨i0, hi0, hz0, hz1, hz2⟩ := info_parts info22
  obtain ⟨us, hv⟩ := hL.vals
  have hno : oa = none → m = 0 ∧ c = 0 := fun e => by
    obtain ⟨oa', c', he, h1, h2, h3, h4⟩ := hL
    obtain ⟨rfl, h5, rfl⟩ : oa = oa' ∧ m = L.length ∧ c = c' := by simpa using he
    have := h3 e
    omega
  refine wpList_append_in hgd s x 34 ho w.heap.size 22 i0 _ 24 Tryd.underlying34 hi0 hz0 hz1 hz2 rfl (.slice none 0 0) 0 [] hs (World.ownsRow_nil w _ 22 1) oa m c us hx hno (by rw [hv.1, hl]) hv.2.1 hv.2.2.2 (by unfold maxLen; omega) (by omega) (Nat.le_refl _) ?_
  intro v' w' hown hgrow
  rw [Nat.zero_add, List.nil_append] at hown
  have hg : Gr w w' := Gr.append (Gr.refl w) hgrow (fun _ h => by cases h)
  exact h v' w' us hown hg fun i hi => ⟨Bs.grown (hv.2.2.1 i (by omega)) hg, (hv.2.2.1 i (by omega)).rb w'⟩
theorem New.under {w w1 w2 : World} {v : Value} {l : List Int} (hg : Gr w w1) (h : New w1 w2 v l) : New w w2 v l := by
  obtain ⟨h1, h2, h3⟩ := h
  refine ⟨Gr.trans hg h1, h2, ?_⟩
  rcases h3 with h3 | ⟨g, c, cur, e1, e2, e3⟩
  · exact .inl h3
  · exact .inr ⟨g, c, cur, e1, Nat.le_trans hg.size e2, e3⟩
theorem zeroB (m : Nat) : Builtin.zeroCells (Value.int .u8 0).cells m = (List.replicate m (Value.int .u8 0)).toArray := by
  apply Array.ext
  · simp [Builtin.zeroCells, Value.cells]
  intro i h1 h2
  simp [Builtin.zeroCells, Value.cells, Nat.mod_one]
/-- append(v, make([]byte, m)...), v bytes of one's own. -/
theorem run_append_zeros (w : World) (ty : TypeId) (base : Nat) (v : Value) (n : Nat) (l : List Int) (hown : w.ownsRow base 5 1 v n (l.map (Value.int .u8))) (m : Nat) (hm : n + m ≤ 1000000) (hbase : base ≤ w.heap.size) :
    ∃ v' w', (Builtin.append_ #[22, 3] ty #[v, .int .i64 m]).run Tryd.prog w = .ok v' w' ∧ w'.ownsRow base 5 1 v' (n + m) ((l ++ List.replicate m 0).map (Value.int .u8)) ∧ w.grownBy w' v.ownBlock := by
  obtain ⟨i, hi, hz, hs, hb⟩ := info_parts infoB
  have ht := Tryd.underlying22
  have htn := Tryd.underlying3
  have hlen : ((l ++ List.replicate m 0).map (Value.int .u8)).length = n + m := by
    have := hown.1
    rw [List.length_map] at this
    rw [List.length_map, List.length_append, List.length_replicate]
    omega
  have hmap : (l ++ List.replicate m 0).map (Value.int .u8) = l.map (Value.int .u8) ++ List.replicate m (.int .u8 0) := by rw [List.map_append, List.map_replicate]
  have hln : (l.map (Value.int .u8)).length = n := by have := hown.1; omega
  have grown : ∀ (old : Nat) (row : Option Nat),
      (w.drew.alloc (.cells ((l.map (Value.int .u8)).toArray ++ Builtin.zeroCells (Value.int .u8 0).cells m ++ Builtin.zeroCells (Value.int .u8 0).cells (grownCap w (n + m) old 5 - (n + m))) 5)).ownsRow base 5 1
        (.slice (some ⟨w.heap.size, 0, none⟩) (n + m) (grownCap w (n + m) old 5)) (n + m) ((l ++ List.replicate m 0).map (Value.int .u8)) ∧
      w.grownBy (w.drew.alloc (.cells ((l.map (Value.int .u8)).toArray ++ Builtin.zeroCells (Value.int .u8 0).cells m ++ Builtin.zeroCells (Value.int .u8 0).cells (grownCap w (n + m) old 5 - (n + m))) 5)) row := by
    intro old row
    have hge := grownCap_ge w (n + m) old 5
    have hcm : grownCap w (n + m) old 5 ≤ maxLen := grownCap_le_maxLen w (n + m) old 5 (by unfold maxLen; omega)
    rw [zeroB, zeroB]
    refine ⟨⟨by rw [hlen, Nat.mul_one], .inr ⟨w.heap.size, _, _, rfl, hbase, heap_alloc_new w.drew _, hge, hcm, ?_, ?_⟩⟩, ⟨rfl, rfl, rfl, by simp, fun k hk _ => heap_alloc_old w.drew _ hk⟩⟩
    · simp only [Array.size_append, List.size_toArray, List.length_replicate, hln]
      omega
    · rw [hmap]
      simp only [Array.toList_append]
      rw [List.take_left' (by rw [List.length_append, hln, List.length_replicate, Nat.mul_one])]
  by_cases hm0 : m = 0
  · subst hm0
    rw [List.replicate_zero, List.append_nil] at *
    have hw : IntKind.i64.wrap (0 : Int) = 0 := by rw [IntKind.wrap_i64]; omega
    obtain ⟨_, ⟨rfl, rfl⟩ | ⟨g, cap, cur, rfl, hbg, hg, hnc, hcm, hcs, htake⟩⟩ := id hown
    · exact ⟨.slice none 0 0, w, by simp [Builtin.append_, run_underlying ht, run_underlying htn, sizeOf, typeInfo, hi, asInt, asIntOf, hw], hown, ⟨rfl, rfl, rfl, Nat.le_refl _, fun _ _ _ => rfl⟩⟩
    · exact ⟨_, w, by simp [Builtin.append_, run_underlying ht, run_underlying htn, sizeOf, typeInfo, hi, asInt, asIntOf, hw, hnc, storeCells], hown, ⟨rfl, rfl, rfl, Nat.le_refl _, fun _ _ _ => rfl⟩⟩
  · obtain ⟨_, ⟨rfl, rfl⟩ | ⟨g, cap, cur, rfl, hbg, hg, hnc, hcm, hcs, htake⟩⟩ := id hown
    · have hl0 : l = [] := by
        rw [List.length_map] at hln
        exact List.eq_nil_of_length_eq_zero hln
      subst hl0
      have hr := Lib.run_append_nil_zeros (P := Tryd.prog) w 22 3 ty 5 i _ .i64 .i64 ht htn hi hz m (by omega) (by rw [hs]; omega) (by omega) (by rw [hb]; omega)
      have hgr := grown 0 (Value.ownBlock (.slice none 0 0))
      simp only [Nat.zero_add, List.map_nil, Array.empty_append] at hgr ⊢
      exact ⟨_, _, hr, hgr.1, hgr.2⟩
    · by_cases hroom : n + m ≤ cap
      · have hw : IntKind.i64.wrap (m : Int) = m := by rw [IntKind.wrap_i64]; omega
        have hst := run_storeCells_at Tryd.prog g n 5 (List.replicate m (Value.int .u8 0)) 0 cur w hg (by rw [List.length_replicate]; omega) (by intro u hu; rw [(List.mem_replicate.1 hu).2]; rfl)
        simp only [Nat.add_zero] at hst
        have hneg : ¬ ((m : Int) < 0) := by omega
        have h48i : ¬ (281474976710656 < (m : Int)) := by omega
        refine ⟨.slice (some ⟨g, 0, none⟩) (n + m) cap, w.setRow g (cur.toList.take n ++ List.replicate m (Value.int .u8 0) ++ cur.toList.drop (n + m)).toArray, ?_, ?_, ?_⟩
        · simp [Builtin.append_, run_underlying ht, run_underlying htn, sizeOf, typeInfo, zeroValue, hi, hz, hs, hb, asInt, asIntOf, hw, hneg, h48i, hm0, hroom, Addr.add_lit, zeroB, hst]
        · refine ⟨by rw [hlen, Nat.mul_one], .inr ⟨g, cap, _, rfl, hbg, setRow_heap w g cur _ 5 _ hg, hroom, hcm, ?_, ?_⟩⟩
          · simp only [List.size_toArray, List.length_append, List.length_take, List.length_drop, Array.length_toList, List.length_replicate]
            omega
          · rw [hmap]
            simp only [List.append_assoc]
            rw [Nat.mul_one] at htake
            rw [htake, ← List.append_assoc, List.take_left' (by rw [List.length_append, hln, List.length_replicate, Nat.mul_one])]
        · exact ⟨rfl, rfl, rfl, by simp, fun k _ hk => setRow_other w g k _ (fun e => hk (by simp [Value.ownBlock, e]))⟩
      · have holds : ∀ j u, (l.map (Value.int .u8))[j]? = some u → w.cell? ((⟨g, 0, none⟩ : Addr).add j) = some u := hown.cells (g := g) rfl
        have hf := run_firstCells_some (P := Tryd.prog) w.drew i.size n ⟨g, 0, none⟩ n cap (l.map (Value.int .u8)) (by rw [hs, hln, Nat.mul_one]) (by simpa using holds)
        have hr := Lib.run_append_grow_zeros (P := Tryd.prog) w 22 3 ty 5 i _ .i64 .i64 ht htn hi hz (some ⟨g, 0, none⟩) n cap _ hf m (by omega) (by rw [hs]; omega) (by omega) (by omega) (by rw [hb]; omega) (by rw [hb]; exact growslice_fits (by omega) (by omega))
        have hgr := grown cap (Value.ownBlock (.slice (some ⟨g, 0, none⟩) n cap))
        exact ⟨_, _, hr, hgr.1, hgr.2⟩
theorem want_append_bytes {w : World} {ops : Array Oper} {rest : List Oper} {o : Oper} {a : Act} {Q : Exit → Act → World → Prop} (hw : Region.wanted o (yielded ops a.tmps) = true) (s x : Operand)
    (ho : o.op = .call { callee := .builtin .append, args := #[s, x], argTypes := #[22, 22] }) (base : Nat) (v : Value) (n : Nat) (l : List Int) (hs : a.eval s = v) (hown : w.ownsRow base 5 1 v n (l.map (Value.int .u8)))
    (oa : Option Addr) (m c : Nat) (l' : List Int) (hx : a.eval x = .slice oa m c) (hL : Bs w (.slice oa m c) l') (hm : n + m ≤ 1000000) (hbase : base ≤ w.heap.size)
    (h : ∀ v' w', w'.ownsRow base 5 1 v' (n + m) ((l ++ l').map (Value.int .u8)) → w.grownBy w' v.ownBlock → wpList Tryd.prog ops Q rest (a.put o.dst v') w') : wpList Tryd.prog ops Q (o :: rest) a w := by
  obtain ⟨i5, hi0, hz0, hz1, hz2⟩ := info_parts infoB
  obtain ⟨p1, p2, p3, p4, p5⟩ := hL.parts
  refine wpList_step fun K hK => ?_
  rw [if_pos hw]
  refine wp_append_in s x 22 ho base 5 i5 _ 1 Tryd.underlying22 hi0 hz0 hz1 hz2 rfl v n _ hs hown oa m c (l'.map (Value.int .u8)) hx p4 (by rw [List.length_map]; exact p1) p5 (ints_oneCell _ _) (by unfold maxLen; omega) (by omega) hbase ?_
  intro v' w' h1 h2
  exact hK _ _ (h v' w' (by rw [List.map_append]; exact h1) h2)
theorem want_append_zeros {w : World} {ops : Array Oper} {rest : List Oper} {o : Oper} {a : Act} {Q : Exit → Act → World → Prop} (hw : Region.wanted o (yielded ops a.tmps) = true) (s x : Operand)
    (ho : o.op = .call { callee := .builtin .append, args := #[s, x], argTypes := #[22, 3] }) (base : Nat) (v : Value) (n : Nat) (l : List Int) (hs : a.eval s = v) (hown : w.ownsRow base 5 1 v n (l.map (Value.int .u8)))
    (m : Nat) (hx : a.eval x = .int .i64 m) (hm : n + m ≤ 1000000) (hbase : base ≤ w.heap.size)
    (h : ∀ v' w', w'.ownsRow base 5 1 v' (n + m) ((l ++ List.replicate m 0).map (Value.int .u8)) → w.grownBy w' v.ownBlock → wpList Tryd.prog ops Q rest (a.put o.dst v') w') : wpList Tryd.prog ops Q (o :: rest) a w := by
  refine wpList_step fun K hK => ?_
  rw [if_pos hw]
  obtain ⟨v', w', hr, h2, h3⟩ := run_append_zeros w o.type base v n l hown m hm hbase
  unfold Oper.wp execOp
  simp only [ho, resolve, invoke, builtin, Sem.run_bind, Sem.run_pure, Result.andThen_ok, List.map_toArray, List.map_cons, List.map_nil, hs, hx, hr]
  exact hK _ _ (h v' w' h2 h3)
end Go.Proofs.YtpckdjapkngpgaaDoor
