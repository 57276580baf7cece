/-
  The verifier's rows of one length, out of bytes.
-/
import Derived.Test.YtmeojdnalhaooaaSo
namespace Go.Proofs.Ytmeojdnalhaooaa
open Go.RowKit

/-- The first k rows of n bytes each. -/
def chunk (n : Nat) (l : List Int) (k : Nat) : List (List Int) := (List.range k).map fun i => (l.drop (n * i)).take n
theorem chunk_length (n : Nat) (l : List Int) (k : Nat) : (chunk n l k).length = k := by simp [chunk]
theorem chunk_succ (n : Nat) (l : List Int) (k : Nat) : chunk n l (k + 1) = chunk n l k ++ [(l.drop (n * k)).take n] := by
  simp [chunk, List.range_succ]
/-- How many rows there are. -/
def evenN (n : Nat) (l : List Int) : Nat := min 14 (l.length / n)
def evenL (n : Nat) (l : List Int) : List (List Int) := chunk n l (evenN n l)
theorem Bs.drop {w : World} {a : Addr} {m cap : Nat} {t : List Int} (h : Bs w (.slice (some a) m cap) t) (hm : t.length = m) (n : Nat) (hn : n ≤ m) :
    Bs w (.slice (if cap = n then some a else some (a.add n)) (m - n) (cap - n)) (t.drop n) := by
  have := Bs.slice h hm n m hn (Nat.le_refl _)
  rwa [List.take_of_length_le (by simp; omega)] at this
theorem Bs.head {w : World} {a : Addr} {m cap : Nat} {t : List Int} (h : Bs w (.slice (some a) m cap) t) (hm : t.length = m) (n : Nat) (hn : n ≤ m) :
    Bs w (.slice (some a) n n) (t.take n) := by
  obtain ⟨hb, oa, c, he, h3, h4, h5, h6⟩ := h
  cases he
  have hlen : (t.take n).length = n := by rw [List.length_take]; omega
  refine ⟨fun x hx => hb x (List.mem_of_mem_take hx), some a, n, by rw [hlen], by omega, by omega, (fun h => by cases h), fun a' ha i hi => ?_⟩
  cases ha
  rw [hlen] at hi
  rw [h6 a rfl i (by omega), List.getD_eq_getElem?_getD, List.getD_eq_getElem?_getD, List.getElem?_take_of_lt hi]
theorem Bs.low {w : World} {a : Addr} {n c : Nat} {l : List Int} (h : Bs w (.slice (some a) n c) l) (hn : 0 < n) : a.block < w.heap.size := by
  obtain ⟨_, oa, c', he, _, _, _, h6⟩ := h
  obtain ⟨rfl, rfl, _⟩ : some a = oa ∧ n = l.length ∧ c = c' := by simpa using he
  have := World.block_lt_of_cell? w _ (h6 a rfl 0 hn)
  have hbl : (a.add 0).block = a.block := by unfold Addr.add; split <;> rfl
  rwa [hbl] at this
theorem ownsRow_form {w : World} {base : Nat} {e : TypeId} {v : Value} {n : Nat} {us : List Value} (h : w.ownsRow base e 1 v n us) : ∃ oa c, v = .slice oa n c := by
  obtain ⟨_, ⟨rfl, rfl⟩ | ⟨g, c, cur, rfl, _⟩⟩ := h
  · exact ⟨_, _, rfl⟩
  · exact ⟨_, _, rfl⟩
theorem Bs.form {w : World} {v : Value} {l : List Int} (h : Bs w v l) : ∃ oa c, v = .slice oa l.length c := by
  obtain ⟨_, oa, c, h, _⟩ := h
  exact ⟨oa, c, h⟩
def lenOf : Value → Nat
  | .slice _ n _ => n
  | _ => 0
set_option maxRecDepth 100000 in
set_option maxHeartbeats 1600000 in
theorem even_any (vb : Value) (n : Nat) (l : List Int) (w : World) (hb : Bs w vb l) (h1 : 1 ≤ n) (h2 : n ≤ 100) (hl : l.length ≤ 1000) :
    Calls Try.prog 25 #[vb, .int .i64 n] w fun e w' => ∃ v, e = .returned v ∧ Rws w.heap.size w' v (evenL n l) ∧ Gr w w' := by
  obtain ⟨i0, hi0, hz0, hz1, hz2⟩ := info_parts info22
  have I0 := Lib.hid hi0
  have I1 := Lib.hid hz0
  have I2 := Lib.hid hz1
  have I3 := Lib.hid hz2
  have HB := Lib.hid hb
  have HL := Lib.hid hl
  clear hi0 hz0 hz1 hz2 hb hl
  go_enter Try.func25, Try.ntmps25
  go_wp2
  go_loopw [0, 5] (fun b o wr => ∃ k : Nat, k ≤ 14 ∧ n * k ≤ l.length ∧ Bs w b (l.drop (n * k)) ∧ Rws w.heap.size wr o (chunk n l k) ∧ Gr w wr) (fun _ o _ => 14 - lenOf o)
  case atStart => exact ⟨0, by omega, by omega, by simpa using HB.out, Rws.nil _ _, Gr.refl _⟩
  case round =>
    obtain ⟨k, hk, hnk, hbk, hrs, hg⟩ := hrel
    obtain ⟨us, ho, hr⟩ := hrs
    rw [chunk_length] at ho hr
    obtain ⟨oo, co, rfl⟩ := ownsRow_form ho
    obtain ⟨ob, cb, rfl⟩ := hbk.form
    have hm : (l.drop (n * k)).length = l.length - n * k := List.length_drop
    rw [hm] at hbk ⊢
    generalize hmm : l.length - n * k = m at *
    have HO := Lib.hid ho
    have HR := Lib.hid hr
    have HK := Lib.hid hbk
    have HG := Lib.hid hg
    have HM := Lib.hid hm
    have HMM := Lib.hid hmm
    clear ho hr hbk hg hm hmm
    by_cases hend : n ≤ m ∧ k < 14
    · obtain ⟨he1, he2⟩ := hend
      obtain ⟨hcb, hob⟩ : m ≤ cb ∧ (ob = none → cb = 0) := by
        obtain ⟨_, oa, c', he, h3, _, h4, _⟩ := HK.out
        obtain ⟨rfl, _, rfl⟩ : ob = oa ∧ m = (l.drop (n * k)).length ∧ cb = c' := by simpa using he
        rw [HM.out] at h3
        exact ⟨h3, h4⟩
      obtain ⟨a, rfl⟩ : ∃ a, ob = some a := by
        cases ob with
        | some a => exact ⟨a, rfl⟩
        | none => exact absurd (hob rfl) (by omega)
      clear hob
      have hncb : n ≤ cb := by omega
      go_wp2
      have hbase : w.heap.size ≤ wr.heap.size := HG.out.size
      go_region_held3 (fun _ => True) (first | trivial)
        ((refine step_append_lies _ (by rfl) _ _ _ (by rfl) w.heap.size 23 i0 _ 1 24 Try.underlying22 I0.out I1.out I2.out I3.out rfl (by omega) (.slice oo k co) k us (by rfl) (by first | exact (HO.out.alloc _).drew | exact HO.out.alloc _)
              ⟨wr.heap.size, 0, none⟩ 1 1 [.slice (some a) n n] (by rfl) (by rfl) (World.news_of_block (cs := #[.slice (some a) n n]) (t := 23) (fr := (0, 0)) (heap_alloc_new wr _)) (by simp [Value.oneCell'])
              (by omega) (by unfold maxLen; omega) (by omega) (by simp; omega) (wr.heap.size + 1) (by simp) ?_; intro gg cap w1 hown1 hgrow hat hlt))
      have hgw : Gr wr (wr.alloc (.cells #[.slice (some a) n n] 23)).drew := Gr.drew (Gr.alloc (Gr.refl _) _ _)
      have hrow : ∀ g, (Value.slice oo k co).ownBlock = some g → w.heap.size ≤ g := fun g hg => (ownsRow_not_bytes HO.out g hg).1
      have hbs := Bs.head HK.out HM.out n he1
      have hap := Rws.append (L := chunk n l k) (l := (l.drop (n * k)).take n) (by rw [chunk_length]; exact (HO.out.alloc _).drew) (fun i hi => Rb.gr (HR.out i (by rwa [chunk_length] at hi)).1 (HR.out i (by rwa [chunk_length] at hi)).2 hgw)
        (Bs.grown hbs (Gr.trans HG.out hgw)) (fun a' n' c' h' hn' => .inl (by cases h'; exact Bs.low hbs hn')) (by rw [chunk_length]; exact hown1) hgrow
      rw [← chunk_succ] at hap
      have hnk1 : n * (k + 1) = n * k + n := by rw [Nat.mul_add, Nat.mul_one]
      have hdr := Bs.drop HK.out HM.out n he1
      rw [List.drop_drop, ← hnk1] at hdr
      have hgr := Gr.append (Gr.trans HG.out hgw) hgrow hrow
      have HA := Lib.hid hap
      have HD := Lib.hid hdr
      have HE := Lib.hid hgr
      have HN1 := Lib.hid hnk1
      have hml := HMM.out
      clear hap hdr hgr hnk1 hgw hrow hbs
      go_wp2
      exact ⟨⟨k + 1, by omega, by rw [HN1.out]; omega, HD.out, HA.out, HE.out⟩, by simp [lenOf]; omega⟩
    · have hev : evenN n l = k := by
        unfold evenN
        by_cases c : k < 14
        · have hq : n * k ≤ l.length ∧ l.length < n * k + n := by have := HMM.out; omega
          have : l.length / n = k := by
            apply Nat.div_eq_of_lt_le
            · rw [Nat.mul_comm]; exact hq.1
            · rw [Nat.mul_comm, Nat.mul_add, Nat.mul_one]; exact hq.2
          omega
        · have : 14 ≤ l.length / n := by
            rw [Nat.le_div_iff_mul_le (by omega)]
            have : k = 14 := by omega
            subst this
            rw [Nat.mul_comm]; exact hnk
          omega
      have HV := Lib.hid hev
      clear hev
      by_cases c1 : n ≤ m
      · have c2 : k = 14 := by omega
        subst c2
        go_wp2
        go_ret
        exact ⟨_, rfl, by unfold evenL; rw [HV.out]; exact ⟨us, by rw [chunk_length]; exact HO.out, by rw [chunk_length]; exact HR.out⟩, HG.out⟩
      · go_wp2
        go_ret
        exact ⟨_, rfl, by unfold evenL; rw [HV.out]; exact ⟨us, by rw [chunk_length]; exact HO.out, by rw [chunk_length]; exact HR.out⟩, HG.out⟩
end Go.Proofs.Ytmeojdnalhaooaa
