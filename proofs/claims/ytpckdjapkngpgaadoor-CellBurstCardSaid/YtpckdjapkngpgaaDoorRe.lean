/-
  What stays true from call to call where rows of bytes are at hand, in one word.
-/
import Derived.Test.YtpckdjapkngpgaaDoorRl
namespace Go.Proofs.YtpckdjapkngpgaaDoor
open Go.RowKit

/-- Since w0 only new memory was made; f is a Field; the values of L read as their lists; the blocks of K hold their bytes. -/
def Env (w0 w : World) (f : Value) (L : List (Value × List Int)) (K : List (Nat × List Int)) : Prop := St w0 w f ∧ Al w L ∧ ∀ p ∈ K, Blk w p.1 p.2
theorem Env.step {w0 w w' : World} {f : Value} {L : List (Value × List Int)} {K : List (Nat × List Int)} (h : Env w0 w f L K) (hg : Gr w w') : Env w0 w' f L K :=
  ⟨St.step h.1 hg, Al.grown h.2.1 hg, fun p hp => Blk.grown (h.2.2 p hp) hg⟩
theorem Env.add {w0 w : World} {f v : Value} {l : List Int} {L : List (Value × List Int)} {K : List (Nat × List Int)} (h : Env w0 w f L K) (hb : Bs w v l) : Env w0 w f ((v, l) :: L) K :=
  ⟨h.1, Al.cons hb h.2.1, h.2.2⟩
theorem Env.addK {w0 w : World} {f : Value} {g : Nat} {l : List Int} {L : List (Value × List Int)} {K : List (Nat × List Int)} (h : Env w0 w f L K) (hb : Blk w g l) : Env w0 w f L ((g, l) :: K) :=
  ⟨h.1, h.2.1, fun p hp => by
    rcases List.mem_cons.1 hp with rfl | hp
    · exact hb
    · exact h.2.2 p hp⟩
theorem Env.f {w0 w : World} {f : Value} {L : List (Value × List Int)} {K : List (Nat × List Int)} (h : Env w0 w f L K) : IsF w f := h.1.2
theorem Env.bs {w0 w : World} {f : Value} {L : List (Value × List Int)} {K : List (Nat × List Int)} (h : Env w0 w f L K) (v : Value) (l : List Int) (hm : (v, l) ∈ L) : Bs w v l := h.2.1 (v, l) hm
theorem Env.blk {w0 w : World} {f : Value} {L : List (Value × List Int)} {K : List (Nat × List Int)} (h : Env w0 w f L K) (g : Nat) (l : List Int) (hm : (g, l) ∈ K) : Blk w g l := h.2.2 (g, l) hm
theorem New.empty {w w' : World} {v : Value} (h : New w w' v []) : ∃ oa c, v = .slice oa 0 c := by
  obtain ⟨_, _, h | h⟩ := h
  · obtain ⟨_, oa, c, rfl, _⟩ := h
    exact ⟨oa, c, rfl⟩
  · obtain ⟨g, c, _, rfl, _⟩ := h
    exact ⟨_, c, rfl⟩
theorem New.shape {w w' : World} {v : Value} {l : List Int} (h : New w w' v l) (hl : 0 < l.length) : ∃ g c, v = .slice (some ⟨g, 0, none⟩) l.length c ∧ l.length ≤ c ∧ c ≤ 9223372036854775807 := by
  obtain ⟨_, _, h | h⟩ := h
  · obtain ⟨rfl, _⟩ := h
    simp at hl
  · obtain ⟨g, c, _, rfl, _, _, h1, h2, _⟩ := h
    exact ⟨g, c, rfl, h1, h2⟩
theorem Mine.out {w w' : World} {e : Ending} {l : List Int} (h : Mine w w' e l) (hb : ∀ x ∈ l, Byt x) (hn : l.length ≤ 9223372036854775807) : ∃ v, e = .returned v ∧ Bs w' v l ∧ Gr w w' := by
  obtain ⟨g, he, _, hk, hg⟩ := h
  exact ⟨_, he, Blk.bs hk l _ (Nat.le_refl _) (Nat.le_refl _) hn hb fun _ _ => rfl, hg⟩
theorem leadL_unit (n k : Nat) (h : k < n) : leadL (unitL n k) = k :=
  leadL_at _ k (by rw [unitL_length]; exact h) (fun j hj => by rw [unitL_getD _ _ _ (by omega), if_neg (by omega)]) (by rw [unitL_getD _ _ _ h, if_pos rfl]; omega)
theorem leadL_behind (n k m : Nat) (h : k < n) : leadL (((unitL n k).drop (k + 1)).take m) = -1 :=
  leadL_none _ fun j hj => by
    have : j < m ∧ k + 1 + j < n := by
      rw [List.length_take, List.length_drop, unitL_length] at hj
      omega
    rw [List.getD_eq_getElem?_getD, List.getElem?_take_of_lt this.1, List.getElem?_drop, ← List.getD_eq_getElem?_getD, unitL_getD _ _ _ this.2, if_neg (by omega)]
end Go.Proofs.YtpckdjapkngpgaaDoor
