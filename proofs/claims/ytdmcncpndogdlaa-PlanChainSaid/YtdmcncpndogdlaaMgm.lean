/-
  Texts laid behind one another: Id Ie.
-/
import Derived.Test.YtdmcncpndogdlaaMgl
import Derived.Laws.ResultCell
namespace Go.Proofs.Ytdmcncpndogdlaa
open Go.RowKit

namespace PN
def Says (n : Int) (R : List (List Int)) (st : List (Int × Int)) (de le : List Int) (ok : Bool) : Prop :=
  (¬ May n R ∧ ok = false ∧ st = [] ∧ de = [] ∧ le = []) ∨ (May n R ∧ ok = true ∧ st = steps n.toNat R ∧ de = dead n.toNat R ∧ le = left n.toNat R)
theorem Says.unique {n : Int} {R : List (List Int)} {st st' : List (Int × Int)} {de le de' le' : List Int} {ok ok' : Bool} (h : Says n R st de le ok) (h' : Says n R st' de' le' ok') : st = st' ∧ de = de' ∧ le = le' ∧ ok = ok' := by
  rcases h with ⟨a0, a1, a2, a3, a4⟩ | ⟨a0, a1, a2, a3, a4⟩ <;> rcases h' with ⟨b0, b1, b2, b3, b4⟩ | ⟨b0, b1, b2, b3, b4⟩
  · exact ⟨by rw [a2, b2], by rw [a3, b3], by rw [a4, b4], by rw [a1, b1]⟩
  · exact absurd b0 a0
  · exact absurd a0 b0
  · exact ⟨by rw [a2, b2], by rw [a3, b3], by rw [a4, b4], by rw [a1, b1]⟩
end PN
theorem drN_moreQ {w W : World} (h : ∃ d, W = w.drewN d) (m : Nat) : ∃ d, W.drewN m = w.drewN d := by
  obtain ⟨d, rfl⟩ := h
  exact ⟨_, World.drewN_drewN _ _ _⟩
theorem getD_memZ {l : List Int} {i : Nat} (h : i < l.length) : l.getD i 0 ∈ l := by
  rw [List.getD_eq_getElem?_getD, List.getElem?_eq_getElem h]
  exact List.getElem_mem h
theorem own_block_ge {base n c : Nat} {w : World} {o : Option Addr} {g : Addr} {us : List Value} {e : TypeId} {size : Nat} (h : w.ownsRow base e size (.slice o n c) n us) (_ : 0 < n) (ho : o = some g) : base ≤ g.block := by
  subst ho
  obtain ⟨_, ⟨he, _⟩ | ⟨g', c', cur, he, hb, _⟩⟩ := h
  · cases he
  · cases he
    exact hb
theorem zs_far {w : World} {a : Addr} {n c g i : Nat} {v : Value} {l : List Int} (h : Zs w (.slice (some a) n c) l) (hn : 0 < n → a.block ≠ g) : Zs (w.setCell ⟨g, i, none⟩ v) (.slice (some a) n c) l :=
  h.kp (Kp.set w g i v) fun a' m c' e hm => by
    cases e
    exact hn hm
theorem hbz' {w w' : World} {g : Nat} {L : List Int} (h : Blz w g L) (hg : Gr w w') : Blz w' g L := h.grown hg
theorem PlanAt.of_blocks {w1 W : World} {gk gu go N M : Nat} (hk : W.heap[gk]? = some (.cells (rowT (List.replicate N false)) 4 (0, 0))) (hu : W.heap[gu]? = some (.cells (rowT (List.replicate M false)) 4 (0, 0))) (ho : W.heap[go]? = some (.cells #[.slice none 0 0, .slice none 0 0, .slice none 0 0] 31 (0, 0))) (h1 : gk ≠ gu) (h2 : w1.heap.size ≤ gk) (h3 : w1.heap.size ≤ gu) (h4 : w1.heap.size ≤ go) (hg : Gr w1 W) :
    PlanAt w1 W gk gu go (List.replicate N false) (List.replicate M false) (.slice none 0 0) (.slice none 0 0) (.slice none 0 0) [] [] [] :=
  ⟨hk, hu, ho, World.ownsRow_nil _ _ _ _, World.ownsRow_nil _ _ _ _, World.ownsRow_nil _ _ _ _, (fun g h => by cases h), h1, h2, h3, h4, hg⟩
theorem PlanAt.start {w w1 : World} (h : w1 = w.alloc (.cells #[.slice none 0 0, .slice none 0 0, .slice none 0 0] 31)) (hs : w1.heap.size = w.heap.size + 1) (N M : Nat) :
    PlanAt w1 (((((w.alloc (.cells #[.slice none 0 0, .slice none 0 0, .slice none 0 0] 31)).alloc (.cells #[.slice none 0 0, .slice none 0 0, .slice none 0 0] 31)).alloc (.cells (rowT (List.replicate N false)) 4)).alloc (.cells (rowT (List.replicate M false)) 4)).drew) (w.heap.size + 1 + 1) (w.heap.size + 1 + 1 + 1) (w.heap.size + 1) (List.replicate N false) (List.replicate M false) (.slice none 0 0) (.slice none 0 0) (.slice none 0 0) [] [] [] := by
  rw [← h, ← hs]
  have e2 : (w1.alloc (.cells #[.slice none 0 0, .slice none 0 0, .slice none 0 0] 31)).heap.size = w1.heap.size + 1 := by simp
  have e3 : ((w1.alloc (.cells #[.slice none 0 0, .slice none 0 0, .slice none 0 0] 31)).alloc (.cells (rowT (List.replicate N false)) 4)).heap.size = w1.heap.size + 1 + 1 := by simp
  refine PlanAt.of_blocks (keptRow (Gr.drewQ (Gr.alloc (Gr.refl _) _ _)) ?_) ?_ (keptRow (Gr.drewQ (Gr.alloc (Gr.alloc (Gr.refl _) _ _) _ _)) (heap_alloc_new _ _)) (by omega) (by omega) (by omega) (Nat.le_refl _) (Gr.drewQ (Gr.alloc (Gr.alloc (Gr.alloc (Gr.refl _) _ _) _ _) _ _))
  · rw [← e2]
    exact heap_alloc_new _ _
  · rw [← e3]
    exact heap_alloc_new _ _
theorem PlanAt.start' {w w1 : World} (h : w1 = w.alloc (.cells #[.slice none 0 0, .slice none 0 0, .slice none 0 0] 31)) (hs : w1.heap.size = w.heap.size + 1) (N M : Nat) :
    PlanAt w1 (((((w.alloc (.cells #[.slice none 0 0, .slice none 0 0, .slice none 0 0] 31)).alloc (.cells #[.slice none 0 0, .slice none 0 0, .slice none 0 0] 31)).alloc (.cells (rowT (List.replicate M false)) 4)).alloc (.cells (rowT (List.replicate N false)) 4)).drew) (w.heap.size + 1 + 1 + 1) (w.heap.size + 1 + 1) (w.heap.size + 1) (List.replicate N false) (List.replicate M false) (.slice none 0 0) (.slice none 0 0) (.slice none 0 0) [] [] [] := by
  rw [← h, ← hs]
  have e2 : (w1.alloc (.cells #[.slice none 0 0, .slice none 0 0, .slice none 0 0] 31)).heap.size = w1.heap.size + 1 := by simp
  have e3 : ((w1.alloc (.cells #[.slice none 0 0, .slice none 0 0, .slice none 0 0] 31)).alloc (.cells (rowT (List.replicate M false)) 4)).heap.size = w1.heap.size + 1 + 1 := by simp
  refine PlanAt.of_blocks ?_ (keptRow (Gr.drewQ (Gr.alloc (Gr.refl _) _ _)) ?_) (keptRow (Gr.drewQ (Gr.alloc (Gr.alloc (Gr.refl _) _ _) _ _)) (heap_alloc_new _ _)) (by omega) (by omega) (by omega) (Nat.le_refl _) (Gr.drewQ (Gr.alloc (Gr.alloc (Gr.alloc (Gr.refl _) _ _) _ _) _ _))
  · rw [← e3]
    exact heap_alloc_new _ _
  · rw [← e2]
    exact heap_alloc_new _ _
def PlanOut (n : Int) (R : List (List Int)) (w : World) (e : Ending) (w' : World) : Prop := ∃ sv dv lv st de le ok, e = .returned (.tuple #[.agg #[sv, dv, lv], .bool ok]) ∧ Stp w' sv st ∧ Zs w' dv de ∧ Zs w' lv le ∧ Gr w w' ∧ PN.Says n R st de le ok
theorem PlanOut.no {n : Int} {R : List (List Int)} {w w' : World} (h : ¬ PN.May n R) (hg : Gr w w') : PlanOut n R w (.returned (.tuple #[.agg #[.slice none 0 0, .slice none 0 0, .slice none 0 0], .bool false])) w' :=
  ⟨_, _, _, [], [], [], false, rfl, Stp.nil _, Zs.nil _, Zs.nil _, hg, .inl ⟨h, rfl, rfl, rfl, rfl⟩⟩
theorem plan_load {W : World} {g : Nat} {sv dv lv : Value} (h : W.heap[g]? = some (.cells #[sv, dv, lv] 31 (0, 0))) : (loadVar 31 ⟨g, 0, none⟩).run Try.prog W = .ok (.agg #[sv, dv, lv]) W :=
  run_loadVar_mid W g 0 31 [sv, dv, lv] _ (fun j v hv => by
    rw [Nat.zero_add, cell_of_row _ _ _ _ _ _ h]
    simpa using hv) Try.underlying31 rfl (by kernel_rfl)
theorem plan_res {W : World} {g : Nat} {u : Value} {v : Value} (h : (loadVar 31 ⟨g, 0, none⟩).run Try.prog W = .ok v W) :
    (((asAddr (.pointer (some ⟨g, 0, none⟩))).run Try.prog W).andThen fun a w₁ => ((loadVar 31 a).run Try.prog w₁).andThen fun v w₂ => Result.ok (Value.tuple #[v, u]) w₂) = .ok (.tuple #[v, u]) W := by
  simp only [asAddr, Sem.run_pure, Result.andThen_ok, h]
open Classical in
set_option maxRecDepth 100000 in
set_option maxHeartbeats 12800000 in
theorem refPlan_any (n : Int) (v : Value) (R : List (List Int)) (w : World) (h : Zss w v R) (hl : R.length ≤ 1000) (hc : ∀ c ∈ R, c.length ≤ 1000) (hn : I64 n) :
    Calls Try.prog 12 #[.int .i64 n, v] w (PlanOut n R w) := by
  obtain ⟨o, c, rfl⟩ := h.form
  obtain ⟨m, hm⟩ : ∃ m, R.length = m := ⟨_, rfl⟩
  rw [hm] at h hl ⊢
  have HZ := Lib.hid h
  have HM := Lib.hid hm
  have HC := Lib.hid hc
  clear h hm hc
  have no_plan : ∀ W : World, Gr w W → ¬ PN.May n R → PlanOut n R w (.returned (.tuple #[.agg #[.slice none 0 0, .slice none 0 0, .slice none 0 0], .bool false])) W := fun W hg h => PlanOut.no h hg
  have NP := Lib.hid no_plan
  clear no_plan
  by_cases c1 : n < 0
  · have hno : Hid (¬ PN.May n R) := Lib.hid fun h => by have := h.1; omega
    go_enter Try.func12, Try.ntmps12
    go_wp2_with fail
    refine bodyPost_ret (v := .tuple #[.agg #[.slice none 0 0, .slice none 0 0, .slice none 0 0], .bool false]) (by rw [results_cell_tmp rfl]; go_simp) rfl ?_
    exact NP.out _ (Gr.alloc (Gr.refl _) _ _) hno.out
  by_cases c2 : 64 < n
  · have hno : Hid (¬ PN.May n R) := Lib.hid fun h => by have := h.2.1; omega
    go_enter Try.func12, Try.ntmps12
    go_wp2_with fail
    refine bodyPost_ret (v := .tuple #[.agg #[.slice none 0 0, .slice none 0 0, .slice none 0 0], .bool false]) (by rw [results_cell_tmp rfl]; go_simp) rfl ?_
    exact NP.out _ (Gr.alloc (Gr.refl _) _ _) hno.out
  obtain ⟨N, rfl⟩ : ∃ N : Nat, n = N := ⟨n.toNat, by omega⟩
  have hN : N ≤ 64 := by omega
  have d1 : decide ((N : Int) < 0) = false := decide_eq_false (by omega)
  have d2 : decide ((64 : Int) < N) = false := decide_eq_false (by omega)
  have hmk := makeT N (by omega)
  have hmk2 := makeT m (by omega)
  clear c1 c2 hn
  go_enter Try.func12, Try.ntmps12
  go_wp2_with fail
  have G0 : Hid (Gr w (w.alloc (.cells #[.slice none 0 0, .slice none 0 0, .slice none 0 0] 31)) ∧ (w.alloc (.cells #[.slice none 0 0, .slice none 0 0, .slice none 0 0] 31)).heap[w.heap.size]? = some (.cells #[.slice none 0 0, .slice none 0 0, .slice none 0 0] 31 (0, 0))) := Lib.hid ⟨Gr.alloc (Gr.refl _) _ _, heap_alloc_new _ _⟩
  go_loopw [31] (fun iv W => ∃ i : Nat, i ≤ m ∧ iv = .int .i64 i ∧ (w.alloc (.cells #[.slice none 0 0, .slice none 0 0, .slice none 0 0] 31)) = W ∧ ∀ j, j < i → MayRow N (R.getD j [])) (fun iv _ => m - (intOf iv).toNat)
  case atStart => exact ⟨0, by omega, rfl, rfl, by omega⟩
  case round =>
    obtain ⟨i, hi, rfl, rfl, hmr⟩ := hrel
    have HMR := Lib.hid hmr
    clear hmr
    by_cases hlt : i < m
    · obtain ⟨a, rfl⟩ := Zss.addr HZ.out (by omega)
      obtain ⟨u, q1, hu⟩ := Zss.rowAt (HZ.out.grown G0.out.1) hlt
      obtain ⟨ou, mu, cu, rfl⟩ := hu.form3
      by_cases hmi : MayRow N (R.getD i [])
      · have HMI := Lib.hid hmi
        have hcall : Calls Try.prog 24 #[.int .i64 N, .slice ou mu cu] (w.alloc (.cells #[.slice none 0 0, .slice none 0 0, .slice none 0 0] 31)) fun e w' => e = .returned (.bool true) ∧ w' = (w.alloc (.cells #[.slice none 0 0, .slice none 0 0, .slice none 0 0] 31)) := by
          have h := mayRow_any N _ _ _ hu (HC.out _ (getD_memL (by rw [HM.out]; exact hlt)))
          rwa [decide_eq_true hmi] at h
        have HCL := Lib.hid hcall
        clear hu hmi hcall
        go_wp2_with fail
        refine HCL.out.mono ?_
        rintro e w' ⟨rfl, rfl⟩
        go_wp2_with fail
        refine ⟨⟨i + 1, by omega, by go_num, trivial, fun j hj => ?_⟩, by simp [intOf]; omega⟩
        by_cases e : j = i
        · rw [e]; exact HMI.out
        · exact HMR.out j (by omega)
      · have hno : Hid (¬ PN.May N R) := Lib.hid fun h => hmi (h.2.2 _ (getD_memL (by rw [HM.out]; exact hlt)))
        have hcall : Calls Try.prog 24 #[.int .i64 N, .slice ou mu cu] (w.alloc (.cells #[.slice none 0 0, .slice none 0 0, .slice none 0 0] 31)) fun e w' => e = .returned (.bool false) ∧ w' = (w.alloc (.cells #[.slice none 0 0, .slice none 0 0, .slice none 0 0] 31)) := by
          have h := mayRow_any N _ _ _ hu (HC.out _ (getD_memL (by rw [HM.out]; exact hlt)))
          rwa [decide_eq_false hmi] at h
        have HCL := Lib.hid hcall
        clear hu hmi hcall
        go_wp2_with fail
        refine HCL.out.mono ?_
        rintro e w' ⟨rfl, rfl⟩
        go_wp2_with fail
        refine bodyPost_ret (v := .tuple #[.agg #[.slice none 0 0, .slice none 0 0, .slice none 0 0], .bool false]) (by rw [results_cell_tmp rfl]; go_simp) rfl ?_
        exact NP.out _ G0.out.1 hno.out
    · obtain rfl : i = m := by omega
      have hmay : PN.May N R := ⟨by omega, by omega, fun c hc => by
        obtain ⟨j, hj, rfl⟩ := List.getElem_of_mem hc
        have := HMR.out j (by rw [← HM.out]; exact hj)
        rw [List.getD_eq_getElem?_getD, List.getElem?_eq_getElem hj] at this
        exact this⟩
      have HMY := Lib.hid hmay
      clear hmay HMR
      obtain ⟨w1, hw1⟩ : ∃ x, x = w.alloc (.cells #[.slice none 0 0, .slice none 0 0, .slice none 0 0] 31) := ⟨_, rfl⟩
      rw [← hw1] at G0
      have HW1 := Lib.hid hw1
      have hs1 : w1.heap.size = w.heap.size + 1 := by rw [hw1]; simp
      have HS1 := Lib.hid hs1
      clear hw1 hs1
      go_upto_region 10 with fail
      go_cut [9, 10] (fun kv uv W => ∃ gk gu, kv = .slice (some ⟨gk, 0, none⟩) N N ∧ uv = .slice (some ⟨gu, 0, none⟩) i i ∧ PlanAt w1 W gk gu (w.heap.size + 1) (List.replicate N false) (List.replicate i false) (.slice none 0 0) (.slice none 0 0) (.slice none 0 0) [] [] [])
      case first =>
        go_region
        all_goals
          go_wp2_with fail
          go_meet
        · exact ⟨_, _, rfl, rfl, PlanAt.start HW1.out HS1.out N i⟩
        · exact ⟨_, _, rfl, rfl, PlanAt.start' HW1.out HS1.out N i⟩
      case rest =>
        obtain ⟨gk, gu, rfl, rfl, hp⟩ := hcut
        have P0 := Lib.hid hp
        clear hp hmk hmk2
        go_wp2_with fail
        go_loopw [11] (fun tv W => ∃ (t : Nat) (sv dv : Value), t ≤ N ∧ tv = .int .i64 ((N : Int) - t) ∧ PlanAt w1 W gk gu (w.heap.size + 1) (PN.run N R t).dn (PN.run N R t).us sv dv (.slice none 0 0) (PN.run N R t).steps (PN.run N R t).dead []) (fun tv _ => (intOf tv).toNat)
        case atStart => exact ⟨0, _, _, by omega, by simp, by rw [show PN.run N R 0 = PN.start N R.length from rfl, HM.out]; exact P0.out⟩
        case round =>
          clear P0
          obtain ⟨wo, hwo⟩ : ∃ x, x = wr := ⟨_, rfl⟩
          subst hwo
          obtain ⟨t, sv, dv, ht, rfl, hp⟩ := hrel
          have PP := Lib.hid hp
          clear hp
          by_cases htn : t < N
          · have hin := PN.run_inv HMY.out.2.2 t (by omega)
            have HIN := Lib.hid hin
            have HNX : Hid (PN.run N R (t + 1) = PN.next N R (PN.run N R t)) := Lib.hid rfl
            clear hin
            generalize hdn : (PN.run N R t).dn = dn at *
            generalize hus : (PN.run N R t).us = us at *
            have HDN := Lib.hid hdn
            have HUS := Lib.hid hus
            clear hdn hus
            have HDL : Hid (dn.length = N) := Lib.hid (by rw [← HDN.out]; exact HIN.out.dn)
            have HUL : Hid (us.length = i) := Lib.hid (by rw [← HUS.out, ← HM.out]; exact HIN.out.us)
            have hmk := makeZ N N (by omega) (by omega)
            have C0 : Hid (Blz (wo.alloc (.cells (rowZ (List.replicate N 0)) 3)) wo.heap.size (PN.cntL N (PN.cntTo dn us R 0))) := Lib.hid (by
              have : PN.cntL N (PN.cntTo dn us R 0) = List.replicate N 0 := by
                apply List.ext_getElem (by simp [PN.cntL])
                intro j h1 h2
                simp [PN.cntL, PN.cntTo]
              rw [this]
              exact heap_alloc_new _ _)
            have GA : Hid (Gr wo (wo.alloc (.cells (rowZ (List.replicate N 0)) 3))) := Lib.hid (Gr.alloc (Gr.refl _) _ _)
            have htp : (0 : Int) < (N : Int) - t := by omega
            go_wp2_with fail
            clear hmk htp
            generalize hW2 : wo.alloc (.cells (rowZ (List.replicate N 0)) 3) = w2 at *
            obtain ⟨gc, hgc⟩ : ∃ g, wo.heap.size = g := ⟨_, rfl⟩
            rw [hgc] at C0 ⊢
            have HGC := Lib.hid hgc
            clear hW2 hgc
            go_loopw [12, 13, 55] (fun rv cv kv W => ∃ k : Nat, k ≤ i ∧ kv = .int .i64 k ∧ rv = .int .i64 (PN.rowZ (PN.firstTo dn us R k)) ∧ cv = .int .i64 (PN.colZ dn R (PN.firstTo dn us R k)) ∧ Blz W gc (PN.cntL N (PN.cntTo dn us R k)) ∧ Gr wo W) (fun _ _ kv _ => i - (intOf kv).toNat)
            case atStart => exact ⟨0, by omega, rfl, rfl, rfl, C0.out, GA.out⟩
            case round =>
              clear C0 GA
              obtain ⟨wp, hwp⟩ : ∃ x, x = wr := ⟨_, rfl⟩
              subst hwp
              obtain ⟨k, hk, rfl, rfl, rfl, hbz, hgk⟩ := hrel
              obtain ⟨rz, hrz⟩ : ∃ z, PN.rowZ (PN.firstTo dn us R k) = z := ⟨_, rfl⟩
              obtain ⟨cz, hcz⟩ : ∃ z, PN.colZ dn R (PN.firstTo dn us R k) = z := ⟨_, rfl⟩
              rw [hrz, hcz]
              have HRZ := Lib.hid hrz
              have HCZ := Lib.hid hcz
              clear hrz hcz
              have BZ := Lib.hid hbz
              have GK := Lib.hid hgk
              clear hbz hgk
              by_cases hki : k < i
              · obtain ⟨a, rfl⟩ := Zss.addr HZ.out (by omega)
                have hgw : Gr w wp := Gr.trans G0.out.1 (Gr.trans PP.out.gr GK.out)
                obtain ⟨u, q1, hu⟩ := Zss.rowAt (HZ.out.grown hgw) hki
                obtain ⟨ou, mu, cu, rfl⟩ := hu.form3
                have hcm := getD_memL (L := R) (i := k) (by rw [HM.out]; exact hki)
                have hmr := HMY.out.2.2 _ hcm
                have hbl : Bl wp (.slice (some ⟨gk, 0, none⟩) N N) dn := by
                  have h := (PP.out.k.grown GK.out).bl (by rw [HDL.out]; omega)
                  rw [HDL.out] at h
                  exact h
                have hcl := HC.out _ hcm
                have hop := open_own _ _ (R.getD k []) dn wp hu hbl (fun x hx => by rw [HDL.out]; exact hmr.1 x hx) hcl (by rw [HDL.out]; omega)
                have HOP := Lib.hid hop
                have q2 := (PP.out.u.grown GK.out).cell k (by rw [HUL.out]; exact hki)
                have hMO := openL_may (kn := dn) hmr
                have HMO := Lib.hid hMO
                have hnd : (openL dn (R.getD k [])).Nodup := (rising_pw hMO.2).imp fun {x y} h => by omega
                have HND := Lib.hid hnd
                have hol : (openL dn (R.getD k [])).length ≤ 1000 := Nat.le_trans (openL_le _ _) hcl
                clear hu hbl hop hmr hcl hcm hgw hMO hnd
                go_upto_region 20 with fail
                refine HOP.out.mono ?_
                rintro e w3 ⟨v3, rfl, ho3, hg3⟩
                have hz3 := owns_zs ho3 rfl (fun x hx => by have := HMO.out.1 x hx; exact ⟨by omega, by omega⟩)
                obtain ⟨o3, c3, rfl⟩ := hz3.form
                obtain ⟨no, hno⟩ : ∃ n, (openL dn (R.getD k [])).length = n := ⟨_, rfl⟩
                rw [hno] at hz3 hol ho3 ⊢
                have Z3 := Lib.hid hz3
                have HW3 : Hid (∀ g, o3 = some g → 0 < no → g.block ≠ gc) := Lib.hid (fun g e h0 he => by
                  have h1 := own_block_ge ho3 h0 e
                  have h2 := (Array.getElem?_eq_some_iff.1 (show wp.heap[gc]? = _ from BZ.out)).1
                  omega)
                clear ho3
                have G3 := Lib.hid (Gr.trans GK.out hg3)
                have B3 := Lib.hid (hbz' BZ.out hg3)
                have HNO := Lib.hid hno
                have q3 := cell_gr hg3 q2
                clear hz3 hg3 hno HOP q1 q2
                by_cases hused : us.getD k false = true
                · rw [hused] at q3
                  have hf := PN.firstTo_skip (dn := dn) (us := us) (R := R) (k := k) (by unfold PN.isOne; rw [hused]; rfl)
                  have hc := PN.cntTo_skip (dn := dn) (R := R) hused
                  have HF := Lib.hid hf
                  have HCT := Lib.hid hc
                  clear hf hc hused
                  go_wp2_with fail
                  exact ⟨⟨k + 1, by omega, by go_num, by rw [HF.out, HRZ.out], by rw [HF.out, HCZ.out], by rw [HCT.out]; exact B3.out, G3.out⟩, by simp [intOf]; omega⟩
                · have husf : us.getD k false = false := by simpa using hused
                  rw [husf] at q3
                  have hc := PN.cntTo_more (dn := dn) (R := R) husf
                  have HCT := Lib.hid hc
                  have HUF := Lib.hid husf
                  clear hc husf hused
                  go_upto_region 21 with fail
                  go_cut [73] (fun bv wx => wx = w3 ∧ ∃ b : Bool, bv = .bool b ∧ (b = true ↔ no = 1 ∧ rz < 0))
                  case first =>
                    by_cases h1 : no = 1
                    · subst h1
                      by_cases h2 : rz < 0
                      · go_wp2_with fail
                        go_meet
                        exact ⟨rfl, _, rfl, by simp [h2]⟩
                      · go_wp2_with fail
                        go_meet
                        exact ⟨rfl, _, rfl, by simp [h2]⟩
                    · have h1z : ((no : Int) == 1) = false := by simp; omega
                      go_wp2_with fail
                      go_meet
                      exact ⟨rfl, _, rfl, by simp [h1]⟩
                  case rest =>
                    obtain ⟨hwc, bt, rfl, hbt⟩ := hcut
                    subst hwc
                    go_upto_if 73 with fail
                    go_cut [12, 13] (fun rv cv wx => Gr wc wx ∧ rv = .int .i64 (PN.rowZ (PN.firstTo dn us R (k + 1))) ∧ cv = .int .i64 (PN.colZ dn R (PN.firstTo dn us R (k + 1))))
                    case first =>
                      cases bt with
                      | true =>
                        obtain ⟨hone, hrn⟩ := hbt.1 rfl
                        have hio : PN.isOne dn us R k = true := by
                          unfold PN.isOne
                          rw [HUF.out, HNO.out, hone]
                          rfl
                        have hn := (PN.rowZ_neg _).1 (by rw [HRZ.out]; exact hrn)
                        have hf := PN.firstTo_hit hn hio
                        have HF := Lib.hid hf
                        subst hone
                        obtain ⟨a3, rfl⟩ := Zs.addr Z3.out (by omega)
                        have q5 := Zs.cellAt Z3.out (i := 0) (by omega)
                        rw [add_nought] at q5
                        have hcol : PN.colOf dn R k = (openL dn (R.getD k [])).getD 0 0 := rfl
                        rw [← hcol] at q5
                        obtain ⟨x, hx⟩ : ∃ x, PN.colOf dn R k = x := ⟨_, rfl⟩
                        rw [hx] at q5
                        have HX := Lib.hid hx
                        clear hn hf hio hcol hx hbt
                        go_wp2_with fail
                        go_quiet (fail)
                        go_wp2_with fail
                        go_meet
                        rw [HF.out]
                        refine ⟨gr_drN wc _, rfl, ?_⟩
                        exact congrArg (Value.int .i64) HX.out.symm
                      | false =>
                        have hf2 : PN.firstTo dn us R (k + 1) = PN.firstTo dn us R k := by
                          by_cases hone : no = 1
                          · have hrn : ¬ rz < 0 := fun h => by have := hbt.2 ⟨hone, h⟩; cases this
                            obtain ⟨j, hj⟩ : ∃ j, PN.firstTo dn us R k = some j := by
                              cases h : PN.firstTo dn us R k with
                              | some j => exact ⟨j, rfl⟩
                              | none => exact absurd ((PN.rowZ_neg _).2 h) (by rw [HRZ.out]; exact hrn)
                            rw [PN.firstTo_had hj, hj]
                          · exact PN.firstTo_skip (by
                              unfold PN.isOne
                              rw [HNO.out, decide_eq_false hone, Bool.and_false])
                        have HF := Lib.hid hf2
                        clear hf2 hbt
                        go_wp2_with fail
                        go_meet
                        exact ⟨Gr.refl _, by rw [HF.out, HRZ.out], by rw [HF.out, HCZ.out]⟩
                    case rest =>
                      obtain ⟨hgx, rfl, rfl⟩ := hcut
                      have GX := Lib.hid (Gr.trans G3.out hgx)
                      have BX := Lib.hid (hbz' B3.out hgx)
                      have ZX := Lib.hid (Z3.out.grown hgx)
                      clear hgx G3 B3 Z3 HRZ HCZ
                      go_wp2_with fail
                      go_loopw [80] (fun pv W => ∃ p : Nat, p ≤ no ∧ pv = .int .i64 p ∧ Blz W gc (PN.cntL N (PN.cntP (PN.cntTo dn us R k) (openL dn (R.getD k [])) p)) ∧ Gr wo W ∧ Zs W (.slice o3 no c3) (openL dn (R.getD k []))) (fun pv _ => no - (intOf pv).toNat)
                      case atStart => exact ⟨0, by omega, rfl, by rw [PN.cntP_zero]; exact BX.out, GX.out, ZX.out⟩
                      case round =>
                        clear BX GX ZX
                        obtain ⟨wk, hwk⟩ : ∃ x, x = wr := ⟨_, rfl⟩
                        subst hwk
                        obtain ⟨p, hp, rfl, hbp, hgp, hzp⟩ := hrel
                        have BP := Lib.hid hbp
                        have GP := Lib.hid hgp
                        have ZP := Lib.hid hzp
                        clear hbp hgp hzp
                        by_cases hpt : p < no
                        · obtain ⟨a3, rfl⟩ := Zs.addr ZP.out (by omega)
                          have q5 := Zs.cellAt ZP.out hpt
                          have hxm := getD_memZ (l := openL dn (R.getD k [])) (i := p) (by rw [HNO.out]; exact hpt)
                          have hxr := HMO.out.1 _ hxm
                          obtain ⟨X, hX⟩ : ∃ X : Nat, (openL dn (R.getD k [])).getD p 0 = (X : Int) := ⟨_, (Int.toNat_of_nonneg hxr.1).symm⟩
                          have hst := PN.cntP_step (f := PN.cntTo dn us R k) (by rw [HNO.out]; exact hpt) HND.out hX
                          rw [hX] at q5 hxr
                          have hXN : X < N := by omega
                          have q6 := BP.out.cell X (by rw [PN.cntL_length]; exact hXN)
                          rw [PN.cntL_get hXN] at q6
                          have q7 := BP.out.frzP X
                          have hset := PN.cntL_set (f := PN.cntP (PN.cntTo dn us R k) (openL dn (R.getD k [])) p) hXN (PN.cntP (PN.cntTo dn us R k) (openL dn (R.getD k [])) p X + 1)
                          rw [hst] at hset
                          have hb := BP.out.putP X ((PN.cntP (PN.cntTo dn us R k) (openL dn (R.getD k [])) p X + 1 : Nat) : Int)
                          rw [hset] at hb
                          have hle : PN.cntP (PN.cntTo dn us R k) (openL dn (R.getD k [])) p X ≤ 2000 := by
                            have := PN.cntTo_le dn us R X k
                            unfold PN.cntP
                            split <;> omega
                          obtain ⟨y, hy⟩ : ∃ y, PN.cntP (PN.cntTo dn us R k) (openL dn (R.getD k [])) p X = y := ⟨_, rfl⟩
                          rw [hy] at q6 hb hle
                          have hle2 : (y : Int) ≤ 2000 := by omega
                          clear hle
                          rw [show ((y + 1 : Nat) : Int) = (y : Int) + 1 from by omega] at hb
                          have HB := Lib.hid hb
                          have HAW := Lib.hid (zs_far ZP.out (g := gc) (i := X) (v := .int .i64 ((y : Int) + 1)) (fun h0 => HW3.out _ rfl h0))
                          clear hb hst hset hxm hxr hX hy
                          go_wp2_with fail
                          exact ⟨⟨p + 1, by omega, by go_num, HB.out, Gr.setCell GP.out (by rw [← HGC.out]; exact Nat.le_refl _) _, HAW.out⟩, by simp [intOf]; omega⟩
                        · obtain rfl : p = no := by omega
                          go_wp2_with fail
                          exact ⟨⟨k + 1, by omega, by go_num, rfl, rfl, by rw [HCT.out, HNO.out]; exact BP.out, GP.out⟩, by simp [intOf]; omega⟩
              · obtain rfl : k = i := by omega
                have hrun : (PN.run N R t) = ⟨dn, us, (PN.run N R t).steps, (PN.run N R t).dead⟩ := by rw [← HDN.out, ← HUS.out]
                have HRUN := Lib.hid hrun
                have hpg := PP.out.grown GK.out
                have PG := Lib.hid hpg
                clear hrun hpg
                obtain ⟨st, hst⟩ : ∃ s, (PN.run N R t).steps = s := ⟨_, rfl⟩
                obtain ⟨de, hde⟩ : ∃ s, (PN.run N R t).dead = s := ⟨_, rfl⟩
                rw [hst, hde] at PG HRUN
                clear hst hde PP
                cases hft : PN.firstTo dn us R k with
                | some j =>
                  obtain ⟨hj1, hj2, _⟩ := (PN.firstTo_spec dn us R k).1 j hft
                  obtain ⟨_, _, hx0, hx1, hx2⟩ := PN.one_col HMY.out.2.2 (by rw [HM.out]; exact hj1) hj2
                  rw [hft] at HRZ HCZ
                  obtain ⟨X, hX⟩ : ∃ X : Nat, PN.colOf dn R j = (X : Int) := ⟨_, (Int.toNat_of_nonneg hx0).symm⟩
                  have hnx : PN.run N R (t + 1) = ⟨dn.set X true, us.set j true, st ++ [((j : Int), (X : Int))], de⟩ := by
                    rw [HNX.out, HRUN.out, PN.next_some (i := j) (by rw [HM.out]; exact hft)]
                    show PN.St.mk (dn.set (PN.colOf dn R j).toNat true) (us.set j true) (st ++ [((j : Int), PN.colOf dn R j)]) de = _
                    rw [hX, Int.toNat_natCast]
                  have hrz : rz = (j : Int) := HRZ.out.symm
                  have hcz : cz = (X : Int) := by rw [← HCZ.out]; exact hX
                  subst hrz hcz
                  rw [hX] at hx1
                  have hXN : X < N := by omega
                  have HNX2 := Lib.hid hnx
                  clear hnx hx0 hx1 hx2 hj2 hX HRZ HCZ hft HNX
                  obtain ⟨os, cs, hsf⟩ := PG.out.s.form
                  obtain ⟨ls, hls⟩ : ∃ l, st.length = l := ⟨_, rfl⟩
                  rw [hls] at hsf
                  subst hsf
                  have hlsb : ls ≤ 64 := by
                    have h1 := HIN.out.cnt
                    rw [HRUN.out] at h1
                    have h1 : st.length + de.length = t := h1
                    omega
                  have p1 := PG.out.u.cell j (by rw [HUL.out]; exact hj1)
                  have p2 := PG.out.u.frozen j
                  have P1 := PG.out.putU j
                  have p3 := P1.k.cell X (by rw [HDL.out]; exact hXN)
                  have p4 := P1.k.frozen X
                  have P2 := P1.putK X
                  have p5 := P2.cellO.1
                  have HP2 := Lib.hid P2
                  have HLS := Lib.hid hls
                  clear P1 P2 hls
                  go_upto_region 31 with fail
                  generalize hW4 : ((wp.setCell ⟨gu, j, none⟩ (.bool true)).setCell ⟨gk, X, none⟩ (.bool true)) = w4 at *
                  clear hW4 p1 p2 p3 p4
                  have P3 := Lib.hid (HP2.out.grown (Gr.alloc (Gr.refl w4) #[.int .i64 (j : Int), .int .i64 (X : Int)] 40))
                  go_wp2_with (at_builtin; refine wpList_append_step rfl _ _ rfl w1.heap.size (.slice os ls cs) st rfl P3.out.s w4.heap.size ((j : Int), (X : Int)) rfl (by rw [cell_of_row _ _ 0 _ _ _ (heap_alloc_new _ _)]; rfl) (by rw [cell_of_row _ _ 1 _ _ _ (heap_alloc_new _ _)]; rfl) (by rw [HLS.out]; omega) P3.out.gr.size ?_; intro v5 w5 h1 h2; obtain ⟨o5, c5, e5⟩ := StepsO.form h1; rw [List.length_append, HLS.out] at e5; have e5 : v5 = .slice o5 (ls + 1) c5 := e5; subst e5; have p7 := (P3.out.afterS h2).1; have p8 := (P3.out.afterS h2).2; have HP3 := Lib.hid (P3.out.step h1 h2); clear h1 h2)
                  exact ⟨⟨t + 1, _, _, by omega, by go_num, by rw [HNX2.out]; exact HP3.out⟩, by simp [intOf]; omega⟩
                | none =>
                  rw [hft] at HRZ HCZ
                  have hrz : rz = -1 := HRZ.out.symm
                  have hcz : cz = -1 := HCZ.out.symm
                  subst hrz hcz
                  have HFT := Lib.hid hft
                  obtain ⟨f, hf⟩ : ∃ f, PN.cntTo dn us R k = f := ⟨_, rfl⟩
                  have hfl : ∀ c, (f c : Int) ≤ 2000 := fun c => by
                    have := PN.cntTo_le dn us R c k
                    rw [hf] at this
                    omega
                  rw [hf] at BZ
                  have HFL := Lib.hid hfl
                  have HFE := Lib.hid hf
                  clear hft HRZ HCZ hf hfl
                  go_wp2_with fail
                  go_loopw [13, 20] (fun bv cv W => ∃ c : Nat, c ≤ N ∧ cv = .int .i64 c ∧ bv = .int .i64 (PN.rowZ (PN.bestTo dn f c)) ∧ ∃ q, W = wp.drewN q) (fun _ cv _ => N - (intOf cv).toNat)
                  case atStart => exact ⟨0, by omega, rfl, rfl, 0, rfl⟩
                  case round =>
                    obtain ⟨wb, hwb⟩ : ∃ x, x = wr := ⟨_, rfl⟩
                    subst hwb
                    obtain ⟨x, hx, rfl, rfl, hwd⟩ := hrel
                    have hgd : Gr wp wb := by
                      obtain ⟨d, rfl⟩ := hwd
                      exact gr_drN wp d
                    have HWD := Lib.hid hwd
                    clear hwd
                    obtain ⟨bz, hbz⟩ : ∃ z, PN.rowZ (PN.bestTo dn f x) = z := ⟨_, rfl⟩
                    rw [hbz]
                    have HBZ := Lib.hid hbz
                    clear hbz
                    by_cases hxn : x < N
                    · have q1 := (PG.out.k.grown hgd).cell x (by rw [HDL.out]; exact hxn)
                      have q2 := (hbz' BZ.out hgd).cell x (by rw [PN.cntL_length]; exact hxn)
                      rw [PN.cntL_get hxn] at q2
                      by_cases hdx : dn.getD x false = true
                      · rw [hdx] at q1
                        have hb : PN.bestTo dn f (x + 1) = PN.bestTo dn f x := by
                          show (if dn.getD x false = true then _ else _) = _
                          rw [if_pos hdx]
                        have HB := Lib.hid hb
                        clear hb hdx hgd
                        go_wp2_with fail
                        go_quiet (fail)
                        go_wp2_with fail
                        exact ⟨⟨x + 1, by omega, by go_num, by rw [HB.out, HBZ.out], drN_moreQ HWD.out _⟩, by simp [intOf]; omega⟩
                      · have hdf : dn.getD x false = false := by simpa using hdx
                        rw [hdf] at q1
                        by_cases hbn : bz < 0
                        · have hnone := (PN.rowZ_neg _).1 (by rw [HBZ.out]; exact hbn)
                          have hb : PN.bestTo dn f (x + 1) = some x := by
                            show (if dn.getD x false = true then _ else _) = _
                            rw [if_neg hdx, hnone]
                          have HB := Lib.hid hb
                          clear hb hdx hdf hgd hnone
                          go_wp2_with fail
                          go_quiet (fail)
                          go_wp2_with fail
                          exact ⟨⟨x + 1, by omega, by go_num, by rw [HB.out]; rfl, drN_moreQ HWD.out _⟩, by simp [intOf]; omega⟩
                        · obtain ⟨b0, hb0⟩ : ∃ b0, PN.bestTo dn f x = some b0 := by
                            cases h : PN.bestTo dn f x with
                            | some j => exact ⟨j, rfl⟩
                            | none => exact absurd ((PN.rowZ_neg _).2 h) (by rw [HBZ.out]; exact hbn)
                          have hbx := ((PN.bestTo_spec dn f x).1 b0 hb0).1
                          have hbz2 : bz = (b0 : Int) := by rw [← HBZ.out, hb0]; rfl
                          subst hbz2
                          have q3 := (hbz' BZ.out hgd).cell b0 (by rw [PN.cntL_length]; omega)
                          rw [PN.cntL_get (by omega)] at q3
                          have hbn2 : b0 < N := by omega
                          have hs : PN.bestTo dn f (x + 1) = if f b0 < f x then some x else some b0 := by
                            show (if dn.getD x false = true then _ else _) = _
                            rw [if_neg hdx, hb0]
                          have y1 := HFL.out x
                          have y2 := HFL.out b0
                          by_cases hlt : f b0 < f x
                          · rw [if_pos hlt] at hs
                            have HB := Lib.hid hs
                            have hlz : (f b0 : Int) < (f x : Int) := by omega
                            clear hs hdx hdf hgd hb0 hbx hlt HFE
                            generalize (f b0 : Int) = z1 at *
                            generalize (f x : Int) = z2 at *
                            go_wp2_with fail
                            go_quiet (fail)
                            go_wp2_with fail
                            exact ⟨⟨x + 1, by omega, by go_num, by rw [HB.out]; rfl, drN_moreQ HWD.out _⟩, by simp [intOf]; omega⟩
                          · rw [if_neg hlt] at hs
                            have HB := Lib.hid hs
                            have hlz : ¬ (f b0 : Int) < (f x : Int) := by omega
                            clear hs hdx hdf hgd hb0 hbx hlt HFE
                            generalize (f b0 : Int) = z1 at *
                            generalize (f x : Int) = z2 at *
                            go_wp2_with fail
                            go_quiet (fail)
                            go_wp2_with fail
                            exact ⟨⟨x + 1, by omega, by go_num, by rw [HB.out]; rfl, drN_moreQ HWD.out _⟩, by simp [intOf]; omega⟩
                    · obtain rfl : x = N := by omega
                      have hunk : 0 < PN.unkN dn x := by
                        have h1 := HIN.out.unk
                        rw [HDN.out] at h1
                        omega
                      obtain ⟨b, hb⟩ := PN.bestTo_some (f := f) hunk
                      have hbs := ((PN.bestTo_spec dn f x).1 b hb).1
                      have hnx : PN.run x R (t + 1) = ⟨dn.set b true, us, st, de ++ [(b : Int)]⟩ := by
                        rw [HNX.out, HRUN.out, PN.next_none (b := b) (by rw [HM.out]; exact HFT.out) (by rw [HM.out]; show PN.bestTo dn (PN.cntTo dn us R k) x = _; rw [HFE.out]; exact hb)]
                      have hbz2 : bz = (b : Int) := by rw [← HBZ.out, hb]; rfl
                      subst hbz2
                      have HNX2 := Lib.hid hnx
                      have PB := Lib.hid (PG.out.grown hgd)
                      clear hunk hb hnx HBZ PG hgd
                      obtain ⟨od, cd, hdf⟩ := ownsRow_form'' PB.out.d
                      obtain ⟨ld, hld⟩ : ∃ l, de.length = l := ⟨_, rfl⟩
                      rw [hld] at hdf
                      subst hdf
                      have hldb : ld ≤ 64 := by
                        have h1 := HIN.out.cnt
                        rw [HRUN.out] at h1
                        have h1 : st.length + de.length = t := h1
                        omega
                      have p3 := PB.out.k.cell b (by rw [HDL.out]; exact hbs)
                      have p4 := PB.out.k.frozen b
                      have P2 := PB.out.putK b
                      have p5 := P2.cellO.2.1
                      have HP2 := Lib.hid P2
                      have HLD := Lib.hid hld
                      clear P2 hld
                      go_upto_region 38 with fail
                      generalize hW4 : (wb.setCell ⟨gk, b, none⟩ (.bool true)) = w4 at *
                      clear hW4 p3 p4
                      have P3 := Lib.hid (HP2.out.grown (Gr.alloc (Gr.refl w4) #[.int .i64 (b : Int)] 3))
                      have D3 : Hid ((w4.alloc (.cells #[.int .i64 (b : Int)] 3)).ownsRow w1.heap.size 3 1 (.slice od ld cd) ld (de.map (Value.int .i64))) := Lib.hid (by
                        have h := P3.out.d
                        rw [HLD.out] at h
                        exact h)
                      go_wp2_with (at_builtin; refine wpList_append_int rfl _ _ rfl w1.heap.size (.slice od ld cd) ld de rfl D3.out w4.heap.size (b : Int) rfl (by rw [cell_of_row _ _ 0 _ _ _ (heap_alloc_new _ _)]; rfl) (by omega) P3.out.gr.size ?_; intro g5 c5 w5 h1 h2 h3; have p7 := (P3.out.afterD h2).1; have p8 := (P3.out.afterD h2).2; have HP3 := Lib.hid (P3.out.off (by rw [List.length_append, HLD.out]; exact h1) h2 rfl h3); clear h1 h2 h3)
                      exact ⟨⟨t + 1, _, _, by omega, by go_num, by rw [HNX2.out]; exact HP3.out⟩, by simp [intOf]; omega⟩
          · obtain rfl : t = N := by omega
            obtain ⟨us, hus⟩ : ∃ x, (PN.run t R t).us = x := ⟨_, rfl⟩
            have HIN := PN.run_inv HMY.out.2.2 t (Nat.le_refl _)
            have HUL : Hid (us.length = i) := Lib.hid (by rw [← hus, ← HM.out]; exact HIN.us)
            rw [hus] at PP
            have HUS := Lib.hid hus
            clear hus HIN
            obtain ⟨dn, hdn⟩ : ∃ x, (PN.run t R t).dn = x := ⟨_, rfl⟩
            obtain ⟨st, hst⟩ : ∃ x, (PN.run t R t).steps = x := ⟨_, rfl⟩
            obtain ⟨de, hde⟩ : ∃ x, (PN.run t R t).dead = x := ⟨_, rfl⟩
            rw [hdn, hst, hde] at PP
            have HST := Lib.hid hst
            have HDE := Lib.hid hde
            obtain ⟨os, cs, e1⟩ := PP.out.s.form
            obtain ⟨od, cd, e2⟩ := ownsRow_form'' PP.out.d
            subst e1 e2
            clear hdn hst hde
            rw [show (t : Int) - t = 0 from by omega]
            go_wp2_with fail
            go_loopw [145] (fun kv W => ∃ (k : Nat) (lv : Value), k ≤ i ∧ kv = .int .i64 k ∧ PlanAt w1 W gk gu (w.heap.size + 1) dn us (.slice os st.length cs) (.slice od de.length cd) lv st de (PN.leftTo us k)) (fun kv _ => i - (intOf kv).toNat)
            case atStart => exact ⟨0, _, by omega, rfl, PP.out⟩
            case round =>
              clear PP
              obtain ⟨wk, hwk⟩ : ∃ x, x = wr := ⟨_, rfl⟩
              subst hwk
              obtain ⟨k, lv, hk, rfl, hp⟩ := hrel
              obtain ⟨ol, cl, e3⟩ := ownsRow_form'' hp.l
              obtain ⟨ll, hll⟩ : ∃ l, (PN.leftTo us k).length = l := ⟨_, rfl⟩
              rw [hll] at e3
              subst e3
              have PK := Lib.hid hp
              have HLL := Lib.hid hll
              have hlb : ll ≤ 1000 := by
                rw [← hll]
                exact Nat.le_trans (PN.leftTo_le us k) (by omega)
              clear hp hll
              by_cases hki : k < i
              · have q1 := PK.out.u.cell k (by rw [HUL.out]; exact hki)
                by_cases huk : us.getD k false = true
                · rw [huk] at q1
                  have hl : PN.leftTo us (k + 1) = PN.leftTo us k := by
                    show PN.leftTo us k ++ _ = _
                    rw [if_pos huk, List.append_nil]
                  have HL := Lib.hid hl
                  clear hl huk
                  go_wp2_with fail
                  exact ⟨⟨k + 1, _, by omega, by go_num, by rw [HL.out]; exact PK.out⟩, by simp [intOf]; omega⟩
                · have huf : us.getD k false = false := by simpa using huk
                  rw [huf] at q1
                  have hl : PN.leftTo us (k + 1) = PN.leftTo us k ++ [(k : Int)] := by
                    show PN.leftTo us k ++ _ = _
                    rw [if_neg huk]
                  have HL := Lib.hid hl
                  have p5 := PK.out.cellO.2.2
                  have P3 := Lib.hid (PK.out.grown (Gr.alloc (Gr.refl wk) #[.int .i64 (k : Int)] 3))
                  have D3 : Hid ((wk.alloc (.cells #[.int .i64 (k : Int)] 3)).ownsRow w1.heap.size 3 1 (.slice ol ll cl) ll ((PN.leftTo us k).map (Value.int .i64))) := Lib.hid (by
                    have h := P3.out.l
                    rw [HLL.out] at h
                    exact h)
                  clear hl huk huf
                  go_wp2_with (at_builtin; refine wpList_append_int rfl _ _ rfl w1.heap.size (.slice ol ll cl) ll (PN.leftTo us k) rfl D3.out wk.heap.size (k : Int) rfl (by rw [cell_of_row _ _ 0 _ _ _ (heap_alloc_new _ _)]; rfl) (by omega) P3.out.gr.size ?_; intro g5 c5 w5 h1 h2 h3; have p7 := (P3.out.afterL h2).1; have p8 := (P3.out.afterL h2).2; have HP3 := Lib.hid (P3.out.more (by rw [List.length_append, HLL.out]; exact h1) h2 rfl h3); clear h1 h2 h3)
                  exact ⟨⟨k + 1, _, by omega, by go_num, by rw [HL.out]; exact HP3.out⟩, by simp [intOf]; omega⟩
              · obtain rfl : k = i := by omega
                have hcs := PK.out.cellO
                have c0 := hcs.1
                have c1 := hcs.2.1
                have c2 := hcs.2.2
                have hgr := keptRow PK.out.gr G0.out.2
                have HGR := Lib.hid hgr
                generalize hls : st.length = ls at *
                generalize hld : de.length = ld at *
                have HLS := Lib.hid hls
                have HLD := Lib.hid hld
                clear hcs hgr hls hld
                obtain ⟨g0, hg0⟩ : ∃ g, w.heap.size = g := ⟨_, rfl⟩
                have HE0 := Lib.hid hg0
                rw [hg0] at HGR c0 c1 c2
                rw [hg0]
                have b1 : Hid ((wk.setCell ⟨g0, 0, none⟩ (.slice os ls cs)).heap[g0]? = some (.cells #[.slice os ls cs, .slice none 0 0, .slice none 0 0] 31 (0, 0))) := Lib.hid (heap_setCell_same _ _ _ _ _ _ HGR.out)
                have b2 : Hid (((wk.setCell ⟨g0, 0, none⟩ (.slice os ls cs)).setCell ⟨g0, 1, none⟩ (.slice od ld cd)).heap[g0]? = some (.cells #[.slice os ls cs, .slice od ld cd, .slice none 0 0] 31 (0, 0))) := Lib.hid (heap_setCell_same _ _ _ _ _ _ b1.out)
                have b3 : Hid ((((wk.setCell ⟨g0, 0, none⟩ (.slice os ls cs)).setCell ⟨g0, 1, none⟩ (.slice od ld cd)).setCell ⟨g0, 2, none⟩ (.slice ol ll cl)).heap[g0]? = some (.cells #[.slice os ls cs, .slice od ld cd, .slice ol ll cl] 31 (0, 0))) := Lib.hid (heap_setCell_same _ _ _ _ _ _ b2.out)
                have a0 : wk.cell? ⟨g0, 0, none⟩ = some (.slice none 0 0) := by rw [cell_of_row _ _ _ _ _ _ HGR.out]; rfl
                have f0 : wk.frozen? ⟨g0, 0, none⟩ = false := frozen_of_row _ _ _ _ _ HGR.out
                have a1 : (wk.setCell ⟨g0, 0, none⟩ (.slice os ls cs)).cell? ⟨g0, 1, none⟩ = some (.slice none 0 0) := by rw [cell_of_row _ _ _ _ _ _ b1.out]; rfl
                have f1 : (wk.setCell ⟨g0, 0, none⟩ (.slice os ls cs)).frozen? ⟨g0, 1, none⟩ = false := frozen_of_row _ _ _ _ _ b1.out
                have a2 : ((wk.setCell ⟨g0, 0, none⟩ (.slice os ls cs)).setCell ⟨g0, 1, none⟩ (.slice od ld cd)).cell? ⟨g0, 2, none⟩ = some (.slice none 0 0) := by rw [cell_of_row _ _ _ _ _ _ b2.out]; rfl
                have f2 : ((wk.setCell ⟨g0, 0, none⟩ (.slice os ls cs)).setCell ⟨g0, 1, none⟩ (.slice od ld cd)).frozen? ⟨g0, 2, none⟩ = false := frozen_of_row _ _ _ _ _ b2.out
                have hpl := plan_load b3.out
                have HPL := Lib.hid hpl
                have hsay : PN.Says t R st de (PN.leftTo us k) true := .inr ⟨HMY.out, rfl, by rw [Int.toNat_natCast]; exact HST.out.symm, by rw [Int.toNat_natCast]; exact HDE.out.symm, by rw [Int.toNat_natCast]; show PN.leftTo us k = PN.leftTo (PN.run t R t).us R.length; rw [HUS.out, HM.out]⟩
                have HSY := Lib.hid hsay
                have hgf : Gr w (((wk.setCell ⟨g0, 0, none⟩ (.slice os ls cs)).setCell ⟨g0, 1, none⟩ (.slice od ld cd)).setCell ⟨g0, 2, none⟩ (.slice ol ll cl)) := Gr.setCell (Gr.setCell (Gr.setCell (Gr.trans G0.out.1 PK.out.gr) (by rw [HE0.out]; exact Nat.le_refl _) _) (by rw [HE0.out]; exact Nat.le_refl _) _) (by rw [HE0.out]; exact Nat.le_refl _) _
                have hsf := own_set (x := .slice ol ll cl) (o := 2) (own_set (x := .slice od ld cd) (o := 1) (own_set (x := .slice os ls cs) (o := 0) PK.out.s HGR.out (by decide)) b1.out (by decide)) b2.out (by decide)
                have hdf := own_set (x := .slice ol ll cl) (o := 2) (own_set (x := .slice od ld cd) (o := 1) (own_set (x := .slice os ls cs) (o := 0) PK.out.d HGR.out (by decide)) b1.out (by decide)) b2.out (by decide)
                have hlf := own_set (x := .slice ol ll cl) (o := 2) (own_set (x := .slice od ld cd) (o := 1) (own_set (x := .slice os ls cs) (o := 0) PK.out.l HGR.out (by decide)) b1.out (by decide)) b2.out (by decide)
                have HGF := Lib.hid hgf
                have HSF := Lib.hid (StepsO.stp hsf)
                have HDF := Lib.hid (owns_zs hdf rfl (PN.dead_i64 HMY.out HDE.out))
                have HLF := Lib.hid (owns_zs hlf rfl (PN.left_i64 us k (by omega)))
                clear hpl hsay hgf hsf hdf hlf
                go_wp2_with fail
                refine bodyPost_ret (v := .tuple #[.agg #[.slice os ls cs, .slice od ld cd, .slice ol ll cl], .bool true]) (by rw [results_cell_tmp rfl]; exact plan_res HPL.out) rfl ?_
                exact ⟨_, _, _, st, de, PN.leftTo us k, true, rfl, HSF.out, HDF.out, HLF.out, HGF.out, HSY.out⟩
end Go.Proofs.Ytdmcncpndogdlaa
namespace Go.Proofs.Ytdmcncpndogdlaa
open Go.RowKit

theorem Stp.lay {w : World} {oa : Option Addr} {m c : Nat} {L : List (Int × Int)} (h : Stp w (.slice oa m c) L) (hm : 0 < m) : ∃ b o, oa = some ⟨b, o, none⟩ := by
  obtain ⟨oa', c', he, _, _, _, h5⟩ := h
  cases he
  obtain ⟨b, o, e, _⟩ := h5 hm
  exact ⟨b, o, e⟩
theorem Stp.at {w : World} {b o m c : Nat} {L : List (Int × Int)} (h : Stp w (.slice (some ⟨b, o, none⟩) m c) L) {i : Nat} (hi : i < m) : w.cell? ⟨b, o + i * 2, none⟩ = some (.int .i64 (L.getD i (0, 0)).1) ∧ w.cell? ⟨b, o + i * 2 + 1, none⟩ = some (.int .i64 (L.getD i (0, 0)).2) := by
  obtain ⟨oa', c', he, _, _, _, h5⟩ := h
  cases he
  obtain ⟨b', o', e, h6⟩ := h5 (by omega)
  cases e
  exact h6 i hi
theorem Stp.len {w : World} {o : Option Addr} {m c : Nat} {L : List (Int × Int)} (h : Stp w (.slice o m c) L) : L.length = m := by
  obtain ⟨oa, c', he, _⟩ := h
  cases he
  rfl
set_option maxHeartbeats 800000 in
theorem sameStep_true (va vb : Value) (A : List (Int × Int)) (w : World) (ha : Stp w va A) (hb : Stp w vb A) (hl : A.length ≤ 1000) :
    Calls Try.prog 26 #[va, vb] w fun e w' => e = .returned (.bool true) ∧ Gr w w' := by
  obtain ⟨oa, ca, rfl⟩ := ha.form
  obtain ⟨ob, cb, rfl⟩ := hb.form
  obtain ⟨n, hn⟩ : ∃ n, A.length = n := ⟨_, rfl⟩
  rw [hn] at ha hb hl ⊢
  have HA := Lib.hid ha
  have HB := Lib.hid hb
  clear ha hb hn
  go_enter Try.func26, Try.ntmps26
  go_wp2
  go_loopw [13] (fun iv W => ∃ i : Nat, i ≤ n ∧ iv = .int .i64 i ∧ Gr w W) (fun iv _ => n - (intOf iv).toNat)
  case atStart => exact ⟨0, by omega, rfl, Gr.refl _⟩
  case round =>
    obtain ⟨wo, hwo⟩ : ∃ x, x = wr := ⟨_, rfl⟩
    subst hwo
    obtain ⟨i, hi, rfl, hg⟩ := hrel
    have G := Lib.hid hg
    clear hg
    by_cases hlt : i < n
    · obtain ⟨b1, q1, rfl⟩ := HA.out.lay (by omega)
      obtain ⟨b2, q2, rfl⟩ := HB.out.lay (by omega)
      obtain ⟨p1, p2⟩ := (HA.out.grown G.out).at hlt
      obtain ⟨p3, p4⟩ := (HB.out.grown G.out).at hlt
      generalize (A.getD i (0, 0)).1 = x at *
      generalize (A.getD i (0, 0)).2 = y at *
      go_wp2_with fail
      go_quiet (fail)
      go_wp2_with fail
      exact ⟨⟨i + 1, by omega, by go_num, G.out⟩, by simp [intOf]; omega⟩
    · obtain rfl : i = n := by omega
      go_wp2
      go_ret
      exact ⟨rfl, G.out⟩
set_option maxHeartbeats 800000 in
theorem samePlan_true (s1 d1 l1 s2 d2 l2 : Value) (S : List (Int × Int)) (D L : List Int) (w : World) (h1 : Stp w s1 S) (h2 : Zs w d1 D) (h3 : Zs w l1 L) (h4 : Stp w s2 S) (h5 : Zs w d2 D) (h6 : Zs w l2 L) (hl : S.length ≤ 1000) :
    Calls Try.prog 13 #[.agg #[s1, d1, l1], .agg #[s2, d2, l2]] w fun e w' => e = .returned (.bool true) ∧ Gr w w' := by
  obtain ⟨os1, cs1, rfl⟩ := h1.form
  obtain ⟨os2, cs2, rfl⟩ := h4.form
  obtain ⟨od1, md1, cd1, rfl⟩ := h2.form3
  obtain ⟨od2, md2, cd2, rfl⟩ := h5.form3
  obtain ⟨ol1, ml1, cl1, rfl⟩ := h3.form3
  obtain ⟨ol2, ml2, cl2, rfl⟩ := h6.form3
  obtain ⟨n, hn⟩ : ∃ n, S.length = n := ⟨_, rfl⟩
  rw [hn] at h1 h4 ⊢
  rw [hn] at hl
  have H1 := Lib.hid h1
  have H2 := Lib.hid h2
  have H3 := Lib.hid h3
  have H4 := Lib.hid h4
  have H5 := Lib.hid h5
  have H6 := Lib.hid h6
  have HN := Lib.hid hn
  clear h1 h2 h3 h4 h5 h6 hn
  go_enter Try.func13, Try.ntmps13
  go_wp2_with fail
  have hg : Gr w ((w.alloc (.cells #[.slice os1 n cs1, .slice od1 md1 cd1, .slice ol1 ml1 cl1] 31)).alloc (.cells #[.slice os2 n cs2, .slice od2 md2 cd2, .slice ol2 ml2 cl2] 31)) := Gr.alloc (Gr.alloc (Gr.refl _) _ _) _ _
  have hb1 : ((w.alloc (.cells #[.slice os1 n cs1, .slice od1 md1 cd1, .slice ol1 ml1 cl1] 31)).alloc (.cells #[.slice os2 n cs2, .slice od2 md2 cd2, .slice ol2 ml2 cl2] 31)).heap[w.heap.size]? = some (.cells #[.slice os1 n cs1, .slice od1 md1 cd1, .slice ol1 ml1 cl1] 31 (0, 0)) := keptRow (Gr.alloc (Gr.refl _) _ _) (heap_alloc_new w _)
  have hb2 : ((w.alloc (.cells #[.slice os1 n cs1, .slice od1 md1 cd1, .slice ol1 ml1 cl1] 31)).alloc (.cells #[.slice os2 n cs2, .slice od2 md2 cd2, .slice ol2 ml2 cl2] 31)).heap[w.heap.size + 1]? = some (.cells #[.slice os2 n cs2, .slice od2 md2 cd2, .slice ol2 ml2 cl2] 31 (0, 0)) := by
    have hz : (w.alloc (.cells #[.slice os1 n cs1, .slice od1 md1 cd1, .slice ol1 ml1 cl1] 31)).heap.size = w.heap.size + 1 := by simp
    rw [← hz]
    exact heap_alloc_new _ _
  generalize ((w.alloc (.cells #[.slice os1 n cs1, .slice od1 md1 cd1, .slice ol1 ml1 cl1] 31)).alloc (.cells #[.slice os2 n cs2, .slice od2 md2 cd2, .slice ol2 ml2 cl2] 31)) = w2 at *
  have G := Lib.hid hg
  refine (sameStep_true _ _ S _ (H1.out.grown hg) (H4.out.grown hg) (by rw [HN.out]; exact hl)).mono ?_
  rintro e w3 ⟨rfl, hg3⟩
  have hc1 := keptRow hg3 hb1
  have hc2 := keptRow hg3 hb2
  have p1 : w3.cell? ⟨w.heap.size, 1, none⟩ = some (.slice od1 md1 cd1) := by rw [cell_of_row _ _ _ _ _ _ hc1]; rfl
  have p2 : w3.cell? ⟨w.heap.size + 1, 1, none⟩ = some (.slice od2 md2 cd2) := by rw [cell_of_row _ _ _ _ _ _ hc2]; rfl
  have G3 := Lib.hid (Gr.trans hg hg3)
  have C1 := Lib.hid hc1
  have C2 := Lib.hid hc2
  clear hg hg3 hb1 hb2 hc1 hc2
  go_wp2_with fail
  refine (sameZ_any _ _ D D _ (H2.out.grown G3.out) (H5.out.grown G3.out)).mono ?_
  rw [beq_self_eq_true]
  rintro e w4 ⟨rfl, hg4⟩
  have q1 : w4.cell? ⟨w.heap.size, 2, none⟩ = some (.slice ol1 ml1 cl1) := by rw [cell_of_row _ _ _ _ _ _ (keptRow hg4 C1.out)]; rfl
  have q2 : w4.cell? ⟨w.heap.size + 1, 2, none⟩ = some (.slice ol2 ml2 cl2) := by rw [cell_of_row _ _ _ _ _ _ (keptRow hg4 C2.out)]; rfl
  have G4 := Lib.hid (Gr.trans G3.out hg4)
  clear hg4
  go_wp2_with fail
  refine (sameZ_any _ _ L L _ (H3.out.grown G4.out) (H6.out.grown G4.out)).mono ?_
  rw [beq_self_eq_true]
  rintro e w5 ⟨rfl, hg5⟩
  have G5 := Lib.hid (Gr.trans G4.out hg5)
  clear hg5
  go_wp2_with fail
  go_ret
  exact ⟨rfl, G5.out⟩
/-- The contract of package inact. -/
structure InactOk : Prop where
  plan : ∀ (n : Int) (v : Value) (R : List (List Int)) (w : World), I64 n → Zss w v R → R.length ≤ 1000 → (∀ c ∈ R, c.length ≤ 1000) → Calls Try.prog 11 #[.int .i64 n, v] w (PlanOut n R w)
theorem wake_plan : PN.steps 1 [] = [] ∧ PN.dead 1 [] = [0] := by decide
set_option maxHeartbeats 800000 in
theorem planWakes_any (O : InactOk) (w : World) : Calls Try.prog 7 #[] w fun e w' => e = .returned (.bool true) ∧ Gr w w' := by
  have HO := Lib.hid O
  clear O
  go_enter Try.func7, Try.ntmps7
  go_wp2_with fail
  refine (HO.out.plan 1 _ [] _ ⟨by omega, by omega⟩ (Zss.nil _) (by simp) (by simp)).mono ?_
  rintro e w1 ⟨sv, dv, lv, st, de, le, ok, rfl, hs, hd, hl, hg, hsy⟩
  rcases hsy with ⟨h, _⟩ | ⟨_, rfl, rfl, rfl, rfl⟩
  · exact absurd ⟨by omega, by omega, fun c hc => by cases hc⟩ h
  rw [show (1 : Int).toNat = 1 from rfl, wake_plan.1] at hs
  rw [show (1 : Int).toNat = 1 from rfl, wake_plan.2] at hd
  obtain ⟨os, cs, rfl⟩ := hs.form
  obtain ⟨od, cd, hdf⟩ := hd.form
  have hdf : dv = .slice od 1 cd := hdf
  subst hdf
  obtain ⟨ol, ml, cl, rfl⟩ := hl.form3
  rw [show ([] : List (Int × Int)).length = 0 from rfl]
  have HD := Lib.hid hd
  have G1 := Lib.hid hg
  clear hs hd hl hg
  go_wp2_with fail
  have hg2 : Gr w1 ((w1.alloc (.cells #[.slice os 0 cs, .slice od 1 cd, .slice ol ml cl] 31)).alloc (.cells #[.int .i64 0] 3)) := Gr.alloc (Gr.alloc (Gr.refl _) _ _) _ _
  have hsz : (w1.alloc (.cells #[.slice os 0 cs, .slice od 1 cd, .slice ol ml cl] 31)).heap.size = w1.heap.size + 1 := by simp
  have hz := one_zs (w := w1.alloc (.cells #[.slice os 0 cs, .slice od 1 cd, .slice ol ml cl] 31)) 0 ⟨by omega, by omega⟩
  rw [hsz] at hz
  refine (sameZ_any _ _ [0] [0] _ (HD.out.grown hg2) hz).mono ?_
  rw [beq_self_eq_true]
  rintro e w3 ⟨rfl, hg3⟩
  have G3 := Lib.hid (Gr.trans G1.out (Gr.trans hg2 hg3))
  clear hg2 hg3 hz hsz
  go_wp2_with fail
  go_ret
  exact ⟨rfl, G3.out⟩
set_option maxRecDepth 100000 in
set_option maxHeartbeats 3200000 in
theorem intRows_any (vl : Value) (l : List Int) (N M : Nat) (w : World) (hl : Zs w vl l) (hN : N ≤ 64) (hM : M ≤ 100) :
    Calls Try.prog 9 #[vl, .int .i64 (N : Int), .int .i64 (M : Int)] w fun e w' => ∃ v, e = .returned v ∧ ∃ rs, ZwO w.heap.size w' v rs ∧ Gr w w' ∧ rs.length ≤ M ∧ ∀ c ∈ rs, MayRow N c := by
  obtain ⟨ol, cl, rfl⟩ := hl.form
  obtain ⟨n, hn⟩ : ∃ n, l.length = n := ⟨_, rfl⟩
  rw [hn] at hl ⊢
  have HL := Lib.hid hl
  clear hl hn
  go_enter Try.func9, Try.ntmps9
  go_wp2_with fail
  go_loopw [7, 8] (fun ov iv W => ∃ (i : Nat) (rs : List (List Int)), i ≤ M ∧ iv = .int .i64 i ∧ ZwO w.heap.size W ov rs ∧ Gr w W ∧ rs.length = i ∧ ∀ c ∈ rs, MayRow N c) (fun _ iv _ => M - (intOf iv).toNat)
  case atStart => exact ⟨0, [], by omega, rfl, ZwO.nil _ _, Gr.refl _, rfl, fun c hc => by cases hc⟩
  case round =>
    obtain ⟨wo, hwo⟩ : ∃ x, x = wr := ⟨_, rfl⟩
    subst hwo
    obtain ⟨i, rs, hi, rfl, ho, hg, hrl, hq⟩ := hrel
    have HO := Lib.hid ho
    have HG := Lib.hid hg
    have HRL := Lib.hid hrl
    have HQ := Lib.hid hq
    clear ho hg hrl hq
    by_cases h1 : i < n
    · by_cases h2 : i < M
      · obtain ⟨al, rfl⟩ := Zs.addr HL.out (by omega)
        have b1 : (i : Int) < n := by omega
        have b2 : (i : Int) < M := by omega
        go_wp2_with fail
        go_loopw [9, 10] (fun qv cv W => ∃ (c : Nat) (cs : List Int), c ≤ N ∧ cv = .int .i64 c ∧ W.ownsRow wo.heap.size 3 1 qv cs.length (cs.map (Value.int .i64)) ∧ (∀ x ∈ cs, 0 ≤ x ∧ x < (c : Int)) ∧ Rising cs ∧ Gr wo W) (fun _ cv _ => N - (intOf cv).toNat)
        case atStart => exact ⟨0, [], by omega, rfl, World.ownsRow_nil _ _ _ _, (fun x hx => by cases hx), (fun j hj => by simp at hj), Gr.refl _⟩
        case round =>
          obtain ⟨wi, hwi⟩ : ∃ x, x = wr := ⟨_, rfl⟩
          subst hwi
          obtain ⟨c, cs, hc, rfl, hown, hcb, hcr, hgi⟩ := hrel
          obtain ⟨oc, cc, hf⟩ := ownsRow_form'' hown
          obtain ⟨kc, hkc⟩ : ∃ k, cs.length = k := ⟨_, rfl⟩
          rw [hkc] at hf hown
          subst hf
          have hkb := rising_le hcr hcb
          rw [hkc] at hkb
          have OW := Lib.hid hown
          have HCB := Lib.hid hcb
          have HCR := Lib.hid hcr
          have GI := Lib.hid hgi
          have HKC := Lib.hid hkc
          clear hown hcb hcr hgi hkc
          by_cases hlt : c < N
          · have ql := Zs.cellAt (HL.out.grown (Gr.trans HG.out GI.out)) (i := i) h1
            generalize l.getD i 0 = x at ql
            go_upto_region 9 with fail
            go_cut [46] (fun bv wx => wx = wi ∧ ∃ t : Bool, bv = .bool t)
            case first =>
              go_wp2_with fail
              all_goals
                go_meet
                exact ⟨rfl, _, rfl⟩
            case rest =>
              obtain ⟨hwc, t, rfl⟩ := hcut
              clear ql
              subst hwc
              cases t
              · go_wp2_with fail
                exact ⟨⟨c + 1, cs, by omega, by go_num, by rw [HKC.out]; exact OW.out, fun x hx => by have := HCB.out x hx; omega, HCR.out, GI.out⟩, by simp [intOf]; omega⟩
              · go_wp2_with (at_builtin; refine wpList_append_int rfl _ _ rfl wo.heap.size (.slice oc kc cc) kc cs rfl (OW.out.of_gr (Gr.alloc (Gr.refl _) _ _)) wc.heap.size (c : Int) rfl (by rw [cell_of_row _ _ 0 _ _ _ (heap_alloc_new wc _)]; rfl) (by omega) (by have := GI.out.size; simp; omega) ?_; intro g3 cap3 w3 h1 h2 h3; have O3 := Lib.hid h1; have G3 := Lib.hid (gr_by_own (Gr.alloc GI.out (#[.int .i64 (c : Int)]) 3) h2 (OW.out.of_gr (Gr.alloc (Gr.refl _) _ _)) (Nat.le_refl _)); clear h1 h2 h3)
                exact ⟨⟨c + 1, cs ++ [(c : Int)], by omega, by go_num, by rw [List.length_append, HKC.out]; exact O3.out, fun x hx => by
                  rcases List.mem_append.1 hx with hx | hx
                  · have := HCB.out x hx
                    omega
                  · obtain rfl := List.mem_singleton.1 hx
                    omega, rising_snoc HCR.out HCB.out, G3.out⟩, by simp [intOf]; omega⟩
          · obtain rfl : c = N := by omega
            obtain ⟨o9, c9, e9⟩ := HO.out.form
            rw [HRL.out] at e9
            subst e9
            have hzc : Zs wi (.slice oc kc cc) cs := owns_zs OW.out HKC.out (fun x hx => by have := HCB.out x hx; exact ⟨by omega, by omega⟩)
            have hin : InInts wi (.slice oc kc cc) := owns_inInts OW.out
            have gA : Gr wi (wi.alloc (.cells #[.slice oc kc cc] 23)) := Gr.alloc (Gr.refl _) _ _
            have EV : Hid (ZsV w.heap.size (wi.alloc (.cells #[.slice oc kc cc] 23)) (some ⟨wi.heap.size, 0, none⟩) 1 [cs]) := Lib.hid (by
              have z := Rz.gr (base := w.heap.size) hzc (fun a n c e h => .inr (hin a n c e h)) gA
              exact ZsV.single (by rw [cell_of_row _ _ _ _ _ _ (heap_alloc_new _ _)]; rfl) z.1 z.2)
            have OE := Lib.hid (HO.out.grown (Gr.trans GI.out gA))
            have GW := Lib.hid (Gr.trans HG.out (Gr.trans GI.out gA))
            have HMR : Hid (MayRow c cs) := Lib.hid ⟨HCB.out, HCR.out⟩
            clear hzc hin gA
            go_wp2_with (at_builtin; refine wpList_append_zss rfl _ _ rfl w.heap.size (.slice o9 i c9) rs [cs] rfl OE.out (some ⟨wi.heap.size, 0, none⟩) 1 1 rfl EV.out (fun e => by cases e) (by rw [HRL.out]; omega) GW.out.size ?_; intro v5 w5 h5 hg5 hgr5; have L5 := Lib.hid h5; have G5 := Lib.hid (hg5 w GW.out (Nat.le_refl _)); clear h5 hg5 hgr5)
            refine ⟨⟨i + 1, rs ++ [cs], by omega, by go_num, L5.out, G5.out, by rw [List.length_append, HRL.out]; rfl, fun q hq => ?_⟩, by simp [intOf]; omega⟩
            rcases List.mem_append.1 hq with hq | hq
            · exact HQ.out q hq
            · obtain rfl := List.mem_singleton.1 hq
              exact HMR.out
      · have b2 : ¬ (i : Int) < M := by omega
        have b1 : (i : Int) < n := by omega
        go_wp2_with fail
        go_ret
        exact ⟨_, rfl, rs, HO.out, HG.out, by rw [HRL.out]; exact hi, HQ.out⟩
    · have b1 : ¬ (i : Int) < n := by omega
      go_wp2_with fail
      go_ret
      exact ⟨_, rfl, rs, HO.out, HG.out, by rw [HRL.out]; exact hi, HQ.out⟩
end Go.Proofs.Ytdmcncpndogdlaa
