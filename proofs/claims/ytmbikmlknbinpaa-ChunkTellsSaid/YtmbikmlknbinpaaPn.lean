/-
  Parameters as a law is handed them: three ints.
-/
import Derived.Test.YtmbikmlknbinpaaMge
import Derived.Lib.SmallJoins
namespace Go.Proofs.Ytmbikmlknbinpaa
open Go.RowKit Go.ChangeShapes Go.WideShapes Go.Joins

def ParP (_ : World) (v : Value) (z : Int × Int × Int) : Prop := v = par z.1 z.2.1 z.2.2
set_option maxRecDepth 100000 in
theorem open_par {H : Type} {enc : TypeId × Value → H} {w : World} {base b0 : Nat} {held : Bool} {r : Reach} {v : Value} {d : DataW H} {p : List MemPlace}
    (hv : Value.okWide Try.prog w r b0 23 v) (h : DataW.Trod enc Try.prog w base (fun _ => true) held 23 v d p) : ∃ z, ParP w v z := by
  obtain ⟨v0, v1, v2, y0, y1, y2, n, rfl, _, _, t0, t1, t2⟩ := open_agg3 Try.underlying23 (by kernel_rfl) (by kernel_rfl) hv h
  obtain ⟨z0, e0, _, _⟩ := DataW.trod_int Try.underlying3 t0
  obtain ⟨z1, e1, _, _⟩ := DataW.trod_int Try.underlying3 t1
  obtain ⟨z2, e2, _, _⟩ := DataW.trod_int Try.underlying3 t2
  simp at e0 e1 e2
  subst e0 e1 e2
  exact ⟨(z0, z1, z2), rfl⟩
end Go.Proofs.Ytmbikmlknbinpaa
