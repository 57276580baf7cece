/-
  The document's own rank.
-/
import Derived.Test.YtmeojdnalhaooaaRd
import Derived.Test.YtmeojdnalhaooaaMk
namespace Go.Proofs.Ytmeojdnalhaooaa
open Go.RowKit

set_option maxHeartbeats 400000 in
theorem refRank_any (va : Value) (A : List (List Int)) (w : World) (h : Bss w va A) (hl : A.length ≤ 1000) (hmay : mayL A = true) :
    Calls Try.prog 11 #[va] w fun e w' => e = .returned (.int .i64 (rkL A)) ∧ Gr w w' := by
  have HS := Lib.hid h
  have HM := Lib.hid hmay
  clear h hmay
  go_enter Try.func11, Try.ntmps11
  go_wp2_with fail
  refine (refReduce_any va A w HS.out hl HS.out.byt HM.out).mono ?_
  rintro e w1 ⟨v, R, rfl, hv, hg, hred⟩
  have hrk : rkL A = R.length := hred.rank
  obtain ⟨o, c, rfl, h1, h2, _, _⟩ := hv.bss
  have HG := Lib.hid hg
  have HRK := Lib.hid hrk
  clear hred hrk hg hv
  generalize R.length = s at *
  go_wp2_with fail
  go_ret
  exact ⟨by rw [HRK.out]; rfl, HG.out⟩
end Go.Proofs.Ytmeojdnalhaooaa
