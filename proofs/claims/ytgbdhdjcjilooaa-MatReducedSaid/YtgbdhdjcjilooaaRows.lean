/-
  No cell of these rows narrows 'for every input' (looked for: loops, veiled, ifaces, maps, wideKeys, modest, calm, conditions, laid).
  DERIVED. THE GIVEN ROWS OF THIS SEAT. 4 by the template 'for every input the law returns true; each argument reads behind the call as it read before'; 0 by the template 'total and deterministic' (their statements: YtgbdhdjcjilooaaTotals.lean).
  GIVEN WITH THE SEED: the statements are not yours to turn. If you find one false, say at which input.
  Laid BY PROGRAM, IN A SANDBOX (cutbox-rows.mjs): the forced cells as the released guide's own fill.sh prints them over the translation 259877e5ee02d2c8… (all of the seat's roots in one cut). By AI agents, Wed Nov 11 2026. No macro, syntax, notation, axiom, sorry.
-/
import Derived.Test.YtgbdhdjcjilooaaChecked
import GoSem.Claim
import GoSem.ClaimJoined
import GoSem.ClaimMapViews
import Derived.JoinedTies
import Derived.KernelRfl
namespace Go.Proofs.Ytgbdhdjcjilooaa
/- THE CELL 'sum', in the pinned program and in every row, IS THE sha256 OF THE DUMP (.gsa) THAT YtgbdhdjcjilooaaProg.lean LOADS. Nothing in Lean hashes anything: it is a label: what it is worth is what the hold of that sum in a sandbox is worth. -/
noncomputable def Try.pinned : Pinned := { name := "ytgbdhdjcjilooaa", sum := "259877e5ee02d2c8e7eba96ec1f6c51b03877e67b35c66f9f096c91e9ea4b6b5", checked := Try.checked }
namespace Rows
def none {H : Type} : Left H := { results := [], args := [] }

/-- 'wellspringlaw03.MatEven': WHATEVER THE INPUT: true; the input reads as it did. -/
def matEvenSpec : ChangeSpec := { name := "matEven", fn := fun _ => fun
  | [d1, d2, d3, d4, d5] => { results := [.lit (.bool true)], args := [d1, d2, d3, d4, d5] }
  | _ => none }
def matEvenRow : OpenClaim := { program := "ytgbdhdjcjilooaa", sum := "259877e5ee02d2c8e7eba96ec1f6c51b03877e67b35c66f9f096c91e9ea4b6b5", func := "wellspring/wellspringlaw03.MatEven", spec := "matEven", apart := false }
def MatEvenSaid : Prop := matEvenRow.holds Try.pinned (OpenSpec.ofChange matEvenSpec)

/-- ITS FALSE NEIGHBOUR: 'it returns false'. Refute it at one input. -/
def matEvenWrong : ChangeSpec := { name := "matEven", fn := fun _ => fun
  | [d1, d2, d3, d4, d5] => { results := [.lit (.bool false)], args := [d1, d2, d3, d4, d5] }
  | _ => none }
def MatEvenWrongFalsely : Prop := matEvenRow.holds Try.pinned (OpenSpec.ofChange matEvenWrong)

/-- 'wellspringlaw03.MatReduced': WHATEVER THE INPUT: true; the input reads as it did. -/
def matReducedSpec : ChangeSpec := { name := "matReduced", fn := fun _ => fun
  | [d1, d2, d3] => { results := [.lit (.bool true)], args := [d1, d2, d3] }
  | _ => none }
def matReducedRow : OpenClaim := { program := "ytgbdhdjcjilooaa", sum := "259877e5ee02d2c8e7eba96ec1f6c51b03877e67b35c66f9f096c91e9ea4b6b5", func := "wellspring/wellspringlaw03.MatReduced", spec := "matReduced", apart := false }
def MatReducedSaid : Prop := matReducedRow.holds Try.pinned (OpenSpec.ofChange matReducedSpec)

/-- ITS FALSE NEIGHBOUR: 'it returns false'. Refute it at one input. -/
def matReducedWrong : ChangeSpec := { name := "matReduced", fn := fun _ => fun
  | [d1, d2, d3] => { results := [.lit (.bool false)], args := [d1, d2, d3] }
  | _ => none }
def MatReducedWrongFalsely : Prop := matReducedRow.holds Try.pinned (OpenSpec.ofChange matReducedWrong)

/-- 'wellspringlaw03.MatSolves': WHATEVER THE INPUT: true; the input reads as it did. -/
def matSolvesSpec : ChangeSpec := { name := "matSolves", fn := fun _ => fun
  | [d1, d2, d3, d4] => { results := [.lit (.bool true)], args := [d1, d2, d3, d4] }
  | _ => none }
def matSolvesRow : OpenClaim := { program := "ytgbdhdjcjilooaa", sum := "259877e5ee02d2c8e7eba96ec1f6c51b03877e67b35c66f9f096c91e9ea4b6b5", func := "wellspring/wellspringlaw03.MatSolves", spec := "matSolves", apart := false }
def MatSolvesSaid : Prop := matSolvesRow.holds Try.pinned (OpenSpec.ofChange matSolvesSpec)

/-- ITS FALSE NEIGHBOUR: 'it returns false'. Refute it at one input. -/
def matSolvesWrong : ChangeSpec := { name := "matSolves", fn := fun _ => fun
  | [d1, d2, d3, d4] => { results := [.lit (.bool false)], args := [d1, d2, d3, d4] }
  | _ => none }
def MatSolvesWrongFalsely : Prop := matSolvesRow.holds Try.pinned (OpenSpec.ofChange matSolvesWrong)

/-- 'wellspringlaw03.MatTurned': WHATEVER THE INPUT: true; the input reads as it did. -/
def matTurnedSpec : ChangeSpec := { name := "matTurned", fn := fun _ => fun
  | [d1, d2, d3, d4] => { results := [.lit (.bool true)], args := [d1, d2, d3, d4] }
  | _ => none }
def matTurnedRow : OpenClaim := { program := "ytgbdhdjcjilooaa", sum := "259877e5ee02d2c8e7eba96ec1f6c51b03877e67b35c66f9f096c91e9ea4b6b5", func := "wellspring/wellspringlaw03.MatTurned", spec := "matTurned", apart := false }
def MatTurnedSaid : Prop := matTurnedRow.holds Try.pinned (OpenSpec.ofChange matTurnedSpec)

/-- ITS FALSE NEIGHBOUR: 'it returns false'. Refute it at one input. -/
def matTurnedWrong : ChangeSpec := { name := "matTurned", fn := fun _ => fun
  | [d1, d2, d3, d4] => { results := [.lit (.bool false)], args := [d1, d2, d3, d4] }
  | _ => none }
def MatTurnedWrongFalsely : Prop := matTurnedRow.holds Try.pinned (OpenSpec.ofChange matTurnedWrong)

/- THE SECOND FORM. 'bulk': how many values and letters a reading holds, each counted each time it is reached (what is shared counts as often as it is met; a slice's spare places count too). A statement '..UptoSaid' is the law's where the arguments, and the package variables that the reading takes, are together of bulk at most 1048576: NARROWER than '..Said'. Prove '..Said' where nothing that the law and all that it calls make is longer than what came in: it says more and counts as full. Else prove '..UptoSaid'. A law counts once. -/
mutual
def uptoBulk {H : Type} : DataW H → Nat
  | .lit (.string bytes) => bytes.length + 1
  | .lit _ => 1
  | .nil => 1
  | .ptr d => uptoBulk d + 1
  | .slice elems spare => uptoBulkAll elems + uptoBulkAll spare + 1
  | .agg parts => uptoBulkAll parts + 1
  | .iface _ d => uptoBulk d + 1
  | .map entries => uptoBulkEntries entries + 1
  | .held _ => 1
def uptoBulkAll {H : Type} : List (DataW H) → Nat
  | [] => 0
  | d :: r => uptoBulk d + uptoBulkAll r
def uptoBulkEntries {H : Type} : List (Lit × DataW H) → Nat
  | [] => 0
  | x :: r => uptoBulkEntry x + uptoBulkEntries r
def uptoBulkEntry {H : Type} : Lit × DataW H → Nat
  | (.string bytes, d) => bytes.length + uptoBulk d + 1
  | (_, d) => uptoBulk d + 1
 end
def uptoSmall : (H : Type) → List (DataW H) → Bool := fun _ ds => decide (uptoBulkAll ds ≤ 1048576)
def OpenSpec.upto (s : _root_.Go.ChangeSpec) : _root_.Go.OpenSpec := { _root_.Go.OpenSpec.ofChange s with cond := some uptoSmall }

/-- 'wellspringlaw03.MatEven', WHERE WHAT IT READS IS OF BULK AT MOST 1048576: true; the input reads as it did. -/
def matEvenUptoRow : OpenClaim := { program := "ytgbdhdjcjilooaa", sum := "259877e5ee02d2c8e7eba96ec1f6c51b03877e67b35c66f9f096c91e9ea4b6b5", func := "wellspring/wellspringlaw03.MatEven", spec := "matEven", apart := false, narrowed := true }
def MatEvenUptoSaid : Prop := matEvenUptoRow.holds Try.pinned (OpenSpec.upto matEvenSpec)

/-- 'wellspringlaw03.MatReduced', WHERE WHAT IT READS IS OF BULK AT MOST 1048576: true; the input reads as it did. -/
def matReducedUptoRow : OpenClaim := { program := "ytgbdhdjcjilooaa", sum := "259877e5ee02d2c8e7eba96ec1f6c51b03877e67b35c66f9f096c91e9ea4b6b5", func := "wellspring/wellspringlaw03.MatReduced", spec := "matReduced", apart := false, narrowed := true }
def MatReducedUptoSaid : Prop := matReducedUptoRow.holds Try.pinned (OpenSpec.upto matReducedSpec)

/-- 'wellspringlaw03.MatSolves', WHERE WHAT IT READS IS OF BULK AT MOST 1048576: true; the input reads as it did. -/
def matSolvesUptoRow : OpenClaim := { program := "ytgbdhdjcjilooaa", sum := "259877e5ee02d2c8e7eba96ec1f6c51b03877e67b35c66f9f096c91e9ea4b6b5", func := "wellspring/wellspringlaw03.MatSolves", spec := "matSolves", apart := false, narrowed := true }
def MatSolvesUptoSaid : Prop := matSolvesUptoRow.holds Try.pinned (OpenSpec.upto matSolvesSpec)

/-- 'wellspringlaw03.MatTurned', WHERE WHAT IT READS IS OF BULK AT MOST 1048576: true; the input reads as it did. -/
def matTurnedUptoRow : OpenClaim := { program := "ytgbdhdjcjilooaa", sum := "259877e5ee02d2c8e7eba96ec1f6c51b03877e67b35c66f9f096c91e9ea4b6b5", func := "wellspring/wellspringlaw03.MatTurned", spec := "matTurned", apart := false, narrowed := true }
def MatTurnedUptoSaid : Prop := matTurnedUptoRow.holds Try.pinned (OpenSpec.upto matTurnedSpec)

end Rows
end Go.Proofs.Ytgbdhdjcjilooaa
