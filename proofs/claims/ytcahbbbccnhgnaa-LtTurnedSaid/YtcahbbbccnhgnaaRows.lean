/-
  No cell of these rows narrows 'for every input' (looked for: loops, veiled, ifaces, maps, wideKeys, modest, calm, conditions, laid).
  DERIVED. THE GIVEN ROWS OF THIS SEAT. 4 by the template 'for every input the law returns true; each argument reads behind the call as it read before'; 0 by the template 'total and deterministic' (their statements: YtcahbbbccnhgnaaTotals.lean).
  GIVEN WITH THE SEED: the statements are not yours to turn. If you find one false, say at which input.
  Laid BY PROGRAM, IN A SANDBOX (cutbox-rows.mjs): the forced cells as the released guide's own fill.sh prints them over the translation ccb38e20ad4109a6… (all of the seat's roots in one cut). By AI agents, Wed Nov 11 2026. No macro, syntax, notation, axiom, sorry.
-/
import Derived.Test.YtcahbbbccnhgnaaChecked
import GoSem.Claim
import GoSem.ClaimJoined
import GoSem.ClaimMapViews
import Derived.JoinedTies
import Derived.KernelRfl
namespace Go.Proofs.Ytcahbbbccnhgnaa
/- THE CELL 'sum', in the pinned program and in every row, IS THE sha256 OF THE DUMP (.gsa) THAT YtcahbbbccnhgnaaProg.lean LOADS. Nothing in Lean hashes anything: it is a label: what it is worth is what the hold of that sum in a sandbox is worth. -/
noncomputable def Try.pinned : Pinned := { name := "ytcahbbbccnhgnaa", sum := "ccb38e20ad4109a64c5c1a12b79d657fed6d6f76a7838ed8d09a18f26ca6fa58", checked := Try.checked }
namespace Rows
def none {H : Type} : Left H := { results := [], args := [] }

/-- 'wellspringlaw09.LtTells': WHATEVER THE INPUT: true; the input reads as it did. -/
def ltTellsSpec : ChangeSpec := { name := "ltTells", fn := fun _ => fun
  | [d1, d2, d3, d4, d5, d6] => { results := [.lit (.bool true)], args := [d1, d2, d3, d4, d5, d6] }
  | _ => none }
def ltTellsRow : OpenClaim := { program := "ytcahbbbccnhgnaa", sum := "ccb38e20ad4109a64c5c1a12b79d657fed6d6f76a7838ed8d09a18f26ca6fa58", func := "wellspring/wellspringlaw09.LtTells", spec := "ltTells", unfollowed := true, recurses := true, apart := false }
def LtTellsSaid : Prop := ltTellsRow.holds Try.pinned (OpenSpec.ofChange ltTellsSpec)

/-- ITS FALSE NEIGHBOUR: 'it returns false'. Refute it at one input. -/
def ltTellsWrong : ChangeSpec := { name := "ltTells", fn := fun _ => fun
  | [d1, d2, d3, d4, d5, d6] => { results := [.lit (.bool false)], args := [d1, d2, d3, d4, d5, d6] }
  | _ => none }
def LtTellsWrongFalsely : Prop := ltTellsRow.holds Try.pinned (OpenSpec.ofChange ltTellsWrong)

/-- 'wellspringlaw09.LtRows': WHATEVER THE INPUT: true; the input reads as it did. -/
def ltRowsSpec : ChangeSpec := { name := "ltRows", fn := fun _ => fun
  | [d1, d2, d3, d4, d5] => { results := [.lit (.bool true)], args := [d1, d2, d3, d4, d5] }
  | _ => none }
def ltRowsRow : OpenClaim := { program := "ytcahbbbccnhgnaa", sum := "ccb38e20ad4109a64c5c1a12b79d657fed6d6f76a7838ed8d09a18f26ca6fa58", func := "wellspring/wellspringlaw09.LtRows", spec := "ltRows", unfollowed := true, recurses := true, apart := false }
def LtRowsSaid : Prop := ltRowsRow.holds Try.pinned (OpenSpec.ofChange ltRowsSpec)

/-- ITS FALSE NEIGHBOUR: 'it returns false'. Refute it at one input. -/
def ltRowsWrong : ChangeSpec := { name := "ltRows", fn := fun _ => fun
  | [d1, d2, d3, d4, d5] => { results := [.lit (.bool false)], args := [d1, d2, d3, d4, d5] }
  | _ => none }
def LtRowsWrongFalsely : Prop := ltRowsRow.holds Try.pinned (OpenSpec.ofChange ltRowsWrong)

/-- 'wellspringlaw09.LtSize': WHATEVER THE INPUT: true; the input reads as it did. -/
def ltSizeSpec : ChangeSpec := { name := "ltSize", fn := fun _ => fun
  | [d1, d2, d3, d4, d5, d6] => { results := [.lit (.bool true)], args := [d1, d2, d3, d4, d5, d6] }
  | _ => none }
def ltSizeRow : OpenClaim := { program := "ytcahbbbccnhgnaa", sum := "ccb38e20ad4109a64c5c1a12b79d657fed6d6f76a7838ed8d09a18f26ca6fa58", func := "wellspring/wellspringlaw09.LtSize", spec := "ltSize", unfollowed := true, recurses := true, apart := false }
def LtSizeSaid : Prop := ltSizeRow.holds Try.pinned (OpenSpec.ofChange ltSizeSpec)

/-- ITS FALSE NEIGHBOUR: 'it returns false'. Refute it at one input. -/
def ltSizeWrong : ChangeSpec := { name := "ltSize", fn := fun _ => fun
  | [d1, d2, d3, d4, d5, d6] => { results := [.lit (.bool false)], args := [d1, d2, d3, d4, d5, d6] }
  | _ => none }
def LtSizeWrongFalsely : Prop := ltSizeRow.holds Try.pinned (OpenSpec.ofChange ltSizeWrong)

/-- 'wellspringlaw09.LtTurned': WHATEVER THE INPUT: true; the input reads as it did. -/
def ltTurnedSpec : ChangeSpec := { name := "ltTurned", fn := fun _ => fun
  | [d1, d2, d3, d4, d5, d6] => { results := [.lit (.bool true)], args := [d1, d2, d3, d4, d5, d6] }
  | _ => none }
def ltTurnedRow : OpenClaim := { program := "ytcahbbbccnhgnaa", sum := "ccb38e20ad4109a64c5c1a12b79d657fed6d6f76a7838ed8d09a18f26ca6fa58", func := "wellspring/wellspringlaw09.LtTurned", spec := "ltTurned", unfollowed := true, recurses := true, apart := false }
def LtTurnedSaid : Prop := ltTurnedRow.holds Try.pinned (OpenSpec.ofChange ltTurnedSpec)

/-- ITS FALSE NEIGHBOUR: 'it returns false'. Refute it at one input. -/
def ltTurnedWrong : ChangeSpec := { name := "ltTurned", fn := fun _ => fun
  | [d1, d2, d3, d4, d5, d6] => { results := [.lit (.bool false)], args := [d1, d2, d3, d4, d5, d6] }
  | _ => none }
def LtTurnedWrongFalsely : Prop := ltTurnedRow.holds Try.pinned (OpenSpec.ofChange ltTurnedWrong)

/- THE SECOND FORM. 'bulk': how many values and letters a reading holds, each counted each time it is reached (what is shared counts as often as it is met; a slice's spare places count too). A statement '..UptoSaid' is the law's where the arguments, and the package variables that the reading takes, are together of bulk at most 1048576: NARROWER than '..Said'. Prove '..Said' where nothing that the law and all that it calls make is longer than what came in: it says more and counts as full. Else prove '..UptoSaid'. A law counts once. -/
mutual
def uptoBulk {H : Type} : DataW H → Nat
  | .lit (.string bytes) => bytes.length + 1
  | .lit _ => 1
  | .nil => 1
  | .ptr d => uptoBulk d + 1
  | .slice elems spare => uptoBulkAll elems + uptoBulkAll spare + 1
  | .agg parts => uptoBulkAll parts + 1
  | .iface _ d => uptoBulk d + 1
  | .map entries => uptoBulkEntries entries + 1
  | .held _ => 1
def uptoBulkAll {H : Type} : List (DataW H) → Nat
  | [] => 0
  | d :: r => uptoBulk d + uptoBulkAll r
def uptoBulkEntries {H : Type} : List (Lit × DataW H) → Nat
  | [] => 0
  | x :: r => uptoBulkEntry x + uptoBulkEntries r
def uptoBulkEntry {H : Type} : Lit × DataW H → Nat
  | (.string bytes, d) => bytes.length + uptoBulk d + 1
  | (_, d) => uptoBulk d + 1
 end
def uptoSmall : (H : Type) → List (DataW H) → Bool := fun _ ds => decide (uptoBulkAll ds ≤ 1048576)
def OpenSpec.upto (s : _root_.Go.ChangeSpec) : _root_.Go.OpenSpec := { _root_.Go.OpenSpec.ofChange s with cond := some uptoSmall }

/-- 'wellspringlaw09.LtTells', WHERE WHAT IT READS IS OF BULK AT MOST 1048576: true; the input reads as it did. -/
def ltTellsUptoRow : OpenClaim := { program := "ytcahbbbccnhgnaa", sum := "ccb38e20ad4109a64c5c1a12b79d657fed6d6f76a7838ed8d09a18f26ca6fa58", func := "wellspring/wellspringlaw09.LtTells", spec := "ltTells", unfollowed := true, recurses := true, apart := false, narrowed := true }
def LtTellsUptoSaid : Prop := ltTellsUptoRow.holds Try.pinned (OpenSpec.upto ltTellsSpec)

/-- 'wellspringlaw09.LtRows', WHERE WHAT IT READS IS OF BULK AT MOST 1048576: true; the input reads as it did. -/
def ltRowsUptoRow : OpenClaim := { program := "ytcahbbbccnhgnaa", sum := "ccb38e20ad4109a64c5c1a12b79d657fed6d6f76a7838ed8d09a18f26ca6fa58", func := "wellspring/wellspringlaw09.LtRows", spec := "ltRows", unfollowed := true, recurses := true, apart := false, narrowed := true }
def LtRowsUptoSaid : Prop := ltRowsUptoRow.holds Try.pinned (OpenSpec.upto ltRowsSpec)

/-- 'wellspringlaw09.LtSize', WHERE WHAT IT READS IS OF BULK AT MOST 1048576: true; the input reads as it did. -/
def ltSizeUptoRow : OpenClaim := { program := "ytcahbbbccnhgnaa", sum := "ccb38e20ad4109a64c5c1a12b79d657fed6d6f76a7838ed8d09a18f26ca6fa58", func := "wellspring/wellspringlaw09.LtSize", spec := "ltSize", unfollowed := true, recurses := true, apart := false, narrowed := true }
def LtSizeUptoSaid : Prop := ltSizeUptoRow.holds Try.pinned (OpenSpec.upto ltSizeSpec)

/-- 'wellspringlaw09.LtTurned', WHERE WHAT IT READS IS OF BULK AT MOST 1048576: true; the input reads as it did. -/
def ltTurnedUptoRow : OpenClaim := { program := "ytcahbbbccnhgnaa", sum := "ccb38e20ad4109a64c5c1a12b79d657fed6d6f76a7838ed8d09a18f26ca6fa58", func := "wellspring/wellspringlaw09.LtTurned", spec := "ltTurned", unfollowed := true, recurses := true, apart := false, narrowed := true }
def LtTurnedUptoSaid : Prop := ltTurnedUptoRow.holds Try.pinned (OpenSpec.upto ltTurnedSpec)

end Rows
end Go.Proofs.Ytcahbbbccnhgnaa
