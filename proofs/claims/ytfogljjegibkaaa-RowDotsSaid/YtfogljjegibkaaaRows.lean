/-
  No cell of these rows narrows 'for every input' (looked for: loops, veiled, ifaces, maps, wideKeys, modest, calm, conditions, laid).
  DERIVED. THE GIVEN ROWS OF THIS SEAT. 4 by the template 'for every input the law returns true; each argument reads behind the call as it read before'; 0 by the template 'total and deterministic' (their statements: YtfogljjegibkaaaTotals.lean).
  GIVEN WITH THE SEED: the statements are not yours to turn. If you find one false, say at which input.
  Laid BY PROGRAM, IN A SANDBOX (cutbox-rows.mjs): the forced cells as the released guide's own fill.sh prints them over the translation d435698f66b890c9… (all of the seat's roots in one cut). By AI agents, Wed Nov 11 2026. No macro, syntax, notation, axiom, sorry.
-/
import Derived.Test.YtfogljjegibkaaaChecked
import GoSem.Claim
import GoSem.ClaimJoined
import GoSem.ClaimMapViews
import Derived.JoinedTies
import Derived.KernelRfl
namespace Go.Proofs.Ytfogljjegibkaaa
/- THE CELL 'sum', in the pinned program and in every row, IS THE sha256 OF THE DUMP (.gsa) THAT YtfogljjegibkaaaProg.lean LOADS. Nothing in Lean hashes anything: it is a label: what it is worth is what the hold of that sum in a sandbox is worth. -/
noncomputable def Try.pinned : Pinned := { name := "ytfogljjegibkaaa", sum := "d435698f66b890c90cc73bee80220821cc385adba36d0e48395906c6600fdbcb", checked := Try.checked }
namespace Rows
def none {H : Type} : Left H := { results := [], args := [] }

/-- 'wellspringlaw02.RowTells': WHATEVER THE INPUT: true; the input reads as it did. -/
def rowTellsSpec : ChangeSpec := { name := "rowTells", fn := fun _ => fun
  | [d1, d2, d3, d4, d5, d6] => { results := [.lit (.bool true)], args := [d1, d2, d3, d4, d5, d6] }
  | _ => none }
def rowTellsRow : OpenClaim := { program := "ytfogljjegibkaaa", sum := "d435698f66b890c90cc73bee80220821cc385adba36d0e48395906c6600fdbcb", func := "wellspring/wellspringlaw02.RowTells", spec := "rowTells", apart := false }
def RowTellsSaid : Prop := rowTellsRow.holds Try.pinned (OpenSpec.ofChange rowTellsSpec)

/-- ITS FALSE NEIGHBOUR: 'it returns false'. Refute it at one input. -/
def rowTellsWrong : ChangeSpec := { name := "rowTells", fn := fun _ => fun
  | [d1, d2, d3, d4, d5, d6] => { results := [.lit (.bool false)], args := [d1, d2, d3, d4, d5, d6] }
  | _ => none }
def RowTellsWrongFalsely : Prop := rowTellsRow.holds Try.pinned (OpenSpec.ofChange rowTellsWrong)

/-- 'wellspringlaw02.RowLaws': WHATEVER THE INPUT: true; the input reads as it did. -/
def rowLawsSpec : ChangeSpec := { name := "rowLaws", fn := fun _ => fun
  | [d1, d2, d3] => { results := [.lit (.bool true)], args := [d1, d2, d3] }
  | _ => none }
def rowLawsRow : OpenClaim := { program := "ytfogljjegibkaaa", sum := "d435698f66b890c90cc73bee80220821cc385adba36d0e48395906c6600fdbcb", func := "wellspring/wellspringlaw02.RowLaws", spec := "rowLaws", apart := false }
def RowLawsSaid : Prop := rowLawsRow.holds Try.pinned (OpenSpec.ofChange rowLawsSpec)

/-- ITS FALSE NEIGHBOUR: 'it returns false'. Refute it at one input. -/
def rowLawsWrong : ChangeSpec := { name := "rowLaws", fn := fun _ => fun
  | [d1, d2, d3] => { results := [.lit (.bool false)], args := [d1, d2, d3] }
  | _ => none }
def RowLawsWrongFalsely : Prop := rowLawsRow.holds Try.pinned (OpenSpec.ofChange rowLawsWrong)

/-- 'wellspringlaw02.RowDots': WHATEVER THE INPUT: true; the input reads as it did. -/
def rowDotsSpec : ChangeSpec := { name := "rowDots", fn := fun _ => fun
  | [d1, d2, d3] => { results := [.lit (.bool true)], args := [d1, d2, d3] }
  | _ => none }
def rowDotsRow : OpenClaim := { program := "ytfogljjegibkaaa", sum := "d435698f66b890c90cc73bee80220821cc385adba36d0e48395906c6600fdbcb", func := "wellspring/wellspringlaw02.RowDots", spec := "rowDots", apart := false }
def RowDotsSaid : Prop := rowDotsRow.holds Try.pinned (OpenSpec.ofChange rowDotsSpec)

/-- ITS FALSE NEIGHBOUR: 'it returns false'. Refute it at one input. -/
def rowDotsWrong : ChangeSpec := { name := "rowDots", fn := fun _ => fun
  | [d1, d2, d3] => { results := [.lit (.bool false)], args := [d1, d2, d3] }
  | _ => none }
def RowDotsWrongFalsely : Prop := rowDotsRow.holds Try.pinned (OpenSpec.ofChange rowDotsWrong)

/-- 'wellspringlaw02.RowOwn': WHATEVER THE INPUT: true; the input reads as it did. -/
def rowOwnSpec : ChangeSpec := { name := "rowOwn", fn := fun _ => fun
  | [d1, d2, d3] => { results := [.lit (.bool true)], args := [d1, d2, d3] }
  | _ => none }
def rowOwnRow : OpenClaim := { program := "ytfogljjegibkaaa", sum := "d435698f66b890c90cc73bee80220821cc385adba36d0e48395906c6600fdbcb", func := "wellspring/wellspringlaw02.RowOwn", spec := "rowOwn", apart := false }
def RowOwnSaid : Prop := rowOwnRow.holds Try.pinned (OpenSpec.ofChange rowOwnSpec)

/-- ITS FALSE NEIGHBOUR: 'it returns false'. Refute it at one input. -/
def rowOwnWrong : ChangeSpec := { name := "rowOwn", fn := fun _ => fun
  | [d1, d2, d3] => { results := [.lit (.bool false)], args := [d1, d2, d3] }
  | _ => none }
def RowOwnWrongFalsely : Prop := rowOwnRow.holds Try.pinned (OpenSpec.ofChange rowOwnWrong)

/- THE SECOND FORM. 'bulk': how many values and letters a reading holds, each counted each time it is reached (what is shared counts as often as it is met; a slice's spare places count too). A statement '..UptoSaid' is the law's where the arguments, and the package variables that the reading takes, are together of bulk at most 1048576: NARROWER than '..Said'. Prove '..Said' where nothing that the law and all that it calls make is longer than what came in: it says more and counts as full. Else prove '..UptoSaid'. A law counts once. -/
mutual
def uptoBulk {H : Type} : DataW H → Nat
  | .lit (.string bytes) => bytes.length + 1
  | .lit _ => 1
  | .nil => 1
  | .ptr d => uptoBulk d + 1
  | .slice elems spare => uptoBulkAll elems + uptoBulkAll spare + 1
  | .agg parts => uptoBulkAll parts + 1
  | .iface _ d => uptoBulk d + 1
  | .map entries => uptoBulkEntries entries + 1
  | .held _ => 1
def uptoBulkAll {H : Type} : List (DataW H) → Nat
  | [] => 0
  | d :: r => uptoBulk d + uptoBulkAll r
def uptoBulkEntries {H : Type} : List (Lit × DataW H) → Nat
  | [] => 0
  | x :: r => uptoBulkEntry x + uptoBulkEntries r
def uptoBulkEntry {H : Type} : Lit × DataW H → Nat
  | (.string bytes, d) => bytes.length + uptoBulk d + 1
  | (_, d) => uptoBulk d + 1
 end
def uptoSmall : (H : Type) → List (DataW H) → Bool := fun _ ds => decide (uptoBulkAll ds ≤ 1048576)
def OpenSpec.upto (s : _root_.Go.ChangeSpec) : _root_.Go.OpenSpec := { _root_.Go.OpenSpec.ofChange s with cond := some uptoSmall }

/-- 'wellspringlaw02.RowTells', WHERE WHAT IT READS IS OF BULK AT MOST 1048576: true; the input reads as it did. -/
def rowTellsUptoRow : OpenClaim := { program := "ytfogljjegibkaaa", sum := "d435698f66b890c90cc73bee80220821cc385adba36d0e48395906c6600fdbcb", func := "wellspring/wellspringlaw02.RowTells", spec := "rowTells", apart := false, narrowed := true }
def RowTellsUptoSaid : Prop := rowTellsUptoRow.holds Try.pinned (OpenSpec.upto rowTellsSpec)

/-- 'wellspringlaw02.RowLaws', WHERE WHAT IT READS IS OF BULK AT MOST 1048576: true; the input reads as it did. -/
def rowLawsUptoRow : OpenClaim := { program := "ytfogljjegibkaaa", sum := "d435698f66b890c90cc73bee80220821cc385adba36d0e48395906c6600fdbcb", func := "wellspring/wellspringlaw02.RowLaws", spec := "rowLaws", apart := false, narrowed := true }
def RowLawsUptoSaid : Prop := rowLawsUptoRow.holds Try.pinned (OpenSpec.upto rowLawsSpec)

/-- 'wellspringlaw02.RowDots', WHERE WHAT IT READS IS OF BULK AT MOST 1048576: true; the input reads as it did. -/
def rowDotsUptoRow : OpenClaim := { program := "ytfogljjegibkaaa", sum := "d435698f66b890c90cc73bee80220821cc385adba36d0e48395906c6600fdbcb", func := "wellspring/wellspringlaw02.RowDots", spec := "rowDots", apart := false, narrowed := true }
def RowDotsUptoSaid : Prop := rowDotsUptoRow.holds Try.pinned (OpenSpec.upto rowDotsSpec)

/-- 'wellspringlaw02.RowOwn', WHERE WHAT IT READS IS OF BULK AT MOST 1048576: true; the input reads as it did. -/
def rowOwnUptoRow : OpenClaim := { program := "ytfogljjegibkaaa", sum := "d435698f66b890c90cc73bee80220821cc385adba36d0e48395906c6600fdbcb", func := "wellspring/wellspringlaw02.RowOwn", spec := "rowOwn", apart := false, narrowed := true }
def RowOwnUptoSaid : Prop := rowOwnUptoRow.holds Try.pinned (OpenSpec.upto rowOwnSpec)

end Rows
end Go.Proofs.Ytfogljjegibkaaa
