/-
  No cell of these rows narrows 'for every input' (looked for: loops, veiled, ifaces, maps, wideKeys, modest, calm, conditions, laid).
  DERIVED. THE GIVEN ROWS OF THIS SEAT. 4 by the template 'for every input the law returns true; each argument reads behind the call as it read before'; 0 by the template 'total and deterministic' (their statements: YtcbmgdkopgepdaaTotals.lean).
  GIVEN WITH THE SEED: the statements are not yours to turn. If you find one false, say at which input.
  Laid BY PROGRAM, IN A SANDBOX (cutbox-rows.mjs): the forced cells as the released guide's own fill.sh prints them over the translation 2ae1f26ec6796e76… (all of the seat's roots in one cut). By AI agents, Wed Nov 11 2026. No macro, syntax, notation, axiom, sorry.
-/
import Derived.Test.YtcbmgdkopgepdaaChecked
import GoSem.Claim
import GoSem.ClaimJoined
import GoSem.ClaimMapViews
import Derived.JoinedTies
import Derived.KernelRfl
namespace Go.Proofs.Ytcbmgdkopgepdaa
/- THE CELL 'sum', in the pinned program and in every row, IS THE sha256 OF THE DUMP (.gsa) THAT YtcbmgdkopgepdaaProg.lean LOADS. Nothing in Lean hashes anything: it is a label: what it is worth is what the hold of that sum in a sandbox is worth. -/
noncomputable def Try.pinned : Pinned := { name := "ytcbmgdkopgepdaa", sum := "2ae1f26ec6796e762b7b6f91df2fa4f58230851c0d4e1380e092ee831ef2e6fd", checked := Try.checked }
namespace Rows
def none {H : Type} : Left H := { results := [], args := [] }

/-- 'wellspringlaw07.SomeTells': WHATEVER THE INPUT: true; the input reads as it did. -/
def someTellsSpec : ChangeSpec := { name := "someTells", fn := fun _ => fun
  | [d1, d2, d3, d4] => { results := [.lit (.bool true)], args := [d1, d2, d3, d4] }
  | _ => none }
def someTellsRow : OpenClaim := { program := "ytcbmgdkopgepdaa", sum := "2ae1f26ec6796e762b7b6f91df2fa4f58230851c0d4e1380e092ee831ef2e6fd", func := "wellspring/wellspringlaw07.SomeTells", spec := "someTells", unfollowed := true, recurses := true, apart := false }
def SomeTellsSaid : Prop := someTellsRow.holds Try.pinned (OpenSpec.ofChange someTellsSpec)

/-- ITS FALSE NEIGHBOUR: 'it returns false'. Refute it at one input. -/
def someTellsWrong : ChangeSpec := { name := "someTells", fn := fun _ => fun
  | [d1, d2, d3, d4] => { results := [.lit (.bool false)], args := [d1, d2, d3, d4] }
  | _ => none }
def SomeTellsWrongFalsely : Prop := someTellsRow.holds Try.pinned (OpenSpec.ofChange someTellsWrong)

/-- 'wellspringlaw07.SomeSets': WHATEVER THE INPUT: true; the input reads as it did. -/
def someSetsSpec : ChangeSpec := { name := "someSets", fn := fun _ => fun
  | [d1, d2, d3] => { results := [.lit (.bool true)], args := [d1, d2, d3] }
  | _ => none }
def someSetsRow : OpenClaim := { program := "ytcbmgdkopgepdaa", sum := "2ae1f26ec6796e762b7b6f91df2fa4f58230851c0d4e1380e092ee831ef2e6fd", func := "wellspring/wellspringlaw07.SomeSets", spec := "someSets", recurses := true, apart := false }
def SomeSetsSaid : Prop := someSetsRow.holds Try.pinned (OpenSpec.ofChange someSetsSpec)

/-- ITS FALSE NEIGHBOUR: 'it returns false'. Refute it at one input. -/
def someSetsWrong : ChangeSpec := { name := "someSets", fn := fun _ => fun
  | [d1, d2, d3] => { results := [.lit (.bool false)], args := [d1, d2, d3] }
  | _ => none }
def SomeSetsWrongFalsely : Prop := someSetsRow.holds Try.pinned (OpenSpec.ofChange someSetsWrong)

/-- 'wellspringlaw07.SomeMore': WHATEVER THE INPUT: true; the input reads as it did. -/
def someMoreSpec : ChangeSpec := { name := "someMore", fn := fun _ => fun
  | [d1, d2, d3] => { results := [.lit (.bool true)], args := [d1, d2, d3] }
  | _ => none }
def someMoreRow : OpenClaim := { program := "ytcbmgdkopgepdaa", sum := "2ae1f26ec6796e762b7b6f91df2fa4f58230851c0d4e1380e092ee831ef2e6fd", func := "wellspring/wellspringlaw07.SomeMore", spec := "someMore", recurses := true, apart := false }
def SomeMoreSaid : Prop := someMoreRow.holds Try.pinned (OpenSpec.ofChange someMoreSpec)

/-- ITS FALSE NEIGHBOUR: 'it returns false'. Refute it at one input. -/
def someMoreWrong : ChangeSpec := { name := "someMore", fn := fun _ => fun
  | [d1, d2, d3] => { results := [.lit (.bool false)], args := [d1, d2, d3] }
  | _ => none }
def SomeMoreWrongFalsely : Prop := someMoreRow.holds Try.pinned (OpenSpec.ofChange someMoreWrong)

/-- 'wellspringlaw07.SomeDraws': WHATEVER THE INPUT: true; the input reads as it did. -/
def someDrawsSpec : ChangeSpec := { name := "someDraws", fn := fun _ => fun
  | [d1, d2, d3] => { results := [.lit (.bool true)], args := [d1, d2, d3] }
  | _ => none }
def someDrawsRow : OpenClaim := { program := "ytcbmgdkopgepdaa", sum := "2ae1f26ec6796e762b7b6f91df2fa4f58230851c0d4e1380e092ee831ef2e6fd", func := "wellspring/wellspringlaw07.SomeDraws", spec := "someDraws", recurses := true, apart := false }
def SomeDrawsSaid : Prop := someDrawsRow.holds Try.pinned (OpenSpec.ofChange someDrawsSpec)

/-- ITS FALSE NEIGHBOUR: 'it returns false'. Refute it at one input. -/
def someDrawsWrong : ChangeSpec := { name := "someDraws", fn := fun _ => fun
  | [d1, d2, d3] => { results := [.lit (.bool false)], args := [d1, d2, d3] }
  | _ => none }
def SomeDrawsWrongFalsely : Prop := someDrawsRow.holds Try.pinned (OpenSpec.ofChange someDrawsWrong)

/- THE SECOND FORM. 'bulk': how many values and letters a reading holds, each counted each time it is reached (what is shared counts as often as it is met; a slice's spare places count too). A statement '..UptoSaid' is the law's where the arguments, and the package variables that the reading takes, are together of bulk at most 1048576: NARROWER than '..Said'. Prove '..Said' where nothing that the law and all that it calls make is longer than what came in: it says more and counts as full. Else prove '..UptoSaid'. A law counts once. -/
mutual
def uptoBulk {H : Type} : DataW H → Nat
  | .lit (.string bytes) => bytes.length + 1
  | .lit _ => 1
  | .nil => 1
  | .ptr d => uptoBulk d + 1
  | .slice elems spare => uptoBulkAll elems + uptoBulkAll spare + 1
  | .agg parts => uptoBulkAll parts + 1
  | .iface _ d => uptoBulk d + 1
  | .map entries => uptoBulkEntries entries + 1
  | .held _ => 1
def uptoBulkAll {H : Type} : List (DataW H) → Nat
  | [] => 0
  | d :: r => uptoBulk d + uptoBulkAll r
def uptoBulkEntries {H : Type} : List (Lit × DataW H) → Nat
  | [] => 0
  | x :: r => uptoBulkEntry x + uptoBulkEntries r
def uptoBulkEntry {H : Type} : Lit × DataW H → Nat
  | (.string bytes, d) => bytes.length + uptoBulk d + 1
  | (_, d) => uptoBulk d + 1
 end
def uptoSmall : (H : Type) → List (DataW H) → Bool := fun _ ds => decide (uptoBulkAll ds ≤ 1048576)
def OpenSpec.upto (s : _root_.Go.ChangeSpec) : _root_.Go.OpenSpec := { _root_.Go.OpenSpec.ofChange s with cond := some uptoSmall }

/-- 'wellspringlaw07.SomeTells', WHERE WHAT IT READS IS OF BULK AT MOST 1048576: true; the input reads as it did. -/
def someTellsUptoRow : OpenClaim := { program := "ytcbmgdkopgepdaa", sum := "2ae1f26ec6796e762b7b6f91df2fa4f58230851c0d4e1380e092ee831ef2e6fd", func := "wellspring/wellspringlaw07.SomeTells", spec := "someTells", unfollowed := true, recurses := true, apart := false, narrowed := true }
def SomeTellsUptoSaid : Prop := someTellsUptoRow.holds Try.pinned (OpenSpec.upto someTellsSpec)

/-- 'wellspringlaw07.SomeSets', WHERE WHAT IT READS IS OF BULK AT MOST 1048576: true; the input reads as it did. -/
def someSetsUptoRow : OpenClaim := { program := "ytcbmgdkopgepdaa", sum := "2ae1f26ec6796e762b7b6f91df2fa4f58230851c0d4e1380e092ee831ef2e6fd", func := "wellspring/wellspringlaw07.SomeSets", spec := "someSets", recurses := true, apart := false, narrowed := true }
def SomeSetsUptoSaid : Prop := someSetsUptoRow.holds Try.pinned (OpenSpec.upto someSetsSpec)

/-- 'wellspringlaw07.SomeMore', WHERE WHAT IT READS IS OF BULK AT MOST 1048576: true; the input reads as it did. -/
def someMoreUptoRow : OpenClaim := { program := "ytcbmgdkopgepdaa", sum := "2ae1f26ec6796e762b7b6f91df2fa4f58230851c0d4e1380e092ee831ef2e6fd", func := "wellspring/wellspringlaw07.SomeMore", spec := "someMore", recurses := true, apart := false, narrowed := true }
def SomeMoreUptoSaid : Prop := someMoreUptoRow.holds Try.pinned (OpenSpec.upto someMoreSpec)

/-- 'wellspringlaw07.SomeDraws', WHERE WHAT IT READS IS OF BULK AT MOST 1048576: true; the input reads as it did. -/
def someDrawsUptoRow : OpenClaim := { program := "ytcbmgdkopgepdaa", sum := "2ae1f26ec6796e762b7b6f91df2fa4f58230851c0d4e1380e092ee831ef2e6fd", func := "wellspring/wellspringlaw07.SomeDraws", spec := "someDraws", recurses := true, apart := false, narrowed := true }
def SomeDrawsUptoSaid : Prop := someDrawsUptoRow.holds Try.pinned (OpenSpec.upto someDrawsSpec)

end Rows
end Go.Proofs.Ytcbmgdkopgepdaa
