/-
  No cell of these rows narrows 'for every input' (looked for: loops, veiled, ifaces, maps, wideKeys, modest, calm, conditions, laid).
  DERIVED. THE GIVEN ROWS OF THIS SEAT. 4 by the template 'for every input the law returns true; each argument reads behind the call as it read before'; 0 by the template 'total and deterministic' (their statements: YtjibmgdafpempaaTotals.lean).
  GIVEN WITH THE SEED: the statements are not yours to turn. If you find one false, say at which input.
  Laid BY PROGRAM, IN A SANDBOX (cutbox-rows.mjs): the forced cells as the released guide's own fill.sh prints them over the translation d4882db107165387… (all of the seat's roots in one cut). By AI agents, Wed Nov 11 2026. No macro, syntax, notation, axiom, sorry.
-/
import Derived.Test.YtjibmgdafpempaaChecked
import GoSem.Claim
import GoSem.ClaimJoined
import GoSem.ClaimMapViews
import Derived.JoinedTies
import Derived.KernelRfl
namespace Go.Proofs.Ytjibmgdafpempaa
/- THE CELL 'sum', in the pinned program and in every row, IS THE sha256 OF THE DUMP (.gsa) THAT YtjibmgdafpempaaProg.lean LOADS. Nothing in Lean hashes anything: it is a label: what it is worth is what the hold of that sum in a sandbox is worth. -/
noncomputable def Try.pinned : Pinned := { name := "ytjibmgdafpempaa", sum := "d4882db107165387858762a4a35c00d1bde43cc3dd18e70389fa1cf05541490e", checked := Try.checked }
namespace Rows
def none {H : Type} : Left H := { results := [], args := [] }

/-- 'wellspringlaw12.PeelTells': WHATEVER THE INPUT: true; the input reads as it did. -/
def peelTellsSpec : ChangeSpec := { name := "peelTells", fn := fun _ => fun
  | [d1, d2, d3, d4, d5, d6] => { results := [.lit (.bool true)], args := [d1, d2, d3, d4, d5, d6] }
  | _ => none }
def peelTellsRow : OpenClaim := { program := "ytjibmgdafpempaa", sum := "d4882db107165387858762a4a35c00d1bde43cc3dd18e70389fa1cf05541490e", func := "wellspring/wellspringlaw12.PeelTells", spec := "peelTells", apart := false }
def PeelTellsSaid : Prop := peelTellsRow.holds Try.pinned (OpenSpec.ofChange peelTellsSpec)

/-- ITS FALSE NEIGHBOUR: 'it returns false'. Refute it at one input. -/
def peelTellsWrong : ChangeSpec := { name := "peelTells", fn := fun _ => fun
  | [d1, d2, d3, d4, d5, d6] => { results := [.lit (.bool false)], args := [d1, d2, d3, d4, d5, d6] }
  | _ => none }
def PeelTellsWrongFalsely : Prop := peelTellsRow.holds Try.pinned (OpenSpec.ofChange peelTellsWrong)

/-- 'wellspringlaw12.PeelTrue': WHATEVER THE INPUT: true; the input reads as it did. -/
def peelTrueSpec : ChangeSpec := { name := "peelTrue", fn := fun _ => fun
  | [d1, d2, d3] => { results := [.lit (.bool true)], args := [d1, d2, d3] }
  | _ => none }
def peelTrueRow : OpenClaim := { program := "ytjibmgdafpempaa", sum := "d4882db107165387858762a4a35c00d1bde43cc3dd18e70389fa1cf05541490e", func := "wellspring/wellspringlaw12.PeelTrue", spec := "peelTrue", apart := false }
def PeelTrueSaid : Prop := peelTrueRow.holds Try.pinned (OpenSpec.ofChange peelTrueSpec)

/-- ITS FALSE NEIGHBOUR: 'it returns false'. Refute it at one input. -/
def peelTrueWrong : ChangeSpec := { name := "peelTrue", fn := fun _ => fun
  | [d1, d2, d3] => { results := [.lit (.bool false)], args := [d1, d2, d3] }
  | _ => none }
def PeelTrueWrongFalsely : Prop := peelTrueRow.holds Try.pinned (OpenSpec.ofChange peelTrueWrong)

/-- 'wellspringlaw12.PeelOrder': WHATEVER THE INPUT: true; the input reads as it did. -/
def peelOrderSpec : ChangeSpec := { name := "peelOrder", fn := fun _ => fun
  | [d1, d2, d3, d4] => { results := [.lit (.bool true)], args := [d1, d2, d3, d4] }
  | _ => none }
def peelOrderRow : OpenClaim := { program := "ytjibmgdafpempaa", sum := "d4882db107165387858762a4a35c00d1bde43cc3dd18e70389fa1cf05541490e", func := "wellspring/wellspringlaw12.PeelOrder", spec := "peelOrder", apart := false }
def PeelOrderSaid : Prop := peelOrderRow.holds Try.pinned (OpenSpec.ofChange peelOrderSpec)

/-- ITS FALSE NEIGHBOUR: 'it returns false'. Refute it at one input. -/
def peelOrderWrong : ChangeSpec := { name := "peelOrder", fn := fun _ => fun
  | [d1, d2, d3, d4] => { results := [.lit (.bool false)], args := [d1, d2, d3, d4] }
  | _ => none }
def PeelOrderWrongFalsely : Prop := peelOrderRow.holds Try.pinned (OpenSpec.ofChange peelOrderWrong)

/-- 'wellspringlaw12.PeelClash': WHATEVER THE INPUT: true; the input reads as it did. -/
def peelClashSpec : ChangeSpec := { name := "peelClash", fn := fun _ => fun
  | [d1, d2, d3, d4] => { results := [.lit (.bool true)], args := [d1, d2, d3, d4] }
  | _ => none }
def peelClashRow : OpenClaim := { program := "ytjibmgdafpempaa", sum := "d4882db107165387858762a4a35c00d1bde43cc3dd18e70389fa1cf05541490e", func := "wellspring/wellspringlaw12.PeelClash", spec := "peelClash", apart := false }
def PeelClashSaid : Prop := peelClashRow.holds Try.pinned (OpenSpec.ofChange peelClashSpec)

/-- ITS FALSE NEIGHBOUR: 'it returns false'. Refute it at one input. -/
def peelClashWrong : ChangeSpec := { name := "peelClash", fn := fun _ => fun
  | [d1, d2, d3, d4] => { results := [.lit (.bool false)], args := [d1, d2, d3, d4] }
  | _ => none }
def PeelClashWrongFalsely : Prop := peelClashRow.holds Try.pinned (OpenSpec.ofChange peelClashWrong)

/- THE SECOND FORM. 'bulk': how many values and letters a reading holds, each counted each time it is reached (what is shared counts as often as it is met; a slice's spare places count too). A statement '..UptoSaid' is the law's where the arguments, and the package variables that the reading takes, are together of bulk at most 1048576: NARROWER than '..Said'. Prove '..Said' where nothing that the law and all that it calls make is longer than what came in: it says more and counts as full. Else prove '..UptoSaid'. A law counts once. -/
mutual
def uptoBulk {H : Type} : DataW H → Nat
  | .lit (.string bytes) => bytes.length + 1
  | .lit _ => 1
  | .nil => 1
  | .ptr d => uptoBulk d + 1
  | .slice elems spare => uptoBulkAll elems + uptoBulkAll spare + 1
  | .agg parts => uptoBulkAll parts + 1
  | .iface _ d => uptoBulk d + 1
  | .map entries => uptoBulkEntries entries + 1
  | .held _ => 1
def uptoBulkAll {H : Type} : List (DataW H) → Nat
  | [] => 0
  | d :: r => uptoBulk d + uptoBulkAll r
def uptoBulkEntries {H : Type} : List (Lit × DataW H) → Nat
  | [] => 0
  | x :: r => uptoBulkEntry x + uptoBulkEntries r
def uptoBulkEntry {H : Type} : Lit × DataW H → Nat
  | (.string bytes, d) => bytes.length + uptoBulk d + 1
  | (_, d) => uptoBulk d + 1
 end
def uptoSmall : (H : Type) → List (DataW H) → Bool := fun _ ds => decide (uptoBulkAll ds ≤ 1048576)
def OpenSpec.upto (s : _root_.Go.ChangeSpec) : _root_.Go.OpenSpec := { _root_.Go.OpenSpec.ofChange s with cond := some uptoSmall }

/-- 'wellspringlaw12.PeelTells', WHERE WHAT IT READS IS OF BULK AT MOST 1048576: true; the input reads as it did. -/
def peelTellsUptoRow : OpenClaim := { program := "ytjibmgdafpempaa", sum := "d4882db107165387858762a4a35c00d1bde43cc3dd18e70389fa1cf05541490e", func := "wellspring/wellspringlaw12.PeelTells", spec := "peelTells", apart := false, narrowed := true }
def PeelTellsUptoSaid : Prop := peelTellsUptoRow.holds Try.pinned (OpenSpec.upto peelTellsSpec)

/-- 'wellspringlaw12.PeelTrue', WHERE WHAT IT READS IS OF BULK AT MOST 1048576: true; the input reads as it did. -/
def peelTrueUptoRow : OpenClaim := { program := "ytjibmgdafpempaa", sum := "d4882db107165387858762a4a35c00d1bde43cc3dd18e70389fa1cf05541490e", func := "wellspring/wellspringlaw12.PeelTrue", spec := "peelTrue", apart := false, narrowed := true }
def PeelTrueUptoSaid : Prop := peelTrueUptoRow.holds Try.pinned (OpenSpec.upto peelTrueSpec)

/-- 'wellspringlaw12.PeelOrder', WHERE WHAT IT READS IS OF BULK AT MOST 1048576: true; the input reads as it did. -/
def peelOrderUptoRow : OpenClaim := { program := "ytjibmgdafpempaa", sum := "d4882db107165387858762a4a35c00d1bde43cc3dd18e70389fa1cf05541490e", func := "wellspring/wellspringlaw12.PeelOrder", spec := "peelOrder", apart := false, narrowed := true }
def PeelOrderUptoSaid : Prop := peelOrderUptoRow.holds Try.pinned (OpenSpec.upto peelOrderSpec)

/-- 'wellspringlaw12.PeelClash', WHERE WHAT IT READS IS OF BULK AT MOST 1048576: true; the input reads as it did. -/
def peelClashUptoRow : OpenClaim := { program := "ytjibmgdafpempaa", sum := "d4882db107165387858762a4a35c00d1bde43cc3dd18e70389fa1cf05541490e", func := "wellspring/wellspringlaw12.PeelClash", spec := "peelClash", apart := false, narrowed := true }
def PeelClashUptoSaid : Prop := peelClashUptoRow.holds Try.pinned (OpenSpec.upto peelClashSpec)

end Rows
end Go.Proofs.Ytjibmgdafpempaa
