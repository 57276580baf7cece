/-
  No cell of these rows narrows 'for every input' (looked for: loops, veiled, ifaces, maps, wideKeys, modest, calm, conditions, laid).
  DERIVED. THE GIVEN ROWS OF THIS SEAT. 4 by the template 'for every input the law returns true; each argument reads behind the call as it read before'; 0 by the template 'total and deterministic' (their statements: YtedobcajbelcpaaTotals.lean).
  GIVEN WITH THE SEED: the statements are not yours to turn. If you find one false, say at which input.
  Laid BY PROGRAM, IN A SANDBOX (cutbox-rows.mjs): the forced cells as the released guide's own fill.sh prints them over the translation 4eda8b0dc2bbe9d7… (all of the seat's roots in one cut). By AI agents, Wed Nov 11 2026. No macro, syntax, notation, axiom, sorry.
-/
import Derived.Test.YtedobcajbelcpaaChecked
import GoSem.Claim
import GoSem.ClaimJoined
import GoSem.ClaimMapViews
import Derived.JoinedTies
import Derived.KernelRfl
namespace Go.Proofs.Ytedobcajbelcpaa
/- THE CELL 'sum', in the pinned program and in every row, IS THE sha256 OF THE DUMP (.gsa) THAT YtedobcajbelcpaaProg.lean LOADS. Nothing in Lean hashes anything: it is a label: what it is worth is what the hold of that sum in a sandbox is worth. -/
noncomputable def Try.pinned : Pinned := { name := "ytedobcajbelcpaa", sum := "4eda8b0dc2bbe9d755497d49502220ec8f624284f9bab6b3f641219f39caa57e", checked := Try.checked }
namespace Rows
def none {H : Type} : Left H := { results := [], args := [] }

/-- 'wellspringlaw10.SystemOrder': WHATEVER THE INPUT: true; the input reads as it did. -/
def systemOrderSpec : ChangeSpec := { name := "systemOrder", fn := fun _ => fun
  | [d1, d2, d3, d4, d5, d6] => { results := [.lit (.bool true)], args := [d1, d2, d3, d4, d5, d6] }
  | _ => none }
def systemOrderRow : OpenClaim := { program := "ytedobcajbelcpaa", sum := "4eda8b0dc2bbe9d755497d49502220ec8f624284f9bab6b3f641219f39caa57e", func := "wellspring/wellspringlaw10.SystemOrder", spec := "systemOrder", unfollowed := true, recurses := true, apart := false }
def SystemOrderSaid : Prop := systemOrderRow.holds Try.pinned (OpenSpec.ofChange systemOrderSpec)

/-- ITS FALSE NEIGHBOUR: 'it returns false'. Refute it at one input. -/
def systemOrderWrong : ChangeSpec := { name := "systemOrder", fn := fun _ => fun
  | [d1, d2, d3, d4, d5, d6] => { results := [.lit (.bool false)], args := [d1, d2, d3, d4, d5, d6] }
  | _ => none }
def SystemOrderWrongFalsely : Prop := systemOrderRow.holds Try.pinned (OpenSpec.ofChange systemOrderWrong)

/-- 'wellspringlaw10.SystemGrows': WHATEVER THE INPUT: true; the input reads as it did. -/
def systemGrowsSpec : ChangeSpec := { name := "systemGrows", fn := fun _ => fun
  | [d1, d2, d3, d4, d5] => { results := [.lit (.bool true)], args := [d1, d2, d3, d4, d5] }
  | _ => none }
def systemGrowsRow : OpenClaim := { program := "ytedobcajbelcpaa", sum := "4eda8b0dc2bbe9d755497d49502220ec8f624284f9bab6b3f641219f39caa57e", func := "wellspring/wellspringlaw10.SystemGrows", spec := "systemGrows", unfollowed := true, recurses := true, apart := false }
def SystemGrowsSaid : Prop := systemGrowsRow.holds Try.pinned (OpenSpec.ofChange systemGrowsSpec)

/-- ITS FALSE NEIGHBOUR: 'it returns false'. Refute it at one input. -/
def systemGrowsWrong : ChangeSpec := { name := "systemGrows", fn := fun _ => fun
  | [d1, d2, d3, d4, d5] => { results := [.lit (.bool false)], args := [d1, d2, d3, d4, d5] }
  | _ => none }
def SystemGrowsWrongFalsely : Prop := systemGrowsRow.holds Try.pinned (OpenSpec.ofChange systemGrowsWrong)

/-- 'wellspringlaw10.SystemRows': WHATEVER THE INPUT: true; the input reads as it did. -/
def systemRowsSpec : ChangeSpec := { name := "systemRows", fn := fun _ => fun
  | [d1, d2, d3, d4, d5] => { results := [.lit (.bool true)], args := [d1, d2, d3, d4, d5] }
  | _ => none }
def systemRowsRow : OpenClaim := { program := "ytedobcajbelcpaa", sum := "4eda8b0dc2bbe9d755497d49502220ec8f624284f9bab6b3f641219f39caa57e", func := "wellspring/wellspringlaw10.SystemRows", spec := "systemRows", unfollowed := true, recurses := true, apart := false }
def SystemRowsSaid : Prop := systemRowsRow.holds Try.pinned (OpenSpec.ofChange systemRowsSpec)

/-- ITS FALSE NEIGHBOUR: 'it returns false'. Refute it at one input. -/
def systemRowsWrong : ChangeSpec := { name := "systemRows", fn := fun _ => fun
  | [d1, d2, d3, d4, d5] => { results := [.lit (.bool false)], args := [d1, d2, d3, d4, d5] }
  | _ => none }
def SystemRowsWrongFalsely : Prop := systemRowsRow.holds Try.pinned (OpenSpec.ofChange systemRowsWrong)

/-- 'wellspringlaw10.SystemRight': WHATEVER THE INPUT: true; the input reads as it did. -/
def systemRightSpec : ChangeSpec := { name := "systemRight", fn := fun _ => fun
  | [d1, d2, d3, d4, d5] => { results := [.lit (.bool true)], args := [d1, d2, d3, d4, d5] }
  | _ => none }
def systemRightRow : OpenClaim := { program := "ytedobcajbelcpaa", sum := "4eda8b0dc2bbe9d755497d49502220ec8f624284f9bab6b3f641219f39caa57e", func := "wellspring/wellspringlaw10.SystemRight", spec := "systemRight", unfollowed := true, recurses := true, apart := false }
def SystemRightSaid : Prop := systemRightRow.holds Try.pinned (OpenSpec.ofChange systemRightSpec)

/-- ITS FALSE NEIGHBOUR: 'it returns false'. Refute it at one input. -/
def systemRightWrong : ChangeSpec := { name := "systemRight", fn := fun _ => fun
  | [d1, d2, d3, d4, d5] => { results := [.lit (.bool false)], args := [d1, d2, d3, d4, d5] }
  | _ => none }
def SystemRightWrongFalsely : Prop := systemRightRow.holds Try.pinned (OpenSpec.ofChange systemRightWrong)

/- THE SECOND FORM. 'bulk': how many values and letters a reading holds, each counted each time it is reached (what is shared counts as often as it is met; a slice's spare places count too). A statement '..UptoSaid' is the law's where the arguments, and the package variables that the reading takes, are together of bulk at most 1048576: NARROWER than '..Said'. Prove '..Said' where nothing that the law and all that it calls make is longer than what came in: it says more and counts as full. Else prove '..UptoSaid'. A law counts once. -/
mutual
def uptoBulk {H : Type} : DataW H → Nat
  | .lit (.string bytes) => bytes.length + 1
  | .lit _ => 1
  | .nil => 1
  | .ptr d => uptoBulk d + 1
  | .slice elems spare => uptoBulkAll elems + uptoBulkAll spare + 1
  | .agg parts => uptoBulkAll parts + 1
  | .iface _ d => uptoBulk d + 1
  | .map entries => uptoBulkEntries entries + 1
  | .held _ => 1
def uptoBulkAll {H : Type} : List (DataW H) → Nat
  | [] => 0
  | d :: r => uptoBulk d + uptoBulkAll r
def uptoBulkEntries {H : Type} : List (Lit × DataW H) → Nat
  | [] => 0
  | x :: r => uptoBulkEntry x + uptoBulkEntries r
def uptoBulkEntry {H : Type} : Lit × DataW H → Nat
  | (.string bytes, d) => bytes.length + uptoBulk d + 1
  | (_, d) => uptoBulk d + 1
 end
def uptoSmall : (H : Type) → List (DataW H) → Bool := fun _ ds => decide (uptoBulkAll ds ≤ 1048576)
def OpenSpec.upto (s : _root_.Go.ChangeSpec) : _root_.Go.OpenSpec := { _root_.Go.OpenSpec.ofChange s with cond := some uptoSmall }

/-- 'wellspringlaw10.SystemOrder', WHERE WHAT IT READS IS OF BULK AT MOST 1048576: true; the input reads as it did. -/
def systemOrderUptoRow : OpenClaim := { program := "ytedobcajbelcpaa", sum := "4eda8b0dc2bbe9d755497d49502220ec8f624284f9bab6b3f641219f39caa57e", func := "wellspring/wellspringlaw10.SystemOrder", spec := "systemOrder", unfollowed := true, recurses := true, apart := false, narrowed := true }
def SystemOrderUptoSaid : Prop := systemOrderUptoRow.holds Try.pinned (OpenSpec.upto systemOrderSpec)

/-- 'wellspringlaw10.SystemGrows', WHERE WHAT IT READS IS OF BULK AT MOST 1048576: true; the input reads as it did. -/
def systemGrowsUptoRow : OpenClaim := { program := "ytedobcajbelcpaa", sum := "4eda8b0dc2bbe9d755497d49502220ec8f624284f9bab6b3f641219f39caa57e", func := "wellspring/wellspringlaw10.SystemGrows", spec := "systemGrows", unfollowed := true, recurses := true, apart := false, narrowed := true }
def SystemGrowsUptoSaid : Prop := systemGrowsUptoRow.holds Try.pinned (OpenSpec.upto systemGrowsSpec)

/-- 'wellspringlaw10.SystemRows', WHERE WHAT IT READS IS OF BULK AT MOST 1048576: true; the input reads as it did. -/
def systemRowsUptoRow : OpenClaim := { program := "ytedobcajbelcpaa", sum := "4eda8b0dc2bbe9d755497d49502220ec8f624284f9bab6b3f641219f39caa57e", func := "wellspring/wellspringlaw10.SystemRows", spec := "systemRows", unfollowed := true, recurses := true, apart := false, narrowed := true }
def SystemRowsUptoSaid : Prop := systemRowsUptoRow.holds Try.pinned (OpenSpec.upto systemRowsSpec)

/-- 'wellspringlaw10.SystemRight', WHERE WHAT IT READS IS OF BULK AT MOST 1048576: true; the input reads as it did. -/
def systemRightUptoRow : OpenClaim := { program := "ytedobcajbelcpaa", sum := "4eda8b0dc2bbe9d755497d49502220ec8f624284f9bab6b3f641219f39caa57e", func := "wellspring/wellspringlaw10.SystemRight", spec := "systemRight", unfollowed := true, recurses := true, apart := false, narrowed := true }
def SystemRightUptoSaid : Prop := systemRightUptoRow.holds Try.pinned (OpenSpec.upto systemRightSpec)

end Rows
end Go.Proofs.Ytedobcajbelcpaa
