/-
  No cell of these rows narrows 'for every input' (looked for: loops, veiled, ifaces, maps, wideKeys, modest, calm, conditions, laid).
  DERIVED. THE GIVEN ROWS OF THIS SEAT. 4 by the template 'for every input the law returns true; each argument reads behind the call as it read before'; 0 by the template 'total and deterministic' (their statements: YtdmcncpndogdlaaTotals.lean).
  GIVEN WITH THE SEED: the statements are not yours to turn. If you find one false, say at which input.
  Laid BY PROGRAM, IN A SANDBOX (cutbox-rows.mjs): the forced cells as the released guide's own fill.sh prints them over the translation f3430c52f80e4397… (all of the seat's roots in one cut). By AI agents, Wed Nov 11 2026. No macro, syntax, notation, axiom, sorry.
-/
import Derived.Test.YtdmcncpndogdlaaChecked
import GoSem.Claim
import GoSem.ClaimJoined
import GoSem.ClaimMapViews
import Derived.JoinedTies
import Derived.KernelRfl
namespace Go.Proofs.Ytdmcncpndogdlaa
/- THE CELL 'sum', in the pinned program and in every row, IS THE sha256 OF THE DUMP (.gsa) THAT YtdmcncpndogdlaaProg.lean LOADS. Nothing in Lean hashes anything: it is a label: what it is worth is what the hold of that sum in a sandbox is worth. -/
noncomputable def Try.pinned : Pinned := { name := "ytdmcncpndogdlaa", sum := "f3430c52f80e4397605368a11896e4903ed6f689e9a8ead8c3a71a46ce2e01e6", checked := Try.checked }
namespace Rows
def none {H : Type} : Left H := { results := [], args := [] }

/-- 'wellspringlaw13.PlanTells': WHATEVER THE INPUT: true; the input reads as it did. -/
def planTellsSpec : ChangeSpec := { name := "planTells", fn := fun _ => fun
  | [d1, d2, d3] => { results := [.lit (.bool true)], args := [d1, d2, d3] }
  | _ => none }
def planTellsRow : OpenClaim := { program := "ytdmcncpndogdlaa", sum := "f3430c52f80e4397605368a11896e4903ed6f689e9a8ead8c3a71a46ce2e01e6", func := "wellspring/wellspringlaw13.PlanTells", spec := "planTells", apart := false }
def PlanTellsSaid : Prop := planTellsRow.holds Try.pinned (OpenSpec.ofChange planTellsSpec)

/-- ITS FALSE NEIGHBOUR: 'it returns false'. Refute it at one input. -/
def planTellsWrong : ChangeSpec := { name := "planTells", fn := fun _ => fun
  | [d1, d2, d3] => { results := [.lit (.bool false)], args := [d1, d2, d3] }
  | _ => none }
def PlanTellsWrongFalsely : Prop := planTellsRow.holds Try.pinned (OpenSpec.ofChange planTellsWrong)

/-- 'wellspringlaw13.PlanWhole': WHATEVER THE INPUT: true; the input reads as it did. -/
def planWholeSpec : ChangeSpec := { name := "planWhole", fn := fun _ => fun
  | [d1, d2] => { results := [.lit (.bool true)], args := [d1, d2] }
  | _ => none }
def planWholeRow : OpenClaim := { program := "ytdmcncpndogdlaa", sum := "f3430c52f80e4397605368a11896e4903ed6f689e9a8ead8c3a71a46ce2e01e6", func := "wellspring/wellspringlaw13.PlanWhole", spec := "planWhole", apart := false }
def PlanWholeSaid : Prop := planWholeRow.holds Try.pinned (OpenSpec.ofChange planWholeSpec)

/-- ITS FALSE NEIGHBOUR: 'it returns false'. Refute it at one input. -/
def planWholeWrong : ChangeSpec := { name := "planWhole", fn := fun _ => fun
  | [d1, d2] => { results := [.lit (.bool false)], args := [d1, d2] }
  | _ => none }
def PlanWholeWrongFalsely : Prop := planWholeRow.holds Try.pinned (OpenSpec.ofChange planWholeWrong)

/-- 'wellspringlaw13.PlanChain': WHATEVER THE INPUT: true; the input reads as it did. -/
def planChainSpec : ChangeSpec := { name := "planChain", fn := fun _ => fun
  | [d1, d2, d3] => { results := [.lit (.bool true)], args := [d1, d2, d3] }
  | _ => none }
def planChainRow : OpenClaim := { program := "ytdmcncpndogdlaa", sum := "f3430c52f80e4397605368a11896e4903ed6f689e9a8ead8c3a71a46ce2e01e6", func := "wellspring/wellspringlaw13.PlanChain", spec := "planChain", apart := false }
def PlanChainSaid : Prop := planChainRow.holds Try.pinned (OpenSpec.ofChange planChainSpec)

/-- ITS FALSE NEIGHBOUR: 'it returns false'. Refute it at one input. -/
def planChainWrong : ChangeSpec := { name := "planChain", fn := fun _ => fun
  | [d1, d2, d3] => { results := [.lit (.bool false)], args := [d1, d2, d3] }
  | _ => none }
def PlanChainWrongFalsely : Prop := planChainRow.holds Try.pinned (OpenSpec.ofChange planChainWrong)

/-- 'wellspringlaw13.PlanPairs': WHATEVER THE INPUT: true; the input reads as it did. -/
def planPairsSpec : ChangeSpec := { name := "planPairs", fn := fun _ => fun
  | [d1, d2] => { results := [.lit (.bool true)], args := [d1, d2] }
  | _ => none }
def planPairsRow : OpenClaim := { program := "ytdmcncpndogdlaa", sum := "f3430c52f80e4397605368a11896e4903ed6f689e9a8ead8c3a71a46ce2e01e6", func := "wellspring/wellspringlaw13.PlanPairs", spec := "planPairs", apart := false }
def PlanPairsSaid : Prop := planPairsRow.holds Try.pinned (OpenSpec.ofChange planPairsSpec)

/-- ITS FALSE NEIGHBOUR: 'it returns false'. Refute it at one input. -/
def planPairsWrong : ChangeSpec := { name := "planPairs", fn := fun _ => fun
  | [d1, d2] => { results := [.lit (.bool false)], args := [d1, d2] }
  | _ => none }
def PlanPairsWrongFalsely : Prop := planPairsRow.holds Try.pinned (OpenSpec.ofChange planPairsWrong)

/- THE SECOND FORM. 'bulk': how many values and letters a reading holds, each counted each time it is reached (what is shared counts as often as it is met; a slice's spare places count too). A statement '..UptoSaid' is the law's where the arguments, and the package variables that the reading takes, are together of bulk at most 1048576: NARROWER than '..Said'. Prove '..Said' where nothing that the law and all that it calls make is longer than what came in: it says more and counts as full. Else prove '..UptoSaid'. A law counts once. -/
mutual
def uptoBulk {H : Type} : DataW H → Nat
  | .lit (.string bytes) => bytes.length + 1
  | .lit _ => 1
  | .nil => 1
  | .ptr d => uptoBulk d + 1
  | .slice elems spare => uptoBulkAll elems + uptoBulkAll spare + 1
  | .agg parts => uptoBulkAll parts + 1
  | .iface _ d => uptoBulk d + 1
  | .map entries => uptoBulkEntries entries + 1
  | .held _ => 1
def uptoBulkAll {H : Type} : List (DataW H) → Nat
  | [] => 0
  | d :: r => uptoBulk d + uptoBulkAll r
def uptoBulkEntries {H : Type} : List (Lit × DataW H) → Nat
  | [] => 0
  | x :: r => uptoBulkEntry x + uptoBulkEntries r
def uptoBulkEntry {H : Type} : Lit × DataW H → Nat
  | (.string bytes, d) => bytes.length + uptoBulk d + 1
  | (_, d) => uptoBulk d + 1
 end
def uptoSmall : (H : Type) → List (DataW H) → Bool := fun _ ds => decide (uptoBulkAll ds ≤ 1048576)
def OpenSpec.upto (s : _root_.Go.ChangeSpec) : _root_.Go.OpenSpec := { _root_.Go.OpenSpec.ofChange s with cond := some uptoSmall }

/-- 'wellspringlaw13.PlanTells', WHERE WHAT IT READS IS OF BULK AT MOST 1048576: true; the input reads as it did. -/
def planTellsUptoRow : OpenClaim := { program := "ytdmcncpndogdlaa", sum := "f3430c52f80e4397605368a11896e4903ed6f689e9a8ead8c3a71a46ce2e01e6", func := "wellspring/wellspringlaw13.PlanTells", spec := "planTells", apart := false, narrowed := true }
def PlanTellsUptoSaid : Prop := planTellsUptoRow.holds Try.pinned (OpenSpec.upto planTellsSpec)

/-- 'wellspringlaw13.PlanWhole', WHERE WHAT IT READS IS OF BULK AT MOST 1048576: true; the input reads as it did. -/
def planWholeUptoRow : OpenClaim := { program := "ytdmcncpndogdlaa", sum := "f3430c52f80e4397605368a11896e4903ed6f689e9a8ead8c3a71a46ce2e01e6", func := "wellspring/wellspringlaw13.PlanWhole", spec := "planWhole", apart := false, narrowed := true }
def PlanWholeUptoSaid : Prop := planWholeUptoRow.holds Try.pinned (OpenSpec.upto planWholeSpec)

/-- 'wellspringlaw13.PlanChain', WHERE WHAT IT READS IS OF BULK AT MOST 1048576: true; the input reads as it did. -/
def planChainUptoRow : OpenClaim := { program := "ytdmcncpndogdlaa", sum := "f3430c52f80e4397605368a11896e4903ed6f689e9a8ead8c3a71a46ce2e01e6", func := "wellspring/wellspringlaw13.PlanChain", spec := "planChain", apart := false, narrowed := true }
def PlanChainUptoSaid : Prop := planChainUptoRow.holds Try.pinned (OpenSpec.upto planChainSpec)

/-- 'wellspringlaw13.PlanPairs', WHERE WHAT IT READS IS OF BULK AT MOST 1048576: true; the input reads as it did. -/
def planPairsUptoRow : OpenClaim := { program := "ytdmcncpndogdlaa", sum := "f3430c52f80e4397605368a11896e4903ed6f689e9a8ead8c3a71a46ce2e01e6", func := "wellspring/wellspringlaw13.PlanPairs", spec := "planPairs", apart := false, narrowed := true }
def PlanPairsUptoSaid : Prop := planPairsUptoRow.holds Try.pinned (OpenSpec.upto planPairsSpec)

end Rows
end Go.Proofs.Ytdmcncpndogdlaa
