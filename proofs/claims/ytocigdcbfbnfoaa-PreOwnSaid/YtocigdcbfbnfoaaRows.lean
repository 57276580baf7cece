/-
  No cell of these rows narrows 'for every input' (looked for: loops, veiled, ifaces, maps, wideKeys, modest, calm, conditions, laid).
  DERIVED. THE GIVEN ROWS OF THIS SEAT. 4 by the template 'for every input the law returns true; each argument reads behind the call as it read before'; 0 by the template 'total and deterministic' (their statements: YtocigdcbfbnfoaaTotals.lean).
  GIVEN WITH THE SEED: the statements are not yours to turn. If you find one false, say at which input.
  Laid BY PROGRAM, IN A SANDBOX (cutbox-rows.mjs): the forced cells as the released guide's own fill.sh prints them over the translation 01f3da5e3b50523c… (all of the seat's roots in one cut). By AI agents, Wed Nov 11 2026. No macro, syntax, notation, axiom, sorry.
-/
import Derived.Test.YtocigdcbfbnfoaaChecked
import GoSem.Claim
import GoSem.ClaimJoined
import GoSem.ClaimMapViews
import Derived.JoinedTies
import Derived.KernelRfl
namespace Go.Proofs.Ytocigdcbfbnfoaa
/- THE CELL 'sum', in the pinned program and in every row, IS THE sha256 OF THE DUMP (.gsa) THAT YtocigdcbfbnfoaaProg.lean LOADS. Nothing in Lean hashes anything: it is a label: what it is worth is what the hold of that sum in a sandbox is worth. -/
noncomputable def Try.pinned : Pinned := { name := "ytocigdcbfbnfoaa", sum := "01f3da5e3b50523c71614ef945d2e1e61fa921aed989336fb39a289959299f61", checked := Try.checked }
namespace Rows
def none {H : Type} : Left H := { results := [], args := [] }

/-- 'wellspringlaw08.PreTells': WHATEVER THE INPUT: true; the input reads as it did. -/
def preTellsSpec : ChangeSpec := { name := "preTells", fn := fun _ => fun
  | [d1, d2, d3, d4] => { results := [.lit (.bool true)], args := [d1, d2, d3, d4] }
  | _ => none }
def preTellsRow : OpenClaim := { program := "ytocigdcbfbnfoaa", sum := "01f3da5e3b50523c71614ef945d2e1e61fa921aed989336fb39a289959299f61", func := "wellspring/wellspringlaw08.PreTells", spec := "preTells", unfollowed := true, recurses := true, apart := false }
def PreTellsSaid : Prop := preTellsRow.holds Try.pinned (OpenSpec.ofChange preTellsSpec)

/-- ITS FALSE NEIGHBOUR: 'it returns false'. Refute it at one input. -/
def preTellsWrong : ChangeSpec := { name := "preTells", fn := fun _ => fun
  | [d1, d2, d3, d4] => { results := [.lit (.bool false)], args := [d1, d2, d3, d4] }
  | _ => none }
def PreTellsWrongFalsely : Prop := preTellsRow.holds Try.pinned (OpenSpec.ofChange preTellsWrong)

/-- 'wellspringlaw08.PreRank': WHATEVER THE INPUT: true; the input reads as it did. -/
def preRankSpec : ChangeSpec := { name := "preRank", fn := fun _ => fun
  | [d1, d2, d3, d4] => { results := [.lit (.bool true)], args := [d1, d2, d3, d4] }
  | _ => none }
def preRankRow : OpenClaim := { program := "ytocigdcbfbnfoaa", sum := "01f3da5e3b50523c71614ef945d2e1e61fa921aed989336fb39a289959299f61", func := "wellspring/wellspringlaw08.PreRank", spec := "preRank", unfollowed := true, recurses := true, apart := false }
def PreRankSaid : Prop := preRankRow.holds Try.pinned (OpenSpec.ofChange preRankSpec)

/-- ITS FALSE NEIGHBOUR: 'it returns false'. Refute it at one input. -/
def preRankWrong : ChangeSpec := { name := "preRank", fn := fun _ => fun
  | [d1, d2, d3, d4] => { results := [.lit (.bool false)], args := [d1, d2, d3, d4] }
  | _ => none }
def PreRankWrongFalsely : Prop := preRankRow.holds Try.pinned (OpenSpec.ofChange preRankWrong)

/-- 'wellspringlaw08.PreDense': WHATEVER THE INPUT: true; the input reads as it did. -/
def preDenseSpec : ChangeSpec := { name := "preDense", fn := fun _ => fun
  | [d1, d2, d3] => { results := [.lit (.bool true)], args := [d1, d2, d3] }
  | _ => none }
def preDenseRow : OpenClaim := { program := "ytocigdcbfbnfoaa", sum := "01f3da5e3b50523c71614ef945d2e1e61fa921aed989336fb39a289959299f61", func := "wellspring/wellspringlaw08.PreDense", spec := "preDense", unfollowed := true, recurses := true, apart := false }
def PreDenseSaid : Prop := preDenseRow.holds Try.pinned (OpenSpec.ofChange preDenseSpec)

/-- ITS FALSE NEIGHBOUR: 'it returns false'. Refute it at one input. -/
def preDenseWrong : ChangeSpec := { name := "preDense", fn := fun _ => fun
  | [d1, d2, d3] => { results := [.lit (.bool false)], args := [d1, d2, d3] }
  | _ => none }
def PreDenseWrongFalsely : Prop := preDenseRow.holds Try.pinned (OpenSpec.ofChange preDenseWrong)

/-- 'wellspringlaw08.PreOwn': WHATEVER THE INPUT: true; the input reads as it did. -/
def preOwnSpec : ChangeSpec := { name := "preOwn", fn := fun _ => fun
  | [d1, d2, d3] => { results := [.lit (.bool true)], args := [d1, d2, d3] }
  | _ => none }
def preOwnRow : OpenClaim := { program := "ytocigdcbfbnfoaa", sum := "01f3da5e3b50523c71614ef945d2e1e61fa921aed989336fb39a289959299f61", func := "wellspring/wellspringlaw08.PreOwn", spec := "preOwn", unfollowed := true, recurses := true, apart := false }
def PreOwnSaid : Prop := preOwnRow.holds Try.pinned (OpenSpec.ofChange preOwnSpec)

/-- ITS FALSE NEIGHBOUR: 'it returns false'. Refute it at one input. -/
def preOwnWrong : ChangeSpec := { name := "preOwn", fn := fun _ => fun
  | [d1, d2, d3] => { results := [.lit (.bool false)], args := [d1, d2, d3] }
  | _ => none }
def PreOwnWrongFalsely : Prop := preOwnRow.holds Try.pinned (OpenSpec.ofChange preOwnWrong)

/- THE SECOND FORM. 'bulk': how many values and letters a reading holds, each counted each time it is reached (what is shared counts as often as it is met; a slice's spare places count too). A statement '..UptoSaid' is the law's where the arguments, and the package variables that the reading takes, are together of bulk at most 1048576: NARROWER than '..Said'. Prove '..Said' where nothing that the law and all that it calls make is longer than what came in: it says more and counts as full. Else prove '..UptoSaid'. A law counts once. -/
mutual
def uptoBulk {H : Type} : DataW H → Nat
  | .lit (.string bytes) => bytes.length + 1
  | .lit _ => 1
  | .nil => 1
  | .ptr d => uptoBulk d + 1
  | .slice elems spare => uptoBulkAll elems + uptoBulkAll spare + 1
  | .agg parts => uptoBulkAll parts + 1
  | .iface _ d => uptoBulk d + 1
  | .map entries => uptoBulkEntries entries + 1
  | .held _ => 1
def uptoBulkAll {H : Type} : List (DataW H) → Nat
  | [] => 0
  | d :: r => uptoBulk d + uptoBulkAll r
def uptoBulkEntries {H : Type} : List (Lit × DataW H) → Nat
  | [] => 0
  | x :: r => uptoBulkEntry x + uptoBulkEntries r
def uptoBulkEntry {H : Type} : Lit × DataW H → Nat
  | (.string bytes, d) => bytes.length + uptoBulk d + 1
  | (_, d) => uptoBulk d + 1
 end
def uptoSmall : (H : Type) → List (DataW H) → Bool := fun _ ds => decide (uptoBulkAll ds ≤ 1048576)
def OpenSpec.upto (s : _root_.Go.ChangeSpec) : _root_.Go.OpenSpec := { _root_.Go.OpenSpec.ofChange s with cond := some uptoSmall }

/-- 'wellspringlaw08.PreTells', WHERE WHAT IT READS IS OF BULK AT MOST 1048576: true; the input reads as it did. -/
def preTellsUptoRow : OpenClaim := { program := "ytocigdcbfbnfoaa", sum := "01f3da5e3b50523c71614ef945d2e1e61fa921aed989336fb39a289959299f61", func := "wellspring/wellspringlaw08.PreTells", spec := "preTells", unfollowed := true, recurses := true, apart := false, narrowed := true }
def PreTellsUptoSaid : Prop := preTellsUptoRow.holds Try.pinned (OpenSpec.upto preTellsSpec)

/-- 'wellspringlaw08.PreRank', WHERE WHAT IT READS IS OF BULK AT MOST 1048576: true; the input reads as it did. -/
def preRankUptoRow : OpenClaim := { program := "ytocigdcbfbnfoaa", sum := "01f3da5e3b50523c71614ef945d2e1e61fa921aed989336fb39a289959299f61", func := "wellspring/wellspringlaw08.PreRank", spec := "preRank", unfollowed := true, recurses := true, apart := false, narrowed := true }
def PreRankUptoSaid : Prop := preRankUptoRow.holds Try.pinned (OpenSpec.upto preRankSpec)

/-- 'wellspringlaw08.PreDense', WHERE WHAT IT READS IS OF BULK AT MOST 1048576: true; the input reads as it did. -/
def preDenseUptoRow : OpenClaim := { program := "ytocigdcbfbnfoaa", sum := "01f3da5e3b50523c71614ef945d2e1e61fa921aed989336fb39a289959299f61", func := "wellspring/wellspringlaw08.PreDense", spec := "preDense", unfollowed := true, recurses := true, apart := false, narrowed := true }
def PreDenseUptoSaid : Prop := preDenseUptoRow.holds Try.pinned (OpenSpec.upto preDenseSpec)

/-- 'wellspringlaw08.PreOwn', WHERE WHAT IT READS IS OF BULK AT MOST 1048576: true; the input reads as it did. -/
def preOwnUptoRow : OpenClaim := { program := "ytocigdcbfbnfoaa", sum := "01f3da5e3b50523c71614ef945d2e1e61fa921aed989336fb39a289959299f61", func := "wellspring/wellspringlaw08.PreOwn", spec := "preOwn", unfollowed := true, recurses := true, apart := false, narrowed := true }
def PreOwnUptoSaid : Prop := preOwnUptoRow.holds Try.pinned (OpenSpec.upto preOwnSpec)

end Rows
end Go.Proofs.Ytocigdcbfbnfoaa
