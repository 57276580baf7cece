/-
  NARROWER THAN 'FOR EVERY INPUT', by the rows' own cells (each row's printed sentence says how): SumTells: laid · SumJoins: laid · SumBehind: laid · SumBurst: laid.
  DERIVED. THE GIVEN ROWS OF THIS SEAT. 4 by the template 'for every input the law returns true; each argument reads behind the call as it read before'; 0 by the template 'total and deterministic' (their statements: YteafcgohajhbnaaDoorTotals.lean).
  GIVEN WITH THE SEED: the statements are not yours to turn. If you find one false, say at which input.
  Laid BY PROGRAM, IN A SANDBOX (cutbox-rows.mjs): the forced cells as the released guide's own fill.sh prints them over the translation 9cb760c7a8a78fb1… (all of the seat's roots in one cut). By AI agents, Wed Nov 11 2026. No macro, syntax, notation, axiom, sorry.
-/
import Derived.Test.YteafcgohajhbnaaDoorChecked
import GoSem.Claim
import GoSem.ClaimJoined
import GoSem.ClaimMapViews
import Derived.JoinedTies
import Derived.KernelRfl
namespace Go.Proofs.YteafcgohajhbnaaDoor
/- THE CELL 'sum', in the pinned program and in every row, IS THE sha256 OF THE DUMP (.gsa) THAT YteafcgohajhbnaaDoorProg.lean LOADS. Nothing in Lean hashes anything: it is a label: what it is worth is what the hold of that sum in a sandbox is worth. -/
noncomputable def Tryd.pinned : Pinned := { name := "yteafcgohajhbnaadoor", sum := "9cb760c7a8a78fb1d88d7a2d9784be217bae481657b067d908b8d12945669ad0", checked := Tryd.checked }
namespace Rows
def none {H : Type} : Left H := { results := [], args := [] }

/- WHAT THE LISTED PACKAGE-LEVEL VARIABLES READ AS WHEN THE CALL BEGINS. Each datum BY PROGRAM (the guide's laid-datum.mjs) off the statement by which the dump's own 'gosem.cut.vars' lays the variable. In a bare row this is a premise. The card (YteafcgohajhbnaaDoorCards.lean) ties it to the program's text. -/
def laid_wellspring_crc_remainders {H : Type} : DataW H := .agg [.lit (.int .u32 0), .lit (.int .u32 498536548), .lit (.int .u32 997073096), .lit (.int .u32 651767980), .lit (.int .u32 1994146192), .lit (.int .u32 1802195444), .lit (.int .u32 1303535960), .lit (.int .u32 1342533948), .lit (.int .u32 3988292384), .lit (.int .u32 4027552580), .lit (.int .u32 3604390888), .lit (.int .u32 3412177804), .lit (.int .u32 2607071920), .lit (.int .u32 2262029012), .lit (.int .u32 2685067896), .lit (.int .u32 3183342108)]

/-- 'wellspringlaw15.SumTells': WHATEVER THE INPUT: true; the input reads as it did. -/
def sumTellsSpec : ChangeSpec := { name := "sumTells", fn := fun _ => fun
  | [d] => { results := [.lit (.bool true)], args := [d] }
  | _ => none }
def sumTellsRow : OpenClaim := { program := "yteafcgohajhbnaadoor", sum := "9cb760c7a8a78fb1d88d7a2d9784be217bae481657b067d908b8d12945669ad0", func := "wellspring/wellspringlaw15.SumTells", spec := "sumTells", named := ["wellspring/crc.remainders"], apart := false, laid := [("wellspring/crc.remainders", laid_wellspring_crc_remainders)] }
def SumTellsSaid : Prop := sumTellsRow.holds Tryd.pinned (OpenSpec.ofChange sumTellsSpec)

/-- ITS FALSE NEIGHBOUR: 'it returns false'. Refute it at one input. -/
def sumTellsWrong : ChangeSpec := { name := "sumTells", fn := fun _ => fun
  | [d] => { results := [.lit (.bool false)], args := [d] }
  | _ => none }
def SumTellsWrongFalsely : Prop := sumTellsRow.holds Tryd.pinned (OpenSpec.ofChange sumTellsWrong)

/-- 'wellspringlaw15.SumJoins': WHATEVER THE INPUT: true; the input reads as it did. -/
def sumJoinsSpec : ChangeSpec := { name := "sumJoins", fn := fun _ => fun
  | [d] => { results := [.lit (.bool true)], args := [d] }
  | _ => none }
def sumJoinsRow : OpenClaim := { program := "yteafcgohajhbnaadoor", sum := "9cb760c7a8a78fb1d88d7a2d9784be217bae481657b067d908b8d12945669ad0", func := "wellspring/wellspringlaw15.SumJoins", spec := "sumJoins", named := ["wellspring/crc.remainders"], apart := false, laid := [("wellspring/crc.remainders", laid_wellspring_crc_remainders)] }
def SumJoinsSaid : Prop := sumJoinsRow.holds Tryd.pinned (OpenSpec.ofChange sumJoinsSpec)

/-- ITS FALSE NEIGHBOUR: 'it returns false'. Refute it at one input. -/
def sumJoinsWrong : ChangeSpec := { name := "sumJoins", fn := fun _ => fun
  | [d] => { results := [.lit (.bool false)], args := [d] }
  | _ => none }
def SumJoinsWrongFalsely : Prop := sumJoinsRow.holds Tryd.pinned (OpenSpec.ofChange sumJoinsWrong)

/-- 'wellspringlaw15.SumBehind': WHATEVER THE INPUT: true; the input reads as it did. -/
def sumBehindSpec : ChangeSpec := { name := "sumBehind", fn := fun _ => fun
  | [d] => { results := [.lit (.bool true)], args := [d] }
  | _ => none }
def sumBehindRow : OpenClaim := { program := "yteafcgohajhbnaadoor", sum := "9cb760c7a8a78fb1d88d7a2d9784be217bae481657b067d908b8d12945669ad0", func := "wellspring/wellspringlaw15.SumBehind", spec := "sumBehind", named := ["wellspring/crc.remainders"], apart := false, laid := [("wellspring/crc.remainders", laid_wellspring_crc_remainders)] }
def SumBehindSaid : Prop := sumBehindRow.holds Tryd.pinned (OpenSpec.ofChange sumBehindSpec)

/-- ITS FALSE NEIGHBOUR: 'it returns false'. Refute it at one input. -/
def sumBehindWrong : ChangeSpec := { name := "sumBehind", fn := fun _ => fun
  | [d] => { results := [.lit (.bool false)], args := [d] }
  | _ => none }
def SumBehindWrongFalsely : Prop := sumBehindRow.holds Tryd.pinned (OpenSpec.ofChange sumBehindWrong)

/-- 'wellspringlaw15.SumBurst': WHATEVER THE INPUT: true; the input reads as it did. -/
def sumBurstSpec : ChangeSpec := { name := "sumBurst", fn := fun _ => fun
  | [d1, d2, d3] => { results := [.lit (.bool true)], args := [d1, d2, d3] }
  | _ => none }
def sumBurstRow : OpenClaim := { program := "yteafcgohajhbnaadoor", sum := "9cb760c7a8a78fb1d88d7a2d9784be217bae481657b067d908b8d12945669ad0", func := "wellspring/wellspringlaw15.SumBurst", spec := "sumBurst", named := ["wellspring/crc.remainders"], apart := false, laid := [("wellspring/crc.remainders", laid_wellspring_crc_remainders)] }
def SumBurstSaid : Prop := sumBurstRow.holds Tryd.pinned (OpenSpec.ofChange sumBurstSpec)

/-- ITS FALSE NEIGHBOUR: 'it returns false'. Refute it at one input. -/
def sumBurstWrong : ChangeSpec := { name := "sumBurst", fn := fun _ => fun
  | [d1, d2, d3] => { results := [.lit (.bool false)], args := [d1, d2, d3] }
  | _ => none }
def SumBurstWrongFalsely : Prop := sumBurstRow.holds Tryd.pinned (OpenSpec.ofChange sumBurstWrong)

/- THE SECOND FORM. 'bulk': how many values and letters a reading holds, each counted each time it is reached (what is shared counts as often as it is met; a slice's spare places count too). A statement '..UptoSaid' is the law's where the arguments, and the package variables that the reading takes, are together of bulk at most 1048576: NARROWER than '..Said'. Prove '..Said' where nothing that the law and all that it calls make is longer than what came in: it says more and counts as full. Else prove '..UptoSaid'. A law counts once. -/
mutual
def uptoBulk {H : Type} : DataW H → Nat
  | .lit (.string bytes) => bytes.length + 1
  | .lit _ => 1
  | .nil => 1
  | .ptr d => uptoBulk d + 1
  | .slice elems spare => uptoBulkAll elems + uptoBulkAll spare + 1
  | .agg parts => uptoBulkAll parts + 1
  | .iface _ d => uptoBulk d + 1
  | .map entries => uptoBulkEntries entries + 1
  | .held _ => 1
def uptoBulkAll {H : Type} : List (DataW H) → Nat
  | [] => 0
  | d :: r => uptoBulk d + uptoBulkAll r
def uptoBulkEntries {H : Type} : List (Lit × DataW H) → Nat
  | [] => 0
  | x :: r => uptoBulkEntry x + uptoBulkEntries r
def uptoBulkEntry {H : Type} : Lit × DataW H → Nat
  | (.string bytes, d) => bytes.length + uptoBulk d + 1
  | (_, d) => uptoBulk d + 1
 end
def uptoSmall : (H : Type) → List (DataW H) → Bool := fun _ ds => decide (uptoBulkAll ds ≤ 1048576)
def OpenSpec.upto (s : _root_.Go.ChangeSpec) : _root_.Go.OpenSpec := { _root_.Go.OpenSpec.ofChange s with cond := some uptoSmall }

/-- 'wellspringlaw15.SumTells', WHERE WHAT IT READS IS OF BULK AT MOST 1048576: true; the input reads as it did. -/
def sumTellsUptoRow : OpenClaim := { program := "yteafcgohajhbnaadoor", sum := "9cb760c7a8a78fb1d88d7a2d9784be217bae481657b067d908b8d12945669ad0", func := "wellspring/wellspringlaw15.SumTells", spec := "sumTells", named := ["wellspring/crc.remainders"], apart := false, laid := [("wellspring/crc.remainders", laid_wellspring_crc_remainders)], narrowed := true }
def SumTellsUptoSaid : Prop := sumTellsUptoRow.holds Tryd.pinned (OpenSpec.upto sumTellsSpec)

/-- 'wellspringlaw15.SumJoins', WHERE WHAT IT READS IS OF BULK AT MOST 1048576: true; the input reads as it did. -/
def sumJoinsUptoRow : OpenClaim := { program := "yteafcgohajhbnaadoor", sum := "9cb760c7a8a78fb1d88d7a2d9784be217bae481657b067d908b8d12945669ad0", func := "wellspring/wellspringlaw15.SumJoins", spec := "sumJoins", named := ["wellspring/crc.remainders"], apart := false, laid := [("wellspring/crc.remainders", laid_wellspring_crc_remainders)], narrowed := true }
def SumJoinsUptoSaid : Prop := sumJoinsUptoRow.holds Tryd.pinned (OpenSpec.upto sumJoinsSpec)

/-- 'wellspringlaw15.SumBehind', WHERE WHAT IT READS IS OF BULK AT MOST 1048576: true; the input reads as it did. -/
def sumBehindUptoRow : OpenClaim := { program := "yteafcgohajhbnaadoor", sum := "9cb760c7a8a78fb1d88d7a2d9784be217bae481657b067d908b8d12945669ad0", func := "wellspring/wellspringlaw15.SumBehind", spec := "sumBehind", named := ["wellspring/crc.remainders"], apart := false, laid := [("wellspring/crc.remainders", laid_wellspring_crc_remainders)], narrowed := true }
def SumBehindUptoSaid : Prop := sumBehindUptoRow.holds Tryd.pinned (OpenSpec.upto sumBehindSpec)

/-- 'wellspringlaw15.SumBurst', WHERE WHAT IT READS IS OF BULK AT MOST 1048576: true; the input reads as it did. -/
def sumBurstUptoRow : OpenClaim := { program := "yteafcgohajhbnaadoor", sum := "9cb760c7a8a78fb1d88d7a2d9784be217bae481657b067d908b8d12945669ad0", func := "wellspring/wellspringlaw15.SumBurst", spec := "sumBurst", named := ["wellspring/crc.remainders"], apart := false, laid := [("wellspring/crc.remainders", laid_wellspring_crc_remainders)], narrowed := true }
def SumBurstUptoSaid : Prop := sumBurstUptoRow.holds Tryd.pinned (OpenSpec.upto sumBurstSpec)

end Rows
end Go.Proofs.YteafcgohajhbnaaDoor
