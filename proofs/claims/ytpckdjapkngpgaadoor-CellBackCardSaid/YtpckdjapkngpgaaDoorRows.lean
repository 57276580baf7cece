/-
  NARROWER THAN 'FOR EVERY INPUT', by the rows' own cells (each row's printed sentence says how): CellPuts: laid · CellTakes: laid · CellBack: laid · CellTorn: laid · CellBurst: laid.
  DERIVED. THE GIVEN ROWS OF THIS SEAT. 5 by the template 'for every input the law returns true; each argument reads behind the call as it read before'; 0 by the template 'total and deterministic' (their statements: YtpckdjapkngpgaaDoorTotals.lean).
  GIVEN WITH THE SEED: the statements are not yours to turn. If you find one false, say at which input.
  Laid BY PROGRAM, IN A SANDBOX (cutbox-rows.mjs): the forced cells as the released guide's own fill.sh prints them over the translation ba1b4235bba7bfa9… (all of the seat's roots in one cut). By AI agents, Wed Nov 11 2026. No macro, syntax, notation, axiom, sorry.
-/
import Derived.Test.YtpckdjapkngpgaaDoorChecked
import GoSem.Claim
import GoSem.ClaimJoined
import GoSem.ClaimMapViews
import Derived.JoinedTies
import Derived.KernelRfl
namespace Go.Proofs.YtpckdjapkngpgaaDoor
/- THE CELL 'sum', in the pinned program and in every row, IS THE sha256 OF THE DUMP (.gsa) THAT YtpckdjapkngpgaaDoorProg.lean LOADS. Nothing in Lean hashes anything: it is a label: what it is worth is what the hold of that sum in a sandbox is worth. -/
noncomputable def Tryd.pinned : Pinned := { name := "ytpckdjapkngpgaadoor", sum := "ba1b4235bba7bfa9bdcb04023902518861a664f24120e2591b6266fcb1e8d0d5", checked := Tryd.checked }
namespace Rows
def none {H : Type} : Left H := { results := [], args := [] }

/- WHAT THE LISTED PACKAGE-LEVEL VARIABLES READ AS WHEN THE CALL BEGINS. Each datum BY PROGRAM (the guide's laid-datum.mjs) off the statement by which the dump's own 'gosem.cut.vars' lays the variable. In a bare row this is a premise. The card (YtpckdjapkngpgaaDoorCards.lean) ties it to the program's text. -/
def laid_wellspring_crc_remainders {H : Type} : DataW H := .agg [.lit (.int .u32 0), .lit (.int .u32 498536548), .lit (.int .u32 997073096), .lit (.int .u32 651767980), .lit (.int .u32 1994146192), .lit (.int .u32 1802195444), .lit (.int .u32 1303535960), .lit (.int .u32 1342533948), .lit (.int .u32 3988292384), .lit (.int .u32 4027552580), .lit (.int .u32 3604390888), .lit (.int .u32 3412177804), .lit (.int .u32 2607071920), .lit (.int .u32 2262029012), .lit (.int .u32 2685067896), .lit (.int .u32 3183342108)]

/-- 'wellspringlaw16.CellPuts': WHATEVER THE INPUT: true; the input reads as it did. -/
def cellPutsSpec : ChangeSpec := { name := "cellPuts", fn := fun _ => fun
  | [d1, d2] => { results := [.lit (.bool true)], args := [d1, d2] }
  | _ => none }
def cellPutsRow : OpenClaim := { program := "ytpckdjapkngpgaadoor", sum := "ba1b4235bba7bfa9bdcb04023902518861a664f24120e2591b6266fcb1e8d0d5", func := "wellspring/wellspringlaw16.CellPuts", spec := "cellPuts", named := ["wellspring/crc.remainders"], apart := false, laid := [("wellspring/crc.remainders", laid_wellspring_crc_remainders)] }
def CellPutsSaid : Prop := cellPutsRow.holds Tryd.pinned (OpenSpec.ofChange cellPutsSpec)

/-- ITS FALSE NEIGHBOUR: 'it returns false'. Refute it at one input. -/
def cellPutsWrong : ChangeSpec := { name := "cellPuts", fn := fun _ => fun
  | [d1, d2] => { results := [.lit (.bool false)], args := [d1, d2] }
  | _ => none }
def CellPutsWrongFalsely : Prop := cellPutsRow.holds Tryd.pinned (OpenSpec.ofChange cellPutsWrong)

/-- 'wellspringlaw16.CellTakes': WHATEVER THE INPUT: true; the input reads as it did. -/
def cellTakesSpec : ChangeSpec := { name := "cellTakes", fn := fun _ => fun
  | [d1, d2, d3, d4, d5, d6, d7] => { results := [.lit (.bool true)], args := [d1, d2, d3, d4, d5, d6, d7] }
  | _ => none }
def cellTakesRow : OpenClaim := { program := "ytpckdjapkngpgaadoor", sum := "ba1b4235bba7bfa9bdcb04023902518861a664f24120e2591b6266fcb1e8d0d5", func := "wellspring/wellspringlaw16.CellTakes", spec := "cellTakes", named := ["wellspring/crc.remainders"], apart := false, laid := [("wellspring/crc.remainders", laid_wellspring_crc_remainders)] }
def CellTakesSaid : Prop := cellTakesRow.holds Tryd.pinned (OpenSpec.ofChange cellTakesSpec)

/-- ITS FALSE NEIGHBOUR: 'it returns false'. Refute it at one input. -/
def cellTakesWrong : ChangeSpec := { name := "cellTakes", fn := fun _ => fun
  | [d1, d2, d3, d4, d5, d6, d7] => { results := [.lit (.bool false)], args := [d1, d2, d3, d4, d5, d6, d7] }
  | _ => none }
def CellTakesWrongFalsely : Prop := cellTakesRow.holds Tryd.pinned (OpenSpec.ofChange cellTakesWrong)

/-- 'wellspringlaw16.CellBack': WHATEVER THE INPUT: true; the input reads as it did. -/
def cellBackSpec : ChangeSpec := { name := "cellBack", fn := fun _ => fun
  | [d1, d2, d3, d4] => { results := [.lit (.bool true)], args := [d1, d2, d3, d4] }
  | _ => none }
def cellBackRow : OpenClaim := { program := "ytpckdjapkngpgaadoor", sum := "ba1b4235bba7bfa9bdcb04023902518861a664f24120e2591b6266fcb1e8d0d5", func := "wellspring/wellspringlaw16.CellBack", spec := "cellBack", named := ["wellspring/crc.remainders"], apart := false, laid := [("wellspring/crc.remainders", laid_wellspring_crc_remainders)] }
def CellBackSaid : Prop := cellBackRow.holds Tryd.pinned (OpenSpec.ofChange cellBackSpec)

/-- ITS FALSE NEIGHBOUR: 'it returns false'. Refute it at one input. -/
def cellBackWrong : ChangeSpec := { name := "cellBack", fn := fun _ => fun
  | [d1, d2, d3, d4] => { results := [.lit (.bool false)], args := [d1, d2, d3, d4] }
  | _ => none }
def CellBackWrongFalsely : Prop := cellBackRow.holds Tryd.pinned (OpenSpec.ofChange cellBackWrong)

/-- 'wellspringlaw16.CellTorn': WHATEVER THE INPUT: true; the input reads as it did. -/
def cellTornSpec : ChangeSpec := { name := "cellTorn", fn := fun _ => fun
  | [d1, d2, d3] => { results := [.lit (.bool true)], args := [d1, d2, d3] }
  | _ => none }
def cellTornRow : OpenClaim := { program := "ytpckdjapkngpgaadoor", sum := "ba1b4235bba7bfa9bdcb04023902518861a664f24120e2591b6266fcb1e8d0d5", func := "wellspring/wellspringlaw16.CellTorn", spec := "cellTorn", named := ["wellspring/crc.remainders"], apart := false, laid := [("wellspring/crc.remainders", laid_wellspring_crc_remainders)] }
def CellTornSaid : Prop := cellTornRow.holds Tryd.pinned (OpenSpec.ofChange cellTornSpec)

/-- ITS FALSE NEIGHBOUR: 'it returns false'. Refute it at one input. -/
def cellTornWrong : ChangeSpec := { name := "cellTorn", fn := fun _ => fun
  | [d1, d2, d3] => { results := [.lit (.bool false)], args := [d1, d2, d3] }
  | _ => none }
def CellTornWrongFalsely : Prop := cellTornRow.holds Tryd.pinned (OpenSpec.ofChange cellTornWrong)

/-- 'wellspringlaw16.CellBurst': WHATEVER THE INPUT: true; the input reads as it did. -/
def cellBurstSpec : ChangeSpec := { name := "cellBurst", fn := fun _ => fun
  | [d1, d2, d3, d4] => { results := [.lit (.bool true)], args := [d1, d2, d3, d4] }
  | _ => none }
def cellBurstRow : OpenClaim := { program := "ytpckdjapkngpgaadoor", sum := "ba1b4235bba7bfa9bdcb04023902518861a664f24120e2591b6266fcb1e8d0d5", func := "wellspring/wellspringlaw16.CellBurst", spec := "cellBurst", named := ["wellspring/crc.remainders"], apart := false, laid := [("wellspring/crc.remainders", laid_wellspring_crc_remainders)] }
def CellBurstSaid : Prop := cellBurstRow.holds Tryd.pinned (OpenSpec.ofChange cellBurstSpec)

/-- ITS FALSE NEIGHBOUR: 'it returns false'. Refute it at one input. -/
def cellBurstWrong : ChangeSpec := { name := "cellBurst", fn := fun _ => fun
  | [d1, d2, d3, d4] => { results := [.lit (.bool false)], args := [d1, d2, d3, d4] }
  | _ => none }
def CellBurstWrongFalsely : Prop := cellBurstRow.holds Tryd.pinned (OpenSpec.ofChange cellBurstWrong)

/- THE SECOND FORM. 'bulk': how many values and letters a reading holds, each counted each time it is reached (what is shared counts as often as it is met; a slice's spare places count too). A statement '..UptoSaid' is the law's where the arguments, and the package variables that the reading takes, are together of bulk at most 1048576: NARROWER than '..Said'. Prove '..Said' where nothing that the law and all that it calls make is longer than what came in: it says more and counts as full. Else prove '..UptoSaid'. A law counts once. -/
mutual
def uptoBulk {H : Type} : DataW H → Nat
  | .lit (.string bytes) => bytes.length + 1
  | .lit _ => 1
  | .nil => 1
  | .ptr d => uptoBulk d + 1
  | .slice elems spare => uptoBulkAll elems + uptoBulkAll spare + 1
  | .agg parts => uptoBulkAll parts + 1
  | .iface _ d => uptoBulk d + 1
  | .map entries => uptoBulkEntries entries + 1
  | .held _ => 1
def uptoBulkAll {H : Type} : List (DataW H) → Nat
  | [] => 0
  | d :: r => uptoBulk d + uptoBulkAll r
def uptoBulkEntries {H : Type} : List (Lit × DataW H) → Nat
  | [] => 0
  | x :: r => uptoBulkEntry x + uptoBulkEntries r
def uptoBulkEntry {H : Type} : Lit × DataW H → Nat
  | (.string bytes, d) => bytes.length + uptoBulk d + 1
  | (_, d) => uptoBulk d + 1
 end
def uptoSmall : (H : Type) → List (DataW H) → Bool := fun _ ds => decide (uptoBulkAll ds ≤ 1048576)
def OpenSpec.upto (s : _root_.Go.ChangeSpec) : _root_.Go.OpenSpec := { _root_.Go.OpenSpec.ofChange s with cond := some uptoSmall }

/-- 'wellspringlaw16.CellPuts', WHERE WHAT IT READS IS OF BULK AT MOST 1048576: true; the input reads as it did. -/
def cellPutsUptoRow : OpenClaim := { program := "ytpckdjapkngpgaadoor", sum := "ba1b4235bba7bfa9bdcb04023902518861a664f24120e2591b6266fcb1e8d0d5", func := "wellspring/wellspringlaw16.CellPuts", spec := "cellPuts", named := ["wellspring/crc.remainders"], apart := false, laid := [("wellspring/crc.remainders", laid_wellspring_crc_remainders)], narrowed := true }
def CellPutsUptoSaid : Prop := cellPutsUptoRow.holds Tryd.pinned (OpenSpec.upto cellPutsSpec)

/-- 'wellspringlaw16.CellTakes', WHERE WHAT IT READS IS OF BULK AT MOST 1048576: true; the input reads as it did. -/
def cellTakesUptoRow : OpenClaim := { program := "ytpckdjapkngpgaadoor", sum := "ba1b4235bba7bfa9bdcb04023902518861a664f24120e2591b6266fcb1e8d0d5", func := "wellspring/wellspringlaw16.CellTakes", spec := "cellTakes", named := ["wellspring/crc.remainders"], apart := false, laid := [("wellspring/crc.remainders", laid_wellspring_crc_remainders)], narrowed := true }
def CellTakesUptoSaid : Prop := cellTakesUptoRow.holds Tryd.pinned (OpenSpec.upto cellTakesSpec)

/-- 'wellspringlaw16.CellBack', WHERE WHAT IT READS IS OF BULK AT MOST 1048576: true; the input reads as it did. -/
def cellBackUptoRow : OpenClaim := { program := "ytpckdjapkngpgaadoor", sum := "ba1b4235bba7bfa9bdcb04023902518861a664f24120e2591b6266fcb1e8d0d5", func := "wellspring/wellspringlaw16.CellBack", spec := "cellBack", named := ["wellspring/crc.remainders"], apart := false, laid := [("wellspring/crc.remainders", laid_wellspring_crc_remainders)], narrowed := true }
def CellBackUptoSaid : Prop := cellBackUptoRow.holds Tryd.pinned (OpenSpec.upto cellBackSpec)

/-- 'wellspringlaw16.CellTorn', WHERE WHAT IT READS IS OF BULK AT MOST 1048576: true; the input reads as it did. -/
def cellTornUptoRow : OpenClaim := { program := "ytpckdjapkngpgaadoor", sum := "ba1b4235bba7bfa9bdcb04023902518861a664f24120e2591b6266fcb1e8d0d5", func := "wellspring/wellspringlaw16.CellTorn", spec := "cellTorn", named := ["wellspring/crc.remainders"], apart := false, laid := [("wellspring/crc.remainders", laid_wellspring_crc_remainders)], narrowed := true }
def CellTornUptoSaid : Prop := cellTornUptoRow.holds Tryd.pinned (OpenSpec.upto cellTornSpec)

/-- 'wellspringlaw16.CellBurst', WHERE WHAT IT READS IS OF BULK AT MOST 1048576: true; the input reads as it did. -/
def cellBurstUptoRow : OpenClaim := { program := "ytpckdjapkngpgaadoor", sum := "ba1b4235bba7bfa9bdcb04023902518861a664f24120e2591b6266fcb1e8d0d5", func := "wellspring/wellspringlaw16.CellBurst", spec := "cellBurst", named := ["wellspring/crc.remainders"], apart := false, laid := [("wellspring/crc.remainders", laid_wellspring_crc_remainders)], narrowed := true }
def CellBurstUptoSaid : Prop := cellBurstUptoRow.holds Tryd.pinned (OpenSpec.upto cellBurstSpec)

end Rows
end Go.Proofs.YtpckdjapkngpgaaDoor
