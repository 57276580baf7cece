/-
  DERIVED. GIVEN WITH THE SEED: THE CARDS: each row of YteafcgohajhbnaaDoorRows.lean that lists a variable, with what it lists TIED to the program's text (the seventh form; the later family's looks); each row that meets fmt, with fmt's text TOLD by the authors' own Lean function (tested against real Go, not proved from fmt's source: count such statements apart). THE CARD IS WHAT COUNTS. Prove the row's statement (the work); the ties are given (YteafcgohajhbnaaDoorTie.lean); close each card by the builder's one call (the guide's Derived/Test/ToyasCard.lean, 'card_holds'). Laid BY PROGRAM, IN A SANDBOX (cutbox-door.mjs). By AI agents, Wed Nov 11 2026. No macro, syntax, notation, axiom, sorry.
-/
import Derived.Test.YteafcgohajhbnaaDoorRows
import GoSem.ClaimSeven
namespace Go.Proofs.YteafcgohajhbnaaDoor
namespace Rows

/-- THE TIED CARD OF 'wellspringlaw15.SumTells'. -/
def sumTellsCard : Claim7 := { stood := { row := sumTellsRow, standIns := [], harness := (true, "b9223f7ab6d8404f772cb47d29dabc3c2eb7c68097d9c7bcff6009b5f381f577"), looks := false }, kinds := [], alts := [], laidByText := true, laidKinds := [.data], laidTests := true, laidLooks := .later }
def SumTellsCardSaid : Prop := Claim7.holds Tryd.pinned (.plain (OpenSpec.ofChange sumTellsSpec)) sumTellsCard

/-- THE TIED CARD OF 'wellspringlaw15.SumJoins'. -/
def sumJoinsCard : Claim7 := { stood := { row := sumJoinsRow, standIns := [], harness := (true, "b9223f7ab6d8404f772cb47d29dabc3c2eb7c68097d9c7bcff6009b5f381f577"), looks := false }, kinds := [], alts := [], laidByText := true, laidKinds := [.data], laidTests := true, laidLooks := .later }
def SumJoinsCardSaid : Prop := Claim7.holds Tryd.pinned (.plain (OpenSpec.ofChange sumJoinsSpec)) sumJoinsCard

/-- THE TIED CARD OF 'wellspringlaw15.SumBehind'. -/
def sumBehindCard : Claim7 := { stood := { row := sumBehindRow, standIns := [], harness := (true, "b9223f7ab6d8404f772cb47d29dabc3c2eb7c68097d9c7bcff6009b5f381f577"), looks := false }, kinds := [], alts := [], laidByText := true, laidKinds := [.data], laidTests := true, laidLooks := .later }
def SumBehindCardSaid : Prop := Claim7.holds Tryd.pinned (.plain (OpenSpec.ofChange sumBehindSpec)) sumBehindCard

/-- THE TIED CARD OF 'wellspringlaw15.SumBurst'. -/
def sumBurstCard : Claim7 := { stood := { row := sumBurstRow, standIns := [], harness := (true, "b9223f7ab6d8404f772cb47d29dabc3c2eb7c68097d9c7bcff6009b5f381f577"), looks := false }, kinds := [], alts := [], laidByText := true, laidKinds := [.data], laidTests := true, laidLooks := .later }
def SumBurstCardSaid : Prop := Claim7.holds Tryd.pinned (.plain (OpenSpec.ofChange sumBurstSpec)) sumBurstCard

/-- THE SECOND FORM's CARD OF 'wellspringlaw15.SumTells'. -/
def sumTellsUptoCard : Claim7 := { stood := { row := sumTellsUptoRow, standIns := [], harness := (true, "b9223f7ab6d8404f772cb47d29dabc3c2eb7c68097d9c7bcff6009b5f381f577"), looks := false }, kinds := [], alts := [], laidByText := true, laidKinds := [.data], laidTests := true, laidLooks := .later }
def SumTellsUptoCardSaid : Prop := Claim7.holds Tryd.pinned (.plain (OpenSpec.upto sumTellsSpec)) sumTellsUptoCard

/-- THE SECOND FORM's CARD OF 'wellspringlaw15.SumJoins'. -/
def sumJoinsUptoCard : Claim7 := { stood := { row := sumJoinsUptoRow, standIns := [], harness := (true, "b9223f7ab6d8404f772cb47d29dabc3c2eb7c68097d9c7bcff6009b5f381f577"), looks := false }, kinds := [], alts := [], laidByText := true, laidKinds := [.data], laidTests := true, laidLooks := .later }
def SumJoinsUptoCardSaid : Prop := Claim7.holds Tryd.pinned (.plain (OpenSpec.upto sumJoinsSpec)) sumJoinsUptoCard

/-- THE SECOND FORM's CARD OF 'wellspringlaw15.SumBehind'. -/
def sumBehindUptoCard : Claim7 := { stood := { row := sumBehindUptoRow, standIns := [], harness := (true, "b9223f7ab6d8404f772cb47d29dabc3c2eb7c68097d9c7bcff6009b5f381f577"), looks := false }, kinds := [], alts := [], laidByText := true, laidKinds := [.data], laidTests := true, laidLooks := .later }
def SumBehindUptoCardSaid : Prop := Claim7.holds Tryd.pinned (.plain (OpenSpec.upto sumBehindSpec)) sumBehindUptoCard

/-- THE SECOND FORM's CARD OF 'wellspringlaw15.SumBurst'. -/
def sumBurstUptoCard : Claim7 := { stood := { row := sumBurstUptoRow, standIns := [], harness := (true, "b9223f7ab6d8404f772cb47d29dabc3c2eb7c68097d9c7bcff6009b5f381f577"), looks := false }, kinds := [], alts := [], laidByText := true, laidKinds := [.data], laidTests := true, laidLooks := .later }
def SumBurstUptoCardSaid : Prop := Claim7.holds Tryd.pinned (.plain (OpenSpec.upto sumBurstSpec)) sumBurstUptoCard
end Rows
end Go.Proofs.YteafcgohajhbnaaDoor
