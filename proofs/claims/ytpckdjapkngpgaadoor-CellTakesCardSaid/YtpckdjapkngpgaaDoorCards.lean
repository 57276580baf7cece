/-
  DERIVED. GIVEN WITH THE SEED: THE CARDS: each row of YtpckdjapkngpgaaDoorRows.lean that lists a variable, with what it lists TIED to the program's text (the seventh form; the later family's looks); each row that meets fmt, with fmt's text TOLD by the authors' own Lean function (tested against real Go, not proved from fmt's source: count such statements apart). THE CARD IS WHAT COUNTS. Prove the row's statement (the work); the ties are given (YtpckdjapkngpgaaDoorTie.lean); close each card by the builder's one call (the guide's Derived/Test/ToyasCard.lean, 'card_holds'). Laid BY PROGRAM, IN A SANDBOX (cutbox-door.mjs). By AI agents, Wed Nov 11 2026. No macro, syntax, notation, axiom, sorry.
-/
import Derived.Test.YtpckdjapkngpgaaDoorRows
import GoSem.ClaimSeven
namespace Go.Proofs.YtpckdjapkngpgaaDoor
namespace Rows

/-- THE TIED CARD OF 'wellspringlaw16.CellPuts'. -/
def cellPutsCard : Claim7 := { stood := { row := cellPutsRow, standIns := [], harness := (true, "b21a7852085f90ef20a9819efb7015c38bfd6ad8e47679104916a86464fb99d6"), looks := false }, kinds := [], alts := [], laidByText := true, laidKinds := [.data], laidTests := true, laidLooks := .later }
def CellPutsCardSaid : Prop := Claim7.holds Tryd.pinned (.plain (OpenSpec.ofChange cellPutsSpec)) cellPutsCard

/-- THE TIED CARD OF 'wellspringlaw16.CellTakes'. -/
def cellTakesCard : Claim7 := { stood := { row := cellTakesRow, standIns := [], harness := (true, "b21a7852085f90ef20a9819efb7015c38bfd6ad8e47679104916a86464fb99d6"), looks := false }, kinds := [], alts := [], laidByText := true, laidKinds := [.data], laidTests := true, laidLooks := .later }
def CellTakesCardSaid : Prop := Claim7.holds Tryd.pinned (.plain (OpenSpec.ofChange cellTakesSpec)) cellTakesCard

/-- THE TIED CARD OF 'wellspringlaw16.CellBack'. -/
def cellBackCard : Claim7 := { stood := { row := cellBackRow, standIns := [], harness := (true, "b21a7852085f90ef20a9819efb7015c38bfd6ad8e47679104916a86464fb99d6"), looks := false }, kinds := [], alts := [], laidByText := true, laidKinds := [.data], laidTests := true, laidLooks := .later }
def CellBackCardSaid : Prop := Claim7.holds Tryd.pinned (.plain (OpenSpec.ofChange cellBackSpec)) cellBackCard

/-- THE TIED CARD OF 'wellspringlaw16.CellTorn'. -/
def cellTornCard : Claim7 := { stood := { row := cellTornRow, standIns := [], harness := (true, "b21a7852085f90ef20a9819efb7015c38bfd6ad8e47679104916a86464fb99d6"), looks := false }, kinds := [], alts := [], laidByText := true, laidKinds := [.data], laidTests := true, laidLooks := .later }
def CellTornCardSaid : Prop := Claim7.holds Tryd.pinned (.plain (OpenSpec.ofChange cellTornSpec)) cellTornCard

/-- THE TIED CARD OF 'wellspringlaw16.CellBurst'. -/
def cellBurstCard : Claim7 := { stood := { row := cellBurstRow, standIns := [], harness := (true, "b21a7852085f90ef20a9819efb7015c38bfd6ad8e47679104916a86464fb99d6"), looks := false }, kinds := [], alts := [], laidByText := true, laidKinds := [.data], laidTests := true, laidLooks := .later }
def CellBurstCardSaid : Prop := Claim7.holds Tryd.pinned (.plain (OpenSpec.ofChange cellBurstSpec)) cellBurstCard

/-- THE SECOND FORM's CARD OF 'wellspringlaw16.CellPuts'. -/
def cellPutsUptoCard : Claim7 := { stood := { row := cellPutsUptoRow, standIns := [], harness := (true, "b21a7852085f90ef20a9819efb7015c38bfd6ad8e47679104916a86464fb99d6"), looks := false }, kinds := [], alts := [], laidByText := true, laidKinds := [.data], laidTests := true, laidLooks := .later }
def CellPutsUptoCardSaid : Prop := Claim7.holds Tryd.pinned (.plain (OpenSpec.upto cellPutsSpec)) cellPutsUptoCard

/-- THE SECOND FORM's CARD OF 'wellspringlaw16.CellTakes'. -/
def cellTakesUptoCard : Claim7 := { stood := { row := cellTakesUptoRow, standIns := [], harness := (true, "b21a7852085f90ef20a9819efb7015c38bfd6ad8e47679104916a86464fb99d6"), looks := false }, kinds := [], alts := [], laidByText := true, laidKinds := [.data], laidTests := true, laidLooks := .later }
def CellTakesUptoCardSaid : Prop := Claim7.holds Tryd.pinned (.plain (OpenSpec.upto cellTakesSpec)) cellTakesUptoCard

/-- THE SECOND FORM's CARD OF 'wellspringlaw16.CellBack'. -/
def cellBackUptoCard : Claim7 := { stood := { row := cellBackUptoRow, standIns := [], harness := (true, "b21a7852085f90ef20a9819efb7015c38bfd6ad8e47679104916a86464fb99d6"), looks := false }, kinds := [], alts := [], laidByText := true, laidKinds := [.data], laidTests := true, laidLooks := .later }
def CellBackUptoCardSaid : Prop := Claim7.holds Tryd.pinned (.plain (OpenSpec.upto cellBackSpec)) cellBackUptoCard

/-- THE SECOND FORM's CARD OF 'wellspringlaw16.CellTorn'. -/
def cellTornUptoCard : Claim7 := { stood := { row := cellTornUptoRow, standIns := [], harness := (true, "b21a7852085f90ef20a9819efb7015c38bfd6ad8e47679104916a86464fb99d6"), looks := false }, kinds := [], alts := [], laidByText := true, laidKinds := [.data], laidTests := true, laidLooks := .later }
def CellTornUptoCardSaid : Prop := Claim7.holds Tryd.pinned (.plain (OpenSpec.upto cellTornSpec)) cellTornUptoCard

/-- THE SECOND FORM's CARD OF 'wellspringlaw16.CellBurst'. -/
def cellBurstUptoCard : Claim7 := { stood := { row := cellBurstUptoRow, standIns := [], harness := (true, "b21a7852085f90ef20a9819efb7015c38bfd6ad8e47679104916a86464fb99d6"), looks := false }, kinds := [], alts := [], laidByText := true, laidKinds := [.data], laidTests := true, laidLooks := .later }
def CellBurstUptoCardSaid : Prop := Claim7.holds Tryd.pinned (.plain (OpenSpec.upto cellBurstSpec)) cellBurstUptoCard
end Rows
end Go.Proofs.YtpckdjapkngpgaaDoor
