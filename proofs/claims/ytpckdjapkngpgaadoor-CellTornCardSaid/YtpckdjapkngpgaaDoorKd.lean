/-
  From what a row lists of crc's table to the cells.
-/
import Derived.Test.YtpckdjapkngpgaaDoorRows
import Derived.Test.YtpckdjapkngpgaaDoorKc
import Derived.MakeChecks
namespace Go.Proofs.YtpckdjapkngpgaaDoor
open Go.RowKit

abbrev crcLaid : List (String × DataW Unit) := [("wellspring/crc.remainders", Rows.laid_wellspring_crc_remainders)]
theorem tab_at : Tryd.prog.globalNamed "wellspring/crc.remainders" = some 0 := by kernel_rfl
theorem tab_type : (Tryd.prog.globals[(0 : Nat)]?).map (·.type) = some 46 := by kernel_rfl
theorem tab_of_laid {W : World} (h : laidMetH Tryd.prog crcLaid W) : Crc.Tab W := by
  rw [MakeChecks.laidMetH_plain _ _ _ (by kernel_rfl)] at h
  have hT := Lib.tabIs_of_head (zs := Crc.tabZ) (k := .u32) (rest := []) tab_at tab_type Tryd.underlying46 Tryd.underlying32 (by kernel_rfl) (by kernel_rfl) h
  exact fun i hi => hT.cell tab_at i hi
theorem crc_laid {W : World} (h : laidMetH Tryd.prog crcLaid W) : CrcOk W := crc_ok (tab_of_laid h)
end Go.Proofs.YtpckdjapkngpgaaDoor
