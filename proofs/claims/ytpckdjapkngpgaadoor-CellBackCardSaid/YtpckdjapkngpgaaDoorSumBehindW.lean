/-
  Law SumBehind, walked: bytes with their sum behind them have one sum.
-/
import Derived.Test.YtpckdjapkngpgaaDoorSumTellsW
import Derived.Test.YtpckdjapkngpgaaDoorAz
namespace Go.Proofs.YtpckdjapkngpgaaDoor
open Go.RowKit

theorem low4_eq {s : Nat} (h : s < 4294967296) : [(s : Int) % 256, (s : Int) / 256 % 256, (s : Int) / 65536 % 256, (s : Int) / 16777216] = Crc.low4 s := by
  unfold Crc.low4
  simp only [List.cons.injEq, and_true]
  omega
theorem low_byt {s : Nat} (h : s < 4294967296) : ∀ x ∈ [(s : Int) % 256, (s : Int) / 256 % 256, (s : Int) / 65536 % 256, (s : Int) / 16777216], Byt x := by
  rw [low4_eq h]
  exact Crc.low4_byt s
end Go.Proofs.YtpckdjapkngpgaaDoor
