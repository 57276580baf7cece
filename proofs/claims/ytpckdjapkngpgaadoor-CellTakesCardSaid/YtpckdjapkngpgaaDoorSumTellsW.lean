/-
  Law SumTells, walked.
-/
import Derived.Test.YtpckdjapkngpgaaDoorVb
import Derived.Test.YtpckdjapkngpgaaDoorRef
namespace Go.Proofs.YtpckdjapkngpgaaDoor
open Go.RowKit

end Go.Proofs.YtpckdjapkngpgaaDoor
