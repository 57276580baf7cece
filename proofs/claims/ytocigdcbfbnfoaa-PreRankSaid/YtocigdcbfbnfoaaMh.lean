/-
  Package mat as it was written: copies of rows, rows side by side, rows without their first elements.
-/
import Derived.Test.YtocigdcbfbnfoaaMg
import Derived.Test.YtocigdcbfbnfoaaAz
import Derived.Lib.SliceRun
namespace Go.Proofs.Ytocigdcbfbnfoaa
open Go.RowKit

theorem ownsRow_gr {w w1 w2 : World} {v : Value} {n : Nat} {us : List Value} (h : w1.ownsRow w.heap.size 5 1 v n us) (hg : Gr w w1) (h2 : w1.grownBy w2 v.ownBlock) : Gr w w2 := Gr.append hg h2 (ownsRow_base h)
end Go.Proofs.Ytocigdcbfbnfoaa
