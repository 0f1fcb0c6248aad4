/-
  Worlds one behind the other. No condition.
-/
import Derived.Test.YtpofkfcjnhoamaaBlockA
namespace Go.Proofs.Ytpofkfcjnhoamaa
open Go.RowKit

theorem chain {w w1 w2 : World} (h : Below w.heap.size w w1) (k : Below w1.heap.size w1 w2) : Below w.heap.size w w2 := h.trans (k.mono h.size)

end Go.Proofs.Ytpofkfcjnhoamaa
