/-
  What the laws' helper on sizes says of one list. No condition.
-/
import Derived.Test.YtoebgdcgcdigaabRowK
import Derived.Test.YtoebgdcgcdigaabSlices
namespace Go.Proofs.Ytoebgdcgcdigaab
open Go.RowKit

end Go.Proofs.Ytoebgdcgcdigaab
