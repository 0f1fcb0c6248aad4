/-
  What the laws' helper on sizes says of one list. No condition.
-/
import Derived.Test.YtoebgdcgcdigaaaRowK
import Derived.Test.YtoebgdcgcdigaaaSlices
namespace Go.Proofs.Ytoebgdcgcdigaaa
open Go.RowKit

end Go.Proofs.Ytoebgdcgcdigaaa
