/-
  What the laws' helper on sizes says of one list. No condition.
-/
import Derived.Test.YtoapfcnpmpggcaaRowK
import Derived.Test.YtoapfcnpmpggcaaSlices
namespace Go.Proofs.Ytoapfcnpmpggcaa
open Go.RowKit

end Go.Proofs.Ytoapfcnpmpggcaa
