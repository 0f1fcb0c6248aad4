/-
  What the laws' helper on sizes says of one list. No condition.
-/
import Derived.Test.YtchnaceihmepkaaRowK
import Derived.Test.YtchnaceihmepkaaSlices
namespace Go.Proofs.Ytchnaceihmepkaa
open Go.RowKit

end Go.Proofs.Ytchnaceihmepkaa
