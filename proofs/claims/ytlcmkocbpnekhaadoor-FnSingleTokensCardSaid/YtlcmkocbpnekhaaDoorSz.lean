/-
  What the laws' helper on sizes says of one list. No condition.
-/
import Derived.Test.YtlcmkocbpnekhaaDoorRowK
import Derived.Test.YtlcmkocbpnekhaaDoorSlices
namespace Go.Proofs.YtlcmkocbpnekhaaDoor
open Go.RowKit

end Go.Proofs.YtlcmkocbpnekhaaDoor
