/-
  What the laws' helper on sizes says of one list. No condition.
-/
import Derived.Test.YtlcmkocbpnekhaaGreatDoorRowK
import Derived.Test.YtlcmkocbpnekhaaGreatDoorSlices
namespace Go.Proofs.YtlcmkocbpnekhaaGreatDoor
open Go.RowKit

end Go.Proofs.YtlcmkocbpnekhaaGreatDoor
