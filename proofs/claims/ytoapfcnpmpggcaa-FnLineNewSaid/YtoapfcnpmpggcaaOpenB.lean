/-
  A block that came in; a block as the laws take it and compare it. No condition.
-/
import Derived.Test.YtoapfcnpmpggcaaBlockD
import Derived.Lib.SmallJoins
namespace Go.Proofs.Ytoapfcnpmpggcaa
open Go.RowKit

/-- What is known of a block that came in. -/
def IsBlockK (_w : World) (v : Value) : Prop := ∃ b : Blk, v = bkV b

section
variable {H : Type} {enc : TypeId × Value → H} {W : World}

end

end Go.Proofs.Ytoapfcnpmpggcaa
