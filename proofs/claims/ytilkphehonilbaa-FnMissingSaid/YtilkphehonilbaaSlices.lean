/-
  What the laws' helpers on lists of integers do: a copy, a comparison, the marking of a list and the look whether it still holds its marks. For lists of at most 1048576 integers.
-/
import Derived.Test.YtilkphehonilbaaKit
import Derived.WalkLawsBesides
import Derived.Lib.Hide
import Derived.Deep.QuietTactic
import Derived.BigQuiet
namespace Go.Proofs.Ytilkphehonilbaa
open Go.RowKit

end Go.Proofs.Ytilkphehonilbaa
