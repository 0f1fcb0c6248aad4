/-
  The model's texts, opposite orders and beginnings of codes: for lists of at most 1048576 integers.
-/
import Derived.Test.YtcfnklpbiodhjaaTexts
namespace Go.Proofs.Ytcfnklpbiodhjaa
open Go.RowKit

end Go.Proofs.Ytcfnklpbiodhjaa
