/-
  The model's texts, opposite orders and beginnings of codes: for lists of at most 1048576 integers.
-/
import Derived.Test.YtoebgdcgcdigaaaTexts
namespace Go.Proofs.Ytoebgdcgcdigaaa
open Go.RowKit

end Go.Proofs.Ytoebgdcgcdigaaa
