/-
  Has a text only two letters; are these directions: the model's and the program's. For texts of at most 9223372036854775807 bytes.
-/
import Derived.Test.YtckdfcfgjdgklaaTokQ
import Derived.Test.YtckdfcfgjdgklaaTri
import Derived.Test.YtckdfcfgjdgklaaShelf
import Derived.Shelf.Strings.SlTrimAscii
import Derived.IntWalk
import Derived.Deep.DeepCutAuto
import Derived.Deep.RegionWith
namespace Go.Proofs.Ytckdfcfgjdgklaa
open Go.RowKit Go.Sort

end Go.Proofs.Ytckdfcfgjdgklaa
