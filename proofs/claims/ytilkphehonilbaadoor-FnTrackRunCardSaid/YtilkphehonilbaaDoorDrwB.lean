/-
  A drawn track with a circuit. For codes of at most 1048576 bytes.
-/
import Derived.Test.YtilkphehonilbaaDoorDrwA
namespace Go.Proofs.YtilkphehonilbaaDoor
open Go.RowKit Go.Sort

/-- A drawn text and a number. -/
def DrawnTI (w : World) (m : Nat) (e : Ending) (w' : World) : Prop := ∃ (S : ByteArray) (i : Int), e = .returned (.tuple #[.string S, .int .i64 i]) ∧ S.size ≤ m ∧ Below w.heap.size w w'

end Go.Proofs.YtilkphehonilbaaDoor
