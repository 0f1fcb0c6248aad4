/-
  The texts of codes, the program's and the model's: for lists of at most 1048576 groups.
-/
import Derived.Test.YtcfnklpbiodhjaaStrs
namespace Go.Proofs.Ytcfnklpbiodhjaa
open Go.RowKit

/-- The text of the first k groups. -/
def txtTo (xs : List Int) : Nat → List UInt8
  | 0 => []
  | k + 1 => txtTo xs k ++ (if k = 0 then [] else [45]) ++ [digit (xs.getD k 0)]
theorem txtTo_length (xs : List Int) (k : Nat) : (txtTo xs k).length ≤ 2 * k := by
  induction k with
  | zero => simp [txtTo]
  | succ k ih => simp only [txtTo, List.length_append]; split <;> simp <;> omega
/-- The text of a code, or of no code. -/
def textOf (xs : List Int) : ByteArray := if groupsB xs 1 5 then ⟨(txtTo xs xs.length).toArray⟩ else ⟨#[]⟩

end Go.Proofs.Ytcfnklpbiodhjaa
