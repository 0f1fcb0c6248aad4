/-
  Are two lists equal, by the model: for lists of at most 1048576 integers.
-/
import Derived.Test.YtlcmkocbpnekhaaDigits
import Derived.Test.YtlcmkocbpnekhaaSlices
namespace Go.Proofs.Ytlcmkocbpnekhaa
open Go.RowKit

/-- Do the lists agree on their first k numbers? -/
def AgreeTo (xs ys : List Int) (k : Nat) : Prop := xs.take k = ys.take k
theorem AgreeTo.succ {xs ys : List Int} {k : Nat} (h : AgreeTo xs ys k) (hx : k < xs.length) (hy : k < ys.length) (e : xs.getD k 0 = ys.getD k 0) : AgreeTo xs ys (k + 1) := by
  unfold AgreeTo at *
  rw [take_succ_getD xs k hx, take_succ_getD ys k hy, h, e]
theorem differ {xs ys : List Int} {k : Nat} (_hx : k < xs.length) (_hy : k < ys.length) (e : xs.getD k 0 ≠ ys.getD k 0) : decide (xs = ys) = false := by
  simp only [decide_eq_false_iff_not]
  rintro rfl
  exact e rfl

end Go.Proofs.Ytlcmkocbpnekhaa
