/-
  The minutes that a path stands, by the model and by the program. No condition but lengths of at most 1048576.
-/
import Derived.Test.YtoebgdcgcdigaabPathS
namespace Go.Proofs.Ytoebgdcgcdigaab
open Go.RowKit Go.Sort

theorem stands_no {n : Int} {p : List Int × List Int} (h : pathB n p = false) : stands n p = -1 := by unfold stands; rw [h]; rfl
theorem stands_yes {n : Int} {p : List Int × List Int} (h : pathB n p = true) : stands n p = standsTo p.1 p.2 (p.1.length - 1) := by unfold stands; rw [h]; rfl

end Go.Proofs.Ytoebgdcgcdigaab
