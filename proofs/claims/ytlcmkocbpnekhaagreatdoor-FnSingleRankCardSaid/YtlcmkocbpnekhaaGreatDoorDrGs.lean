/-
  Drawn single lines, as the laws ask for them. For codes of at most 1048576 bytes.
-/
import Derived.Test.YtlcmkocbpnekhaaGreatDoorDrG
import Derived.Test.YtlcmkocbpnekhaaGreatDoorDraws1
namespace Go.Proofs.YtlcmkocbpnekhaaGreatDoor
open Go.RowKit Go.Sort

/-- A call that hands back a drawn single line of its own. -/
def MadeDr (w : World) (e : Ending) (w' : World) : Prop := ∃ (v : Value) (s : Sg), e = .returned v ∧ OwnSg w' w.heap.size v s ∧ SmallSg s ∧ Below w.heap.size w w'
theorem below_grown2 {n : Nat} {w w1 w2 : World} {g : Nat} (h : Below n w w1) (hg : n ≤ g) (k : w1.grownBy w2 (some g)) (hs : n ≤ w1.heap.size) : Below n w w2 := h.grown k hs (fun j hj => by simp only [Option.some.injEq] at hj; omega)

end Go.Proofs.YtlcmkocbpnekhaaGreatDoor
