/-
  The first order with the least measure: what the program's firstLeast does, SingleBest and SingleSoon.
-/
import Derived.Test.YtlcmkocbpnekhaaGreatDoorSgK
namespace Go.Proofs.YtlcmkocbpnekhaaGreatDoor
open Go.RowKit Go.Sort

def lsStep (f : ByteArray → Int) (q : ByteArray × Int) (o : ByteArray) : ByteArray × Int := if q.2 < 0 ∨ f o < q.2 then (o, f o) else q
def lsOf (f : ByteArray → Int) (l : List ByteArray) : ByteArray × Int := l.foldl (lsStep f) (noS, -1)
theorem lsOf_add (f : ByteArray → Int) (l : List ByteArray) (o : ByteArray) : lsOf f (l ++ [o]) = lsStep f (lsOf f l) o := by
  unfold lsOf; rw [List.foldl_append]; rfl
def bestV (s : Sg) : ByteArray := if sgB s then (lsOf (waitV s) (ords s)).1 else noS
def soonV (s : Sg) : Int := if sgB s then (lsOf (endV s) (ords s)).2 else -1

end Go.Proofs.YtlcmkocbpnekhaaGreatDoor
