/-
  The model's BlockRun and BlockStep. For texts of at most 2097152 bytes.
-/
import Derived.Test.YtpofkfcjnhoamaaBlockD
import Derived.Lib.OthersKept
import Derived.Deep.RegionWith
import Derived.Deep.DeepCutAuto
namespace Go.Proofs.Ytpofkfcjnhoamaa
open Go.RowKit Go.Sort

theorem l3StepE (b : Blk) (c : Int) (hb : bkPos b = true) (w : World) :
    Calls Try.prog 93 #[bkV b, .int .u8 c] w fun e w' => e = .returned (.tuple #[.agg #[.int .i64 ((bkStep b c).getD nb).1, .bool ((bkStep b c).getD nb).2.1, .bool ((bkStep b c).getD nb).2.2], .bool (bkStep b c).isSome]) ∧ Below w.heap.size w w' :=
  l3Step b c hb w

/-- Where the step ends: the call ahead of the new block, or behind it. -/
theorem step_endA {wr wA : World} (z : Below wr.heap.size wr wA) (t : Bool) (n : Int) (i o : Bool) :
    ∃ g, Value.pointer (some ⟨wA.heap.size, 0, none⟩) = Value.pointer (some ⟨g, 0, none⟩) ∧ Value.bool t = Value.bool t ∧
      Tri3 (wA.alloc (.cells #[.int .i64 n, .bool i, .bool o] 33)) g (.int .i64 n) (.bool i) (.bool o) 33 ∧ Below wr.heap.size wr (wA.alloc (.cells #[.int .i64 n, .bool i, .bool o] 33)) :=
  ⟨_, rfl, rfl, Tri3.new _ _ _ _ _, z.alloc z.size _⟩
theorem step_endB {wr wA : World} {x y z' : Value} (bA : Below (wr.alloc (.cells #[.int .i64 0, .bool false, .bool false] 33)).drew.heap.size (wr.alloc (.cells #[.int .i64 0, .bool false, .bool false] 33)).drew wA) (z : Tri3 wA wr.heap.size x y z' 33) (t : Bool) (n : Int) (i o : Bool) :
    ∃ g, Value.pointer (some ⟨wr.heap.size, 0, none⟩) = Value.pointer (some ⟨g, 0, none⟩) ∧ Value.bool t = Value.bool t ∧
      Tri3 (((wA.setCell ⟨wr.heap.size, 0, none⟩ (.int .i64 n)).setCell ⟨wr.heap.size, 1, none⟩ (.bool i)).setCell ⟨wr.heap.size, 2, none⟩ (.bool o)) g (.int .i64 n) (.bool i) (.bool o) 33 ∧
      Below wr.heap.size wr (((wA.setCell ⟨wr.heap.size, 0, none⟩ (.int .i64 n)).setCell ⟨wr.heap.size, 1, none⟩ (.bool i)).setCell ⟨wr.heap.size, 2, none⟩ (.bool o)) :=
  have d0 : Below wr.heap.size wr (wr.alloc (.cells #[.int .i64 0, .bool false, .bool false] 33)).drew := (below_alloc _ _).drew
  ⟨_, rfl, rfl, z.stored _ _ _, stored_below (d0.trans (bA.mono d0.size)) (Nat.le_refl _) _ _ _⟩

end Go.Proofs.Ytpofkfcjnhoamaa
