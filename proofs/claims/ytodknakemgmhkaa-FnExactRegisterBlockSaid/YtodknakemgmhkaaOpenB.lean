/-
  A block that came in; a block as the laws take it and compare it. No condition.
-/
import Derived.Test.YtodknakemgmhkaaBlockD
import Derived.Lib.SmallJoins
namespace Go.Proofs.Ytodknakemgmhkaa
open Go.RowKit

/-- What is known of a block that came in. -/
def IsBlockK (_w : World) (v : Value) : Prop := ∃ b : Blk, v = bkV b

section
variable {H : Type} {enc : TypeId × Value → H} {W : World}

end

set_option maxHeartbeats 2000000 in
theorem eqBlock (x : Blk) (w : World) :
    Calls Try.prog 31 #[.agg #[.int .i64 x.1, .bool x.2.1, .bool x.2.2], .agg #[.int .i64 x.1, .bool x.2.1, .bool x.2.2]] w fun e w' => e = .returned (.bool true) ∧ Below w.heap.size w w' := by
  go_enter Try.func31, Try.ntmps31
  go_wp2_with fail
  go_ret
  exact ⟨rfl, ((below_self w).alloc (Nat.le_refl _) _).alloc (by simp) _⟩

end Go.Proofs.Ytodknakemgmhkaa
