/-
  The model's BlockNext. No condition.
-/
import Derived.Test.YtodknakemgmhkaaBlockG
import Derived.IntWalk
namespace Go.Proofs.Ytodknakemgmhkaa
open Go.RowKit Go.Sort

theorem lts_part {k : Nat} (hk : k < 7) (w : World) : (Instr.slice 9 (.string ⟨#[97, 99, 101, 102, 108, 111, 114]⟩) (some (.int .i64 k)) (some (.int .i64 ((k : Int) + 1))) none).run Try.prog w = .ok (.string (ltS k)) w := by
  rw [run_slice_string _ _ _ _ _ _ _ Try.underlying9 (by omega) (by omega) (by show (k : Int) + 1 ≤ (7 : Nat); omega)]
  have e1 : (k : Int).toNat = k := by omega
  have e2 : ((k : Int) + 1).toNat = k + 1 := by omega
  rw [e1, e2]
  match k, hk with
  | 0, _ | 1, _ | 2, _ | 3, _ | 4, _ | 5, _ | 6, _ => rfl

/-- The step of this loop ends with a new block; nothing that was there has turned. -/
theorem next_endA {wr wA : World} (z : Below wr.heap.size wr wA) (t : Bool) (n : Int) (i o : Bool) :
    Value.bool t = Value.bool t ∧ Below wr.heap.size wr (wA.alloc (.cells #[.int .i64 n, .bool i, .bool o] 36)) := ⟨rfl, z.alloc z.size _⟩
theorem next_endB {wr wA : World} (bA : Below (wr.alloc (.cells #[.int .i64 0, .bool false, .bool false] 36)).drew.heap.size (wr.alloc (.cells #[.int .i64 0, .bool false, .bool false] 36)).drew wA) (t : Bool) (n : Int) (i o : Bool) :
    Value.bool t = Value.bool t ∧ Below wr.heap.size wr (((wA.setCell ⟨wr.heap.size, 0, none⟩ (.int .i64 n)).setCell ⟨wr.heap.size, 1, none⟩ (.bool i)).setCell ⟨wr.heap.size, 2, none⟩ (.bool o)) :=
  have d0 : Below wr.heap.size wr (wr.alloc (.cells #[.int .i64 0, .bool false, .bool false] 36)).drew := (below_alloc _ _).drew
  ⟨rfl, stored_below (d0.trans (bA.mono d0.size)) (Nat.le_refl _) _ _ _⟩

end Go.Proofs.Ytodknakemgmhkaa
