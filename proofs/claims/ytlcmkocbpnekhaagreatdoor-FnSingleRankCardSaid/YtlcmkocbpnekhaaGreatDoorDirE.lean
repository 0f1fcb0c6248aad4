/-
  Where the staff is: the model's and the program's StaffRun. For texts of at most 9223372036854775806 bytes.
-/
import Derived.Test.YtlcmkocbpnekhaaGreatDoorDirA
namespace Go.Proofs.YtlcmkocbpnekhaaGreatDoor
open Go.RowKit Go.Sort

theorem end_two {a : Int} (h : decide (0 ≤ a ∧ a ≤ 1) = true) : a = 0 ∨ a = 1 := by have := of_decide_eq_true h; omega
theorem stStep_no {a d c : Int} (h : endOf d ≠ a) : stStep a d c = none := by unfold stStep; rw [if_neg (fun q => h q.1)]
theorem stStep_bad {a d c : Int} (h : ¬ (c = 83 ∨ c = 84)) : stStep a d c = none := by unfold stStep; rw [if_neg (fun q => h q.2)]
theorem stStep_S {a d : Int} (h : endOf d = a) : stStep a d 83 = some (1 - a) := by unfold stStep; rw [if_pos ⟨h, .inl rfl⟩, if_pos rfl]
theorem stStep_T {a d : Int} (h : endOf d = a) : stStep a d 84 = some a := by unfold stStep; rw [if_pos ⟨h, .inr rfl⟩, if_neg (by decide)]
/-- What StaffRun hands back. -/
def stfV (o : Option Int) : Value := .tuple #[.int .i64 (o.getD 0), .bool o.isSome]
theorem index_is {S : ByteArray} {k : Nat} (h : k < S.size) (w : World) : (Instr.index 9 (.string S) (.int .i64 k)).run Tryz.prog w = .ok (.int .u8 (bt S k)) w := by
  rw [run_index_string _ _ _ _ _ Tryz.underlying9, dif_pos ⟨by omega, by omega⟩, ← bt_get h]
  rfl

end Go.Proofs.YtlcmkocbpnekhaaGreatDoor
