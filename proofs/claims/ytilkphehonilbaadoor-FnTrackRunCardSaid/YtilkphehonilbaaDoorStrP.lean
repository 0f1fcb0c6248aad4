/-
  Parts of a text, and one text behind another, as operations. (What chapter 3's texts hold too: never together with BlockH.) No condition.
-/
import Derived.Test.YtilkphehonilbaaDoorTri
namespace Go.Proofs.YtilkphehonilbaaDoor
open Go.RowKit

theorem part_to {S : ByteArray} {k : Nat} (h : k ≤ S.size) (w : World) : (Instr.slice 9 (.string S) none (some (.int .i64 k)) none).run Tryd.prog w = .ok (.string (S.extract 0 k)) w := by
  rw [run_slice_string_to_if _ _ _ _ _ Tryd.underlying9, if_pos ⟨by omega, by omega⟩]
  rfl
theorem part_from {S : ByteArray} {k : Nat} (h : k ≤ S.size) (w : World) : (Instr.slice 9 (.string S) (some (.int .i64 k)) none none).run Tryd.prog w = .ok (.string (S.extract k S.size)) w := by
  rw [run_slice_string_from_if _ _ _ _ _ Tryd.underlying9, if_pos ⟨by omega, by omega⟩]
  rfl

end Go.Proofs.YtilkphehonilbaaDoor
