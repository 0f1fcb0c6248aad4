/-
  What the laws on counts ask of their arguments. No condition.
-/
import Derived.Test.YtmdkfhbkdeoahaaCtrC
import Derived.Test.YtmdkfhbkdeoahaaRowK
namespace Go.Proofs.Ytmdkfhbkdeoahaa
open Go.RowKit

theorem range_of {n : Int} (h : (Lit.int .i64 n).wf = true) : -9223372036854775808 ≤ n ∧ n ≤ 9223372036854775807 := by
  simp [Lit.wf, IntKind.min, IntKind.max, IntKind.signed, IntKind.bits] at h
  omega
theorem fits_take {w : World} {a : Option Addr} {len cap : Nat} {zs : List Int} (h : IsRowK .i64 w a len cap zs) : Fits (zs.take len) := by
  intro j hj
  rcases h with ⟨_, _, _, rfl⟩ | ⟨x, _, _, _, _, _, hw⟩
  · simp at hj
  · have hm : (zs.take len).getD j 0 ∈ zs := by
      rw [List.getD_eq_getElem?_getD, List.getElem?_eq_getElem hj, Option.getD_some]
      exact List.mem_of_mem_take (List.getElem_mem hj)
    exact range_of (hw _ hm)
theorem pulC_len {cs : List Int} {p : Int} : ((pulC cs p).getD []).length ≤ 1048576 := by
  rw [← pulC_run]
  exact Nat.le_trans runC_len (by decide)

end Go.Proofs.Ytmdkfhbkdeoahaa
