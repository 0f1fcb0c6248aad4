/-
  RegisterLate, by the program and by the model. For lists of at most 1048576 notes.
-/
import Derived.Test.YtilkphehonilbaaRegB
import Derived.Test.YtilkphehonilbaaStepA
namespace Go.Proofs.Ytilkphehonilbaa
open Go.RowKit Go.Sort

/-- What RegisterLate hands back. -/
def latV (ns : List Mv) (k : Int) : List Mv := if regB ns = true then regL (latL ns k) else []
def latB (ns : List Mv) (k : Int) : Bool := regB ns && regB (latL ns k)
theorem latV_len (ns : List Mv) (k : Int) : (latV ns k).length ≤ 1048576 := by
  unfold latV
  split
  · have := (regB_is (regL_reg (latL ns k))).1; omega
  · simp
/-- The cells of a list whose first j notes are later already. -/
def lfT (ns : List Mv) (k : Int) (j q : Nat) : Value := if q < j * 2 then mvF (latL ns k) q else mvF ns q
theorem lfT_zero (ns : List Mv) (k : Int) (q : Nat) : lfT ns k 0 q = mvF ns q := by unfold lfT; rw [if_neg (by omega)]
theorem lfT_at (ns : List Mv) (k : Int) (j : Nat) : lfT ns k j (j * 2) = .int .i64 (ns.getD j noMv).1 := by unfold lfT; rw [if_neg (by omega), mvF0]
theorem lfT_succ {ns : List Mv} {k : Int} {j q : Nat} (hj : j < ns.length) : (if q = j * 2 then Value.int .i64 (wrap64 ((ns.getD j noMv).1 + k)) else lfT ns k j q) = lfT ns k (j + 1) q := by
  unfold lfT
  by_cases h : q = j * 2
  · rw [if_pos h, if_pos (by omega), h, mvF0, latL_get hj]
  · rw [if_neg h]
    by_cases h2 : q < j * 2
    · rw [if_pos h2, if_pos (by omega)]
    · rw [if_neg h2]
      by_cases h3 : q = j * 2 + 1
      · rw [if_pos (by omega), h3, mvF1, mvF1, latL_get hj]
      · rw [if_neg (by omega)]

end Go.Proofs.Ytilkphehonilbaa
