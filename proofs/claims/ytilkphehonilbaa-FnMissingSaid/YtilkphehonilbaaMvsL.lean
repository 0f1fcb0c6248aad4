/-
  What the laws' helpers do with moves: sizes, copies, comparisons. For at most 1048576 moves of as many bytes together.
-/
import Derived.Test.YtilkphehonilbaaOpenM
import Derived.Test.YtilkphehonilbaaLawC
import Derived.Test.YtilkphehonilbaaPairB
import Derived.Test.YtilkphehonilbaaSlices
import Derived.Lib.QuietBelow
namespace Go.Proofs.Ytilkphehonilbaa
open Go.RowKit Go.Sort

/-- The bytes of the first k letters. -/
def sumS (ms : List Mv) : Nat → Int
  | 0 => 0
  | k + 1 => sumS ms k + ((ms.getD k noMv).2.size : Int)
theorem sumS_nonneg (ms : List Mv) (k : Nat) : 0 ≤ sumS ms k := by
  induction k with
  | zero => simp [sumS]
  | succ k ih => simp only [sumS]; omega
theorem sumS_mono (ms : List Mv) {i k : Nat} (h : i ≤ k) : sumS ms i ≤ sumS ms k := by
  induction k with
  | zero => obtain rfl : i = 0 := by omega
            exact Int.le_refl _
  | succ k ih =>
    by_cases e : i = k + 1
    · rw [e]; exact Int.le_refl _
    · have := ih (by omega)
      simp only [sumS]; omega
theorem sumS_one (ms : List Mv) {i k : Nat} (h : i < k) : ((ms.getD i noMv).2.size : Int) ≤ sumS ms k := by
  have h1 := sumS_mono ms (show i + 1 ≤ k by omega)
  have h2 := sumS_nonneg ms i
  simp only [sumS] at h1
  omega

/-- A list of which the first k moves are there. -/
def mvTill (ms : List Mv) (k q : Nat) : Value := if q < k * 2 then mvF ms q else mvF [] q
theorem mvTill_succ (ms : List Mv) (k : Nat) (q : Nat) : (if q = k * 2 + 1 then Value.string (ms.getD k noMv).2 else if q = k * 2 then Value.int .i64 (ms.getD k noMv).1 else mvTill ms k q) = mvTill ms (k + 1) q := by
  unfold mvTill
  by_cases h1 : q = k * 2 + 1
  · rw [if_pos h1, if_pos (by omega), h1, mvF1]
  · rw [if_neg h1]
    by_cases h0 : q = k * 2
    · rw [if_pos h0, if_pos (by omega), h0, mvF0]
    · rw [if_neg h0]
      by_cases h : q < k * 2
      · rw [if_pos h, if_pos (by omega)]
      · rw [if_neg h, if_neg (by omega)]

end Go.Proofs.Ytilkphehonilbaa
