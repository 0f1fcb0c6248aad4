/-
  The least gap between two trains of a section, by the model and by the program. For all lists of at most 1048576 paths.
-/
import Derived.Test.YtoebgdcgcdigaabSort
import Derived.BigRegion
namespace Go.Proofs.Ytoebgdcgcdigaab
open Go.RowKit Go.Sort

/-- The least of the first j gaps. -/
def gapTo (ps : List (List Int × List Int)) (k : Nat) (L : List Int) : Nat → Int
  | 0 => 2000
  | j + 1 => min (gapTo ps k L j) (inAt ps k (L.getD (j + 1) 0).toNat - outAt ps k (L.getD j 0).toNat)
def gapOf (n : Int) (ps : List (List Int × List Int)) (k : Int) : Int := if hasB n ps k = true ∧ 2 ≤ ps.length then gapTo ps k.toNat (orderOf ps k.toNat) (ps.length - 1) else -1
theorem gapOf_no {n : Int} {ps : List (List Int × List Int)} {k : Int} (h : hasB n ps k = false) : gapOf n ps k = -1 := by unfold gapOf; rw [if_neg (by rw [h]; simp)]
theorem gapOf_few {n : Int} {ps : List (List Int × List Int)} {k : Int} (h : (ps.length : Int) < 2) : gapOf n ps k = -1 := by unfold gapOf; rw [if_neg (by omega)]
theorem gapOf_is {n : Int} {ps : List (List Int × List Int)} {k : Int} (h : hasB n ps k = true) (h2 : 2 ≤ ps.length) : gapOf n ps k = gapTo ps k.toNat (orderOf ps k.toNat) (ps.length - 1) := by unfold gapOf; rw [if_pos ⟨h, h2⟩]
theorem gapTo_bounds {n : Int} {ps : List (List Int × List Int)} {k : Nat} (h : pathsB n ps = true) (hk : (k : Int) < n) : ∀ j, j + 1 ≤ ps.length → -2000 ≤ gapTo ps k (orderOf ps k) j ∧ gapTo ps k (orderOf ps k) j ≤ 2000 := by
  intro j
  induction j with
  | zero => intro _; exact ⟨by show (-2000 : Int) ≤ 2000; decide, by show (2000 : Int) ≤ 2000; decide⟩
  | succ j ih =>
    intro hj
    have q := ih (by omega)
    have b1 := sec_bounds h (order_get (k := k) (m := j + 1) (by rw [order_len]; omega)).2 hk
    have b2 := sec_bounds h (order_get (k := k) (m := j) (by rw [order_len]; omega)).2 hk
    unfold gapTo inAt outAt
    omega

end Go.Proofs.Ytoebgdcgcdigaab
