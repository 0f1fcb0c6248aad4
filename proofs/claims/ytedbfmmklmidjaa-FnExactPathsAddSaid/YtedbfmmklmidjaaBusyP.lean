/-
  How busy a section is, how often trains pass one another, plainly. No walk.
-/
import Derived.Test.YtedbfmmklmidjaaPathsP
namespace Go.Proofs.Ytedbfmmklmidjaa

/-- There is such a section, and the list are paths. -/
def hasB (n : Int) (ps : List (List Int × List Int)) (k : Int) : Bool := pathsB n ps && decide (0 ≤ k ∧ k < n)
theorem hasB_paths {n k : Int} {ps : List (List Int × List Int)} (h : pathsB n ps = false) : hasB n ps k = false := by unfold hasB; rw [h]; rfl
theorem hasB_sec {n k : Int} {ps : List (List Int × List Int)} (h : ¬ (0 ≤ k ∧ k < n)) : hasB n ps k = false := by unfold hasB; rw [decide_eq_false h, Bool.and_false]
theorem hasB_yes {n k : Int} {ps : List (List Int × List Int)} (h : pathsB n ps = true) (hk : 0 ≤ k ∧ k < n) : hasB n ps k = true := by unfold hasB; rw [h, decide_eq_true hk]; rfl
theorem hasB_is {n k : Int} {ps : List (List Int × List Int)} (h : hasB n ps k = true) : pathsB n ps = true ∧ 0 ≤ k ∧ k < n := by
  unfold hasB at h
  rw [Bool.and_eq_true] at h
  exact ⟨h.1, of_decide_eq_true h.2⟩

/-- The minutes of the first i trains in section k. -/
def busyTo (ps : List (List Int × List Int)) (k : Nat) : Nat → Int
  | 0 => 0
  | i + 1 => busyTo ps k i + ((ps.getD i noPath).2.getD k 0 - (ps.getD i noPath).1.getD k 0)
def busyOf (n : Int) (ps : List (List Int × List Int)) (k : Int) : Int := if hasB n ps k then busyTo ps k.toNat ps.length else -1
theorem busyOf_no {n k : Int} {ps : List (List Int × List Int)} (h : hasB n ps k = false) : busyOf n ps k = -1 := by unfold busyOf; rw [h]; rfl
theorem busyOf_yes {n k : Int} {ps : List (List Int × List Int)} (h : hasB n ps k = true) : busyOf n ps k = busyTo ps k.toNat ps.length := by unfold busyOf; rw [h]; rfl

/-- The In and the Out of path i in a section. -/
theorem sec_bounds {n : Int} {ps : List (List Int × List Int)} (h : pathsB n ps = true) {i k : Nat} (hi : i < ps.length) (hk : (k : Int) < n) :
    k < (ps.getD i noPath).1.length ∧ k < (ps.getD i noPath).2.length ∧ 0 ≤ (ps.getD i noPath).1.getD k 0 ∧ (ps.getD i noPath).1.getD k 0 < (ps.getD i noPath).2.getD k 0 ∧ (ps.getD i noPath).2.getD k 0 ≤ 2000 := by
  obtain ⟨_, h1, h2, h3⟩ := pathB_is (pathsB_at h hi)
  have hk1 : k < (ps.getD i noPath).1.length := by omega
  have := h3.bounds hk1
  exact ⟨hk1, by omega, this⟩
theorem busyTo_bounds {n : Int} {ps : List (List Int × List Int)} (h : pathsB n ps = true) {k : Nat} (hk : (k : Int) < n) : ∀ i, i ≤ ps.length → 0 ≤ busyTo ps k i ∧ busyTo ps k i ≤ 2000 * i := by
  intro i hi
  induction i with
  | zero => simp [busyTo]
  | succ i ih =>
    have h1 := ih (by omega)
    obtain ⟨_, _, h2, h3, h4⟩ := sec_bounds h (i := i) (by omega) hk
    simp only [busyTo]
    omega

end Go.Proofs.Ytedbfmmklmidjaa
