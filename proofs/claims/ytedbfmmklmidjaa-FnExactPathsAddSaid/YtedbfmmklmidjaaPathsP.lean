/-
  Paths of a line, plainly: at most eight paths, no two of which clash. No walk.
-/
import Derived.Test.YtedbfmmklmidjaaClashP
namespace Go.Proofs.Ytedbfmmklmidjaa

/-- No path. -/
def noPath : List Int × List Int := ([], [])

/-- Path i is one, and clashes with none ahead of it. -/
def rowB (n : Int) (ps : List (List Int × List Int)) (i : Nat) : Bool := pathB n (ps.getD i noPath) && decide (∀ j, j < i → clashOf n (ps.getD i noPath) (ps.getD j noPath) = [])
def RowsOk (n : Int) (ps : List (List Int × List Int)) (k : Nat) : Prop := ∀ i, i < k → rowB n ps i = true
instance (n : Int) (ps : List (List Int × List Int)) (k : Nat) : Decidable (RowsOk n ps k) := by unfold RowsOk; infer_instance
/-- Paths of a line of n sections. -/
def IsPaths (n : Int) (ps : List (List Int × List Int)) : Prop := (1 ≤ n ∧ n ≤ 5) ∧ ps.length ≤ 8 ∧ RowsOk n ps ps.length
instance (n : Int) (ps : List (List Int × List Int)) : Decidable (IsPaths n ps) := by unfold IsPaths; infer_instance
def pathsB (n : Int) (ps : List (List Int × List Int)) : Bool := decide (IsPaths n ps)

theorem RowsOk.zero (n : Int) (ps : List (List Int × List Int)) : RowsOk n ps 0 := fun i h => by omega
theorem RowsOk.succ {n : Int} {ps : List (List Int × List Int)} {k : Nat} (h : RowsOk n ps k) (e : rowB n ps k = true) : RowsOk n ps (k + 1) := fun i hi => by
  by_cases q : i = k
  · subst q; exact e
  · exact h i (by omega)
theorem rowB_is {n : Int} {ps : List (List Int × List Int)} {i : Nat} (h : rowB n ps i = true) : pathB n (ps.getD i noPath) = true ∧ ∀ j, j < i → clashOf n (ps.getD i noPath) (ps.getD j noPath) = [] := by
  unfold rowB at h
  rw [Bool.and_eq_true] at h
  exact ⟨h.1, of_decide_eq_true h.2⟩
theorem rowB_yes {n : Int} {ps : List (List Int × List Int)} {i : Nat} (h : pathB n (ps.getD i noPath) = true) (k : ∀ j, j < i → clashOf n (ps.getD i noPath) (ps.getD j noPath) = []) : rowB n ps i = true := by
  unfold rowB
  rw [Bool.and_eq_true]
  exact ⟨h, decide_eq_true k⟩
theorem pathsB_n {n : Int} {ps : List (List Int × List Int)} (h : n < 1 ∨ 5 < n) : pathsB n ps = false := decide_eq_false fun q => by
  have := q.1; omega
theorem pathsB_long {n : Int} {ps : List (List Int × List Int)} (h : 8 < ps.length) : pathsB n ps = false := decide_eq_false fun q => by
  have := q.2.1; omega
theorem pathsB_path {n : Int} {ps : List (List Int × List Int)} {i : Nat} (hi : i < ps.length) (h : pathB n (ps.getD i noPath) = false) : pathsB n ps = false := decide_eq_false fun q => by
  have := (rowB_is (q.2.2 i hi)).1
  rw [h] at this
  cases this
theorem pathsB_clash {n : Int} {ps : List (List Int × List Int)} {i j : Nat} (hi : i < ps.length) (hj : j < i) (h : clashOf n (ps.getD i noPath) (ps.getD j noPath) ≠ []) : pathsB n ps = false := decide_eq_false fun q => h ((rowB_is (q.2.2 i hi)).2 j hj)
theorem pathsB_yes {n : Int} {ps : List (List Int × List Int)} (h1 : 1 ≤ n) (h5 : n ≤ 5) (h8 : ps.length ≤ 8) (h : RowsOk n ps ps.length) : pathsB n ps = true := decide_eq_true ⟨⟨h1, h5⟩, h8, h⟩
theorem pathsB_is {n : Int} {ps : List (List Int × List Int)} (h : pathsB n ps = true) : IsPaths n ps := of_decide_eq_true h
theorem pathsB_at {n : Int} {ps : List (List Int × List Int)} (h : pathsB n ps = true) {i : Nat} (hi : i < ps.length) : pathB n (ps.getD i noPath) = true := (rowB_is ((pathsB_is h).2.2 i hi)).1

end Go.Proofs.Ytedbfmmklmidjaa
