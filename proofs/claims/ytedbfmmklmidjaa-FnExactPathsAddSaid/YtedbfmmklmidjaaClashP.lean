/-
  Clashes of two paths, plainly. No walk.
-/
import Derived.Test.YtedbfmmklmidjaaPathP
namespace Go.Proofs.Ytedbfmmklmidjaa

/-- Two paths clash in section k. -/
def clashAt (p q : List Int × List Int) (k : Nat) : Bool := decide (p.1.getD k 0 < q.2.getD k 0 ∧ q.1.getD k 0 < p.2.getD k 0)
/-- The clashes in the first k sections. -/
def clashTo (p q : List Int × List Int) : Nat → List Int
  | 0 => []
  | k + 1 => clashTo p q k ++ (if clashAt p q k then [(k : Int)] else [])
def clashB (n : Int) (p q : List Int × List Int) : Bool := pathB n p && pathB n q
def clashOf (n : Int) (p q : List Int × List Int) : List Int := if clashB n p q then clashTo p q p.1.length else []

theorem clashTo_length (p q : List Int × List Int) (k : Nat) : (clashTo p q k).length ≤ k := by
  induction k with
  | zero => simp [clashTo]
  | succ k ih =>
    simp only [clashTo, List.length_append]
    split <;> simp <;> omega
theorem clashOf_length (n : Int) (p q : List Int × List Int) : (clashOf n p q).length ≤ 5 := by
  unfold clashOf
  split
  · rename_i h
    unfold clashB at h
    rw [Bool.and_eq_true] at h
    obtain ⟨⟨_, h5⟩, h1, _⟩ := pathB_is h.1
    have := clashTo_length p q p.1.length
    omega
  · simp
theorem clashTo_yes {p q : List Int × List Int} {k : Nat} (h : clashAt p q k = true) : clashTo p q (k + 1) = clashTo p q k ++ [(k : Int)] := by simp [clashTo, h]
theorem clashTo_no {p q : List Int × List Int} {k : Nat} (h : clashAt p q k = false) : clashTo p q (k + 1) = clashTo p q k := by simp [clashTo, h]
theorem clashOf_no {n : Int} {p q : List Int × List Int} (h : clashB n p q = false) : clashOf n p q = [] := by unfold clashOf; rw [h]; rfl
theorem clashOf_yes {n : Int} {p q : List Int × List Int} (h : clashB n p q = true) : clashOf n p q = clashTo p q p.1.length := by unfold clashOf; rw [h]; rfl
theorem clashB_is {n : Int} {p q : List Int × List Int} (h : clashB n p q = true) : pathB n p = true ∧ pathB n q = true := by
  unfold clashB at h; rwa [Bool.and_eq_true] at h
theorem clashB_1 {n : Int} {p q : List Int × List Int} (h : pathB n p = false) : clashB n p q = false := by unfold clashB; rw [h]; rfl
theorem clashB_2 {n : Int} {p q : List Int × List Int} (h : pathB n q = false) : clashB n p q = false := by unfold clashB; rw [h, Bool.and_false]

end Go.Proofs.Ytedbfmmklmidjaa
