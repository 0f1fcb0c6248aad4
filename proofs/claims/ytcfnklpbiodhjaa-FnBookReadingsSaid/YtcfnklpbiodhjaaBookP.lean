/-
  Books of codes, plainly. No condition; nothing of the program is imported.
-/
import Derived.Test.YtcfnklpbiodhjaaDigits
namespace Go.Proofs.Ytcfnklpbiodhjaa

/-- The first k lists are different codes. -/
def BookTo (bk : List (List Int)) (k : Nat) : Prop := (∀ i, i < k → groupsB (bk.getD i []) 1 5 = true) ∧ (∀ i j, j < i → i < k → bk.getD i [] ≠ bk.getD j [])
/-- The list at a place is none of the first j. -/
def NotIn (bk : List (List Int)) (xs : List Int) (j : Nat) : Prop := ∀ l, l < j → xs ≠ bk.getD l []
/-- The list of lists is a book. -/
def BookOk (bk : List (List Int)) : Prop := BookTo bk bk.length ∧ bk.length ≤ 10
noncomputable def bookB (bk : List (List Int)) : Bool := @decide (BookOk bk) (Classical.propDecidable _)
theorem bookB_yes {bk : List (List Int)} (h : BookOk bk) : bookB bk = true := by simp [bookB, h]
theorem bookB_no {bk : List (List Int)} (h : ¬ BookOk bk) : bookB bk = false := by simp [bookB, h]
theorem bookB_is {bk : List (List Int)} (h : bookB bk = true) : BookOk bk := by simpa [bookB] using h
theorem bookB_not {bk : List (List Int)} (h : bookB bk = false) : ¬ BookOk bk := by simpa [bookB] using h

theorem BookTo.zero (bk : List (List Int)) : BookTo bk 0 := ⟨fun i hi => by omega, fun i j _ hi => by omega⟩
theorem NotIn.zero (bk : List (List Int)) (xs : List Int) : NotIn bk xs 0 := fun l hl => by omega
theorem NotIn.succ {bk : List (List Int)} {xs : List Int} {j : Nat} (h : NotIn bk xs j) (e : xs ≠ bk.getD j []) : NotIn bk xs (j + 1) := by
  intro l hl
  by_cases q : l = j
  · subst q; exact e
  · exact h l (by omega)
theorem BookTo.succ {bk : List (List Int)} {k : Nat} (h : BookTo bk k) (hv : groupsB (bk.getD k []) 1 5 = true) (hn : NotIn bk (bk.getD k []) k) : BookTo bk (k + 1) := by
  refine ⟨fun i hi => ?_, fun i j hji hi => ?_⟩
  · by_cases q : i = k
    · subst q; exact hv
    · exact h.1 i (by omega)
  · by_cases q : i = k
    · subst q; exact hn j hji
    · exact h.2 i j hji (by omega)
theorem not_book_code {bk : List (List Int)} {k : Nat} (hk : k < bk.length) (hv : groupsB (bk.getD k []) 1 5 = false) : ¬ BookOk bk := by
  intro h
  have := h.1.1 k hk
  rw [hv] at this
  cases this
theorem not_book_twice {bk : List (List Int)} {i j : Nat} (hji : j < i) (hi : i < bk.length) (e : bk.getD i [] = bk.getD j []) : ¬ BookOk bk := fun h => h.1.2 i j hji hi e

end Go.Proofs.Ytcfnklpbiodhjaa
