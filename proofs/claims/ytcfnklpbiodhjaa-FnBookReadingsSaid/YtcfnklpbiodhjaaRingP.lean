/-
  Codes of a book put one behind the other, plainly. No condition; nothing of the program is imported.
-/
import Derived.Test.YtcfnklpbiodhjaaBookP
namespace Go.Proofs.Ytcfnklpbiodhjaa

/-- The first k codes of a list of indexes, one behind the other. -/
def ringTo (bk : List (List Int)) (ls : List Int) : Nat → List Int
  | 0 => []
  | k + 1 => ringTo bk ls k ++ bk.getD (ls.getD k 0).toNat []
/-- The first k indexes are indexes of the book, and what they make is short. -/
def RingTo (bk : List (List Int)) (ls : List Int) (k : Nat) : Prop := ∀ i, i < k → (0 ≤ ls.getD i 0 ∧ ls.getD i 0 < (bk.length : Int)) ∧ (ringTo bk ls (i + 1)).length ≤ 20
noncomputable def ringB (bk : List (List Int)) (ls : List Int) : Bool := bookB bk && @decide (RingTo bk ls ls.length) (Classical.propDecidable _)
noncomputable def ringOf (bk : List (List Int)) (ls : List Int) : List Int := if ringB bk ls then ringTo bk ls ls.length else []

theorem RingTo.zero (bk : List (List Int)) (ls : List Int) : RingTo bk ls 0 := fun i hi => by omega
theorem RingTo.succ {bk : List (List Int)} {ls : List Int} {k : Nat} (h : RingTo bk ls k) (h0 : 0 ≤ ls.getD k 0) (h1 : ls.getD k 0 < (bk.length : Int)) (h2 : (ringTo bk ls (k + 1)).length ≤ 20) : RingTo bk ls (k + 1) := by
  intro i hi
  by_cases q : i = k
  · subst q; exact ⟨⟨h0, h1⟩, h2⟩
  · exact h i (by omega)
theorem RingTo.short {bk : List (List Int)} {ls : List Int} {k : Nat} (h : RingTo bk ls k) : (ringTo bk ls k).length ≤ 20 := by
  cases k with
  | zero => simp [ringTo]
  | succ k => exact (h k (by omega)).2

theorem ringB_yes {bk : List (List Int)} {ls : List Int} (hb : bookB bk = true) (h : RingTo bk ls ls.length) : ringB bk ls = true ∧ ringOf bk ls = ringTo bk ls ls.length := by
  have e : ringB bk ls = true := by simp [ringB, hb, h]
  exact ⟨e, by unfold ringOf; rw [if_pos e]⟩
theorem ringB_not {bk : List (List Int)} {ls : List Int} (h : ¬ RingTo bk ls ls.length) : ringB bk ls = false ∧ ringOf bk ls = [] := by
  have e : ringB bk ls = false := by simp [ringB, h]
  exact ⟨e, by unfold ringOf; rw [e]; rfl⟩
theorem ringB_book {bk : List (List Int)} {ls : List Int} (h : bookB bk = false) : ringB bk ls = false ∧ ringOf bk ls = [] := by
  have e : ringB bk ls = false := by simp [ringB, h]
  exact ⟨e, by unfold ringOf; rw [e]; rfl⟩
theorem ringB_index {bk : List (List Int)} {ls : List Int} {k : Nat} (hk : k < ls.length) (h : ls.getD k 0 < 0 ∨ (bk.length : Int) - 1 < ls.getD k 0) : ringB bk ls = false ∧ ringOf bk ls = [] :=
  ringB_not fun hr => by have := (hr k hk).1; omega
theorem ringB_long {bk : List (List Int)} {ls : List Int} {k : Nat} (hk : k < ls.length) (h : 20 < (ringTo bk ls (k + 1)).length) : ringB bk ls = false ∧ ringOf bk ls = [] :=
  ringB_not fun hr => by have := (hr k hk).2; omega

/-- A code of a book has 1 to 5 groups. -/
theorem book_row {bk : List (List Int)} (hb : bookB bk = true) {x : Int} (h0 : 0 ≤ x) (h1 : x < (bk.length : Int)) : okGroups (bk.getD x.toNat []) = true ∧ 1 ≤ (bk.getD x.toNat []).length ∧ (bk.getD x.toNat []).length ≤ 5 := by
  have h := (bookB_is hb).1.1 x.toNat (by omega)
  simp only [groupsB, Bool.and_eq_true, decide_eq_true_eq] at h
  exact ⟨h.1, by omega, by omega⟩
theorem ring_ok {bk : List (List Int)} (hb : bookB bk = true) {ls : List Int} {k : Nat} (h : RingTo bk ls k) : okGroups (ringTo bk ls k) = true := by
  induction k with
  | zero => rfl
  | succ k ih =>
    have h1 := ih (fun i hi => h i (by omega))
    have h2 := (h k (by omega)).1
    have h3 := (book_row hb h2.1 h2.2).1
    simp only [ringTo]
    unfold okGroups at *
    rw [List.all_append, h1, h3]
    rfl
theorem ringTo_length (bk : List (List Int)) (ls : List Int) (k : Nat) : (ringTo bk ls (k + 1)).length = (ringTo bk ls k).length + (bk.getD (ls.getD k 0).toNat []).length := by
  simp [ringTo]

theorem ringOf_length (bk : List (List Int)) (ls : List Int) : (ringOf bk ls).length ≤ 1048576 := by
  unfold ringOf
  split
  · rename_i h
    simp only [ringB, Bool.and_eq_true, decide_eq_true_eq] at h
    have := h.2.short
    omega
  · simp

end Go.Proofs.Ytcfnklpbiodhjaa
