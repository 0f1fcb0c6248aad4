/-
  The code with a rank, plainly. No condition; nothing of the program is imported.
-/
import Derived.Test.YtmpelpmlmmfalaaPure
namespace Go.Proofs.Ytmpelpmlmmfalaa

/-- The least k, from a number on, with r less than the sum of f 1 .. f k. -/
def findK (f : Nat → Int) (r : Int) : Nat → Nat → Nat
  | 0, k => k
  | u + 1, k => if r < sumTo f k then k else findK f r u (k + 1)

theorem findK_is (f : Nat → Int) (r : Int) (u k : Nat) (h1 : sumTo f (k - 1) ≤ r) (h2 : r < sumTo f (k + u)) (hk : 1 ≤ k) :
    k ≤ findK f r u k ∧ findK f r u k ≤ k + u ∧ sumTo f (findK f r u k - 1) ≤ r ∧ r < sumTo f (findK f r u k) := by
  induction u generalizing k with
  | zero => exact ⟨Nat.le_refl _, Nat.le_refl _, h1, h2⟩
  | succ u ih =>
    simp only [findK]
    split
    · rename_i h
      exact ⟨Nat.le_refl _, by omega, h1, h⟩
    · rename_i h
      have := ih (k + 1) (by simpa using Int.not_lt.1 h) (by rw [show k + 1 + u = k + (u + 1) by omega]; exact h2) (by omega)
      omega

theorem sumTo_mono {f : Nat → Int} (h : ∀ k, 0 ≤ f k) {a b : Nat} (hab : a ≤ b) : sumTo f a ≤ sumTo f b := by
  induction b with
  | zero => have : a = 0 := by omega
            subst this; exact Int.le_refl _
  | succ b ih =>
    by_cases e : a = b + 1
    · subst e; exact Int.le_refl _
    · have h1 := ih (by omega)
      have h2 := h (b + 1)
      simp only [sumTo]
      omega

/-- The parts of 'many'. -/
def part (g b : Nat) (k : Nat) : Int := many g (b - k)
theorem part_nonneg (g b k : Nat) : 0 ≤ part g b k := many_nonneg _ _
theorem many_parts (g b : Nat) (h : 0 < b) : many (g + 1) b = sumTo (part g b) (min b 6) := many_succ g b h

/-- The first group of the list with a rank. -/
def nthG (g b : Nat) (r : Int) : Nat := findK (part g b) r (min b 6 - 1) 1
theorem nthG_is (g b : Nat) (r : Int) (hb : 0 < b) (h0 : 0 ≤ r) (h : r < many (g + 1) b) :
    1 ≤ nthG g b r ∧ nthG g b r ≤ min b 6 ∧ sumTo (part g b) (nthG g b r - 1) ≤ r ∧ r < sumTo (part g b) (nthG g b r) := by
  have := findK_is (part g b) r (min b 6 - 1) 1 (by simpa [sumTo] using h0) (by rw [show 1 + (min b 6 - 1) = min b 6 by omega, ← many_parts g b hb]; exact h) (Nat.le_refl _)
  unfold nthG
  omega
/-- There is but one such group. -/
theorem nthG_only {g b : Nat} {r : Int} {k : Nat} (hb : 0 < b) (h0 : 0 ≤ r) (h : r < many (g + 1) b) (hk : 1 ≤ k) (h1 : sumTo (part g b) (k - 1) ≤ r) (h2 : r < sumTo (part g b) k) : nthG g b r = k := by
  obtain ⟨q1, q2, q3, q4⟩ := nthG_is g b r hb h0 h
  by_cases e1 : nthG g b r < k
  · have := sumTo_mono (part_nonneg g b) (show nthG g b r ≤ k - 1 by omega)
    omega
  · by_cases e2 : k < nthG g b r
    · have := sumTo_mono (part_nonneg g b) (show k ≤ nthG g b r - 1 by omega)
      omega
    · omega

/-- The list of at most g groups of b beats with a rank. -/
def nthL : Nat → Nat → Int → List Int
  | 0, _, _ => []
  | g + 1, b, r => if b = 0 then [] else (nthG g b r : Int) :: nthL g (b - nthG g b r) (r - sumTo (part g b) (nthG g b r - 1))

theorem nthL_zero (g : Nat) (r : Int) : nthL g 0 r = [] := by cases g <;> simp [nthL]
theorem nthL_succ {g b : Nat} {r : Int} {k : Nat} (hb : 0 < b) (e : nthG g b r = k) : nthL (g + 1) b r = (k : Int) :: nthL g (b - k) (r - sumTo (part g b) (k - 1)) := by
  simp only [nthL]
  rw [if_neg (by omega), e]
theorem nthL_length (g b : Nat) (r : Int) : (nthL g b r).length ≤ g := by
  induction g generalizing b r with
  | zero => simp [nthL]
  | succ g ih =>
    simp only [nthL]
    split
    · simp
    · simp only [List.length_cons]
      have := ih (b - nthG g b r) (r - sumTo (part g b) (nthG g b r - 1))
      omega

/-- CodeNth. -/
def nthOk (n r : Int) : Bool := decide (0 ≤ r) && decide (r < codeMany n)
def nthOf (n r : Int) : List Int := if nthOk n r then nthL 5 n.toNat r else []
theorem nthOf_length (n r : Int) : (nthOf n r).length ≤ 1048576 := by
  unfold nthOf
  split
  · have := nthL_length 5 n.toNat r; omega
  · simp
theorem codeMany_bounds (n : Int) : -1 ≤ codeMany n ∧ codeMany n ≤ 7776 := by
  unfold codeMany
  have := many_bounds 5 n.toNat (by omega)
  split
  · omega
  · split <;> omega
/-- Where the rank is one, the beats are 1 to 30 and 'many' is greater. -/
theorem nthOk_is {n r : Int} (h : nthOk n r = true) : 0 ≤ r ∧ 1 ≤ n ∧ n ≤ 30 ∧ r < many 5 n.toNat := by
  simp only [nthOk, Bool.and_eq_true, decide_eq_true_eq] at h
  obtain ⟨h0, h1⟩ := h
  unfold codeMany at h1
  split at h1
  · omega
  · split at h1
    · omega
    · omega

end Go.Proofs.Ytmpelpmlmmfalaa
