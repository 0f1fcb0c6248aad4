/-
  Beats and ranks of codes, plainly. No condition; nothing of the program is imported.
-/
import Derived.Test.YtoebgdcgcdigaaaDigits
import Derived.Test.YtoebgdcgcdigaaaPure
namespace Go.Proofs.Ytoebgdcgcdigaaa

/-- The sum of a list. -/
def sumL (xs : List Int) : Int := xs.foldl (· + ·) 0
theorem sumL_nil : sumL [] = 0 := rfl
theorem sumL_succ (xs : List Int) (k : Nat) (h : k < xs.length) : sumL (xs.take (k + 1)) = sumL (xs.take k) + xs.getD k 0 := by
  rw [take_succ_getD xs k h]
  simp [sumL]
theorem sumL_bounds {xs : List Int} (h : okGroups xs = true) (k : Nat) (hk : k ≤ xs.length) : 0 ≤ sumL (xs.take k) ∧ sumL (xs.take k) ≤ 6 * (k : Int) := by
  induction k with
  | zero => simp [sumL]
  | succ k ih =>
    have h1 := ih (by omega)
    have h2 := okGroups_get h k (by omega)
    rw [sumL_succ xs k (by omega)]
    omega

/-- The beats of a code, or -1. -/
def beatsOf (xs : List Int) : Int := if groupsB xs 1 5 then sumL xs else -1
theorem groupsB_ok {xs : List Int} {lo hi : Int} (h : groupsB xs lo hi = true) : okGroups xs = true ∧ lo ≤ (xs.length : Int) ∧ (xs.length : Int) ≤ hi := by
  simp only [groupsB, Bool.and_eq_true, decide_eq_true_eq] at h
  exact h

/-- What the lesser first groups than j + 1 of a list with so many beats left count, g groups being free behind it. -/
def lesser (g : Nat) (left : Int) (j : Nat) : Int := sumTo (fun k => many g (left.toNat - k)) j
/-- The rank that the first k groups give, and the beats that are left behind them. -/
def rankTo (xs : List Int) : Nat → Int
  | 0 => 0
  | k + 1 => rankTo xs k + lesser (4 - k) (sumL xs - sumL (xs.take k)) ((xs.getD k 0).toNat - 1)
/-- CodeRank. -/
def rankOf (xs : List Int) : Int := if groupsB xs 1 5 then rankTo xs xs.length else -1

theorem lesser_bounds (g : Nat) (left : Int) (j : Nat) (hg : g ≤ 5) (hj : j ≤ 6) : 0 ≤ lesser g left j ∧ lesser g left j ≤ 46656 := part_bounds g left.toNat j hg hj
theorem lesser_succ (g : Nat) (left : Int) (j : Nat) : lesser g left (j + 1) = lesser g left j + many g (left.toNat - (j + 1)) := rfl
theorem rankTo_bounds (xs : List Int) (hok : okGroups xs = true) (h5 : xs.length ≤ 5) (k : Nat) (hk : k ≤ xs.length) : 0 ≤ rankTo xs k ∧ rankTo xs k ≤ 46656 * (k : Int) := by
  induction k with
  | zero => simp [rankTo]
  | succ k ih =>
    have h1 := ih (by omega)
    have h2 := okGroups_get hok k (by omega)
    have h3 := lesser_bounds (4 - k) (sumL xs - sumL (xs.take k)) ((xs.getD k 0).toNat - 1) (by omega) (by omega)
    simp only [rankTo]
    omega
/-- What is left of the beats is at least the group that comes. -/
theorem left_ge {xs : List Int} (hok : okGroups xs = true) (k : Nat) (hk : k < xs.length) : sumL (xs.take k) + xs.getD k 0 ≤ sumL xs := by
  have h : ∀ d, k + 1 + d ≤ xs.length → sumL (xs.take (k + 1)) ≤ sumL (xs.take (k + 1 + d)) := by
    intro d
    induction d with
    | zero => intro _; exact Int.le_refl _
    | succ d ih =>
      intro hd
      have h1 := ih (by omega)
      have h2 := okGroups_get hok (k + 1 + d) (by omega)
      have h3 := sumL_succ xs (k + 1 + d) (by omega)
      rw [show k + 1 + (d + 1) = k + 1 + d + 1 by omega, h3]
      omega
  have h4 := h (xs.length - (k + 1)) (by omega)
  rw [show k + 1 + (xs.length - (k + 1)) = xs.length by omega, List.take_length, sumL_succ xs k hk] at h4
  exact h4

end Go.Proofs.Ytoebgdcgcdigaaa
