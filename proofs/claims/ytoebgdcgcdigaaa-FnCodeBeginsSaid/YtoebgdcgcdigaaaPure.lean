/-
  Plain mathematics of bell codes: how many lists of groups have so many beats. No condition; nothing of the program is imported.
-/
namespace Go.Proofs.Ytoebgdcgcdigaaa

/-- The sum of f 1 .. f j. -/
def sumTo (f : Nat → Int) : Nat → Int
  | 0 => 0
  | j + 1 => sumTo f j + f (j + 1)

/-- How many lists of at most g groups of 1 to 6 beats have b beats. -/
def many : Nat → Nat → Int
  | 0, b => if b = 0 then 1 else 0
  | g + 1, b => if b = 0 then 1 else sumTo (fun k => many g (b - k)) (min b 6)

theorem sumTo_nonneg {f : Nat → Int} (h : ∀ k, 0 ≤ f k) (j : Nat) : 0 ≤ sumTo f j := by
  induction j with
  | zero => simp [sumTo]
  | succ j ih => have := h (j + 1); simp [sumTo]; omega

theorem sumTo_le {f : Nat → Int} {m : Int} (h : ∀ k, f k ≤ m) (j : Nat) : sumTo f j ≤ j * m := by
  induction j with
  | zero => simp [sumTo]
  | succ j ih =>
    have := h (j + 1)
    simp only [sumTo]
    have e : ((j + 1 : Nat) : Int) * m = j * m + m := by rw [Int.natCast_add, Int.add_mul]; simp
    omega

theorem sumTo_zero {f : Nat → Int} (j : Nat) (h : ∀ k, 1 ≤ k → k ≤ j → f k = 0) : sumTo f j = 0 := by
  induction j with
  | zero => simp [sumTo]
  | succ j ih =>
    simp only [sumTo]
    rw [ih (fun k h1 h2 => h k h1 (by omega)), h (j + 1) (by omega) (by omega)]
    rfl

theorem many_nonneg (g b : Nat) : 0 ≤ many g b := by
  induction g generalizing b with
  | zero => simp only [many]; split <;> omega
  | succ g ih =>
    simp only [many]
    split
    · omega
    · exact sumTo_nonneg (fun k => ih _) _

theorem many_le (g b : Nat) : many g b ≤ 6 ^ g := by
  induction g generalizing b with
  | zero => simp only [many]; split <;> omega
  | succ g ih =>
    have hp : (1 : Int) ≤ 6 ^ g := by exact_mod_cast Nat.one_le_pow _ _ (by omega)
    simp only [many]
    split
    · rw [Int.pow_succ]; omega
    · have h := sumTo_le (f := fun k => many g (b - k)) (fun k => ih (b - k)) (min b 6)
      have h6 : ((min b 6 : Nat) : Int) ≤ 6 := by omega
      have := Int.mul_le_mul_of_nonneg_right h6 (show (0 : Int) ≤ 6 ^ g by omega)
      rw [Int.pow_succ]
      omega

theorem many_big (g b : Nat) (h : 6 * g < b) : many g b = 0 := by
  induction g generalizing b with
  | zero => simp [many]; omega
  | succ g ih =>
    simp only [many]
    rw [if_neg (by omega)]
    exact sumTo_zero _ (fun k h1 h2 => ih _ (by omega))

theorem many_zero (g : Nat) : many g 0 = 1 := by cases g <;> simp [many]

theorem many_succ (g b : Nat) (h : 0 < b) : many (g + 1) b = sumTo (fun k => many g (b - k)) (min b 6) := by
  simp only [many]
  rw [if_neg (by omega)]

theorem pow_small (g : Nat) (h : g ≤ 5) : (6 : Int) ^ g ≤ 7776 := by
  match g, h with
  | 0, _ => decide
  | 1, _ => decide
  | 2, _ => decide
  | 3, _ => decide
  | 4, _ => decide
  | 5, _ => decide
  | n + 6, h => omega

theorem part_bounds (g b j : Nat) (hg : g ≤ 5) (hj : j ≤ 6) : 0 ≤ sumTo (fun k => many g (b - k)) j ∧ sumTo (fun k => many g (b - k)) j ≤ 46656 := by
  refine ⟨sumTo_nonneg (fun k => many_nonneg _ _) _, ?_⟩
  have h := sumTo_le (f := fun k => many g (b - k)) (m := 7776) (fun k => Int.le_trans (many_le _ _) (pow_small g hg)) j
  have : (j : Int) * 7776 ≤ 46656 := by omega
  omega

theorem many_bounds (g b : Nat) (hg : g ≤ 5) : 0 ≤ many g b ∧ many g b ≤ 7776 :=
  ⟨many_nonneg _ _, Int.le_trans (many_le _ _) (pow_small g hg)⟩

/-- CodeMany. -/
def codeMany (n : Int) : Int := if n < 0 ∨ 30 < n then -1 else if n = 0 then 0 else many 5 n.toNat

end Go.Proofs.Ytoebgdcgcdigaaa
