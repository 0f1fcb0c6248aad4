/-
  The first place at which something holds, plainly. No condition; nothing of the program is imported.
-/
namespace Go.Proofs.Ytcfnklpbiodhjaa

/-- The first place from k on, u places long, at which f holds, or -1. -/
def firstIdx (f : Nat → Bool) : Nat → Nat → Int
  | _, 0 => -1
  | k, u + 1 => if f k then k else firstIdx f (k + 1) u

theorem firstIdx_skip {f : Nat → Bool} (d k u : Nat) (h : ∀ l, k ≤ l → l < k + d → f l = false) : firstIdx f k (d + u) = firstIdx f (k + d) u := by
  induction d generalizing k with
  | zero => simp
  | succ d ih =>
    rw [show d + 1 + u = (d + u) + 1 by omega]
    simp only [firstIdx]
    rw [h k (by omega) (by omega), ih (k + 1) (fun l h1 h2 => h l (by omega) (by omega))]
    simp only [Bool.false_eq_true, if_false]
    rw [show k + 1 + d = k + (d + 1) by omega]
theorem firstIdx_hit {f : Nat → Bool} {k n : Nat} (h : ∀ l, l < k → f l = false) (hk : f k = true) (hn : k < n) : firstIdx f 0 n = k := by
  have := firstIdx_skip (f := f) k 0 (n - k) (fun l _ hl => h l (by omega))
  rw [show k + (n - k) = n by omega] at this
  rw [this, Nat.zero_add]
  obtain ⟨u, hu⟩ : ∃ u, n - k = u + 1 := ⟨n - k - 1, by omega⟩
  rw [hu]
  simp [firstIdx, hk]
theorem firstIdx_none {f : Nat → Bool} {n : Nat} (h : ∀ l, l < n → f l = false) : firstIdx f 0 n = -1 := by
  have := firstIdx_skip (f := f) n 0 0 (fun l _ hl => h l (by omega))
  simpa [firstIdx] using this
theorem firstIdx_congr {f g : Nat → Bool} (u k : Nat) (h : ∀ l, k ≤ l → l < k + u → f l = g l) : firstIdx f k u = firstIdx g k u := by
  induction u generalizing k with
  | zero => rfl
  | succ u ih =>
    simp only [firstIdx]
    rw [h k (by omega) (by omega), ih (k + 1) (fun l h1 h2 => h l (by omega) (by omega))]
theorem firstIdx_nonneg {f : Nat → Bool} {n : Nat} : (0 ≤ firstIdx f 0 n) ↔ ∃ k, k < n ∧ f k = true := by
  constructor
  · intro h
    apply Classical.byContradiction
    intro hn
    rw [firstIdx_none (fun l hl => by
      cases e : f l
      · rfl
      · exact absurd ⟨l, hl, e⟩ hn)] at h
    omega
  · rintro ⟨k, hk, hf⟩
    -- the first such place
    have : ∀ d, d ≤ k → (∀ l, l < d → f l = false) ∨ ∃ j, j < d ∧ f j = true ∧ ∀ l, l < j → f l = false := by
      intro d
      induction d with
      | zero => intro _; exact .inl (fun l hl => by omega)
      | succ d ih =>
        intro hd
        rcases ih (by omega) with h | ⟨j, hj, h1, h2⟩
        · cases e : f d
          · left
            intro l hl
            by_cases q : l = d
            · subst q; exact e
            · exact h l (by omega)
          · exact .inr ⟨d, by omega, e, h⟩
        · exact .inr ⟨j, by omega, h1, h2⟩
    rcases this k (Nat.le_refl _) with h | ⟨j, hj, h1, h2⟩
    · rw [firstIdx_hit h hf hk]; omega
    · rw [firstIdx_hit h2 h1 (by omega)]; omega

end Go.Proofs.Ytcfnklpbiodhjaa
