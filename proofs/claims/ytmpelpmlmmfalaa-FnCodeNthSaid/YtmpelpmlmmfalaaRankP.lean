/-
  Ranks and codes belong together, plainly. No condition; nothing of the program is imported.
-/
import Derived.Test.YtmpelpmlmmfalaaNthP
import Derived.Test.YtmpelpmlmmfalaaSumP
namespace Go.Proofs.Ytmpelpmlmmfalaa

/-- The rank that a list gives, from its first group on. -/
def rkFrom : Nat → Int → List Int → Int
  | _, _, [] => 0
  | g, left, x :: xs => lesser (g - 1) left (x.toNat - 1) + rkFrom (g - 1) (left - x) xs

theorem sumL_cons (x : Int) (xs : List Int) : sumL (x :: xs) = x + sumL xs := by
  have h : ∀ (ys : List Int) (a : Int), ys.foldl (· + ·) a = a + ys.foldl (· + ·) 0 := by
    intro ys
    induction ys with
    | nil => intro a; simp
    | cons y ys ih => intro a; rw [List.foldl_cons, ih, List.foldl_cons, ih (0 + y)]; omega
  unfold sumL
  rw [List.foldl_cons, h]
  omega

theorem rankTo_from (xs : List Int) (k : Nat) (hk : k ≤ xs.length) : rankTo xs k + rkFrom (5 - k) (sumL xs - sumL (xs.take k)) (xs.drop k) = rkFrom 5 (sumL xs) xs := by
  induction k with
  | zero => simp [rankTo, sumL]
  | succ k ih =>
    have h := ih (by omega)
    have hd : xs.drop k = xs.getD k 0 :: xs.drop (k + 1) := by
      rw [List.drop_eq_getElem_cons (by omega)]
      simp [show k < xs.length by omega]
    rw [hd] at h
    simp only [rkFrom] at h
    simp only [rankTo]
    rw [sumL_succ xs k (by omega), show 5 - (k + 1) = 5 - k - 1 by omega, show 4 - k = 5 - k - 1 by omega, show sumL xs - (sumL (xs.take k) + xs.getD k 0) = sumL xs - sumL (xs.take k) - xs.getD k 0 by omega]
    omega
theorem rankOf_from {xs : List Int} (h : groupsB xs 1 5 = true) : rankOf xs = rkFrom 5 (sumL xs) xs := by
  have := rankTo_from xs xs.length (Nat.le_refl _)
  rw [List.drop_length, rkFrom] at this
  unfold rankOf
  rw [if_pos h]
  omega

theorem lesser_part (g b j : Nat) : lesser g (b : Int) j = sumTo (part g b) j := rfl

/-- What the list with a rank is. -/
theorem nthL_is (g b : Nat) (r : Int) (h0 : 0 ≤ r) (h1 : r < many g b) : okGroups (nthL g b r) = true ∧ sumL (nthL g b r) = b ∧ rkFrom g b (nthL g b r) = r := by
  induction g generalizing b r with
  | zero =>
    by_cases hb : b = 0
    · subst hb
      simp [many] at h1
      exact ⟨by simp [nthL, okGroups], by simp [nthL, sumL], by simp [nthL, rkFrom]; omega⟩
    · simp [many, hb] at h1
      omega
  | succ g ih =>
    by_cases hb : b = 0
    · subst hb
      rw [many_zero] at h1
      exact ⟨by simp [nthL, okGroups], by simp [nthL, sumL], by simp [nthL, rkFrom]; omega⟩
    · obtain ⟨q1, q2, q3, q4⟩ := nthG_is g b r (by omega) h0 h1
      have hsum : sumTo (part g b) (nthG g b r) = sumTo (part g b) (nthG g b r - 1) + part g b (nthG g b r) := by
        obtain ⟨k', hk'⟩ : ∃ k', nthG g b r = k' + 1 := ⟨nthG g b r - 1, by omega⟩
        rw [hk']
        rfl
      have := ih (b - nthG g b r) (r - sumTo (part g b) (nthG g b r - 1)) (by omega) (by unfold part at hsum q4 q3 ⊢; omega)
      obtain ⟨i1, i2, i3⟩ := this
      rw [nthL_succ (by omega) rfl]
      refine ⟨?_, ?_, ?_⟩
      · simp only [okGroups, List.all_cons, Bool.and_eq_true, decide_eq_true_eq]
        exact ⟨⟨by omega, by omega⟩, i1⟩
      · rw [sumL_cons, i2]; omega
      · simp only [rkFrom, Nat.add_sub_cancel, Int.toNat_natCast]
        rw [lesser_part, show (b : Int) - (nthG g b r : Int) = ((b - nthG g b r : Nat) : Int) by omega, i3]
        omega

theorem nthL_ne {g b : Nat} {r : Int} (hb : 0 < b) (h0 : 0 ≤ r) (h1 : r < many g b) : 1 ≤ (nthL g b r).length := by
  have h := (nthL_is g b r h0 h1).2.1
  cases e : nthL g b r with
  | nil => rw [e] at h; simp [sumL] at h; omega
  | cons x xs => simp

/-- The code with a rank is a code, has its beats, and has the rank. -/
theorem nthOf_code {n r : Int} (h : nthOk n r = true) : groupsB (nthOf n r) 1 5 = true ∧ sumL (nthOf n r) = n ∧ rankOf (nthOf n r) = r ∧ beatsOf (nthOf n r) = n := by
  obtain ⟨h0, hn1, hn30, hr⟩ := nthOk_is h
  have e : nthOf n r = nthL 5 n.toNat r := by unfold nthOf; rw [if_pos h]
  obtain ⟨i1, i2, i3⟩ := nthL_is 5 n.toNat r h0 hr
  have hl := nthL_length 5 n.toNat r
  have hl1 := nthL_ne (show 0 < n.toNat by omega) h0 hr
  have hg : groupsB (nthL 5 n.toNat r) 1 5 = true := by
    simp only [groupsB, Bool.and_eq_true, decide_eq_true_eq]
    exact ⟨i1, by omega, by omega⟩
  have hn : ((n.toNat : Nat) : Int) = n := by omega
  rw [e]
  refine ⟨hg, by rw [i2, hn], ?_, ?_⟩
  · rw [rankOf_from hg, i2, i3]
  · unfold beatsOf
    rw [if_pos hg, i2, hn]

/-- The first group of the last code. -/
theorem sumTo_last {f : Nat → Int} (h : ∀ k, 0 ≤ f k) {j : Nat} (hj : 1 ≤ j) : f j ≤ sumTo f j := by
  obtain ⟨k, rfl⟩ : ∃ k, j = k + 1 := ⟨j - 1, by omega⟩
  have := sumTo_nonneg h k
  simp only [sumTo]
  omega
theorem many_pos (g b : Nat) (h : b ≤ 6 * g) : 1 ≤ many g b := by
  induction g generalizing b with
  | zero => have : b = 0 := by omega
            subst this; simp [many]
  | succ g ih =>
    by_cases hb : b = 0
    · subst hb; rw [many_zero]; omega
    · rw [many_succ g b (by omega)]
      have h1 := sumTo_last (f := fun k => many g (b - k)) (fun k => many_nonneg _ _) (show 1 ≤ min b 6 by omega)
      have h2 := ih (b - min b 6) (by omega)
      have h3 : many g (b - min b 6) ≤ sumTo (fun k => many g (b - k)) (min b 6) := h1
      omega
theorem codeMany_pos {n : Int} (h1 : 1 ≤ n) (h2 : n ≤ 30) : 1 ≤ codeMany n := by
  unfold codeMany
  rw [if_neg (by omega), if_neg (by omega)]
  exact many_pos 5 n.toNat (by omega)
theorem codeMany_is {n : Int} (h1 : 1 ≤ n) (h2 : n ≤ 30) : codeMany n = many 5 n.toNat := by
  unfold codeMany
  rw [if_neg (by omega), if_neg (by omega)]
theorem nthOk_of {n r : Int} (h0 : 0 ≤ r) (h : r < codeMany n) : nthOk n r = true := by simp [nthOk, h0, h]
theorem nthOf_first {n r : Int} (h : nthOk n r = true) : (nthOf n r).getD 0 0 = (nthG 4 n.toNat r : Int) := by
  obtain ⟨h0, hn1, hn30, hr⟩ := nthOk_is h
  unfold nthOf
  rw [if_pos h, nthL_succ (show 0 < n.toNat by omega) rfl]
  rfl
theorem last_first {n : Int} (h1 : 1 ≤ n) (h2 : n ≤ 30) : (nthG 4 n.toNat (codeMany n - 1) : Int) = min n 6 := by
  have hp := codeMany_pos h1 h2
  rw [codeMany_is h1 h2] at hp ⊢
  have hb : 0 < n.toNat := by omega
  have hm : many 5 n.toNat = sumTo (part 4 n.toNat) (min n.toNat 6) := many_parts 4 n.toNat hb
  have e : nthG 4 n.toNat (many 5 n.toNat - 1) = min n.toNat 6 := by
    refine nthG_only hb (by omega) (by show many 5 n.toNat - 1 < many 5 n.toNat; omega) (by omega) ?_ (by rw [← hm]; omega)
    have hs : sumTo (part 4 n.toNat) (min n.toNat 6) = sumTo (part 4 n.toNat) (min n.toNat 6 - 1) + part 4 n.toNat (min n.toNat 6) := by
      obtain ⟨k', hk'⟩ : ∃ k', min n.toNat 6 = k' + 1 := ⟨min n.toNat 6 - 1, by omega⟩
      rw [hk']
      rfl
    have hpos : 1 ≤ part 4 n.toNat (min n.toNat 6) := many_pos 4 _ (by omega)
    rw [hm]
    omega
  rw [e]
  omega

end Go.Proofs.Ytmpelpmlmmfalaa
