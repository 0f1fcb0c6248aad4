/-
  The order of codes and their ranks, plainly. No condition; nothing of the program is imported.
-/
import Derived.Test.YtmpelpmlmmfalaaRankP
namespace Go.Proofs.Ytmpelpmlmmfalaa

theorem okGroups_parts {x : Int} {xs : List Int} (h : okGroups (x :: xs) = true) : 1 ≤ x ∧ x ≤ 6 ∧ okGroups xs = true := by
  simp only [okGroups, List.all_cons, Bool.and_eq_true, decide_eq_true_eq] at h
  exact ⟨h.1.1, h.1.2, h.2⟩

theorem sumTo_pred (f : Nat → Int) {k : Nat} (h : 1 ≤ k) : sumTo f k = sumTo f (k - 1) + f k := by
  obtain ⟨j, rfl⟩ : ∃ j, k = j + 1 := ⟨k - 1, by omega⟩
  rfl

theorem sumL_nonneg {xs : List Int} (h : okGroups xs = true) : 0 ≤ sumL xs := by
  have := (sumL_bounds h xs.length (Nat.le_refl _)).1
  rwa [List.take_length] at this

/-- The list with the rank of a list is the list. -/
theorem nthL_rank (g : Nat) (xs : List Int) (h : okGroups xs = true) (hl : xs.length ≤ g) :
    nthL g (sumL xs).toNat (rkFrom g (sumL xs) xs) = xs ∧ 0 ≤ rkFrom g (sumL xs) xs ∧ rkFrom g (sumL xs) xs < many g (sumL xs).toNat := by
  induction xs generalizing g with
  | nil =>
    have e : (sumL []).toNat = 0 := rfl
    rw [e, nthL_zero, many_zero]
    simp [rkFrom]
  | cons x xs ih =>
    obtain ⟨h1, h6, hx⟩ := okGroups_parts h
    obtain ⟨g', rfl⟩ : ∃ g', g = g' + 1 := ⟨g - 1, by simp at hl; omega⟩
    obtain ⟨i1, i2, i3⟩ := ih g' hx (by simp at hl; omega)
    have hs := sumL_nonneg hx
    obtain ⟨k, hk⟩ : ∃ k : Nat, x = (k : Int) := Int.eq_ofNat_of_zero_le (by omega)
    obtain ⟨s, hsn⟩ : ∃ s : Nat, sumL xs = (s : Int) := Int.eq_ofNat_of_zero_le hs
    rw [hsn] at i1 i2 i3
    rw [sumL_cons, hsn]
    subst hk
    have hb : ((k : Int) + (s : Int)).toNat = k + s := by omega
    have er : rkFrom (g' + 1) ((k : Int) + (s : Int)) ((k : Int) :: xs) = sumTo (part g' (k + s)) (k - 1) + rkFrom g' (s : Int) xs := by
      simp only [rkFrom, Nat.add_sub_cancel, Int.toNat_natCast]
      rw [show (k : Int) + (s : Int) - (k : Int) = (s : Int) by omega, show (k : Int) + (s : Int) = ((k + s : Nat) : Int) by omega, lesser_part]
    rw [er, hb]
    obtain ⟨r, hr⟩ : ∃ r, r = rkFrom g' (s : Int) xs := ⟨_, rfl⟩
    rw [← hr] at i1 i2 i3 ⊢
    simp only [Int.toNat_natCast] at i1 i3
    have hp : part g' (k + s) k = many g' s := by unfold part; rw [show k + s - k = s by omega]
    have hsum := sumTo_pred (part g' (k + s)) (show 1 ≤ k by omega)
    have hn0 := sumTo_nonneg (part_nonneg g' (k + s)) (k - 1)
    have hmono := sumTo_mono (part_nonneg g' (k + s)) (show k ≤ min (k + s) 6 by omega)
    have hm := many_parts g' (k + s) (by omega)
    rw [hp] at hsum
    have hlt : sumTo (part g' (k + s)) (k - 1) + r < many (g' + 1) (k + s) := by omega
    have hG := nthG_only (g := g') (b := k + s) (r := sumTo (part g' (k + s)) (k - 1) + r) (k := k) (by omega) (by omega) hlt (by omega) (by omega) (by omega)
    refine ⟨?_, by omega, hlt⟩
    rw [nthL_succ (by omega) hG, show k + s - k = s by omega, show sumTo (part g' (k + s)) (k - 1) + r - sumTo (part g' (k + s)) (k - 1) = r by omega, i1]

/-- A code has a rank, and is the code with that rank. -/
theorem nth_of_rank {xs : List Int} (h : groupsB xs 1 5 = true) : nthOk (sumL xs) (rankOf xs) = true ∧ nthOf (sumL xs) (rankOf xs) = xs ∧ rankOf xs < codeMany (sumL xs) ∧ 0 ≤ rankOf xs := by
  obtain ⟨hok, h1, h5⟩ := groupsB_ok h
  obtain ⟨q1, q2, q3⟩ := nthL_rank 5 xs hok (by omega)
  rw [← rankOf_from h] at q1 q2 q3
  have hsb := sumL_bounds hok xs.length (Nat.le_refl _)
  rw [List.take_length] at hsb
  have hpos : 1 ≤ sumL xs := by
    cases xs with
    | nil => simp at h1
    | cons x xs =>
      obtain ⟨a1, _, a3⟩ := okGroups_parts hok
      have := sumL_nonneg a3
      rw [sumL_cons]
      omega
  have hcm := codeMany_is (n := sumL xs) hpos (by omega)
  have ho : nthOk (sumL xs) (rankOf xs) = true := nthOk_of q2 (by rw [hcm]; exact q3)
  refine ⟨ho, ?_, by rw [hcm]; exact q3, q2⟩
  unfold nthOf
  rw [if_pos ho, q1]

/-- The list with the next rank is greater where they first differ. -/
theorem nthL_next (g b : Nat) (r : Int) (h0 : 0 ≤ r) (h1 : r + 1 < many g b) :
    ∃ k, k < (nthL g b r).length ∧ k < (nthL g b (r + 1)).length ∧ (nthL g b r).take k = (nthL g b (r + 1)).take k ∧ (nthL g b r).getD k 0 < (nthL g b (r + 1)).getD k 0 := by
  induction g generalizing b r with
  | zero =>
    by_cases hb : b = 0
    · subst hb; simp [many] at h1; omega
    · simp [many, hb] at h1; omega
  | succ g ih =>
    by_cases hb : b = 0
    · subst hb; rw [many_zero] at h1; omega
    · obtain ⟨p1, p2, p3, p4⟩ := nthG_is g b r (by omega) h0 (by omega)
      obtain ⟨q1, q2, q3, q4⟩ := nthG_is g b (r + 1) (by omega) (by omega) h1
      by_cases he : nthG g b r = nthG g b (r + 1)
      · obtain ⟨K, hK⟩ : ∃ K, K = nthG g b r := ⟨_, rfl⟩
        rw [nthL_succ (by omega) hK.symm, nthL_succ (r := r + 1) (by omega) (he.symm.trans hK.symm)]
        rw [← he, ← hK] at q3 q4
        rw [← hK] at p1 p2 p3 p4
        have hsum := sumTo_pred (part g b) p1
        have hp : part g b K = many g (b - K) := rfl
        obtain ⟨k, a1, a2, a3, a4⟩ := ih (b - K) (r - sumTo (part g b) (K - 1)) (by omega) (by omega)
        rw [show r - sumTo (part g b) (K - 1) + 1 = r + 1 - sumTo (part g b) (K - 1) by omega] at a2 a3 a4
        exact ⟨k + 1, by simpa using a1, by simpa using a2, by simpa using a3, by simpa using a4⟩
      · rw [nthL_succ (r := r) (by omega) rfl, nthL_succ (r := r + 1) (by omega) rfl]
        refine ⟨0, by simp, by simp, by simp, ?_⟩
        have hlt : nthG g b r < nthG g b (r + 1) := by
          apply Classical.byContradiction
          intro hn
          have := sumTo_mono (part_nonneg g b) (show nthG g b (r + 1) ≤ nthG g b r - 1 by omega)
          omega
        simp
        omega

theorem nthOf_next {n r : Int} (h : nthOk n r = true) (h' : nthOk n (r + 1) = true) :
    ∃ k, k < (nthOf n r).length ∧ k < (nthOf n (r + 1)).length ∧ (nthOf n r).take k = (nthOf n (r + 1)).take k ∧ (nthOf n r).getD k 0 < (nthOf n (r + 1)).getD k 0 := by
  obtain ⟨h0, hn1, hn30, hr⟩ := nthOk_is h
  obtain ⟨_, _, _, hr'⟩ := nthOk_is h'
  unfold nthOf
  rw [if_pos h, if_pos h']
  exact nthL_next 5 n.toNat r h0 hr'

/-- Behind the last rank there is none. -/
theorem nthOk_last {n r : Int} (h : nthOk n r = true) (h' : nthOk n (r + 1) = false) : r = codeMany n - 1 := by
  simp only [nthOk, Bool.and_eq_true, decide_eq_true_eq] at h
  simp only [nthOk, Bool.and_eq_false_iff, decide_eq_false_iff_not] at h'
  omega

end Go.Proofs.Ytmpelpmlmmfalaa
