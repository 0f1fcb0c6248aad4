/-
  What CodeMany returns, the model's and the program's: 'codeMany', for every number. No condition.
-/
import Derived.Test.YtmpelpmlmmfalaaMany
import Derived.Test.YtmpelpmlmmfalaaSlices
namespace Go.Proofs.Ytmpelpmlmmfalaa
open Go.RowKit

set_option maxHeartbeats 400000 in
theorem in_yes (n lo hi : Int) (w : World) (h1 : lo ≤ n) (h2 : n ≤ hi) :
    Calls Try.prog 45 #[.int .i64 n, .int .i64 lo, .int .i64 hi] w fun e w' => e = .returned (.bool true) ∧ w = w' := by
  go_enter Try.func45, Try.ntmps45
  go_wp2_with fail
  go_ret
  exact ⟨rfl, rfl⟩

set_option maxHeartbeats 400000 in
theorem in_no (n lo hi : Int) (w : World) (h : n < lo ∨ hi < n) :
    Calls Try.prog 45 #[.int .i64 n, .int .i64 lo, .int .i64 hi] w fun e w' => e = .returned (.bool false) ∧ w = w' := by
  by_cases h1 : lo ≤ n
  · have h2 : decide (n ≤ hi) = false := by simp; omega
    clear h
    go_enter Try.func45, Try.ntmps45
    go_wp2_with fail
    go_ret
    exact ⟨rfl, rfl⟩
  · have h2 : decide (lo ≤ n) = false := by simpa using h1
    clear h h1
    go_enter Try.func45, Try.ntmps45
    go_wp2_with fail
    go_ret
    exact ⟨rfl, rfl⟩

set_option maxHeartbeats 400000 in
theorem spec_codeMany (n : Int) (w : World) :
    Calls Try.prog 16 #[.int .i64 n] w fun e w' => e = .returned (.int .i64 (codeMany n)) ∧ w = w' := by
  by_cases h : n < 0 ∨ 30 < n
  · have e : codeMany n = -1 := by unfold codeMany; rw [if_pos h]
    rw [e]
    go_enter Try.func16, Try.ntmps16
    go_wp2_with (go_at_call 45; refine (in_no _ _ _ _ (by omega)).mono ?_; rintro e w' ⟨rfl, rfl⟩)
    go_ret
    exact ⟨rfl, rfl⟩
  · have h0 : 0 ≤ n := by omega
    have h3 : n ≤ 30 := by omega
    by_cases hz : n = 0
    · subst hz
      go_enter Try.func16, Try.ntmps16
      go_wp2_with (go_at_call 45; refine (in_yes _ _ _ _ (by omega) (by omega)).mono ?_; rintro e w' ⟨rfl, rfl⟩)
      go_ret
      exact ⟨rfl, rfl⟩
    · have e : codeMany n = many 5 n.toNat := by unfold codeMany; rw [if_neg h, if_neg hz]
      have hz' : (n == 0) = false := by simpa using hz
      rw [e]
      clear h hz e
      go_enter Try.func16, Try.ntmps16
      go_wp2_with (first | (go_at_call 45; refine (in_yes _ _ _ _ (by omega) (by omega)).mono ?_; rintro e w' ⟨rfl, rfl⟩) | (go_at_call 46; refine (spec_many 5 _ _ _ rfl (by omega) h0 h3).mono ?_; rintro e w' ⟨rfl, rfl⟩))
      go_ret
      exact ⟨rfl, rfl⟩

set_option maxHeartbeats 400000 in
theorem impl_codeMany (n : Int) (w : World) :
    Calls Try.prog 15 #[.int .i64 n] w fun e w' => e = .returned (.int .i64 (codeMany n)) ∧ w = w' := by
  by_cases h : n < 0 ∨ 30 < n
  · have e : codeMany n = -1 := by unfold codeMany; rw [if_pos h]
    rw [e]
    clear e
    rcases h with h | h
    · go_enter Try.func15, Try.ntmps15
      go_wp2_with fail
      go_ret
      exact ⟨rfl, rfl⟩
    · have h' : 0 ≤ n := by omega
      go_enter Try.func15, Try.ntmps15
      go_wp2_with fail
      go_ret
      exact ⟨rfl, rfl⟩
  · have h0 : 0 ≤ n := by omega
    have h3 : n ≤ 30 := by omega
    by_cases hz : n = 0
    · subst hz
      go_enter Try.func15, Try.ntmps15
      go_wp2_with fail
      go_ret
      exact ⟨rfl, rfl⟩
    · have e : codeMany n = many 5 n.toNat := by unfold codeMany; rw [if_neg h, if_neg hz]
      have hz' : (n == 0) = false := by simpa using hz
      rw [e]
      clear h hz e
      go_enter Try.func15, Try.ntmps15
      go_wp2_with (go_at_call 44; refine (impl_many 5 _ _ _ rfl (by omega) h0 h3).mono ?_; rintro e w' ⟨rfl, rfl⟩)
      go_ret
      exact ⟨rfl, rfl⟩

end Go.Proofs.Ytmpelpmlmmfalaa
