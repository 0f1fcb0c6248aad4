/-
  What the model's looks at lists of groups return: for lists of at most 1048576 integers.
-/
import Derived.Test.YtoebgdcgcdigaaaSumP
import Derived.Test.YtoebgdcgcdigaaaInts
namespace Go.Proofs.Ytoebgdcgcdigaaa
open Go.RowKit

set_option maxHeartbeats 400000 in
theorem l1Groups {w : World} {v : Value} {xs : List Int} {lo hi : Int} (h : Ints w v xs) :
    Calls Try.prog 92 #[v, .int .i64 lo, .int .i64 hi] w fun e w' => e = .returned (.bool (groupsB xs lo hi)) ∧ w = w' := by
  obtain ⟨a, cap, rfl, hl, hc⟩ := h
  have hl' : (xs.length : Int) ≤ 1048576 := by omega
  -- behind the loop: the number of groups
  have HE : ∀ W : World, okGroups xs = true → Calls Try.prog 72 #[.int .i64 xs.length, .int .i64 lo, .int .i64 hi] W fun e w' => e = .returned (.bool (groupsB xs lo hi)) ∧ W = w' := by
    intro W hok
    by_cases hin : lo ≤ (xs.length : Int) ∧ (xs.length : Int) ≤ hi
    · have e : groupsB xs lo hi = true := by simp [groupsB, hok, hin.1, hin.2]
      rw [e]
      exact in_yes _ _ _ _ hin.1 hin.2
    · have e : groupsB xs lo hi = false := by simp [groupsB, hok]; omega
      rw [e]
      exact in_no _ _ _ _ (by omega)
  have HE' := Lib.hid HE
  clear HE
  rcases hc with rfl | ⟨b, o, rfl, hb, hcell⟩
  · go_enter Try.func92, Try.ntmps92
    go_wp2_with fail
    refine wp_loop_rounds 1 ?_
    rw [rounds_succ]
    go_wp2_with (go_at_call 72; refine (HE'.out _ (by simp [okGroups])).mono ?_; rintro e w' ⟨rfl, rfl⟩)
    go_ret
    exact ⟨rfl, rfl⟩
  · have HC := Lib.hid hcell
    clear hcell
    go_enter Try.func92, Try.ntmps92
    go_wp2_with fail
    go_loop [7] (fun i => ∃ k : Nat, k ≤ xs.length ∧ i = .int .i64 k ∧ OkTo xs k) (fun i => xs.length - (intOf i).toNat)
    case atStart => exact ⟨0, by omega, rfl, OkTo.zero _⟩
    case round =>
      obtain ⟨k, hk, rfl, hok⟩ := hrel
      by_cases hlt : k < xs.length
      · obtain ⟨x, hx⟩ : ∃ x, x = xs.getD k 0 := ⟨_, rfl⟩
        have hc1 : w.cell? ⟨b, o + k, none⟩ = some (.int .i64 x) := by rw [hx]; exact HC.out k hlt
        have HX := Lib.hid hx
        clear hx
        by_cases hin : 1 ≤ x ∧ x ≤ 6
        · obtain ⟨h1, h6⟩ := hin
          go_wp2_with (go_at_call 72; refine (in_yes _ _ _ _ h1 h6).mono ?_; rintro e w' ⟨rfl, rfl⟩)
          go_round
          case rel => exact ⟨k + 1, by omega, by go_num, hok.succ hlt (by rw [← HX.out]; exact h1) (by rw [← HX.out]; exact h6)⟩
          case measure => simp [intOf]; omega
        · have hno : x < 1 ∨ 6 < x := by omega
          have e1 : groupsB xs lo hi = false := by simp [groupsB, okGroups_no hlt (by rw [← HX.out]; exact hno)]
          clear hin
          have HN := Lib.hid hno
          have H1 := Lib.hid e1
          clear hno e1
          go_wp2_with (go_at_call 72; refine (in_no _ _ _ _ HN.out).mono ?_; rintro e w' ⟨rfl, rfl⟩)
          go_ret
          exact ⟨ret_bool H1.out.symm, rfl⟩
      · obtain rfl : k = xs.length := by omega
        have HO := Lib.hid hok.all
        go_wp2_with (go_at_call 72; refine (HE'.out _ HO.out).mono ?_; rintro e w' ⟨rfl, rfl⟩)
        go_ret
        exact ⟨rfl, rfl⟩

set_option maxHeartbeats 400000 in
theorem specCodeValid {w : World} {v : Value} {xs : List Int} (h : Ints w v xs) :
    Calls Try.prog 58 #[v] w fun e w' => e = .returned (.bool (groupsB xs 1 5)) ∧ w = w' := by
  go_enter Try.func58, Try.ntmps58
  go_wp2_with (go_at_call 92; refine (l1Groups h).mono ?_; rintro e w' ⟨rfl, rfl⟩)
  go_ret
  exact ⟨rfl, rfl⟩

end Go.Proofs.Ytoebgdcgcdigaaa
