/-
  What the two functions that count lists of groups return, the model's and the program's: 'many', for 0 to 30 beats and 0 to 5 groups.
-/
import Derived.Test.YtmpelpmlmmfalaaPure
import Derived.Test.YtmpelpmlmmfalaaKit
import Derived.WalkKit
import Derived.WalkSpells
import Derived.WalkLawsBesides
import Derived.Lib.Hide
namespace Go.Proofs.Ytmpelpmlmmfalaa
open Go.RowKit



set_option maxHeartbeats 400000 in
theorem spec_many (g : Nat) : ∀ (n m : Int) (w : World), m = g → g ≤ 5 → 0 ≤ n → n ≤ 30 →
    Calls Try.prog 46 #[.int .i64 n, .int .i64 m] w fun e w' => e = .returned (.int .i64 (many g n.toNat)) ∧ w = w' := by
  induction g with
  | zero =>
    rintro n m w rfl - hn0 hn
    obtain ⟨b, rfl⟩ := Int.eq_ofNat_of_zero_le hn0
    by_cases hb : b = 0
    · subst hb
      go_enter Try.func46, Try.ntmps46
      go_wp2_with fail
      go_ret
      exact ⟨rfl, rfl⟩
    · have hb0 : ((b : Int) == 0) = false := by simp; omega
      have hb1 : (1 : Int) ≤ (b : Int) := by omega
      go_enter Try.func46, Try.ntmps46
      go_wp2_with fail
      refine wp_loop_rounds 1 ?_
      rw [rounds_succ]
      go_wp2_with fail
      go_ret
      exact ⟨ret_int (by simp [many]; omega), rfl⟩
  | succ g ih =>
    intro n m w hme hg hn0 hn
    have l1 : m ≤ (g : Int) + 1 := by omega
    have l2 : (g : Int) + 1 ≤ m := by omega
    clear hme
    obtain ⟨b, rfl⟩ := Int.eq_ofNat_of_zero_le hn0
    by_cases hb : b = 0
    · subst hb
      go_enter Try.func46, Try.ntmps46
      go_wp2_with fail
      go_ret
      exact ⟨ret_int (by simp [many]), rfl⟩
    · have hb0 : ((b : Int) == 0) = false := by simp; omega
      have hb1 : (1 : Int) ≤ (b : Int) := by omega
      go_enter Try.func46, Try.ntmps46
      go_wp2_with fail
      go_loop [5, 6] (fun s k => ∃ j : Nat, j ≤ min b 6 ∧ k = .int .i64 ((j : Int) + 1) ∧ s = .int .i64 (sumTo (fun k => many g (b - k)) j)) (fun _ k => (7 - intOf k).toNat)
      case atStart => exact ⟨0, by omega, rfl, rfl⟩
      case round =>
        obtain ⟨j, hj, rfl, rfl⟩ := hrel
        have hp := part_bounds g b j (by omega) (by omega)
        have hm := many_bounds g (b - (j + 1)) (by omega)
        by_cases h6 : j < 6
        · by_cases hlt : j < b
          · go_wp2_with (go_at_call 46; refine (ih _ _ _ (by omega) (by omega) (by omega) (by omega)).mono ?_; rintro e w' ⟨rfl, rfl⟩)
            go_round
            case rel => exact ⟨j + 1, by omega, by go_num, by first | rfl | (rw [show ((b : Int) - ((j : Int) + 1)).toNat = b - (j + 1) by omega]; rfl)⟩
            case measure => simp [intOf]; omega
          · go_wp2_with fail
            go_ret
            exact ⟨ret_int (by rw [many_succ _ _ (by omega), show min b 6 = j by omega]), rfl⟩
        · go_wp2_with fail
          go_ret
          exact ⟨ret_int (by rw [many_succ _ _ (by omega), show min b 6 = j by omega]), rfl⟩

set_option maxHeartbeats 400000 in
theorem impl_many (g : Nat) : ∀ (n m : Int) (w : World), m = g → g ≤ 5 → 0 ≤ n → n ≤ 30 →
    Calls Try.prog 44 #[.int .i64 n, .int .i64 m] w fun e w' => e = .returned (.int .i64 (many g n.toNat)) ∧ w = w' := by
  induction g with
  | zero =>
    rintro n m w rfl - hn0 hn
    obtain ⟨b, rfl⟩ := Int.eq_ofNat_of_zero_le hn0
    by_cases hb : b = 0
    · subst hb
      go_enter Try.func44, Try.ntmps44
      go_wp2_with fail
      go_ret
      exact ⟨rfl, rfl⟩
    · have hb0 : ((b : Int) == 0) = false := by simp; omega
      have hb1 : (1 : Int) ≤ (b : Int) := by omega
      go_enter Try.func44, Try.ntmps44
      go_wp2_with fail
      go_ret
      exact ⟨ret_int (by simp [many]; omega), rfl⟩
  | succ g ih =>
    intro n m w hme hg hn0 hn
    have l1 : m ≤ (g : Int) + 1 := by omega
    have l2 : (g : Int) + 1 ≤ m := by omega
    clear hme
    obtain ⟨b, rfl⟩ := Int.eq_ofNat_of_zero_le hn0
    by_cases hb : b = 0
    · subst hb
      go_enter Try.func44, Try.ntmps44
      go_wp2_with fail
      go_ret
      exact ⟨ret_int (by simp [many]), rfl⟩
    · have hb0 : ((b : Int) == 0) = false := by simp; omega
      have hb1 : (1 : Int) ≤ (b : Int) := by omega
      by_cases hbig : m * 6 < (b : Int)
      · go_enter Try.func44, Try.ntmps44
        go_wp2_with fail
        go_ret
        exact ⟨ret_int (by rw [many_big]; omega), rfl⟩
      · go_enter Try.func44, Try.ntmps44
        go_wp2_with fail
        go_loop [5, 6] (fun s k => ∃ j : Nat, j ≤ min b 6 ∧ k = .int .i64 ((j : Int) + 1) ∧ s = .int .i64 (sumTo (fun k => many g (b - k)) j)) (fun _ k => (7 - intOf k).toNat)
        case atStart => exact ⟨0, by omega, rfl, rfl⟩
        case round =>
          obtain ⟨j, hj, rfl, rfl⟩ := hrel
          have hp := part_bounds g b j (by omega) (by omega)
          have hm := many_bounds g (b - (j + 1)) (by omega)
          by_cases h6 : j < 6 ∧ j < b
          · obtain ⟨h6, hlt⟩ := h6
            go_wp2_with (go_at_call 44; refine (ih _ _ _ (by omega) (by omega) (by omega) (by omega)).mono ?_; rintro e w' ⟨rfl, rfl⟩)
            go_round
            case rel => exact ⟨j + 1, by omega, by go_num, by first | rfl | (rw [show ((b : Int) - ((j : Int) + 1)).toNat = b - (j + 1) by omega]; rfl)⟩
            case measure => simp [intOf]; omega
          · go_wp2_with fail
            all_goals
              go_ret
              exact ⟨ret_int (by rw [many_succ _ _ (by omega), show min b 6 = j by omega]), rfl⟩

end Go.Proofs.Ytmpelpmlmmfalaa
