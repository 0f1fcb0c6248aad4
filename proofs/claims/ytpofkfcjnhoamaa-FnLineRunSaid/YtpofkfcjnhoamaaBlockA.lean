/-
  Is a block possible, and the block behind an event: the model's and the program's. No condition.
-/
import Derived.Test.YtpofkfcjnhoamaaBlockP
import Derived.Test.YtpofkfcjnhoamaaIn
import Derived.Lib.Hide
namespace Go.Proofs.Ytpofkfcjnhoamaa
open Go.RowKit

theorem below_alloc (w : World) (o : Obj) : Below w.heap.size w (w.alloc o) := (Below.refl _ _).alloc (Nat.le_refl _) _
theorem below_self (w : World) : Below w.heap.size w w := Below.refl _ _

set_option maxHeartbeats 1000000 in
theorem specPossible (b : Blk) (w : World) :
    Calls Try.prog 42 #[bkV b] w fun e w' => e = .returned (.bool (bkPos b)) ∧ Below w.heap.size w w' := by
  obtain ⟨n, i, o⟩ := b
  unfold bkV
  by_cases h : 0 ≤ n ∧ n ≤ 2
  · obtain ⟨h0, h2⟩ := h
    have hn : n = 0 ∨ n = 1 ∨ n = 2 := by omega
    rcases hn with rfl | rfl | rfl <;> cases i <;> cases o
    all_goals
      go_enter Try.func42, Try.ntmps42
      go_wp2_with (go_at_call 41; refine (in_yes _ _ _ _ (by decide) (by decide)).mono ?_; rintro e w' ⟨rfl, rfl⟩)
      go_ret
      exact ⟨rfl, below_alloc _ _⟩
  · have hno : n < 0 ∨ 2 < n := by omega
    have e : bkPos (n, i, o) = false := decide_eq_false fun q => h q.1
    have E := Lib.hid e
    clear e h
    go_enter Try.func42, Try.ntmps42
    go_wp2_with (go_at_call 41; refine (in_no _ _ _ _ hno).mono ?_; rintro e w' ⟨rfl, rfl⟩)
    go_ret
    exact ⟨ret_bool E.out.symm, below_alloc _ _⟩

/-- A byte is a letter of an event, or none of them. -/
theorem letter_or (c : Int) : (c = 111 ∨ c = 114 ∨ c = 97 ∨ c = 99 ∨ c = 101 ∨ c = 108 ∨ c = 102) ∨ (c ≠ 111 ∧ c ≠ 114 ∧ c ≠ 97 ∧ c ≠ 99 ∧ c ≠ 101 ∧ c ≠ 108 ∧ c ≠ 102) := by omega
theorem bkStep_other {b : Blk} {c : Int} (h : c ≠ 111 ∧ c ≠ 114 ∧ c ≠ 97 ∧ c ≠ 99 ∧ c ≠ 101 ∧ c ≠ 108 ∧ c ≠ 102) : bkStep b c = none := by
  obtain ⟨h1, h2, h3, h4, h5, h6, h7⟩ := h
  simp [bkStep, *]

set_option maxHeartbeats 2000000 in
theorem l3Step (b : Blk) (c : Int) (hb : bkPos b = true) (w : World) :
    Calls Try.prog 93 #[bkV b, .int .u8 c] w fun e w' => e = .returned (bkR (bkStep b c)) ∧ Below w.heap.size w w' := by
  rcases letter_or c with hc | hc
  · rcases hc with rfl | rfl | rfl | rfl | rfl | rfl | rfl <;> rcases bkPos_five hb with rfl | rfl | rfl | rfl | rfl
    all_goals
      clear hb
      unfold bkV
      go_enter Try.func93, Try.ntmps93
      go_wp2_with fail
      exact bodyPost_ret (v := bkR (bkStep _ _)) (by simp [results, Try.results93, go_sem, bkR, bkV, bkStep, nb]) rfl ⟨rfl, ((below_self w).alloc (Nat.le_refl _) _).alloc (by simp) _⟩
  · have E := Lib.hid (bkStep_other (b := b) hc)
    obtain ⟨h1, h2, h3, h4, h5, h6, h7⟩ := hc
    rw [E.out]
    clear E
    rcases bkPos_five hb with rfl | rfl | rfl | rfl | rfl
    all_goals
      clear hb
      unfold bkV
      go_enter Try.func93, Try.ntmps93
      go_wp2_with fail
      exact bodyPost_ret (v := bkR none) (by simp [results, Try.results93, go_sem, bkR, bkV, nb]) rfl ⟨rfl, ((below_self w).alloc (Nat.le_refl _) _).alloc (by simp) _⟩

end Go.Proofs.Ytpofkfcjnhoamaa
