/-
  The text of a cycle, by the program and by the model. No condition.
-/
import Derived.Test.YtedbfmmklmidjabShelf
import Derived.Test.YtedbfmmklmidjabLawC
import Derived.Test.YtedbfmmklmidjabIn
namespace Go.Proofs.Ytedbfmmklmidjab
open Go.RowKit Go.Sort

/-- The text that lets n trains pass. -/
def cyc (n : Nat) : ByteArray := ⟨(Lib.repeatL (⟨#[111, 97, 101, 108, 102]⟩ : ByteArray).data.toList n).toArray⟩
def cycB (n : Int) : Bool := decide (0 ≤ n ∧ n ≤ 6)
def cycS (n : Int) : ByteArray := if 0 ≤ n ∧ n ≤ 6 then cyc n.toNat else ⟨#[]⟩

set_option maxHeartbeats 1000000 in
theorem implCycle (n : Int) (w : World) :
    Calls Try.prog 34 #[.int .i64 n] w fun e w' => e = .returned (.tuple #[.string (cycS n), .bool (cycB n)]) ∧ Below w.heap.size w w' := by
  by_cases h : 0 ≤ n ∧ n ≤ 6
  · obtain ⟨h0, h6⟩ := h
    obtain ⟨m, rfl⟩ : ∃ m : Nat, n = m := ⟨n.toNat, by omega⟩
    have E := Lib.hid (show cycS (m : Int) = cyc m by unfold cycS; rw [if_pos ⟨h0, h6⟩]; rfl)
    have D := Lib.hid (show cycB (m : Int) = true from decide_eq_true ⟨h0, h6⟩)
    have h1 : ¬ (m : Int) < 0 := by omega
    have h2 : ¬ (6 : Int) < (m : Int) := by omega
    have RP := Lib.hid (Try.strings_Repeat ⟨#[111, 97, 101, 108, 102]⟩ m)
    go_enter Try.func34, Try.ntmps34
    go_wp2_with (go_at_call 60; refine (RP.out _ (by omega) (by show 5 * m ≤ _; omega)).mono ?_; rintro e w1 ⟨rfl, b1⟩)
    go_ret2
    exact ⟨by rw [E.out, D.out]; rfl, b1⟩
  · have E := Lib.hid (show cycS n = ⟨#[]⟩ by unfold cycS; rw [if_neg h])
    have D := Lib.hid (show cycB n = false from decide_eq_false h)
    by_cases h0 : n < 0
    · clear h
      go_enter Try.func34, Try.ntmps34
      go_wp2_with fail
      go_ret2
      exact ⟨by rw [E.out, D.out]; rfl, Below.refl _ _⟩
    · have h1 : 6 < n := by omega
      clear h
      go_enter Try.func34, Try.ntmps34
      go_wp2_with fail
      go_ret2
      exact ⟨by rw [E.out, D.out]; rfl, Below.refl _ _⟩

set_option maxHeartbeats 4000000 in
theorem manyCycle (m : Nat) (h : m ≤ 6) (w : World) :
    Calls Try.prog 61 #[.string ⟨#[111, 97, 101, 108, 102]⟩, .int .i64 m] w fun e w' => e = .returned (.string (cyc m)) ∧ w = w' := by
  have hm : m = 0 ∨ m = 1 ∨ m = 2 ∨ m = 3 ∨ m = 4 ∨ m = 5 ∨ m = 6 := by omega
  rcases hm with rfl | rfl | rfl | rfl | rfl | rfl | rfl
  all_goals
    go_enter Try.func61, Try.ntmps61
    go_wp2_with fail
    refine wp_loop_rounds 4 ?_
    repeat (rw [rounds_succ]; go_wp2_with fail)
    go_ret
    exact ⟨rfl, rfl⟩

set_option maxHeartbeats 1000000 in
theorem specCycle (n : Int) (w : World) :
    Calls Try.prog 40 #[.int .i64 n] w fun e w' => e = .returned (.tuple #[.string (cycS n), .bool (cycB n)]) ∧ w = w' := by
  by_cases h : 0 ≤ n ∧ n ≤ 6
  · obtain ⟨h0, h6⟩ := h
    obtain ⟨m, rfl⟩ : ∃ m : Nat, n = m := ⟨n.toNat, by omega⟩
    have E := Lib.hid (show cycS (m : Int) = cyc m by unfold cycS; rw [if_pos ⟨h0, h6⟩]; rfl)
    have D := Lib.hid (show cycB (m : Int) = true from decide_eq_true ⟨h0, h6⟩)
    have MC := Lib.hid (manyCycle m (by omega))
    go_enter Try.func40, Try.ntmps40
    go_wp2_with (first | (go_at_call 43; refine (in_yes _ _ _ _ h0 h6).mono ?_; rintro e w' ⟨rfl, rfl⟩) | (go_at_call 61; refine (MC.out _).mono ?_; rintro e w' ⟨rfl, rfl⟩))
    go_ret2
    exact ⟨by rw [E.out, D.out]; rfl, rfl⟩
  · have E := Lib.hid (show cycS n = ⟨#[]⟩ by unfold cycS; rw [if_neg h])
    have D := Lib.hid (show cycB n = false from decide_eq_false h)
    have hno : n < 0 ∨ 6 < n := by omega
    clear h
    go_enter Try.func40, Try.ntmps40
    go_wp2_with (go_at_call 43; refine (in_no _ _ _ _ hno).mono ?_; rintro e w' ⟨rfl, rfl⟩)
    go_ret2
    exact ⟨by rw [E.out, D.out]; rfl, rfl⟩

end Go.Proofs.Ytedbfmmklmidjab
