/-
  Does one code begin another, by the model and by the program: for lists of at most 1048576 integers.
-/
import Derived.Test.YtcfnklpbiodhjaaSpecB
import Derived.Test.YtcfnklpbiodhjaaSame
namespace Go.Proofs.Ytcfnklpbiodhjaa
open Go.RowKit

/-- Two codes, of which the first one begins the second one. -/
def beginsB (xs ys : List Int) : Bool := groupsB xs 1 5 && (groupsB ys 1 5 && (decide (xs.length < ys.length) && decide (xs = ys.take xs.length)))

set_option maxHeartbeats 400000 in
theorem gAhead {w : World} {S T : ByteArray} {xs ys : List Int} (h : IsDg S xs) (h' : IsDg T ys) :
    Calls Try.prog 45 #[.string S, .string T] w fun e w' => e = .returned (.bool (decide (xs = ys.take xs.length))) ∧ w = w' := by
  have HE := Lib.hid (show Lib.hasPrefix T.data.toList S.data.toList = decide (xs = ys.take xs.length) by
    obtain ⟨rfl, hx, _⟩ := h
    obtain ⟨rfl, hy, _⟩ := h'
    exact prefix_dg xs ys hx hy)
  go_enter Try.func45, Try.ntmps45
  go_wp2_with (go_at_call 51; refine (Try.strings_HasPrefix _ _ _).mono ?_)
  rintro e w1 ⟨rfl, rfl⟩
  go_wp2_with fail
  go_ret
  exact ⟨ret_bool HE.out, rfl⟩

set_option maxHeartbeats 400000 in
theorem gBegins {w : World} {S T : ByteArray} {xs ys : List Int} (h : IsDg S xs) (h' : IsDg T ys) :
    Calls Try.prog 30 #[.string S, .string T] w fun e w' => e = .returned (.bool (decide (xs.length < ys.length) && decide (xs = ys.take xs.length))) ∧ w = w' := by
  have H := Lib.hid h
  have H' := Lib.hid h'
  have hs := h.size
  have hs' := h'.size
  have hm := h.2.2
  have hm' := h'.2.2
  clear h h'
  by_cases hlt : xs.length < ys.length
  · have e0 : decide (xs.length < ys.length) = true := by simpa using hlt
    have HE := Lib.hid (show decide (xs = ys.take xs.length) = (decide (xs.length < ys.length) && decide (xs = ys.take xs.length)) by rw [e0, Bool.true_and])
    have hl : (S.size : Int) < (T.size : Int) := by omega
    have hl1 : (T.size : Int) ≤ 1048576 := by omega
    clear hs hs' e0 hlt hm hm'
    go_enter Try.func30, Try.ntmps30
    go_wp2_with (go_at_call 45; refine (gAhead H.out H'.out).mono ?_)
    rintro e w1 ⟨rfl, rfl⟩
    go_wp2_with fail
    go_ret
    exact ⟨ret_bool HE.out, rfl⟩
  · have e0 : decide (xs.length < ys.length) = false := by simpa using hlt
    have HE := Lib.hid (show false = (decide (xs.length < ys.length) && decide (xs = ys.take xs.length)) by rw [e0, Bool.false_and])
    have hl : decide (S.size < T.size) = false := by simp; omega
    clear hs hs' e0 hlt hm hm'
    go_enter Try.func30, Try.ntmps30
    go_wp2_with fail
    go_ret
    exact ⟨ret_bool HE.out, rfl⟩

end Go.Proofs.Ytcfnklpbiodhjaa
