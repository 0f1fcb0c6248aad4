/-
  Does one code begin another, by the model and by the program: for lists of at most 1048576 integers.
-/
import Derived.Test.YtoebgdcgcdigaaaSpecB
import Derived.Test.YtoebgdcgcdigaaaSame
namespace Go.Proofs.Ytoebgdcgcdigaaa
open Go.RowKit

/-- Two codes, of which the first one begins the second one. -/
def beginsB (xs ys : List Int) : Bool := groupsB xs 1 5 && (groupsB ys 1 5 && (decide (xs.length < ys.length) && decide (xs = ys.take xs.length)))

set_option maxHeartbeats 400000 in
theorem specBegins {w : World} {u v : Value} {xs ys : List Int} (h : Ints w u xs) (h' : Ints w v ys) :
    Calls Try.prog 15 #[u, v] w fun e w' => e = .returned (.bool (beginsB xs ys)) ∧ Below w.heap.size w w' := by
  have k1 := h
  have k2 := h'
  obtain ⟨a, cap, rfl, hl, -⟩ := k1
  obtain ⟨a', cap', rfl, hl', -⟩ := k2
  cases hv : groupsB xs 1 5
  · have HE := Lib.hid (show beginsB xs ys = false by simp [beginsB, hv])
    go_enter Try.func15, Try.ntmps15
    go_wp2_with (go_at_call 58; refine (specCodeValid h).mono ?_; rintro e w' ⟨rfl, rfl⟩)
    go_ret
    exact ⟨ret_bool HE.out.symm, Below.refl _ _⟩
  · cases hv' : groupsB ys 1 5
    · have HE := Lib.hid (show beginsB xs ys = false by simp [beginsB, hv'])
      go_enter Try.func15, Try.ntmps15
      go_wp2_with (first | (go_at_call_of 58 (a'); refine (specCodeValid h').mono ?_; rintro e w' ⟨rfl, rfl⟩) | (go_at_call 58; refine (specCodeValid h).mono ?_; rintro e w' ⟨rfl, rfl⟩))
      go_ret
      exact ⟨ret_bool HE.out.symm, Below.refl _ _⟩
    · by_cases hlt : (xs.length : Int) < (ys.length : Int)
      · have HE := Lib.hid (show decide (xs = ys.take xs.length) = beginsB xs ys by simp [beginsB, hv, hv']; intro; omega)
        have ht := h'.take (k := xs.length) (by omega)
        go_enter Try.func15, Try.ntmps15
        go_wp2_with (go_at_call 58; refine (specCodeValid h).mono ?_)
        rintro e w1 ⟨rfl, rfl⟩
        go_wp2_with (go_at_call 58; refine (specCodeValid h').mono ?_)
        rintro e w1 ⟨rfl, rfl⟩
        go_wp2_with (go_at_call 59; refine (l1Same h ht).mono ?_)
        rintro e w2 ⟨rfl, b2⟩
        go_wp2_with fail
        go_ret
        exact ⟨ret_bool HE.out, b2⟩
      · have HE := Lib.hid (show beginsB xs ys = false by simp [beginsB]; intros; omega)
        have hlt' : decide (xs.length < ys.length) = false := by simp; omega
        clear hlt
        go_enter Try.func15, Try.ntmps15
        go_wp2_with (go_at_call 58; refine (specCodeValid h).mono ?_)
        rintro e w1 ⟨rfl, rfl⟩
        go_wp2_with (go_at_call 58; refine (specCodeValid h').mono ?_)
        rintro e w1 ⟨rfl, rfl⟩
        go_wp2_with fail
        go_ret
        exact ⟨ret_bool HE.out.symm, Below.refl _ _⟩

set_option maxHeartbeats 400000 in
theorem gAhead {w : World} {S T : ByteArray} {xs ys : List Int} (h : IsDg S xs) (h' : IsDg T ys) :
    Calls Try.prog 91 #[.string S, .string T] w fun e w' => e = .returned (.bool (decide (xs = ys.take xs.length))) ∧ w = w' := by
  have HE := Lib.hid (show Lib.hasPrefix T.data.toList S.data.toList = decide (xs = ys.take xs.length) by
    obtain ⟨rfl, hx, _⟩ := h
    obtain ⟨rfl, hy, _⟩ := h'
    exact prefix_dg xs ys hx hy)
  go_enter Try.func91, Try.ntmps91
  go_wp2_with (go_at_call 106; refine (Try.strings_HasPrefix _ _ _).mono ?_)
  rintro e w1 ⟨rfl, rfl⟩
  go_wp2_with fail
  go_ret
  exact ⟨ret_bool HE.out, rfl⟩

set_option maxHeartbeats 400000 in
theorem gBegins {w : World} {S T : ByteArray} {xs ys : List Int} (h : IsDg S xs) (h' : IsDg T ys) :
    Calls Try.prog 57 #[.string S, .string T] w fun e w' => e = .returned (.bool (decide (xs.length < ys.length) && decide (xs = ys.take xs.length))) ∧ w = w' := by
  have H := Lib.hid h
  have H' := Lib.hid h'
  have hs := h.size
  have hs' := h'.size
  have hm := h.2.2
  have hm' := h'.2.2
  clear h h'
  by_cases hlt : xs.length < ys.length
  · have e0 : decide (xs.length < ys.length) = true := by simpa using hlt
    have HE := Lib.hid (show decide (xs = ys.take xs.length) = (decide (xs.length < ys.length) && decide (xs = ys.take xs.length)) by rw [e0, Bool.true_and])
    have hl : (S.size : Int) < (T.size : Int) := by omega
    have hl1 : (T.size : Int) ≤ 1048576 := by omega
    clear hs hs' e0 hlt hm hm'
    go_enter Try.func57, Try.ntmps57
    go_wp2_with (go_at_call 91; refine (gAhead H.out H'.out).mono ?_)
    rintro e w1 ⟨rfl, rfl⟩
    go_wp2_with fail
    go_ret
    exact ⟨ret_bool HE.out, rfl⟩
  · have e0 : decide (xs.length < ys.length) = false := by simpa using hlt
    have HE := Lib.hid (show false = (decide (xs.length < ys.length) && decide (xs = ys.take xs.length)) by rw [e0, Bool.false_and])
    have hl : decide (S.size < T.size) = false := by simp; omega
    clear hs hs' e0 hlt hm hm'
    go_enter Try.func57, Try.ntmps57
    go_wp2_with fail
    go_ret
    exact ⟨ret_bool HE.out, rfl⟩

set_option maxHeartbeats 400000 in
theorem implBegins {w : World} {u v : Value} {xs ys : List Int} (h : Ints w u xs) (h' : Ints w v ys) :
    Calls Try.prog 14 #[u, v] w fun e w' => e = .returned (.bool (beginsB xs ys)) ∧ Below w.heap.size w w' := by
  cases hv : groupsB xs 1 5
  · have HE := Lib.hid (show beginsB xs ys = false by simp [beginsB, hv])
    go_enter Try.func14, Try.ntmps14
    go_wp2_with (go_at_call 56; refine (codeOf h).mono ?_)
    rintro e w1 ⟨rfl, b1⟩
    go_wp2_with fail
    go_ret
    exact ⟨ret_bool HE.out.symm, b1⟩
  · have hS : IsDg (codeStr xs) xs := by unfold codeStr; rw [if_pos hv]; exact .of hv h.len
    have HS := Lib.hid hS
    clear hS
    cases hv' : groupsB ys 1 5
    · have HE := Lib.hid (show beginsB xs ys = false by simp [beginsB, hv'])
      go_enter Try.func14, Try.ntmps14
      go_wp2_with (go_at_call 56; refine (codeOf h).mono ?_)
      rintro e w1 ⟨rfl, b1⟩
      have k1 := h'.below b1
      go_wp2_with (go_at_call 56; refine (codeOf k1).mono ?_)
      rintro e w2 ⟨rfl, b2⟩
      go_wp2_with fail
      go_ret
      exact ⟨ret_bool HE.out.symm, chain b1 b2⟩
    · have HE := Lib.hid (show beginsB xs ys = (decide (xs.length < ys.length) && decide (xs = ys.take xs.length)) by simp [beginsB, hv, hv'])
      have hT : IsDg (codeStr ys) ys := by unfold codeStr; rw [if_pos hv']; exact .of hv' h'.len
      have HT := Lib.hid hT
      clear hT
      go_enter Try.func14, Try.ntmps14
      go_wp2_with (go_at_call 56; refine (codeOf h).mono ?_)
      rintro e w1 ⟨rfl, b1⟩
      have k1 := h'.below b1
      go_wp2_with (go_at_call 56; refine (codeOf k1).mono ?_)
      rintro e w2 ⟨rfl, b2⟩
      go_wp2_with (go_at_call 57; refine (gBegins HS.out HT.out).mono ?_)
      rintro e w3 ⟨rfl, rfl⟩
      go_wp2_with fail
      go_ret
      exact ⟨ret_bool HE.out.symm, chain b1 b2⟩

end Go.Proofs.Ytoebgdcgcdigaaa
