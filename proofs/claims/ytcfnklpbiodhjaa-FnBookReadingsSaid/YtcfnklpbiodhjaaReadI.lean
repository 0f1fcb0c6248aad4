/-
  How many readings a ring has, by the program: for a book of at most 1048576 lists, each of at most as many integers, and a ring of at most as many.
-/
import Derived.Test.YtcfnklpbiodhjaaOutlooks
namespace Go.Proofs.Ytcfnklpbiodhjaa
open Go.RowKit Go.Maps Go.ChangeMaps

theorem ringB_parts {rs : List Int} (h : groupsB rs 0 20 = true) : okGroups rs = true ∧ rs.length ≤ 20 := by
  simp only [groupsB, Bool.and_eq_true, decide_eq_true_eq] at h
  exact ⟨(groupsB_ok (by simp only [groupsB, Bool.and_eq_true, decide_eq_true_eq]; exact h)).1, by omega⟩

/-- The string of a ring, empty where the list is none. -/
def ringStr (xs : List Int) : ByteArray := if groupsB xs 0 20 then dgS xs else ⟨#[]⟩

set_option maxHeartbeats 400000 in
theorem implRingOf {w : World} {v : Value} {xs : List Int} (h : Ints w v xs) :
    Calls Try.prog 24 #[v] w fun e w' => e = .returned (.tuple #[.string (ringStr xs), .bool (groupsB xs 0 20)]) ∧ Below w.heap.size w w' := by
  cases hg : groupsB xs 0 20
  · have e1 : ringStr xs = ⟨#[]⟩ := by unfold ringStr; rw [hg]; rfl
    have hno : okGroups xs = false ∨ (20 : Int) < (xs.length : Int) := by
      cases ho : okGroups xs
      · exact .inl rfl
      · refine .inr ?_
        simp only [groupsB, ho, Bool.and_eq_false_iff, decide_eq_false_iff_not] at hg
        simp at hg
        omega
    rw [e1]
    clear e1 hg
    go_enter Try.func24, Try.ntmps24
    go_wp2_with (go_at_call 39; refine (groupsOf_no h hno).mono ?_)
    rintro e w1 ⟨rfl, b1⟩
    go_wp2_with fail
    go_ret2
    exact ⟨rfl, b1⟩
  · obtain ⟨ho, hl⟩ := ringB_parts hg
    have e1 : ringStr xs = dgS xs := by unfold ringStr; rw [hg]; rfl
    rw [e1]
    clear e1 hg
    have hl' : (xs.length : Int) ≤ 20 := by omega
    have HG := Lib.hid (groupsOf_yes h ho hl')
    clear ho
    go_enter Try.func24, Try.ntmps24
    go_wp2_with (go_at_call 39; refine HG.out.mono ?_)
    rintro e w1 ⟨rfl, b1⟩
    go_wp2_with fail
    go_ret2
    exact ⟨rfl, b1⟩

theorem field0 (a b c : Value) (w : World) : (Instr.field 49 (.agg #[a, b, c]) 0).run Try.prog w = .ok a w := by
  first | rfl | kernel_rfl
theorem field2 (a b c : Value) (w : World) : (Instr.field 49 (.agg #[a, b, c]) 2).run Try.prog w = .ok c w := by
  first | rfl | kernel_rfl
theorem Knows.lookup3 {w : World} {b n : Nat} {f : ByteArray → Tri} (h : Knows w b n f) {s : ByteArray} (hs : s.size ≤ maxLen) {x : Tri} (hx : f s = x) :
    (Instr.lookup 50 (.map (some b)) (.string s) false).run Try.prog w = .ok (.agg #[.int .i64 x.1, .int .i64 x.2.1, .int .i64 x.2.2]) w := by
  subst hx
  exact h.lookup hs

set_option maxHeartbeats 1000000 in
theorem implReadings {w : World} {u v : Value} {bk : List (List Int)} {rs : List Int} (h : Lists w u bk) (hx : Ints w v rs) :
    Calls Try.prog 7 #[u, v] w fun e w' => e = .returned (.int .i64 (readingsOf bk rs)) ∧ Below w.heap.size w w' := by
  have HX := Lib.hid hx
  cases hv : bookB bk
  · have e1 : readingsOf bk rs = -1 := by unfold readingsOf; rw [hv]; rfl
    rw [e1]
    have HV := Lib.hid hv
    clear e1 hv hx
    go_enter Try.func7, Try.ntmps7
    go_wp2_with (go_at_call 23; refine (bookOf h).mono ?_)
    rintro e w1 ⟨q, rfl, b1, _⟩
    rw [HV.out]
    go_wp2_with fail
    go_ret
    exact ⟨rfl, b1⟩
  · have HV := Lib.hid hv
    cases hg : groupsB rs 0 20
    · have e1 : readingsOf bk rs = -1 := by unfold readingsOf; rw [hv, hg]; rfl
      rw [e1]
      have HG := Lib.hid hg
      clear e1 hv hx hg
      go_enter Try.func7, Try.ntmps7
      go_wp2_with (go_at_call 23; refine (bookOf h).mono ?_)
      rintro e w1 ⟨q, rfl, b1, _⟩
      rw [HV.out]
      go_wp2_with (go_at_call 24; refine (implRingOf (HX.out.below b1)).mono ?_)
      rintro e w2 ⟨rfl, b2⟩
      rw [HG.out]
      go_wp2_with fail
      go_ret
      exact ⟨rfl, b1.trans (b2.mono b1.size)⟩
    · have e1 : readingsOf bk rs = (tab bk rs rs.length 0).1 := by unfold readingsOf; rw [hv, hg]; rfl
      have e2 : ringStr rs = dgS rs := by unfold ringStr; rw [hg]; rfl
      rw [e1]
      have HG := Lib.hid hg
      have HE := Lib.hid e2
      clear e1 e2 hv hx hg
      go_enter Try.func7, Try.ntmps7
      go_wp2_with (go_at_call 23; refine (bookOf h).mono ?_)
      rintro e w1 ⟨q, rfl, b1, hst⟩
      have HST := Lib.hid (hst HV.out)
      clear hst
      rw [HV.out]
      go_wp2_with (go_at_call 24; refine (implRingOf (HX.out.below b1)).mono ?_)
      rintro e w2 ⟨rfl, b2⟩
      rw [HG.out, HE.out]
      have c2 := b1.trans (b2.mono b1.size)
      go_wp2_with (go_at_call 25; refine (implOutlooks (HST.out.below b2) HV.out (ringB_parts HG.out).1 (ringB_parts HG.out).2).mono ?_)
      rintro e w3 ⟨b, n, f, rfl, hk, hf, b3⟩
      have hlook := hk.lookup3 (s := dgS rs) (by rw [dgS_size]; have := (ringB_parts HG.out).2; simp only [maxLen]; omega) (x := tab bk rs rs.length 0) (by have := hf 0 (Nat.le_refl _) (Nat.zero_le _); simpa using this)
      have c3 := c2.trans (b3.mono c2.size)
      clear hk hf
      go_wp2_with fail
      rw [field0]
      go_wp2_with fail
      go_ret
      exact ⟨rfl, c3⟩

end Go.Proofs.Ytcfnklpbiodhjaa
