/-
  The line behind moves, plainly. No walk.
-/
import Derived.Test.YtpofkfcjnhoamaaLineP
namespace Go.Proofs.Ytpofkfcjnhoamaa

theorem lnDo_len {l l' : Ln} {m : Mv} (h : lnDo l m = some l') : l'.1.length = l.1.length ∧ l'.2.length = l.2.length := by
  unfold lnDo at h
  split at h
  · obtain ⟨b, _, h⟩ := Option.bind_eq_some_iff.1 h
    obtain ⟨ts, ht, rfl⟩ := Option.map_eq_some_iff.1 h
    refine ⟨by simp, ?_⟩
    unfold goTo at ht
    split at ht
    · obtain ⟨i, _, rfl⟩ := Option.map_eq_some_iff.1 ht
      simp
    · split at ht
      · obtain ⟨i, _, rfl⟩ := Option.map_eq_some_iff.1 ht
        simp
      · simp only [Option.some.injEq] at ht
        rw [← ht]
  · cases h
/-- The line behind the first k moves. -/
def lnTo (l : Ln) (ms : List Mv) : Nat → Option Ln
  | 0 => some l
  | k + 1 => (lnTo l ms k).bind fun x => lnDo x (ms.getD k noMv)
theorem lnTo_succ {l x : Ln} {ms : List Mv} {k : Nat} (h : lnTo l ms k = some x) : lnTo l ms (k + 1) = lnDo x (ms.getD k noMv) := by simp [lnTo, h]
theorem lnTo_len {l x : Ln} {ms : List Mv} {k : Nat} (h : lnTo l ms k = some x) : x.1.length = l.1.length ∧ x.2.length = l.2.length := by
  induction k generalizing x with
  | zero => simp only [lnTo, Option.some.injEq] at h; rw [h]; exact ⟨rfl, rfl⟩
  | succ k ih =>
    simp only [lnTo] at h
    obtain ⟨y, hy, hx⟩ := Option.bind_eq_some_iff.1 h
    have h1 := ih hy
    have h2 := lnDo_len hx
    omega
theorem lnTo_none {l : Ln} {ms : List Mv} {k n : Nat} (h : lnTo l ms k = none) (hn : k ≤ n) : lnTo l ms n = none := by
  induction n with
  | zero => obtain rfl : k = 0 := by omega
            exact h
  | succ n ih =>
    by_cases e : k = n + 1
    · rw [← e]; exact h
    · simp [lnTo, ih (by omega)]
/-- What the functions on moves hand back. -/
noncomputable def lnRun (l : Ln) (ms : List Mv) : Option Ln := if lnB l then lnTo l ms ms.length else none
theorem lnRun_not {l : Ln} {ms : List Mv} (h : lnB l = false) : lnRun l ms = none := by unfold lnRun; rw [h]; rfl
theorem lnRun_is {l : Ln} {ms : List Mv} (h : lnB l = true) : lnRun l ms = lnTo l ms ms.length := by unfold lnRun; rw [h]; rfl
theorem lnRun_none {l : Ln} {ms : List Mv} {k : Nat} (hk : k ≤ ms.length) (h : lnTo l ms k = none) : lnRun l ms = none := by
  unfold lnRun
  split
  · exact lnTo_none h hk
  · rfl
noncomputable def lnStep (l : Ln) (m : Mv) : Option Ln := if lnB l then lnDo l m else none
theorem lnRun_one (l : Ln) (m : Mv) : lnRun l [m] = lnStep l m := by
  unfold lnRun lnStep
  split
  · show (some l).bind (fun x => lnDo x m) = _
    rfl
  · rfl
end Go.Proofs.Ytpofkfcjnhoamaa
