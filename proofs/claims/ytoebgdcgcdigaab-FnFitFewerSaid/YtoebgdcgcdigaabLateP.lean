/-
  The same path later, plainly, with times that wrap around. No walk.
-/
import Derived.Test.YtoebgdcgcdigaabPathP
import Derived.IntWalk
import Derived.RowKit
namespace Go.Proofs.Ytoebgdcgcdigaab
open Go.RowKit

/-- The later path's In and Out at section j. -/
def lateIn (p : List Int × List Int) (d : Int) (j : Nat) : Int := IntKind.i64.wrap (p.1.getD j 0 + d)
def lateOut (p : List Int × List Int) (d : Int) (j : Nat) : Int := IntKind.i64.wrap (lateIn p d j + (p.2.getD j 0 - p.1.getD j 0))
/-- Its first k sections. -/
def lateTo (p : List Int × List Int) (d : Int) (k : Nat) : List Int × List Int := ((List.range k).map (lateIn p d), (List.range k).map (lateOut p d))
def lateW (n : Int) (p : List Int × List Int) (d : Int) : Bool := pathB n p && pathB n (lateTo p d p.1.length)
def lateV (n : Int) (p : List Int × List Int) (d : Int) : List Int × List Int := if lateW n p d then lateTo p d p.1.length else ([], [])
theorem lateV_no {n : Int} {p : List Int × List Int} {d : Int} (h : lateW n p d = false) : lateV n p d = ([], []) := by unfold lateV; rw [h]; rfl
theorem lateV_yes {n : Int} {p : List Int × List Int} {d : Int} (h : lateW n p d = true) : lateV n p d = lateTo p d p.1.length := by unfold lateV; rw [h]; rfl
theorem lateTo_succ1 (p : List Int × List Int) (d : Int) (k : Nat) : (lateTo p d (k + 1)).1 = (lateTo p d k).1 ++ [lateIn p d k] := by simp [lateTo, List.range_succ]
theorem lateTo_succ2 (p : List Int × List Int) (d : Int) (k : Nat) : (lateTo p d (k + 1)).2 = (lateTo p d k).2 ++ [lateOut p d k] := by simp [lateTo, List.range_succ]
theorem lateTo_succ (p : List Int × List Int) (d : Int) (k : Nat) : lateTo p d (k + 1) = ((lateTo p d k).1 ++ [lateIn p d k], (lateTo p d k).2 ++ [lateOut p d k]) := Prod.ext (lateTo_succ1 p d k) (lateTo_succ2 p d k)
theorem lateTo_len (p : List Int × List Int) (d : Int) (k : Nat) : (lateTo p d k).1.length = k ∧ (lateTo p d k).2.length = k := by simp [lateTo]
theorem lateTo_get {p : List Int × List Int} {d : Int} {k j : Nat} (h : j < k) : (lateTo p d k).1.getD j 0 = lateIn p d j ∧ (lateTo p d k).2.getD j 0 = lateOut p d j := by simp [lateTo, h]
theorem lateV_len (n : Int) (p : List Int × List Int) (d : Int) : (lateV n p d).1.length ≤ 5 ∧ (lateV n p d).2.length ≤ 5 := by
  cases h : lateW n p d
  · rw [lateV_no h]; simp
  · rw [lateV_yes h]
    have q : pathB n p = true := by
      unfold lateW at h
      simp only [Bool.and_eq_true] at h
      exact h.1
    have q2 := pathB_is q
    have q3 := q2.1
    have q4 := q2.2.1
    have q5 := lateTo_len p d p.1.length
    omega
/-- A time that is too far away: the first section is none. -/
theorem lateW_far {n : Int} {p : List Int × List Int} {d : Int} (hd : -9223372036854775808 ≤ d ∧ d ≤ 9223372036854775807) (h : d < -2000 ∨ 2000 < d) : lateW n p d = false := by
  unfold lateW
  cases hp : pathB n p
  · rfl
  have q := pathB_is hp
  have hn := q.1
  have hl := q.2.1
  have bd := q.2.2.2.bounds (j := 0) (by omega)
  show pathB n (lateTo p d p.1.length) = false
  refine pathB_sec (k := 0) (by rw [(lateTo_len _ _ _).1]; omega) (fun s => ?_)
  have g := lateTo_get (p := p) (d := d) (show 0 < p.1.length by omega)
  unfold secOk at s
  rw [g.1, g.2, readyAt_zero] at s
  have e : lateIn p d 0 = wrap64 (p.1.getD 0 0 + d) := IntWalk.i64_left _
  rw [e] at s
  unfold wrap64 at s
  omega
/-- A time that is near: nothing wraps around. -/
theorem late_near {n : Int} {p : List Int × List Int} {d : Int} (hp : pathB n p = true) (h1 : -2000 ≤ d) (h2 : d ≤ 2000) {j : Nat} (hj : j < p.1.length) : lateIn p d j = p.1.getD j 0 + d ∧ lateOut p d j = p.2.getD j 0 + d := by
  have bd := (pathB_is hp).2.2.2.bounds hj
  have e : lateIn p d j = p.1.getD j 0 + d := IntWalk.i64_in _ (by omega)
  refine ⟨e, ?_⟩
  unfold lateOut
  rw [e, IntWalk.i64_in _ (by omega)]
  omega

end Go.Proofs.Ytoebgdcgcdigaab
