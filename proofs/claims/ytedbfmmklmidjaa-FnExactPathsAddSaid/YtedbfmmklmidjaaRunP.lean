/-
  The path that goes on without standing, plainly. No walk.
-/
import Derived.Test.YtedbfmmklmidjaaPathP
namespace Go.Proofs.Ytedbfmmklmidjaa

/-- The time behind the first k runs. -/
def runTo (start : Int) (rs : List Int) : Nat → Int
  | 0 => start
  | k + 1 => runTo start rs k + rs.getD k 0
/-- Run k is one, and the train is in time. -/
def runOk (start : Int) (rs : List Int) (k : Nat) : Prop := (1 ≤ rs.getD k 0 ∧ rs.getD k 0 ≤ 100) ∧ 0 ≤ runTo start rs k ∧ runTo start rs (k + 1) ≤ 2000
instance (start : Int) (rs : List Int) (k : Nat) : Decidable (runOk start rs k) := by unfold runOk; infer_instance
def RunsTo (start : Int) (rs : List Int) (k : Nat) : Prop := ∀ j, j < k → runOk start rs j
instance (start : Int) (rs : List Int) (k : Nat) : Decidable (RunsTo start rs k) := by unfold RunsTo; infer_instance
def IsRun (start : Int) (rs : List Int) : Prop := (1 ≤ (rs.length : Int) ∧ (rs.length : Int) ≤ 5) ∧ RunsTo start rs rs.length
instance (start : Int) (rs : List Int) : Decidable (IsRun start rs) := by unfold IsRun; infer_instance
def runB (start : Int) (rs : List Int) : Bool := decide (IsRun start rs)
/-- The path behind the first k runs. -/
def pathTo (start : Int) (rs : List Int) (k : Nat) : List Int × List Int := ((List.range k).map (runTo start rs), (List.range k).map fun j => runTo start rs (j + 1))
def runOf (start : Int) (rs : List Int) : List Int × List Int := if runB start rs then pathTo start rs rs.length else ([], [])

theorem RunsTo.zero (start : Int) (rs : List Int) : RunsTo start rs 0 := fun j h => by omega
theorem RunsTo.succ {start : Int} {rs : List Int} {k : Nat} (h : RunsTo start rs k) (e : runOk start rs k) : RunsTo start rs (k + 1) := fun j hj => by
  by_cases q : j = k
  · subst q; exact e
  · exact h j (by omega)
theorem runB_len {start : Int} {rs : List Int} (h : (rs.length : Int) < 1 ∨ 5 < (rs.length : Int)) : runB start rs = false := decide_eq_false fun q => by have := q.1; omega
theorem runB_no {start : Int} {rs : List Int} {k : Nat} (hk : k < rs.length) (h : ¬ runOk start rs k) : runB start rs = false := decide_eq_false fun q => h (q.2 k hk)
theorem runB_yes {start : Int} {rs : List Int} (h1 : 1 ≤ (rs.length : Int)) (h5 : (rs.length : Int) ≤ 5) (h : RunsTo start rs rs.length) : runB start rs = true := decide_eq_true ⟨⟨h1, h5⟩, h⟩
theorem runOf_no {start : Int} {rs : List Int} (h : runB start rs = false) : runOf start rs = ([], []) := by unfold runOf; rw [h]; rfl
theorem runOf_yes {start : Int} {rs : List Int} (h : runB start rs = true) : runOf start rs = pathTo start rs rs.length := by unfold runOf; rw [h]; rfl
theorem pathTo_succ1 (start : Int) (rs : List Int) (k : Nat) : (pathTo start rs (k + 1)).1 = (pathTo start rs k).1 ++ [runTo start rs k] := by simp [pathTo, List.range_succ]
theorem pathTo_succ2 (start : Int) (rs : List Int) (k : Nat) : (pathTo start rs (k + 1)).2 = (pathTo start rs k).2 ++ [runTo start rs (k + 1)] := by simp [pathTo, List.range_succ]
theorem pathTo_len (start : Int) (rs : List Int) (k : Nat) : (pathTo start rs k).1.length = k ∧ (pathTo start rs k).2.length = k := by simp [pathTo]
theorem pathTo_get {start : Int} {rs : List Int} {k j : Nat} (h : j < k) : (pathTo start rs k).1.getD j 0 = runTo start rs j ∧ (pathTo start rs k).2.getD j 0 = runTo start rs (j + 1) := by simp [pathTo, h]
theorem runOf_len (start : Int) (rs : List Int) : (runOf start rs).1.length ≤ 5 ∧ (runOf start rs).2.length ≤ 5 := by
  cases h : runB start rs
  · rw [runOf_no h]; simp
  · rw [runOf_yes h]
    have := (of_decide_eq_true h : IsRun start rs).1
    have := pathTo_len start rs rs.length
    omega

/-- The model's order of looks: all runs are runs, the start is in time, and the path is one. -/
def GoodTo (rs : List Int) (k : Nat) : Prop := ∀ j, j < k → 1 ≤ rs.getD j 0 ∧ rs.getD j 0 ≤ 100
instance (rs : List Int) (k : Nat) : Decidable (GoodTo rs k) := by unfold GoodTo; infer_instance
theorem GoodTo.zero (rs : List Int) : GoodTo rs 0 := fun j h => by omega
theorem GoodTo.succ {rs : List Int} {k : Nat} (h : GoodTo rs k) (e : 1 ≤ rs.getD k 0 ∧ rs.getD k 0 ≤ 100) : GoodTo rs (k + 1) := fun j hj => by
  by_cases q : j = k
  · subst q; exact e
  · exact h j (by omega)
theorem runTo_bounds {start : Int} {rs : List Int} {n : Nat} (_hs : 0 ≤ start) (h : GoodTo rs n) : ∀ k, k ≤ n → start ≤ runTo start rs k ∧ runTo start rs k ≤ start + 100 * k := by
  intro k hk
  induction k with
  | zero => simp [runTo]
  | succ k ih =>
    have h1 := ih (by omega)
    have h2 := h k (by omega)
    simp only [runTo]
    omega
theorem path_of_runs {start : Int} {rs : List Int} (hs : 0 ≤ start) (h1 : 1 ≤ (rs.length : Int)) (h5 : (rs.length : Int) ≤ 5) (h : GoodTo rs rs.length) :
    pathB rs.length (pathTo start rs rs.length) = runB start rs := by
  obtain ⟨l1, l2⟩ := pathTo_len start rs rs.length
  have hb := runTo_bounds hs h
  by_cases hr : RunsTo start rs rs.length
  · rw [runB_yes h1 h5 hr]
    refine pathB_yes h1 h5 (by rw [l1]) (by rw [l2]) ?_
    rw [l1]
    intro j hj
    obtain ⟨e1, e2⟩ := pathTo_get (start := start) (rs := rs) hj
    have g := h j hj
    have r := hr j hj
    unfold runOk at r
    unfold secOk
    rw [e1, e2]
    have hj1 : runTo start rs (j + 1) = runTo start rs j + rs.getD j 0 := rfl
    refine ⟨?_, by omega, r.2.2⟩
    cases j with
    | zero => rw [readyAt_zero]; have := hb 0 (by omega); omega
    | succ i =>
      rw [readyAt_succ, (pathTo_get (start := start) (rs := rs) (show i < rs.length by omega)).2]
      exact Int.le_refl _
  · have hrb : runB start rs = false := decide_eq_false fun q => hr q.2
    rw [hrb]
    refine Bool.eq_false_iff.2 fun hp => hr fun j hj => ?_
    have hs2 := (pathB_is hp).2.2.2
    rw [l1] at hs2
    have s := hs2 j hj
    have bd := hs2.bounds hj
    unfold secOk at s
    rw [(pathTo_get (start := start) (rs := rs) hj).1, (pathTo_get (start := start) (rs := rs) hj).2] at s
    rw [(pathTo_get (start := start) (rs := rs) hj).1] at bd
    exact ⟨h j hj, by omega, by omega⟩

theorem runB_good {start : Int} {rs : List Int} (h : runB start rs = true) : GoodTo rs rs.length ∧ (1 ≤ (rs.length : Int) ∧ (rs.length : Int) ≤ 5) ∧ 0 ≤ start ∧ start ≤ 2000 := by
  obtain ⟨hl, hr⟩ := (of_decide_eq_true h : IsRun start rs)
  refine ⟨fun j hj => (hr j hj).1, hl, ?_⟩
  have q := hr 0 (by omega)
  unfold runOk at q
  have q2 : runTo start rs (0 + 1) = runTo start rs 0 + rs.getD 0 0 := rfl
  have q3 : runTo start rs 0 = start := rfl
  omega
theorem runB_bad {start : Int} {rs : List Int} (h : ¬ (GoodTo rs rs.length ∧ 1 ≤ (rs.length : Int) ∧ (rs.length : Int) ≤ 5)) : runB start rs = false := by
  refine Bool.eq_false_iff.2 fun q => h ?_
  have := runB_good q
  exact ⟨this.1, this.2.1⟩
theorem runB_start {start : Int} {rs : List Int} (h : start < 0 ∨ 2000 < start) : runB start rs = false := by
  refine Bool.eq_false_iff.2 fun q => ?_
  have := (runB_good q).2.2
  omega

end Go.Proofs.Ytedbfmmklmidjaa
