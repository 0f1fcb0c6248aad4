/-
  Paths, plainly: what a path is, the minutes that it stands, the same path later. No walk.
-/
namespace Go.Proofs.Ytedbfmmklmidjaa

/-- The time at which a train is ready for section k: its last Out. -/
def readyAt (ys : List Int) (k : Nat) : Int := if k = 0 then 0 else ys.getD (k - 1) 0
/-- Section k of a path is as it should be. -/
def secOk (xs ys : List Int) (k : Nat) : Prop := readyAt ys k ≤ xs.getD k 0 ∧ xs.getD k 0 < ys.getD k 0 ∧ ys.getD k 0 ≤ 2000
instance (xs ys : List Int) (k : Nat) : Decidable (secOk xs ys k) := by unfold secOk; infer_instance
/-- The first k sections are. -/
def SecsTo (xs ys : List Int) (k : Nat) : Prop := ∀ j, j < k → secOk xs ys j
instance (xs ys : List Int) (k : Nat) : Decidable (SecsTo xs ys k) := by unfold SecsTo; infer_instance
/-- A path over n sections. -/
def IsPath (n : Int) (p : List Int × List Int) : Prop := (1 ≤ n ∧ n ≤ 5) ∧ (p.1.length : Int) = n ∧ (p.2.length : Int) = n ∧ SecsTo p.1 p.2 p.1.length
instance (n : Int) (p : List Int × List Int) : Decidable (IsPath n p) := by unfold IsPath; infer_instance
def pathB (n : Int) (p : List Int × List Int) : Bool := decide (IsPath n p)

theorem SecsTo.zero (xs ys : List Int) : SecsTo xs ys 0 := fun j h => by omega
theorem SecsTo.succ {xs ys : List Int} {k : Nat} (h : SecsTo xs ys k) (e : secOk xs ys k) : SecsTo xs ys (k + 1) := fun j hj => by
  by_cases q : j = k
  · subst q; exact e
  · exact h j (by omega)
theorem readyAt_succ (ys : List Int) (k : Nat) : readyAt ys (k + 1) = ys.getD k 0 := by simp [readyAt]
theorem readyAt_zero (ys : List Int) : readyAt ys 0 = 0 := by simp [readyAt]
theorem SecsTo.ready {xs ys : List Int} {k : Nat} (h : SecsTo xs ys k) : 0 ≤ readyAt ys k ∧ readyAt ys k ≤ 2000 := by
  induction k with
  | zero => simp [readyAt]
  | succ k ih =>
    have h1 := ih (fun j hj => h j (by omega))
    have h2 := h k (by omega)
    unfold secOk at h2
    rw [readyAt_succ]
    omega
theorem SecsTo.bounds {xs ys : List Int} {k : Nat} (h : SecsTo xs ys k) {j : Nat} (hj : j < k) : 0 ≤ xs.getD j 0 ∧ xs.getD j 0 < ys.getD j 0 ∧ ys.getD j 0 ≤ 2000 := by
  have h1 := SecsTo.ready (k := j) (fun i hi => h i (by omega))
  have h2 := h j hj
  unfold secOk at h2
  omega

theorem pathB_n {n : Int} {p : List Int × List Int} (h : n < 1 ∨ 5 < n) : pathB n p = false := by
  refine decide_eq_false fun q => ?_
  have := q.1; have := q.2.1; have := q.2.2.1
  omega
theorem pathB_in {n : Int} {p : List Int × List Int} (h : (p.1.length : Int) ≠ n) : pathB n p = false := by
  refine decide_eq_false fun q => ?_
  have := q.1; have := q.2.1; have := q.2.2.1
  omega
theorem pathB_out {n : Int} {p : List Int × List Int} (h : (p.2.length : Int) ≠ n) : pathB n p = false := by
  refine decide_eq_false fun q => ?_
  have := q.1; have := q.2.1; have := q.2.2.1
  omega
theorem pathB_sec {n : Int} {p : List Int × List Int} {k : Nat} (hk : k < p.1.length) (h : ¬ secOk p.1 p.2 k) : pathB n p = false := by
  exact decide_eq_false fun q => h (q.2.2.2 k hk)
theorem pathB_yes {n : Int} {p : List Int × List Int} (h : 1 ≤ n) (h5 : n ≤ 5) (h1 : (p.1.length : Int) = n) (h2 : (p.2.length : Int) = n) (h3 : SecsTo p.1 p.2 p.1.length) : pathB n p = true :=
  decide_eq_true ⟨⟨h, h5⟩, h1, h2, h3⟩
theorem pathB_is {n : Int} {p : List Int × List Int} (h : pathB n p = true) : IsPath n p := of_decide_eq_true h

/-! The program's order of looks: the times rise, and the last one is not too late. -/

def riseOk (xs ys : List Int) (k : Nat) : Prop := readyAt ys k ≤ xs.getD k 0 ∧ xs.getD k 0 < ys.getD k 0
def RiseTo (xs ys : List Int) (k : Nat) : Prop := ∀ j, j < k → riseOk xs ys j
theorem RiseTo.zero (xs ys : List Int) : RiseTo xs ys 0 := fun j h => by omega
theorem RiseTo.succ {xs ys : List Int} {k : Nat} (h : RiseTo xs ys k) (e : riseOk xs ys k) : RiseTo xs ys (k + 1) := fun j hj => by
  by_cases q : j = k
  · subst q; exact e
  · exact h j (by omega)
theorem not_rise {xs ys : List Int} {k : Nat} (h : ¬ riseOk xs ys k) : ¬ secOk xs ys k := fun q => h ⟨q.1, q.2.1⟩
theorem RiseTo.secs {xs ys : List Int} {k : Nat} (h : RiseTo xs ys k) (e : readyAt ys k ≤ 2000) : SecsTo xs ys k := by
  induction k with
  | zero => exact SecsTo.zero _ _
  | succ k ih =>
    have h2 := h k (by omega)
    unfold riseOk at h2
    rw [readyAt_succ] at e
    exact (ih (fun j hj => h j (by omega)) (by omega)).succ ⟨h2.1, h2.2, e⟩
theorem pathB_late {n : Int} {p : List Int × List Int} (h : 2000 < readyAt p.2 p.1.length) : pathB n p = false := by
  refine decide_eq_false fun q => ?_
  have := (SecsTo.ready q.2.2.2).2
  omega

/-! The minutes for which a train stands. -/

def standsTo (xs ys : List Int) : Nat → Int
  | 0 => 0
  | k + 1 => standsTo xs ys k + (xs.getD (k + 1) 0 - ys.getD k 0)
def stands (n : Int) (p : List Int × List Int) : Int := if pathB n p then standsTo p.1 p.2 (p.1.length - 1) else -1
theorem standsTo_bounds {xs ys : List Int} {m : Nat} (h : SecsTo xs ys m) : ∀ k, k < m → 0 ≤ standsTo xs ys k ∧ standsTo xs ys k ≤ xs.getD k 0 := by
  intro k hk
  induction k with
  | zero => exact ⟨Int.le_refl _, (h.bounds hk).1⟩
  | succ k ih =>
    obtain ⟨h1, h2⟩ := ih (by omega)
    have h3 := h (k + 1) hk
    have h4 := h.bounds (j := k) (by omega)
    unfold secOk at h3
    rw [readyAt_succ] at h3
    show 0 ≤ standsTo xs ys k + (xs.getD (k + 1) 0 - ys.getD k 0) ∧ standsTo xs ys k + (xs.getD (k + 1) 0 - ys.getD k 0) ≤ xs.getD (k + 1) 0
    omega

/-! The same path later. -/

def laterBy (p : List Int × List Int) (d : Int) : List Int × List Int := (p.1.map (· + d), p.2.map (· + d))
def lateB (n : Int) (p : List Int × List Int) (d : Int) : Bool := pathB n p && pathB n (laterBy p d)
def lateOf (n : Int) (p : List Int × List Int) (d : Int) : List Int × List Int := if lateB n p d then laterBy p d else ([], [])

end Go.Proofs.Ytedbfmmklmidjaa
