/-
  Paths, plainly: what a path is, the minutes that it stands, the same path later. No walk.
-/
namespace Go.Proofs.Ytoebgdcgcdigaab

/-- The time at which a train is ready for section k: its last Out. -/
def readyAt (ys : List Int) (k : Nat) : Int := if k = 0 then 0 else ys.getD (k - 1) 0
/-- Section k of a path is as it should be. -/
def secOk (xs ys : List Int) (k : Nat) : Prop := readyAt ys k ≤ xs.getD k 0 ∧ xs.getD k 0 < ys.getD k 0 ∧ ys.getD k 0 ≤ 2000
instance (xs ys : List Int) (k : Nat) : Decidable (secOk xs ys k) := by unfold secOk; infer_instance
/-- The first k sections are. -/
def SecsTo (xs ys : List Int) (k : Nat) : Prop := ∀ j, j < k → secOk xs ys j
instance (xs ys : List Int) (k : Nat) : Decidable (SecsTo xs ys k) := by unfold SecsTo; infer_instance
/-- A path over n sections. -/
def IsPath (n : Int) (p : List Int × List Int) : Prop := (1 ≤ n ∧ n ≤ 5) ∧ (p.1.length : Int) = n ∧ (p.2.length : Int) = n ∧ SecsTo p.1 p.2 p.1.length
instance (n : Int) (p : List Int × List Int) : Decidable (IsPath n p) := by unfold IsPath; infer_instance
def pathB (n : Int) (p : List Int × List Int) : Bool := decide (IsPath n p)

theorem SecsTo.zero (xs ys : List Int) : SecsTo xs ys 0 := fun j h => by omega
theorem SecsTo.succ {xs ys : List Int} {k : Nat} (h : SecsTo xs ys k) (e : secOk xs ys k) : SecsTo xs ys (k + 1) := fun j hj => by
  by_cases q : j = k
  · subst q; exact e
  · exact h j (by omega)
theorem readyAt_succ (ys : List Int) (k : Nat) : readyAt ys (k + 1) = ys.getD k 0 := by simp [readyAt]
theorem readyAt_zero (ys : List Int) : readyAt ys 0 = 0 := by simp [readyAt]
theorem SecsTo.ready {xs ys : List Int} {k : Nat} (h : SecsTo xs ys k) : 0 ≤ readyAt ys k ∧ readyAt ys k ≤ 2000 := by
  induction k with
  | zero => simp [readyAt]
  | succ k ih =>
    have h1 := ih (fun j hj => h j (by omega))
    have h2 := h k (by omega)
    unfold secOk at h2
    rw [readyAt_succ]
    omega
theorem SecsTo.bounds {xs ys : List Int} {k : Nat} (h : SecsTo xs ys k) {j : Nat} (hj : j < k) : 0 ≤ xs.getD j 0 ∧ xs.getD j 0 < ys.getD j 0 ∧ ys.getD j 0 ≤ 2000 := by
  have h1 := SecsTo.ready (k := j) (fun i hi => h i (by omega))
  have h2 := h j hj
  unfold secOk at h2
  omega

theorem pathB_n {n : Int} {p : List Int × List Int} (h : n < 1 ∨ 5 < n) : pathB n p = false := by
  refine decide_eq_false fun q => ?_
  have := q.1; have := q.2.1; have := q.2.2.1
  omega
theorem pathB_in {n : Int} {p : List Int × List Int} (h : (p.1.length : Int) ≠ n) : pathB n p = false := by
  refine decide_eq_false fun q => ?_
  have := q.1; have := q.2.1; have := q.2.2.1
  omega
theorem pathB_out {n : Int} {p : List Int × List Int} (h : (p.2.length : Int) ≠ n) : pathB n p = false := by
  refine decide_eq_false fun q => ?_
  have := q.1; have := q.2.1; have := q.2.2.1
  omega
theorem pathB_sec {n : Int} {p : List Int × List Int} {k : Nat} (hk : k < p.1.length) (h : ¬ secOk p.1 p.2 k) : pathB n p = false := by
  exact decide_eq_false fun q => h (q.2.2.2 k hk)
theorem pathB_yes {n : Int} {p : List Int × List Int} (h : 1 ≤ n) (h5 : n ≤ 5) (h1 : (p.1.length : Int) = n) (h2 : (p.2.length : Int) = n) (h3 : SecsTo p.1 p.2 p.1.length) : pathB n p = true :=
  decide_eq_true ⟨⟨h, h5⟩, h1, h2, h3⟩
theorem pathB_is {n : Int} {p : List Int × List Int} (h : pathB n p = true) : IsPath n p := of_decide_eq_true h

/-! The program's order of looks: the times rise, and the last one is not too late. -/

def riseOk (xs ys : List Int) (k : Nat) : Prop := readyAt ys k ≤ xs.getD k 0 ∧ xs.getD k 0 < ys.getD k 0
def RiseTo (xs ys : List Int) (k : Nat) : Prop := ∀ j, j < k → riseOk xs ys j
theorem RiseTo.zero (xs ys : List Int) : RiseTo xs ys 0 := fun j h => by omega
theorem RiseTo.succ {xs ys : List Int} {k : Nat} (h : RiseTo xs ys k) (e : riseOk xs ys k) : RiseTo xs ys (k + 1) := fun j hj => by
  by_cases q : j = k
  · subst q; exact e
  · exact h j (by omega)
theorem not_rise {xs ys : List Int} {k : Nat} (h : ¬ riseOk xs ys k) : ¬ secOk xs ys k := fun q => h ⟨q.1, q.2.1⟩
theorem RiseTo.secs {xs ys : List Int} {k : Nat} (h : RiseTo xs ys k) (e : readyAt ys k ≤ 2000) : SecsTo xs ys k := by
  induction k with
  | zero => exact SecsTo.zero _ _
  | succ k ih =>
    have h2 := h k (by omega)
    unfold riseOk at h2
    rw [readyAt_succ] at e
    exact (ih (fun j hj => h j (by omega)) (by omega)).succ ⟨h2.1, h2.2, e⟩
theorem pathB_late {n : Int} {p : List Int × List Int} (h : 2000 < readyAt p.2 p.1.length) : pathB n p = false := by
  refine decide_eq_false fun q => ?_
  have := (SecsTo.ready q.2.2.2).2
  omega

/-! The minutes for which a train stands. -/

def standsTo (xs ys : List Int) : Nat → Int
  | 0 => 0
  | k + 1 => standsTo xs ys k + (xs.getD (k + 1) 0 - ys.getD k 0)
def stands (n : Int) (p : List Int × List Int) : Int := if pathB n p then standsTo p.1 p.2 (p.1.length - 1) else -1
theorem standsTo_bounds {xs ys : List Int} {m : Nat} (h : SecsTo xs ys m) : ∀ k, k < m → 0 ≤ standsTo xs ys k ∧ standsTo xs ys k ≤ xs.getD k 0 := by
  intro k hk
  induction k with
  | zero => exact ⟨Int.le_refl _, (h.bounds hk).1⟩
  | succ k ih =>
    obtain ⟨h1, h2⟩ := ih (by omega)
    have h3 := h (k + 1) hk
    have h4 := h.bounds (j := k) (by omega)
    unfold secOk at h3
    rw [readyAt_succ] at h3
    show 0 ≤ standsTo xs ys k + (xs.getD (k + 1) 0 - ys.getD k 0) ∧ standsTo xs ys k + (xs.getD (k + 1) 0 - ys.getD k 0) ≤ xs.getD (k + 1) 0
    omega

/-! The same path later. -/

def laterBy (p : List Int × List Int) (d : Int) : List Int × List Int := (p.1.map (· + d), p.2.map (· + d))
def lateB (n : Int) (p : List Int × List Int) (d : Int) : Bool := pathB n p && pathB n (laterBy p d)
def lateOf (n : Int) (p : List Int × List Int) (d : Int) : List Int × List Int := if lateB n p d then laterBy p d else ([], [])

end Go.Proofs.Ytoebgdcgcdigaab

/-
  Clashes of two paths, plainly. No walk.
-/
namespace Go.Proofs.Ytoebgdcgcdigaab

/-- Two paths clash in section k. -/
def clashAt (p q : List Int × List Int) (k : Nat) : Bool := decide (p.1.getD k 0 < q.2.getD k 0 ∧ q.1.getD k 0 < p.2.getD k 0)
/-- The clashes in the first k sections. -/
def clashTo (p q : List Int × List Int) : Nat → List Int
  | 0 => []
  | k + 1 => clashTo p q k ++ (if clashAt p q k then [(k : Int)] else [])
def clashB (n : Int) (p q : List Int × List Int) : Bool := pathB n p && pathB n q
def clashOf (n : Int) (p q : List Int × List Int) : List Int := if clashB n p q then clashTo p q p.1.length else []

theorem clashTo_length (p q : List Int × List Int) (k : Nat) : (clashTo p q k).length ≤ k := by
  induction k with
  | zero => simp [clashTo]
  | succ k ih =>
    simp only [clashTo, List.length_append]
    split <;> simp <;> omega
theorem clashOf_length (n : Int) (p q : List Int × List Int) : (clashOf n p q).length ≤ 5 := by
  unfold clashOf
  split
  · rename_i h
    unfold clashB at h
    rw [Bool.and_eq_true] at h
    obtain ⟨⟨_, h5⟩, h1, _⟩ := pathB_is h.1
    have := clashTo_length p q p.1.length
    omega
  · simp
theorem clashTo_yes {p q : List Int × List Int} {k : Nat} (h : clashAt p q k = true) : clashTo p q (k + 1) = clashTo p q k ++ [(k : Int)] := by simp [clashTo, h]
theorem clashTo_no {p q : List Int × List Int} {k : Nat} (h : clashAt p q k = false) : clashTo p q (k + 1) = clashTo p q k := by simp [clashTo, h]
theorem clashOf_no {n : Int} {p q : List Int × List Int} (h : clashB n p q = false) : clashOf n p q = [] := by unfold clashOf; rw [h]; rfl
theorem clashOf_yes {n : Int} {p q : List Int × List Int} (h : clashB n p q = true) : clashOf n p q = clashTo p q p.1.length := by unfold clashOf; rw [h]; rfl
theorem clashB_is {n : Int} {p q : List Int × List Int} (h : clashB n p q = true) : pathB n p = true ∧ pathB n q = true := by
  unfold clashB at h; rwa [Bool.and_eq_true] at h
theorem clashB_1 {n : Int} {p q : List Int × List Int} (h : pathB n p = false) : clashB n p q = false := by unfold clashB; rw [h]; rfl
theorem clashB_2 {n : Int} {p q : List Int × List Int} (h : pathB n q = false) : clashB n p q = false := by unfold clashB; rw [h, Bool.and_false]

end Go.Proofs.Ytoebgdcgcdigaab

/-
  Paths of a line, plainly: at most eight paths, no two of which clash. No walk.
-/
namespace Go.Proofs.Ytoebgdcgcdigaab

/-- No path. -/
def noPath : List Int × List Int := ([], [])

/-- Path i is one, and clashes with none ahead of it. -/
def rowB (n : Int) (ps : List (List Int × List Int)) (i : Nat) : Bool := pathB n (ps.getD i noPath) && decide (∀ j, j < i → clashOf n (ps.getD i noPath) (ps.getD j noPath) = [])
def RowsOk (n : Int) (ps : List (List Int × List Int)) (k : Nat) : Prop := ∀ i, i < k → rowB n ps i = true
instance (n : Int) (ps : List (List Int × List Int)) (k : Nat) : Decidable (RowsOk n ps k) := by unfold RowsOk; infer_instance
/-- Paths of a line of n sections. -/
def IsPaths (n : Int) (ps : List (List Int × List Int)) : Prop := (1 ≤ n ∧ n ≤ 5) ∧ ps.length ≤ 8 ∧ RowsOk n ps ps.length
instance (n : Int) (ps : List (List Int × List Int)) : Decidable (IsPaths n ps) := by unfold IsPaths; infer_instance
def pathsB (n : Int) (ps : List (List Int × List Int)) : Bool := decide (IsPaths n ps)

theorem RowsOk.zero (n : Int) (ps : List (List Int × List Int)) : RowsOk n ps 0 := fun i h => by omega
theorem RowsOk.succ {n : Int} {ps : List (List Int × List Int)} {k : Nat} (h : RowsOk n ps k) (e : rowB n ps k = true) : RowsOk n ps (k + 1) := fun i hi => by
  by_cases q : i = k
  · subst q; exact e
  · exact h i (by omega)
theorem rowB_is {n : Int} {ps : List (List Int × List Int)} {i : Nat} (h : rowB n ps i = true) : pathB n (ps.getD i noPath) = true ∧ ∀ j, j < i → clashOf n (ps.getD i noPath) (ps.getD j noPath) = [] := by
  unfold rowB at h
  rw [Bool.and_eq_true] at h
  exact ⟨h.1, of_decide_eq_true h.2⟩
theorem rowB_yes {n : Int} {ps : List (List Int × List Int)} {i : Nat} (h : pathB n (ps.getD i noPath) = true) (k : ∀ j, j < i → clashOf n (ps.getD i noPath) (ps.getD j noPath) = []) : rowB n ps i = true := by
  unfold rowB
  rw [Bool.and_eq_true]
  exact ⟨h, decide_eq_true k⟩
theorem pathsB_n {n : Int} {ps : List (List Int × List Int)} (h : n < 1 ∨ 5 < n) : pathsB n ps = false := decide_eq_false fun q => by
  have := q.1; omega
theorem pathsB_long {n : Int} {ps : List (List Int × List Int)} (h : 8 < ps.length) : pathsB n ps = false := decide_eq_false fun q => by
  have := q.2.1; omega
theorem pathsB_path {n : Int} {ps : List (List Int × List Int)} {i : Nat} (hi : i < ps.length) (h : pathB n (ps.getD i noPath) = false) : pathsB n ps = false := decide_eq_false fun q => by
  have := (rowB_is (q.2.2 i hi)).1
  rw [h] at this
  cases this
theorem pathsB_clash {n : Int} {ps : List (List Int × List Int)} {i j : Nat} (hi : i < ps.length) (hj : j < i) (h : clashOf n (ps.getD i noPath) (ps.getD j noPath) ≠ []) : pathsB n ps = false := decide_eq_false fun q => h ((rowB_is (q.2.2 i hi)).2 j hj)
theorem pathsB_yes {n : Int} {ps : List (List Int × List Int)} (h1 : 1 ≤ n) (h5 : n ≤ 5) (h8 : ps.length ≤ 8) (h : RowsOk n ps ps.length) : pathsB n ps = true := decide_eq_true ⟨⟨h1, h5⟩, h8, h⟩
theorem pathsB_is {n : Int} {ps : List (List Int × List Int)} (h : pathsB n ps = true) : IsPaths n ps := of_decide_eq_true h
theorem pathsB_at {n : Int} {ps : List (List Int × List Int)} (h : pathsB n ps = true) {i : Nat} (hi : i < ps.length) : pathB n (ps.getD i noPath) = true := (rowB_is ((pathsB_is h).2.2 i hi)).1

end Go.Proofs.Ytoebgdcgcdigaab

/-
  How busy a section is, how often trains pass one another, plainly. No walk.
-/
namespace Go.Proofs.Ytoebgdcgcdigaab

/-- There is such a section, and the list are paths. -/
def hasB (n : Int) (ps : List (List Int × List Int)) (k : Int) : Bool := pathsB n ps && decide (0 ≤ k ∧ k < n)
theorem hasB_paths {n k : Int} {ps : List (List Int × List Int)} (h : pathsB n ps = false) : hasB n ps k = false := by unfold hasB; rw [h]; rfl
theorem hasB_sec {n k : Int} {ps : List (List Int × List Int)} (h : ¬ (0 ≤ k ∧ k < n)) : hasB n ps k = false := by unfold hasB; rw [decide_eq_false h, Bool.and_false]
theorem hasB_yes {n k : Int} {ps : List (List Int × List Int)} (h : pathsB n ps = true) (hk : 0 ≤ k ∧ k < n) : hasB n ps k = true := by unfold hasB; rw [h, decide_eq_true hk]; rfl
theorem hasB_is {n k : Int} {ps : List (List Int × List Int)} (h : hasB n ps k = true) : pathsB n ps = true ∧ 0 ≤ k ∧ k < n := by
  unfold hasB at h
  rw [Bool.and_eq_true] at h
  exact ⟨h.1, of_decide_eq_true h.2⟩

/-- The minutes of the first i trains in section k. -/
def busyTo (ps : List (List Int × List Int)) (k : Nat) : Nat → Int
  | 0 => 0
  | i + 1 => busyTo ps k i + ((ps.getD i noPath).2.getD k 0 - (ps.getD i noPath).1.getD k 0)
def busyOf (n : Int) (ps : List (List Int × List Int)) (k : Int) : Int := if hasB n ps k then busyTo ps k.toNat ps.length else -1
theorem busyOf_no {n k : Int} {ps : List (List Int × List Int)} (h : hasB n ps k = false) : busyOf n ps k = -1 := by unfold busyOf; rw [h]; rfl
theorem busyOf_yes {n k : Int} {ps : List (List Int × List Int)} (h : hasB n ps k = true) : busyOf n ps k = busyTo ps k.toNat ps.length := by unfold busyOf; rw [h]; rfl

/-- The In and the Out of path i in a section. -/
theorem sec_bounds {n : Int} {ps : List (List Int × List Int)} (h : pathsB n ps = true) {i k : Nat} (hi : i < ps.length) (hk : (k : Int) < n) :
    k < (ps.getD i noPath).1.length ∧ k < (ps.getD i noPath).2.length ∧ 0 ≤ (ps.getD i noPath).1.getD k 0 ∧ (ps.getD i noPath).1.getD k 0 < (ps.getD i noPath).2.getD k 0 ∧ (ps.getD i noPath).2.getD k 0 ≤ 2000 := by
  obtain ⟨_, h1, h2, h3⟩ := pathB_is (pathsB_at h hi)
  have hk1 : k < (ps.getD i noPath).1.length := by omega
  have := h3.bounds hk1
  exact ⟨hk1, by omega, this⟩
theorem busyTo_bounds {n : Int} {ps : List (List Int × List Int)} (h : pathsB n ps = true) {k : Nat} (hk : (k : Int) < n) : ∀ i, i ≤ ps.length → 0 ≤ busyTo ps k i ∧ busyTo ps k i ≤ 2000 * i := by
  intro i hi
  induction i with
  | zero => simp [busyTo]
  | succ i ih =>
    have h1 := ih (by omega)
    obtain ⟨_, _, h2, h3, h4⟩ := sec_bounds h (i := i) (by omega) hk
    simp only [busyTo]
    omega

end Go.Proofs.Ytoebgdcgcdigaab

/-
  The path that goes on without standing, plainly. No walk.
-/
namespace Go.Proofs.Ytoebgdcgcdigaab

/-- The time behind the first k runs. -/
def runTo (start : Int) (rs : List Int) : Nat → Int
  | 0 => start
  | k + 1 => runTo start rs k + rs.getD k 0
/-- Run k is one, and the train is in time. -/
def runOk (start : Int) (rs : List Int) (k : Nat) : Prop := (1 ≤ rs.getD k 0 ∧ rs.getD k 0 ≤ 100) ∧ 0 ≤ runTo start rs k ∧ runTo start rs (k + 1) ≤ 2000
instance (start : Int) (rs : List Int) (k : Nat) : Decidable (runOk start rs k) := by unfold runOk; infer_instance
def RunsTo (start : Int) (rs : List Int) (k : Nat) : Prop := ∀ j, j < k → runOk start rs j
instance (start : Int) (rs : List Int) (k : Nat) : Decidable (RunsTo start rs k) := by unfold RunsTo; infer_instance
def IsRun (start : Int) (rs : List Int) : Prop := (1 ≤ (rs.length : Int) ∧ (rs.length : Int) ≤ 5) ∧ RunsTo start rs rs.length
instance (start : Int) (rs : List Int) : Decidable (IsRun start rs) := by unfold IsRun; infer_instance
def runB (start : Int) (rs : List Int) : Bool := decide (IsRun start rs)
/-- The path behind the first k runs. -/
def pathTo (start : Int) (rs : List Int) (k : Nat) : List Int × List Int := ((List.range k).map (runTo start rs), (List.range k).map fun j => runTo start rs (j + 1))
def runOf (start : Int) (rs : List Int) : List Int × List Int := if runB start rs then pathTo start rs rs.length else ([], [])

theorem RunsTo.zero (start : Int) (rs : List Int) : RunsTo start rs 0 := fun j h => by omega
theorem RunsTo.succ {start : Int} {rs : List Int} {k : Nat} (h : RunsTo start rs k) (e : runOk start rs k) : RunsTo start rs (k + 1) := fun j hj => by
  by_cases q : j = k
  · subst q; exact e
  · exact h j (by omega)
theorem runB_len {start : Int} {rs : List Int} (h : (rs.length : Int) < 1 ∨ 5 < (rs.length : Int)) : runB start rs = false := decide_eq_false fun q => by have := q.1; omega
theorem runB_no {start : Int} {rs : List Int} {k : Nat} (hk : k < rs.length) (h : ¬ runOk start rs k) : runB start rs = false := decide_eq_false fun q => h (q.2 k hk)
theorem runB_yes {start : Int} {rs : List Int} (h1 : 1 ≤ (rs.length : Int)) (h5 : (rs.length : Int) ≤ 5) (h : RunsTo start rs rs.length) : runB start rs = true := decide_eq_true ⟨⟨h1, h5⟩, h⟩
theorem runOf_no {start : Int} {rs : List Int} (h : runB start rs = false) : runOf start rs = ([], []) := by unfold runOf; rw [h]; rfl
theorem runOf_yes {start : Int} {rs : List Int} (h : runB start rs = true) : runOf start rs = pathTo start rs rs.length := by unfold runOf; rw [h]; rfl
theorem pathTo_succ1 (start : Int) (rs : List Int) (k : Nat) : (pathTo start rs (k + 1)).1 = (pathTo start rs k).1 ++ [runTo start rs k] := by simp [pathTo, List.range_succ]
theorem pathTo_succ2 (start : Int) (rs : List Int) (k : Nat) : (pathTo start rs (k + 1)).2 = (pathTo start rs k).2 ++ [runTo start rs (k + 1)] := by simp [pathTo, List.range_succ]
theorem pathTo_len (start : Int) (rs : List Int) (k : Nat) : (pathTo start rs k).1.length = k ∧ (pathTo start rs k).2.length = k := by simp [pathTo]
theorem pathTo_get {start : Int} {rs : List Int} {k j : Nat} (h : j < k) : (pathTo start rs k).1.getD j 0 = runTo start rs j ∧ (pathTo start rs k).2.getD j 0 = runTo start rs (j + 1) := by simp [pathTo, h]
theorem runOf_len (start : Int) (rs : List Int) : (runOf start rs).1.length ≤ 5 ∧ (runOf start rs).2.length ≤ 5 := by
  cases h : runB start rs
  · rw [runOf_no h]; simp
  · rw [runOf_yes h]
    have := (of_decide_eq_true h : IsRun start rs).1
    have := pathTo_len start rs rs.length
    omega

/-- The model's order of looks: all runs are runs, the start is in time, and the path is one. -/
def GoodTo (rs : List Int) (k : Nat) : Prop := ∀ j, j < k → 1 ≤ rs.getD j 0 ∧ rs.getD j 0 ≤ 100
instance (rs : List Int) (k : Nat) : Decidable (GoodTo rs k) := by unfold GoodTo; infer_instance
theorem GoodTo.zero (rs : List Int) : GoodTo rs 0 := fun j h => by omega
theorem GoodTo.succ {rs : List Int} {k : Nat} (h : GoodTo rs k) (e : 1 ≤ rs.getD k 0 ∧ rs.getD k 0 ≤ 100) : GoodTo rs (k + 1) := fun j hj => by
  by_cases q : j = k
  · subst q; exact e
  · exact h j (by omega)
theorem runTo_bounds {start : Int} {rs : List Int} {n : Nat} (_hs : 0 ≤ start) (h : GoodTo rs n) : ∀ k, k ≤ n → start ≤ runTo start rs k ∧ runTo start rs k ≤ start + 100 * k := by
  intro k hk
  induction k with
  | zero => simp [runTo]
  | succ k ih =>
    have h1 := ih (by omega)
    have h2 := h k (by omega)
    simp only [runTo]
    omega
theorem path_of_runs {start : Int} {rs : List Int} (hs : 0 ≤ start) (h1 : 1 ≤ (rs.length : Int)) (h5 : (rs.length : Int) ≤ 5) (h : GoodTo rs rs.length) :
    pathB rs.length (pathTo start rs rs.length) = runB start rs := by
  obtain ⟨l1, l2⟩ := pathTo_len start rs rs.length
  have hb := runTo_bounds hs h
  by_cases hr : RunsTo start rs rs.length
  · rw [runB_yes h1 h5 hr]
    refine pathB_yes h1 h5 (by rw [l1]) (by rw [l2]) ?_
    rw [l1]
    intro j hj
    obtain ⟨e1, e2⟩ := pathTo_get (start := start) (rs := rs) hj
    have g := h j hj
    have r := hr j hj
    unfold runOk at r
    unfold secOk
    rw [e1, e2]
    have hj1 : runTo start rs (j + 1) = runTo start rs j + rs.getD j 0 := rfl
    refine ⟨?_, by omega, r.2.2⟩
    cases j with
    | zero => rw [readyAt_zero]; have := hb 0 (by omega); omega
    | succ i =>
      rw [readyAt_succ, (pathTo_get (start := start) (rs := rs) (show i < rs.length by omega)).2]
      exact Int.le_refl _
  · have hrb : runB start rs = false := decide_eq_false fun q => hr q.2
    rw [hrb]
    refine Bool.eq_false_iff.2 fun hp => hr fun j hj => ?_
    have hs2 := (pathB_is hp).2.2.2
    rw [l1] at hs2
    have s := hs2 j hj
    have bd := hs2.bounds hj
    unfold secOk at s
    rw [(pathTo_get (start := start) (rs := rs) hj).1, (pathTo_get (start := start) (rs := rs) hj).2] at s
    rw [(pathTo_get (start := start) (rs := rs) hj).1] at bd
    exact ⟨h j hj, by omega, by omega⟩

theorem runB_good {start : Int} {rs : List Int} (h : runB start rs = true) : GoodTo rs rs.length ∧ (1 ≤ (rs.length : Int) ∧ (rs.length : Int) ≤ 5) ∧ 0 ≤ start ∧ start ≤ 2000 := by
  obtain ⟨hl, hr⟩ := (of_decide_eq_true h : IsRun start rs)
  refine ⟨fun j hj => (hr j hj).1, hl, ?_⟩
  have q := hr 0 (by omega)
  unfold runOk at q
  have q2 : runTo start rs (0 + 1) = runTo start rs 0 + rs.getD 0 0 := rfl
  have q3 : runTo start rs 0 = start := rfl
  omega
theorem runB_bad {start : Int} {rs : List Int} (h : ¬ (GoodTo rs rs.length ∧ 1 ≤ (rs.length : Int) ∧ (rs.length : Int) ≤ 5)) : runB start rs = false := by
  refine Bool.eq_false_iff.2 fun q => h ?_
  have := runB_good q
  exact ⟨this.1, this.2.1⟩
theorem runB_start {start : Int} {rs : List Int} (h : start < 0 ∨ 2000 < start) : runB start rs = false := by
  refine Bool.eq_false_iff.2 fun q => ?_
  have := (runB_good q).2.2
  omega

end Go.Proofs.Ytoebgdcgcdigaab

/-
  The least time from which a section is free, plainly. No walk.
-/
namespace Go.Proofs.Ytoebgdcgcdigaab

/-- The In and the Out of path i in section k. -/
def inAt (ps : List (List Int × List Int)) (k i : Nat) : Int := (ps.getD i noPath).1.getD k 0
def outAt (ps : List (List Int × List Int)) (k i : Nat) : Int := (ps.getD i noPath).2.getD k 0
/-- A train that is in section k from t on for r minutes meets path i there. -/
def meetsAt (ps : List (List Int × List Int)) (k : Nat) (t r : Int) (i : Nat) : Prop := inAt ps k i < t + r ∧ t < outAt ps k i
instance (ps : List (List Int × List Int)) (k : Nat) (t r : Int) (i : Nat) : Decidable (meetsAt ps k t r i) := by unfold meetsAt; infer_instance
def FreeAt (ps : List (List Int × List Int)) (k : Nat) (r t : Int) : Prop := ∀ i, i < ps.length → ¬ meetsAt ps k t r i
instance (ps : List (List Int × List Int)) (k : Nat) (r t : Int) : Decidable (FreeAt ps k r t) := by unfold FreeAt; infer_instance
/-- The least time from s on, looked for minute by minute. -/
def freeN (ps : List (List Int × List Int)) (k : Nat) (r : Int) : Nat → Int → Int
  | 0, s => s
  | f + 1, s => if FreeAt ps k r s then s else freeN ps k r f (s + 1)
def freeT (ps : List (List Int × List Int)) (k : Nat) (r s : Int) : Int := freeN ps k r 2001 s
/-- All times from s up to t are taken. -/
def Taken (ps : List (List Int × List Int)) (k : Nat) (r s t : Int) : Prop := ∀ u, s ≤ u → u < t → ¬ FreeAt ps k r u
theorem Taken.none (ps : List (List Int × List Int)) (k : Nat) (r s : Int) : Taken ps k r s s := fun u h1 h2 => by omega
theorem freeN_is {ps : List (List Int × List Int)} {k : Nat} {r t : Int} (h : FreeAt ps k r t) : ∀ (f : Nat) (s : Int), s ≤ t → t - s ≤ f → Taken ps k r s t → freeN ps k r f s = t := by
  intro f
  induction f with
  | zero => intro s h1 h2 _; show s = t; omega
  | succ f ih =>
    intro s h1 h2 h3
    unfold freeN
    by_cases e : s = t
    · rw [if_pos (by rw [e]; exact h)]; exact e
    · rw [if_neg (h3 s (by omega) (by omega))]
      exact ih (s + 1) (by omega) (by omega) (fun u q1 q2 => h3 u (by omega) q2)
theorem freeT_is {ps : List (List Int × List Int)} {k : Nat} {r s t : Int} (h : FreeAt ps k r t) (h1 : s ≤ t) (h2 : t - s ≤ 2001) (h3 : Taken ps k r s t) : freeT ps k r s = t := freeN_is h 2001 s h1 h2 h3
/-- From a time at which a path is met, up to that path's Out, it is met. -/
theorem Taken.on {ps : List (List Int × List Int)} {k i : Nat} {r s t : Int} (h : Taken ps k r s t) (hi : i < ps.length) (hm : meetsAt ps k t r i) : Taken ps k r s (outAt ps k i) := by
  intro u h1 h2 hf
  by_cases q : u < t
  · exact h u h1 q hf
  · exact hf i hi ⟨by have := hm.1; omega, h2⟩

/-- The answer of PathsFree. -/
def freeB (n : Int) (ps : List (List Int × List Int)) (k s r : Int) : Bool := hasB n ps k && decide ((1 ≤ r ∧ r ≤ 100) ∧ (0 ≤ s ∧ s ≤ 2000)) && decide (freeT ps k.toNat r s + r ≤ 2000)
def freeV (n : Int) (ps : List (List Int × List Int)) (k s r : Int) : Int := if freeB n ps k s r then freeT ps k.toNat r s else 0
def FreePost (n : Int) (ps : List (List Int × List Int)) (k s r : Int) (v : Int) (b : Bool) : Prop := v = freeV n ps k s r ∧ b = freeB n ps k s r
theorem freePost_no {n k s r : Int} {ps : List (List Int × List Int)} (h : freeB n ps k s r = false) : FreePost n ps k s r 0 false := by
  unfold FreePost freeV
  rw [h]
  exact ⟨rfl, rfl⟩
theorem freePost_yes {n k s r : Int} {ps : List (List Int × List Int)} (h : freeB n ps k s r = true) : FreePost n ps k s r (freeT ps k.toNat r s) true := by
  unfold FreePost freeV
  rw [h]
  exact ⟨rfl, rfl⟩
theorem freeB_has {n k s r : Int} {ps : List (List Int × List Int)} (h : hasB n ps k = false) : freeB n ps k s r = false := by unfold freeB; rw [h]; rfl
theorem freeB_args {n k s r : Int} {ps : List (List Int × List Int)} (h : ¬ ((1 ≤ r ∧ r ≤ 100) ∧ (0 ≤ s ∧ s ≤ 2000))) : freeB n ps k s r = false := by unfold freeB; rw [decide_eq_false h]; simp
theorem freeB_late {n k s r : Int} {ps : List (List Int × List Int)} (h : ¬ freeT ps k.toNat r s + r ≤ 2000) : freeB n ps k s r = false := by unfold freeB; rw [decide_eq_false h]; simp
theorem freeB_yes {n k s r : Int} {ps : List (List Int × List Int)} (h : hasB n ps k = true) (h1 : (1 ≤ r ∧ r ≤ 100) ∧ (0 ≤ s ∧ s ≤ 2000)) (h2 : freeT ps k.toNat r s + r ≤ 2000) : freeB n ps k s r = true := by unfold freeB; rw [h, decide_eq_true h1, decide_eq_true h2]; rfl

/-- Of two paths of a list the one that is in a section first is out before the other is in. -/
theorem clashTo_nil {p q : List Int × List Int} {m : Nat} (h : clashTo p q m = []) : ∀ k, k < m → clashAt p q k = false := by
  induction m with
  | zero => intro k hk; omega
  | succ m ih =>
    simp only [clashTo, List.append_eq_nil_iff] at h
    intro k hk
    by_cases e : k = m
    · subst e
      cases hc : clashAt p q k
      · rfl
      · rw [hc] at h; simp at h
    · exact ih h.1 k (by omega)
theorem apart_at {n : Int} {ps : List (List Int × List Int)} (h : pathsB n ps = true) {i j k : Nat} (hi : i < ps.length) (hj : j < ps.length) (hij : i ≠ j) (hk : (k : Int) < n) : ¬ (inAt ps k i < outAt ps k j ∧ inAt ps k j < outAt ps k i) := by
  have key : ∀ i j, i < ps.length → j < i → ¬ (inAt ps k i < outAt ps k j ∧ inAt ps k j < outAt ps k i) := by
    intro i j hi hj q
    have r := (rowB_is ((pathsB_is h).2.2 i hi)).2 j hj
    have b1 := pathsB_at h hi
    have b2 := pathsB_at h (i := j) (by omega)
    have cb : clashB n (ps.getD i noPath) (ps.getD j noPath) = true := by unfold clashB; rw [b1, b2]; rfl
    rw [clashOf_yes cb] at r
    have c := clashTo_nil r k (by have := (sec_bounds h hi hk).1; exact this)
    unfold clashAt at c
    exact of_decide_eq_false c q
  rcases Nat.lt_or_gt_of_ne hij with q | q
  · exact fun e => key j i hj q ⟨e.2, e.1⟩
  · exact key i j hi q

end Go.Proofs.Ytoebgdcgcdigaab

/-
  The order in which trains enter a section, plainly; the model's way to the least free time. No walk.
-/
namespace Go.Proofs.Ytoebgdcgcdigaab

/-- x put ahead of the first number that is not less, by f. -/
def insI (f : Int → Int) (x : Int) : List Int → List Int
  | [] => [x]
  | y :: ys => if f y < f x then y :: insI f x ys else x :: y :: ys
def ordTo (f : Int → Int) : Nat → List Int
  | 0 => []
  | i + 1 => insI f i (ordTo f i)
theorem insI_length (f : Int → Int) (x : Int) (ys : List Int) : (insI f x ys).length = ys.length + 1 := by
  induction ys with
  | nil => rfl
  | cons y ys ih =>
    unfold insI
    split
    · simp [ih]
    · simp
theorem ordTo_length (f : Int → Int) (i : Nat) : (ordTo f i).length = i := by
  induction i with
  | zero => rfl
  | succ i ih => show (insI f i (ordTo f i)).length = i + 1; rw [insI_length, ih]
theorem insI_mem {f : Int → Int} {x y : Int} {ys : List Int} : y ∈ insI f x ys ↔ y = x ∨ y ∈ ys := by
  induction ys with
  | nil => simp [insI]
  | cons z ys ih =>
    unfold insI
    split
    · simp only [List.mem_cons, ih]
      constructor
      · rintro (h | h | h)
        · exact .inr (.inl h)
        · exact .inl h
        · exact .inr (.inr h)
      · rintro (h | h | h)
        · exact .inr (.inl h)
        · exact .inl h
        · exact .inr (.inr h)
    · simp only [List.mem_cons]
theorem ordTo_mem {f : Int → Int} {i : Nat} {y : Int} : y ∈ ordTo f i ↔ ∃ j : Nat, j < i ∧ y = j := by
  induction i with
  | zero => simp [ordTo]
  | succ i ih =>
    show y ∈ insI f i (ordTo f i) ↔ _
    rw [insI_mem, ih]
    constructor
    · rintro (h | ⟨j, h1, h2⟩)
      · exact ⟨i, by omega, h⟩
      · exact ⟨j, by omega, h2⟩
    · rintro ⟨j, h1, h2⟩
      by_cases e : j = i
      · subst e; exact .inl h2
      · exact .inr ⟨j, by omega, h2⟩
/-- Where x is put. -/
theorem insI_at {f : Int → Int} {x : Int} : ∀ (ys : List Int) (j : Nat), j ≤ ys.length → (∀ m, m < j → f (ys.getD m 0) < f x) → (j = ys.length ∨ ¬ f (ys.getD j 0) < f x) → insI f x ys = (ys.take j ++ [x]) ++ ys.drop j := by
  intro ys
  induction ys with
  | nil => intro j hj _ _; simp [insI]
  | cons y ys ih =>
    intro j hj h1 h2
    cases j with
    | zero =>
      have q : ¬ f y < f x := by
        rcases h2 with e | e
        · simp at e
        · exact e
      unfold insI
      rw [if_neg q]
      simp
    | succ j =>
      have q : f y < f x := h1 0 (by omega)
      unfold insI
      rw [if_pos q, ih j (by simpa using hj) (fun m hm => h1 (m + 1) (by omega)) (by
        rcases h2 with e | e
        · left; simpa using e
        · right; exact e)]
      simp
/-- The order: no number twice, none ahead of a lesser one. -/
theorem insI_pairs {f : Int → Int} {x : Int} {ys : List Int} (h : ys.Pairwise (fun a b => a ≠ b ∧ f a ≤ f b)) (hx : x ∉ ys) : (insI f x ys).Pairwise (fun a b => a ≠ b ∧ f a ≤ f b) := by
  induction ys with
  | nil => simp [insI]
  | cons y ys ih =>
    rw [List.pairwise_cons] at h
    have hxy : x ≠ y := fun e => hx (by simp [e])
    have hxs : x ∉ ys := fun e => hx (by simp [e])
    unfold insI
    split
    · rename_i q
      rw [List.pairwise_cons]
      refine ⟨fun b hb => ?_, ih h.2 hxs⟩
      rcases insI_mem.1 hb with e | e
      · subst e; exact ⟨fun e => hxy e.symm, by omega⟩
      · exact h.1 b e
    · rename_i q
      rw [List.pairwise_cons, List.pairwise_cons]
      refine ⟨fun b hb => ?_, h⟩
      rcases List.mem_cons.1 hb with e | e
      · subst e; exact ⟨hxy, by omega⟩
      · exact ⟨fun e2 => hxs (e2 ▸ e), by have := (h.1 b e).2; omega⟩
theorem ordTo_pairs (f : Int → Int) (i : Nat) : (ordTo f i).Pairwise (fun a b => a ≠ b ∧ f a ≤ f b) := by
  induction i with
  | zero => simp [ordTo]
  | succ i ih =>
    refine insI_pairs ih (fun h => ?_)
    obtain ⟨j, h1, h2⟩ := ordTo_mem.1 h
    omega

/-- The Ins of a section, by the number of the path. -/
def inF (ps : List (List Int × List Int)) (k : Nat) (y : Int) : Int := inAt ps k y.toNat
def orderOf (ps : List (List Int × List Int)) (k : Nat) : List Int := ordTo (inF ps k) ps.length
/-- The model goes on behind each train that is in the way. -/
def goOn (ps : List (List Int × List Int)) (k : Nat) (r t y : Int) : Int := if meetsAt ps k t r y.toNat then outAt ps k y.toNat else t
def goTo (ps : List (List Int × List Int)) (k : Nat) (r s : Int) (xs : List Int) : Nat → Int
  | 0 => s
  | m + 1 => goOn ps k r (goTo ps k r s xs m) (xs.getD m 0)
theorem goTo_fold (ps : List (List Int × List Int)) (k : Nat) (r s : Int) (xs : List Int) : goTo ps k r s xs xs.length = xs.foldl (goOn ps k r) s := by
  have key : ∀ m, m ≤ xs.length → goTo ps k r s xs m = (xs.take m).foldl (goOn ps k r) s := by
    intro m
    induction m with
    | zero => intro _; simp [goTo]
    | succ m ih =>
      intro h
      show goOn ps k r (goTo ps k r s xs m) (xs.getD m 0) = _
      rw [ih (by omega), List.take_add_one, List.foldl_append]
      have e : xs[m]? = some (xs.getD m 0) := by rw [List.getD_eq_getElem?_getD, List.getElem?_eq_getElem (by omega)]; rfl
      rw [e]
      rfl
  have q := key xs.length (Nat.le_refl _)
  rwa [List.take_length] at q
theorem go_free {n : Int} {ps : List (List Int × List Int)} {k : Nat} {r s : Int} (h : pathsB n ps = true) (hk : (k : Int) < n) : ∀ (l : List Int) (t : Int) (D : Int → Prop), s ≤ t → t ≤ 2000 → Taken ps k r s t →
    (∀ d, D d → 0 ≤ d ∧ d.toNat < ps.length ∧ ¬ meetsAt ps k t r d.toNat) → (∀ y, y ∈ l → 0 ≤ y ∧ y.toNat < ps.length) → (∀ d, D d → ∀ y, y ∈ l → d ≠ y ∧ inF ps k d ≤ inF ps k y) → l.Pairwise (fun a b => a ≠ b ∧ inF ps k a ≤ inF ps k b) →
    s ≤ l.foldl (goOn ps k r) t ∧ l.foldl (goOn ps k r) t ≤ 2000 ∧ Taken ps k r s (l.foldl (goOn ps k r) t) ∧ ∀ d, (D d ∨ d ∈ l) → ¬ meetsAt ps k (l.foldl (goOn ps k r) t) r d.toNat := by
  intro l
  induction l with
  | nil =>
    intro t D h1 h2 h3 h4 _ _ _
    refine ⟨h1, h2, h3, fun d hd => ?_⟩
    rcases hd with e | e
    · exact (h4 d e).2.2
    · simp at e
  | cons y l ih =>
    intro t D h1 h2 h3 h4 h5 h6 h7
    rw [List.pairwise_cons] at h7
    obtain ⟨hy0, hyl⟩ := h5 y (by simp)
    have hyb := sec_bounds h hyl hk
    rw [List.foldl_cons]
    have next : ∀ t', s ≤ t' → t' ≤ 2000 → Taken ps k r s t' → (∀ d, D d → ¬ meetsAt ps k t' r d.toNat) → ¬ meetsAt ps k t' r y.toNat →
        s ≤ l.foldl (goOn ps k r) t' ∧ l.foldl (goOn ps k r) t' ≤ 2000 ∧ Taken ps k r s (l.foldl (goOn ps k r) t') ∧ ∀ d, (D d ∨ d ∈ y :: l) → ¬ meetsAt ps k (l.foldl (goOn ps k r) t') r d.toNat := by
      intro t' g1 g2 g3 g4 g5
      obtain ⟨a1, a2, a3, a4⟩ := ih t' (fun d => D d ∨ d = y) g1 g2 g3 (fun d hd => by
        rcases hd with e | e
        · exact ⟨(h4 d e).1, (h4 d e).2.1, g4 d e⟩
        · subst e; exact ⟨hy0, hyl, g5⟩) (fun z hz => h5 z (by simp [hz])) (fun d hd z hz => by
        rcases hd with e | e
        · exact h6 d e z (by simp [hz])
        · subst e; exact h7.1 z hz) h7.2
      refine ⟨a1, a2, a3, fun d hd => ?_⟩
      rcases hd with e | e
      · exact a4 d (.inl (.inl e))
      · rcases List.mem_cons.1 e with e | e
        · exact a4 d (.inl (.inr e))
        · exact a4 d (.inr e)
    by_cases hm : meetsAt ps k t r y.toNat
    · have e : goOn ps k r t y = outAt ps k y.toNat := if_pos hm
      rw [e]
      refine next _ (by have := hm.2; omega) (by unfold outAt; exact hyb.2.2.2.2) (h3.on hyl hm) (fun d hd q => ?_) (fun q => by have := q.2; omega)
      obtain ⟨d0, dl, _⟩ := h4 d hd
      obtain ⟨dn, df⟩ := h6 d hd y (by simp)
      have ap := apart_at h dl hyl (k := k) (fun e => dn (by omega)) hk
      have q2 := q.2
      have b1 : inAt ps k y.toNat < outAt ps k y.toNat := hyb.2.2.2.1
      unfold inF at df
      exact ap ⟨by omega, by omega⟩
    · have e : goOn ps k r t y = t := if_neg hm
      rw [e]
      exact next t h1 h2 h3 (fun d hd => (h4 d hd).2.2) hm
/-- What the model answers is the least free time. -/
theorem goTo_is {n : Int} {ps : List (List Int × List Int)} {k : Nat} {r s : Int} (h : pathsB n ps = true) (hk : (k : Int) < n) (h0 : 0 ≤ s) (h2 : s ≤ 2000) : goTo ps k r s (orderOf ps k) (orderOf ps k).length = freeT ps k r s := by
  rw [goTo_fold]
  have hmem : ∀ y, y ∈ orderOf ps k ↔ ∃ j : Nat, j < ps.length ∧ y = j := fun y => ordTo_mem
  obtain ⟨a1, a2, a3, a4⟩ := go_free h hk (orderOf ps k) s (fun _ => False) (Int.le_refl _) h2 (Taken.none _ _ _ _) (fun d hd => hd.elim) (fun y hy => by
    obtain ⟨j, hj, e⟩ := (hmem y).1 hy
    subst e
    exact ⟨by omega, by omega⟩) (fun d hd => hd.elim) (ordTo_pairs _ _)
  refine (freeT_is (fun i hi => ?_) a1 (by omega) a3).symm
  have q := a4 (i : Int) (.inr ((hmem _).2 ⟨i, hi, rfl⟩))
  rwa [Int.toNat_natCast] at q
theorem goTo_bounds {n : Int} {ps : List (List Int × List Int)} {k : Nat} {r s : Int} (h : pathsB n ps = true) (hk : (k : Int) < n) (h0 : 0 ≤ s) (h2 : s ≤ 2000) {xs : List Int} (hx : ∀ m, m < xs.length → 0 ≤ xs.getD m 0 ∧ (xs.getD m 0).toNat < ps.length) : ∀ m, m ≤ xs.length → 0 ≤ goTo ps k r s xs m ∧ goTo ps k r s xs m ≤ 2000 := by
  intro m
  induction m with
  | zero => intro _; exact ⟨h0, h2⟩
  | succ m ih =>
    intro hm
    have q := ih (by omega)
    have b := sec_bounds h (hx m (by omega)).2 hk
    show 0 ≤ goOn ps k r _ _ ∧ goOn ps k r _ _ ≤ 2000
    unfold goOn
    split
    · unfold outAt; omega
    · exact q
theorem order_get {ps : List (List Int × List Int)} {k m : Nat} (hm : m < (orderOf ps k).length) : 0 ≤ (orderOf ps k).getD m 0 ∧ ((orderOf ps k).getD m 0).toNat < ps.length := by
  have q : (orderOf ps k).getD m 0 ∈ orderOf ps k := by
    rw [List.getD_eq_getElem?_getD, List.getElem?_eq_getElem hm]
    exact List.getElem_mem hm
  obtain ⟨j, hj, e⟩ := ordTo_mem.1 q
  rw [e]
  omega
theorem order_len (ps : List (List Int × List Int)) (k : Nat) : (orderOf ps k).length = ps.length := ordTo_length _ _

end Go.Proofs.Ytoebgdcgcdigaab

/-
  The path that is fitted in, plainly. No walk.
-/
namespace Go.Proofs.Ytoebgdcgcdigaab

theorem freeN_ge (ps : List (List Int × List Int)) (k : Nat) (r : Int) : ∀ (f : Nat) (s : Int), s ≤ freeN ps k r f s := by
  intro f
  induction f with
  | zero => intro s; exact Int.le_refl _
  | succ f ih =>
    intro s
    unfold freeN
    split
    · exact Int.le_refl _
    · have := ih (s + 1); omega
theorem freeB_is {n k s r : Int} {ps : List (List Int × List Int)} (h : freeB n ps k s r = true) : hasB n ps k = true ∧ (1 ≤ r ∧ r ≤ 100) ∧ 0 ≤ freeV n ps k s r ∧ freeV n ps k s r + r ≤ 2000 := by
  have hv : freeV n ps k s r = freeT ps k.toNat r s := by unfold freeV; rw [h]; rfl
  rw [hv]
  unfold freeB at h
  simp only [Bool.and_eq_true, decide_eq_true_eq] at h
  obtain ⟨⟨h1, h2, h3⟩, h4⟩ := h
  have := freeN_ge ps k.toNat r 2001 s
  exact ⟨h1, h2, by unfold freeT; omega, h4⟩

/-- The time at which the train is ready for section k. -/
def fitTo (n : Int) (ps : List (List Int × List Int)) (s : Int) (rs : List Int) : Nat → Int
  | 0 => s
  | k + 1 => freeV n ps k (fitTo n ps s rs k) (rs.getD k 0) + rs.getD k 0
def fitIn (n : Int) (ps : List (List Int × List Int)) (s : Int) (rs : List Int) (k : Nat) : Int := freeV n ps k (fitTo n ps s rs k) (rs.getD k 0)
def fitOk (n : Int) (ps : List (List Int × List Int)) (s : Int) (rs : List Int) (k : Nat) : Bool := freeB n ps k (fitTo n ps s rs k) (rs.getD k 0)
def FitsTo (n : Int) (ps : List (List Int × List Int)) (s : Int) (rs : List Int) (k : Nat) : Prop := ∀ j, j < k → fitOk n ps s rs j = true
instance (n : Int) (ps : List (List Int × List Int)) (s : Int) (rs : List Int) (k : Nat) : Decidable (FitsTo n ps s rs k) := by unfold FitsTo; infer_instance
def fitB (n : Int) (ps : List (List Int × List Int)) (s : Int) (rs : List Int) : Bool := decide ((1 ≤ n ∧ n ≤ 5) ∧ (rs.length : Int) = n ∧ FitsTo n ps s rs rs.length)
def fitPath (n : Int) (ps : List (List Int × List Int)) (s : Int) (rs : List Int) (k : Nat) : List Int × List Int := ((List.range k).map (fitIn n ps s rs), (List.range k).map fun j => fitTo n ps s rs (j + 1))
def fitV (n : Int) (ps : List (List Int × List Int)) (s : Int) (rs : List Int) : List Int × List Int := if fitB n ps s rs then fitPath n ps s rs rs.length else ([], [])
theorem FitsTo.zero (n : Int) (ps : List (List Int × List Int)) (s : Int) (rs : List Int) : FitsTo n ps s rs 0 := fun j h => by omega
theorem FitsTo.succ {n : Int} {ps : List (List Int × List Int)} {s : Int} {rs : List Int} {k : Nat} (h : FitsTo n ps s rs k) (e : fitOk n ps s rs k = true) : FitsTo n ps s rs (k + 1) := fun j hj => by
  by_cases q : j = k
  · subst q; exact e
  · exact h j (by omega)
theorem fitB_len {n : Int} {ps : List (List Int × List Int)} {s : Int} {rs : List Int} (h : n < 1 ∨ 5 < n) : fitB n ps s rs = false := decide_eq_false fun q => by have := q.1; omega
theorem fitB_runs {n : Int} {ps : List (List Int × List Int)} {s : Int} {rs : List Int} (h : (rs.length : Int) ≠ n) : fitB n ps s rs = false := decide_eq_false fun q => h q.2.1
theorem fitB_no {n : Int} {ps : List (List Int × List Int)} {s : Int} {rs : List Int} {k : Nat} (hk : k < rs.length) (h : fitOk n ps s rs k = false) : fitB n ps s rs = false := decide_eq_false fun q => by
  have := q.2.2 k hk
  rw [h] at this
  cases this
theorem fitB_yes {n : Int} {ps : List (List Int × List Int)} {s : Int} {rs : List Int} (h1 : 1 ≤ n) (h5 : n ≤ 5) (hl : (rs.length : Int) = n) (h : FitsTo n ps s rs rs.length) : fitB n ps s rs = true := decide_eq_true ⟨⟨h1, h5⟩, hl, h⟩
theorem fitB_is {n : Int} {ps : List (List Int × List Int)} {s : Int} {rs : List Int} (h : fitB n ps s rs = true) : (1 ≤ n ∧ n ≤ 5) ∧ (rs.length : Int) = n ∧ FitsTo n ps s rs rs.length := of_decide_eq_true h
theorem fitB_paths {n : Int} {ps : List (List Int × List Int)} {s : Int} {rs : List Int} (h : pathsB n ps = false) : fitB n ps s rs = false := Bool.eq_false_iff.2 fun q => by
  obtain ⟨h1, h2, h3⟩ := fitB_is q
  have := (hasB_is (freeB_is (h3 0 (by omega))).1).1
  rw [h] at this
  cases this
theorem fitB_good {n : Int} {ps : List (List Int × List Int)} {s : Int} {rs : List Int} (h : ¬ (GoodTo rs rs.length ∧ (rs.length : Int) = n ∧ 1 ≤ n ∧ n ≤ 5)) : fitB n ps s rs = false := Bool.eq_false_iff.2 fun q => by
  obtain ⟨h1, h2, h3⟩ := fitB_is q
  exact h ⟨fun j hj => (freeB_is (h3 j hj)).2.1, h2, h1.1, h1.2⟩
theorem fitV_no {n : Int} {ps : List (List Int × List Int)} {s : Int} {rs : List Int} (h : fitB n ps s rs = false) : fitV n ps s rs = ([], []) := by unfold fitV; rw [h]; rfl
theorem fitV_yes {n : Int} {ps : List (List Int × List Int)} {s : Int} {rs : List Int} (h : fitB n ps s rs = true) : fitV n ps s rs = fitPath n ps s rs rs.length := by unfold fitV; rw [h]; rfl
theorem fitPath_succ1 (n : Int) (ps : List (List Int × List Int)) (s : Int) (rs : List Int) (k : Nat) : (fitPath n ps s rs (k + 1)).1 = (fitPath n ps s rs k).1 ++ [fitIn n ps s rs k] := by simp [fitPath, List.range_succ]
theorem fitPath_succ2 (n : Int) (ps : List (List Int × List Int)) (s : Int) (rs : List Int) (k : Nat) : (fitPath n ps s rs (k + 1)).2 = (fitPath n ps s rs k).2 ++ [fitTo n ps s rs (k + 1)] := by simp [fitPath, List.range_succ]
theorem fitPath_len (n : Int) (ps : List (List Int × List Int)) (s : Int) (rs : List Int) (k : Nat) : (fitPath n ps s rs k).1.length = k ∧ (fitPath n ps s rs k).2.length = k := by simp [fitPath]
theorem fitV_len (n : Int) (ps : List (List Int × List Int)) (s : Int) (rs : List Int) : (fitV n ps s rs).1.length ≤ 5 ∧ (fitV n ps s rs).2.length ≤ 5 := by
  cases h : fitB n ps s rs
  · rw [fitV_no h]; simp
  · rw [fitV_yes h]
    have := fitB_is h
    have := fitPath_len n ps s rs rs.length
    omega

end Go.Proofs.Ytoebgdcgcdigaab

/-
  A fitted path behind all others, plainly: they are paths again if they were less than eight. No walk.
-/
namespace Go.Proofs.Ytoebgdcgcdigaab

/-- At the least free time no path is met. -/
theorem freeT_free {n : Int} {ps : List (List Int × List Int)} {k : Nat} {r s : Int} (h : pathsB n ps = true) (hk : (k : Int) < n) (h0 : 0 ≤ s) (h2 : s ≤ 2000) : FreeAt ps k r (freeT ps k r s) := by
  have hmem : ∀ y, y ∈ orderOf ps k ↔ ∃ j : Nat, j < ps.length ∧ y = j := fun y => ordTo_mem
  obtain ⟨a1, a2, a3, a4⟩ := go_free (r := r) h hk (orderOf ps k) s (fun _ => False) (Int.le_refl _) h2 (Taken.none _ _ _ _) (fun d hd => hd.elim) (fun y hy => by
    obtain ⟨j, hj, e⟩ := (hmem y).1 hy
    subst e
    exact ⟨by omega, by omega⟩) (fun d hd => hd.elim) (ordTo_pairs _ _)
  have hf : FreeAt ps k r ((orderOf ps k).foldl (goOn ps k r) s) := fun i hi => by
    have q := a4 (i : Int) (.inr ((hmem _).2 ⟨i, hi, rfl⟩))
    rwa [Int.toNat_natCast] at q
  rw [freeT_is hf a1 (by omega) a3]
  exact hf
theorem freeB_args2 {n k s r : Int} {ps : List (List Int × List Int)} (h : freeB n ps k s r = true) : (0 ≤ s ∧ s ≤ 2000) ∧ freeV n ps k s r = freeT ps k.toNat r s := by
  have hv : freeV n ps k s r = freeT ps k.toNat r s := by unfold freeV; rw [h]; rfl
  unfold freeB at h
  simp only [Bool.and_eq_true, decide_eq_true_eq] at h
  exact ⟨h.1.2.2, hv⟩
theorem fitPath_get {n : Int} {ps : List (List Int × List Int)} {s : Int} {rs : List Int} {k j : Nat} (h : j < k) : (fitPath n ps s rs k).1.getD j 0 = fitIn n ps s rs j ∧ (fitPath n ps s rs k).2.getD j 0 = fitTo n ps s rs (j + 1) := by simp [fitPath, h]
theorem fitTo_next (n : Int) (ps : List (List Int × List Int)) (s : Int) (rs : List Int) (j : Nat) : fitTo n ps s rs (j + 1) = fitIn n ps s rs j + rs.getD j 0 := rfl
/-- A fitted path is one. -/
theorem fit_path {n : Int} {ps : List (List Int × List Int)} {s : Int} {rs : List Int} (h : fitB n ps s rs = true) : pathB n (fitPath n ps s rs rs.length) = true := by
  obtain ⟨h1, h2, h3⟩ := fitB_is h
  obtain ⟨l1, l2⟩ := fitPath_len n ps s rs rs.length
  refine pathB_yes h1.1 h1.2 (by rw [l1]; exact h2) (by rw [l2]; exact h2) ?_
  rw [l1]
  intro j hj
  obtain ⟨e1, e2⟩ := fitPath_get (n := n) (ps := ps) (s := s) (rs := rs) hj
  have g := freeB_is (h3 j hj)
  have g2 := freeB_args2 (h3 j hj)
  have ge := freeN_ge ps ((j : Int)).toNat (rs.getD j 0) 2001 (fitTo n ps s rs j)
  have hv : fitIn n ps s rs j = freeV n ps j (fitTo n ps s rs j) (rs.getD j 0) := rfl
  have hge : fitTo n ps s rs j ≤ fitIn n ps s rs j := by rw [hv, g2.2]; exact ge
  unfold secOk
  rw [e1, e2, fitTo_next]
  rw [← hv] at g
  refine ⟨?_, by omega, by omega⟩
  cases j with
  | zero => rw [readyAt_zero]; omega
  | succ i =>
    rw [readyAt_succ, (fitPath_get (n := n) (ps := ps) (s := s) (rs := rs) (show i < rs.length by omega)).2]
    exact hge
theorem clashTo_none {p q : List Int × List Int} {m : Nat} (h : ∀ k, k < m → clashAt p q k = false) : clashTo p q m = [] := by
  induction m with
  | zero => rfl
  | succ m ih =>
    rw [clashTo_no (h m (by omega))]
    exact ih (fun k hk => h k (by omega))
/-- It clashes with none. -/
theorem fit_apart {n : Int} {ps : List (List Int × List Int)} {s : Int} {rs : List Int} (h : fitB n ps s rs = true) {i : Nat} (hi : i < ps.length) : clashOf n (fitPath n ps s rs rs.length) (ps.getD i noPath) = [] := by
  obtain ⟨h1, h2, h3⟩ := fitB_is h
  have hp := (hasB_is (freeB_is (h3 0 (by omega))).1).1
  have b1 := fit_path h
  have b2 := pathsB_at hp hi
  have cb : clashB n (fitPath n ps s rs rs.length) (ps.getD i noPath) = true := by unfold clashB; rw [b1, b2]; rfl
  rw [clashOf_yes cb, (fitPath_len n ps s rs rs.length).1]
  refine clashTo_none (fun k hk => decide_eq_false (fun q => ?_))
  obtain ⟨e1, e2⟩ := fitPath_get (n := n) (ps := ps) (s := s) (rs := rs) hk
  rw [e1, e2, fitTo_next] at q
  obtain ⟨⟨s0, s2⟩, hv⟩ := freeB_args2 (h3 k hk)
  have hf := freeT_free (r := rs.getD k 0) hp (k := k) (by omega) s0 s2 i hi
  have e : fitIn n ps s rs k = freeT ps k (rs.getD k 0) (fitTo n ps s rs k) := by
    show freeV n ps k (fitTo n ps s rs k) (rs.getD k 0) = _
    rw [hv, Int.toNat_natCast]
  rw [e] at q
  exact hf ⟨q.2, q.1⟩
theorem add_getD (ps : List (List Int × List Int)) (p : List Int × List Int) {i : Nat} (hi : i < ps.length) : (ps ++ [p]).getD i noPath = ps.getD i noPath := by
  rw [List.getD_eq_getElem?_getD, List.getD_eq_getElem?_getD, List.getElem?_append_left hi]
theorem add_last (ps : List (List Int × List Int)) (p : List Int × List Int) : (ps ++ [p]).getD ps.length noPath = p := by
  rw [List.getD_eq_getElem?_getD, List.getElem?_append_right (Nat.le_refl _)]
  simp
/-- Paths and a fitted one are paths, exactly if they were less than eight. -/
theorem add_paths {n : Int} {ps : List (List Int × List Int)} {s : Int} {rs : List Int} (h : fitB n ps s rs = true) : pathsB n (ps ++ [fitPath n ps s rs rs.length]) = decide (ps.length < 8) := by
  obtain ⟨h1, h2, h3⟩ := fitB_is h
  have hp := (hasB_is (freeB_is (h3 0 (by omega))).1).1
  by_cases h8 : ps.length < 8
  · rw [decide_eq_true h8]
    refine pathsB_yes h1.1 h1.2 (by simp; omega) (fun i hi => ?_)
    rw [List.length_append] at hi
    simp only [List.length_cons, List.length_nil] at hi
    by_cases e : i = ps.length
    · subst e
      refine rowB_yes (by rw [add_last]; exact fit_path h) (fun j hj => ?_)
      rw [add_last, add_getD _ _ hj]
      exact fit_apart h hj
    · have hi' : i < ps.length := by omega
      have q := rowB_is ((pathsB_is hp).2.2 i hi')
      refine rowB_yes (by rw [add_getD _ _ hi']; exact q.1) (fun j hj => ?_)
      rw [add_getD _ _ hi', add_getD _ _ (by omega)]
      exact q.2 j hj
  · rw [decide_eq_false h8]
    exact pathsB_long (by simp; omega)

end Go.Proofs.Ytoebgdcgcdigaab
