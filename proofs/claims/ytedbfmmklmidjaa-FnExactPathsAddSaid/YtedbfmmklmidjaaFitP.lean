/-
  The path that is fitted in, plainly. No walk.
-/
import Derived.Test.YtedbfmmklmidjaaFreeP
import Derived.Test.YtedbfmmklmidjaaRunP
namespace Go.Proofs.Ytedbfmmklmidjaa

theorem freeN_ge (ps : List (List Int × List Int)) (k : Nat) (r : Int) : ∀ (f : Nat) (s : Int), s ≤ freeN ps k r f s := by
  intro f
  induction f with
  | zero => intro s; exact Int.le_refl _
  | succ f ih =>
    intro s
    unfold freeN
    split
    · exact Int.le_refl _
    · have := ih (s + 1); omega
theorem freeB_is {n k s r : Int} {ps : List (List Int × List Int)} (h : freeB n ps k s r = true) : hasB n ps k = true ∧ (1 ≤ r ∧ r ≤ 100) ∧ 0 ≤ freeV n ps k s r ∧ freeV n ps k s r + r ≤ 2000 := by
  have hv : freeV n ps k s r = freeT ps k.toNat r s := by unfold freeV; rw [h]; rfl
  rw [hv]
  unfold freeB at h
  simp only [Bool.and_eq_true, decide_eq_true_eq] at h
  obtain ⟨⟨h1, h2, h3⟩, h4⟩ := h
  have := freeN_ge ps k.toNat r 2001 s
  exact ⟨h1, h2, by unfold freeT; omega, h4⟩

/-- The time at which the train is ready for section k. -/
def fitTo (n : Int) (ps : List (List Int × List Int)) (s : Int) (rs : List Int) : Nat → Int
  | 0 => s
  | k + 1 => freeV n ps k (fitTo n ps s rs k) (rs.getD k 0) + rs.getD k 0
def fitIn (n : Int) (ps : List (List Int × List Int)) (s : Int) (rs : List Int) (k : Nat) : Int := freeV n ps k (fitTo n ps s rs k) (rs.getD k 0)
def fitOk (n : Int) (ps : List (List Int × List Int)) (s : Int) (rs : List Int) (k : Nat) : Bool := freeB n ps k (fitTo n ps s rs k) (rs.getD k 0)
def FitsTo (n : Int) (ps : List (List Int × List Int)) (s : Int) (rs : List Int) (k : Nat) : Prop := ∀ j, j < k → fitOk n ps s rs j = true
instance (n : Int) (ps : List (List Int × List Int)) (s : Int) (rs : List Int) (k : Nat) : Decidable (FitsTo n ps s rs k) := by unfold FitsTo; infer_instance
def fitB (n : Int) (ps : List (List Int × List Int)) (s : Int) (rs : List Int) : Bool := decide ((1 ≤ n ∧ n ≤ 5) ∧ (rs.length : Int) = n ∧ FitsTo n ps s rs rs.length)
def fitPath (n : Int) (ps : List (List Int × List Int)) (s : Int) (rs : List Int) (k : Nat) : List Int × List Int := ((List.range k).map (fitIn n ps s rs), (List.range k).map fun j => fitTo n ps s rs (j + 1))
def fitV (n : Int) (ps : List (List Int × List Int)) (s : Int) (rs : List Int) : List Int × List Int := if fitB n ps s rs then fitPath n ps s rs rs.length else ([], [])
theorem FitsTo.zero (n : Int) (ps : List (List Int × List Int)) (s : Int) (rs : List Int) : FitsTo n ps s rs 0 := fun j h => by omega
theorem FitsTo.succ {n : Int} {ps : List (List Int × List Int)} {s : Int} {rs : List Int} {k : Nat} (h : FitsTo n ps s rs k) (e : fitOk n ps s rs k = true) : FitsTo n ps s rs (k + 1) := fun j hj => by
  by_cases q : j = k
  · subst q; exact e
  · exact h j (by omega)
theorem fitB_len {n : Int} {ps : List (List Int × List Int)} {s : Int} {rs : List Int} (h : n < 1 ∨ 5 < n) : fitB n ps s rs = false := decide_eq_false fun q => by have := q.1; omega
theorem fitB_runs {n : Int} {ps : List (List Int × List Int)} {s : Int} {rs : List Int} (h : (rs.length : Int) ≠ n) : fitB n ps s rs = false := decide_eq_false fun q => h q.2.1
theorem fitB_no {n : Int} {ps : List (List Int × List Int)} {s : Int} {rs : List Int} {k : Nat} (hk : k < rs.length) (h : fitOk n ps s rs k = false) : fitB n ps s rs = false := decide_eq_false fun q => by
  have := q.2.2 k hk
  rw [h] at this
  cases this
theorem fitB_yes {n : Int} {ps : List (List Int × List Int)} {s : Int} {rs : List Int} (h1 : 1 ≤ n) (h5 : n ≤ 5) (hl : (rs.length : Int) = n) (h : FitsTo n ps s rs rs.length) : fitB n ps s rs = true := decide_eq_true ⟨⟨h1, h5⟩, hl, h⟩
theorem fitB_is {n : Int} {ps : List (List Int × List Int)} {s : Int} {rs : List Int} (h : fitB n ps s rs = true) : (1 ≤ n ∧ n ≤ 5) ∧ (rs.length : Int) = n ∧ FitsTo n ps s rs rs.length := of_decide_eq_true h
theorem fitB_paths {n : Int} {ps : List (List Int × List Int)} {s : Int} {rs : List Int} (h : pathsB n ps = false) : fitB n ps s rs = false := Bool.eq_false_iff.2 fun q => by
  obtain ⟨h1, h2, h3⟩ := fitB_is q
  have := (hasB_is (freeB_is (h3 0 (by omega))).1).1
  rw [h] at this
  cases this
theorem fitB_good {n : Int} {ps : List (List Int × List Int)} {s : Int} {rs : List Int} (h : ¬ (GoodTo rs rs.length ∧ (rs.length : Int) = n ∧ 1 ≤ n ∧ n ≤ 5)) : fitB n ps s rs = false := Bool.eq_false_iff.2 fun q => by
  obtain ⟨h1, h2, h3⟩ := fitB_is q
  exact h ⟨fun j hj => (freeB_is (h3 j hj)).2.1, h2, h1.1, h1.2⟩
theorem fitV_no {n : Int} {ps : List (List Int × List Int)} {s : Int} {rs : List Int} (h : fitB n ps s rs = false) : fitV n ps s rs = ([], []) := by unfold fitV; rw [h]; rfl
theorem fitV_yes {n : Int} {ps : List (List Int × List Int)} {s : Int} {rs : List Int} (h : fitB n ps s rs = true) : fitV n ps s rs = fitPath n ps s rs rs.length := by unfold fitV; rw [h]; rfl
theorem fitPath_succ1 (n : Int) (ps : List (List Int × List Int)) (s : Int) (rs : List Int) (k : Nat) : (fitPath n ps s rs (k + 1)).1 = (fitPath n ps s rs k).1 ++ [fitIn n ps s rs k] := by simp [fitPath, List.range_succ]
theorem fitPath_succ2 (n : Int) (ps : List (List Int × List Int)) (s : Int) (rs : List Int) (k : Nat) : (fitPath n ps s rs (k + 1)).2 = (fitPath n ps s rs k).2 ++ [fitTo n ps s rs (k + 1)] := by simp [fitPath, List.range_succ]
theorem fitPath_len (n : Int) (ps : List (List Int × List Int)) (s : Int) (rs : List Int) (k : Nat) : (fitPath n ps s rs k).1.length = k ∧ (fitPath n ps s rs k).2.length = k := by simp [fitPath]
theorem fitV_len (n : Int) (ps : List (List Int × List Int)) (s : Int) (rs : List Int) : (fitV n ps s rs).1.length ≤ 5 ∧ (fitV n ps s rs).2.length ≤ 5 := by
  cases h : fitB n ps s rs
  · rw [fitV_no h]; simp
  · rw [fitV_yes h]
    have := fitB_is h
    have := fitPath_len n ps s rs rs.length
    omega

end Go.Proofs.Ytedbfmmklmidjaa
