/-
  The least time from which a section is free, plainly. No walk.
-/
import Derived.Test.YtedbfmmklmidjaaBusyP
namespace Go.Proofs.Ytedbfmmklmidjaa

/-- The In and the Out of path i in section k. -/
def inAt (ps : List (List Int × List Int)) (k i : Nat) : Int := (ps.getD i noPath).1.getD k 0
def outAt (ps : List (List Int × List Int)) (k i : Nat) : Int := (ps.getD i noPath).2.getD k 0
/-- A train that is in section k from t on for r minutes meets path i there. -/
def meetsAt (ps : List (List Int × List Int)) (k : Nat) (t r : Int) (i : Nat) : Prop := inAt ps k i < t + r ∧ t < outAt ps k i
instance (ps : List (List Int × List Int)) (k : Nat) (t r : Int) (i : Nat) : Decidable (meetsAt ps k t r i) := by unfold meetsAt; infer_instance
def FreeAt (ps : List (List Int × List Int)) (k : Nat) (r t : Int) : Prop := ∀ i, i < ps.length → ¬ meetsAt ps k t r i
instance (ps : List (List Int × List Int)) (k : Nat) (r t : Int) : Decidable (FreeAt ps k r t) := by unfold FreeAt; infer_instance
/-- The least time from s on, looked for minute by minute. -/
def freeN (ps : List (List Int × List Int)) (k : Nat) (r : Int) : Nat → Int → Int
  | 0, s => s
  | f + 1, s => if FreeAt ps k r s then s else freeN ps k r f (s + 1)
def freeT (ps : List (List Int × List Int)) (k : Nat) (r s : Int) : Int := freeN ps k r 2001 s
/-- All times from s up to t are taken. -/
def Taken (ps : List (List Int × List Int)) (k : Nat) (r s t : Int) : Prop := ∀ u, s ≤ u → u < t → ¬ FreeAt ps k r u
theorem Taken.none (ps : List (List Int × List Int)) (k : Nat) (r s : Int) : Taken ps k r s s := fun u h1 h2 => by omega
theorem freeN_is {ps : List (List Int × List Int)} {k : Nat} {r t : Int} (h : FreeAt ps k r t) : ∀ (f : Nat) (s : Int), s ≤ t → t - s ≤ f → Taken ps k r s t → freeN ps k r f s = t := by
  intro f
  induction f with
  | zero => intro s h1 h2 _; show s = t; omega
  | succ f ih =>
    intro s h1 h2 h3
    unfold freeN
    by_cases e : s = t
    · rw [if_pos (by rw [e]; exact h)]; exact e
    · rw [if_neg (h3 s (by omega) (by omega))]
      exact ih (s + 1) (by omega) (by omega) (fun u q1 q2 => h3 u (by omega) q2)
theorem freeT_is {ps : List (List Int × List Int)} {k : Nat} {r s t : Int} (h : FreeAt ps k r t) (h1 : s ≤ t) (h2 : t - s ≤ 2001) (h3 : Taken ps k r s t) : freeT ps k r s = t := freeN_is h 2001 s h1 h2 h3
/-- From a time at which a path is met, up to that path's Out, it is met. -/
theorem Taken.on {ps : List (List Int × List Int)} {k i : Nat} {r s t : Int} (h : Taken ps k r s t) (hi : i < ps.length) (hm : meetsAt ps k t r i) : Taken ps k r s (outAt ps k i) := by
  intro u h1 h2 hf
  by_cases q : u < t
  · exact h u h1 q hf
  · exact hf i hi ⟨by have := hm.1; omega, h2⟩

/-- The answer of PathsFree. -/
def freeB (n : Int) (ps : List (List Int × List Int)) (k s r : Int) : Bool := hasB n ps k && decide ((1 ≤ r ∧ r ≤ 100) ∧ (0 ≤ s ∧ s ≤ 2000)) && decide (freeT ps k.toNat r s + r ≤ 2000)
def freeV (n : Int) (ps : List (List Int × List Int)) (k s r : Int) : Int := if freeB n ps k s r then freeT ps k.toNat r s else 0
def FreePost (n : Int) (ps : List (List Int × List Int)) (k s r : Int) (v : Int) (b : Bool) : Prop := v = freeV n ps k s r ∧ b = freeB n ps k s r
theorem freePost_no {n k s r : Int} {ps : List (List Int × List Int)} (h : freeB n ps k s r = false) : FreePost n ps k s r 0 false := by
  unfold FreePost freeV
  rw [h]
  exact ⟨rfl, rfl⟩
theorem freePost_yes {n k s r : Int} {ps : List (List Int × List Int)} (h : freeB n ps k s r = true) : FreePost n ps k s r (freeT ps k.toNat r s) true := by
  unfold FreePost freeV
  rw [h]
  exact ⟨rfl, rfl⟩
theorem freeB_has {n k s r : Int} {ps : List (List Int × List Int)} (h : hasB n ps k = false) : freeB n ps k s r = false := by unfold freeB; rw [h]; rfl
theorem freeB_args {n k s r : Int} {ps : List (List Int × List Int)} (h : ¬ ((1 ≤ r ∧ r ≤ 100) ∧ (0 ≤ s ∧ s ≤ 2000))) : freeB n ps k s r = false := by unfold freeB; rw [decide_eq_false h]; simp
theorem freeB_late {n k s r : Int} {ps : List (List Int × List Int)} (h : ¬ freeT ps k.toNat r s + r ≤ 2000) : freeB n ps k s r = false := by unfold freeB; rw [decide_eq_false h]; simp
theorem freeB_yes {n k s r : Int} {ps : List (List Int × List Int)} (h : hasB n ps k = true) (h1 : (1 ≤ r ∧ r ≤ 100) ∧ (0 ≤ s ∧ s ≤ 2000)) (h2 : freeT ps k.toNat r s + r ≤ 2000) : freeB n ps k s r = true := by unfold freeB; rw [h, decide_eq_true h1, decide_eq_true h2]; rfl

/-- Of two paths of a list the one that is in a section first is out before the other is in. -/
theorem clashTo_nil {p q : List Int × List Int} {m : Nat} (h : clashTo p q m = []) : ∀ k, k < m → clashAt p q k = false := by
  induction m with
  | zero => intro k hk; omega
  | succ m ih =>
    simp only [clashTo, List.append_eq_nil_iff] at h
    intro k hk
    by_cases e : k = m
    · subst e
      cases hc : clashAt p q k
      · rfl
      · rw [hc] at h; simp at h
    · exact ih h.1 k (by omega)
theorem apart_at {n : Int} {ps : List (List Int × List Int)} (h : pathsB n ps = true) {i j k : Nat} (hi : i < ps.length) (hj : j < ps.length) (hij : i ≠ j) (hk : (k : Int) < n) : ¬ (inAt ps k i < outAt ps k j ∧ inAt ps k j < outAt ps k i) := by
  have key : ∀ i j, i < ps.length → j < i → ¬ (inAt ps k i < outAt ps k j ∧ inAt ps k j < outAt ps k i) := by
    intro i j hi hj q
    have r := (rowB_is ((pathsB_is h).2.2 i hi)).2 j hj
    have b1 := pathsB_at h hi
    have b2 := pathsB_at h (i := j) (by omega)
    have cb : clashB n (ps.getD i noPath) (ps.getD j noPath) = true := by unfold clashB; rw [b1, b2]; rfl
    rw [clashOf_yes cb] at r
    have c := clashTo_nil r k (by have := (sec_bounds h hi hk).1; exact this)
    unfold clashAt at c
    exact of_decide_eq_false c q
  rcases Nat.lt_or_gt_of_ne hij with q | q
  · exact fun e => key j i hj q ⟨e.2, e.1⟩
  · exact key i j hi q

end Go.Proofs.Ytedbfmmklmidjaa
