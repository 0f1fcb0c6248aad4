/-
  Lines of boxes, plainly. No walk.
-/
import Derived.Test.YtpofkfcjnhoamaaBlockP
namespace Go.Proofs.Ytpofkfcjnhoamaa

/-- A line: its blocks and the places of its trains. -/
abbrev Ln := List Blk × List Int
def noLn : Ln := ([], [])
/-- How many of the first j trains are at a place. -/
def cntP (ts : List Int) (p : Int) : Nat → Int
  | 0 => 0
  | j + 1 => if ts.getD j 0 = p then cntP ts p j + 1 else cntP ts p j
theorem cntP_range (ts : List Int) (p : Int) (j : Nat) : 0 ≤ cntP ts p j ∧ cntP ts p j ≤ j := by
  induction j with
  | zero => simp [cntP]
  | succ j ih => simp only [cntP]; split <;> omega
theorem cntP_yes {ts : List Int} {p : Int} {j : Nat} (h : ts.getD j 0 = p) : cntP ts p (j + 1) = cntP ts p j + 1 := by simp only [cntP, if_pos h]
theorem cntP_no {ts : List Int} {p : Int} {j : Nat} (h : ¬ ts.getD j 0 = p) : cntP ts p (j + 1) = cntP ts p j := by simp only [cntP, if_neg h]
theorem cntP_mono (ts : List Int) (p : Int) {i j : Nat} (h : i ≤ j) : cntP ts p i ≤ cntP ts p j := by
  induction j with
  | zero => obtain rfl : i = 0 := by omega
            exact Int.le_refl _
  | succ j ih =>
    by_cases e : i = j + 1
    · rw [e]; exact Int.le_refl _
    · have := ih (by omega)
      simp only [cntP]; split <;> omega
def cntAt (ts : List Int) (p : Int) : Int := cntP ts p ts.length
theorem cntAt_range (ts : List Int) (p : Int) : 0 ≤ cntAt ts p ∧ cntAt ts p ≤ ts.length := cntP_range ts p ts.length
/-- The first j places are in their range, and do not rise. -/
def PlTo (n : Nat) (ts : List Int) (j : Nat) : Prop := ∀ i, i < j → 0 ≤ ts.getD i 0 ∧ ts.getD i 0 ≤ 2 * (n : Int) ∧ (0 < i → ts.getD i 0 ≤ ts.getD (i - 1) 0)
theorem PlTo.zero (n : Nat) (ts : List Int) : PlTo n ts 0 := fun i hi => by omega
theorem PlTo.succ {n : Nat} {ts : List Int} {j : Nat} (h : PlTo n ts j) (e : 0 ≤ ts.getD j 0 ∧ ts.getD j 0 ≤ 2 * (n : Int) ∧ (0 < j → ts.getD j 0 ≤ ts.getD (j - 1) 0)) : PlTo n ts (j + 1) := fun i hi => by
  by_cases q : i = j
  · subst q; exact e
  · exact h i (by omega)
/-- One train in a section, or none. -/
def insN (b : Blk) : Int := if b.2.1 then 1 else 0
def LnOk (l : Ln) : Prop :=
  (1 ≤ l.1.length ∧ l.1.length ≤ 5) ∧ l.2.length ≤ 5 ∧ PlTo l.1.length l.2 l.2.length ∧ ∀ k, k < l.1.length → bkPos (l.1.getD k nb) = true ∧ cntAt l.2 (2 * k + 1) = insN (l.1.getD k nb)
noncomputable def lnB (l : Ln) : Bool := @decide (LnOk l) (Classical.propDecidable _)
theorem lnB_yes {l : Ln} (h : LnOk l) : lnB l = true := @decide_eq_true _ (Classical.propDecidable _) h
theorem lnB_no {l : Ln} (h : ¬ LnOk l) : lnB l = false := @decide_eq_false _ (Classical.propDecidable _) h
theorem lnB_is {l : Ln} (h : lnB l = true) : LnOk l := @of_decide_eq_true _ (Classical.propDecidable _) h
theorem lnB_not {l : Ln} (h : lnB l = false) : ¬ LnOk l := @of_decide_eq_false _ (Classical.propDecidable _) h

/-- Of the first train at a place. -/
def fstP (ts : List Int) (p : Int) : Nat → Option Nat
  | 0 => none
  | j + 1 => match fstP ts p j with
    | some i => some i
    | none => if ts.getD j 0 = p then some j else none
theorem fstP_none {ts : List Int} {p : Int} {j : Nat} (h : ∀ i, i < j → ts.getD i 0 ≠ p) : fstP ts p j = none := by
  induction j with
  | zero => rfl
  | succ j ih => unfold fstP; rw [ih fun i hi => h i (by omega)]; simp only; rw [if_neg (h j (by omega))]
theorem fstP_some {ts : List Int} {p : Int} {i j : Nat} (hi : i < j) (e : ts.getD i 0 = p) (h : ∀ m, m < i → ts.getD m 0 ≠ p) : fstP ts p j = some i := by
  induction j with
  | zero => omega
  | succ j ih =>
    unfold fstP
    by_cases q : i < j
    · rw [ih q]
    · obtain rfl : i = j := by omega
      rw [fstP_none h]; simp only; rw [if_pos e]
theorem fstP_is {ts : List Int} {p : Int} {j i : Nat} (h : fstP ts p j = some i) : i < j ∧ ts.getD i 0 = p ∧ ∀ m, m < i → ts.getD m 0 ≠ p := by
  induction j with
  | zero => simp [fstP] at h
  | succ j ih =>
    unfold fstP at h
    cases e : fstP ts p j with
    | some x =>
      rw [e] at h
      simp only [Option.some.injEq] at h
      subst h
      have := ih e
      exact ⟨by omega, this.2⟩
    | none =>
      rw [e] at h
      simp only at h
      split at h
      · simp only [Option.some.injEq] at h
        subst h
        refine ⟨by omega, by assumption, fun m hm q => ?_⟩
        have := fstP_some (ts := ts) (p := p) (i := m) (j := j)
        by_cases w : ∀ m', m' < m → ts.getD m' 0 ≠ p
        · rw [this hm q w] at e; cases e
        · exact absurd (show ∃ m', m' < j ∧ ts.getD m' 0 = p ∧ ∀ x, x < m' → ts.getD x 0 ≠ p from by
            clear this w
            induction m using Nat.strongRecOn with
            | _ m IH =>
              by_cases w : ∀ m', m' < m → ts.getD m' 0 ≠ p
              · exact ⟨m, hm, q, w⟩
              · simp only [Classical.not_forall, ne_eq, Classical.not_not] at w
                obtain ⟨m', h1, h2⟩ := w
                exact IH m' h1 (by omega) h2) (fun ⟨m', h1, h2, h3⟩ => by rw [fstP_some h1 h2 h3] at e; cases e)
      · cases h
theorem fstP_not {ts : List Int} {p : Int} {j : Nat} (h : fstP ts p j = none) : ∀ i, i < j → ts.getD i 0 ≠ p := by
  induction j with
  | zero => intro i hi; omega
  | succ j ih =>
    unfold fstP at h
    cases e : fstP ts p j with
    | some x => rw [e] at h; cases h
    | none =>
      rw [e] at h
      simp only at h
      split at h
      · cases h
      · intro i hi
        by_cases q : i = j
        · subst q; assumption
        · exact ih e i (by omega)
def fst (ts : List Int) (p : Int) : Option Nat := fstP ts p ts.length
theorem fst_is {ts : List Int} {p : Int} {i : Nat} (h : fst ts p = some i) : i < ts.length ∧ ts.getD i 0 = p ∧ ∀ m, m < i → ts.getD m 0 ≠ p := fstP_is h
theorem fst_not {ts : List Int} {p : Int} (h : fst ts p = none) : ∀ i, i < ts.length → ts.getD i 0 ≠ p := fstP_not h
theorem fst_some {ts : List Int} {p : Int} {i : Nat} (hi : i < ts.length) (e : ts.getD i 0 = p) (h : ∀ m, m < i → ts.getD m 0 ≠ p) : fst ts p = some i := fstP_some hi e h
theorem fst_none {ts : List Int} {p : Int} (h : ∀ i, i < ts.length → ts.getD i 0 ≠ p) : fst ts p = none := fstP_none h
/-- As a number, -1 for none. -/
def fstI (ts : List Int) (p : Int) : Int := match fst ts p with | some i => i | none => -1

/-- A move: a section and a letter. -/
abbrev Mv := Int × ByteArray
def noMv : Mv := (0, ⟨#[]⟩)
def isE (S : ByteArray) : Bool := decide (S.size = 1 ∧ bt S 0 = 101)
def isL (S : ByteArray) : Bool := decide (S.size = 1 ∧ bt S 0 = 108)
/-- The trains behind a move. -/
def goTo (ts : List Int) (m : Mv) : Option (List Int) :=
  if isE m.2 then (fst ts (2 * m.1)).map fun i => ts.set i (2 * m.1 + 1)
  else if isL m.2 then (fst ts (2 * m.1 + 1)).map fun i => ts.set i (2 * m.1 + 1 + 1)
  else some ts
/-- The line behind a move, of a valid line. -/
def lnDo (l : Ln) (m : Mv) : Option Ln :=
  if 0 ≤ m.1 ∧ m.1 < l.1.length then (bkOne (l.1.getD m.1.toNat nb) m.2).bind fun b => (goTo l.2 m).map fun ts => (l.1.set m.1.toNat b, ts) else none
/-- Are the line's blocks normal, and are all trains at the end? -/
def LnDone (l : Ln) : Prop := (∀ k, k < l.1.length → l.1.getD k nb = nb) ∧ ∀ i, i < l.2.length → l.2.getD i 0 = 2 * (l.1.length : Int)
noncomputable def doneB (l : Ln) : Bool := @decide (LnDone l) (Classical.propDecidable _)
theorem doneB_yes {l : Ln} (h : LnDone l) : doneB l = true := @decide_eq_true _ (Classical.propDecidable _) h
theorem doneB_no {l : Ln} (h : ¬ LnDone l) : doneB l = false := @decide_eq_false _ (Classical.propDecidable _) h
theorem doneB_is {l : Ln} (h : doneB l = true) : LnDone l := @of_decide_eq_true _ (Classical.propDecidable _) h
theorem doneB_not {l : Ln} (h : doneB l = false) : ¬ LnDone l := @of_decide_eq_false _ (Classical.propDecidable _) h
/-- How many of the first j trains come to a section, and the events that it needs. -/
def comP (ts : List Int) (p : Int) : Nat → Int
  | 0 => 0
  | j + 1 => if ts.getD j 0 ≤ p then comP ts p j + 1 else comP ts p j
theorem comP_range (ts : List Int) (p : Int) (j : Nat) : 0 ≤ comP ts p j ∧ comP ts p j ≤ j := by
  induction j with
  | zero => simp [comP]
  | succ j ih => simp only [comP]; split <;> omega
theorem comP_yes {ts : List Int} {p : Int} {j : Nat} (h : ts.getD j 0 ≤ p) : comP ts p (j + 1) = comP ts p j + 1 := by simp only [comP, if_pos h]
theorem comP_no {ts : List Int} {p : Int} {j : Nat} (h : ¬ ts.getD j 0 ≤ p) : comP ts p (j + 1) = comP ts p j := by simp only [comP, if_neg h]
def comTo (ts : List Int) (p : Int) : Int := comP ts p ts.length
theorem comTo_range (ts : List Int) (p : Int) : 0 ≤ comTo ts p ∧ comTo ts p ≤ ts.length := comP_range ts p ts.length
def evLeft (b : Blk) (t : Int) : Int :=
  if b.2.1 then 5 * t + 2 else if b.1 = 2 then 5 * t + 1 else if b = nb then 5 * t else if t = 0 then 1 else if b.2.2 then 5 * t - 1 else 5 * t - 2
theorem evLeft_range (b : Blk) {t : Int} (h : 0 ≤ t) : 0 ≤ evLeft b t ∧ evLeft b t ≤ 5 * t + 2 := by
  unfold evLeft
  repeat' split
  all_goals omega
def leftP (l : Ln) : Nat → Int
  | 0 => 0
  | k + 1 => leftP l k + evLeft (l.1.getD k nb) (comTo l.2 (2 * k))
theorem leftP_range (l : Ln) (k : Nat) : 0 ≤ leftP l k ∧ leftP l k ≤ k * (5 * l.2.length + 2) := by
  induction k with
  | zero => simp [leftP]
  | succ k ih =>
    have h1 := comTo_range l.2 (2 * k)
    have h2 := evLeft_range (l.1.getD k nb) h1.1
    have e : ((k + 1 : Nat) : Int) * (5 * (l.2.length : Int) + 2) = k * (5 * (l.2.length : Int) + 2) + (5 * (l.2.length : Int) + 2) := by
      rw [show ((k + 1 : Nat) : Int) = (k : Int) + 1 by omega, Int.add_mul, Int.one_mul]
    unfold leftP
    omega
def lnLeft (l : Ln) : Int := leftP l l.1.length
end Go.Proofs.Ytpofkfcjnhoamaa
