/-
  Trains that enter and leave, plainly: what the numbers of the events of a legal text are. No walk.
-/
import Derived.Test.YtbpifchlmmdnaaaBlockT
namespace Go.Proofs.Ytbpifchlmmdnaaa

/-- What has been counted when a text has led to a block. -/
structure Counted (S : ByteArray) (k : Nat) (x : Blk) : Prop where
  inside : cntTo S 101 k - cntTo S 108 k = if x = (2, true, false) then 1 else 0
  offered : cntTo S 97 k + (if x = (0, false, true) then 1 else 0) ≤ cntTo S 111 k

theorem cntTo_lit (S : ByteArray) (c d : Int) (k : Nat) (h : bt S k = d) : cntTo S c (k + 1) = if d = c then cntTo S c k + 1 else cntTo S c k := by
  simp only [cntTo, h]
theorem Counted.of {S : ByteArray} : ∀ (k : Nat) (x : Blk), bkTo nb S k = some x → Counted S k x := by
  intro k
  induction k with
  | zero =>
    intro x h
    simp only [bkTo, Option.some.injEq] at h
    subst h
    exact ⟨rfl, by show (0 : Int) + 0 ≤ 0; decide⟩
  | succ k ih =>
    intro x h
    simp only [bkTo] at h
    cases e : bkTo nb S k with
    | none => rw [e] at h; cases h
    | some y =>
      rw [e] at h
      have h : bkStep y (bt S k) = some x := h
      obtain ⟨hi, ho⟩ := ih y e
      rcases bkStep_cases h with ⟨hc, rfl, rfl⟩ | ⟨hc, rfl, rfl⟩ | ⟨hc, rfl, rfl⟩ | ⟨hc, rfl, rfl⟩ | ⟨hc, rfl, rfl⟩ | ⟨hc, rfl, rfl⟩ | ⟨hc, rfl, rfl⟩
      all_goals
        constructor
        · rw [cntTo_lit S 101 _ k hc, cntTo_lit S 108 _ k hc]
          simp at hi ⊢
          omega
        · rw [cntTo_lit S 97 _ k hc, cntTo_lit S 111 _ k hc]
          simp at ho ⊢
          omega

/-- What the law waits for, at a block. -/
def Waits (x : Blk) (v : ByteArray) : Prop :=
  (x = (0, false, false) ∧ (v = ⟨#[]⟩ ∨ v = ⟨#[108, 102]⟩ ∨ v = ⟨#[108, 102, 97]⟩)) ∨ (x = (0, false, true) ∧ (v = ⟨#[]⟩ ∨ v = ⟨#[108, 102]⟩ ∨ v = ⟨#[108, 102, 97]⟩)) ∨
  (x = (1, false, false) ∧ (v = ⟨#[]⟩ ∨ v = ⟨#[108, 102, 97]⟩)) ∨ (x = (2, true, false) ∧ v = ⟨#[101]⟩) ∨ (x = (2, false, false) ∧ v = ⟨#[108]⟩)
end Go.Proofs.Ytbpifchlmmdnaaa
