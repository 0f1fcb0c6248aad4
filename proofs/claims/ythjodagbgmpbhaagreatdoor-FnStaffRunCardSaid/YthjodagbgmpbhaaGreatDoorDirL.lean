/-
  The staff with directions exchanged; where it goes; how often it is taken along, plainly. No walk.
-/
import Derived.Test.YthjodagbgmpbhaaGreatDoorDirH
import Derived.Test.YthjodagbgmpbhaaGreatDoorDirE
import Derived.Test.YthjodagbgmpbhaaGreatDoorCnt
namespace Go.Proofs.YthjodagbgmpbhaaGreatDoor
open Go.RowKit

theorem st_facts {a y : Int} {D K : ByteArray} (h : stRun a D K = some y) : (a = 0 ∨ a = 1) ∧ dirB D = true ∧ K.size = D.size ∧ stTo a D K D.size = some y := by
  unfold stRun at h
  by_cases q : (a = 0 ∨ a = 1) ∧ dirB D = true ∧ K.size = D.size
  · rw [if_pos q] at h; exact ⟨q.1, q.2.1, q.2.2, h⟩
  · rw [if_neg q] at h; cases h
theorem end_tn {c : Int} (h : c = 85 ∨ c = 68) : endOf (tnB c) = 1 - endOf c := by rcases h with rfl | rfl <;> simp [tnB, endOf]
theorem step_tn {a d c : Int} (h : d = 85 ∨ d = 68) : stStep (1 - a) (tnB d) c = (stStep a d c).map fun x => 1 - x := by
  unfold stStep
  rw [end_tn h]
  by_cases q : endOf d = a ∧ (c = 83 ∨ c = 84)
  · rw [if_pos q, if_pos ⟨by omega, q.2⟩]
    by_cases e : c = 83
    · rw [if_pos e, if_pos e]; rfl
    · rw [if_neg e, if_neg e]; rfl
  · rw [if_neg q, if_neg (fun z => q ⟨by omega, z.2⟩)]; rfl
theorem to_tn {a : Int} {D K : ByteArray} (h : ∀ j, j < D.size → bt D j = 85 ∨ bt D j = 68) : ∀ k, k ≤ D.size → stTo (1 - a) (tnS D) K k = (stTo a D K k).map fun x => 1 - x
  | 0, _ => rfl
  | k + 1, hk => by
    simp only [stTo]
    rw [to_tn h k (by omega), bt_tnS (by omega : k < D.size)]
    cases e : stTo a D K k with
    | none => rfl
    | some x => simp only [Option.map_some, Option.bind_some]; exact step_tn (h k (by omega))
/-- The staff from the other end, with directions exchanged. -/
theorem run_tn {a y : Int} {D K : ByteArray} (h : stRun a D K = some y) : stRun (1 - a) (tnS D) K = some (1 - y) := by
  obtain ⟨h1, h2, h3, h4⟩ := st_facts h
  rw [stRun_is (by omega) (dir_tn h2) (by rw [tnS_size, h3]), tnS_size, to_tn (dirB_of h2).2 _ (Nat.le_refl _), h4]
  rfl
theorem stTo_some {a y : Int} {D K : ByteArray} {k n : Nat} (h : stTo a D K n = some y) (hk : k ≤ n) : ∃ x, stTo a D K k = some x := by
  cases e : stTo a D K k with
  | none => rw [stTo_none e hk] at h; cases h
  | some x => exact ⟨x, rfl⟩
/-- Each train goes from where the staff is. -/
theorem st_at {a y : Int} {D K : ByteArray} {k n : Nat} (h : stTo a D K n = some y) (hk : k < n) : stTo a D K k = some (endOf (bt D k)) ∧ (bt K k = 83 ∨ bt K k = 84) ∧ stTo a D K (k + 1) = some (if bt K k = 83 then 1 - endOf (bt D k) else endOf (bt D k)) := by
  obtain ⟨x, hx⟩ := stTo_some h (Nat.le_of_lt hk)
  obtain ⟨z, hz⟩ := stTo_some h (Nat.succ_le_of_lt hk)
  have hz' := hz
  rw [stTo_succ hx] at hz
  unfold stStep at hz
  by_cases q : endOf (bt D k) = x ∧ (bt K k = 83 ∨ bt K k = 84)
  · rw [if_pos q] at hz
    refine ⟨by rw [hx, q.1], q.2, ?_⟩
    rw [hz', ← hz, q.1]
    split <;> rfl
  · rw [if_neg q] at hz; cases hz
/-- The staff is taken along exactly if the next train goes back. -/
theorem st_back {a y : Int} {D K : ByteArray} (h : stRun a D K = some y) {k : Nat} (hk : k + 1 < D.size) : (bt D (k + 1) ≠ bt D k) ↔ bt K k = 83 := by
  obtain ⟨h1, h2, h3, h4⟩ := st_facts h
  obtain ⟨-, q2, q3⟩ := st_at h4 (show k < D.size by omega)
  obtain ⟨r1, -, -⟩ := st_at h4 (show k + 1 < D.size from hk)
  rw [q3] at r1
  have r := Option.some.inj r1
  have d1 := (dirB_of h2).2 k (by omega)
  have d2 := (dirB_of h2).2 (k + 1) hk
  rcases d1 with e1 | e1 <;> rcases d2 with e2 | e2 <;> rcases q2 with e3 | e3 <;> rw [e1, e2, e3] at r <;> simp [endOf] at r <;> rw [e1, e2, e3] <;> simp
/-- An odd number of S takes it to the other end. -/
theorem st_odd {a : Int} {D K : ByteArray} : ∀ (k : Nat) (x : Int), stTo a D K k = some x → (x = a ∧ cntTo K 83 k % 2 = 0) ∨ (x = 1 - a ∧ cntTo K 83 k % 2 = 1)
  | 0, x, h => .inl ⟨(Option.some.inj h).symm, by simp [cntTo]⟩
  | k + 1, x, h => by
    obtain ⟨z, hz⟩ := stTo_some h (Nat.le_succ k)
    have ih := st_odd k z hz
    have q := (st_at h (Nat.lt_succ_self k)).2
    have e := (st_at h (Nat.lt_succ_self k)).1
    rw [hz] at e
    have ez := Option.some.inj e
    rw [h] at q
    have ex := Option.some.inj q.2
    rw [← ez] at ex
    simp only [cntTo]
    by_cases c : bt K k = 83
    · rw [if_pos c] at ex ⊢
      rcases ih with ⟨i1, i2⟩ | ⟨i1, i2⟩
      · right; omega
      · left; omega
    · rw [if_neg c] at ex ⊢
      rcases ih with ⟨i1, i2⟩ | ⟨i1, i2⟩
      · left; omega
      · right; omega
theorem run_odd {a y : Int} {D K : ByteArray} (h : stRun a D K = some y) : (y ≠ a) ↔ cntTo K 83 K.size % 2 = 1 := by
  obtain ⟨h1, h2, h3, h4⟩ := st_facts h
  have := st_odd _ _ h4
  rw [h3]
  omega
end Go.Proofs.YthjodagbgmpbhaaGreatDoor
