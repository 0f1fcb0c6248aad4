/-
  No text leads to a block with fewer events than the shortest way, plainly. No walk.
-/
import Derived.Test.YtedbfmmklmidjabLegalP
import Derived.Test.YtedbfmmklmidjabWayI
namespace Go.Proofs.Ytedbfmmklmidjab

theorem wy_next : ∀ n : Fin 4, ∀ a b : Fin 5, ∀ q : Fin 2, q.val < nl b.val → (wy n.val a.val b.val).isSome = true → (wy (n.val + 1) a.val (tg b.val q.val)).isSome = true := by decide +kernel
theorem way_least : ∀ n : Fin 5, ∀ a b : Fin 5, (wy n.val a.val b.val).isSome = true → ((wayOf a.val b.val).getD []).length ≤ n.val := by decide +kernel
theorem way_all : ∀ a b : Fin 5, ((wayOf a.val b.val).getD []).length ≤ 5 := by decide +kernel
theorem step_is {x y : Blk} {c : Int} (h : bkStep x c = some y) : ∃ q, q < nl (bkIx x) ∧ bkIx y = tg (bkIx x) q := by
  rcases bkStep_cases h with ⟨_, rfl, rfl⟩ | ⟨_, rfl, rfl⟩ | ⟨_, rfl, rfl⟩ | ⟨_, rfl, rfl⟩ | ⟨_, rfl, rfl⟩ | ⟨_, rfl, rfl⟩ | ⟨_, rfl, rfl⟩ <;> first | exact ⟨0, by decide, by decide⟩ | exact ⟨1, by decide, by decide⟩
theorem wy_to {b : Blk} {S : ByteArray} (hb : bkPos b = true) : ∀ k, k ≤ 4 → ∀ x, bkTo b S k = some x → (wy k (bkIx b) (bkIx x)).isSome = true := by
  intro k
  induction k with
  | zero =>
    intro _ x h
    have e : b = x := by simpa [bkTo] using h
    subst e
    simp [wy]
  | succ k ih =>
    intro hk x h
    cases e : bkTo b S k with
    | none => rw [bkTo_none e (Nat.le_succ k)] at h; cases h
    | some y =>
      rw [bkTo_succ e] at h
      obtain ⟨q, hq, hx⟩ := step_is h
      have hy := bkTo_pos hb e
      have hn := nl_le (bkAt_ix hy).1
      rw [hx]
      exact wy_next ⟨k, by omega⟩ ⟨bkIx b, (bkAt_ix hb).1⟩ ⟨bkIx y, (bkAt_ix hy).1⟩ ⟨q, by omega⟩ hq (ih (by omega) y e)
theorem way_short {b y : Blk} {S : ByteArray} (h : bkRun b S = some y) : bkPos b = true ∧ bkPos y = true ∧ (bkWay b y).size ≤ S.size ∧ (bkWay b y).size ≤ 5 := by
  have hb : bkPos b = true := by
    cases e : bkPos b
    · rw [bkRun_not e] at h; cases h
    · rfl
  have hs : (S.size : Int) ≤ 30 := by
    by_cases q : 30 < (S.size : Int)
    · rw [bkRun_long q] at h; cases h
    · omega
  rw [bkRun_is hb hs] at h
  have hy := bkTo_pos hb h
  have e : (bkWay b y).size = ((wayOf (bkIx b) (bkIx y)).getD []).length := by unfold bkWay; rw [if_pos ⟨hb, hy⟩, strOf_size]
  have w5 := way_all ⟨bkIx b, (bkAt_ix hb).1⟩ ⟨bkIx y, (bkAt_ix hy).1⟩
  refine ⟨hb, hy, ?_, by rw [e]; exact w5⟩
  rw [e]
  by_cases h4 : S.size ≤ 4
  · exact way_least ⟨S.size, by omega⟩ ⟨bkIx b, (bkAt_ix hb).1⟩ ⟨bkIx y, (bkAt_ix hy).1⟩ (wy_to hb S.size h4 y h)
  · simp only at w5
    omega

end Go.Proofs.Ytedbfmmklmidjab
