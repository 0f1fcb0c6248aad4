/-
  The least free time: all minutes ahead of it are taken, with a later start or fewer trains it is no earlier or no later; the same of fitted paths, plainly. No walk.
-/
import Derived.Test.YtoebgdcgcdigaabPathP
namespace Go.Proofs.Ytoebgdcgcdigaab

theorem freeT_ge (ps : List (List Int × List Int)) (k : Nat) (r s : Int) : s ≤ freeT ps k r s := freeN_ge ps k r 2001 s
/-- All minutes ahead of the least free time are taken. -/
theorem freeN_taken (ps : List (List Int × List Int)) (k : Nat) (r : Int) : ∀ (f : Nat) (s : Int), Taken ps k r s (freeN ps k r f s) := by
  intro f
  induction f with
  | zero => intro s; exact Taken.none _ _ _ _
  | succ f ih =>
    intro s u h1 h2
    unfold freeN at h2
    by_cases q : FreeAt ps k r s
    · rw [if_pos q] at h2; omega
    · rw [if_neg q] at h2
      by_cases e : u = s
      · subst e; exact q
      · exact ih (s + 1) u (by omega) h2
theorem freeT_taken (ps : List (List Int × List Int)) (k : Nat) (r s : Int) : Taken ps k r s (freeT ps k r s) := freeN_taken ps k r 2001 s
/-- A free time from s on is no earlier than the least one. -/
theorem freeT_least {ps : List (List Int × List Int)} {k : Nat} {r s t : Int} (h : FreeAt ps k r t) (hs : s ≤ t) : freeT ps k r s ≤ t := by
  by_cases q : t < freeT ps k r s
  · exact absurd h (freeT_taken ps k r s t hs q)
  · omega
/-- The parts of an answer of PathsFree. -/
theorem freeB_all {n s r : Int} {k : Nat} {ps : List (List Int × List Int)} (h : freeB n ps k s r = true) :
    pathsB n ps = true ∧ (k : Int) < n ∧ (1 ≤ r ∧ r ≤ 100) ∧ (0 ≤ s ∧ s ≤ 2000) ∧ freeV n ps k s r = freeT ps k r s ∧ FreeAt ps k r (freeT ps k r s) ∧ s ≤ freeT ps k r s ∧ freeT ps k r s + r ≤ 2000 := by
  obtain ⟨a1, a2, a3, a4⟩ := freeB_is h
  obtain ⟨c1, c2⟩ := freeB_args2 h
  obtain ⟨d1, d2, d3⟩ := hasB_is a1
  rw [Int.toNat_natCast] at c2
  rw [c2] at a4
  exact ⟨d1, d3, a2, c1, c2, freeT_free d1 d3 c1.1 c1.2, freeT_ge _ _ _ _, a4⟩
theorem freeB_mk {n s r : Int} {k : Nat} {ps : List (List Int × List Int)} (h : pathsB n ps = true) (hk : (k : Int) < n) (hr : 1 ≤ r ∧ r ≤ 100) (hs : 0 ≤ s ∧ s ≤ 2000) (ht : freeT ps k r s + r ≤ 2000) : freeB n ps k s r = true ∧ freeV n ps k s r = freeT ps k r s := by
  have hh : hasB n ps (k : Int) = true := hasB_yes h ⟨by omega, hk⟩
  have e : freeB n ps k s r = true := freeB_yes hh ⟨hr, hs⟩ (by rw [Int.toNat_natCast]; exact ht)
  refine ⟨e, ?_⟩
  have := (freeB_args2 e).2
  rw [Int.toNat_natCast] at this
  exact this
/-- From the least free time on, it is the least free time. -/
theorem free_again {n s r : Int} {k : Nat} {ps : List (List Int × List Int)} (h : freeB n ps k s r = true) : freeB n ps k (freeT ps k r s) r = true ∧ freeV n ps k (freeT ps k r s) r = freeT ps k r s := by
  obtain ⟨h1, h2, h3, h4, h5, h6, h7, h8⟩ := freeB_all h
  have e : freeT ps k r (freeT ps k r s) = freeT ps k r s := freeT_is h6 (Int.le_refl _) (by omega) (Taken.none _ _ _ _)
  have q := freeB_mk h1 h2 h3 (s := freeT ps k r s) (by omega) (by rw [e]; exact h8)
  rw [e] at q
  exact q
/-- With fewer trains, and a start that is no later, the least free time is no later. -/
theorem free_fewer {n s s' r : Int} {k : Nat} {ps qs : List (List Int × List Int)} (h : freeB n ps k s r = true) (hq : pathsB n qs = true) (hs0 : 0 ≤ s') (hs : s' ≤ s)
    (hf : ∀ i, i < qs.length → ∃ j, j < ps.length ∧ qs.getD i noPath = ps.getD j noPath) : freeB n qs k s' r = true ∧ freeV n qs k s' r ≤ freeV n ps k s r := by
  obtain ⟨h1, h2, h3, h4, h5, h6, h7, h8⟩ := freeB_all h
  have hfree : FreeAt qs k r (freeT ps k r s) := fun i hi hm => by
    obtain ⟨j, hj, e⟩ := hf i hi
    refine h6 j hj ?_
    unfold meetsAt inAt outAt at *
    rw [← e]
    exact hm
  have le := freeT_least (s := s') hfree (by omega)
  have q := freeB_mk hq h2 h3 (s := s') (by omega) (by omega)
  rw [q.2, h5]
  exact ⟨q.1, le⟩
theorem fit_fewer {n s s' : Int} {ps qs : List (List Int × List Int)} {rs : List Int} (h : fitB n ps s rs = true) (hq : pathsB n qs = true) (hs0 : 0 ≤ s') (hs : s' ≤ s)
    (hf : ∀ i, i < qs.length → ∃ j, j < ps.length ∧ qs.getD i noPath = ps.getD j noPath) :
    fitB n qs s' rs = true ∧ ∀ k, k < rs.length → (fitV n qs s' rs).1.getD k 0 ≤ (fitV n ps s rs).1.getD k 0 := by
  obtain ⟨h1, h2, h3⟩ := fitB_is h
  have all : ∀ k, k ≤ rs.length → (0 ≤ fitTo n qs s' rs k ∧ fitTo n qs s' rs k ≤ fitTo n ps s rs k) ∧ ∀ j, j < k → fitOk n qs s' rs j = true ∧ fitIn n qs s' rs j ≤ fitIn n ps s rs j := by
    intro k
    induction k with
    | zero => intro _; exact ⟨⟨hs0, hs⟩, fun j hj => by omega⟩
    | succ k ih =>
      intro hk
      obtain ⟨⟨e0, e1⟩, e2⟩ := ih (by omega)
      have g := free_fewer (h3 k (by omega)) hq e0 e1 hf
      have g2 := freeB_is g.1
      have hle : fitIn n qs s' rs k ≤ fitIn n ps s rs k := g.2
      refine ⟨?_, fun j hj => ?_⟩
      · rw [fitTo_next, fitTo_next]
        have : 0 ≤ fitIn n qs s' rs k := g2.2.2.1
        omega
      · by_cases e : j = k
        · subst e; exact ⟨g.1, hle⟩
        · exact e2 j (by omega)
  have a := (all rs.length (Nat.le_refl _)).2
  have hb : fitB n qs s' rs = true := fitB_yes h1.1 h1.2 h2 fun j hj => (a j hj).1
  refine ⟨hb, fun k hk => ?_⟩
  rw [fitV_yes hb, fitV_yes h, (fitPath_get hk).1, (fitPath_get hk).1]
  exact (a k hk).2
/-- A later start: no section is entered earlier. -/
theorem fit_later {n s s' : Int} {ps : List (List Int × List Int)} {rs : List Int} (h : fitB n ps s' rs = true) (hs0 : 0 ≤ s) (hs : s ≤ s') :
    ∀ k, k < rs.length → (fitV n ps s rs).1.getD k 0 ≤ (fitV n ps s' rs).1.getD k 0 := by
  have hp : pathsB n ps = true := by
    cases e : pathsB n ps
    · rw [fitB_paths e] at h; cases h
    · rfl
  exact (fit_fewer h hp hs0 hs fun i hi => ⟨i, hi, rfl⟩).2
/-- Each In of a fitted path is a free time of its section. -/
theorem fit_at {n s : Int} {ps : List (List Int × List Int)} {rs : List Int} (h : fitB n ps s rs = true) {k : Nat} (hk : k < rs.length) :
    freeB n ps k (fitTo n ps s rs k) (rs.getD k 0) = true ∧ freeV n ps k (fitTo n ps s rs k) (rs.getD k 0) = (fitV n ps s rs).1.getD k 0 ∧
      (fitV n ps s rs).2.getD k 0 = (fitV n ps s rs).1.getD k 0 + rs.getD k 0 ∧ fitTo n ps s rs (k + 1) = (fitV n ps s rs).2.getD k 0 := by
  obtain ⟨h1, h2, h3⟩ := fitB_is h
  rw [fitV_yes h, (fitPath_get hk).1, (fitPath_get hk).2]
  exact ⟨h3 k hk, rfl, rfl, rfl⟩

/-- Is one of the first paths met? -/
def meetTo (ps : List (List Int × List Int)) (k : Nat) (t r : Int) : Nat → Bool
  | 0 => false
  | i + 1 => meetTo ps k t r i || decide (meetsAt ps k t r i)
theorem meetTo_no {ps : List (List Int × List Int)} {k : Nat} {t r : Int} : ∀ i, (∀ j, j < i → ¬ meetsAt ps k t r j) → meetTo ps k t r i = false := by
  intro i
  induction i with
  | zero => intro _; rfl
  | succ i ih =>
    intro h
    unfold meetTo
    rw [ih fun j hj => h j (by omega), decide_eq_false (h i (by omega))]
    rfl
theorem meetTo_is {ps : List (List Int × List Int)} {k : Nat} {t r : Int} : ∀ i, meetTo ps k t r i = false → ∀ j, j < i → ¬ meetsAt ps k t r j := by
  intro i
  induction i with
  | zero => intro _ j hj; omega
  | succ i ih =>
    intro h j hj
    unfold meetTo at h
    rw [Bool.or_eq_false_iff] at h
    by_cases e : j = i
    · subst e; exact of_decide_eq_false h.2
    · exact ih h.1 j (by omega)
theorem meetTo_free {ps : List (List Int × List Int)} {k : Nat} {t r : Int} (h : FreeAt ps k r t) : meetTo ps k t r ps.length = false := meetTo_no _ h
theorem meetTo_taken {ps : List (List Int × List Int)} {k : Nat} {t r : Int} (h : ¬ FreeAt ps k r t) : meetTo ps k t r ps.length = true := by
  cases e : meetTo ps k t r ps.length
  · exact absurd (meetTo_is _ e) h
  · rfl

end Go.Proofs.Ytoebgdcgcdigaab
