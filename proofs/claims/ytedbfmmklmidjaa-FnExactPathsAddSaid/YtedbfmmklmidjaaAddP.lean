/-
  A fitted path behind all others, plainly: they are paths again if they were less than eight. No walk.
-/
import Derived.Test.YtedbfmmklmidjaaFitP
import Derived.Test.YtedbfmmklmidjaaOrdP
namespace Go.Proofs.Ytedbfmmklmidjaa

/-- At the least free time no path is met. -/
theorem freeT_free {n : Int} {ps : List (List Int × List Int)} {k : Nat} {r s : Int} (h : pathsB n ps = true) (hk : (k : Int) < n) (h0 : 0 ≤ s) (h2 : s ≤ 2000) : FreeAt ps k r (freeT ps k r s) := by
  have hmem : ∀ y, y ∈ orderOf ps k ↔ ∃ j : Nat, j < ps.length ∧ y = j := fun y => ordTo_mem
  obtain ⟨a1, a2, a3, a4⟩ := go_free (r := r) h hk (orderOf ps k) s (fun _ => False) (Int.le_refl _) h2 (Taken.none _ _ _ _) (fun d hd => hd.elim) (fun y hy => by
    obtain ⟨j, hj, e⟩ := (hmem y).1 hy
    subst e
    exact ⟨by omega, by omega⟩) (fun d hd => hd.elim) (ordTo_pairs _ _)
  have hf : FreeAt ps k r ((orderOf ps k).foldl (goOn ps k r) s) := fun i hi => by
    have q := a4 (i : Int) (.inr ((hmem _).2 ⟨i, hi, rfl⟩))
    rwa [Int.toNat_natCast] at q
  rw [freeT_is hf a1 (by omega) a3]
  exact hf
theorem freeB_args2 {n k s r : Int} {ps : List (List Int × List Int)} (h : freeB n ps k s r = true) : (0 ≤ s ∧ s ≤ 2000) ∧ freeV n ps k s r = freeT ps k.toNat r s := by
  have hv : freeV n ps k s r = freeT ps k.toNat r s := by unfold freeV; rw [h]; rfl
  unfold freeB at h
  simp only [Bool.and_eq_true, decide_eq_true_eq] at h
  exact ⟨h.1.2.2, hv⟩
theorem fitPath_get {n : Int} {ps : List (List Int × List Int)} {s : Int} {rs : List Int} {k j : Nat} (h : j < k) : (fitPath n ps s rs k).1.getD j 0 = fitIn n ps s rs j ∧ (fitPath n ps s rs k).2.getD j 0 = fitTo n ps s rs (j + 1) := by simp [fitPath, h]
theorem fitTo_next (n : Int) (ps : List (List Int × List Int)) (s : Int) (rs : List Int) (j : Nat) : fitTo n ps s rs (j + 1) = fitIn n ps s rs j + rs.getD j 0 := rfl
/-- A fitted path is one. -/
theorem fit_path {n : Int} {ps : List (List Int × List Int)} {s : Int} {rs : List Int} (h : fitB n ps s rs = true) : pathB n (fitPath n ps s rs rs.length) = true := by
  obtain ⟨h1, h2, h3⟩ := fitB_is h
  obtain ⟨l1, l2⟩ := fitPath_len n ps s rs rs.length
  refine pathB_yes h1.1 h1.2 (by rw [l1]; exact h2) (by rw [l2]; exact h2) ?_
  rw [l1]
  intro j hj
  obtain ⟨e1, e2⟩ := fitPath_get (n := n) (ps := ps) (s := s) (rs := rs) hj
  have g := freeB_is (h3 j hj)
  have g2 := freeB_args2 (h3 j hj)
  have ge := freeN_ge ps ((j : Int)).toNat (rs.getD j 0) 2001 (fitTo n ps s rs j)
  have hv : fitIn n ps s rs j = freeV n ps j (fitTo n ps s rs j) (rs.getD j 0) := rfl
  have hge : fitTo n ps s rs j ≤ fitIn n ps s rs j := by rw [hv, g2.2]; exact ge
  unfold secOk
  rw [e1, e2, fitTo_next]
  rw [← hv] at g
  refine ⟨?_, by omega, by omega⟩
  cases j with
  | zero => rw [readyAt_zero]; omega
  | succ i =>
    rw [readyAt_succ, (fitPath_get (n := n) (ps := ps) (s := s) (rs := rs) (show i < rs.length by omega)).2]
    exact hge
theorem clashTo_none {p q : List Int × List Int} {m : Nat} (h : ∀ k, k < m → clashAt p q k = false) : clashTo p q m = [] := by
  induction m with
  | zero => rfl
  | succ m ih =>
    rw [clashTo_no (h m (by omega))]
    exact ih (fun k hk => h k (by omega))
/-- It clashes with none. -/
theorem fit_apart {n : Int} {ps : List (List Int × List Int)} {s : Int} {rs : List Int} (h : fitB n ps s rs = true) {i : Nat} (hi : i < ps.length) : clashOf n (fitPath n ps s rs rs.length) (ps.getD i noPath) = [] := by
  obtain ⟨h1, h2, h3⟩ := fitB_is h
  have hp := (hasB_is (freeB_is (h3 0 (by omega))).1).1
  have b1 := fit_path h
  have b2 := pathsB_at hp hi
  have cb : clashB n (fitPath n ps s rs rs.length) (ps.getD i noPath) = true := by unfold clashB; rw [b1, b2]; rfl
  rw [clashOf_yes cb, (fitPath_len n ps s rs rs.length).1]
  refine clashTo_none (fun k hk => decide_eq_false (fun q => ?_))
  obtain ⟨e1, e2⟩ := fitPath_get (n := n) (ps := ps) (s := s) (rs := rs) hk
  rw [e1, e2, fitTo_next] at q
  obtain ⟨⟨s0, s2⟩, hv⟩ := freeB_args2 (h3 k hk)
  have hf := freeT_free (r := rs.getD k 0) hp (k := k) (by omega) s0 s2 i hi
  have e : fitIn n ps s rs k = freeT ps k (rs.getD k 0) (fitTo n ps s rs k) := by
    show freeV n ps k (fitTo n ps s rs k) (rs.getD k 0) = _
    rw [hv, Int.toNat_natCast]
  rw [e] at q
  exact hf ⟨q.2, q.1⟩
theorem add_getD (ps : List (List Int × List Int)) (p : List Int × List Int) {i : Nat} (hi : i < ps.length) : (ps ++ [p]).getD i noPath = ps.getD i noPath := by
  rw [List.getD_eq_getElem?_getD, List.getD_eq_getElem?_getD, List.getElem?_append_left hi]
theorem add_last (ps : List (List Int × List Int)) (p : List Int × List Int) : (ps ++ [p]).getD ps.length noPath = p := by
  rw [List.getD_eq_getElem?_getD, List.getElem?_append_right (Nat.le_refl _)]
  simp
/-- Paths and a fitted one are paths, exactly if they were less than eight. -/
theorem add_paths {n : Int} {ps : List (List Int × List Int)} {s : Int} {rs : List Int} (h : fitB n ps s rs = true) : pathsB n (ps ++ [fitPath n ps s rs rs.length]) = decide (ps.length < 8) := by
  obtain ⟨h1, h2, h3⟩ := fitB_is h
  have hp := (hasB_is (freeB_is (h3 0 (by omega))).1).1
  by_cases h8 : ps.length < 8
  · rw [decide_eq_true h8]
    refine pathsB_yes h1.1 h1.2 (by simp; omega) (fun i hi => ?_)
    rw [List.length_append] at hi
    simp only [List.length_cons, List.length_nil] at hi
    by_cases e : i = ps.length
    · subst e
      refine rowB_yes (by rw [add_last]; exact fit_path h) (fun j hj => ?_)
      rw [add_last, add_getD _ _ hj]
      exact fit_apart h hj
    · have hi' : i < ps.length := by omega
      have q := rowB_is ((pathsB_is hp).2.2 i hi')
      refine rowB_yes (by rw [add_getD _ _ hi']; exact q.1) (fun j hj => ?_)
      rw [add_getD _ _ hi', add_getD _ _ (by omega)]
      exact q.2 j hj
  · rw [decide_eq_false h8]
    exact pathsB_long (by simp; omega)

end Go.Proofs.Ytedbfmmklmidjaa
