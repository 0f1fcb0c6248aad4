/-
  Without other trains the fitted path is the one that its runs give; its ends, and that it never stands, plainly. No walk.
-/
import Derived.Test.YtoebgdcgcdigaaaFreeQ
import Derived.Test.YtoebgdcgcdigaaaDrawS
namespace Go.Proofs.Ytoebgdcgcdigaaa

theorem freeT_none (k : Nat) (r s : Int) : freeT [] k r s = s := freeT_is (fun i hi => by simp at hi) (Int.le_refl _) (by omega) (Taken.none _ _ _ _)
theorem fit_nil {s : Int} {rs : List Int} (h : runB s rs = true) : fitB (rs.length : Int) [] s rs = true ∧ fitV (rs.length : Int) [] s rs = runOf s rs := by
  have hr : IsRun s rs := of_decide_eq_true h
  obtain ⟨⟨h1, h5⟩, hk⟩ := hr
  have hp : pathsB (rs.length : Int) [] = true := pathsB_yes h1 h5 (by simp) (RowsOk.zero _ _)
  have all : ∀ k, k ≤ rs.length → fitTo (rs.length : Int) [] s rs k = runTo s rs k ∧ ∀ j, j < k → fitOk (rs.length : Int) [] s rs j = true ∧ fitIn (rs.length : Int) [] s rs j = runTo s rs j := by
    intro k
    induction k with
    | zero => intro _; exact ⟨rfl, fun j hj => by omega⟩
    | succ k ih =>
      intro hle
      obtain ⟨e, hj⟩ := ih (by omega)
      have ok := hk k (by omega)
      unfold runOk at ok
      have hrt : runTo s rs (k + 1) = runTo s rs k + rs.getD k 0 := rfl
      have g := freeB_mk hp (k := k) (r := rs.getD k 0) (s := runTo s rs k) (by omega) ok.1 (by omega) (by rw [freeT_none]; omega)
      rw [freeT_none] at g
      refine ⟨?_, fun j hjk => ?_⟩
      · show freeV _ _ _ _ _ + _ = _
        rw [e, g.2, hrt]
      · by_cases q : j = k
        · subst q
          exact ⟨by unfold fitOk; rw [e]; exact g.1, by unfold fitIn; rw [e]; exact g.2⟩
        · exact hj j (by omega)
  have a := all rs.length (Nat.le_refl _)
  have hb : fitB (rs.length : Int) [] s rs = true := fitB_yes h1 h5 rfl fun j hj => (a.2 j hj).1
  refine ⟨hb, ?_⟩
  rw [fitV_yes hb, runOf_yes h]
  unfold fitPath pathTo
  refine Prod.ext (List.map_congr_left fun j hj => (a.2 j (List.mem_range.1 hj)).2) (List.map_congr_left fun j hj => (all (j + 1) (by have := List.mem_range.1 hj; omega)).1)
theorem runTo_sum (s : Int) (rs : List Int) : ∀ k, runTo s rs k = s + sumTo rs k := by
  intro k
  induction k with
  | zero => show s = s + 0; omega
  | succ k ih =>
    show runTo s rs k + rs.getD k 0 = s + (sumTo rs k + rs.getD k 0)
    omega
theorem good_sum {rs : List Int} (h : GoodTo rs rs.length) (h5 : (rs.length : Int) ≤ 5) : ∀ k, k ≤ rs.length → -1000000 ≤ sumTo rs k ∧ sumTo rs k ≤ 1000000 := by
  intro k hk
  have b := runTo_bounds (start := 0) (by omega) h k hk
  rw [runTo_sum] at b
  omega
/-- What the law reads of such a path. -/
theorem run_facts {s : Int} {rs : List Int} (h : runB s rs = true) :
    (1 ≤ (rs.length : Int) ∧ (rs.length : Int) ≤ 5) ∧ (0 ≤ s ∧ s ≤ 2000) ∧ pathB (rs.length : Int) (runOf s rs) = true ∧ (runOf s rs).1.length = rs.length ∧ (runOf s rs).2.length = rs.length ∧
      (runOf s rs).1.getD 0 0 = s ∧ (runOf s rs).2.getD (rs.length - 1) 0 = s + sumTo rs rs.length ∧ (0 ≤ sumTo rs rs.length ∧ sumTo rs rs.length ≤ 500) ∧ stands (rs.length : Int) (runOf s rs) = 0 := by
  obtain ⟨hg, hl, hs⟩ := runB_good h
  obtain ⟨hb, he⟩ := fit_nil h
  have hp : pathB (rs.length : Int) (runOf s rs) = true := by rw [← he, fitV_yes hb]; exact fit_path hb
  have hsum := runTo_bounds (start := 0) (by omega) hg rs.length (Nat.le_refl _)
  rw [runTo_sum] at hsum
  have hlen := pathTo_len s rs rs.length
  refine ⟨hl, hs, hp, by rw [runOf_yes h]; exact hlen.1, by rw [runOf_yes h]; exact hlen.2, ?_, ?_, by omega, ?_⟩
  · rw [runOf_yes h]
    exact (pathTo_get (show 0 < rs.length by omega)).1
  · rw [runOf_yes h, (pathTo_get (show rs.length - 1 < rs.length by omega)).2, show rs.length - 1 + 1 = rs.length by omega, runTo_sum]
  · unfold stands
    rw [hp]
    show standsTo _ _ _ = 0
    rw [runOf_yes h]
    have all : ∀ k, k < rs.length → standsTo (pathTo s rs rs.length).1 (pathTo s rs rs.length).2 k = 0 := by
      intro k
      induction k with
      | zero => intro _; rfl
      | succ k ih =>
        intro hk
        show standsTo _ _ k + ((pathTo s rs rs.length).1.getD (k + 1) 0 - (pathTo s rs rs.length).2.getD k 0) = 0
        rw [ih (by omega), (pathTo_get hk).1, (pathTo_get (show k < rs.length by omega)).2]
        omega
    exact all _ (by rw [hlen.1]; omega)

end Go.Proofs.Ytoebgdcgcdigaaa
