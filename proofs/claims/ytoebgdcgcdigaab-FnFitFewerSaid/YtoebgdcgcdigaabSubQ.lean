/-
  Some paths of a line are paths of the line, too: beginnings, all backwards, all but one; not with one twice. Passing seen backwards. Plainly. No walk.
-/
import Derived.Test.YtoebgdcgcdigaabLateQ
namespace Go.Proofs.Ytoebgdcgcdigaab

/-- What paths of a line are, seen from any two. -/
theorem pathsB_two {n : Int} {ps : List (List Int × List Int)} (h : pathsB n ps = true) {i j : Nat} (hi : i < ps.length) (hj : j < ps.length) (hij : i ≠ j) : clashOf n (ps.getD i noPath) (ps.getD j noPath) = [] := by
  rcases Nat.lt_or_gt_of_ne hij with q | q
  · rw [clashOf_sym]
    exact (rowB_is ((pathsB_is h).2.2 j hj)).2 i q
  · exact (rowB_is ((pathsB_is h).2.2 i hi)).2 j q
theorem pathsB_sub {n : Int} {ps qs : List (List Int × List Int)} (h : pathsB n ps = true) (σ : Nat → Nat) (h8 : qs.length ≤ ps.length) (hσ : ∀ i, i < qs.length → σ i < ps.length ∧ qs.getD i noPath = ps.getD (σ i) noPath)
    (hinj : ∀ i j, i < qs.length → j < i → σ i ≠ σ j) : pathsB n qs = true := by
  obtain ⟨h1, h2, h3⟩ := pathsB_is h
  refine pathsB_yes h1.1 h1.2 (by omega) fun i hi => ?_
  obtain ⟨a1, a2⟩ := hσ i hi
  refine rowB_yes (by rw [a2]; exact pathsB_at h a1) fun j hj => ?_
  obtain ⟨b1, b2⟩ := hσ j (by omega)
  rw [a2, b2]
  exact pathsB_two h a1 b1 (hinj i j hi hj)
theorem pathsB_take {n : Int} {ps : List (List Int × List Int)} (h : pathsB n ps = true) (k : Nat) : pathsB n (ps.take k) = true := by
  refine pathsB_sub h id (by simp; omega) (fun i hi => ?_) fun i j _ hj => by simp only [id]; omega
  have hl : i < k ∧ i < ps.length := by rw [List.length_take] at hi; omega
  exact ⟨hl.2, by simp only [List.getD_eq_getElem?_getD, List.getElem?_take, if_pos hl.1, id]⟩
theorem reverse_getD {ps : List (List Int × List Int)} {i : Nat} (hi : i < ps.length) : ps.reverse.getD i noPath = ps.getD (ps.length - 1 - i) noPath := by
  rw [List.getD_eq_getElem?_getD, List.getD_eq_getElem?_getD, List.getElem?_reverse hi]
theorem pathsB_reverse {n : Int} {ps : List (List Int × List Int)} (h : pathsB n ps = true) : pathsB n ps.reverse = true := by
  refine pathsB_sub h (fun i => ps.length - 1 - i) (by simp) (fun i hi => ?_) fun i j hi hj => ?_
  · rw [List.length_reverse] at hi
    exact ⟨by omega, reverse_getD hi⟩
  · rw [List.length_reverse] at hi
    show ps.length - 1 - i ≠ ps.length - 1 - j
    omega
/-- All but one. -/
theorem but_getD {ps : List (List Int × List Int)} {m i : Nat} (hm : m < ps.length) (_hi : i + 1 < ps.length) : (ps.take m ++ ps.drop (m + 1)).getD i noPath = ps.getD (if i < m then i else i + 1) noPath := by
  have hl : (ps.take m).length = m := by rw [List.length_take]; omega
  by_cases q : i < m
  · rw [if_pos q, List.getD_eq_getElem?_getD, List.getElem?_append_left (by omega), List.getD_eq_getElem?_getD, List.getElem?_take, if_pos q]
  · rw [if_neg q, List.getD_eq_getElem?_getD, List.getElem?_append_right (by omega), List.getD_eq_getElem?_getD, List.getElem?_drop, hl, show m + 1 + (i - m) = i + 1 by omega]
theorem but_len {ps : List (List Int × List Int)} {m : Nat} (hm : m < ps.length) : (ps.take m ++ ps.drop (m + 1)).length = ps.length - 1 := by
  rw [List.length_append, List.length_take, List.length_drop]; omega
theorem pathsB_but {n : Int} {ps : List (List Int × List Int)} (h : pathsB n ps = true) {m : Nat} (hm : m < ps.length) : pathsB n (ps.take m ++ ps.drop (m + 1)) = true := by
  have hl := but_len hm
  refine pathsB_sub h (fun i => if i < m then i else i + 1) (by omega) (fun i hi => ?_) fun i j _ hj => ?_
  · rw [hl] at hi
    refine ⟨?_, but_getD hm (by omega)⟩
    split <;> omega
  · show (if i < m then i else i + 1) ≠ (if j < m then j else j + 1)
    split <;> split <;> omega
/-- A path twice: no paths of a line. -/
theorem pathsB_twice {n : Int} {ps : List (List Int × List Int)} {j : Nat} (hj : j < ps.length) : pathsB n (ps ++ [ps.getD j noPath]) = false := by
  cases h : pathsB n (ps ++ [ps.getD j noPath])
  · rfl
  have e := pathsB_two h (i := ps.length) (j := j) (by simp) (by simp; omega) (by omega)
  rw [add_last, add_getD _ _ hj] at e
  have hb := pathsB_at h (i := j) (by simp; omega)
  rw [add_getD _ _ hj] at hb
  have c := clash_self hb
  have hn := (pathB_is hb).1
  rw [e] at c
  simp only [List.length_nil] at c
  omega

end Go.Proofs.Ytoebgdcgcdigaab
