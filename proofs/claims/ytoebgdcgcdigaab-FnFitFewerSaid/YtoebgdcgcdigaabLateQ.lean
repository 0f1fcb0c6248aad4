/-
  A path that is made later and earlier again; clashes seen from the other path, plainly. No walk.
-/
import Derived.Test.YtoebgdcgcdigaabLateP
namespace Go.Proofs.Ytoebgdcgcdigaab

theorem list_ext_getD {xs ys : List Int} (hl : xs.length = ys.length) (h : ∀ j, j < xs.length → xs.getD j 0 = ys.getD j 0) : xs = ys := by
  refine List.ext_getElem hl fun i h1 h2 => ?_
  have e := h i h1
  simp only [List.getD_eq_getElem?_getD, List.getElem?_eq_getElem h1, List.getElem?_eq_getElem h2, Option.getD_some] at e
  exact e
/-- What a later path is. -/
theorem lateW_is {n : Int} {p : List Int × List Int} {d : Int} (hd : -9223372036854775808 ≤ d ∧ d ≤ 9223372036854775807) (h : lateW n p d = true) :
    pathB n p = true ∧ pathB n (lateV n p d) = true ∧ (-2000 ≤ d ∧ d ≤ 2000) ∧ (lateV n p d).1.length = p.1.length ∧ (lateV n p d).2.length = p.1.length ∧
      ∀ j, j < p.1.length → (lateV n p d).1.getD j 0 = p.1.getD j 0 + d ∧ (lateV n p d).2.getD j 0 = p.2.getD j 0 + d := by
  have hb : pathB n p = true ∧ pathB n (lateTo p d p.1.length) = true := by
    unfold lateW at h
    simpa only [Bool.and_eq_true] using h
  have hn : -2000 ≤ d ∧ d ≤ 2000 := by
    by_cases q : d < -2000 ∨ 2000 < d
    · rw [lateW_far hd q] at h; cases h
    · omega
  rw [lateV_yes h]
  refine ⟨hb.1, hb.2, hn, (lateTo_len _ _ _).1, (lateTo_len _ _ _).2, fun j hj => ?_⟩
  have g := lateTo_get (p := p) (d := d) hj
  have e := late_near hb.1 hn.1 hn.2 hj
  omega
/-- Made as much earlier again, the path is what it was. -/
theorem late_back {n : Int} {p : List Int × List Int} {d : Int} (hd : -9223372036854775808 ≤ d ∧ d ≤ 9223372036854775807) (h : lateW n p d = true) :
    lateW n (lateV n p d) (0 - d) = true ∧ lateV n (lateV n p d) (0 - d) = p := by
  obtain ⟨hp, hq, hn, l1, l2, hg⟩ := lateW_is hd h
  have hp2 := (pathB_is hp).2
  have hlen : p.2.length = p.1.length := by omega
  have e : lateTo (lateV n p d) (0 - d) (lateV n p d).1.length = p := by
    have ll := lateTo_len (lateV n p d) (0 - d) (lateV n p d).1.length
    refine Prod.ext (list_ext_getD (by omega) fun j hj => ?_) (list_ext_getD (by omega) fun j hj => ?_)
    · have g := lateTo_get (p := lateV n p d) (d := 0 - d) (k := (lateV n p d).1.length) (j := j) (by omega)
      have c := late_near hq (d := 0 - d) (by omega) (by omega) (j := j) (by omega)
      have := hg j (by omega)
      omega
    · have g := lateTo_get (p := lateV n p d) (d := 0 - d) (k := (lateV n p d).1.length) (j := j) (by omega)
      have c := late_near hq (d := 0 - d) (by omega) (by omega) (j := j) (by omega)
      have := hg j (by omega)
      omega
  have hw : lateW n (lateV n p d) (0 - d) = true := by
    unfold lateW
    rw [hq, e, hp]
    rfl
  exact ⟨hw, by rw [lateV_yes hw]; exact e⟩
/-- It stands as long. -/
theorem late_stands {n : Int} {p : List Int × List Int} {d : Int} (hd : -9223372036854775808 ≤ d ∧ d ≤ 9223372036854775807) (h : lateW n p d = true) : stands n (lateV n p d) = stands n p := by
  obtain ⟨hp, hq, hn, l1, l2, hg⟩ := lateW_is hd h
  have hn1 := (pathB_is hp).1
  have hn2 := (pathB_is hp).2.1
  have all : ∀ k, k < p.1.length → standsTo (lateV n p d).1 (lateV n p d).2 k = standsTo p.1 p.2 k := by
    intro k
    induction k with
    | zero => intro _; rfl
    | succ k ih =>
      intro hk
      have a := ih (by omega)
      have b := hg (k + 1) hk
      have c := hg k (by omega)
      show standsTo _ _ k + ((lateV n p d).1.getD (k + 1) 0 - (lateV n p d).2.getD k 0) = standsTo _ _ k + (p.1.getD (k + 1) 0 - p.2.getD k 0)
      omega
  unfold stands
  rw [hp, hq, l1]
  exact all _ (by omega)

theorem clashAt_sym (p q : List Int × List Int) (k : Nat) : clashAt p q k = clashAt q p k := by
  unfold clashAt
  exact decide_eq_decide.2 ⟨fun h => ⟨h.2, h.1⟩, fun h => ⟨h.2, h.1⟩⟩
theorem clashTo_same {p q p' q' : List Int × List Int} {m : Nat} (h : ∀ k, k < m → clashAt p q k = clashAt p' q' k) : clashTo p q m = clashTo p' q' m := by
  induction m with
  | zero => rfl
  | succ m ih =>
    simp only [clashTo]
    rw [ih fun k hk => h k (by omega), h m (by omega)]
theorem clashOf_sym (n : Int) (p q : List Int × List Int) : clashOf n p q = clashOf n q p := by
  cases h : clashB n p q
  · have h' : clashB n q p = false := by unfold clashB at *; rw [Bool.and_comm]; exact h
    rw [clashOf_no h, clashOf_no h']
  · have h' : clashB n q p = true := by unfold clashB at *; rw [Bool.and_comm]; exact h
    have e1 := (pathB_is (clashB_is h).1).2.1
    have e2 := (pathB_is (clashB_is h).2).2.1
    rw [clashOf_yes h, clashOf_yes h', show q.1.length = p.1.length by omega]
    exact clashTo_same fun k _ => clashAt_sym p q k
/-- Both paths later: the same clashes. -/
theorem clashOf_late {n : Int} {p q : List Int × List Int} (h1 : lateW n p 7 = true) (h2 : lateW n q 7 = true) : clashOf n (lateV n p 7) (lateV n q 7) = clashOf n p q := by
  obtain ⟨hp, hp', -, l1, l2, g1⟩ := lateW_is (by omega) h1
  obtain ⟨hq, hq', -, l3, l4, g2⟩ := lateW_is (by omega) h2
  have e1 := (pathB_is hp).2.1
  have e2 := (pathB_is hq).2.1
  rw [clashOf_yes (show clashB n p q = true by unfold clashB; rw [hp, hq]; rfl), clashOf_yes (show clashB n (lateV n p 7) (lateV n q 7) = true by unfold clashB; rw [hp', hq']; rfl), l1]
  refine clashTo_same fun k hk => ?_
  have a := g1 k hk
  have b := g2 k (by omega)
  unfold clashAt
  exact decide_eq_decide.2 (by omega)
/-- With itself a path clashes everywhere. -/
theorem clash_self {n : Int} {p : List Int × List Int} (h : pathB n p = true) : ((clashOf n p p).length : Int) = n := by
  have hs := pathB_is h
  rw [clashOf_yes (show clashB n p p = true by unfold clashB; rw [h]; rfl)]
  have all : ∀ k, k ≤ p.1.length → (clashTo p p k).length = k := by
    intro k
    induction k with
    | zero => intro _; rfl
    | succ k ih =>
      intro hk
      have bd := hs.2.2.2.bounds (j := k) (by omega)
      rw [clashTo_yes (by unfold clashAt; exact decide_eq_true (by omega)), List.length_append, ih (by omega)]
      rfl
  rw [all _ (Nat.le_refl _)]
  exact hs.2.1
/-- Two paths that clash are no paths of a line. -/
theorem clash_pair {n : Int} {p q : List Int × List Int} (h : clashOf n p q ≠ []) : pathsB n [p, q] = false :=
  pathsB_clash (i := 1) (j := 0) (by simp) (by omega) (by show clashOf n q p ≠ []; rw [clashOf_sym]; exact h)

end Go.Proofs.Ytoebgdcgcdigaab
