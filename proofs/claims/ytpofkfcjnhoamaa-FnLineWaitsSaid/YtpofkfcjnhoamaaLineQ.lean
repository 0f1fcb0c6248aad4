/-
  Trains at places, counted plainly. No walk.
-/
import Derived.Test.YtpofkfcjnhoamaaLineI
namespace Go.Proofs.Ytpofkfcjnhoamaa

/-- The first j trains that are at the first m places. -/
def smP (ts : List Int) (j : Nat) : Nat → Int
  | 0 => 0
  | m + 1 => smP ts j m + cntP ts m j
theorem smP_zero (ts : List Int) (m : Nat) : smP ts 0 m = 0 := by
  induction m with
  | zero => rfl
  | succ m ih => simp only [smP, cntP]; omega
theorem smP_more {ts : List Int} {j : Nat} (h0 : 0 ≤ ts.getD j 0) (m : Nat) : smP ts (j + 1) m = smP ts j m + (if ts.getD j 0 < m then 1 else 0) := by
  induction m with
  | zero => simp only [smP]; rw [if_neg (by omega)]; rfl
  | succ m ih =>
    simp only [smP]
    rw [ih]
    by_cases e : ts.getD j 0 = (m : Int)
    · rw [cntP_yes e, if_neg (by omega), if_pos (by omega)]; omega
    · rw [cntP_no e]
      by_cases q : ts.getD j 0 < (m : Int)
      · rw [if_pos q, if_pos (by omega)]; omega
      · rw [if_neg q, if_neg (by omega)]; omega
theorem smP_all {ts : List Int} {m : Nat} : ∀ j, (∀ i, i < j → 0 ≤ ts.getD i 0 ∧ ts.getD i 0 < (m : Int)) → smP ts j m = (j : Int) := by
  intro j
  induction j with
  | zero => intro _; exact smP_zero ts m
  | succ j ih =>
    intro h
    obtain ⟨a, b⟩ := h j (by omega)
    rw [smP_more a, if_pos b, ih (fun i hi => h i (by omega))]
    omega
theorem smP_range (ts : List Int) (hl : ts.length ≤ 6) : ∀ m : Nat, 0 ≤ smP ts ts.length m ∧ smP ts ts.length m ≤ 6 * (m : Int) := by
  intro m
  induction m with
  | zero => simp [smP]
  | succ m ih =>
    have := cntP_range ts m ts.length
    simp only [smP]
    omega
theorem smP_cnt (ts : List Int) (m : Nat) : smP ts ts.length (m + 1) = smP ts ts.length m + cntAt ts m := rfl
/-- A train is found at a place exactly if one is there. -/
theorem fst_cnt (ts : List Int) (p : Int) : (fst ts p).isSome = decide (0 < cntAt ts p) := by
  have hz : ∀ j, (∀ i, i < j → ts.getD i 0 ≠ p) → cntP ts p j = 0 := by
    intro j
    induction j with
    | zero => intro _; rfl
    | succ j ih => intro h; rw [cntP_no (h j (by omega)), ih (fun i hi => h i (by omega))]
  cases h : fst ts p with
  | none =>
    have := hz ts.length (fst_not h)
    unfold cntAt
    rw [this]
    rfl
  | some i =>
    obtain ⟨h1, h2, -⟩ := fst_is h
    have h3 : cntP ts p (i + 1) = cntP ts p i + 1 := cntP_yes h2
    have h4 := cntP_mono ts p (show i + 1 ≤ ts.length by omega)
    have h5 := cntP_range ts p i
    unfold cntAt
    rw [decide_eq_true (by omega)]
    rfl
/-- What the law on sections asks of a valid line. -/
theorem line_facts {l : Ln} (h : lnB l = true) :
    (1 ≤ l.1.length ∧ l.1.length ≤ 5) ∧ l.2.length ≤ 5 ∧
    (∀ k : Nat, k ≤ l.1.length → waitsV l k = cntAt l.2 (2 * k : Nat)) ∧ inV l l.1.length = none ∧
    (∀ k : Nat, k < l.1.length → (∃ i : Nat, i < l.2.length ∧ inV l k = some i ∧ l.2.getD i 0 = 2 * (k : Int) + 1 ∧ (l.1.getD k nb).2.1 = true ∧ cntAt l.2 (2 * k + 1 : Nat) = 1) ∨ (inV l k = none ∧ (l.1.getD k nb).2.1 = false ∧ cntAt l.2 (2 * k + 1 : Nat) = 0)) ∧
    smP l.2 l.2.length (2 * l.1.length + 1) = (l.2.length : Int) := by
  obtain ⟨h1, h2, h3, h4⟩ := lnB_is h
  refine ⟨h1, h2, ?_, ?_, ?_, ?_⟩
  · intro k hk
    unfold waitsV
    rw [if_pos ⟨h, by omega, by omega⟩]
    congr 1
  · unfold inV
    rw [if_neg (fun q => by omega)]
  · intro k hk
    have hc := (h4 k hk).2
    have e : ((2 * k + 1 : Nat) : Int) = 2 * (k : Int) + 1 := by omega
    have hi : inV l k = fst l.2 (2 * (k : Int) + 1) := by
      unfold inV
      rw [if_pos ⟨h, by omega, by omega⟩]
    rw [e, hi]
    have hf := fst_cnt l.2 (2 * (k : Int) + 1)
    rw [hc] at hf ⊢
    unfold insN at hf ⊢
    cases hb : (l.1.getD k nb).2.1 with
    | false =>
      rw [hb] at hf
      refine .inr ⟨?_, rfl, rfl⟩
      cases q : fst l.2 (2 * (k : Int) + 1) with
      | none => rfl
      | some i => rw [q] at hf; cases hf
    | true =>
      rw [hb] at hf
      refine .inl ?_
      cases q : fst l.2 (2 * (k : Int) + 1) with
      | none => rw [q] at hf; cases hf
      | some i => exact ⟨i, (fst_is q).1, rfl, (fst_is q).2.1, rfl, rfl⟩
  · refine smP_all _ (fun i hi => ?_)
    have := h3 i hi
    omega

end Go.Proofs.Ytpofkfcjnhoamaa
