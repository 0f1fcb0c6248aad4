/-
  Offsets and slacks of two registers, plainly. No walk.
-/
import Derived.Test.YtodknakemgmhkabNoteP
namespace Go.Proofs.Ytodknakemgmhkab

/-- How much later a note of the second list is. -/
def latN (ms ns : List Mv) (i : Nat) : Int := (ns.getD i noMv).1 - (ms.getD i noMv).1
/-- The least and the greatest offset with which the first k notes agree. -/
def offL (ms ns : List Mv) (sl : Int) : Nat → Int
  | 0 => -30
  | k + 1 => max (offL ms ns sl k) (latN ms ns k - sl)
def offG (ms ns : List Mv) (sl : Int) : Nat → Int
  | 0 => 30
  | k + 1 => min (offG ms ns sl k) (latN ms ns k + sl)
theorem off_agree (ms ns : List Mv) (sl o : Int) (k : Nat) : ((∀ i, i < k → -sl ≤ latN ms ns i - o ∧ latN ms ns i - o ≤ sl) ∧ -30 ≤ o ∧ o ≤ 30) ↔ (offL ms ns sl k ≤ o ∧ o ≤ offG ms ns sl k) := by
  induction k with
  | zero => simp [offL, offG]
  | succ k ih =>
    simp only [offL, offG]
    constructor
    · rintro ⟨h, ho⟩
      have h1 := ih.1 ⟨fun i hi => h i (by omega), ho⟩
      have h2 := h k (by omega)
      omega
    · intro h
      have h1 := ih.2 (by omega)
      refine ⟨fun i hi => ?_, h1.2⟩
      by_cases e : i = k
      · subst e; omega
      · exact h1.1 i (by omega)
theorem off_range (ms ns : List Mv) (sl : Int) (h0 : 0 ≤ sl) (h5 : sl ≤ 5) (k : Nat) (h : ∀ i, i < k → -2000 ≤ latN ms ns i ∧ latN ms ns i ≤ 2000) : -30 ≤ offL ms ns sl k ∧ offL ms ns sl k ≤ 2000 ∧ -2000 ≤ offG ms ns sl k ∧ offG ms ns sl k ≤ 30 := by
  induction k with
  | zero => simp [offL, offG]
  | succ k ih =>
    have h1 := ih fun i hi => h i (by omega)
    have h2 := h k (by omega)
    simp only [offL, offG]
    omega
theorem reg_lat {ms ns : List Mv} (h : regB ms = true) (h' : regB ns = true) (hl : ns.length = ms.length) {i : Nat} (hi : i < ms.length) : -2000 ≤ latN ms ns i ∧ latN ms ns i ≤ 2000 := by
  obtain ⟨a1, a2, _⟩ := reg_note h hi
  obtain ⟨b1, b2, _⟩ := reg_note h' (i := i) (by omega)
  unfold latN
  omega

/-- What the program and the model hand back for an offset. -/
def offO (ms ns : List Mv) (sl : Int) : Option Int :=
  if (regB ms = true ∧ regB ns = true ∧ nTx ms = nTx ns) ∧ (0 ≤ sl ∧ sl ≤ 5) ∧ offL ms ns sl ms.length ≤ offG ms ns sl ms.length then some (offL ms ns sl ms.length) else none
theorem offO_first {ms ns : List Mv} {sl : Int} (h : regB ms = false) : offO ms ns sl = none := by unfold offO; rw [if_neg (by simp [h])]
theorem offO_second {ms ns : List Mv} {sl : Int} (h : regB ns = false) : offO ms ns sl = none := by unfold offO; rw [if_neg (by simp [h])]
theorem offO_text {ms ns : List Mv} {sl : Int} (h : nTx ms ≠ nTx ns) : offO ms ns sl = none := by unfold offO; rw [if_neg (by simp [h])]
theorem offO_slack {ms ns : List Mv} {sl : Int} (h : sl < 0 ∨ 5 < sl) : offO ms ns sl = none := by unfold offO; rw [if_neg (fun q => by omega)]
theorem offO_no {ms ns : List Mv} {sl : Int} (h : offG ms ns sl ms.length < offL ms ns sl ms.length) : offO ms ns sl = none := by unfold offO; rw [if_neg (fun q => by omega)]
theorem offO_yes {ms ns : List Mv} {sl : Int} (h1 : regB ms = true) (h2 : regB ns = true) (h3 : nTx ms = nTx ns) (h4 : 0 ≤ sl) (h5 : sl ≤ 5) (h : offL ms ns sl ms.length ≤ offG ms ns sl ms.length) : offO ms ns sl = some (offL ms ns sl ms.length) := by
  unfold offO
  rw [if_pos ⟨⟨h1, h2, h3⟩, ⟨h4, h5⟩, h⟩]
theorem offO_is {ms ns : List Mv} {sl o : Int} (h : offO ms ns sl = some o) : (regB ms = true ∧ regB ns = true ∧ nTx ms = nTx ns) ∧ (0 ≤ sl ∧ sl ≤ 5) ∧ offL ms ns sl ms.length ≤ offG ms ns sl ms.length ∧ o = offL ms ns sl ms.length := by
  unfold offO at h
  split at h
  · rename_i q
    simp only [Option.some.injEq] at h
    exact ⟨q.1, q.2.1, q.2.2, h.symm⟩
  · cases h
theorem text_length {ms ns : List Mv} (h1 : regB ms = true) (h2 : regB ns = true) (h3 : nTx ms = nTx ns) : ns.length = ms.length := by
  rw [← nTx_size h1, ← nTx_size h2, h3]
def offV (o : Option Int) : Value := .tuple #[.int .i64 (o.getD 0), .bool o.isSome]

/-- The least slack. -/
def slkO (ms ns : List Mv) : Option Int := ((List.range 6).find? fun (k : Nat) => (offO ms ns (k : Int)).isSome).map fun k => ((k : Nat) : Int)
theorem slkO_at {ms ns : List Mv} {k : Nat} (hk : k < 6) (h : ∀ j, j < k → offO ms ns ((j : Nat) : Int) = none) (hs : (offO ms ns ((k : Nat) : Int)).isSome = true) : slkO ms ns = some (k : Int) := by
  unfold slkO
  have e : (List.range 6).find? (fun (k : Nat) => (offO ms ns (k : Int)).isSome) = some k := by
    rw [List.find?_range_eq_some]
    refine ⟨hs, List.mem_range.2 hk, fun j hj => ?_⟩
    simp [h j hj]
  rw [e]
  rfl
theorem slkO_none {ms ns : List Mv} (h : ∀ j, j < 6 → offO ms ns ((j : Nat) : Int) = none) : slkO ms ns = none := by
  unfold slkO
  have e : (List.range 6).find? (fun (k : Nat) => (offO ms ns (k : Int)).isSome) = none := by
    rw [List.find?_range_eq_none]
    intro j hj
    simp [h j hj]
  rw [e]
  rfl

end Go.Proofs.Ytodknakemgmhkab
