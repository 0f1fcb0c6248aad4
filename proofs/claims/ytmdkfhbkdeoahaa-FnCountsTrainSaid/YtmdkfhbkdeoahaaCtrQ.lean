/-
  What the promises on counters ask, plainly. No walk.
-/
import Derived.Test.YtmdkfhbkdeoahaaCtrF
import Derived.Test.YtmdkfhbkdeoahaaCtrL
namespace Go.Proofs.Ytmdkfhbkdeoahaa

theorem clTo_mem {cs : List Int} {i : Nat} : ∀ k, ((i : Int) ∈ clTo cs k ↔ i < k ∧ cs.getD i 0 = 0) := by
  intro k
  induction k with
  | zero => simp [clTo]
  | succ k ih =>
    by_cases h : cs.getD k 0 = 0
    · rw [clTo_yes h, List.mem_append, ih, List.mem_singleton]
      constructor
      · rintro (⟨h1, h2⟩ | h1)
        · exact ⟨by omega, h2⟩
        · have : i = k := by omega
          subst this
          exact ⟨by omega, h⟩
      · rintro ⟨h1, h2⟩
        by_cases e : i = k
        · exact .inr (by omega)
        · exact .inl ⟨by omega, h2⟩
    · rw [clTo_no h, ih]
      constructor
      · rintro ⟨h1, h2⟩
        exact ⟨by omega, h2⟩
      · rintro ⟨h1, h2⟩
        refine ⟨?_, h2⟩
        by_cases e : i = k
        · subst e; exact absurd h2 h
        · omega
theorem clTo_nat {cs : List Int} {x : Int} : ∀ {k}, x ∈ clTo cs k → ∃ i : Nat, x = i := by
  intro k
  induction k with
  | zero => intro h; simp [clTo] at h
  | succ k ih =>
    intro h
    simp only [clTo] at h
    split at h
    · rw [List.mem_append, List.mem_singleton] at h
      rcases h with h | h
      · exact ih h
      · exact ⟨k, h⟩
    · exact ih h
theorem cl_has {cs : List Int} {i : Nat} (hc : cntB cs = true) (hi : i < cs.length) : decide ((i : Int) ∈ clL cs) = decide (cs.getD i 0 = 0) := by
  rw [clL_is hc]
  by_cases h : cs.getD i 0 = 0
  · rw [decide_eq_true h, decide_eq_true ((clTo_mem _).2 ⟨hi, h⟩)]
  · rw [decide_eq_false h, decide_eq_false (fun q => h ((clTo_mem _).1 q).2)]
/-- A clear section takes an axle: from the outside always, from its neighbour if that one has one. -/
theorem cl_pulse {cs : List Int} {x : Int} (hc : cntB cs = true) (hx : x ∈ clL cs) : ∃ k : Nat, x = k ∧ k < cs.length ∧
    (pulC cs x).isSome = (decide (k = 0) || decide (0 < cs.getD (k - 1) 0)) ∧ ∀ ds, pulC cs x = some ds → decide (x ∈ clL ds) = false := by
  rw [clL_is hc] at hx
  obtain ⟨k, rfl⟩ := clTo_nat hx
  obtain ⟨hk, h0⟩ := (clTo_mem _).1 hx
  obtain ⟨hl, hv⟩ := cntB_of hc
  have hp : pc (k : Int) = k := by have := pc_pos (p := (k : Int)) (by omega); omega
  have hs : sg (k : Int) = 1 := sg_pos (by omega)
  have hm : ∀ j, j < cs.length → (moved cs k 1).getD j 0 = cs.getD j 0 + (if j = k then 1 else 0) - (if j + 1 = k then 1 else 0) := fun j hj => moved_getD hj
  have hax : cntB (moved cs k 1) = (decide (k = 0) || decide (0 < cs.getD (k - 1) 0)) := by
    rw [cntB_is (by rw [moved_length]; exact hl)]
    by_cases e : k = 0 ∨ 0 < cs.getD (k - 1) 0
    · have e' : (decide (k = 0) || decide (0 < cs.getD (k - 1) 0)) = true := by simpa using e
      rw [e']
      refine axB_yes fun i hi => ?_
      rw [moved_length] at hi
      rw [hm i hi]
      have v := hv i hi
      by_cases e1 : i = k
      · subst e1
        rw [if_pos rfl, if_neg (by omega)]
        omega
      · rw [if_neg e1]
        by_cases e2 : i + 1 = k
        · rw [if_pos e2]
          have : k - 1 = i := by omega
          rw [this] at e
          omega
        · rw [if_neg e2]
          omega
    · have e' : (decide (k = 0) || decide (0 < cs.getD (k - 1) 0)) = false := by simpa using e
      rw [e']
      have hk1 : k - 1 < cs.length := by omega
      refine axB_no (k := k - 1) (by rw [moved_length]; exact hk1) ?_
      rw [hm _ hk1, if_neg (by omega), if_pos (by omega)]
      have := hv _ hk1
      omega
  refine ⟨k, rfl, hk, ?_, ?_⟩
  · unfold pulC
    rw [hc, if_pos rfl]
    unfold pul
    rw [hp, hs, hax]
    by_cases e : (decide (k = 0) || decide (0 < cs.getD (k - 1) 0)) = true
    · rw [e, if_pos ⟨by omega, rfl⟩]; rfl
    · rw [if_neg (fun q => e q.2)]
      simp only [Bool.not_eq_true] at e
      rw [e]; rfl
  · intro ds hd
    unfold pulC at hd
    rw [hc, if_pos rfl] at hd
    obtain ⟨h1, h2, h3, h4⟩ := pul_ok hd
    rw [hp, hs] at h4
    rw [cl_has h1 (by omega), h4, hm k hk, if_pos rfl, if_neg (by omega), h0]
    rfl

/-! ### Sums -/
def smTo (xs : List Int) : Nat → Int
  | 0 => 0
  | k + 1 => smTo xs k + xs.getD k 0
theorem smTo_range {xs : List Int} (h : ∀ i, i < xs.length → -100 ≤ xs.getD i 0 ∧ xs.getD i 0 ≤ 100) : ∀ k, k ≤ xs.length → -(100 * (k : Int)) ≤ smTo xs k ∧ smTo xs k ≤ 100 * (k : Int) := by
  intro k
  induction k with
  | zero => intro _; simp [smTo]
  | succ k ih =>
    intro hk
    have := ih (by omega)
    have := h k (by omega)
    simp only [smTo]
    omega
theorem smTo_moved {cs : List Int} {c : Nat} {s : Int} : ∀ k, k ≤ cs.length → smTo (moved cs c s) k = smTo cs k + (if c < k then s else 0) - (if 1 ≤ c ∧ c ≤ k then s else 0) := by
  intro k
  induction k with
  | zero => intro _; simp only [smTo]; rw [if_neg (by omega), if_neg (by omega)]; rfl
  | succ k ih =>
    intro hk
    simp only [smTo]
    rw [ih (by omega), moved_getD (by omega)]
    by_cases h1 : c < k
    · rw [if_pos h1, if_neg (by omega : ¬ k = c), if_pos (by omega : c < k + 1), if_neg (by omega : ¬ k + 1 = c)]
      by_cases h2 : 1 ≤ c
      · rw [if_pos ⟨h2, by omega⟩, if_pos ⟨h2, by omega⟩]; omega
      · rw [if_neg (by omega), if_neg (by omega)]; omega
    · rw [if_neg h1]
      by_cases h2 : k = c
      · subst h2
        rw [if_pos rfl, if_neg (by omega : ¬ k + 1 = k), if_pos (by omega : k < k + 1)]
        by_cases h3 : 1 ≤ k
        · rw [if_pos ⟨h3, by omega⟩, if_pos ⟨h3, by omega⟩]; omega
        · rw [if_neg (by omega), if_neg (by omega)]; omega
      · rw [if_neg h2, if_neg (by omega : ¬ c < k + 1), if_neg (by omega : ¬ (1 ≤ c ∧ c ≤ k))]
        by_cases h3 : k + 1 = c
        · rw [if_pos h3, if_pos (by omega)]; omega
        · rw [if_neg h3, if_neg (by omega)]; omega
theorem moved_back {cs : List Int} {c : Nat} {s : Int} : moved (moved cs c s) c (-s) = cs := by
  refine list_eq (by rw [moved_length, moved_length]) fun i hi => ?_
  rw [moved_length, moved_length] at hi
  rw [moved_getD (by rw [moved_length]; exact hi), moved_getD hi]
  split <;> split <;> omega

/-- What a pulse makes of a sum, and how it is taken back. -/
theorem pulse_facts {cs ds : List Int} {p : Int} (h : pulC cs p = some ds) : cntB cs = true ∧ cntB ds = true ∧ ds.length = cs.length ∧ pulC ds (-1 - p) = some cs ∧
    smTo ds ds.length - smTo cs cs.length = (if p = -1 ∨ p = (cs.length : Int) then -1 else if p = 0 ∨ p = -1 - (cs.length : Int) then 1 else 0) := by
  have hc : cntB cs = true := by
    cases e : cntB cs
    · rw [pulC_not e] at h; cases h
    · rfl
  have h' := h
  unfold pulC at h'
  rw [hc, if_pos rfl] at h'
  obtain ⟨h1, h2, h3, h4⟩ := pul_ok h'
  have hl := (cntB_of hc).1
  have hpc : pc (-1 - p) = pc p := by
    by_cases hp : p < 0
    · have := pc_neg hp; have := pc_pos (p := -1 - p) (by omega); omega
    · have := pc_pos (p := p) (by omega); have := pc_neg (p := -1 - p) (by omega); omega
  have hsg : sg (-1 - p) = - sg p := by
    by_cases hp : p < 0
    · rw [sg_neg hp, sg_pos (by omega)]; rfl
    · rw [sg_pos (p := p) (by omega), sg_neg (p := -1 - p) (by omega)]
  refine ⟨hc, h1, h2, ?_, ?_⟩
  · have e : moved ds (pc (-1 - p)) (sg (-1 - p)) = cs := by rw [hpc, hsg, h4, moved_back]
    have := pulC_some (cs := ds) (p := -1 - p) h1 (by rw [hpc, h2]; exact h3) (by rw [e]; exact hc)
    rw [e] at this
    exact this
  · rw [h2, h4, smTo_moved _ (Nat.le_refl _)]
    by_cases hp : p < 0
    · have e1 := pc_neg hp
      rw [sg_neg hp]
      repeat' split
      all_goals omega
    · have e1 := pc_pos (p := p) (by omega)
      rw [sg_pos (by omega)]
      repeat' split
      all_goals omega

end Go.Proofs.Ytmdkfhbkdeoahaa
