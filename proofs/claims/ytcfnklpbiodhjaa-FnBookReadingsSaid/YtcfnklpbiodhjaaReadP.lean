/-
  The readings of what is behind a code; and of a clear book. Plainly. No condition; nothing of the program is imported.
-/
import Derived.Test.YtcfnklpbiodhjaaFewP
import Derived.Test.YtcfnklpbiodhjaaSumP
namespace Go.Proofs.Ytcfnklpbiodhjaa

theorem here_drop (bk : List (List Int)) (rs : List Int) (l q k : Nat) : here bk (rs.drop l) q k = here bk rs (q + l) k := by
  unfold here
  rw [List.drop_drop, Nat.add_comm l q]
theorem rowTo_drop {t u : Nat → Tri} (bk : List (List Int)) (rs : List Int) (l q : Nat) (h : ∀ i, t i = u (i + l)) (k : Nat) : rowTo t bk (rs.drop l) q k = rowTo u bk rs (q + l) k := by
  induction k with
  | zero => rfl
  | succ k ih =>
    simp only [rowTo, step3, ih, here_drop, h]
    rw [show q + clen bk k + l = q + l + clen bk k by omega]
theorem tab_drop (bk : List (List Int)) {rs : List Int} {l : Nat} (hl : l ≤ rs.length) (d q : Nat) : tab bk (rs.drop l) d q = tab bk rs d (q + l) := by
  induction d generalizing q with
  | zero =>
    simp only [tab, List.length_drop]
    by_cases e : q + l = rs.length
    · rw [if_pos e, if_pos (by omega)]
    · rw [if_neg e, if_neg (by omega)]
  | succ d ih =>
    by_cases e : q + l + (d + 1) = rs.length
    · rw [tab_last _ _ _ _ e, tab_last _ _ _ _ (by rw [List.length_drop]; omega)]
      exact rowTo_drop bk rs l q (fun i => ih i) _
    · rw [tab_else _ _ _ _ e, tab_else _ _ _ _ (by rw [List.length_drop]; omega)]
      exact ih q
theorem groupsB_drop {rs : List Int} (h : groupsB rs 0 20 = true) (l : Nat) : groupsB (rs.drop l) 0 20 = true := by
  obtain ⟨h1, h2, h3⟩ := groupsB_ok h
  simp only [groupsB, Bool.and_eq_true, decide_eq_true_eq]
  refine ⟨?_, by omega, by rw [List.length_drop]; omega⟩
  unfold okGroups at *
  rw [List.all_eq_true] at *
  intro x hx
  exact h1 x (List.mem_of_mem_drop hx)
theorem readings_drop {bk : List (List Int)} {rs : List Int} (hb : bookB bk = true) (hg : groupsB rs 0 20 = true) {l : Nat} (hl : l ≤ rs.length) : readingsOf bk (rs.drop l) = (whole bk rs l).1 := by
  unfold readingsOf whole
  rw [hb, groupsB_drop hg]
  simp only [Bool.and_self, if_true]
  rw [tab_drop bk hl, List.length_drop, Nat.zero_add]
  rw [← tab_done (d := rs.length - l) (d' := rs.length) (by omega) (by omega)]

theorem whole_is {bk : List (List Int)} {rs : List Int} (hl : Lens bk) {p : Nat} (hp : p < rs.length) : whole bk rs p = rowTo (whole bk rs) bk rs p bk.length := by
  obtain ⟨d, hd'⟩ : ∃ d, p + (d + 1) = rs.length := ⟨rs.length - p - 1, by omega⟩
  unfold whole
  rw [tab_done (d := d + 1) (by omega) (by omega), tab_last _ _ _ _ hd']
  refine rowTo_congr hl (fun q h1 h2 => ?_) _ (Nat.le_refl _)
  rw [tab_done (d := d) (d' := rs.length) (by omega) (by omega)]

/-- The readings by the first k codes. -/
def partTo (bk : List (List Int)) (rs : List Int) (k : Nat) : Int := rowW (fun q => (whole bk rs q).1) bk rs 0 k
theorem sum_all {bk : List (List Int)} {rs : List Int} (hb : bookB bk = true) (hg : groupsB rs 0 20 = true) (hbl : bk.length ≤ 1048576) (hp : 0 < rs.length) : partTo bk rs bk.length = readingsOf bk rs := by
  have hl := lens_of hb
  unfold partTo
  rw [rowW_is (t := whole bk rs) hl hbl (fun q _ _ => tab_ok hl hbl rs.length q) _ (Nat.le_refl _), ← whole_is hl hp]
  have := readings_drop hb hg (Nat.zero_le rs.length)
  rw [List.drop_zero] at this
  exact this.symm
theorem sum_here {bk : List (List Int)} {rs : List Int} {k : Nat} (h : here bk rs 0 k = true) : partTo bk rs (k + 1) = IntKind.i64.wrap (partTo bk rs k + (whole bk rs (clen bk k)).1) := by
  unfold partTo
  simp only [rowW]
  rw [if_pos h, Nat.zero_add]
theorem sum_not {bk : List (List Int)} {rs : List Int} {k : Nat} (h : here bk rs 0 k = false) : partTo bk rs (k + 1) = partTo bk rs k := by
  unfold partTo
  simp only [rowW]
  rw [h]
  simp

/-- No code is the beginning of another one. -/
def Apart (bk : List (List Int)) : Prop := ∀ i j, i < bk.length → j < bk.length → clen bk i < clen bk j → bk.getD i [] ≠ (bk.getD j []).take (clen bk i)

theorem here_one {bk : List (List Int)} {rs : List Int} {p i j : Nat} (hd : Differ bk) (ha : Apart bk) (hi : i < bk.length) (hj : j < i) (h1 : here bk rs p i = true) : here bk rs p j = false := by
  cases h2 : here bk rs p j
  · rfl
  · have e1 := here_is h1
    have e2 := here_is h2
    rcases Nat.lt_trichotomy (clen bk j) (clen bk i) with q | q | q
    · refine absurd ?_ (ha j i (by omega) hi q)
      rw [e1, List.take_take, Nat.min_eq_left (by omega)]
      exact e2
    · refine absurd ?_ (hd i j hj hi)
      rw [e1, e2, q]
    · refine absurd ?_ (ha i j hi (by omega) q)
      rw [e2, List.take_take, Nat.min_eq_left (by omega)]
      exact e1
theorem row_none {t : Nat → Tri} {bk : List (List Int)} {rs : List Int} {p k : Nat} (h : ∀ j, j < k → here bk rs p j = false) : rowTo t bk rs p k = (0, 0, 0) := by
  induction k with
  | zero => rfl
  | succ k ih =>
    simp only [rowTo, step3]
    rw [h k (by omega), ih (fun j hj => h j (by omega))]
    simp
theorem row_one {t : Nat → Tri} {bk : List (List Int)} {rs : List Int} {p : Nat} (hl : Lens bk) (hd : Differ bk) (ha : Apart bk) (ht : ∀ q, p < q → q ≤ rs.length → 0 ≤ (t q).1 ∧ (t q).1 ≤ 1) (k : Nat) (hk : k ≤ bk.length) : (rowTo t bk rs p k).1 ≤ 1 := by
  induction k with
  | zero => simp [rowTo]
  | succ k ih =>
    cases hh : here bk rs p k
    · simp only [rowTo, step3]
      rw [hh]
      exact ih (by omega)
    · have e := row_none (t := t) (fun j hj => here_one hd ha (by omega) hj hh)
      have hroom := here_room hh (hl k (by omega)).1
      have b := ht _ (by have := (hl k (by omega)).1; omega) hroom
      simp only [rowTo, step3]
      rw [hh, e]
      simp only [if_true]
      split
      · simp
      · show IntKind.i64.wrap (0 + _) ≤ 1
        rw [Int.zero_add, wrap_same (by unfold In64; omega)]
        exact b.2
theorem clear_one {bk : List (List Int)} {rs : List Int} (hl : Lens bk) (hd : Differ bk) (ha : Apart bk) (hb : bk.length ≤ 1048576) (hn : rs.length ≤ 20) (d q : Nat) (hq : q ≤ rs.length) : (tab bk rs d q).1 ≤ 1 := by
  induction d generalizing q with
  | zero =>
    simp only [tab]
    split <;> simp
  | succ d ih =>
    by_cases e : q + (d + 1) = rs.length
    · rw [tab_last _ _ _ _ e]
      exact row_one hl hd ha (fun q' _ h2 => ⟨(tab_fit hl hd hb hn d q' h2).pos, ih q' h2⟩) _ (Nat.le_refl _)
    · rw [tab_else _ _ _ _ e]
      exact ih q hq

end Go.Proofs.Ytcfnklpbiodhjaa
