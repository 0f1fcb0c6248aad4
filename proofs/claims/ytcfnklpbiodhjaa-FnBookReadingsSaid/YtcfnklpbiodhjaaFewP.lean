/-
  The reading with the fewest codes, plainly: how many readings there are at most, what the fewest codes are, and the first code of the best reading. No condition; nothing of the program is imported.
-/
import Derived.Test.YtcfnklpbiodhjaaTabP
namespace Go.Proofs.Ytcfnklpbiodhjaa

/-- The fewest codes at a place, as the model writes them: 1000 where there is no reading. -/
def fewOf (x : Tri) : Int := if x.1 = 0 then 1000 else x.2.1
def fewTo (t : Nat → Tri) (bk : List (List Int)) (rs : List Int) (p : Nat) : Nat → Int
  | 0 => 1000
  | k + 1 => if here bk rs p k then min (fewTo t bk rs p k) (fewOf (t (p + clen bk k)) + 1) else fewTo t bk rs p k

/-- Some of the first k codes stands here with so many groups. -/
def Used (bk : List (List Int)) (rs : List Int) (p k l : Nat) : Prop := ∃ j, j < k ∧ here bk rs p j = true ∧ clen bk j = l
noncomputable def used (bk : List (List Int)) (rs : List Int) (p k l : Nat) : Nat := @ite _ (Used bk rs p k l) (Classical.propDecidable _) 1 0
noncomputable def cnt (bk : List (List Int)) (rs : List Int) (p k : Nat) : Nat := used bk rs p k 1 + used bk rs p k 2 + used bk rs p k 3 + used bk rs p k 4 + used bk rs p k 5
theorem used_yes {bk : List (List Int)} {rs : List Int} {p k l : Nat} (h : Used bk rs p k l) : used bk rs p k l = 1 := by unfold used; rw [if_pos h]
theorem used_no {bk : List (List Int)} {rs : List Int} {p k l : Nat} (h : ¬ Used bk rs p k l) : used bk rs p k l = 0 := by unfold used; rw [if_neg h]
theorem used_le (bk : List (List Int)) (rs : List Int) (p k l : Nat) : used bk rs p k l ≤ 1 := by
  by_cases h : Used bk rs p k l
  · rw [used_yes h]; omega
  · rw [used_no h]; omega
theorem cnt_le (bk : List (List Int)) (rs : List Int) (p k : Nat) : cnt bk rs p k ≤ 5 := by
  have h1 := used_le bk rs p k 1
  have h2 := used_le bk rs p k 2
  have h3 := used_le bk rs p k 3
  have h4 := used_le bk rs p k 4
  have h5 := used_le bk rs p k 5
  unfold cnt
  omega
theorem used_other {bk : List (List Int)} {rs : List Int} {p k l : Nat} (h : here bk rs p k = false ∨ clen bk k ≠ l) : used bk rs p (k + 1) l = used bk rs p k l := by
  by_cases q : Used bk rs p k l
  · rw [used_yes q, used_yes]
    obtain ⟨j, hj, r⟩ := q
    exact ⟨j, by omega, r⟩
  · rw [used_no q, used_no]
    rintro ⟨j, hj, r1, r2⟩
    by_cases e : j = k
    · subst e
      rcases h with h | h
      · rw [h] at r1; cases r1
      · exact h r2
    · exact q ⟨j, by omega, r1, r2⟩

theorem here_is {bk : List (List Int)} {rs : List Int} {p k : Nat} (h : here bk rs p k = true) : bk.getD k [] = (rs.drop p).take (clen bk k) := of_decide_eq_true h

/-- The codes differ. -/
def Differ (bk : List (List Int)) : Prop := ∀ i j, j < i → i < bk.length → bk.getD i [] ≠ bk.getD j []
theorem differ_of {bk : List (List Int)} (h : bookB bk = true) : Differ bk := (bookB_is h).1.2

theorem cnt_here {bk : List (List Int)} {rs : List Int} {p k : Nat} (hl : Lens bk) (hd : Differ bk) (hk : k < bk.length) (h : here bk rs p k = true) : cnt bk rs p (k + 1) = cnt bk rs p k + 1 := by
  have hu : ¬ Used bk rs p k (clen bk k) := by
    rintro ⟨j, hj, r1, r2⟩
    apply hd k j hj hk
    rw [here_is h, here_is r1, r2]
  have h0 := used_no hu
  have h1 : used bk rs p (k + 1) (clen bk k) = 1 := used_yes ⟨k, by omega, h, rfl⟩
  have hll := hl k hk
  have ho : ∀ l, clen bk k ≠ l → used bk rs p (k + 1) l = used bk rs p k l := fun l hne => used_other (.inr hne)
  unfold cnt
  obtain ⟨c, hc⟩ : ∃ c, c = clen bk k := ⟨_, rfl⟩
  rw [← hc] at h0 h1 hll ho
  have : c = 1 ∨ c = 2 ∨ c = 3 ∨ c = 4 ∨ c = 5 := by omega
  rcases this with rfl | rfl | rfl | rfl | rfl
  · rw [ho 2 (by omega), ho 3 (by omega), ho 4 (by omega), ho 5 (by omega)]; omega
  · rw [ho 1 (by omega), ho 3 (by omega), ho 4 (by omega), ho 5 (by omega)]; omega
  · rw [ho 1 (by omega), ho 2 (by omega), ho 4 (by omega), ho 5 (by omega)]; omega
  · rw [ho 1 (by omega), ho 2 (by omega), ho 3 (by omega), ho 5 (by omega)]; omega
  · rw [ho 1 (by omega), ho 2 (by omega), ho 3 (by omega), ho 4 (by omega)]; omega
theorem cnt_not {bk : List (List Int)} {rs : List Int} {p k : Nat} (h : here bk rs p k = false) : cnt bk rs p (k + 1) = cnt bk rs p k := by
  unfold cnt
  rw [used_other (.inl h), used_other (.inl h), used_other (.inl h), used_other (.inl h), used_other (.inl h)]

/-- What is known of the outlook at a place. -/
structure Fit (n p : Nat) (x : Tri) : Prop where
  pos : 0 ≤ x.1
  top : x.1 ≤ ((6 ^ (n - p) : Nat) : Int)
  codes0 : 0 ≤ x.2.1
  codes : x.2.1 ≤ 20

/-- What is known of a row by the first k codes. -/
structure RowFit (t : Nat → Tri) (bk : List (List Int)) (rs : List Int) (p k : Nat) (x : Tri) : Prop where
  pos : 0 ≤ x.1
  top : x.1 ≤ ((cnt bk rs p k * 6 ^ (rs.length - p - 1) : Nat) : Int)
  few : fewTo t bk rs p k = fewOf x
  first : x.1 ≠ 0 → ∃ j : Nat, j < k ∧ x.2.2 = (j : Int) ∧ here bk rs p j = true ∧ (t (p + clen bk j)).1 ≠ 0 ∧ (t (p + clen bk j)).2.1 + 1 = x.2.1
  least : x.1 ≠ 0 → ∀ i : Nat, (i : Int) < x.2.2 → here bk rs p i = true → (t (p + clen bk i)).1 ≠ 0 → x.2.1 < (t (p + clen bk i)).2.1 + 1
  all : x.1 ≠ 0 → ∀ i : Nat, i < k → here bk rs p i = true → (t (p + clen bk i)).1 ≠ 0 → x.2.1 ≤ (t (p + clen bk i)).2.1 + 1
  none : x.1 = 0 → ∀ i : Nat, i < k → here bk rs p i = true → (t (p + clen bk i)).1 = 0

theorem six_le {a b : Nat} (h : a ≤ b) : 6 ^ a ≤ 6 ^ b := Nat.pow_le_pow_right (by omega) h

theorem rowFit {t : Nat → Tri} {bk : List (List Int)} {rs : List Int} {p : Nat} (hl : Lens bk) (hd : Differ bk) (hn : rs.length ≤ 20) (hp : p < rs.length) (ht : ∀ q, p < q → q ≤ rs.length → Fit rs.length q (t q)) (k : Nat) (hk : k ≤ bk.length) : RowFit t bk rs p k (rowTo t bk rs p k) := by
  induction k with
  | zero => exact ⟨by simp [rowTo], Int.natCast_nonneg _, by simp [fewTo, rowTo, fewOf], by simp [rowTo], by simp [rowTo], by simp [rowTo], fun _ i hi => by omega⟩
  | succ k ih =>
    have r := ih (by omega)
    have hlk := (hl k (by omega)).1
    cases hh : here bk rs p k
    · have e : rowTo t bk rs p (k + 1) = rowTo t bk rs p k := by simp only [rowTo, step3]; rw [hh]; rfl
      have ef : fewTo t bk rs p (k + 1) = fewTo t bk rs p k := by simp only [fewTo]; rw [hh]; rfl
      rw [e]
      have hlt : ∀ i, i < k + 1 → here bk rs p i = true → i < k := by
        intro i hi h1
        by_cases q : i = k
        · subst q; rw [hh] at h1; cases h1
        · omega
      refine ⟨r.pos, by rw [cnt_not hh]; exact r.top, by rw [ef]; exact r.few, fun h0 => ?_, r.least, fun h0 i hi h1 h2 => r.all h0 i (hlt i hi h1) h1 h2, fun h0 i hi h1 => r.none h0 i (hlt i hi h1) h1⟩
      obtain ⟨j, hj, rest⟩ := r.first h0
      exact ⟨j, by omega, rest⟩
    · have hroom := here_room hh hlk
      have f := ht (p + clen bk k) (by omega) hroom
      obtain ⟨⟨rm, rc, rf⟩, hr⟩ : ∃ x, x = t (p + clen bk k) := ⟨_, rfl⟩
      obtain ⟨⟨am, ac, af⟩, ha⟩ : ∃ x, x = rowTo t bk rs p k := ⟨_, rfl⟩
      rw [← hr] at f
      rw [← ha] at r
      have e : rowTo t bk rs p (k + 1) = if rm = 0 then (am, ac, af) else (IntKind.i64.wrap (am + rm), if am = 0 ∨ rc + 1 < ac then (rc + 1, (k : Int)) else (ac, af)) := by
        simp only [rowTo, step3]; rw [hh, ← hr, ← ha]; rfl
      have ef : fewTo t bk rs p (k + 1) = min (fewOf (am, ac, af)) (fewOf (rm, rc, rf) + 1) := by
        simp only [fewTo]; rw [hh, ← hr, r.few]; rfl
      obtain ⟨fp, ftop, fc0, fc1⟩ := f
      obtain ⟨rp, rtop, _, rfirst, rleast, rall, rnone⟩ := r
      simp only at fp ftop fc0 fc1 rp rtop rfirst rleast rall rnone
      have hcnt := cnt_here hl hd (by omega) hh
      have hc5 := cnt_le bk rs p (k + 1)
      have h6 : 6 ^ (rs.length - (p + clen bk k)) ≤ 6 ^ (rs.length - p - 1) := six_le (by omega)
      have h19 : 6 ^ (rs.length - p - 1) ≤ 6 ^ 19 := six_le (by omega)
      have hmul : cnt bk rs p (k + 1) * 6 ^ (rs.length - p - 1) = cnt bk rs p k * 6 ^ (rs.length - p - 1) + 6 ^ (rs.length - p - 1) := by rw [hcnt, Nat.succ_mul]
      have hmax : cnt bk rs p (k + 1) * 6 ^ (rs.length - p - 1) ≤ 5 * 6 ^ 19 := Nat.mul_le_mul hc5 h19
      have h19' : (5 * 6 ^ 19 : Nat) = 3046798700052480 := by decide
      rw [h19'] at hmax
      obtain ⟨M, hM⟩ : ∃ M, M = 6 ^ (rs.length - p - 1) := ⟨_, rfl⟩
      obtain ⟨L, hL⟩ : ∃ L, L = 6 ^ (rs.length - (p + clen bk k)) := ⟨_, rfl⟩
      rw [← hM] at hmul hmax h6 h19 rtop
      rw [← hL] at h6 ftop
      obtain ⟨C, hC⟩ : ∃ C, C = cnt bk rs p k * M := ⟨_, rfl⟩
      obtain ⟨C', hC'⟩ : ∃ C', C' = cnt bk rs p (k + 1) * M := ⟨_, rfl⟩
      rw [← hC, ← hC'] at hmul
      rw [← hC'] at hmax
      rw [← hC] at rtop
      have hw : IntKind.i64.wrap (am + rm) = am + rm := IntWalk.i64_in _ (by omega)
      have htr : (t (p + clen bk k)) = (rm, rc, rf) := hr.symm
      by_cases q0 : rm = 0
      · have e' : rowTo t bk rs p (k + 1) = (am, ac, af) := by rw [e, if_pos q0]
        have hlt : ∀ i, i < k + 1 → (t (p + clen bk i)).1 ≠ 0 → i < k := by
          intro i hi h1
          by_cases q : i = k
          · subst q; rw [htr] at h1; exact absurd q0 h1
          · omega
        rw [e']
        refine ⟨rp, by rw [← hM, ← hC']; omega, ?_, fun h0 => ?_, rleast, fun h0 i hi h1 h2 => rall h0 i (hlt i hi h2) h1 h2, fun h0 i hi h1 => ?_⟩
        · rw [ef]
          have e1 : fewOf (rm, rc, rf) = 1000 := by simp [fewOf, q0]
          have e2 : fewOf (am, ac, af) ≤ 1000 := by
            unfold fewOf
            split
            · omega
            · rename_i h0
              obtain ⟨j, hj, _, hhj, h1, h2⟩ := rfirst h0
              have hlj := (hl j (by omega)).1
              have := (ht _ (by omega) (here_room hhj hlj)).codes
              show ac ≤ 1000
              omega
          rw [e1]
          omega
        · obtain ⟨j, hj, rest⟩ := rfirst h0
          exact ⟨j, by omega, rest⟩
        · by_cases q : i = k
          · subst q; rw [htr]; exact q0
          · exact rnone h0 i (by omega) h1
      · have hs0 : am + rm ≠ 0 := by omega
        have e1 : fewOf (rm, rc, rf) = rc := by simp [fewOf, q0]
        by_cases q1 : am = 0 ∨ rc + 1 < ac
        · have e' : rowTo t bk rs p (k + 1) = (am + rm, rc + 1, (k : Int)) := by rw [e, if_neg q0, if_pos q1, hw]
          rw [e']
          refine ⟨by show 0 ≤ am + rm; omega, by rw [← hM, ← hC']; show am + rm ≤ _; omega, ?_, fun _ => ⟨k, by omega, rfl, hh, by rw [htr]; exact q0, by rw [htr]⟩, fun _ i hi h1 h2 => ?_, fun _ i hi h1 h2 => ?_, fun h0 => absurd h0 hs0⟩
          · rw [ef, e1]
            have e2 : fewOf (am + rm, rc + 1, (k : Int)) = rc + 1 := by simp [fewOf, hs0]
            rw [e2]
            unfold fewOf
            split
            · omega
            · rename_i h0
              have : rc + 1 < ac := by
                rcases q1 with q | q
                · exact absurd q h0
                · exact q
              show min ac (rc + 1) = rc + 1
              omega
          · have hik : i < k := by have : (i : Int) < (k : Int) := hi; omega
            by_cases h0 : am = 0
            · exact absurd (rnone h0 i hik h1) h2
            · have := rall h0 i hik h1 h2
              show rc + 1 < _
              rcases q1 with q | q
              · exact absurd q h0
              · omega
          · by_cases q : i = k
            · subst q; rw [htr]; show rc + 1 ≤ rc + 1; omega
            · have hik : i < k := by omega
              by_cases h0 : am = 0
              · exact absurd (rnone h0 i hik h1) h2
              · have := rall h0 i hik h1 h2
                show rc + 1 ≤ _
                rcases q1 with q | q
                · exact absurd q h0
                · omega
        · have e' : rowTo t bk rs p (k + 1) = (am + rm, ac, af) := by rw [e, if_neg q0, if_neg q1, hw]
          have h0 : am ≠ 0 := fun h => q1 (.inl h)
          have h1 : ac ≤ rc + 1 := by
            have : ¬ rc + 1 < ac := fun h => q1 (.inr h)
            omega
          rw [e']
          refine ⟨by show 0 ≤ am + rm; omega, by rw [← hM, ← hC']; show am + rm ≤ _; omega, ?_, fun _ => ?_, fun _ i hi h1 h2 => rleast h0 i hi h1 h2, fun _ i hi h2 h3 => ?_, fun q => absurd q hs0⟩
          · rw [ef, e1]
            have e2 : fewOf (am + rm, ac, af) = ac := by simp [fewOf, hs0]
            have e3 : fewOf (am, ac, af) = ac := by simp [fewOf, h0]
            rw [e2, e3]
            omega
          · obtain ⟨j, hj, rest⟩ := rfirst h0
            exact ⟨j, by omega, rest⟩
          · by_cases q : i = k
            · subst q; rw [htr]; exact h1
            · exact rall h0 i (by omega) h2 h3

theorem RowFit.fit {t : Nat → Tri} {bk : List (List Int)} {rs : List Int} {p : Nat} (hp : p < rs.length) (hb : bk.length ≤ 1048576) (hn : rs.length ≤ 20) (hl : Lens bk) (ht : ∀ q, p < q → q ≤ rs.length → TriOk rs.length q (t q)) (r : RowFit t bk rs p bk.length (rowTo t bk rs p bk.length)) : Fit rs.length p (rowTo t bk rs p bk.length) := by
  have hc := cnt_le bk rs p bk.length
  have o := rowTo_ok hl hb ht bk.length (Nat.le_refl _)
  have c0 := o.codes0
  have c1 := o.codes
  have e : 6 ^ (rs.length - p) = 6 * 6 ^ (rs.length - p - 1) := by
    rw [show rs.length - p = (rs.length - p - 1) + 1 by omega, Nat.pow_succ, Nat.mul_comm]
    simp
  have h2 : cnt bk rs p bk.length * 6 ^ (rs.length - p - 1) ≤ 6 * 6 ^ (rs.length - p - 1) := Nat.mul_le_mul_right _ (by omega)
  have h3 := r.top
  refine ⟨r.pos, ?_, c0, by omega⟩
  rw [e]
  omega

theorem tab_fit {bk : List (List Int)} {rs : List Int} (hl : Lens bk) (hd : Differ bk) (hb : bk.length ≤ 1048576) (hn : rs.length ≤ 20) (d q : Nat) (hq : q ≤ rs.length) : Fit rs.length q (tab bk rs d q) := by
  induction d generalizing q with
  | zero =>
    simp only [tab]
    split
    · exact ⟨by simp, by have := six_le (Nat.zero_le (rs.length - q)); simp only [Nat.pow_zero] at this; show (1 : Int) ≤ _; omega, by simp, by simp⟩
    · exact ⟨by simp, Int.natCast_nonneg _, by simp, by simp⟩
  | succ d ih =>
    by_cases e : q + (d + 1) = rs.length
    · rw [tab_last _ _ _ _ e]
      exact RowFit.fit (by omega) hb hn hl (fun q _ _ => tab_ok hl hb d q) (rowFit hl hd hn (by omega) (fun q' _ h2 => ih q' h2) _ (Nat.le_refl _))
    · rw [tab_else _ _ _ _ e]
      exact ih q hq

/-- A place whose row is made stays as it is. -/
theorem tab_done {bk : List (List Int)} {rs : List Int} {d d' q : Nat} (h : rs.length ≤ q + d) (hd : d ≤ d') : tab bk rs d' q = tab bk rs d q := by
  induction d' with
  | zero => rw [show d = 0 by omega]
  | succ m ih =>
    by_cases e : d = m + 1
    · rw [e]
    · rw [tab_else _ _ _ _ (by omega)]
      exact ih (by omega)

/-- The whole table. -/
def whole (bk : List (List Int)) (rs : List Int) : Nat → Tri := tab bk rs rs.length

theorem whole_row {bk : List (List Int)} {rs : List Int} (hl : Lens bk) (hd : Differ bk) (hb : bk.length ≤ 1048576) (hn : rs.length ≤ 20) {p : Nat} (hp : p < rs.length) : RowFit (whole bk rs) bk rs p bk.length (whole bk rs p) := by
  obtain ⟨d, hd'⟩ : ∃ d, p + (d + 1) = rs.length := ⟨rs.length - p - 1, by omega⟩
  have e : whole bk rs p = rowTo (whole bk rs) bk rs p bk.length := by
    unfold whole
    rw [tab_done (d := d + 1) (by omega) (by omega), tab_last _ _ _ _ hd']
    refine rowTo_congr hl (fun q h1 h2 => ?_) _ (Nat.le_refl _)
    rw [tab_done (d := d) (d' := rs.length) (by omega) (by omega)]
  rw [e]
  exact rowFit hl hd hn hp (fun q _ h2 => tab_fit hl hd hb hn _ q h2) _ (Nat.le_refl _)

/-- The first code of the best reading from a place on, and that no lesser one serves. -/
theorem whole_first {bk : List (List Int)} {rs : List Int} (hl : Lens bk) (hd : Differ bk) (hb : bk.length ≤ 1048576) (hn : rs.length ≤ 20) {p : Nat} (hp : p < rs.length) (h : (whole bk rs p).1 ≠ 0) :
    ∃ j : Nat, j < bk.length ∧ (whole bk rs p).2.2 = (j : Int) ∧ here bk rs p j = true ∧ (whole bk rs (p + clen bk j)).1 ≠ 0 ∧ fewOf (whole bk rs (p + clen bk j)) + 1 = fewOf (whole bk rs p) ∧ ∀ i, i < j → here bk rs p i = true → fewOf (whole bk rs (p + clen bk i)) + 1 ≠ fewOf (whole bk rs p) := by
  have r := whole_row hl hd hb hn hp
  obtain ⟨j, h1, h2, h3, h4, h5⟩ := r.first h
  have e0 : fewOf (whole bk rs p) = (whole bk rs p).2.1 := by simp [fewOf, h]
  have e1 : fewOf (whole bk rs (p + clen bk j)) = (whole bk rs (p + clen bk j)).2.1 := by simp [fewOf, h4]
  refine ⟨j, h1, h2, h3, h4, by rw [e0, e1]; exact h5, fun i hi h6 => ?_⟩
  rw [e0]
  have hf := (tab_fit hl hd hb hn rs.length p (by omega)).codes
  by_cases q : (whole bk rs (p + clen bk i)).1 = 0
  · have : fewOf (whole bk rs (p + clen bk i)) = 1000 := by simp [fewOf, q]
    rw [this]
    show 1000 + 1 ≠ (tab bk rs rs.length p).2.1
    omega
  · have e2 : fewOf (whole bk rs (p + clen bk i)) = (whole bk rs (p + clen bk i)).2.1 := by simp [fewOf, q]
    have := r.least h i (by omega) h6 q
    rw [e2]
    omega

/-- The best reading, code by code: the list so far, and the place. -/
def readW (t : Nat → Tri) (bk : List (List Int)) (n : Nat) : Nat → List Int × Nat
  | 0 => ([], 0)
  | i + 1 => if (readW t bk n i).2 < n then ((readW t bk n i).1 ++ [(t (readW t bk n i).2).2.2], (readW t bk n i).2 + clen bk (t (readW t bk n i).2).2.2.toNat) else readW t bk n i

theorem readW_stay {t : Nat → Tri} {bk : List (List Int)} {n i j : Nat} (h : n ≤ (readW t bk n i).2) (hij : i ≤ j) : readW t bk n j = readW t bk n i := by
  induction j with
  | zero => rw [show i = 0 by omega]
  | succ j ih =>
    by_cases e : i = j + 1
    · rw [e]
    · have := ih (by omega)
      simp only [readW]
      rw [this, if_neg (by omega)]

/-- So far the best reading has come. -/
def Walked (bk : List (List Int)) (rs : List Int) (out : List Int) (p : Nat) : Prop := ∃ i, i ≤ p ∧ p ≤ rs.length ∧ readW (whole bk rs) bk rs.length i = (out, p) ∧ (whole bk rs p).1 ≠ 0 ∧ out.length = i
theorem Walked.zero {bk : List (List Int)} {rs : List Int} (h : (whole bk rs 0).1 ≠ 0) : Walked bk rs [] 0 := ⟨0, by omega, by omega, rfl, h, rfl⟩
theorem Walked.len {bk : List (List Int)} {rs out : List Int} {p : Nat} (h : Walked bk rs out p) : out.length ≤ p ∧ p ≤ rs.length := by
  obtain ⟨i, h1, h2, _, _, h3⟩ := h
  omega
theorem Walked.some {bk : List (List Int)} {rs out : List Int} {p : Nat} (h : Walked bk rs out p) : (whole bk rs p).1 ≠ 0 := by
  obtain ⟨i, _, _, _, h, _⟩ := h
  exact h
theorem Walked.next {bk : List (List Int)} {rs out : List Int} {p j : Nat} (h : Walked bk rs out p) (hp : p < rs.length) (hl : 1 ≤ clen bk j) (hj : (whole bk rs p).2.2 = (j : Int)) (hh : here bk rs p j = true) (hr : (whole bk rs (p + clen bk j)).1 ≠ 0) : Walked bk rs (out ++ [(j : Int)]) (p + clen bk j) := by
  obtain ⟨i, h1, h2, h3, h4, h5⟩ := h
  refine ⟨i + 1, by omega, here_room hh hl, ?_, hr, by simp [h5]⟩
  simp only [readW]
  rw [h3]
  simp only [hp, if_true, hj, Int.toNat_natCast]

/-- There is a reading. -/
noncomputable def readB (bk : List (List Int)) (rs : List Int) : Bool := bookB bk && groupsB rs 0 20 && decide ((whole bk rs 0).1 ≠ 0)
/-- The reading with the fewest codes, or none. -/
noncomputable def readOf (bk : List (List Int)) (rs : List Int) : List Int := if readB bk rs then (readW (whole bk rs) bk rs.length rs.length).1 else []
theorem Walked.done {bk : List (List Int)} {rs out : List Int} (h : Walked bk rs out rs.length) (hb : readB bk rs = true) : readOf bk rs = out := by
  obtain ⟨i, h1, h2, h3, h4, h5⟩ := h
  unfold readOf
  rw [if_pos hb, readW_stay (i := i) (by rw [h3]; exact Nat.le_refl _) h1, h3]
theorem readW_length (t : Nat → Tri) (bk : List (List Int)) (n i : Nat) : (readW t bk n i).1.length ≤ i := by
  induction i with
  | zero => simp [readW]
  | succ i ih =>
    simp only [readW]
    split
    · simp; omega
    · omega
theorem readOf_length (bk : List (List Int)) (rs : List Int) : (readOf bk rs).length ≤ 1048576 := by
  unfold readOf
  split
  · rename_i h
    unfold readB at h
    simp only [Bool.and_eq_true, groupsB, decide_eq_true_eq] at h
    have := readW_length (whole bk rs) bk rs.length rs.length
    omega
  · simp
theorem readOf_no {bk : List (List Int)} {rs : List Int} (h : readB bk rs = false) : readOf bk rs = [] := by unfold readOf; rw [h]; rfl

end Go.Proofs.Ytcfnklpbiodhjaa
