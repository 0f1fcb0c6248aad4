/-
  The least gap between two trains of a section is the least of all that are not below zero, plainly. No condition; no walk.
-/
import Derived.Test.YtoebgdcgcdigaabGap
import Derived.Test.YtoebgdcgcdigaabPathP
namespace Go.Proofs.Ytoebgdcgcdigaab
open Go.RowKit

def dOf (ps : List (List Int × List Int)) (k i m : Nat) : Int := inAt ps k i - outAt ps k m
def isHit (ps : List (List Int × List Int)) (k : Nat) (G : Int) (i m : Nat) : Bool := decide (i ≠ m ∧ 0 ≤ dOf ps k i m ∧ dOf ps k i m = G)
def rowHit (ps : List (List Int × List Int)) (k : Nat) (G : Int) (i : Nat) : Nat → Bool
  | 0 => false
  | m + 1 => rowHit ps k G i m || isHit ps k G i m
def hitTo (ps : List (List Int × List Int)) (k : Nat) (G : Int) : Nat → Bool
  | 0 => false
  | i + 1 => hitTo ps k G i || rowHit ps k G i ps.length
theorem rowHit_yes {ps : List (List Int × List Int)} {k : Nat} {G : Int} {i m : Nat} (h : isHit ps k G i m = true) : ∀ j, m < j → rowHit ps k G i j = true := by
  intro j
  induction j with
  | zero => intro q; omega
  | succ j ih =>
    intro q
    unfold rowHit
    by_cases e : m = j
    · subst e; rw [h, Bool.or_true]
    · rw [ih (by omega), Bool.true_or]
theorem hitTo_yes {ps : List (List Int × List Int)} {k : Nat} {G : Int} {i : Nat} (h : rowHit ps k G i ps.length = true) : ∀ j, i < j → hitTo ps k G j = true := by
  intro j
  induction j with
  | zero => intro q; omega
  | succ j ih =>
    intro q
    unfold hitTo
    by_cases e : i = j
    · subst e; rw [h, Bool.or_true]
    · rw [ih (by omega), Bool.true_or]
theorem gapTo_le {ps : List (List Int × List Int)} {k : Nat} {L : List Int} : ∀ J j, j < J → gapTo ps k L J ≤ dOf ps k (L.getD (j + 1) 0).toNat (L.getD j 0).toNat := by
  intro J
  induction J with
  | zero => intro j h; omega
  | succ J ih =>
    intro j h
    unfold gapTo
    by_cases e : j = J
    · subst e; unfold dOf; omega
    · have := ih j (by omega); omega
theorem gapTo_at {ps : List (List Int × List Int)} {k : Nat} {L : List Int} : ∀ J, gapTo ps k L J = 2000 ∨ ∃ j, j < J ∧ gapTo ps k L J = dOf ps k (L.getD (j + 1) 0).toNat (L.getD j 0).toNat := by
  intro J
  induction J with
  | zero => exact .inl rfl
  | succ J ih =>
    unfold gapTo
    rcases Int.le_total (gapTo ps k L J) (inAt ps k (L.getD (J + 1) 0).toNat - outAt ps k (L.getD J 0).toNat) with h | h
    · rw [Int.min_eq_left h]
      exact ih.imp_right fun ⟨j, hj, e⟩ => ⟨j, by omega, e⟩
    · rw [Int.min_eq_right h]
      exact .inr ⟨J, by omega, rfl⟩
/-- Two places of the order. -/
theorem order_two {ps : List (List Int × List Int)} {k a b : Nat} (hab : a < b) (hb : b < ps.length) : (orderOf ps k).getD a 0 ≠ (orderOf ps k).getD b 0 ∧ inAt ps k ((orderOf ps k).getD a 0).toNat ≤ inAt ps k ((orderOf ps k).getD b 0).toNat := by
  have hl := order_len ps k
  have hp := ordTo_pairs (inF ps k) ps.length
  have q := List.pairwise_iff_getElem.1 hp a b (by show a < (orderOf ps k).length; omega) (by show b < (orderOf ps k).length; omega) hab
  rw [List.getD_eq_getElem?_getD, List.getElem?_eq_getElem (by omega : a < (orderOf ps k).length), List.getD_eq_getElem?_getD, List.getElem?_eq_getElem (by omega : b < (orderOf ps k).length)]
  exact q
theorem order_place {ps : List (List Int × List Int)} {k i : Nat} (hi : i < ps.length) : ∃ a, a < ps.length ∧ (orderOf ps k).getD a 0 = (i : Int) := by
  have hm : (i : Int) ∈ orderOf ps k := ordTo_mem.2 ⟨i, hi, rfl⟩
  obtain ⟨a, ha, e⟩ := List.getElem_of_mem hm
  refine ⟨a, by rw [← order_len ps k]; exact ha, ?_⟩
  rw [List.getD_eq_getElem?_getD, List.getElem?_eq_getElem ha]
  exact e
theorem gap_least {n : Int} {ps : List (List Int × List Int)} {k i m : Nat} (h : pathsB n ps = true) (hk : (k : Int) < n) (hi : i < ps.length) (hm : m < ps.length) (hne : i ≠ m) (h0 : 0 ≤ dOf ps k i m) : gapTo ps k (orderOf ps k) (ps.length - 1) ≤ dOf ps k i m := by
  obtain ⟨a, ha, ea⟩ := order_place (k := k) hi
  obtain ⟨b, hb, eb⟩ := order_place (k := k) hm
  have bm := sec_bounds h hm hk
  rcases Nat.lt_trichotomy a b with c | c | c
  · have t := (order_two (k := k) c hb).2
    rw [ea, eb, Int.toNat_natCast, Int.toNat_natCast] at t
    unfold dOf inAt outAt at *
    omega
  · subst c; rw [ea] at eb; omega
  · have g := gapTo_le (ps := ps) (k := k) (L := orderOf ps k) (ps.length - 1) b (by omega)
    rw [eb, Int.toNat_natCast] at g
    by_cases e : a = b + 1
    · rw [← e, ea, Int.toNat_natCast] at g
      exact g
    · have t := (order_two (k := k) (show b + 1 < a by omega) ha).2
      rw [ea, Int.toNat_natCast] at t
      unfold dOf at *
      omega
theorem gap_hit {n : Int} {ps : List (List Int × List Int)} {k : Nat} (h : pathsB n ps = true) (hk : (k : Int) < n) (h2 : 2 ≤ ps.length) : hitTo ps k (gapTo ps k (orderOf ps k) (ps.length - 1)) ps.length = true := by
  have hl := order_len ps k
  have bd : ∀ j, j + 1 < ps.length → dOf ps k ((orderOf ps k).getD (j + 1) 0).toNat ((orderOf ps k).getD j 0).toNat ≤ 1998 := by
    intro j hj
    have b1 := sec_bounds h (order_get (k := k) (m := j + 1) (by omega)).2 hk
    have b2 := sec_bounds h (order_get (k := k) (m := j) (by omega)).2 hk
    unfold dOf inAt outAt
    omega
  rcases gapTo_at (ps := ps) (k := k) (L := orderOf ps k) (ps.length - 1) with e | ⟨j, hj, e⟩
  · have g := gapTo_le (ps := ps) (k := k) (L := orderOf ps k) (ps.length - 1) 0 (by omega)
    have := bd 0 (by omega)
    omega
  · obtain ⟨x0, xl⟩ := order_get (ps := ps) (k := k) (m := j + 1) (by omega)
    obtain ⟨y0, yl⟩ := order_get (ps := ps) (k := k) (m := j) (by omega)
    obtain ⟨t1, t2⟩ := order_two (ps := ps) (k := k) (a := j) (b := j + 1) (by omega) (by omega)
    have hne : ((orderOf ps k).getD (j + 1) 0).toNat ≠ ((orderOf ps k).getD j 0).toNat := by omega
    have ap := apart_at h xl yl hne hk
    have b1 := sec_bounds h xl hk
    refine hitTo_yes (i := ((orderOf ps k).getD (j + 1) 0).toNat) (rowHit_yes (m := ((orderOf ps k).getD j 0).toNat) (decide_eq_true ⟨hne, ?_, e.symm⟩) _ yl) _ xl
    unfold dOf inAt outAt at *
    omega

end Go.Proofs.Ytoebgdcgcdigaab
