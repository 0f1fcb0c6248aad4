/-
  Which tokens serve the events of trains, plainly. No walk.
-/
import Derived.Test.YthjodagbgmpbhaaGreatDoorBsC
import Derived.Test.YthjodagbgmpbhaaGreatDoorTokC
import Derived.Test.YthjodagbgmpbhaaGreatDoorDirB
import Derived.Test.YthjodagbgmpbhaaGreatDoorCnt
namespace Go.Proofs.YthjodagbgmpbhaaGreatDoor
open Go.RowKit

theorem tkTo_two {t : Tk} {T : ByteArray} {k : Nat} {p q : Int} (h : tkTo t T k = some (p, q, 0)) (h0 : bt T k = 97 ∨ bt T k = 98) (h1 : bt T (k + 1) = 112) :
    tkTo t T (k + 2) = if bt T k = 97 then (if 0 < p then some (p - 1, q + 1, 0) else none) else (if 0 < q then some (p + 1, q - 1, 0) else none) := by
  show (tkTo t T (k + 1)).bind (fun x => tkStep x (bt T (k + 1))) = _
  rw [tkTo_succ h, h1]
  rcases h0 with e | e
  · rw [e, if_pos rfl]
    by_cases hp : 0 < p
    · rw [if_pos hp]; simp [tkStep, hp]
    · rw [if_neg hp]; simp [tkStep, hp]
  · rw [e, if_neg (by decide)]
    by_cases hq : 0 < q
    · rw [if_pos hq]; simp [tkStep, hq]
    · rw [if_neg hq]; simp [tkStep, hq]
theorem tt_letters {S : ByteArray} (hd : ∀ j, j < S.size → bt S j = 85 ∨ bt S j = 68) {k : Nat} (hk : k < S.size) :
    (bt (ttTo S S.size) (2 * k) = 97 ∨ bt (ttTo S S.size) (2 * k) = 98) ∧ (bt (ttTo S S.size) (2 * k) = 97 ↔ bt S k = 85) ∧ bt (ttTo S S.size) (2 * k + 1) = 112 := by
  rcases hd k hk with e | e
  · have a := tt_at hk (x := 85) e 0 (by omega)
    have b := tt_at hk (x := 85) e 1 (by omega)
    rw [Nat.add_zero] at a
    rw [a, b, e]
    exact ⟨.inl rfl, ⟨fun _ => rfl, fun _ => rfl⟩, rfl⟩
  · have a := tt_at hk (x := 68) e 0 (by omega)
    have b := tt_at hk (x := 68) e 1 (by omega)
    rw [Nat.add_zero] at a
    rw [a, b, e]
    exact ⟨.inr rfl, ⟨fun h => absurd (show (98 : Int) = 97 from h) (by decide), fun h => absurd h (by decide)⟩, rfl⟩
theorem need_ge (S : ByteArray) : ∀ k, bal S k ≤ needA S k ∧ - bal S k ≤ needB S k
  | 0 => by simp [bal, needA, needB]
  | k + 1 => by simp only [needA, needB]; omega
/-- What the run leaves, if there is enough. -/
theorem tt_go {S : ByteArray} (hd : ∀ j, j < S.size → bt S j = 85 ∨ bt S j = 68) {x y : Int} (hx : 0 ≤ x) (hy : 0 ≤ y) : ∀ k, k ≤ S.size →
    tkTo (x, y, 0) (ttTo S S.size) (2 * k) = if needA S k ≤ x ∧ needB S k ≤ y then some (x - bal S k, y + bal S k, 0) else none
  | 0, _ => by simp [tkTo, needA, needB, bal, hx, hy]
  | k + 1, hk => by
    have ih := tt_go hd hx hy k (by omega)
    obtain ⟨l1, l2, l3⟩ := tt_letters hd (show k < S.size by omega)
    have bk : bal S (k + 1) = bal S k + (if bt S k = 85 then 1 else -1) := rfl
    have na : needA S (k + 1) = max (needA S k) (bal S (k + 1)) := rfl
    have nb : needB S (k + 1) = max (needB S k) (- bal S (k + 1)) := rfl
    have e2 : 2 * (k + 1) = 2 * k + 2 := by omega
    obtain ⟨g1, g2⟩ := need_ge S k
    rw [e2]
    by_cases h : needA S k ≤ x ∧ needB S k ≤ y
    · rw [if_pos h] at ih
      rw [tkTo_two ih l1 l3]
      by_cases c : bt S k = 85
      · rw [if_pos (l2.2 c)]
        rw [if_pos c] at bk
        by_cases p : 0 < x - bal S k
        · rw [if_pos p, if_pos ⟨by omega, by omega⟩, bk]
          exact congrArg some (Prod.ext (by simp only; omega) (Prod.ext (by simp only; omega) rfl))
        · have n1 : ¬ (needA S (k + 1) ≤ x ∧ needB S (k + 1) ≤ y) := fun z => by omega
          rw [if_neg p, if_neg n1]
      · rw [if_neg (fun z => c (l2.1 z))]
        rw [if_neg c] at bk
        by_cases p : 0 < y + bal S k
        · rw [if_pos p, if_pos ⟨by omega, by omega⟩, bk]
          exact congrArg some (Prod.ext (by simp only; omega) (Prod.ext (by simp only; omega) rfl))
        · have n1 : ¬ (needA S (k + 1) ≤ x ∧ needB S (k + 1) ≤ y) := fun z => by omega
          rw [if_neg p, if_neg n1]
    · rw [if_neg h] at ih
      have n1 : ¬ (needA S (k + 1) ≤ x ∧ needB S (k + 1) ≤ y) := fun z => h ⟨by omega, by omega⟩
      rw [if_neg n1]
      exact tkTo_none ih (by omega)
/-- The events of trains, from a state with no token out. -/
theorem tt_run {S : ByteArray} (hd : dirB S = true) (h15 : 2 * S.size ≤ 30) {x y : Int} (hx : 0 ≤ x) (hy : 0 ≤ y) (hxy : x + y ≤ 12) :
    tkRun (x, y, 0) (ttTo S S.size) = if ndA S ≤ x ∧ ndB S ≤ y then some (x - bal S S.size, y + bal S S.size, 0) else none := by
  have hs := ttTo_size (S := S) (k := S.size) (Nat.le_refl _)
  have ok : tkOk (x, y, 0) = true := decide_eq_true ⟨⟨hx, by omega⟩, ⟨hy, by simp only; omega⟩, ⟨by simp, by simp⟩, by simp only; omega⟩
  have nd : ndA S = needA S S.size ∧ ndB S = needB S S.size := by unfold ndA ndB; rw [hd]; exact ⟨rfl, rfl⟩
  rw [tkRun_is ok (by omega), hs, tt_go (dirB_of hd).2 hx hy S.size (Nat.le_refl _), nd.1, nd.2]
theorem tt_bad {S : ByteArray} {x y : Int} (h : x < 0 ∨ y < 0) : tkRun (x, y, 0) (ttTo S S.size) = none := by
  refine tkRun_not ?_
  cases e : tkOk (x, y, 0)
  · rfl
  · have := tkOk_of e
    simp only at this
    omega
theorem bal_cnt {S : ByteArray} (hd : ∀ j, j < S.size → bt S j = 85 ∨ bt S j = 68) : ∀ k, k ≤ S.size → bal S k = cntTo S 85 k - cntTo S 68 k
  | 0, _ => rfl
  | k + 1, h => by
    simp only [bal, cntTo]
    rw [bal_cnt hd k (by omega)]
    rcases hd k (by omega) with e | e
    · rw [e]; simp; omega
    · rw [e]; simp; omega
end Go.Proofs.YthjodagbgmpbhaaGreatDoor
