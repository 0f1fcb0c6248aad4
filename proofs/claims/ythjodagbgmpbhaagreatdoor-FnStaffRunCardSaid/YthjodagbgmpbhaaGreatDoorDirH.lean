/-
  Directions exchanged, plainly: what stays, what is exchanged too. No walk.
-/
import Derived.Test.YthjodagbgmpbhaaGreatDoorRplD
import Derived.Test.YthjodagbgmpbhaaGreatDoorDirB
namespace Go.Proofs.YthjodagbgmpbhaaGreatDoor
open Go.RowKit

theorem tU_twice (b : UInt8) : tU (tU b) = b := by
  unfold tU
  by_cases h1 : b = 85
  · subst h1; rfl
  · by_cases h2 : b = 68
    · subst h2; rfl
    · rw [if_neg h1, if_neg h2, if_neg h1, if_neg h2]
theorem tnS_twice (S : ByteArray) : tnS (tnS S) = S := by
  unfold tnS
  apply ByteArray.ext
  apply Array.toList_inj.1
  simp [tU_twice, Function.comp_def]
theorem tnB_inj {x y : Int} : tnB x = tnB y ↔ x = y := by
  constructor
  · intro h
    unfold tnB at h
    by_cases a : x = 85 <;> by_cases b : x = 68 <;> by_cases c : y = 85 <;> by_cases d : y = 68 <;> simp [a, b, c, d] at h <;> omega
  · intro h; rw [h]
theorem dir_tn {S : ByteArray} (h : dirB S = true) : dirB (tnS S) = true := by
  obtain ⟨h1, h2⟩ := dirB_of h
  unfold dirB
  rw [tnS_size, decide_eq_true h1, onlyB_yes (fun j hj => by
    rw [tnS_size] at hj
    rw [bt_tnS hj]
    rcases h2 j hj with e | e <;> rw [e] <;> simp [tnB])]
  rfl
theorem bt_other {S : ByteArray} (h : dirB S = true) {k : Nat} (hk : k < S.size) : bt (tnS S) k ≠ bt S k := by
  rw [bt_tnS hk]
  rcases (dirB_of h).2 k hk with e | e <;> rw [e] <;> decide
theorem chTo_tn (S : ByteArray) : ∀ k, k ≤ S.size → chTo (tnS S) k = chTo S k
  | 0, _ => rfl
  | k + 1, h => by
    simp only [chTo]
    rw [chTo_tn S k (by omega)]
    by_cases h0 : 0 < k
    · rw [bt_tnS (by omega : k < S.size), bt_tnS (by omega : k - 1 < S.size)]
      simp only [ne_eq, tnB_inj]
    · rw [if_neg (fun q => h0 q.1), if_neg (fun q => h0 q.1)]
theorem chN_tn {S : ByteArray} (h : dirB S = true) : chN (tnS S) = chN S := by
  unfold chN
  rw [dir_tn h, h, tnS_size]
  exact chTo_tn S S.size (Nat.le_refl _)
theorem bal_tn {S : ByteArray} (h : ∀ j, j < S.size → bt S j = 85 ∨ bt S j = 68) : ∀ k, k ≤ S.size → bal (tnS S) k = - bal S k
  | 0, _ => rfl
  | k + 1, hk => by
    simp only [bal]
    rw [bal_tn h k (by omega), bt_tnS (by omega : k < S.size)]
    rcases h k (by omega) with e | e <;> rw [e] <;> simp [tnB] <;> omega
theorem need_tn {S : ByteArray} (h : ∀ j, j < S.size → bt S j = 85 ∨ bt S j = 68) : ∀ k, k ≤ S.size → needA (tnS S) k = needB S k ∧ needB (tnS S) k = needA S k
  | 0, _ => ⟨rfl, rfl⟩
  | k + 1, hk => by
    obtain ⟨i1, i2⟩ := need_tn h k (by omega)
    have b := bal_tn h (k + 1) hk
    simp only [needA, needB]
    rw [i1, i2, b, Int.neg_neg]
    exact ⟨rfl, rfl⟩
theorem nd_tn {S : ByteArray} (h : dirB S = true) : ndA (tnS S) = ndB S ∧ ndB (tnS S) = ndA S := by
  unfold ndA ndB
  rw [dir_tn h, h, tnS_size]
  exact need_tn (dirB_of h).2 S.size (Nat.le_refl _)
theorem need_bal (S : ByteArray) : ∀ k, bal S k ≤ needA S k ∧ - bal S k ≤ needB S k
  | 0 => ⟨Int.le_refl _, by simp [bal, needB]⟩
  | k + 1 => by simp only [needA, needB]; omega
theorem need_sum (S : ByteArray) : ∀ k, needA S k + needB S k ≤ (k : Int)
  | 0 => by simp [needA, needB]
  | k + 1 => by
    have ih := need_sum S k
    have b := need_bal S k
    have e : bal S (k + 1) = bal S k + 1 ∨ bal S (k + 1) = bal S k - 1 := by simp only [bal]; split <;> omega
    simp only [needA, needB]
    omega
theorem need_one (S : ByteArray) : ∀ k, 0 < k → 0 < needA S k + needB S k
  | 0, h => absurd h (by omega)
  | 1, _ => by
    have e : bal S 1 = 1 ∨ bal S 1 = -1 := by simp only [bal]; split <;> omega
    have a : needA S 1 = max 0 (bal S 1) := rfl
    have b : needB S 1 = max 0 (-bal S 1) := rfl
    omega
  | k + 2, _ => by
    have ih := need_one S (k + 1) (by omega)
    have a : needA S (k + 2) = max (needA S (k + 1)) (bal S (k + 2)) := rfl
    have b : needB S (k + 2) = max (needB S (k + 1)) (-bal S (k + 2)) := rfl
    omega
theorem nd_sum {S : ByteArray} (h : dirB S = true) : ndA S + ndB S ≤ (S.size : Int) ∧ (0 < ndA S + ndB S ↔ 0 < S.size) := by
  have e1 : ndA S = needA S S.size := by unfold ndA; rw [h]; rfl
  have e2 : ndB S = needB S S.size := by unfold ndB; rw [h]; rfl
  rw [e1, e2]
  refine ⟨need_sum S S.size, fun q => ?_, fun q => need_one S _ q⟩
  rcases Nat.eq_zero_or_pos S.size with z | z
  · rw [z] at q; exact absurd q (by simp [needA, needB])
  · exact z
end Go.Proofs.YthjodagbgmpbhaaGreatDoor
