/-
  Parts of directions, plainly. No walk.
-/
import Derived.Test.YtlcmkocbpnekhaaDoorTokQ
namespace Go.Proofs.YtlcmkocbpnekhaaDoor

theorem bt_list' (S : ByteArray) (k : Nat) : bt S k = ((S.data.toList[k]?.getD 0).toNat : Int) := by
  have := bt_list S.data.toList k
  simpa using this
theorem bt_front {S : ByteArray} {k i : Nat} (h : i < k) : bt (S.extract 0 k) i = bt S i := by
  rw [bt_list', bt_list', ByteArray.data_extract, Array.toList_extract]
  simp only [List.extract, List.drop_zero, Nat.sub_zero, List.getElem?_take, if_pos h]
theorem bt_back {S : ByteArray} {k i : Nat} (h : k + i < S.size) : bt (S.extract k S.size) i = bt S (k + i) := by
  rw [bt_list', bt_list', ByteArray.data_extract, Array.toList_extract]
  simp only [List.extract, List.getElem?_take, List.getElem?_drop]
  rw [if_pos (by omega)]
theorem size_front {S : ByteArray} {k : Nat} (h : k ≤ S.size) : (S.extract 0 k).size = k := by rw [ByteArray.size_extract]; omega
theorem size_back {S : ByteArray} {k : Nat} (h : k ≤ S.size) : (S.extract k S.size).size = S.size - k := by rw [ByteArray.size_extract]; omega
theorem dir_mk {S : ByteArray} (h1 : S.size ≤ 30) (h2 : ∀ j, j < S.size → bt S j = 85 ∨ bt S j = 68) : dirB S = true := by
  unfold dirB
  rw [decide_eq_true h1, onlyB_yes h2]; rfl
theorem dir_front {S : ByteArray} {k : Nat} (h : dirB S = true) (hk : k ≤ S.size) : dirB (S.extract 0 k) = true := by
  obtain ⟨h1, h2⟩ := dirB_of h
  refine dir_mk (by rw [size_front hk]; omega) fun j hj => ?_
  rw [size_front hk] at hj
  rw [bt_front hj]
  exact h2 j (by omega)
theorem dir_back {S : ByteArray} {k : Nat} (h : dirB S = true) (hk : k ≤ S.size) : dirB (S.extract k S.size) = true := by
  obtain ⟨h1, h2⟩ := dirB_of h
  refine dir_mk (by rw [size_back hk]; omega) fun j hj => ?_
  rw [size_back hk] at hj
  rw [bt_back (by omega)]
  exact h2 _ (by omega)
theorem chF_congr {f g : Nat → Int} : ∀ (k : Nat), (∀ i, i < k → f i = g i) → chF f k = chF g k
  | 0, _ => rfl
  | k + 1, h => by
    simp only [chF]
    rw [chF_congr k (fun i hi => h i (by omega)), h k (by omega)]
    by_cases h0 : 0 < k
    · rw [h (k - 1) (by omega)]
    · rw [if_neg (fun q => h0 q.1), if_neg (fun q => h0 q.1)]
theorem chF_parts (f : Nat → Int) (k : Nat) : ∀ (j : Nat), chF f (k + j) = chF f k + chF (fun i => f (k + i)) j + (if 0 < k ∧ 0 < j ∧ f k ≠ f (k - 1) then 1 else 0)
  | 0 => by simp [chF]
  | j + 1 => by
    have ih := chF_parts f k j
    have e1 : chF f (k + (j + 1)) = chF f (k + j) + (if 0 < k + j ∧ f (k + j) ≠ f (k + j - 1) then 1 else 0) := rfl
    have e2 : chF (fun i => f (k + i)) (j + 1) = chF (fun i => f (k + i)) j + (if 0 < j ∧ f (k + j) ≠ f (k + (j - 1)) then 1 else 0) := rfl
    rw [e1, e2, ih]
    by_cases hj : 0 < j
    · have p : k + j - 1 = k + (j - 1) := by omega
      rw [p]
      have c1 : (0 < k + j ∧ f (k + j) ≠ f (k + (j - 1))) ↔ (0 < j ∧ f (k + j) ≠ f (k + (j - 1))) := ⟨fun q => ⟨hj, q.2⟩, fun q => ⟨by omega, q.2⟩⟩
      have c2 : (0 < k ∧ 0 < j + 1 ∧ f k ≠ f (k - 1)) ↔ (0 < k ∧ 0 < j ∧ f k ≠ f (k - 1)) := ⟨fun q => ⟨q.1, hj, q.2.2⟩, fun q => ⟨q.1, by omega, q.2.2⟩⟩
      simp only [c1, c2]
      omega
    · have hj0 : j = 0 := by omega
      subst hj0
      have c3 : (0 < k ∧ 0 < 0 + 1 ∧ f k ≠ f (k - 1)) ↔ (0 < k + 0 ∧ f (k + 0) ≠ f (k + 0 - 1)) := ⟨fun q => ⟨q.1, q.2.2⟩, fun q => ⟨q.1, by omega, q.2⟩⟩
      simp only [c3]
      rw [if_neg (fun q : 0 < k ∧ 0 < 0 ∧ _ => absurd q.2.1 (by omega)), if_neg (fun q : 0 < 0 ∧ _ => absurd q.1 (by omega))]
      omega
/-- Changes are counted in parts. -/
theorem ch_parts {S : ByteArray} {k : Nat} (h : dirB S = true) (hk : k ≤ S.size) :
    chN S = chN (S.extract 0 k) + chN (S.extract k S.size) + (if 0 < k ∧ k < S.size ∧ bt S k ≠ bt S (k - 1) then 1 else 0) := by
  have e0 : chN S = chTo S S.size := by unfold chN; rw [h]; rfl
  have e1 : chN (S.extract 0 k) = chTo (S.extract 0 k) k := by unfold chN; rw [dir_front h hk, size_front hk]; rfl
  have e2 : chN (S.extract k S.size) = chTo (S.extract k S.size) (S.size - k) := by unfold chN; rw [dir_back h hk, size_back hk]; rfl
  rw [e0, e1, e2, chTo_F, chTo_F, chTo_F]
  have p := chF_parts (bt S) k (S.size - k)
  rw [show k + (S.size - k) = S.size by omega] at p
  rw [p, chF_congr (f := bt (S.extract 0 k)) (g := bt S) k (fun i hi => bt_front hi), chF_congr (f := bt (S.extract k S.size)) (g := fun i => bt S (k + i)) (S.size - k) (fun i hi => bt_back (by omega))]
  have c : (0 < S.size - k) ↔ (k < S.size) := by omega
  simp only [c]
/-- The changes of directions, and of other texts. -/
theorem ch_neg {S : ByteArray} (h : dirB S = false) : chN S = -1 := by unfold chN; rw [h]; rfl
theorem ch_pos {S : ByteArray} (h : dirB S = true) : 0 ≤ chN S ∧ chN S ≤ 30 := by
  have e0 : chN S = chTo S S.size := by unfold chN; rw [h]; rfl
  have := chTo_range S S.size
  have := (dirB_of h).1
  omega
end Go.Proofs.YtlcmkocbpnekhaaDoor
