/-
  Kinds, plainly: the last train may take the staff or not; as many S as changes. No walk.
-/
import Derived.Test.YtlcmkocbpnekhaaDoorDirF
import Derived.Test.YtlcmkocbpnekhaaDoorDirG
import Derived.Test.YtlcmkocbpnekhaaDoorCnt
namespace Go.Proofs.YtlcmkocbpnekhaaDoor
open Go.RowKit

theorem size_append (A B : ByteArray) : (A ++ B).size = A.size + B.size := ByteArray.size_append
theorem bt_left' {A B : ByteArray} {k : Nat} (h : k < A.size) : bt (A ++ B) k = bt A k := by
  rw [bt_list', bt_list', ByteArray.data_append, Array.toList_append, List.getElem?_append_left (by rw [← size_list]; exact h)]
theorem bt_right' {A B : ByteArray} : bt (A ++ B) A.size = bt B 0 := by
  rw [bt_list', bt_list', ByteArray.data_append, Array.toList_append, List.getElem?_append_right (by rw [← size_list]; exact Nat.le_refl _), ← size_list, Nat.sub_self]
theorem stTo_congr {a : Int} {D K K' : ByteArray} : ∀ (k : Nat), (∀ j, j < k → bt K j = bt K' j) → stTo a D K k = stTo a D K' k
  | 0, _ => rfl
  | k + 1, h => by
    simp only [stTo]
    rw [stTo_congr k (fun j hj => h j (by omega)), h k (by omega)]
/-- What is true of an end and directions for which there are kinds. -/
theorem sk_facts {a : Int} {D : ByteArray} (h : skOk a D = true) : (a = 0 ∨ a = 1) ∧ dirB D = true ∧ (D.size = 0 ∨ endOf (bt D 0) = a) := by
  have h1 : (a = 0 ∨ a = 1) ∧ dirB D = true := by
    unfold skOk stRun at h
    by_cases q : (a = 0 ∨ a = 1) ∧ dirB D = true ∧ (kdS D).size = D.size
    · exact ⟨q.1, q.2.1⟩
    · rw [if_neg q] at h; cases h
  rw [sk_is h1] at h
  exact ⟨h1.1, h1.2, of_decide_eq_true h⟩
/-- With another last kind. -/
theorem st_last {a : Int} {D : ByteArray} (h : skOk a D = true) (h0 : 0 < D.size) {x : UInt8} (hx : x = 83 ∨ x = 84) : (stRun a D ((kdS D).extract 0 (D.size - 1) ++ ⟨#[x]⟩)).isSome = true := by
  obtain ⟨ha, hd, hf⟩ := sk_facts h
  have he : endOf (bt D 0) = a := hf.resolve_left (by omega)
  have hfr : ((kdS D).extract 0 (D.size - 1)).size = D.size - 1 := size_front (by rw [kdS_size]; omega)
  have hs : ((kdS D).extract 0 (D.size - 1) ++ ⟨#[x]⟩ : ByteArray).size = D.size := by
    rw [size_append, hfr, show (⟨#[x]⟩ : ByteArray).size = 1 from rfl]; omega
  obtain ⟨n, hn⟩ : ∃ n, D.size = n + 1 := ⟨D.size - 1, by omega⟩
  have hn1 : D.size - 1 = n := by omega
  rw [stRun_is ha hd hs, hn1]
  rw [hn1] at hfr
  have e1 : stTo a D ((kdS D).extract 0 n ++ ⟨#[x]⟩) n = some (endOf (bt D n)) := by
    rw [stTo_congr (K' := kdS D) n (fun j hj => by rw [bt_left' (by omega), bt_front hj])]
    exact stTo_kd (dirB_of hd).2 he n (by omega)
  have e2 : bt ((kdS D).extract 0 n ++ ⟨#[x]⟩ : ByteArray) n = (x.toNat : Int) := by
    have := bt_right' (A := (kdS D).extract 0 n) (B := ⟨#[x]⟩)
    rw [hfr] at this
    rw [this]
    rfl
  rw [hn, stTo_succ e1, e2]
  rcases hx with rfl | rfl <;> simp [stStep]
theorem kd_last {D : ByteArray} (h0 : 0 < D.size) : bt (kdS D) (D.size - 1) = 84 := by
  rw [bt_kdS (by omega), if_neg (fun q => by omega)]
theorem cnt_kd (D : ByteArray) : ∀ k, k + 1 ≤ D.size → cntTo (kdS D) 83 k = chTo D (k + 1)
  | 0, _ => by simp [cntTo, chTo]
  | k + 1, h => by
    have ih := cnt_kd D k (by omega)
    have e := bt_kdS (D := D) (k := k) (by omega)
    simp only [cntTo]
    rw [ih]
    have c : chTo D (k + 1 + 1) = chTo D (k + 1) + (if 0 < k + 1 ∧ bt D (k + 1) ≠ bt D (k + 1 - 1) then 1 else 0) := rfl
    rw [c, Nat.add_sub_cancel]
    by_cases q : bt D (k + 1) = bt D k
    · rw [if_neg (fun z => z.2 q)] at e
      rw [e, if_neg (by decide : ¬ (84 : Int) = 83), if_neg (fun z : 0 < k + 1 ∧ bt D (k + 1) ≠ bt D k => z.2 q)]
      omega
    · rw [if_pos ⟨by omega, q⟩] at e
      rw [e, if_pos (rfl : (83 : Int) = 83), if_pos (show 0 < k + 1 ∧ bt D (k + 1) ≠ bt D k from ⟨by omega, q⟩)]
/-- As many S as changes. -/
theorem cnt_all {D : ByteArray} (hd : dirB D = true) (h0 : 0 < D.size) : cntTo (kdS D) 83 (kdS D).size = chN D := by
  rw [kdS_size]
  obtain ⟨n, hn⟩ : ∃ n, D.size = n + 1 := ⟨D.size - 1, by omega⟩
  have e := kd_last h0
  rw [hn, Nat.add_sub_cancel] at e
  have e1 : cntTo (kdS D) 83 (n + 1) = cntTo (kdS D) 83 n := by simp only [cntTo]; rw [e, if_neg (by decide)]
  have e2 : chN D = chTo D D.size := by unfold chN; rw [hd]; rfl
  rw [hn, e1, cnt_kd D n (by omega), e2, hn]
end Go.Proofs.YtlcmkocbpnekhaaDoor
