/-
  The notes of one section; the notes that repair a register, plainly. No walk.
-/
import Derived.Test.YtodknakemgmhkabNoteT
namespace Go.Proofs.Ytodknakemgmhkab
open Go.RowKit

/-- The notes of one section among the first j moves. -/
def ofTo (ms : List Mv) (ts : List Int) (k : Int) : Nat → List Mv
  | 0 => []
  | j + 1 => if (ms.getD j noMv).1 = k then ofTo ms ts k j ++ [(ts.getD j 0, (ms.getD j noMv).2)] else ofTo ms ts k j
theorem ofTo_yes {ms : List Mv} {ts : List Int} {k : Int} {j : Nat} (h : (ms.getD j noMv).1 = k) : ofTo ms ts k (j + 1) = ofTo ms ts k j ++ [(ts.getD j 0, (ms.getD j noMv).2)] := by simp only [ofTo]; rw [if_pos h]
theorem ofTo_no {ms : List Mv} {ts : List Int} {k : Int} {j : Nat} (h : (ms.getD j noMv).1 ≠ k) : ofTo ms ts k (j + 1) = ofTo ms ts k j := by simp only [ofTo]; rw [if_neg h]
theorem ofTo_length (ms : List Mv) (ts : List Int) (k : Int) (j : Nat) : (ofTo ms ts k j).length ≤ j := by
  induction j with
  | zero => exact Nat.le_refl _
  | succ j ih => simp only [ofTo]; split <;> first | omega | (simp only [List.length_append, List.length_cons, List.length_nil]; omega)

/-- The least place at which a longer text differs. -/
def dif (S T : ByteArray) : Nat := ((List.range S.size).find? fun i => decide (bt S i ≠ bt T i)).getD S.size
theorem dif_is {S T : ByteArray} {k : Nat} (hk : k ≤ S.size) (h : ∀ i, i < k → bt S i = bt T i) (hd : k < S.size → bt S k ≠ bt T k) : dif S T = k := by
  unfold dif
  by_cases e : k < S.size
  · have : (List.range S.size).find? (fun i => decide (bt S i ≠ bt T i)) = some k := by
      rw [List.find?_range_eq_some]
      refine ⟨decide_eq_true (hd e), List.mem_range.2 e, fun j hj => ?_⟩
      simp [h j hj]
    rw [this]
    rfl
  · obtain rfl : k = S.size := by omega
    have : (List.range S.size).find? (fun i => decide (bt S i ≠ bt T i)) = none := by
      rw [List.find?_range_eq_none]
      intro j hj
      simp [h j hj]
    rw [this]
    rfl
theorem dif_le (S T : ByteArray) : dif S T ≤ S.size := by
  unfold dif
  cases e : (List.range S.size).find? (fun i => decide (bt S i ≠ bt T i)) with
  | none => exact Nat.le_refl _
  | some k => have := List.mem_of_find?_eq_some e; have := List.mem_range.1 this; show k ≤ S.size; omega
/-- The note that repairs. -/
def fixN (ns : List Mv) (T : ByteArray) : Mv := (lastM ns (dif (nTx ns) T), T.extract (dif (nTx ns) T) (dif (nTx ns) T + 1))
def fixL (ns : List Mv) (Ts : List ByteArray) : List Mv := Ts.map (fixN ns)
def fixI (ns : List Mv) (Ts : List ByteArray) : List Int := Ts.map fun T => ((dif (nTx ns) T : Nat) : Int)

/-- Parts of one byte, and beginnings that are equal. -/
theorem one_size {T : ByteArray} {i : Nat} (h : i < T.size) : (T.extract i (i + 1)).size = 1 := by rw [ByteArray.size_extract]; omega
theorem one_bt {T : ByteArray} {i : Nat} (h : i < T.size) : bt (T.extract i (i + 1)) 0 = bt T i := by
  unfold bt
  congr 2
  rw [getElem?_pos _ 0 (by rw [one_size h]; omega), getElem?_pos _ i h, ByteArray.getElem_extract]
  rfl
theorem size_one_ext {s t : ByteArray} (h : s.size = 1) (h' : t.size = 1) (e : bt s 0 = bt t 0) : s = t := by
  apply ByteArray.ext_getElem (by omega)
  intro i h1 h2
  obtain rfl : i = 0 := by omega
  unfold bt at e
  rw [getElem?_pos s 0 h1, getElem?_pos t 0 h2] at e
  simp only [Option.getD_some] at e
  exact UInt8.toNat_inj.1 (by omega)
theorem begin_eq {S T : ByteArray} {k : Nat} (hS : k ≤ S.size) (hT : k ≤ T.size) (h : ∀ i, i < k → bt S i = bt T i) : T.extract 0 k = S.extract 0 k := by
  apply ByteArray.ext_getElem (by rw [ByteArray.size_extract, ByteArray.size_extract]; omega)
  intro i h1 h2
  rw [ByteArray.size_extract] at h1 h2
  have e := h i (by omega)
  unfold bt at e
  rw [getElem?_pos S i (by omega), getElem?_pos T i (by omega)] at e
  simp only [Option.getD_some] at e
  have e2 : S[i]'(by omega) = T[i]'(by omega) := UInt8.toNat_inj.1 (by omega)
  rw [ByteArray.getElem_extract, ByteArray.getElem_extract]
  simp only [Nat.zero_add]
  exact e2.symm
theorem begin_ne {S T : ByteArray} {k : Nat} (hS : k < S.size) (hT : k < T.size) (h : bt S k ≠ bt T k) : T.extract 0 (k + 1) ≠ S.extract 0 (k + 1) := by
  intro e
  apply h
  have e1 : bt (T.extract 0 (k + 1)) k = bt T k := by
    unfold bt
    congr 2
    rw [getElem?_pos _ k (by rw [ByteArray.size_extract]; omega), getElem?_pos _ k hT, ByteArray.getElem_extract]
    simp only [Nat.zero_add]
  have e2 : bt (S.extract 0 (k + 1)) k = bt S k := by
    unfold bt
    congr 2
    rw [getElem?_pos _ k (by rw [ByteArray.size_extract]; omega), getElem?_pos _ k hS, ByteArray.getElem_extract]
    simp only [Nat.zero_add]
  rw [← e1, ← e2, e]

end Go.Proofs.Ytodknakemgmhkab
