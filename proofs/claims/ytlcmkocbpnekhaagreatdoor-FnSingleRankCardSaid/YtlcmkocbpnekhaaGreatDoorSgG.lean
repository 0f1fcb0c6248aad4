/-
  The end and the wait of an order: the model's and the program's. For texts of at most 1048576 bytes.
-/
import Derived.Test.YtlcmkocbpnekhaaGreatDoorSgF
namespace Go.Proofs.YtlcmkocbpnekhaaGreatDoor
open Go.RowKit Go.Sort

theorem made_two {w : World} {xs : List Int} {b : Bool} {e : Ending} {w' : World} (h : MadeIntsB w xs b e w') : ∃ v, e = .returned (.tuple #[v, .bool b]) ∧ OwnI w' w.heap.size v xs ∧ Below w.heap.size w w' := h


/-! ### Sums -/
def sumI (xs : List Int) : Nat → Int
  | 0 => 0
  | k + 1 => sumI xs k + xs.getD k 0
theorem sumI_range {xs : List Int} {k : Nat} (h : ∀ i, i < k → 0 ≤ xs.getD i 0 ∧ xs.getD i 0 ≤ 3200) : 0 ≤ sumI xs k ∧ sumI xs k ≤ 3200 * (k : Int) := by
  induction k with
  | zero => simp [sumI]
  | succ k ih =>
    have h1 := ih (fun i hi => h i (by omega))
    have h2 := h k (by omega)
    simp only [sumI]
    omega
theorem sumI_congr {xs ys : List Int} {k : Nat} (h : ∀ i, i < k → xs.getD i 0 = ys.getD i 0) : sumI xs k = sumI ys k := by
  induction k with
  | zero => rfl
  | succ k ih => simp only [sumI]; rw [ih (fun i hi => h i (by omega)), h k (by omega)]
theorem sum_rdy (s : Sg) (S : ByteArray) (n k : Nat) (hk : k ≤ n) : sumI (rdL s S n) k = sumI s.A (upTo S k) + sumI s.B (k - upTo S k) := by
  induction k with
  | zero => simp [sumI, upTo]
  | succ k ih =>
    have h1 := upTo_le S k
    simp only [sumI]
    rw [ih (by omega), rdL_at (by omega)]
    by_cases e : bt S k = 85
    · rw [upTo_U e, rdy_U e, show k + 1 - (upTo S k + 1) = k - upTo S k by omega]
      simp only [sumI]; omega
    · rw [upTo_D e, rdy_D e, show k + 1 - upTo S k = k - upTo S k + 1 by omega]
      simp only [sumI]; omega
theorem wt_sums (s : Sg) (S : ByteArray) (n k : Nat) (hk : k ≤ n) : wtTo s S k = sumI (stL s S n) k - sumI (rdL s S n) k := by
  induction k with
  | zero => rfl
  | succ k ih =>
    simp only [wtTo, sumI]
    rw [ih (by omega), rdL_at (by omega), stL_at (by omega)]
    omega
theorem wait_sums {s : Sg} {S : ByteArray} (h : sgO s S = true) : wtTo s S S.size = sumI (stL s S S.size) S.size - sumI s.A s.A.length - sumI s.B s.B.length := by
  have o := (sgO_of h).2
  rw [wt_sums s S S.size S.size (Nat.le_refl _), sum_rdy s S S.size S.size (Nat.le_refl _), o.ups]
  have : S.size - s.A.length = s.B.length := by have := o.size; omega
  rw [this]; omega

end Go.Proofs.YtlcmkocbpnekhaaGreatDoor
