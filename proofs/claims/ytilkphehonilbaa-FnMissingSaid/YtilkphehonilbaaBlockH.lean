/-
  Bytes that can be left out, by the program and by the model. For texts of at most 1048576 bytes.
-/
import Derived.Test.YtilkphehonilbaaBlockG
import Derived.Test.YtilkphehonilbaaResults
import Derived.Test.YtilkphehonilbaaLawC
import Derived.Maps.AppendAt
import Derived.IntWalk
namespace Go.Proofs.Ytilkphehonilbaa
open Go.RowKit Go.Sort

/-- A text without a byte. -/
def dropAt (S : ByteArray) (i : Nat) : ByteArray := S.extract 0 i ++ S.extract (i + 1) S.size
theorem dropAt_size (S : ByteArray) (i : Nat) : (dropAt S i).size ≤ 2 * S.size := by
  unfold dropAt
  simp only [ByteArray.size_append, ByteArray.size_extract]
  omega
/-- The first k bytes that can be left out. -/
def dropTo (S : ByteArray) : Nat → List Int
  | 0 => []
  | k + 1 => if bkLegal (dropAt S k) then dropTo S k ++ [(k : Int)] else dropTo S k
def dropL (S : ByteArray) : List Int := if S.size ≤ 30 then dropTo S S.size else []
theorem dropTo_length (S : ByteArray) (k : Nat) : (dropTo S k).length ≤ k := by
  induction k with
  | zero => exact Nat.le_refl _
  | succ k ih => simp only [dropTo]; split <;> first | omega | (simp only [List.length_append, List.length_cons, List.length_nil]; omega)
theorem dropTo_yes {S : ByteArray} {k : Nat} (h : bkLegal (dropAt S k) = true) : dropTo S (k + 1) = dropTo S k ++ [(k : Int)] := by simp [dropTo, h]
theorem dropTo_no {S : ByteArray} {k : Nat} (h : bkLegal (dropAt S k) = false) : dropTo S (k + 1) = dropTo S k := by simp [dropTo, h]
theorem dropL_long {S : ByteArray} (h : 30 < (S.size : Int)) : dropL S = [] := by unfold dropL; rw [if_neg (by omega)]
theorem dropL_is {S : ByteArray} (h : (S.size : Int) ≤ 30) : dropL S = dropTo S S.size := by unfold dropL; rw [if_pos (by omega)]
theorem dropL_length (S : ByteArray) : (dropL S).length ≤ 30 := by
  unfold dropL
  split
  · have := dropTo_length S S.size; omega
  · simp

theorem own_slice2 {w : World} {base E : Nat} {v : Value} {n : Nat} {ys : List Value} (h : w.ownsRow base E 1 v n ys) : ∃ a c, v = .slice a n c := by
  rcases h.2 with ⟨rfl, h0⟩ | ⟨g, cap, cur, rfl, _⟩
  · exact ⟨none, 0, by rw [h0]⟩
  · exact ⟨_, _, rfl⟩

/-- Parts of a text, and one behind the other. -/
theorem part_to {S : ByteArray} {k : Nat} (h : k ≤ S.size) (w : World) : (Instr.slice 9 (.string S) none (some (.int .i64 k)) none).run Try.prog w = .ok (.string (S.extract 0 k)) w := by
  rw [run_slice_string_to_if _ _ _ _ _ Try.underlying9, if_pos ⟨by omega, by omega⟩]
  rfl
theorem part_from {S : ByteArray} {k : Nat} (h : k ≤ S.size) (w : World) : (Instr.slice 9 (.string S) (some (.int .i64 k)) none none).run Try.prog w = .ok (.string (S.extract k S.size)) w := by
  rw [run_slice_string_from_if _ _ _ _ _ Try.underlying9, if_pos ⟨by omega, by omega⟩]
  rfl
theorem cat {A B : ByteArray} (h : A.size + B.size ≤ 9223372036854775807) (w : World) : (binOp .add 9 (.string A) (.string B)).run Try.prog w = .ok (.string (A ++ B)) w := by
  have := run_string_add_sum (P := Try.prog) w A B h
  simpa [binOp] using this

end Go.Proofs.Ytilkphehonilbaa
