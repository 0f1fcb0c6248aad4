/-
  The program's track of a text. For texts of at most 1048576 bytes.
-/
import Derived.Test.YtckdfcfgjdgklaaTrkA
namespace Go.Proofs.Ytckdfcfgjdgklaa
open Go.RowKit Go.Sort

set_option maxHeartbeats 400000 in
theorem circuits_is (n : Int) (w : World) :
    Calls Try.prog 33 #[.int .i64 n] w fun e w' => e = .returned (.bool (decide (1 ≤ n ∧ n ≤ 8))) ∧ w = w' := by
  obtain ⟨t, ht⟩ : ∃ t, t = decide (1 ≤ n ∧ n ≤ 8) := ⟨_, rfl⟩
  rw [← ht]
  by_cases h1 : n < 1
  · have E := Lib.hid (show t = false by rw [ht]; exact decide_eq_false (by omega))
    clear ht
    go_enter Try.func33, Try.ntmps33
    go_wp2_with fail
    go_ret
    exact ⟨ret_bool E.out.symm, rfl⟩
  · by_cases h2 : 8 < n
    · have E := Lib.hid (show t = false by rw [ht]; exact decide_eq_false (by omega))
      have h3 : decide (n ≤ 8) = false := decide_eq_false (by omega)
      clear ht
      go_enter Try.func33, Try.ntmps33
      go_wp2_with fail
      go_ret
      exact ⟨ret_bool E.out.symm, rfl⟩
    · have E := Lib.hid (show t = true by rw [ht]; exact decide_eq_true (by omega))
      clear ht
      go_enter Try.func33, Try.ntmps33
      go_wp2_with fail
      go_ret
      exact ⟨ret_bool E.out.symm, rfl⟩

theorem index_is {S : ByteArray} {k : Nat} (h : k < S.size) (w : World) : (Instr.index 9 (.string S) (.int .i64 k)).run Try.prog w = .ok (.int .u8 (bt S k)) w := by
  rw [run_index_string _ _ _ _ _ Try.underlying9, dif_pos ⟨by omega, by omega⟩, ← bt_get h]
  rfl
theorem oc_small {S : ByteArray} {k : Nat} (h : k ≤ 8) : ocTo S k < 256 := Nat.lt_of_lt_of_le (oc_lt S k) (show 2 ^ k ≤ 2 ^ 8 from Nat.pow_le_pow_right (by omega) h)
theorem oc_one {S : ByteArray} {k : Nat} (h : bt S k = 49) : ocTo S (k + 1) = fl (ocTo S k) k := by simp [ocTo, h]
theorem oc_zero {S : ByteArray} {k : Nat} (h : bt S k ≠ 49) : ocTo S (k + 1) = ocTo S k := by simp [ocTo, h]

/-- The track of a text, and whether it is one. -/
def tkO (S : ByteArray) : Value := if trB S then tkc S.size (oc S) else tkc 0 0
theorem tkO_no {S : ByteArray} (h : trB S = false) : tkO S = tkc 0 0 := by unfold tkO; rw [h]; rfl
theorem tkO_yes {S : ByteArray} (h : trB S = true) : tkO S = tkc S.size (oc S) := by unfold tkO; rw [h]; rfl
theorem tkO_shape (S : ByteArray) : ∃ a n : Nat, tkO S = .agg #[.int .u64 a, .int .i64 n] := by
  unfold tkO tkc
  split
  · exact ⟨_, _, rfl⟩
  · exact ⟨_, _, rfl⟩

end Go.Proofs.Ytckdfcfgjdgklaa
