/-
  How often a letter stands in a text. (What BlockT holds too: never together.) For texts of at most 1048576 bytes.
-/
import Derived.Test.YtilkphehonilbaaDoorTri
import Derived.IntWalk
namespace Go.Proofs.YtilkphehonilbaaDoor
open Go.RowKit Go.Sort

/-- How often a byte stands among the first k. -/
def cntTo (S : ByteArray) (c : Int) : Nat → Int
  | 0 => 0
  | k + 1 => if bt S k = c then cntTo S c k + 1 else cntTo S c k
theorem cntTo_range (S : ByteArray) (c : Int) (k : Nat) : 0 ≤ cntTo S c k ∧ cntTo S c k ≤ k := by
  induction k with
  | zero => simp [cntTo]
  | succ k ih => simp only [cntTo]; split <;> omega
theorem cntTo_yes {S : ByteArray} {c : Int} {k : Nat} (h : bt S k = c) : cntTo S c (k + 1) = cntTo S c k + 1 := by simp [cntTo, h]
theorem cntTo_no {S : ByteArray} {c : Int} {k : Nat} (h : bt S k ≠ c) : cntTo S c (k + 1) = cntTo S c k := by simp [cntTo, h]

-- (the laws' count of a letter)
set_option maxHeartbeats 2000000 in
theorem countOf (S : ByteArray) (hS : S.size ≤ 1048576) (c : Int) (w : World) :
    Calls Tryd.prog 17 #[.string S, .int .u8 c] w fun e w' => e = .returned (.int .i64 (cntTo S c S.size)) ∧ w = w' := by
  go_enter Tryd.func17, Tryd.ntmps17
  go_wp2_with fail
  go_loop [5, 6] (fun n i => ∃ k : Nat, k ≤ S.size ∧ i = .int .i64 k ∧ n = .int .i64 (cntTo S c k)) (fun _ i => S.size - (intOf i).toNat)
  case atStart => exact ⟨0, by omega, rfl, rfl⟩
  case round =>
    obtain ⟨k, hk, rfl, rfl⟩ := hrel
    by_cases hlt : k < S.size
    · have hki : (k : Int) < (S.size : Int) := by omega
      have hix : ∀ (w : World), (Instr.index 9 (.string S) (.int .i64 k)).run Tryd.prog w = .ok (.int .u8 (bt S k)) w := by
        intro w
        rw [run_index_string _ _ _ _ _ Tryd.underlying9, dif_pos ⟨by omega, hki⟩, ← bt_get hlt]
        rfl
      obtain ⟨n, hn⟩ : ∃ n, n = cntTo S c k := ⟨_, rfl⟩
      have hr := cntTo_range S c k
      rw [← hn] at hr ⊢
      have HN := Lib.hid hn
      clear hn
      by_cases e : bt S k = c
      · have Y := Lib.hid (cntTo_yes e)
        go_wp2_with fail
        go_round
        case rel => exact ⟨k + 1, by omega, by go_num, by rw [Y.out, ← HN.out]⟩
        case measure => simp [intOf]; omega
      · have Y := Lib.hid (cntTo_no e)
        go_wp2_with fail
        go_round
        case rel => exact ⟨k + 1, by omega, by go_num, by rw [Y.out, ← HN.out]⟩
        case measure => simp [intOf]; omega
    · obtain rfl : k = S.size := by omega
      go_wp2_with fail
      go_ret
      exact ⟨rfl, rfl⟩

end Go.Proofs.YtilkphehonilbaaDoor
