/-
  Has a text only two letters; are these directions: the model's and the program's. For texts of at most 9223372036854775807 bytes.
-/
import Derived.Test.YtlcmkocbpnekhaaTokQ
import Derived.Test.YtlcmkocbpnekhaaTri
import Derived.Test.YtlcmkocbpnekhaaShelf
import Derived.Shelf.Strings.SlTrimAscii
import Derived.IntWalk
import Derived.Deep.DeepCutAuto
import Derived.Deep.RegionWith
namespace Go.Proofs.Ytlcmkocbpnekhaa
open Go.RowKit Go.Sort

set_option maxHeartbeats 800000 in
theorem specDirections (S : ByteArray) (hS : S.size ≤ 9223372036854775806) (w : World) :
    Calls Try.prog 71 #[.string S] w fun e w' => e = .returned (.bool (dirB S)) ∧ Below w.heap.size w w' := by
  have hSI : (S.size : Int) ≤ 9223372036854775806 := by omega
  go_enter Try.func71, Try.ntmps71
  go_wp2_with fail
  go_loopw [3] (fun i wr => ∃ k : Nat, k ≤ S.size ∧ i = .int .i64 k ∧ (∀ j, j < k → bt S j = 85 ∨ bt S j = 68) ∧ Below w.heap.size w wr) (fun i _ => S.size - (intOf i).toNat)
  case atStart => exact ⟨0, by omega, rfl, fun j hj => by omega, below_self _⟩
  case round =>
    obtain ⟨k, hk, rfl, hud, hbel⟩ := hrel
    have UD := Lib.hid hud
    clear hud
    by_cases hlt : k < S.size
    · have hki : (k : Int) < (S.size : Int) := by omega
      have hix : ∀ (w : World), (Instr.index 9 (.string S) (.int .i64 k)).run Try.prog w = .ok (.int .u8 (bt S k)) w := by
        intro w
        rw [run_index_string _ _ _ _ _ Try.underlying9, dif_pos ⟨by omega, hki⟩, ← bt_get hlt]
        rfl
      obtain ⟨c, hc⟩ : ∃ c, c = bt S k := ⟨_, rfl⟩
      rw [← hc] at hix
      have HC := Lib.hid hc
      clear hc
      by_cases h1 : c = 85
      · subst h1
        go_wp2_with fail
        go_roundw
        case rel => exact ⟨k + 1, by omega, by go_num, fun j hj => by
            by_cases e : j = k
            · subst e; exact .inl HC.out.symm
            · exact UD.out j (by omega), hbel⟩
        case measure => simp [intOf]; omega
      · by_cases h2 : c = 68
        · subst h2
          go_wp2_with fail
          go_roundw
          case rel => exact ⟨k + 1, by omega, by go_num, fun j hj => by
              by_cases e : j = k
              · subst e; exact .inr HC.out.symm
              · exact UD.out j (by omega), hbel⟩
          case measure => simp [intOf]; omega
        · have N := Lib.hid (show dirB S = false by
            unfold dirB
            rw [onlyB_no hlt (by rw [← HC.out]; omega), Bool.and_false])
          have t1 : (c != 85) = true := by simp [h1]
          have t2 : (c != 68) = true := by simp [h2]
          clear h1 h2
          go_wp2_with fail
          go_ret
          exact ⟨ret_bool N.out.symm, hbel⟩
    · obtain rfl : k = S.size := by omega
      have E := Lib.hid (show dirB S = decide ((S.size : Int) ≤ 30) by
        unfold dirB
        rw [onlyB_yes UD.out, Bool.and_true]
        exact decide_eq_decide.2 ⟨fun h => by omega, fun h => by omega⟩)
      go_wp2_with fail
      go_ret
      exact ⟨ret_bool E.out.symm, hbel⟩

end Go.Proofs.Ytlcmkocbpnekhaa
