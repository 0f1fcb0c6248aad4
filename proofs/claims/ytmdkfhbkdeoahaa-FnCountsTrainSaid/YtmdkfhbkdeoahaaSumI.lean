/-
  The sum of a list, walked. For lists of at most 1000 small numbers.
-/
import Derived.Test.YtmdkfhbkdeoahaaCtrQ
import Derived.Test.YtmdkfhbkdeoahaaCtrC
namespace Go.Proofs.Ytmdkfhbkdeoahaa
open Go.RowKit Go.Sort

set_option maxHeartbeats 1000000 in
theorem sumOf {w : World} {v : Value} {xs : List Int} (h : Ints w v xs) (hl : xs.length ≤ 1000) (hv : ∀ i, i < xs.length → -100 ≤ xs.getD i 0 ∧ xs.getD i 0 ≤ 100) :
    Calls Try.prog 12 #[v] w fun e w' => e = .returned (.int .i64 (smTo xs xs.length)) ∧ w' = w := by
  obtain ⟨a, cap, rfl, hsp⟩ := h.spot
  have SP := Lib.hid hsp
  have SR := Lib.hid (smTo_range hv)
  have HV := Lib.hid hv
  have hli : (xs.length : Int) ≤ 1000 := by omega
  clear hsp h hv
  go_enter Try.func12, Try.ntmps12
  go_wp2_with fail
  go_loopw [3, 4] (fun s i wr => ∃ k : Nat, k ≤ xs.length ∧ i = .int .i64 k ∧ s = .int .i64 (smTo xs k) ∧ wr = w) (fun _ i _ => xs.length - (intOf i).toNat)
  case atStart => exact ⟨0, by omega, rfl, rfl, rfl⟩
  case round =>
    obtain ⟨k, hk, rfl, rfl, rfl⟩ := hrel
    by_cases hlt : k < xs.length
    · have hki : (k : Int) < (xs.length : Int) := by omega
      obtain ⟨b, o, rfl, hb, hcell⟩ := SP.out k hlt
      obtain ⟨x, hx⟩ : ∃ x, x = xs.getD k 0 := ⟨_, rfl⟩
      have hcx : wr.cell? ⟨b, o + k, none⟩ = some (.int .i64 x) := by rw [hx]; exact hcell k hlt
      obtain ⟨s, hs⟩ : ∃ s, s = smTo xs k := ⟨_, rfl⟩
      have r1 := SR.out k hk
      have r2 := HV.out k hlt
      have NX := Lib.hid (show smTo xs (k + 1) = s + x by rw [hs, hx]; rfl)
      rw [← hs] at r1
      rw [← hx] at r2
      rw [← hs]
      have hw1 : IntKind.i64.wrap (s + x) = s + x := IntWalk.i64_in _ (by omega)
      clear hs hx hcell
      go_wp2_with fail
      go_roundw
      case rel => exact ⟨k + 1, by omega, by go_num, by rw [NX.out], by first | rfl | trivial⟩
      case measure => simp [intOf]; omega
    · obtain rfl : k = xs.length := by omega
      go_wp2_with fail
      go_ret
      exact ⟨rfl, rfl⟩

end Go.Proofs.Ytmdkfhbkdeoahaa
