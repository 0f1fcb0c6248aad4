/-
  Are two lists equal, by the model: for lists of at most 1048576 integers.
-/
import Derived.Test.YtphadofigcipcaaDigits
import Derived.Test.YtphadofigcipcaaSlices
namespace Go.Proofs.Ytphadofigcipcaa
open Go.RowKit

/-- Do the lists agree on their first k numbers? -/
def AgreeTo (xs ys : List Int) (k : Nat) : Prop := xs.take k = ys.take k
theorem AgreeTo.succ {xs ys : List Int} {k : Nat} (h : AgreeTo xs ys k) (hx : k < xs.length) (hy : k < ys.length) (e : xs.getD k 0 = ys.getD k 0) : AgreeTo xs ys (k + 1) := by
  unfold AgreeTo at *
  rw [take_succ_getD xs k hx, take_succ_getD ys k hy, h, e]
theorem differ {xs ys : List Int} {k : Nat} (_hx : k < xs.length) (_hy : k < ys.length) (e : xs.getD k 0 ≠ ys.getD k 0) : decide (xs = ys) = false := by
  simp only [decide_eq_false_iff_not]
  rintro rfl
  exact e rfl

end Go.Proofs.Ytphadofigcipcaa

/-
  Are two lists equal, by the laws: for lists of at most 1048576 integers.
-/
namespace Go.Proofs.Ytphadofigcipcaa
open Go.RowKit

set_option maxHeartbeats 400000 in
theorem sameInts {w : World} {u v : Value} {xs ys : List Int} (h : Ints w u xs) (h' : Ints w v ys) :
    Calls Try.prog 29 #[u, v] w fun e w' => e = .returned (.bool (decide (xs = ys))) ∧ Below w.heap.size w w' := by
  obtain ⟨a, cap, rfl, hl, hc⟩ := h
  obtain ⟨a', cap', rfl, hl2, hc'⟩ := h'
  have hl' : (xs.length : Int) ≤ 1048576 := by omega
  by_cases hlen : xs.length = ys.length
  · rcases hc with rfl | ⟨b, o, rfl, hb, hcell⟩
    · have hy : ys = [] := by cases ys <;> simp_all
      subst hy
      go_enter Try.func29, Try.ntmps29
      go_wp2_with fail
      refine wp_loop_rounds 1 ?_
      rw [rounds_succ]
      go_wp2_with fail
      go_ret
      exact ⟨rfl, Below.refl _ _⟩
    · rcases hc' with rfl | ⟨b', o', rfl, hb', hcell'⟩
      · have hx : xs = [] := by cases xs <;> simp_all
        subst hx
        go_enter Try.func29, Try.ntmps29
        go_wp2_with fail
        refine wp_loop_rounds 1 ?_
        rw [rounds_succ]
        go_wp2_with fail
        go_ret
        exact ⟨rfl, Below.refl _ _⟩
      · rw [← hlen] at hcell' ⊢
        have HL := Lib.hid hlen
        have HC := Lib.hid hcell
        have HC' := Lib.hid hcell'
        clear hlen hcell hcell' hl2
        go_enter Try.func29, Try.ntmps29
        go_wp2_with fail
        go_loopw [5] (fun i wr => ∃ k : Nat, k ≤ xs.length ∧ i = .int .i64 k ∧ AgreeTo xs ys k ∧ Below w.heap.size w wr) (fun i _ => xs.length - (intOf i).toNat)
        case atStart => exact ⟨0, by omega, rfl, rfl, Below.refl _ _⟩
        case round =>
          obtain ⟨k, hk, rfl, hag, hbel⟩ := hrel
          by_cases hlt : k < xs.length
          · obtain ⟨x, hx⟩ : ∃ x, x = xs.getD k 0 := ⟨_, rfl⟩
            obtain ⟨y, hy⟩ : ∃ y, y = ys.getD k 0 := ⟨_, rfl⟩
            have hc1 : wr.cell? ⟨b, o + k, none⟩ = some (.int .i64 x) := by rw [hx]; exact (hbel.cell (p := ⟨b, o + k, none⟩) hb).trans (HC.out k hlt)
            have hc2 : wr.cell? ⟨b', o' + k, none⟩ = some (.int .i64 y) := by rw [hy]; exact (hbel.cell (p := ⟨b', o' + k, none⟩) hb').trans (HC'.out k hlt)
            have hi : (k : Int) < (xs.length : Int) := by omega
            have HX := Lib.hid hx
            have HY := Lib.hid hy
            clear hx hy
            by_cases e : x = y
            · subst e
              go_wp2_with fail
              go_quiet (fail)
              go_wp2_with fail
              go_roundw
              case rel => exact ⟨k + 1, by omega, by go_num, hag.succ hlt (by rw [← HL.out]; exact hlt) (HX.out.symm.trans HY.out), below_drewN hbel _⟩
              case measure => simp [intOf]; omega
            · have en : (x != y) = true := by simpa using e
              have HN := Lib.hid (differ hlt (by rw [← HL.out]; exact hlt) (by rw [← HX.out, ← HY.out]; exact e))
              clear e
              go_wp2_with fail
              go_quiet (fail)
              go_wp2_with fail
              go_ret
              exact ⟨ret_bool HN.out.symm, below_drewN hbel _⟩
          · obtain rfl : k = xs.length := by omega
            have HE := Lib.hid (show decide (xs = ys) = true by
              unfold AgreeTo at hag
              rw [List.take_length, HL.out, List.take_length] at hag
              simp [hag])
            clear hag
            go_wp2_with fail
            go_ret
            exact ⟨ret_bool HE.out.symm, hbel⟩
  · have en : ((xs.length : Int) != (ys.length : Int)) = true := by simp; omega
    have HN := Lib.hid (show decide (xs = ys) = false by simp only [decide_eq_false_iff_not]; rintro rfl; exact hlen rfl)
    clear hlen
    go_enter Try.func29, Try.ntmps29
    go_wp2_with fail
    go_ret
    exact ⟨ret_bool HN.out.symm, Below.refl _ _⟩

end Go.Proofs.Ytphadofigcipcaa
