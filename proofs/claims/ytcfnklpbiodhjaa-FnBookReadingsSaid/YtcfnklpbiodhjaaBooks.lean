/-
  Books of codes, by the model and by the program: for lists of at most 1048576 lists, each of at most as many integers.
-/
import Derived.Test.YtcfnklpbiodhjaaBookP
import Derived.Test.YtcfnklpbiodhjaaLists
import Derived.Test.YtcfnklpbiodhjaaGroups
import Derived.Test.YtcfnklpbiodhjaaSpecA
import Derived.Test.YtcfnklpbiodhjaaSame
namespace Go.Proofs.Ytcfnklpbiodhjaa
open Go.RowKit Go.Sort

set_option maxHeartbeats 1000000 in
theorem specBook {w : World} {v : Value} {bk : List (List Int)} (h : Lists w v bk) :
    Calls Try.prog 26 #[v] w fun e w' => e = .returned (.bool (bookB bk)) ∧ Below w.heap.size w w' := by
  obtain ⟨a, cap, rfl, hl, hc⟩ := h
  have hl' : (bk.length : Int) ≤ 1048576 := by omega
  have HE := Lib.hid (show BookTo bk bk.length → decide ((bk.length : Int) ≤ 10) = bookB bk by
    intro hb
    by_cases q : bk.length ≤ 10
    · rw [bookB_yes ⟨hb, q⟩]; simp; omega
    · rw [bookB_no (fun hh => q hh.2)]; simp; omega)
  rcases hc with rfl | ⟨b, o, rfl, hb, hcell⟩
  · go_enter Try.func26, Try.ntmps26
    go_wp2_with fail
    refine wp_loop_rounds 1 ?_
    rw [rounds_succ]
    go_wp2_with fail
    go_ret
    exact ⟨ret_bool (HE.out (BookTo.zero _)), Below.refl _ _⟩
  · have HC := Lib.hid hcell
    clear hcell
    go_enter Try.func26, Try.ntmps26
    go_wp2_with fail
    go_loopw [3, 4] (fun i _ wr => ∃ k : Nat, k ≤ bk.length ∧ i = .int .i64 k ∧ BookTo bk k ∧ Below w.heap.size w wr) (fun i _ _ => bk.length - (intOf i).toNat)
    case atStart => exact ⟨0, by omega, rfl, BookTo.zero _, Below.refl _ _⟩
    case round =>
      obtain ⟨k, hk, rfl, hbt, hbel⟩ := hrel
      by_cases hlt : k < bk.length
      · obtain ⟨x, hx, ix⟩ := HC.out k hlt
        obtain ⟨xs, hxs⟩ : ∃ xs, xs = bk.getD k [] := ⟨_, rfl⟩
        rw [← hxs] at ix
        have HX := Lib.hid hxs
        have hc1 : wr.cell? ⟨b, o + k, none⟩ = some x := (hbel.cell (p := ⟨b, o + k, none⟩) hb).trans hx
        have i1 := ix.below hbel
        have HX1 := Lib.hid hx
        have IX := Lib.hid ix
        clear hxs hx ix
        cases hv : groupsB xs 1 5
        · have HN := Lib.hid (bookB_no (not_book_code hlt (by rw [← HX.out]; exact hv)))
          go_wp2_with (go_at_call 41; refine (specCodeValid i1).mono ?_; rintro e w' ⟨rfl, rfl⟩)
          go_ret
          exact ⟨ret_bool HN.out.symm, hbel⟩
        · have HV := Lib.hid hv
          have hki : (k : Int) < (bk.length : Int) := by omega
          go_wp2_with (go_at_call 41; refine (specCodeValid i1).mono ?_; rintro e w' ⟨rfl, rfl⟩)
          clear hv hc1 i1
          go_loopw [4] (fun q ws => ∃ j : Nat, j ≤ k ∧ q = .int .i64 j ∧ NotIn bk xs j ∧ Below w.heap.size w ws) (fun q _ => k - (intOf q).toNat)
          case atStart => exact ⟨0, by omega, rfl, NotIn.zero _ _, hbel⟩
          case round =>
            obtain ⟨j, hj, rfl, hni, hbj⟩ := hrel
            by_cases hjk : j < k
            · obtain ⟨y, hy, iy⟩ := HC.out j (by omega)
              obtain ⟨ys, hys⟩ : ∃ ys, ys = bk.getD j [] := ⟨_, rfl⟩
              rw [← hys] at iy
              have HY := Lib.hid hys
              clear hys
              have hd1 : ∀ d os, (grow (redrawn wr d) os).cell? ⟨b, o + k, none⟩ = some x := fun d os => cell_regrown ((hbj.cell (p := ⟨b, o + k, none⟩) hb).trans HX1.out) d os
              have hd2 : ∀ d os, (grow (redrawn wr d) os).cell? ⟨b, o + j, none⟩ = some y := fun d os => cell_regrown ((hbj.cell (p := ⟨b, o + j, none⟩) hb).trans hy) d os
              have hkl : (k : Int) < (bk.length : Int) := by omega
              have hjl : (j : Int) < (bk.length : Int) := by omega
              have HS := Lib.hid (fun d os => Calls.regrown_of (l1Same ((IX.out.below hbj).below (below_regrown wr d os)) ((iy.below hbj).below (below_regrown wr d os))))
              clear iy hy
              by_cases e : xs = ys
              · have hde : decide (xs = ys) = true := by simp [e]
                have HN := Lib.hid (bookB_no (not_book_twice hjk hlt (by rw [← HX.out, ← HY.out]; exact e)))
                clear e
                rw [hde] at HS
                clear hde
                go_wp2_with fail
                refine wp_region_quiet_below (by kernel_rfl) (by kernel_rfl) ?_
                repeat (quiet_step (exact HS.out _ _))
                refine wpQuiet_nil ?_
                intro _ hw'
                obtain ⟨⟨dq, osq⟩, hw''⟩ := hw'
                subst hw''
                go_wp2_with fail
                go_ret
                exact ⟨ret_bool HN.out.symm, hbj.trans ((below_regrown wr dq osq).mono hbj.size)⟩
              · have hde : decide (xs = ys) = false := by simp [e]
                have HN := Lib.hid (hni.succ (by rw [← HY.out]; exact e))
                clear e
                rw [hde] at HS
                clear hde
                go_wp2_with fail
                refine wp_region_quiet_below (by kernel_rfl) (by kernel_rfl) ?_
                repeat (quiet_step (exact HS.out _ _))
                refine wpQuiet_nil ?_
                intro _ hw'
                obtain ⟨⟨dq, osq⟩, hw''⟩ := hw'
                subst hw''
                go_wp2_with fail
                go_roundw
                case rel => exact ⟨j + 1, by omega, by go_num, HN.out, hbj.trans ((below_regrown wr dq osq).mono hbj.size)⟩
                case measure => simp [intOf]; omega
            · obtain rfl : j = k := by omega
              go_wp2_with fail
              go_roundw
              case rel => exact ⟨j + 1, by omega, by go_num, hbt.succ (by rw [← HX.out]; exact HV.out) (by rw [← HX.out]; exact hni), hbj⟩
              case measure => simp [intOf]; omega
      · obtain rfl : k = bk.length := by omega
        have HF := Lib.hid (HE.out hbt)
        go_wp2_with fail
        go_ret
        exact ⟨ret_bool HF.out, hbel⟩

end Go.Proofs.Ytcfnklpbiodhjaa
