/-
  Where a code stands in a book, by the model and by the program: for lists of at most 1048576 lists, each of at most as many integers.
-/
import Derived.Test.YtcfnklpbiodhjaaBookOf
namespace Go.Proofs.Ytcfnklpbiodhjaa
open Go.RowKit

noncomputable def findOf (bk : List (List Int)) (xs : List Int) : Int := if bookB bk then firstIdx (fun i => decide (bk.getD i [] = xs)) 0 bk.length else -1
/-- It is none of the first k. -/
def NoneTo (bk : List (List Int)) (xs : List Int) (k : Nat) : Prop := ∀ l, l < k → decide (bk.getD l [] = xs) = false

theorem findOf_bounds (bk : List (List Int)) (xs : List Int) : -1 ≤ findOf bk xs := by
  unfold findOf
  split
  · by_cases h : ∃ k, k < bk.length ∧ (fun i => decide (bk.getD i [] = xs)) k = true
    · have := firstIdx_nonneg.2 h; omega
    · have : firstIdx (fun i => decide (bk.getD i [] = xs)) 0 bk.length = -1 := firstIdx_none (fun l hl => by
        cases e : decide (bk.getD l [] = xs)
        · rfl
        · exact absurd ⟨l, hl, e⟩ h)
      omega
  · omega

set_option maxHeartbeats 1000000 in
theorem specFind {w : World} {u v : Value} {bk : List (List Int)} {xs : List Int} (h : Lists w u bk) (hx : Ints w v xs) :
    Calls Try.prog 46 #[u, v] w fun e w' => e = .returned (.int .i64 (findOf bk xs)) ∧ Below w.heap.size w w' := by
  have h1 := h
  obtain ⟨a, cap, rfl, hl, hc⟩ := h
  have hl' : (bk.length : Int) ≤ 1048576 := by omega
  rcases hc with rfl | ⟨b, o, rfl, hb, hcell⟩
  · have HE := Lib.hid (show (-1 : Int) = findOf [] xs by unfold findOf; split <;> rfl)
    go_enter Try.func46, Try.ntmps46
    go_wp2_with fail
    refine wp_loop_rounds 1 ?_
    rw [rounds_succ]
    go_wp2_with fail
    go_ret
    exact ⟨ret_int HE.out, Below.refl _ _⟩
  · have HC := Lib.hid hcell
    clear hcell
    cases hv : bookB bk
    · have HE := Lib.hid (show (-1 : Int) = findOf bk xs by unfold findOf; rw [hv]; rfl)
      by_cases h0 : bk.length = 0
      · have hn : decide (0 < bk.length) = false := by simp [h0]
        clear h0
        go_enter Try.func46, Try.ntmps46
        go_wp2_with fail
        refine wp_loop_rounds 1 ?_
        rw [rounds_succ]
        go_wp2_with fail
        go_ret
        exact ⟨ret_int HE.out, Below.refl _ _⟩
      · have hlt : (0 : Int) < (bk.length : Int) := by omega
        have hlt' : 0 < bk.length := by omega
        clear h0
        go_enter Try.func46, Try.ntmps46
        go_wp2_with fail
        refine wp_loop_rounds 1 ?_
        rw [rounds_succ]
        go_wp2_with (go_at_call 26; refine (specBook h1).mono ?_)
        rintro e w1 ⟨rfl, b1⟩
        go_wp2_with fail
        go_ret
        exact ⟨ret_int HE.out, b1⟩
    · have HE := Lib.hid (show firstIdx (fun i => decide (bk.getD i [] = xs)) 0 bk.length = findOf bk xs by unfold findOf; rw [hv]; rfl)
      go_enter Try.func46, Try.ntmps46
      go_wp2_with fail
      go_loopw [5] (fun i wr => ∃ k : Nat, k ≤ bk.length ∧ i = .int .i64 k ∧ NoneTo bk xs k ∧ Below w.heap.size w wr) (fun i _ => bk.length - (intOf i).toNat)
      case atStart => exact ⟨0, by omega, rfl, fun l hl => by omega, Below.refl _ _⟩
      case round =>
        obtain ⟨k, hk, rfl, hn, hbel⟩ := hrel
        by_cases hlt : k < bk.length
        · obtain ⟨y, hy, iy⟩ := HC.out k hlt
          obtain ⟨ys, hys⟩ : ∃ ys, ys = bk.getD k [] := ⟨_, rfl⟩
          rw [← hys] at iy
          have HY := Lib.hid hys
          clear hys
          have hki : (k : Int) < (bk.length : Int) := by omega
          have hr := h1.below hbel
          go_wp2_with (go_at_call 26; refine (specBook hr).mono ?_)
          rintro e w1 ⟨rfl, b1⟩
          have hb1 := hbel.trans (b1.mono hbel.size)
          have hc1 : w1.cell? ⟨b, o + k, none⟩ = some y := (hb1.cell (p := ⟨b, o + k, none⟩) hb).trans hy
          have hs := l1Same (iy.below hb1) (hx.below hb1)
          by_cases e : ys = xs
          · have hde : decide (ys = xs) = true := by simp [e]
            have HF := Lib.hid (firstIdx_hit (f := fun i => decide (bk.getD i [] = xs)) hn (by show decide (bk.getD k [] = xs) = true; rw [← HY.out]; exact hde) hlt)
            rw [hde] at hs
            have HS := Lib.hid hs
            clear hs hde e hy iy
            go_wp2_with (go_at_call 42; refine HS.out.mono ?_)
            rintro e w2 ⟨rfl, b2⟩
            go_wp2_with fail
            go_ret
            exact ⟨ret_int (HF.out.symm.trans HE.out), hb1.trans (b2.mono hb1.size)⟩
          · have hde : decide (ys = xs) = false := by simp [e]
            have HF := Lib.hid (show NoneTo bk xs (k + 1) by
              intro l hl
              by_cases q : l = k
              · subst q; rw [← HY.out]; exact hde
              · exact hn l (by omega))
            rw [hde] at hs
            have HS := Lib.hid hs
            clear hs hde e hy iy
            go_wp2_with (go_at_call 42; refine HS.out.mono ?_)
            rintro e w2 ⟨rfl, b2⟩
            go_wp2_with fail
            go_roundw
            case rel => exact ⟨k + 1, by omega, by go_num, HF.out, hb1.trans (b2.mono hb1.size)⟩
            case measure => simp [intOf]; omega
        · obtain rfl : k = bk.length := by omega
          have HF := Lib.hid (firstIdx_none (f := fun i => decide (bk.getD i [] = xs)) hn)
          have hlk : decide (bk.length < bk.length) = false := by simp
          go_wp2_with fail
          go_ret
          exact ⟨ret_int (HF.out.symm.trans HE.out), hbel⟩

end Go.Proofs.Ytcfnklpbiodhjaa
