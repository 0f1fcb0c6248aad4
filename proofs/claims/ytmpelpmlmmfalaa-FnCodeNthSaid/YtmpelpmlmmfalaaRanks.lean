/-
  The ranks of codes, by the model and by the program: for lists of at most 1048576 integers.
-/
import Derived.Test.YtmpelpmlmmfalaaBacks
import Derived.Test.YtmpelpmlmmfalaaMany
namespace Go.Proofs.Ytmpelpmlmmfalaa
open Go.RowKit

set_option maxHeartbeats 1000000 in
theorem specRank {w : World} {v : Value} {xs : List Int} (h : Ints w v xs) :
    Calls Try.prog 20 #[v] w fun e w' => e = .returned (.int .i64 (rankOf xs)) ∧ w = w' := by
  have k1 := h
  obtain ⟨a, cap, rfl, hl, hc⟩ := k1
  cases hv : groupsB xs 1 5
  · have HE := Lib.hid (show rankOf xs = -1 by simp [rankOf, hv])
    go_enter Try.func20, Try.ntmps20
    go_wp2_with (go_at_call 29; refine (specCodeValid h).mono ?_; rintro e w' ⟨rfl, rfl⟩)
    go_ret
    exact ⟨ret_int HE.out.symm, rfl⟩
  · have HE := Lib.hid (show rankTo xs xs.length = rankOf xs by simp [rankOf, hv])
    obtain ⟨hok, h1, h5⟩ := groupsB_ok hv
    have hsl := sumL_bounds hok xs.length (Nat.le_refl _)
    rw [List.take_length] at hsl
    have HO := Lib.hid hok
    rcases hc with rfl | ⟨b, o, rfl, hb, hcell⟩
    · simp at h1
    · have HC := Lib.hid hcell
      clear hcell hok
      go_enter Try.func20, Try.ntmps20
      go_wp2_with (first | (go_at_call 29; refine (specCodeValid h).mono ?_; rintro e w' ⟨rfl, rfl⟩) | (go_at_call 49; refine (l1Sum h HO.out).mono ?_; rintro e w' ⟨rfl, rfl⟩))
      go_loop [3, 4, 5, 6] (fun r l i _ => ∃ k : Nat, k ≤ xs.length ∧ i = .int .i64 k ∧ r = .int .i64 (rankTo xs k) ∧ l = .int .i64 (sumL xs - sumL (xs.take k))) (fun _ _ i _ => xs.length - (intOf i).toNat)
      case atStart => exact ⟨0, by omega, rfl, rfl, by simp [sumL]⟩
      case round =>
        obtain ⟨k, hk, rfl, rfl, rfl⟩ := hrel
        have hrb := rankTo_bounds xs HO.out (by omega) k hk
        by_cases hlt : k < xs.length
        · obtain ⟨x, hx⟩ : ∃ x, x = xs.getD k 0 := ⟨_, rfl⟩
          have hc1 : w.cell? ⟨b, o + k, none⟩ = some (.int .i64 x) := by rw [hx]; exact HC.out k hlt
          have hb2 := okGroups_get HO.out k hlt
          have hge := left_ge HO.out k hlt
          have hsk := sumL_bounds HO.out k hk
          rw [← hx] at hb2 hge
          obtain ⟨L, hL⟩ : ∃ L, L = sumL xs - sumL (xs.take k) := ⟨_, rfl⟩
          have hL1 : x ≤ L := by omega
          have hL2 : L ≤ 30 := by omega
          have hk4 : (k : Int) ≤ 4 := by omega
          have hk4' : k ≤ 4 := by omega
          rw [← hL]
          have HX := Lib.hid hx
          have HL := Lib.hid hL
          clear hx hL hge hsk hsl
          go_wp2_with fail
          go_loop [3, 6] (fun r q => ∃ j : Nat, (j : Int) + 1 ≤ x ∧ q = .int .i64 ((j : Int) + 1) ∧ r = .int .i64 (rankTo xs k + lesser (4 - k) L j)) (fun _ q => (7 - intOf q).toNat)
          case atStart => exact ⟨0, by omega, rfl, by simp [lesser, sumTo]⟩
          case round =>
            obtain ⟨j, hj, rfl, rfl⟩ := hrel
            have hlb := lesser_bounds (4 - k) L j (by omega) (by omega)
            have hmb := many_bounds (4 - k) ((L - ((j : Int) + 1)).toNat) (by omega)
            by_cases hjx : (j : Int) + 1 < x
            · go_wp2_with (go_at_call 46; refine (spec_many (4 - k) _ _ _ (by omega) (by omega) (by omega) (by omega)).mono ?_; rintro e w' ⟨rfl, rfl⟩)
              go_round
              case rel => exact ⟨j + 1, by omega, by go_num, by rw [lesser_succ]; rw [show (L - ((j : Int) + 1)).toNat = L.toNat - (j + 1) by omega]; go_num⟩
              case measure => simp [intOf]; omega
            · go_wp2_with fail
              go_round
              case rel =>
                refine ⟨k + 1, by omega, by go_num, ?_, ?_⟩
                · simp only [rankTo]
                  rw [← HL.out, ← HX.out, show x.toNat - 1 = j by omega]
                · rw [sumL_succ _ _ hlt, ← HX.out, HL.out]
                  go_num
              case measure => simp [intOf]; omega
        · obtain rfl : k = xs.length := by omega
          go_wp2_with fail
          go_ret
          exact ⟨ret_int HE.out, rfl⟩

set_option maxHeartbeats 1000000 in
theorem implRank {w : World} {v : Value} {xs : List Int} (h : Ints w v xs) :
    Calls Try.prog 18 #[v] w fun e w' => e = .returned (.int .i64 (rankOf xs)) ∧ Below w.heap.size w w' := by
  have k1 := h
  obtain ⟨a, cap, rfl, hl, hc⟩ := k1
  cases hv : groupsB xs 1 5
  · have HE := Lib.hid (show rankOf xs = -1 by simp [rankOf, hv])
    have HB := Lib.hid (show beatsOf xs = -1 by simp [beatsOf, hv])
    go_enter Try.func18, Try.ntmps18
    go_wp2_with (go_at_call 21; refine (implBeats h).mono ?_)
    rintro e w1 ⟨rfl, b1⟩
    rw [HB.out]
    go_wp2_with fail
    go_ret
    exact ⟨ret_int HE.out.symm, b1⟩
  · have HE := Lib.hid (show rankTo xs xs.length = rankOf xs by simp [rankOf, hv])
    have HB := Lib.hid (show beatsOf xs = sumL xs by simp [beatsOf, hv])
    obtain ⟨hok, h1, h5⟩ := groupsB_ok hv
    have hsl := sumL_bounds hok xs.length (Nat.le_refl _)
    rw [List.take_length] at hsl
    have HO := Lib.hid hok
    rcases hc with rfl | ⟨b, o, rfl, hb, hcell⟩
    · simp at h1
    · have HC := Lib.hid hcell
      clear hcell hok
      go_enter Try.func18, Try.ntmps18
      go_wp2_with (go_at_call 21; refine (implBeats h).mono ?_)
      rintro e w1 ⟨rfl, b1⟩
      rw [HB.out]
      go_wp2_with fail
      go_loop [3, 4, 5, 6, 7, 14] (fun l r _ _ _ i => ∃ k : Nat, k ≤ xs.length ∧ i = .int .i64 k ∧ r = .int .i64 (rankTo xs k) ∧ l = .int .i64 (sumL xs - sumL (xs.take k))) (fun _ _ _ _ _ i => xs.length - (intOf i).toNat)
      case atStart => exact ⟨0, by omega, rfl, rfl, by simp [sumL]⟩
      case round =>
        obtain ⟨k, hk, rfl, rfl, rfl⟩ := hrel
        have hrb := rankTo_bounds xs HO.out (by omega) k hk
        by_cases hlt : k < xs.length
        · obtain ⟨x, hx⟩ : ∃ x, x = xs.getD k 0 := ⟨_, rfl⟩
          have hc1 : w1.cell? ⟨b, o + k, none⟩ = some (.int .i64 x) := by rw [hx]; exact (b1.cell (p := ⟨b, o + k, none⟩) hb).trans (HC.out k hlt)
          have hb2 := okGroups_get HO.out k hlt
          have hge := left_ge HO.out k hlt
          have hsk := sumL_bounds HO.out k hk
          rw [← hx] at hb2 hge
          obtain ⟨L, hL⟩ : ∃ L, L = sumL xs - sumL (xs.take k) := ⟨_, rfl⟩
          have hL1 : x ≤ L := by omega
          have hL2 : L ≤ 30 := by omega
          have hk4 : (k : Int) ≤ 4 := by omega
          have hk4' : k ≤ 4 := by omega
          rw [← hL]
          have HX := Lib.hid hx
          have HL := Lib.hid hL
          clear hx hL hge hsk hsl
          go_wp2_with fail
          go_loop [4, 7] (fun r q => ∃ j : Nat, (j : Int) + 1 ≤ x ∧ q = .int .i64 ((j : Int) + 1) ∧ r = .int .i64 (rankTo xs k + lesser (4 - k) L j)) (fun _ q => (7 - intOf q).toNat)
          case atStart => exact ⟨0, by omega, rfl, by simp [lesser, sumTo]⟩
          case round =>
            obtain ⟨j, hj, rfl, rfl⟩ := hrel
            have hlb := lesser_bounds (4 - k) L j (by omega) (by omega)
            have hmb := many_bounds (4 - k) ((L - ((j : Int) + 1)).toNat) (by omega)
            by_cases hjx : (j : Int) + 1 < x
            · go_wp2_with (go_at_call 44; refine (impl_many (4 - k) _ _ _ (by omega) (by omega) (by omega) (by omega)).mono ?_; rintro e w' ⟨rfl, rfl⟩)
              go_round
              case rel => exact ⟨j + 1, by omega, by go_num, by rw [lesser_succ]; rw [show (L - ((j : Int) + 1)).toNat = L.toNat - (j + 1) by omega]; go_num⟩
              case measure => simp [intOf]; omega
            · go_wp2_with fail
              go_round
              case rel =>
                refine ⟨k + 1, by omega, by go_num, ?_, ?_⟩
                · simp only [rankTo]
                  rw [← HL.out, ← HX.out, show x.toNat - 1 = j by omega]
                · rw [sumL_succ _ _ hlt, ← HX.out, HL.out]
                  go_num
              case measure => simp [intOf]; omega
        · obtain rfl : k = xs.length := by omega
          go_wp2_with fail
          go_ret
          exact ⟨ret_int HE.out, b1⟩

end Go.Proofs.Ytmpelpmlmmfalaa
