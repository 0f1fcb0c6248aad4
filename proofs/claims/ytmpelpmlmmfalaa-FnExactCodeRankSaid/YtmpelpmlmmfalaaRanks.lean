/-
  The ranks of codes, by the model and by the program: for lists of at most 1048576 integers.
-/
import Derived.Test.YtmpelpmlmmfalaaBacks
import Derived.Test.YtmpelpmlmmfalaaMany
namespace Go.Proofs.Ytmpelpmlmmfalaa
open Go.RowKit

/-- What the lesser first groups than j + 1 of a list with so many beats left count, g groups being free behind it. -/
def lesser (g : Nat) (left : Int) (j : Nat) : Int := sumTo (fun k => many g (left.toNat - k)) j
/-- The rank that the first k groups give, and the beats that are left behind them. -/
def rankTo (xs : List Int) : Nat → Int
  | 0 => 0
  | k + 1 => rankTo xs k + lesser (4 - k) (sumL xs - sumL (xs.take k)) ((xs.getD k 0).toNat - 1)
/-- CodeRank. -/
def rankOf (xs : List Int) : Int := if groupsB xs 1 5 then rankTo xs xs.length else -1

theorem lesser_bounds (g : Nat) (left : Int) (j : Nat) (hg : g ≤ 5) (hj : j ≤ 6) : 0 ≤ lesser g left j ∧ lesser g left j ≤ 46656 := part_bounds g left.toNat j hg hj
theorem lesser_succ (g : Nat) (left : Int) (j : Nat) : lesser g left (j + 1) = lesser g left j + many g (left.toNat - (j + 1)) := rfl
theorem rankTo_bounds (xs : List Int) (hok : okGroups xs = true) (h5 : xs.length ≤ 5) (k : Nat) (hk : k ≤ xs.length) : 0 ≤ rankTo xs k ∧ rankTo xs k ≤ 46656 * (k : Int) := by
  induction k with
  | zero => simp [rankTo]
  | succ k ih =>
    have h1 := ih (by omega)
    have h2 := okGroups_get hok k (by omega)
    have h3 := lesser_bounds (4 - k) (sumL xs - sumL (xs.take k)) ((xs.getD k 0).toNat - 1) (by omega) (by omega)
    simp only [rankTo]
    omega
/-- What is left of the beats is at least the group that comes. -/
theorem left_ge {xs : List Int} (hok : okGroups xs = true) (k : Nat) (hk : k < xs.length) : sumL (xs.take k) + xs.getD k 0 ≤ sumL xs := by
  have h : ∀ d, k + 1 + d ≤ xs.length → sumL (xs.take (k + 1)) ≤ sumL (xs.take (k + 1 + d)) := by
    intro d
    induction d with
    | zero => intro _; exact Int.le_refl _
    | succ d ih =>
      intro hd
      have h1 := ih (by omega)
      have h2 := okGroups_get hok (k + 1 + d) (by omega)
      have h3 := sumL_succ xs (k + 1 + d) (by omega)
      rw [show k + 1 + (d + 1) = k + 1 + d + 1 by omega, h3]
      omega
  have h4 := h (xs.length - (k + 1)) (by omega)
  rw [show k + 1 + (xs.length - (k + 1)) = xs.length by omega, List.take_length, sumL_succ xs k hk] at h4
  exact h4

set_option maxHeartbeats 1000000 in
theorem specRank {w : World} {v : Value} {xs : List Int} (h : Ints w v xs) :
    Calls Try.prog 20 #[v] w fun e w' => e = .returned (.int .i64 (rankOf xs)) ∧ w = w' := by
  have k1 := h
  obtain ⟨a, cap, rfl, hl, hc⟩ := k1
  cases hv : groupsB xs 1 5
  · have HE := Lib.hid (show rankOf xs = -1 by simp [rankOf, hv])
    go_enter Try.func20, Try.ntmps20
    go_wp2_with (go_at_call 29; refine (specCodeValid h).mono ?_; rintro e w' ⟨rfl, rfl⟩)
    go_ret
    exact ⟨ret_int HE.out.symm, rfl⟩
  · have HE := Lib.hid (show rankTo xs xs.length = rankOf xs by simp [rankOf, hv])
    obtain ⟨hok, h1, h5⟩ := groupsB_ok hv
    have hsl := sumL_bounds hok xs.length (Nat.le_refl _)
    rw [List.take_length] at hsl
    have HO := Lib.hid hok
    rcases hc with rfl | ⟨b, o, rfl, hb, hcell⟩
    · simp at h1
    · have HC := Lib.hid hcell
      clear hcell hok
      go_enter Try.func20, Try.ntmps20
      go_wp2_with (first | (go_at_call 29; refine (specCodeValid h).mono ?_; rintro e w' ⟨rfl, rfl⟩) | (go_at_call 49; refine (l1Sum h HO.out).mono ?_; rintro e w' ⟨rfl, rfl⟩))
      go_loop [3, 4, 5, 6] (fun r l i _ => ∃ k : Nat, k ≤ xs.length ∧ i = .int .i64 k ∧ r = .int .i64 (rankTo xs k) ∧ l = .int .i64 (sumL xs - sumL (xs.take k))) (fun _ _ i _ => xs.length - (intOf i).toNat)
      case atStart => exact ⟨0, by omega, rfl, rfl, by simp [sumL]⟩
      case round =>
        obtain ⟨k, hk, rfl, rfl, rfl⟩ := hrel
        have hrb := rankTo_bounds xs HO.out (by omega) k hk
        by_cases hlt : k < xs.length
        · obtain ⟨x, hx⟩ : ∃ x, x = xs.getD k 0 := ⟨_, rfl⟩
          have hc1 : w.cell? ⟨b, o + k, none⟩ = some (.int .i64 x) := by rw [hx]; exact HC.out k hlt
          have hb2 := okGroups_get HO.out k hlt
          have hge := left_ge HO.out k hlt
          have hsk := sumL_bounds HO.out k hk
          rw [← hx] at hb2 hge
          obtain ⟨L, hL⟩ : ∃ L, L = sumL xs - sumL (xs.take k) := ⟨_, rfl⟩
          have hL1 : x ≤ L := by omega
          have hL2 : L ≤ 30 := by omega
          have hk4 : (k : Int) ≤ 4 := by omega
          have hk4' : k ≤ 4 := by omega
          rw [← hL]
          have HX := Lib.hid hx
          have HL := Lib.hid hL
          clear hx hL hge hsk hsl
          go_wp2_with fail
          go_loop [3, 6] (fun r q => ∃ j : Nat, (j : Int) + 1 ≤ x ∧ q = .int .i64 ((j : Int) + 1) ∧ r = .int .i64 (rankTo xs k + lesser (4 - k) L j)) (fun _ q => (7 - intOf q).toNat)
          case atStart => exact ⟨0, by omega, rfl, by simp [lesser, sumTo]⟩
          case round =>
            obtain ⟨j, hj, rfl, rfl⟩ := hrel
            have hlb := lesser_bounds (4 - k) L j (by omega) (by omega)
            have hmb := many_bounds (4 - k) ((L - ((j : Int) + 1)).toNat) (by omega)
            by_cases hjx : (j : Int) + 1 < x
            · go_wp2_with (go_at_call 46; refine (spec_many (4 - k) _ _ _ (by omega) (by omega) (by omega) (by omega)).mono ?_; rintro e w' ⟨rfl, rfl⟩)
              go_round
              case rel => exact ⟨j + 1, by omega, by go_num, by rw [lesser_succ]; rw [show (L - ((j : Int) + 1)).toNat = L.toNat - (j + 1) by omega]; go_num⟩
              case measure => simp [intOf]; omega
            · go_wp2_with fail
              go_round
              case rel =>
                refine ⟨k + 1, by omega, by go_num, ?_, ?_⟩
                · simp only [rankTo]
                  rw [← HL.out, ← HX.out, show x.toNat - 1 = j by omega]
                · rw [sumL_succ _ _ hlt, ← HX.out, HL.out]
                  go_num
              case measure => simp [intOf]; omega
        · obtain rfl : k = xs.length := by omega
          go_wp2_with fail
          go_ret
          exact ⟨ret_int HE.out, rfl⟩

set_option maxHeartbeats 1000000 in
theorem implRank {w : World} {v : Value} {xs : List Int} (h : Ints w v xs) :
    Calls Try.prog 18 #[v] w fun e w' => e = .returned (.int .i64 (rankOf xs)) ∧ Below w.heap.size w w' := by
  have k1 := h
  obtain ⟨a, cap, rfl, hl, hc⟩ := k1
  cases hv : groupsB xs 1 5
  · have HE := Lib.hid (show rankOf xs = -1 by simp [rankOf, hv])
    have HB := Lib.hid (show beatsOf xs = -1 by simp [beatsOf, hv])
    go_enter Try.func18, Try.ntmps18
    go_wp2_with (go_at_call 21; refine (implBeats h).mono ?_)
    rintro e w1 ⟨rfl, b1⟩
    rw [HB.out]
    go_wp2_with fail
    go_ret
    exact ⟨ret_int HE.out.symm, b1⟩
  · have HE := Lib.hid (show rankTo xs xs.length = rankOf xs by simp [rankOf, hv])
    have HB := Lib.hid (show beatsOf xs = sumL xs by simp [beatsOf, hv])
    obtain ⟨hok, h1, h5⟩ := groupsB_ok hv
    have hsl := sumL_bounds hok xs.length (Nat.le_refl _)
    rw [List.take_length] at hsl
    have HO := Lib.hid hok
    rcases hc with rfl | ⟨b, o, rfl, hb, hcell⟩
    · simp at h1
    · have HC := Lib.hid hcell
      clear hcell hok
      go_enter Try.func18, Try.ntmps18
      go_wp2_with (go_at_call 21; refine (implBeats h).mono ?_)
      rintro e w1 ⟨rfl, b1⟩
      rw [HB.out]
      go_wp2_with fail
      go_loop [3, 4, 5, 6, 7, 14] (fun l r _ _ _ i => ∃ k : Nat, k ≤ xs.length ∧ i = .int .i64 k ∧ r = .int .i64 (rankTo xs k) ∧ l = .int .i64 (sumL xs - sumL (xs.take k))) (fun _ _ _ _ _ i => xs.length - (intOf i).toNat)
      case atStart => exact ⟨0, by omega, rfl, rfl, by simp [sumL]⟩
      case round =>
        obtain ⟨k, hk, rfl, rfl, rfl⟩ := hrel
        have hrb := rankTo_bounds xs HO.out (by omega) k hk
        by_cases hlt : k < xs.length
        · obtain ⟨x, hx⟩ : ∃ x, x = xs.getD k 0 := ⟨_, rfl⟩
          have hc1 : w1.cell? ⟨b, o + k, none⟩ = some (.int .i64 x) := by rw [hx]; exact (b1.cell (p := ⟨b, o + k, none⟩) hb).trans (HC.out k hlt)
          have hb2 := okGroups_get HO.out k hlt
          have hge := left_ge HO.out k hlt
          have hsk := sumL_bounds HO.out k hk
          rw [← hx] at hb2 hge
          obtain ⟨L, hL⟩ : ∃ L, L = sumL xs - sumL (xs.take k) := ⟨_, rfl⟩
          have hL1 : x ≤ L := by omega
          have hL2 : L ≤ 30 := by omega
          have hk4 : (k : Int) ≤ 4 := by omega
          have hk4' : k ≤ 4 := by omega
          rw [← hL]
          have HX := Lib.hid hx
          have HL := Lib.hid hL
          clear hx hL hge hsk hsl
          go_wp2_with fail
          go_loop [4, 7] (fun r q => ∃ j : Nat, (j : Int) + 1 ≤ x ∧ q = .int .i64 ((j : Int) + 1) ∧ r = .int .i64 (rankTo xs k + lesser (4 - k) L j)) (fun _ q => (7 - intOf q).toNat)
          case atStart => exact ⟨0, by omega, rfl, by simp [lesser, sumTo]⟩
          case round =>
            obtain ⟨j, hj, rfl, rfl⟩ := hrel
            have hlb := lesser_bounds (4 - k) L j (by omega) (by omega)
            have hmb := many_bounds (4 - k) ((L - ((j : Int) + 1)).toNat) (by omega)
            by_cases hjx : (j : Int) + 1 < x
            · go_wp2_with (go_at_call 44; refine (impl_many (4 - k) _ _ _ (by omega) (by omega) (by omega) (by omega)).mono ?_; rintro e w' ⟨rfl, rfl⟩)
              go_round
              case rel => exact ⟨j + 1, by omega, by go_num, by rw [lesser_succ]; rw [show (L - ((j : Int) + 1)).toNat = L.toNat - (j + 1) by omega]; go_num⟩
              case measure => simp [intOf]; omega
            · go_wp2_with fail
              go_round
              case rel =>
                refine ⟨k + 1, by omega, by go_num, ?_, ?_⟩
                · simp only [rankTo]
                  rw [← HL.out, ← HX.out, show x.toNat - 1 = j by omega]
                · rw [sumL_succ _ _ hlt, ← HX.out, HL.out]
                  go_num
              case measure => simp [intOf]; omega
        · obtain rfl : k = xs.length := by omega
          go_wp2_with fail
          go_ret
          exact ⟨ret_int HE.out, b1⟩

end Go.Proofs.Ytmpelpmlmmfalaa
