/-
  The code with a rank, by the model and by the program: the walks. For every number of beats and every rank.
-/
import Derived.Test.YtmpelpmlmmfalaaNths
namespace Go.Proofs.Ytmpelpmlmmfalaa
open Go.RowKit

theorem nthOk_no {n r : Int} (h : nthOk n r = false) : r < 0 ∨ codeMany n ≤ r := by
  by_cases h0 : 0 ≤ r
  · by_cases h1 : r < codeMany n
    · simp [nthOk, h0, h1] at h
    · exact .inr (by omega)
  · exact .inl (by omega)

set_option maxHeartbeats 1000000 in
theorem implNth (n r : Int) (w : World) : Calls Try.prog 17 #[.int .i64 n, .int .i64 r] w (MadeIntsB w (nthOf n r) (nthOk n r)) := by
  cases hv : nthOk n r
  · have e1 : nthOf n r = [] := by simp [nthOf, hv]
    rw [e1]
    clear e1
    by_cases h0 : r < 0
    · go_enter Try.func17, Try.ntmps17
      go_wp2_with fail
      go_ret2
      exact ⟨_, rfl, own_nil w, Below.refl _ _⟩
    · have h0' : 0 ≤ r := by omega
      have h1 : codeMany n ≤ r := (nthOk_no hv).resolve_left h0
      clear h0
      go_enter Try.func17, Try.ntmps17
      go_wp2_with (go_at_call 15; refine (impl_codeMany _ _).mono ?_; rintro e w' ⟨rfl, rfl⟩)
      go_ret2
      exact ⟨_, rfl, own_nil w, Below.refl _ _⟩
  · have e1 : nthOf n r = nthL 5 n.toNat r := by simp [nthOf, hv]
    rw [e1]
    clear e1
    obtain ⟨h0, hn1, hn30, hr⟩ := nthOk_is hv
    have hcm : r < codeMany n := by simp only [nthOk, Bool.and_eq_true, decide_eq_true_eq] at hv; exact hv.2
    have HR := Lib.hid (NthRel.start hv w)
    obtain ⟨b0, hb0⟩ := Int.eq_ofNat_of_zero_le (show 0 ≤ n by omega)
    have hN : n.toNat = b0 := by omega
    rw [hN] at HR ⊢
    obtain ⟨i0, hi, hz0, hz1, hz2⟩ := info_parts info_int
    clear hr hv
    subst hb0
    go_enter Try.func17, Try.ntmps17
    go_wp2_with (go_at_call 15; refine (impl_codeMany _ _).mono ?_; rintro e w' ⟨rfl, rfl⟩)
    go_loopw [0, 1, 6, 7, 8] (fun N Q v _ _ wr => ∃ (j b : Nat) (q : Int), N = .int .i64 b ∧ Q = .int .i64 q ∧ NthRel w (b0 : Int) r j b q v wr) (fun N _ _ _ _ _ => (intOf N).toNat)
    case atStart => exact ⟨0, b0, r, rfl, rfl, by have := HR.out; rw [Int.toNat_natCast] at *; exact this⟩
    case round =>
      obtain ⟨j, b, q, rfl, rfl, hrel⟩ := hrel
      have HREL := Lib.hid hrel
      obtain ⟨a, c, rfl⟩ := hrel.value
      obtain ⟨hown, hbel, hj5, hb30, hq0, hq1⟩ := hrel.parts
      have hsz := hbel.size
      by_cases hb : 0 < b
      · have hj4 := hrel.room hb
        have hq7 : q ≤ 7776 := by have := (many_bounds (5 - j) b (by omega)).2; omega
        rw [show 5 - j = (4 - j) + 1 by omega] at hq1
        have HG := Lib.hid (nthG_is (4 - j) b q hb hq0 hq1)
        have HQ := Lib.hid hq1
        clear hq1 hrel
        obtain ⟨k, hk⟩ : ∃ k, k = nthG (4 - j) b q := ⟨_, rfl⟩
        obtain ⟨s, hs⟩ : ∃ s, s = sumTo (part (4 - j) b) (k - 1) := ⟨_, rfl⟩
        have hk1 : 1 ≤ k ∧ k ≤ min b 6 ∧ 0 ≤ s ∧ s ≤ q := by
          have := HG.out
          rw [← hk, ← hs] at this
          exact ⟨this.1, this.2.1, by rw [hs]; exact sumTo_nonneg (part_nonneg _ _) _, this.2.2.1⟩
        obtain ⟨hk1, hk6, hs0, hsq⟩ := hk1
        have hkb : (k : Int) ≤ (b : Int) := by omega
        have hgr := nthGroup (m := 5 - (j : Int)) wr (by omega) hb (by omega) hq0 HQ.out (by omega) (by omega)
        rw [← hk, ← hs] at hgr
        have HGR := Lib.hid hgr
        have HK := Lib.hid hk
        have HS := Lib.hid hs
        have hbi : (0 : Int) < (b : Int) := by omega
        clear hgr hk hs
        go_wp2_with (first | (go_at_call 47; refine HGR.out.mono ?_; rintro e w' ⟨rfl, rfl⟩) | (at_builtin; refine wpList_append_own _ rfl _ _ 25 rfl w.heap.size 3 i0 (.int .i64 0) 1 8 Try.underlying25 hi hz0 hz1 hz2 rfl (by decide) _ _ _ rfl (hown.alloc _) ⟨wr.heap.size, 0, none⟩ 1 1 [.int .i64 k] rfl rfl ?c1 ?c2 ?c3 ?c4 ?c5 ?_))
        case c1 => exact cell_one_new _ _ _
        case c2 => intro u hu; simp at hu; subst hu; rfl
        case c3 => simp only [maxLen]; omega
        case c4 => omega
        case c5 => simp; omega
        intro v' w2 hown' hgrow _
        have HB := Lib.hid ((hbel.alloc (by omega) (.cells #[.int .i64 k] 3)).grown hgrow (by simp; omega) (fun g hg => (hown.lt g hg).1))
        have HO := Lib.hid hown'
        clear hown' hgrow hown hbel
        go_wp2_with fail
        go_roundw
        case rel =>
          refine ⟨j + 1, b - k, q - s, by go_num, rfl, ?_⟩
          have ho := HO.out
          rw [← List.map_take] at ho
          have := NthRel.step HREL.out hb HK.out.symm (by simpa using ho) HB.out
          rw [← HS.out] at this
          exact this
        case measure => simp [intOf]; omega
      · obtain rfl : b = 0 := by omega
        have hd := hrel.done
        go_wp2_with fail
        go_ret2
        rw [Int.toNat_natCast] at hd
        exact ⟨_, rfl, hd.1, hd.2⟩

set_option maxHeartbeats 1000000 in
theorem specNth (n r : Int) (w : World) : Calls Try.prog 24 #[.int .i64 n, .int .i64 r] w (MadeIntsB w (nthOf n r) (nthOk n r)) := by
  have hcb := codeMany_bounds n
  cases hv : nthOk n r
  · have e1 : nthOf n r = [] := by simp [nthOf, hv]
    rw [e1]
    clear e1
    have HN := Lib.hid (show r < 0 ∨ codeMany n - 1 < r by have := nthOk_no hv; omega)
    go_enter Try.func24, Try.ntmps24
    go_wp2_with (first | (go_at_call 16; refine (spec_codeMany _ _).mono ?_; rintro e w' ⟨rfl, rfl⟩) | (go_at_call 45; refine (in_no _ _ _ _ HN.out).mono ?_; rintro e w' ⟨rfl, rfl⟩))
    go_ret2
    exact ⟨_, rfl, own_empty w, (Below.refl _ _).alloc (Nat.le_refl _) _⟩
  · have e1 : nthOf n r = nthL 5 n.toNat r := by simp [nthOf, hv]
    rw [e1]
    clear e1
    obtain ⟨h0, hn1, hn30, hr⟩ := nthOk_is hv
    have hcm : r < codeMany n := by simp only [nthOk, Bool.and_eq_true, decide_eq_true_eq] at hv; exact hv.2
    have HR := Lib.hid (NthRel.start hv w)
    obtain ⟨b0, hb0⟩ := Int.eq_ofNat_of_zero_le (show 0 ≤ n by omega)
    have hN : n.toNat = b0 := by omega
    rw [hN] at HR ⊢
    obtain ⟨i0, hi, hz0, hz1, hz2⟩ := info_parts info_int
    clear hr hv
    subst hb0
    go_enter Try.func24, Try.ntmps24
    go_wp2_with (first | (go_at_call 16; refine (spec_codeMany _ _).mono ?_; rintro e w' ⟨rfl, rfl⟩) | (go_at_call 45; refine (in_yes _ _ _ _ (by omega) (by omega)).mono ?_; rintro e w' ⟨rfl, rfl⟩))
    go_loopw [0, 1, 6, 7] (fun N Q v _ wr => ∃ (j b : Nat) (q : Int), N = .int .i64 b ∧ Q = .int .i64 q ∧ NthRel w (b0 : Int) r j b q v wr) (fun N _ _ _ _ => (intOf N).toNat)
    case atStart => exact ⟨0, b0, r, rfl, rfl, by have := HR.out; rw [Int.toNat_natCast] at *; exact this⟩
    case round =>
      obtain ⟨j, b, q, rfl, rfl, hrel⟩ := hrel
      have HREL := Lib.hid hrel
      obtain ⟨a, c, rfl⟩ := hrel.value
      obtain ⟨hown, hbel, hj5, hb30, hq0, hq1⟩ := hrel.parts
      have hsz := hbel.size
      by_cases hb : 0 < b
      · have hj4 := hrel.room hb
        have hq7 : q ≤ 7776 := by have := (many_bounds (5 - j) b (by omega)).2; omega
        rw [show 5 - j = (4 - j) + 1 by omega] at hq1
        have HG := Lib.hid (nthG_is (4 - j) b q hb hq0 hq1)
        have HQ := Lib.hid hq1
        clear hq1 hrel
        obtain ⟨k, hk⟩ : ∃ k, k = nthG (4 - j) b q := ⟨_, rfl⟩
        obtain ⟨s, hs⟩ : ∃ s, s = sumTo (part (4 - j) b) (k - 1) := ⟨_, rfl⟩
        have hk1 : 1 ≤ k ∧ k ≤ min b 6 ∧ 0 ≤ s ∧ s ≤ q := by
          have := HG.out
          rw [← hk, ← hs] at this
          exact ⟨this.1, this.2.1, by rw [hs]; exact sumTo_nonneg (part_nonneg _ _) _, this.2.2.1⟩
        obtain ⟨hk1, hk6, hs0, hsq⟩ := hk1
        have hkb : (k : Int) ≤ (b : Int) := by omega
        have HK := Lib.hid hk
        have HS := Lib.hid hs
        have hbi : (0 : Int) < (b : Int) := by omega
        clear hk hs
        go_wp2_with fail
        go_loop [1, 7] (fun Q K => ∃ d : Nat, d + 1 ≤ k ∧ K = .int .i64 ((d : Int) + 1) ∧ Q = .int .i64 (q - sumTo (part (4 - j) b) d) ∧ sumTo (part (4 - j) b) d ≤ q) (fun _ K => (7 - intOf K).toNat)
        case atStart => exact ⟨0, by omega, rfl, by simp [sumTo], hq0⟩
        case round =>
          obtain ⟨d, hd, rfl, rfl, hle⟩ := hrel
          have hp := part_bounds (4 - j) b d (by omega) (by omega)
          have hp' : 0 ≤ sumTo (part (4 - j) b) d ∧ sumTo (part (4 - j) b) d ≤ 46656 := hp
          have hmb := many_bounds (4 - j) (b - (d + 1)) (by omega)
          have hdb : (d : Int) + 1 ≤ (b : Int) := by omega
          have hd6 : (d : Int) + 1 ≤ 6 := by omega
          have hpe : part (4 - j) b (d + 1) = many (4 - j) (b - (d + 1)) := rfl
          have hse : sumTo (part (4 - j) b) (d + 1) = sumTo (part (4 - j) b) d + part (4 - j) b (d + 1) := rfl
          have HSE := Lib.hid hse
          have HPE := Lib.hid hpe
          clear hp hse hpe
          by_cases hdk : d + 1 = k
          · have hlt : q - sumTo (part (4 - j) b) d < many (4 - j) (b - (d + 1)) := by
              have h4 := HG.out.2.2.2
              rw [← HK.out, ← hdk, HSE.out, HPE.out] at h4
              omega
            have HDK := Lib.hid hdk
            clear hdk
            have hown2 := hown
            go_wp2_with (first | (go_at_call 46; refine (spec_many (4 - j) _ _ _ (by omega) (by omega) (by omega) (by omega)).mono ?_; rintro e w' ⟨rfl, rfl⟩) | (at_builtin; refine wpList_append_own _ rfl _ _ 25 rfl w.heap.size 3 i0 (.int .i64 0) 1 8 Try.underlying25 hi hz0 hz1 hz2 rfl (by decide) _ _ _ rfl (hown.alloc _) ⟨wr.heap.size, 0, none⟩ 1 1 [.int .i64 ((d : Int) + 1)] rfl rfl ?c1 ?c2 ?c3 ?c4 ?c5 ?_))
            case c1 => exact cell_one_new _ _ _
            case c2 => intro u hu; simp at hu; subst hu; rfl
            case c3 => simp only [maxLen]; omega
            case c4 => omega
            case c5 => simp; omega
            intro v' w2 hown' hgrow _
            have HB := Lib.hid ((hbel.alloc (by omega) (.cells #[.int .i64 ((d : Int) + 1)] 3)).grown hgrow (by simp; omega) (fun g hg => (hown.lt g hg).1))
            have HO := Lib.hid hown'
            clear hown' hgrow hown hbel hown2
            go_wp2_with fail
            go_roundw
            case rel =>
              refine ⟨j + 1, b - k, q - s, by have := HDK.out; go_num, by rw [HS.out, ← HDK.out]; rfl, ?_⟩
              have ho := HO.out
              rw [← List.map_take] at ho
              have := NthRel.step (k := k) HREL.out hb HK.out.symm (by rw [← HDK.out]; simpa using ho) HB.out
              rw [← HS.out] at this
              exact this
            case measure => have := HDK.out; simp [intOf]; omega
          · have hge : many (4 - j) (b - (d + 1)) ≤ q - sumTo (part (4 - j) b) d := by
              have h3 := HG.out.2.2.1
              rw [← HK.out] at h3
              have h5 := sumTo_mono (part_nonneg (4 - j) b) (show d + 1 ≤ k - 1 by omega)
              rw [HSE.out, HPE.out] at h5
              omega
            go_wp2_with (go_at_call 46; refine (spec_many (4 - j) _ _ _ (by omega) (by omega) (by omega) (by omega)).mono ?_; rintro e w' ⟨rfl, rfl⟩)
            go_round
            case rel =>
              refine ⟨d + 1, by omega, by go_num, ?_, ?_⟩
              · rw [HSE.out, HPE.out]; go_num
              · rw [HSE.out, HPE.out]; omega
            case measure => simp [intOf]; omega
      · obtain rfl : b = 0 := by omega
        have hd := hrel.done
        go_wp2_with fail
        go_ret2
        rw [Int.toNat_natCast] at hd
        exact ⟨_, rfl, hd.1, hd.2⟩

end Go.Proofs.Ytmpelpmlmmfalaa
