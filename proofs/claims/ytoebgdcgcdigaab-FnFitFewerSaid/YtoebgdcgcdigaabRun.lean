/-
  What the model's and the program's PathRun return: 'runOf', for all starts and at most 1048576 runs.
-/
import Derived.Test.YtoebgdcgcdigaabFit0
namespace Go.Proofs.Ytoebgdcgcdigaab
open Go.RowKit Go.Sort

theorem OwnPath.form {w : World} {base : Nat} {v : Value} {p : List Int × List Int} (h : OwnPath w base v p) : ∃ a n c a' n' c', v = .agg #[.slice a n c, .slice a' n' c'] := by
  obtain ⟨u1, u2, rfl, o1, o2, _⟩ := h
  obtain ⟨a, n, c, rfl⟩ := own_is_slice o1
  obtain ⟨a', n', c', rfl⟩ := own_is_slice o2
  exact ⟨_, _, _, _, _, _, rfl⟩

set_option maxHeartbeats 1000000 in
theorem specRuns {w : World} {v : Value} {rs : List Int} (h : Ints w v rs) :
    Calls Try.prog 46 #[.int .i64 rs.length, v] w fun e w' => e = .returned (.bool (decide (GoodTo rs rs.length ∧ 1 ≤ (rs.length : Int) ∧ (rs.length : Int) ≤ 5))) ∧ w = w' := by
  obtain ⟨a, cap, rfl, hl, hc⟩ := h
  rcases hc with rfl | ⟨b, o, rfl, hb, hcell⟩
  · go_enter Try.func46, Try.ntmps46
    go_wp2_with fail
    refine wp_loop_rounds 1 ?_
    rw [rounds_succ]
    go_wp2_with fail
    refine (in_no _ _ _ _ (by simp)).mono ?_
    rintro e w' ⟨rfl, rfl⟩
    go_wp2_with fail
    go_ret
    exact ⟨ret_bool (decide_eq_false (fun q => by have := q.2.1; simp at this)).symm, rfl⟩
  · have HC := Lib.hid hcell
    have hl' : (rs.length : Int) ≤ 1048576 := by omega
    clear hcell
    go_enter Try.func46, Try.ntmps46
    go_wp2_with fail
    go_loop [5] (fun i => ∃ k : Nat, k ≤ rs.length ∧ i = .int .i64 k ∧ Hid (GoodTo rs k)) (fun i => rs.length - (intOf i).toNat)
    case atStart => exact ⟨0, by omega, rfl, GoodTo.zero _⟩
    case round =>
      obtain ⟨k, hk, rfl, hg⟩ := hrel
      by_cases hlt : k < rs.length
      · have ec := HC.out k hlt
        obtain ⟨r, hr⟩ : ∃ r, r = rs.getD k 0 := ⟨_, rfl⟩
        rw [← hr] at ec
        have R := Lib.hid hr
        have hki : (k : Int) < (rs.length : Int) := by omega
        clear hr
        by_cases h1 : 1 ≤ r ∧ r ≤ 100
        · have HS := Lib.hid (hg.out.succ (by rw [← R.out]; exact h1))
          have H1 := Lib.hid h1
          clear h1
          go_wp2_with (go_at_call 41; refine (in_yes _ _ _ _ H1.out.1 H1.out.2).mono ?_; rintro e w' ⟨rfl, rfl⟩)
          go_round
          case rel => exact ⟨k + 1, by omega, by go_num, HS⟩
          case measure => simp [intOf]; omega
        · have HN := Lib.hid (show decide (GoodTo rs rs.length ∧ 1 ≤ (rs.length : Int) ∧ (rs.length : Int) ≤ 5) = false from decide_eq_false (fun q => h1 (by rw [R.out]; exact q.1 k hlt)))
          have H1 := Lib.hid (show r < 1 ∨ 100 < r by omega)
          clear h1
          go_wp2_with (go_at_call 41; refine (in_no _ _ _ _ H1.out).mono ?_; rintro e w' ⟨rfl, rfl⟩)
          go_ret
          exact ⟨ret_bool HN.out.symm, rfl⟩
      · obtain rfl : k = rs.length := by omega
        by_cases h5 : 1 ≤ (rs.length : Int) ∧ (rs.length : Int) ≤ 5
        · have HN := Lib.hid (show decide (GoodTo rs rs.length ∧ 1 ≤ (rs.length : Int) ∧ (rs.length : Int) ≤ 5) = true from decide_eq_true ⟨hg.out, h5⟩)
          have H5 := Lib.hid h5
          clear h5
          go_wp2_with (go_at_call 41; refine (in_yes _ _ _ _ H5.out.1 H5.out.2).mono ?_; rintro e w' ⟨rfl, rfl⟩)
          go_ret
          exact ⟨ret_bool HN.out.symm, rfl⟩
        · have HN := Lib.hid (show decide (GoodTo rs rs.length ∧ 1 ≤ (rs.length : Int) ∧ (rs.length : Int) ≤ 5) = false from decide_eq_false (fun q => h5 q.2))
          have H5 := Lib.hid (show (rs.length : Int) < 1 ∨ 5 < (rs.length : Int) by omega)
          clear h5
          go_wp2_with (go_at_call 41; refine (in_no _ _ _ _ H5.out).mono ?_; rintro e w' ⟨rfl, rfl⟩)
          go_ret
          exact ⟨ret_bool HN.out.symm, rfl⟩

end Go.Proofs.Ytoebgdcgcdigaab
