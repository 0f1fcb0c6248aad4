/-
  Are a list counts; the sections without axles: the model's and the program's. For lists of at most 1048576 numbers.
-/
import Derived.Test.YtmdkfhbkdeoahaaCtrP
import Derived.Test.YtmdkfhbkdeoahaaTri
import Derived.Test.YtmdkfhbkdeoahaaResults
import Derived.IntWalk
import Derived.Deep.DeepCutAuto
import Derived.Maps.AppendAt
namespace Go.Proofs.Ytmdkfhbkdeoahaa
open Go.RowKit Go.Sort

set_option maxHeartbeats 400000 in
theorem circuits_is (n : Int) (w : World) :
    Calls Try.prog 35 #[.int .i64 n] w fun e w' => e = .returned (.bool (decide (1 ≤ n ∧ n ≤ 8))) ∧ w = w' := by
  obtain ⟨t, ht⟩ : ∃ t, t = decide (1 ≤ n ∧ n ≤ 8) := ⟨_, rfl⟩
  rw [← ht]
  by_cases h1 : n < 1
  · have E := Lib.hid (show t = false by rw [ht]; exact decide_eq_false (by omega))
    clear ht
    go_enter Try.func35, Try.ntmps35
    go_wp2_with fail
    go_ret
    exact ⟨ret_bool E.out.symm, rfl⟩
  · by_cases h2 : 8 < n
    · have E := Lib.hid (show t = false by rw [ht]; exact decide_eq_false (by omega))
      have h3 : decide (n ≤ 8) = false := decide_eq_false (by omega)
      clear ht
      go_enter Try.func35, Try.ntmps35
      go_wp2_with fail
      go_ret
      exact ⟨ret_bool E.out.symm, rfl⟩
    · have E := Lib.hid (show t = true by rw [ht]; exact decide_eq_true (by omega))
      clear ht
      go_enter Try.func35, Try.ntmps35
      go_wp2_with fail
      go_ret
      exact ⟨ret_bool E.out.symm, rfl⟩

set_option maxHeartbeats 800000 in
theorem implCounts {w : World} {v : Value} {cs : List Int} (h : Ints w v cs) :
    Calls Try.prog 32 #[v] w fun e w' => e = .returned (.bool (cntB cs)) ∧ w = w' := by
  obtain ⟨a, cap, rfl, hl, hc⟩ := h
  have hl' : (cs.length : Int) ≤ 1048576 := by omega
  have CV := Lib.hid (circuits_is cs.length)
  by_cases hn : 1 ≤ (cs.length : Int) ∧ (cs.length : Int) ≤ 8
  · rw [decide_eq_true hn] at CV
    obtain ⟨hn1, hn8⟩ := hn
    have E := Lib.hid (cntB_is (cs := cs) (by omega))
    rcases hc with rfl | ⟨b, o, rfl, hb, hcell⟩
    · simp at hn1
    have HC := Lib.hid hcell
    clear hcell
    go_enter Try.func32, Try.ntmps32
    go_wp2_with (go_at_call 35; refine (CV.out _).mono ?_; rintro e w' ⟨rfl, rfl⟩)
    go_loop [4, 11] (fun _ i => ∃ k : Nat, k ≤ cs.length ∧ i = .int .i64 k ∧ Hid (∀ j, j < k → 0 ≤ cs.getD j 0 ∧ cs.getD j 0 ≤ 50)) (fun _ i => cs.length - (intOf i).toNat)
    case atStart => exact ⟨0, by omega, rfl, Lib.hid (fun j hj => by omega)⟩
    case round =>
      obtain ⟨k, hk, rfl, HK⟩ := hrel
      by_cases hlt : k < cs.length
      · have hki : (k : Int) < (cs.length : Int) := by omega
        obtain ⟨x, hx⟩ : ∃ x, x = cs.getD k 0 := ⟨_, rfl⟩
        have hc1 : w.cell? ⟨b, o + k, none⟩ = some (.int .i64 x) := by rw [hx]; exact HC.out k hlt
        have HX := Lib.hid hx
        clear hx
        by_cases h1 : x < 0
        · have N := Lib.hid (show cntB cs = false by rw [E.out]; exact axB_no hlt (by rw [← HX.out]; omega))
          go_wp2_with fail
          go_ret
          exact ⟨ret_bool N.out.symm, rfl⟩
        · by_cases h2 : 50 < x
          · have N := Lib.hid (show cntB cs = false by rw [E.out]; exact axB_no hlt (by rw [← HX.out]; omega))
            go_wp2_with fail
            go_ret
            exact ⟨ret_bool N.out.symm, rfl⟩
          · have HN := Lib.hid (show ∀ j, j < k + 1 → 0 ≤ cs.getD j 0 ∧ cs.getD j 0 ≤ 50 from fun j hj => by
              by_cases e : j = k
              · subst e; rw [← HX.out]; omega
              · exact HK.out j (by omega))
            go_wp2_with fail
            go_round
            case rel => exact ⟨k + 1, by omega, by go_num, HN⟩
            case measure => simp [intOf]; omega
      · obtain rfl : k = cs.length := by omega
        have N := Lib.hid (show cntB cs = true by rw [E.out]; exact axB_yes HK.out)
        go_wp2_with fail
        go_ret
        exact ⟨ret_bool N.out.symm, rfl⟩
  · rw [decide_eq_false hn] at CV
    have E := Lib.hid (cntB_long (cs := cs) (by omega))
    clear hn hc
    go_enter Try.func32, Try.ntmps32
    go_wp2_with (go_at_call 35; refine (CV.out _).mono ?_; rintro e w' ⟨rfl, rfl⟩)
    go_ret
    exact ⟨ret_bool E.out.symm, rfl⟩

set_option maxHeartbeats 1000000 in
theorem specCounts {w : World} {v : Value} {cs : List Int} (h : Ints w v cs) :
    Calls Try.prog 29 #[v] w fun e w' => e = .returned (.bool (cntB cs)) ∧ Below w.heap.size w w' := by
  obtain ⟨a, cap, rfl, hl, hc⟩ := h
  have hl' : (cs.length : Int) ≤ 1048576 := by omega
  have IL := Lib.hid (in_is cs.length 1 8)
  rcases hc with rfl | ⟨b, o, rfl, hb, hcell⟩
  · have E := Lib.hid (cntB_long (cs := []) (.inl (by simp)))
    go_enter Try.func29, Try.ntmps29
    go_wp2_with fail
    refine wp_loop_rounds 1 ?_
    rw [rounds_succ]
    go_wp2_with (go_at_call 30; refine (IL.out _).mono ?_; rintro e w' ⟨rfl, rfl⟩)
    go_ret
    exact ⟨ret_bool E.out.symm, Below.refl _ _⟩
  have HC := Lib.hid hcell
  clear hcell
  go_enter Try.func29, Try.ntmps29
  go_wp2_with fail
  go_loopw [3] (fun i wr => ∃ k : Nat, k ≤ cs.length ∧ i = .int .i64 k ∧ Hid (∀ j, j < k → 0 ≤ cs.getD j 0 ∧ cs.getD j 0 ≤ 50) ∧ Below w.heap.size w wr) (fun i _ => cs.length - (intOf i).toNat)
  case atStart => exact ⟨0, by omega, rfl, Lib.hid (fun j hj => by omega), Below.refl _ _⟩
  case round =>
    obtain ⟨k, hk, rfl, HK, hbel⟩ := hrel
    by_cases hlt : k < cs.length
    · have hki : (k : Int) < (cs.length : Int) := by omega
      obtain ⟨x, hx⟩ : ∃ x, x = cs.getD k 0 := ⟨_, rfl⟩
      have hc1 : wr.cell? ⟨b, o + k, none⟩ = some (.int .i64 x) := by rw [hx]; exact (hbel.cell (p := ⟨b, o + k, none⟩) hb).trans (HC.out k hlt)
      have HX := Lib.hid hx
      have IX := Lib.hid (in_is x 0 50)
      obtain ⟨t, ht⟩ : ∃ t, t = decide (0 ≤ x ∧ x ≤ 50) := ⟨_, rfl⟩
      rw [← ht] at IX
      clear hx
      cases t
      · have N := Lib.hid (cntB_not (axB_no hlt (by rw [← HX.out]; exact of_decide_eq_false ht.symm)))
        clear ht
        go_wp2_with (go_at_call 30; refine (IX.out _).mono ?_; rintro e w' ⟨rfl, rfl⟩)
        go_ret
        exact ⟨ret_bool N.out.symm, hbel⟩
      · have HN := Lib.hid (show ∀ j, j < k + 1 → 0 ≤ cs.getD j 0 ∧ cs.getD j 0 ≤ 50 from fun j hj => by
          by_cases e : j = k
          · subst e; rw [← HX.out]; exact of_decide_eq_true ht.symm
          · exact HK.out j (by omega))
        clear ht
        go_wp2_with (go_at_call 30; refine (IX.out _).mono ?_; rintro e w' ⟨rfl, rfl⟩)
        go_roundw
        case rel => exact ⟨k + 1, by omega, by go_num, HN, hbel⟩
        case measure => simp [intOf]; omega
    · obtain rfl : k = cs.length := by omega
      have N := cntB_end HK.out
      obtain ⟨t, ht⟩ : ∃ t, t = decide (1 ≤ (cs.length : Int) ∧ (cs.length : Int) ≤ 8) := ⟨_, rfl⟩
      rw [← ht] at IL N
      have N := Lib.hid N
      clear ht
      go_wp2_with (go_at_call 30; refine (IL.out _).mono ?_; rintro e w' ⟨rfl, rfl⟩)
      go_ret
      exact ⟨ret_bool N.out.symm, hbel⟩

end Go.Proofs.Ytmdkfhbkdeoahaa
