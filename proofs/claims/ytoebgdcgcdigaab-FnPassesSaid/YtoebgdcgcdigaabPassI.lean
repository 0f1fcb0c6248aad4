/-
  How often trains pass one another, by the program: 'passesOf', for every number of sections and all lists of at most 1048576 paths.
-/
import Derived.Test.YtoebgdcgcdigaabPass
namespace Go.Proofs.Ytoebgdcgcdigaab
open Go.RowKit Go.Sort

set_option maxHeartbeats 4000000 in
theorem implPasses {w : World} {v : Value} {n : Int} {ps : List (List Int × List Int)} (h : Paths w v ps) :
    Calls Try.prog 9 #[.int .i64 n, v] w fun e w' => e = .returned (.int .i64 (passesOf n ps)) ∧ Below w.heap.size w w' := by
  have hh := h
  obtain ⟨a, cap, rfl, hl, -⟩ := h
  have SV := Lib.hid (implPaths (n := n) hh)
  cases hp : pathsB n ps
  · have HN := Lib.hid (passesOf_no hp)
    rw [hp] at SV
    clear hp hh
    go_enter Try.func9, Try.ntmps9
    go_wp2_with (go_at_call 27; refine SV.out.mono ?_)
    rintro e w1 ⟨rfl, b1⟩
    go_wp2_with fail
    go_ret
    exact ⟨ret_int HN.out.symm, b1⟩
  · rw [hp] at SV
    obtain ⟨⟨hn1, hn5⟩, h8, _⟩ := pathsB_is hp
    obtain ⟨m, rfl⟩ : ∃ m : Nat, n = (m : Int) + 1 := ⟨(n - 1).toNat, by omega⟩
    have HN := Lib.hid (show passesOf ((m : Int) + 1) ps = passI1 ps m by rw [passesOf_yes hp]; congr 1; omega)
    have HP := Lib.hid hp
    have HH := Lib.hid (fun (i : Nat) (hi : i < ps.length) => paths_at hh hi)
    clear hp hh
    go_enter Try.func9, Try.ntmps9
    go_wp2_with (go_at_call 27; refine SV.out.mono ?_)
    rintro e w1 ⟨rfl, b1⟩
    go_wp2_with fail
    go_loopw [5, 6] (fun r k wr => ∃ k' : Nat, k' ≤ m ∧ k = .int .i64 ((k' : Int) + 1) ∧ r = .int .i64 (passI1 ps k') ∧ Below w.heap.size w wr) (fun _ k _ => m + 1 - (intOf k).toNat)
    case atStart => exact ⟨0, by omega, rfl, rfl, b1⟩
    case round =>
      obtain ⟨k, hk, rfl, rfl, hbel⟩ := hrel
      have hB1 := passI1_bounds ps h8 k
      obtain ⟨A, hA⟩ : ∃ A, A = passI1 ps k := ⟨_, rfl⟩
      rw [← hA] at hB1 ⊢
      have AA := Lib.hid hA
      clear hA
      by_cases hkm : k < m
      · have hkm' : (k : Int) + 1 < (m : Int) + 1 := by omega
        have hk1 : ((k : Nat) : Int) < (m : Int) + 1 := by omega
        have hk2 : (((k + 1 : Nat)) : Int) < (m : Int) + 1 := by omega
        have w3 : IntKind.i64.wrap ((k : Int) + 1 - 1) = k := by rw [IntWalk.i64_in _ (by omega)]; omega
        go_wp2_with fail
        go_loopw [5, 20] (fun r i wr => ∃ i' : Nat, i' ≤ ps.length ∧ i = .int .i64 i' ∧ r = .int .i64 (A + passI2 ps k i') ∧ Below w.heap.size w wr) (fun _ i _ => ps.length - (intOf i).toNat)
        case atStart => exact ⟨0, by omega, rfl, ret_val (by show A = A + 0; omega), hbel⟩
        case round =>
          obtain ⟨i, hi, rfl, rfl, hbi⟩ := hrel
          have hB2 := passI2_bounds ps k (i := i) (by omega)
          obtain ⟨B, hB⟩ : ∃ B, B = passI2 ps k i := ⟨_, rfl⟩
          rw [← hB] at hB2 ⊢
          have BB := Lib.hid hB
          clear hB
          by_cases hlt : i < ps.length
          · obtain ⟨b, o, rfl, hb, hat⟩ := HH.out i hlt
            have AT := Lib.hid hat
            have hil : (i : Int) < (ps.length : Int) := by omega
            clear hat
            go_wp2_with fail
            go_loopw [5, 24] (fun r j wr => ∃ j' : Nat, j' ≤ i ∧ j = .int .i64 j' ∧ r = .int .i64 (A + B + passI3 ps k i j') ∧ Below w.heap.size w wr) (fun _ j _ => i - (intOf j).toNat)
            case atStart => exact ⟨0, by omega, rfl, ret_val (by show A + B = A + B + 0; omega), hbi⟩
            case round =>
              obtain ⟨j, hj, rfl, rfl, hbk⟩ := hrel
              have hB3 := passI3_bounds ps k i j
              obtain ⟨C, hC⟩ : ∃ C, C = passI3 ps k i j := ⟨_, rfl⟩
              have hC1 : passI3 ps k i (j + 1) = C + passAt ps i j k := by rw [hC]; rfl
              rw [← hC] at hB3 ⊢
              have CC := Lib.hid hC
              clear hC
              by_cases hjk : j < i
              · have hjl : (j : Int) < (ps.length : Int) := by omega
                have hji : (j : Int) < (i : Int) := by omega
                have a1 := (AT.out i hlt).below hbk
                have a2 := (AT.out j (by omega)).below hbk
                have E1 := Lib.hid (fun d os => Calls.regrown_of (isAhead (k := k) (a1.below (below_regrown wr d os)) (a2.below (below_regrown wr d os)) (pathsB_at HP.out hlt) (pathsB_at HP.out (i := j) (by omega)) hk1))
                have E2 := Lib.hid (fun d os => Calls.regrown_of (isAhead (k := k + 1) (a1.below (below_regrown wr d os)) (a2.below (below_regrown wr d os)) (pathsB_at HP.out hlt) (pathsB_at HP.out (i := j) (by omega)) hk2))
                have hPA : passAt ps i j k = if (decide ((ps.getD i noPath).1.getD k 0 < (ps.getD j noPath).1.getD k 0)) != (decide ((ps.getD i noPath).1.getD (k + 1) 0 < (ps.getD j noPath).1.getD (k + 1) 0)) then 1 else 0 := rfl
                have hnat : ((k + 1 : Nat) : Int) = (k : Int) + 1 := rfl
                rw [hnat] at E2
                obtain ⟨t1, ht1⟩ : ∃ d, decide ((ps.getD i noPath).1.getD k 0 < (ps.getD j noPath).1.getD k 0) = d := ⟨_, rfl⟩
                obtain ⟨t2, ht2⟩ : ∃ d, decide ((ps.getD i noPath).1.getD (k + 1) 0 < (ps.getD j noPath).1.getD (k + 1) 0) = d := ⟨_, rfl⟩
                rw [ht1, ht2] at hPA
                rw [ht1] at E1
                rw [ht2] at E2
                clear ht1 ht2 a1 a2 hnat
                rcases t1 with _ | _ <;> rcases t2 with _ | _
                · have HC := Lib.hid (show passI3 ps k i (j + 1) = C by rw [hC1, hPA]; simp)
                  clear hPA hC1
                  go_wp2_with fail
                  refine wp_region_quiet_below (by kernel_rfl) (by kernel_rfl) ?_
                  repeat (go_big_quiet_step (first | (with_reducible exact E1.out _ _) | (with_reducible exact E2.out _ _)))
                  refine wpQuiet_nil ?_
                  intro _ hw'
                  obtain ⟨⟨dq, osq⟩, hw''⟩ := hw'
                  subst hw''
                  have BR := (below_regrown wr dq osq).mono hbk.size
                  go_wp2_with fail
                  go_roundw
                  case rel => exact ⟨j + 1, by omega, by go_num, ret_val (by rw [HC.out]), hbk.trans BR⟩
                  case measure => simp [intOf]; omega
                · have HC := Lib.hid (show passI3 ps k i (j + 1) = C + 1 by rw [hC1, hPA]; simp)
                  clear hPA hC1
                  have w5 : IntKind.i64.wrap (A + B + C + 1) = A + B + C + 1 := IntWalk.i64_in _ (by omega)
                  go_wp2_with fail
                  refine wp_region_quiet_below (by kernel_rfl) (by kernel_rfl) ?_
                  repeat (go_big_quiet_step (first | (with_reducible exact E1.out _ _) | (with_reducible exact E2.out _ _)))
                  refine wpQuiet_nil ?_
                  intro _ hw'
                  obtain ⟨⟨dq, osq⟩, hw''⟩ := hw'
                  subst hw''
                  have BR := (below_regrown wr dq osq).mono hbk.size
                  go_wp2_with fail
                  go_roundw
                  case rel => exact ⟨j + 1, by omega, by go_num, ret_val (by rw [HC.out]; omega), hbk.trans BR⟩
                  case measure => simp [intOf]; omega
                · have HC := Lib.hid (show passI3 ps k i (j + 1) = C + 1 by rw [hC1, hPA]; simp)
                  clear hPA hC1
                  have w5 : IntKind.i64.wrap (A + B + C + 1) = A + B + C + 1 := IntWalk.i64_in _ (by omega)
                  go_wp2_with fail
                  refine wp_region_quiet_below (by kernel_rfl) (by kernel_rfl) ?_
                  repeat (go_big_quiet_step (first | (with_reducible exact E1.out _ _) | (with_reducible exact E2.out _ _)))
                  refine wpQuiet_nil ?_
                  intro _ hw'
                  obtain ⟨⟨dq, osq⟩, hw''⟩ := hw'
                  subst hw''
                  have BR := (below_regrown wr dq osq).mono hbk.size
                  go_wp2_with fail
                  go_roundw
                  case rel => exact ⟨j + 1, by omega, by go_num, ret_val (by rw [HC.out]; omega), hbk.trans BR⟩
                  case measure => simp [intOf]; omega
                · have HC := Lib.hid (show passI3 ps k i (j + 1) = C by rw [hC1, hPA]; simp)
                  clear hPA hC1
                  go_wp2_with fail
                  refine wp_region_quiet_below (by kernel_rfl) (by kernel_rfl) ?_
                  repeat (go_big_quiet_step (first | (with_reducible exact E1.out _ _) | (with_reducible exact E2.out _ _)))
                  refine wpQuiet_nil ?_
                  intro _ hw'
                  obtain ⟨⟨dq, osq⟩, hw''⟩ := hw'
                  subst hw''
                  have BR := (below_regrown wr dq osq).mono hbk.size
                  go_wp2_with fail
                  go_roundw
                  case rel => exact ⟨j + 1, by omega, by go_num, ret_val (by rw [HC.out]), hbk.trans BR⟩
                  case measure => simp [intOf]; omega
              · obtain rfl : j = i := by omega
                have HS := Lib.hid (show A + passI2 ps k (j + 1) = A + B + C by show A + (passI2 ps k j + passI3 ps k j j) = _; rw [← BB.out, ← CC.out]; omega)
                clear hC1
                go_wp2_with fail
                go_roundw
                case rel => exact ⟨j + 1, by omega, by go_num, ret_val HS.out.symm, hbk⟩
                case measure => simp [intOf]; omega
          · obtain rfl : i = ps.length := by omega
            have HS := Lib.hid (show passI1 ps (k + 1) = A + B by show passI1 ps k + passI2 ps k ps.length = _; rw [← AA.out, ← BB.out])
            go_wp2_with fail
            go_roundw
            case rel => exact ⟨k + 1, by omega, by go_num, ret_val HS.out.symm, hbi⟩
            case measure => simp [intOf]; omega
      · obtain rfl : k = m := by omega
        have HF := Lib.hid (HN.out.trans AA.out.symm)
        go_wp2_with fail
        go_ret
        exact ⟨ret_int HF.out.symm, hbel⟩

end Go.Proofs.Ytoebgdcgcdigaab
