/-
  How often trains pass one another, by the model and by the program: 'passesOf', for every number of sections and all lists of at most 1048576 paths.
-/
import Derived.Test.YtoebgdcgcdigaabBusy
import Derived.Test.YtoebgdcgcdigaabPassP
namespace Go.Proofs.Ytoebgdcgcdigaab
open Go.RowKit Go.Sort

set_option maxHeartbeats 1000000 in
theorem isAhead {w : World} {b o b' o' : Nat} {n : Int} {p q : List Int × List Int} {k : Nat} (h : PathAt w b o p) (h' : PathAt w b' o' q) (hp : pathB n p = true) (hq : pathB n q = true) (hk : (k : Int) < n) :
    Calls Try.prog 30 #[.pointer (some ⟨b, o, none⟩), .pointer (some ⟨b', o', none⟩), .int .i64 k] w fun e w' => e = .returned (.bool (decide (p.1.getD k 0 < q.1.getD k 0))) ∧ Below w.heap.size w w' := by
  have h1 := (pathB_is hp).2.1
  have h2 := (pathB_is hq).2.1
  obtain ⟨b1, o1, k1, b2, o2, k2, g1, g2, hlb, hb1, hb2, d1, d2⟩ := h.cells hp
  obtain ⟨b3, o3, k3, b4, o4, k4, g3, g4, hlb', hb3, hb4, d3, d4⟩ := h'.cells hq
  have e1 := d1 k (by omega)
  have e2 := d3 k (by omega)
  generalize p.1.getD k 0 = s at e1 ⊢
  generalize q.1.getD k 0 = t at e2 ⊢
  have m1 : (k : Int) < (p.1.length : Int) := by omega
  have m2 : (k : Int) < (q.1.length : Int) := by omega
  have m3 : k < p.1.length := by omega
  have m4 : k < q.1.length := by omega
  clear d1 d2 d3 d4 h h' hp hq h1 h2 g2 g4
  go_enter Try.func30, Try.ntmps30
  go_upto_region 1 with fail
  go_quiet (fail)
  go_wp2_with fail
  go_ret
  exact ⟨rfl, below_drewN (Below.refl _ _) _⟩


set_option maxHeartbeats 4000000 in
theorem specPasses {w : World} {v : Value} {n : Int} {ps : List (List Int × List Int)} (h : Paths w v ps) :
    Calls Try.prog 10 #[.int .i64 n, v] w fun e w' => e = .returned (.int .i64 (passesOf n ps)) ∧ Below w.heap.size w w' := by
  have hh := h
  obtain ⟨a, cap, rfl, hl, -⟩ := h
  have SV := Lib.hid (specPaths (n := n) hh)
  cases hp : pathsB n ps
  · have HN := Lib.hid (passesOf_no hp)
    rw [hp] at SV
    clear hp hh
    go_enter Try.func10, Try.ntmps10
    go_wp2_with (go_at_call 31; refine SV.out.mono ?_)
    rintro e w1 ⟨rfl, b1⟩
    go_wp2_with fail
    go_ret
    exact ⟨ret_int HN.out.symm, b1⟩
  · rw [hp] at SV
    obtain ⟨⟨hn1, hn5⟩, h8, _⟩ := pathsB_is hp
    obtain ⟨m, rfl⟩ : ∃ m : Nat, n = (m : Int) + 1 := ⟨(n - 1).toNat, by omega⟩
    have HN := Lib.hid (show passesOf ((m : Int) + 1) ps = passS1 ps m ps.length by rw [passesOf_yes hp, pass_same]; congr 1; omega)
    have hm5 : m ≤ 5 := by omega
    have HP := Lib.hid hp
    have HH := Lib.hid (fun (i : Nat) (hi : i < ps.length) => paths_at hh hi)
    clear hp hh
    go_enter Try.func10, Try.ntmps10
    go_wp2_with (go_at_call 31; refine SV.out.mono ?_)
    rintro e w1 ⟨rfl, b1⟩
    go_wp2_with fail
    go_loopw [5, 6] (fun r i wr => ∃ i' : Nat, i' ≤ ps.length ∧ i = .int .i64 i' ∧ r = .int .i64 (passS1 ps m i') ∧ Below w.heap.size w wr) (fun _ i _ => ps.length - (intOf i).toNat)
    case atStart => exact ⟨0, by omega, rfl, rfl, b1⟩
    case round =>
      obtain ⟨i, hi, rfl, rfl, hbel⟩ := hrel
      have hB1 := passS1_bounds ps hm5 (i := i) (by omega)
      obtain ⟨A, hA⟩ : ∃ A, A = passS1 ps m i := ⟨_, rfl⟩
      rw [← hA] at hB1 ⊢
      have AA := Lib.hid hA
      clear hA
      by_cases hlt : i < ps.length
      · obtain ⟨b, o, rfl, hb, hat⟩ := HH.out i hlt
        have AT := Lib.hid hat
        have hil : (i : Int) < (ps.length : Int) := by omega
        clear hat
        go_wp2_with fail
        go_loopw [5, 7] (fun r j wr => ∃ j' : Nat, j' ≤ i ∧ j = .int .i64 j' ∧ r = .int .i64 (A + passS2 ps m i j') ∧ Below w.heap.size w wr) (fun _ j _ => i - (intOf j).toNat)
        case atStart => exact ⟨0, by omega, rfl, ret_val (by show A = A + 0; omega), hbel⟩
        case round =>
          obtain ⟨j, hj, rfl, rfl, hbj⟩ := hrel
          have hB2 := passS2_bounds ps hm5 i j
          obtain ⟨B, hB⟩ : ∃ B, B = passS2 ps m i j := ⟨_, rfl⟩
          rw [← hB] at hB2 ⊢
          have BB := Lib.hid hB
          clear hB
          by_cases hjk : j < i
          · have hjl : (j : Int) < (ps.length : Int) := by omega
            have hji : (j : Int) < (i : Int) := by omega
            go_wp2_with fail
            go_loopw [5, 8] (fun r k wr => ∃ k' : Nat, k' ≤ m ∧ k = .int .i64 ((k' : Int) + 1) ∧ r = .int .i64 (A + B + passS3 ps i j k') ∧ Below w.heap.size w wr) (fun _ k _ => m + 1 - (intOf k).toNat)
            case atStart => exact ⟨0, by omega, rfl, ret_val (by show A + B = A + B + 0; omega), hbj⟩
            case round =>
              obtain ⟨k, hk, rfl, rfl, hbk⟩ := hrel
              have hB3 := passS3_bounds ps i j k
              obtain ⟨C, hC⟩ : ∃ C, C = passS3 ps i j k := ⟨_, rfl⟩
              have hC1 : passS3 ps i j (k + 1) = C + passAt ps i j k := by rw [hC]; rfl
              rw [← hC] at hB3 ⊢
              have CC := Lib.hid hC
              clear hC
              by_cases hkm : k < m
              · have hk1 : ((k : Nat) : Int) < (m : Int) + 1 := by omega
                have hk2 : (((k + 1 : Nat)) : Int) < (m : Int) + 1 := by omega
                obtain ⟨b1, o1, k1, b2, o2, k2, c1, c2, -, hb1, hb2, d1, -⟩ := paths_cells AT.out HP.out hlt hk1
                obtain ⟨b3, o3, k3, b4, o4, k4, c3, c4, -, hb3, hb4, d3, -⟩ := paths_cells AT.out HP.out (i := j) (by omega) hk1
                have l1 := (sec_bounds HP.out hlt hk2).1
                have l2 := (sec_bounds HP.out (i := j) (by omega) hk2).1
                have d1' : w.cell? ⟨b1, o1 + (k + 1), none⟩ = some (.int .i64 ((ps.getD i noPath).1.getD (k + 1) 0)) := by
                  obtain ⟨x1, y1, z1, x2, y2, z2, c1', c2', _, hx1, hx2, e1, e2⟩ := paths_cells AT.out HP.out hlt hk2
                  rw [c1] at c1'
                  simp only [Option.some.injEq, Value.slice.injEq, Addr.mk.injEq, and_true, true_and] at c1'
                  obtain ⟨⟨rfl, rfl⟩, _⟩ := c1'
                  exact e1
                have d3' : w.cell? ⟨b3, o3 + (k + 1), none⟩ = some (.int .i64 ((ps.getD j noPath).1.getD (k + 1) 0)) := by
                  obtain ⟨x1, y1, z1, x2, y2, z2, c1', c2', _, hx1, hx2, e1, e2⟩ := paths_cells AT.out HP.out (i := j) (by omega) hk2
                  rw [c3] at c1'
                  simp only [Option.some.injEq, Value.slice.injEq, Addr.mk.injEq, and_true, true_and] at c1'
                  obtain ⟨⟨rfl, rfl⟩, _⟩ := c1'
                  exact e1
                have f1 := (hbk.cell (p := ⟨b, o + i * 2, none⟩) hb).trans c1
                have f3 := (hbk.cell (p := ⟨b, o + j * 2, none⟩) hb).trans c3
                have g1 := (hbk.cell (p := ⟨b1, o1 + k, none⟩) hb1).trans d1
                have g2 := (hbk.cell (p := ⟨b1, o1 + (k + 1), none⟩) hb1).trans d1'
                have g3 := (hbk.cell (p := ⟨b3, o3 + k, none⟩) hb3).trans d3
                have g4 := (hbk.cell (p := ⟨b3, o3 + (k + 1), none⟩) hb3).trans d3'
                have w3 : IntKind.i64.wrap ((k : Int) + 1 - 1) = k := by rw [IntWalk.i64_in _ (by omega)]; omega
                have w4 : ((k : Int) + 1).toNat = k + 1 := by omega
                have hkm' : (k : Int) + 1 < (m : Int) + 1 := by omega
                have hPA : passAt ps i j k = if (decide ((ps.getD i noPath).1.getD k 0 < (ps.getD j noPath).1.getD k 0)) != (decide ((ps.getD i noPath).1.getD (k + 1) 0 < (ps.getD j noPath).1.getD (k + 1) 0)) then 1 else 0 := rfl
                generalize (ps.getD i noPath).1.getD k 0 = s1 at g1 hPA
                generalize (ps.getD i noPath).1.getD (k + 1) 0 = s2 at g2 hPA
                generalize (ps.getD j noPath).1.getD k 0 = s3 at g3 hPA
                generalize (ps.getD j noPath).1.getD (k + 1) 0 = s4 at g4 hPA
                generalize (ps.getD i noPath).1.length = len1 at f1 l1
                generalize (ps.getD j noPath).1.length = len2 at f3 l2
                have n1 : (k : Int) < (len1 : Int) := by omega
                have n2 : (k : Int) < (len2 : Int) := by omega
                have n3 : (k : Int) + 1 < (len1 : Int) := by omega
                have n4 : (k : Int) + 1 < (len2 : Int) := by omega
                have n5 : k < len1 := by omega
                have n6 : k < len2 := by omega
                clear c1 c2 c3 c4 d1 d1' d3 d3'
                obtain ⟨t1, ht1⟩ : ∃ d, decide (s1 < s3) = d := ⟨_, rfl⟩
                obtain ⟨t2, ht2⟩ : ∃ d, decide (s2 < s4) = d := ⟨_, rfl⟩
                rw [ht1, ht2] at hPA
                rcases t1 with _ | _ <;> rcases t2 with _ | _
                · have HC := Lib.hid (show passS3 ps i j (k + 1) = C by rw [hC1, hPA]; simp)
                  clear hPA hC1
                  go_wp2_with fail
                  go_quiet (fail)
                  go_wp2_with fail
                  go_roundw
                  case rel => exact ⟨k + 1, by omega, by go_num, ret_val (by rw [HC.out]), below_drewN hbk _⟩
                  case measure => simp [intOf]; omega
                · have HC := Lib.hid (show passS3 ps i j (k + 1) = C + 1 by rw [hC1, hPA]; simp)
                  clear hPA hC1
                  have w5 : IntKind.i64.wrap (A + B + C + 1) = A + B + C + 1 := IntWalk.i64_in _ (by omega)
                  go_wp2_with fail
                  go_quiet (fail)
                  go_wp2_with fail
                  go_roundw
                  case rel => exact ⟨k + 1, by omega, by go_num, ret_val (by rw [HC.out]; omega), below_drewN hbk _⟩
                  case measure => simp [intOf]; omega
                · have HC := Lib.hid (show passS3 ps i j (k + 1) = C + 1 by rw [hC1, hPA]; simp)
                  clear hPA hC1
                  have w5 : IntKind.i64.wrap (A + B + C + 1) = A + B + C + 1 := IntWalk.i64_in _ (by omega)
                  go_wp2_with fail
                  go_quiet (fail)
                  go_wp2_with fail
                  go_roundw
                  case rel => exact ⟨k + 1, by omega, by go_num, ret_val (by rw [HC.out]; omega), below_drewN hbk _⟩
                  case measure => simp [intOf]; omega
                · have HC := Lib.hid (show passS3 ps i j (k + 1) = C by rw [hC1, hPA]; simp)
                  clear hPA hC1
                  go_wp2_with fail
                  go_quiet (fail)
                  go_wp2_with fail
                  go_roundw
                  case rel => exact ⟨k + 1, by omega, by go_num, ret_val (by rw [HC.out]), below_drewN hbk _⟩
                  case measure => simp [intOf]; omega
              · obtain rfl : k = m := by omega
                have HS := Lib.hid (show A + passS2 ps k i (j + 1) = A + B + C by show A + (passS2 ps k i j + passS3 ps i j k) = _; rw [← BB.out, ← CC.out]; omega)
                clear hC1
                go_wp2_with fail
                go_roundw
                case rel => exact ⟨j + 1, by omega, by go_num, ret_val HS.out.symm, hbk⟩
                case measure => simp [intOf]; omega
          · obtain rfl : j = i := by omega
            have HS := Lib.hid (show passS1 ps m (j + 1) = A + B by show passS1 ps m j + passS2 ps m j j = _; rw [← AA.out, ← BB.out])
            go_wp2_with fail
            go_roundw
            case rel => exact ⟨j + 1, by omega, by go_num, ret_val HS.out.symm, hbj⟩
            case measure => simp [intOf]; omega
      · obtain rfl : i = ps.length := by omega
        have HF := Lib.hid (HN.out.trans AA.out.symm)
        go_wp2_with fail
        go_ret
        exact ⟨ret_int HF.out.symm, hbel⟩

end Go.Proofs.Ytoebgdcgcdigaab
