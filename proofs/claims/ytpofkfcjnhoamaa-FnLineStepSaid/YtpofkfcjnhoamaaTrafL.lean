/-
  The program's lines: are they done, how many moves are left, the first train at a place, is there a section. For at most 1048576 blocks and as many trains.
-/
import Derived.Test.YtpofkfcjnhoamaaTrafV
namespace Go.Proofs.Ytpofkfcjnhoamaa
open Go.RowKit Go.Sort

theorem cntP_all {ts : List Int} {p : Int} {j : Nat} (h : ∀ i, i < j → ts.getD i 0 = p) : cntP ts p j = j := by
  induction j with
  | zero => rfl
  | succ j ih => rw [cntP_yes (h j (by omega)), ih fun i hi => h i (by omega)]; omega
theorem cntP_full {ts : List Int} {p : Int} {j : Nat} (h : cntP ts p j = j) : ∀ i, i < j → ts.getD i 0 = p := by
  induction j with
  | zero => intro i hi; omega
  | succ j ih =>
    intro i hi
    have hr := cntP_range ts p j
    by_cases e : ts.getD j 0 = p
    · rw [cntP_yes e] at h
      by_cases q : i = j
      · subst q; exact e
      · exact ih (by omega) i (by omega)
    · rw [cntP_no e] at h; omega
theorem doneB_eq (l : Ln) : doneB l = (decide (∀ k, k < l.1.length → l.1.getD k nb = nb) && decide (cntAt l.2 (2 * (l.1.length : Int)) = (l.2.length : Int))) := by
  cases e : doneB l
  · have h := doneB_not e
    symm
    rw [Bool.eq_false_iff]
    intro q
    simp only [Bool.and_eq_true, decide_eq_true_eq] at q
    exact h ⟨q.1, cntP_full q.2⟩
  · have h := doneB_is e
    symm
    simp only [Bool.and_eq_true, decide_eq_true_eq]
    exact ⟨h.1, cntP_all h.2⟩

set_option maxHeartbeats 1000000 in
theorem eventsLeft (x : Blk) (t : Int) (h0 : 0 ≤ t) (h1 : t ≤ 1048576) (w : World) : Calls Try.prog 80 #[.agg #[.int .i64 x.1, .bool x.2.1, .bool x.2.2], .int .i64 t] w fun e w' => e = .returned (.int .i64 (evLeft x t)) ∧ Below w.heap.size w w' := by
  have q := below_alloc w (.cells #[.int .i64 x.1, .bool x.2.1, .bool x.2.2] 33)
  have t0 := Tri3.new w (.int .i64 x.1) (.bool x.2.1) (.bool x.2.2) 33
  have c0 := t0.cell0
  have c1 := t0.cell1
  have c2 := t0.cell2
  obtain ⟨W, hW⟩ : ∃ X, X = w.alloc (.cells #[.int .i64 x.1, .bool x.2.1, .bool x.2.2] 33) := ⟨_, rfl⟩
  rw [← hW] at q c0 c1 c2
  have HW := Lib.hid hW.symm
  have EQ0 := eqBlk x nb
  have EE := Lib.hid (show ∀ n, n = evLeft x t → Ending.returned (.int .i64 n) = .returned (.int .i64 (evLeft x t)) from fun n e => by rw [e])
  obtain ⟨y0, y1, y2⟩ := x
  simp only at c0 c1 c2 EQ0 HW ⊢
  clear hW t0
  cases y1
  · by_cases g : y0 = 2
    · have EV := Lib.hid (show 5 * t + 1 = evLeft (y0, false, y2) t by unfold evLeft; rw [if_neg (by simp), if_pos g])
      subst g
      go_enter Try.func80, Try.ntmps80
      go_upto_region 1 with fail
      rw [HW.out]
      go_wp2_with fail
      go_ret
      exact ⟨EE.out _ (by rw [← EV.out]; omega), q⟩
    · obtain ⟨p, hp⟩ : ∃ p, p = decide (((y0, false, y2) : Blk) = nb) := ⟨_, rfl⟩
      have EQ2 : ∀ w : World, (binOp .eql 33 (.agg #[.int .i64 y0, .bool false, .bool y2]) (.agg #[.int .i64 0, .bool false, .bool false])).run Try.prog w = .ok (.bool p) w := fun w => by rw [hp]; exact EQ0 w
      have G := Lib.hid g
      have P := Lib.hid hp
      clear EQ0 hp
      cases p
      · have PN := Lib.hid (of_decide_eq_false P.out.symm)
        by_cases z : t = 0
        · have EV := Lib.hid (show 1 = evLeft (y0, false, y2) t by unfold evLeft; rw [if_neg (by simp), if_neg G.out, if_neg PN.out, if_pos z])
          subst z
          go_enter Try.func80, Try.ntmps80
          go_upto_region 1 with fail
          rw [HW.out]
          go_wp2_with fail
          go_ret
          exact ⟨EE.out _ EV.out, q⟩
        · cases y2
          · have EV := Lib.hid (show 5 * t - 2 = evLeft (y0, false, false) t by unfold evLeft; rw [if_neg (by simp), if_neg G.out, if_neg PN.out, if_neg z, if_neg (by simp)])
            go_enter Try.func80, Try.ntmps80
            go_upto_region 1 with fail
            rw [HW.out]
            go_wp2_with fail
            go_ret
            exact ⟨EE.out _ (by rw [← EV.out]; omega), q⟩
          · have EV := Lib.hid (show 5 * t - 1 = evLeft (y0, false, true) t by unfold evLeft; rw [if_neg (by simp), if_neg G.out, if_neg PN.out, if_neg z, if_pos rfl])
            go_enter Try.func80, Try.ntmps80
            go_upto_region 1 with fail
            rw [HW.out]
            go_wp2_with fail
            go_ret
            exact ⟨EE.out _ (by rw [← EV.out]; omega), q⟩
      · have EV := Lib.hid (show 5 * t = evLeft (y0, false, y2) t by unfold evLeft; rw [if_neg (by simp), if_neg G.out, if_pos (of_decide_eq_true P.out.symm)])
        go_enter Try.func80, Try.ntmps80
        go_upto_region 1 with fail
        rw [HW.out]
        go_wp2_with fail
        go_ret
        exact ⟨EE.out _ (by rw [← EV.out]; omega), q⟩
  · have EV := Lib.hid (show 5 * t + 2 = evLeft (y0, true, y2) t by unfold evLeft; rw [if_pos rfl])
    go_enter Try.func80, Try.ntmps80
    go_upto_region 1 with fail
    rw [HW.out]
    go_wp2_with fail
    go_ret
    exact ⟨EE.out _ (by rw [← EV.out]; omega), q⟩

set_option maxHeartbeats 1000000 in
theorem indexI {w : World} {v : Value} {ts : List Int} (p : Int) (h : Ints w v ts) :
    Calls Try.prog 46 #[v, .int .i64 p] w fun e w' => e = .returned (.int .i64 (fstI ts p)) ∧ w = w' := by
  obtain ⟨a, cap, rfl, hl, hc⟩ := h
  have hl' : (ts.length : Int) ≤ 1048576 := by omega
  have HC := Lib.hid hc
  clear hl hc
  go_enter Try.func46, Try.ntmps46
  go_wp2_with fail
  go_loop [8] (fun i => ∃ k : Nat, k ≤ ts.length ∧ i = .int .i64 k ∧ Hid (∀ j, j < k → ts.getD j 0 ≠ p)) (fun i => ts.length - (intOf i).toNat)
  case atStart => exact ⟨0, by omega, rfl, Lib.hid (fun j hj => by omega)⟩
  case round =>
    obtain ⟨k, hk, rfl, NO⟩ := hrel
    by_cases hlt : k < ts.length
    · obtain ⟨b, o, rfl, hb, hcell⟩ : ∃ b o, a = some ⟨b, o, none⟩ ∧ b < w.heap.size ∧ ∀ i, i < ts.length → w.cell? ⟨b, o + i, none⟩ = some (.int .i64 (ts.getD i 0)) := by
        rcases HC.out with rfl | h
        · simp at hlt
        · exact h
      have c0 := hcell k hlt
      have hki : (k : Int) < (ts.length : Int) := by omega
      obtain ⟨x, hx⟩ : ∃ x, x = ts.getD k 0 := ⟨_, rfl⟩
      rw [← hx] at c0
      have X := Lib.hid hx
      clear hx hcell
      by_cases e : p = x
      · have E := Lib.hid (show fstI ts p = k by unfold fstI; rw [fst_some hlt (by rw [← X.out]; exact e.symm) NO.out])
        clear NO
        subst e
        go_wp2_with fail
        go_ret
        exact ⟨ret_int E.out.symm, rfl⟩
      · have E := Lib.hid (show ∀ j, j < k + 1 → ts.getD j 0 ≠ p from fun j hj => by
          by_cases q : j = k
          · subst q; rw [← X.out]; exact fun z => e z.symm
          · exact NO.out j (by omega))
        go_wp2_with fail
        go_round
        case rel => exact ⟨k + 1, by omega, by go_num, E⟩
        case measure => simp [intOf]; omega
    · obtain rfl : k = ts.length := by omega
      have E := Lib.hid (show fstI ts p = -1 by unfold fstI; rw [fst_none NO.out])
      go_wp2_with fail
      go_ret
      exact ⟨ret_int E.out.symm, rfl⟩

set_option maxHeartbeats 400000 in
theorem hasL {a : Option Addr} {n c : Nat} (k : Int) (w : World) : Calls Try.prog 45 #[.slice a n c, .int .i64 k] w fun e w' => e = .returned (.bool (decide (0 ≤ k ∧ k < (n : Int)))) ∧ w = w' := by
  by_cases h1 : 0 ≤ k
  · by_cases h2 : k < (n : Int)
    · rw [decide_eq_true (And.intro h1 h2)]
      go_enter Try.func45, Try.ntmps45
      go_wp2_with fail
      go_ret
      exact ⟨rfl, rfl⟩
    · rw [decide_eq_false (show ¬ (0 ≤ k ∧ k < (n : Int)) by omega)]
      have h3 : decide (k < (n : Int)) = false := by simpa using h2
      clear h2
      go_enter Try.func45, Try.ntmps45
      go_wp2_with fail
      go_ret
      exact ⟨rfl, rfl⟩
  · rw [decide_eq_false (show ¬ (0 ≤ k ∧ k < (n : Int)) by omega)]
    have h3 : decide (0 ≤ k) = false := by simpa using h1
    clear h1
    go_enter Try.func45, Try.ntmps45
    go_wp2_with fail
    go_ret
    exact ⟨rfl, rfl⟩

end Go.Proofs.Ytpofkfcjnhoamaa
