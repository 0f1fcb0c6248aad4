/-
  Is a line valid, by the model. For at most 1048576 blocks and as many trains.
-/
import Derived.Test.YtpofkfcjnhoamaaTrafV
namespace Go.Proofs.Ytpofkfcjnhoamaa
open Go.RowKit Go.Sort

theorem lnB_len {l : Ln} (h : ¬ (1 ≤ (l.1.length : Int) ∧ (l.1.length : Int) ≤ 5)) : lnB l = false := lnB_no fun q => h (by have := q.1; omega)
theorem lnB_tr {l : Ln} (h : ¬ ((l.2.length : Int) ≤ 5)) : lnB l = false := lnB_no fun q => h (by have := q.2.1; omega)
theorem lnB_pl {l : Ln} {k : Nat} (hk : k < l.2.length) (h : ¬ (0 ≤ l.2.getD k 0 ∧ l.2.getD k 0 ≤ 2 * (l.1.length : Int))) : lnB l = false := lnB_no fun q => h (by have := q.2.2.1 k hk; exact ⟨this.1, this.2.1⟩)
theorem lnB_up {l : Ln} {k : Nat} (hk : k < l.2.length) (h0 : 0 < k) (h : ¬ (l.2.getD k 0 ≤ l.2.getD (k - 1) 0)) : lnB l = false := lnB_no fun q => h ((q.2.2.1 k hk).2.2 h0)

set_option maxHeartbeats 4000000 in
theorem specLineValid {w : World} {v : Value} {l : Ln} (h : LineV w v l) : Calls Try.prog 11 #[v] w fun e w' => e = .returned (.bool (lnB l)) ∧ Below w.heap.size w w' := by
  obtain ⟨u1, u2, rfl, h1, h2⟩ := h
  have k1 : (l.1.length : Int) ≤ 1048576 := by have := Rd.len h1; omega
  have k2 : (l.2.length : Int) ≤ 1048576 := by have := h2.len; omega
  obtain ⟨a1, c1, rfl⟩ := Rd.slice h1
  obtain ⟨a2, c2, rfl, -, hc2⟩ := h2
  have q0 := below_alloc w (.cells #[.slice a1 l.1.length c1, .slice a2 l.2.length c2] 26)
  have p0 := Pair.new w (.slice a1 l.1.length c1) (.slice a2 l.2.length c2) 26
  obtain ⟨W, hW⟩ : ∃ X, X = w.alloc (.cells #[.slice a1 l.1.length c1, .slice a2 l.2.length c2] 26) := ⟨_, rfl⟩
  rw [← hW] at q0 p0
  have HW := Lib.hid hW.symm
  have Q0 := Lib.hid q0
  have P0 := Lib.hid p0
  have e0 := p0.cell0
  have e1 := p0.cell1
  have HC2 := Lib.hid hc2
  have AT := Lib.hid (fun (i : Nat) (hi : i < l.1.length) => Blks.at h1 hi)
  clear hW p0 q0 hc2 h1
  obtain ⟨bs, ts⟩ := l
  simp only at *
  by_cases hn : 1 ≤ (bs.length : Int) ∧ (bs.length : Int) ≤ 5
  · obtain ⟨hn1, hn5⟩ := hn
    by_cases ht : (ts.length : Int) ≤ 5
    · go_enter Try.func11, Try.ntmps11
      go_upto_region 1 with fail
      rw [HW.out]
      go_wp2_with (go_at_call 41; refine (in_yes _ _ _ _ hn1 hn5).mono ?_; rintro e w' ⟨rfl, rfl⟩)
      go_loopw [4] (fun i wr => ∃ k : Nat, k ≤ ts.length ∧ i = .int .i64 k ∧ Hid (PlTo bs.length ts k) ∧ Below W.heap.size W wr) (fun i _ => ts.length - (intOf i).toNat)
      case atStart => exact ⟨0, by omega, rfl, Lib.hid (PlTo.zero _ _), Below.refl _ _⟩
      case round =>
        obtain ⟨k, hk, rfl, HP, hbel⟩ := hrel
        have e0' := (P0.out.below hbel).cell0
        have e1' := (P0.out.below hbel).cell1
        by_cases hlt : k < ts.length
        · obtain ⟨b, o, rfl, hb, hcell⟩ : ∃ b o, a2 = some ⟨b, o, none⟩ ∧ b < w.heap.size ∧ ∀ i, i < ts.length → w.cell? ⟨b, o + i, none⟩ = some (.int .i64 (ts.getD i 0)) := by
            rcases HC2.out with rfl | h
            · simp at hlt
            · exact h
          have hbW := Nat.lt_of_lt_of_le hb Q0.out.size
          have d0 := (hbel.cell (p := ⟨b, o + k, none⟩) hbW).trans ((Q0.out.cell (p := ⟨b, o + k, none⟩) hb).trans (hcell k hlt))
          have hki : (k : Int) < (ts.length : Int) := by omega
          obtain ⟨x, hx⟩ : ∃ x, x = ts.getD k 0 := ⟨_, rfl⟩
          rw [← hx] at d0
          have X := Lib.hid hx
          have HCL := Lib.hid hcell
          clear hx hcell
          have E0 := fun d os => cell_regrown e0' d os
          have E1 := fun d os => cell_regrown e1' d os
          have D0 := fun d os => cell_regrown d0 d os
          have hsz : W.heap.size ≤ wr.heap.size := hbel.size
          have hw2 : IntKind.i64.wrap (2 * (bs.length : Int)) = 2 * (bs.length : Int) := IntWalk.i64_in _ (by omega)
          by_cases g : 0 ≤ x ∧ x ≤ 2 * (bs.length : Int)
          · have I1 := Lib.hid (in_quiet x 0 (2 * (bs.length : Int)) true (decide_eq_true g) wr)
            by_cases hk0 : k = 0
            · have g0 : decide (0 < k) = false := decide_eq_false (by omega)
              have K0 := Lib.hid hk0
              clear hk0
              have HP2 := Lib.hid (HP.out.succ ⟨by rw [← X.out]; exact g.1, by rw [← X.out]; exact g.2, fun q => by have := K0.out; omega⟩)
              clear g
              go_wp2_with fail
              refine wp_region_quiet_below (by kernel_rfl) (by kernel_rfl) ?_
              repeat (go_big_quiet_step (with_reducible exact I1.out _ _))
              refine wpQuiet_nil ?_
              intro _ hw'
              obtain ⟨⟨dq, osq⟩, hw''⟩ := hw'
              subst hw''
              have BR := (below_regrown wr dq osq).mono hsz
              go_wp2_with fail
              go_roundw
              case rel => exact ⟨k + 1, by omega, by go_num, HP2, hbel.trans BR⟩
              case measure => simp [intOf]; omega
            · have g0 : decide (0 < k) = true := decide_eq_true (by omega)
              obtain ⟨j, hj⟩ : ∃ j, k = j + 1 := ⟨k - 1, by omega⟩
              have d1 := (hbel.cell (p := ⟨b, o + j, none⟩) hbW).trans ((Q0.out.cell (p := ⟨b, o + j, none⟩) hb).trans (HCL.out j (by omega)))
              obtain ⟨y, hy⟩ : ∃ y, y = ts.getD j 0 := ⟨_, rfl⟩
              rw [← hy] at d1
              have Y := Lib.hid hy
              have D1 := fun d os => cell_regrown d1 d os
              have hwr : IntKind.i64.wrap ((k : Int) - 1) = j := by rw [IntWalk.i64_in _ (by omega)]; omega
              have hj1 : (j : Int) < (ts.length : Int) := by omega
              have hj2 : j < ts.length := by omega
              have J := Lib.hid (show k - 1 = j by omega)
              have KP := Lib.hid (show 0 < k by omega)
              clear hy hk0 hj
              by_cases g2 : x ≤ y
              · have g2' : decide (y < x) = false := decide_eq_false (by omega)
                have HP2 := Lib.hid (HP.out.succ ⟨by rw [← X.out]; exact g.1, by rw [← X.out]; exact g.2, fun q => by rw [J.out, ← X.out, ← Y.out]; exact g2⟩)
                clear g
                go_wp2_with fail
                refine wp_region_quiet_below (by kernel_rfl) (by kernel_rfl) ?_
                repeat (go_big_quiet_step (with_reducible exact I1.out _ _))
                refine wpQuiet_nil ?_
                intro _ hw'
                obtain ⟨⟨dq, osq⟩, hw''⟩ := hw'
                subst hw''
                have BR := (below_regrown wr dq osq).mono hsz
                go_wp2_with fail
                go_roundw
                case rel => exact ⟨k + 1, by omega, by go_num, HP2, hbel.trans BR⟩
                case measure => simp [intOf]; omega
              · have g2' : decide (y < x) = true := decide_eq_true (by omega)
                have HN := Lib.hid (lnB_up (l := (bs, ts)) (k := k) hlt KP.out (by simp only; rw [J.out, ← X.out, ← Y.out]; exact g2))
                clear g
                go_wp2_with fail
                refine wp_region_quiet_below (by kernel_rfl) (by kernel_rfl) ?_
                repeat (go_big_quiet_step (with_reducible exact I1.out _ _))
                refine wpQuiet_nil ?_
                intro _ hw'
                obtain ⟨⟨dq, osq⟩, hw''⟩ := hw'
                subst hw''
                have BR := (below_regrown wr dq osq).mono hsz
                go_wp2_with fail
                go_ret
                exact ⟨ret_bool HN.out.symm, Q0.out.trans ((hbel.trans BR).mono Q0.out.size)⟩
          · have I1 := Lib.hid (in_quiet x 0 (2 * (bs.length : Int)) false (decide_eq_false g) wr)
            have HN := Lib.hid (lnB_pl (l := (bs, ts)) hlt (by rw [← X.out]; exact g))
            clear g
            go_wp2_with fail
            refine wp_region_quiet_below (by kernel_rfl) (by kernel_rfl) ?_
            repeat (go_big_quiet_step (with_reducible exact I1.out _ _))
            refine wpQuiet_nil ?_
            intro _ hw'
            obtain ⟨⟨dq, osq⟩, hw''⟩ := hw'
            subst hw''
            have BR := (below_regrown wr dq osq).mono hsz
            go_wp2_with fail
            go_ret
            exact ⟨ret_bool HN.out.symm, Q0.out.trans ((hbel.trans BR).mono Q0.out.size)⟩
        · obtain rfl : k = ts.length := by omega
          clear hlt hk
          go_wp2_with fail
          have B1 := Lib.hid hbel
          clear hbel e0' e1'
          go_loopw [5] (fun i wo => ∃ k : Nat, k ≤ bs.length ∧ i = .int .i64 k ∧ Hid (∀ j, j < k → bkPos (bs.getD j nb) = true ∧ cntAt ts (2 * j + 1) = insN (bs.getD j nb)) ∧ Below W.heap.size W wo) (fun i _ => bs.length - (intOf i).toNat)
          case atStart => exact ⟨0, by omega, rfl, Lib.hid (fun j hj => by omega), B1.out⟩
          case round =>
            obtain ⟨k, hk, rfl, HK, hbo⟩ := hrel
            obtain ⟨wp, hwp⟩ : ∃ X, X = wr := ⟨_, rfl⟩
            rw [← hwp] at hbo ⊢
            clear hwp
            have e0' := (P0.out.below hbo).cell0
            have e1' := (P0.out.below hbo).cell1
            by_cases hlt : k < bs.length
            · have hki : (k : Int) < (bs.length : Int) := by omega
              go_wp2_with fail
              go_loop [6, 7] (fun m i => ∃ j : Nat, j ≤ ts.length ∧ i = .int .i64 j ∧ m = .int .i64 (cntP ts (2 * (k : Int) + 1) j)) (fun _ i => ts.length - (intOf i).toNat)
              case atStart => exact ⟨0, by omega, rfl, rfl⟩
              case round =>
                obtain ⟨j, hj, rfl, rfl⟩ := hrel
                have hr := cntP_range ts (2 * (k : Int) + 1) j
                obtain ⟨m, hm⟩ : ∃ m, m = cntP ts (2 * (k : Int) + 1) j := ⟨_, rfl⟩
                rw [← hm] at hr ⊢
                have M := Lib.hid hm
                by_cases hjl : j < ts.length
                · obtain ⟨b, o, rfl, hb, hcell⟩ : ∃ b o, a2 = some ⟨b, o, none⟩ ∧ b < w.heap.size ∧ ∀ i, i < ts.length → w.cell? ⟨b, o + i, none⟩ = some (.int .i64 (ts.getD i 0)) := by
                    rcases HC2.out with rfl | h
                    · simp at hjl
                    · exact h
                  have hbW := Nat.lt_of_lt_of_le hb Q0.out.size
                  have d0 := (hbo.cell (p := ⟨b, o + j, none⟩) hbW).trans ((Q0.out.cell (p := ⟨b, o + j, none⟩) hb).trans (hcell j hjl))
                  have hji : (j : Int) < (ts.length : Int) := by omega
                  obtain ⟨x, hx⟩ : ∃ x, x = ts.getD j 0 := ⟨_, rfl⟩
                  rw [← hx] at d0
                  have X := Lib.hid hx
                  clear hx hcell hm
                  by_cases e : x = 2 * (k : Int) + 1
                  · have E := Lib.hid ((cntP_yes (show ts.getD j 0 = 2 * (k : Int) + 1 by rw [← X.out]; exact e)).trans (by rw [← M.out]))
                    go_wp2_with fail
                    go_round
                    case rel => exact ⟨j + 1, by omega, by go_num, by rw [E.out]; try go_num⟩
                    case measure => simp [intOf]; omega
                  · have E := Lib.hid ((cntP_no (show ¬ ts.getD j 0 = 2 * (k : Int) + 1 by rw [← X.out]; exact e)).trans M.out.symm)
                    go_wp2_with fail
                    go_round
                    case rel => exact ⟨j + 1, by omega, by go_num, by rw [E.out]; try go_num⟩
                    case measure => simp [intOf]; omega
                · obtain rfl : j = ts.length := by omega
                  have M2 := Lib.hid (show cntAt ts (2 * (k : Int) + 1) = m from hm.symm)
                  clear hjl hj hm M
                  obtain ⟨b, o, rfl, hb, hcell⟩ := AT.out k hlt
                  obtain ⟨g0, g1, g2⟩ := hcell k hlt
                  have hbW := Nat.lt_of_lt_of_le hb Q0.out.size
                  have d0 := (hbo.cell (p := ⟨b, o + k * 3, none⟩) hbW).trans ((Q0.out.cell (p := ⟨b, o + k * 3, none⟩) hb).trans g0)
                  have d1 : wp.cell? ⟨b, o + k * 3 + 1, none⟩ = _ := (hbo.cell (p := ⟨b, o + k * 3 + 1, none⟩) hbW).trans ((Q0.out.cell (p := ⟨b, o + k * 3 + 1, none⟩) hb).trans g1)
                  have d2 : wp.cell? ⟨b, o + k * 3 + 2, none⟩ = _ := (hbo.cell (p := ⟨b, o + k * 3 + 2, none⟩) hbW).trans ((Q0.out.cell (p := ⟨b, o + k * 3 + 2, none⟩) hb).trans g2)
                  obtain ⟨x, hx⟩ : ∃ x, x = bs.getD k nb := ⟨_, rfl⟩
                  rw [← hx] at d0 d1 d2
                  have X := Lib.hid hx
                  have SP := Lib.hid (specPossible x)
                  obtain ⟨t, ht⟩ : ∃ t, t = bkPos x := ⟨_, rfl⟩
                  rw [← ht] at SP
                  unfold bkV at SP
                  have T := Lib.hid ht
                  clear hx ht g0 g1 g2 hcell
                  have NO := Lib.hid (fun (q : ¬ (t = true ∧ m = insN x)) => lnB_no (l := (bs, ts)) fun z => q (by have := z.2.2.2 k hlt; simp only at this; rw [← X.out, ← T.out, M2.out] at this; exact this))
                  have YES := Lib.hid (fun (q : t = true ∧ m = insN x) => show ∀ j, j < k + 1 → bkPos (bs.getD j nb) = true ∧ cntAt ts (2 * j + 1) = insN (bs.getD j nb) from fun j hj => by
                    by_cases e : j = k
                    · subst e; rw [← X.out, ← T.out, M2.out]; exact q
                    · exact HK.out j (by omega))
                  obtain ⟨x0, x1, x2⟩ := x
                  simp only at d0 d1 d2 SP
                  cases t
                  · have HN := Lib.hid (NO.out (by simp))
                    go_wp2_with (go_at_call 42; refine (SP.out _).mono ?_; rintro e w2 ⟨rfl, b2⟩)
                    go_ret
                    exact ⟨ret_bool HN.out.symm, Q0.out.trans ((hbo.trans (b2.mono hbo.size)).mono Q0.out.size)⟩
                  · by_cases gm : m ≤ 1
                    · have gm0 : m = 0 ∨ m = 1 := by omega
                      rcases gm0 with rfl | rfl <;> cases x1
                      · have HK2 := Lib.hid (YES.out ⟨rfl, rfl⟩)
                        clear YES NO
                        go_wp2_with (go_at_call 42; refine (SP.out _).mono ?_; rintro e w2 ⟨rfl, b2⟩; have e2 := (P0.out.below (hbo.trans (b2.mono hbo.size))).cell0; have d1 : w2.cell? ⟨b, o + k * 3 + 1, none⟩ = _ := (b2.cell (p := ⟨b, o + k * 3 + 1, none⟩) (World.block_lt_of_cell? wp _ d1)).trans d1)
                        go_roundw
                        case rel => exact ⟨k + 1, by omega, by go_num, HK2, hbo.trans (b2.mono hbo.size)⟩
                        case measure => simp [intOf]; omega
                      · have HN := Lib.hid (NO.out (by simp [insN]))
                        clear YES NO
                        go_wp2_with (go_at_call 42; refine (SP.out _).mono ?_; rintro e w2 ⟨rfl, b2⟩; have e2 := (P0.out.below (hbo.trans (b2.mono hbo.size))).cell0; have d1 : w2.cell? ⟨b, o + k * 3 + 1, none⟩ = _ := (b2.cell (p := ⟨b, o + k * 3 + 1, none⟩) (World.block_lt_of_cell? wp _ d1)).trans d1)
                        go_ret
                        exact ⟨ret_bool HN.out.symm, Q0.out.trans ((hbo.trans (b2.mono hbo.size)).mono Q0.out.size)⟩
                      · have HN := Lib.hid (NO.out (by simp [insN]))
                        clear YES NO
                        go_wp2_with (go_at_call 42; refine (SP.out _).mono ?_; rintro e w2 ⟨rfl, b2⟩; have e2 := (P0.out.below (hbo.trans (b2.mono hbo.size))).cell0; have d1 : w2.cell? ⟨b, o + k * 3 + 1, none⟩ = _ := (b2.cell (p := ⟨b, o + k * 3 + 1, none⟩) (World.block_lt_of_cell? wp _ d1)).trans d1)
                        go_ret
                        exact ⟨ret_bool HN.out.symm, Q0.out.trans ((hbo.trans (b2.mono hbo.size)).mono Q0.out.size)⟩
                      · have HK2 := Lib.hid (YES.out ⟨rfl, rfl⟩)
                        clear YES NO
                        go_wp2_with (go_at_call 42; refine (SP.out _).mono ?_; rintro e w2 ⟨rfl, b2⟩; have e2 := (P0.out.below (hbo.trans (b2.mono hbo.size))).cell0; have d1 : w2.cell? ⟨b, o + k * 3 + 1, none⟩ = _ := (b2.cell (p := ⟨b, o + k * 3 + 1, none⟩) (World.block_lt_of_cell? wp _ d1)).trans d1)
                        go_roundw
                        case rel => exact ⟨k + 1, by omega, by go_num, HK2, hbo.trans (b2.mono hbo.size)⟩
                        case measure => simp [intOf]; omega
                    · have gm' : 1 < m := by omega
                      have HN := Lib.hid (NO.out (by rintro ⟨_, q⟩; unfold insN at q; split at q <;> omega))
                      clear YES NO gm
                      go_wp2_with (go_at_call 42; refine (SP.out _).mono ?_; rintro e w2 ⟨rfl, b2⟩)
                      go_ret
                      exact ⟨ret_bool HN.out.symm, Q0.out.trans ((hbo.trans (b2.mono hbo.size)).mono Q0.out.size)⟩
            · obtain rfl : k = bs.length := by omega
              have HY := Lib.hid (lnB_yes (l := (bs, ts)) ⟨⟨by simp only; omega, by simp only; omega⟩, by simp only; omega, HP.out, HK.out⟩)
              go_wp2_with fail
              go_ret
              exact ⟨ret_bool HY.out.symm, Q0.out.trans (hbo.mono Q0.out.size)⟩
    · have HN := Lib.hid (lnB_tr (l := (bs, ts)) ht)
      have g : (5 : Int) < (ts.length : Int) := by omega
      clear ht
      go_enter Try.func11, Try.ntmps11
      go_upto_region 1 with fail
      rw [HW.out]
      go_wp2_with (go_at_call 41; refine (in_yes _ _ _ _ hn1 hn5).mono ?_; rintro e w' ⟨rfl, rfl⟩)
      go_ret
      exact ⟨ret_bool HN.out.symm, Q0.out⟩
  · have HN := Lib.hid (lnB_len (l := (bs, ts)) hn)
    have hn' : (bs.length : Int) < 1 ∨ 5 < (bs.length : Int) := by omega
    have H := Lib.hid hn'
    clear hn hn'
    go_enter Try.func11, Try.ntmps11
    go_upto_region 1 with fail
    rw [HW.out]
    go_wp2_with (go_at_call 41; refine (in_no _ _ _ _ H.out).mono ?_; rintro e w' ⟨rfl, rfl⟩)
    go_ret
    exact ⟨ret_bool HN.out.symm, Q0.out⟩

end Go.Proofs.Ytpofkfcjnhoamaa
