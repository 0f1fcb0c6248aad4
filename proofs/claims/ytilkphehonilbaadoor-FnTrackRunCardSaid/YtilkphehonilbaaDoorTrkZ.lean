/-
  The program's walks: walkOf, TrackWalk. For lists of at most 1048576 texts of at most 1048576 bytes each, where the table of math/bits stands in its variable.
-/
import Derived.Test.YtilkphehonilbaaDoorTrkY
namespace Go.Proofs.YtilkphehonilbaaDoor
open Go.RowKit Go.Sort

theorem info_track : (Tryd.prog.info? 54).map (fun i => (i.zero, i.size, i.bytes)) = some (some (.agg #[.int .u64 0, .int .i64 0]), 2, 16) := by kernel_rfl
theorem cell_two_new (w : World) (u v : Value) (t : TypeId) : ∀ j x, [u, v][j]? = some x → (w.alloc (.cells #[u, v] t)).cell? ((⟨w.heap.size, 0, none⟩ : Addr).add j) = some x := by
  have hn : (w.alloc (.cells #[u, v] t)).heap[w.heap.size]? = some (.cells #[u, v] t (0, 0)) := Go.Deep.blk_alloc_new _ _
  intro j x hx
  match j, hx with
  | 0, hx =>
    have e : (⟨w.heap.size, 0, none⟩ : Addr).add 0 = ⟨w.heap.size, 0, none⟩ := rfl
    rw [e]
    simp only [World.cell?, hn]
    simpa using hx
  | 1, hx =>
    have e : (⟨w.heap.size, 0, none⟩ : Addr).add 1 = ⟨w.heap.size, 1, none⟩ := rfl
    rw [e]
    simp only [World.cell?, hn]
    simpa using hx
  | j + 2, hx => simp at hx

set_option maxHeartbeats 8000000 in
theorem walkOf_is {w : World} {base : Nat} {v : Value} {xs : List ByteArray} (h : OwnS w base v xs) (hl : xs.length ≤ 1048576) (hz : ∀ i, i < xs.length → (xs.getD i ⟨#[]⟩).size ≤ 1048576) (hT : TabW w) :
    Calls Tryd.prog 29 #[v] w fun e w' => ∃ u, e = .returned (.tuple #[u, .bool (walkB xs)]) ∧ (walkB xs = true → Ow w' w.heap.size 54 2 u xs.length (tkF xs)) ∧ Below w.heap.size w w' := by
  obtain ⟨i0, hi, hz0, hz1, hz2⟩ := info_parts info_track
  have hli : (xs.length : Int) ≤ 1048576 := by omega
  have TO := Lib.hid (fun (S : ByteArray) (hS : S.size ≤ 1048576) (w : World) => trackOf_is S hS w)
  obtain ⟨a, cap, rfl, hcap, hc⟩ := h.cells
  have HC := Lib.hid hc
  have HZ := Lib.hid hz
  have HTB := Lib.hid hT
  clear h hc hz hT
  go_enter Tryd.func29, Tryd.ntmps29
  go_wp2_with fail
  go_loopw [4, 5, 6, 7, 8, 11] (fun u _ _ _ _ i wr => ∃ k : Nat, k ≤ xs.length ∧ i = .int .i64 k ∧ Hid (wkTo xs k = true) ∧ Ow wr w.heap.size 54 2 u k (tkF xs) ∧ Below w.heap.size w wr) (fun _ _ _ _ _ i _ => xs.length - (intOf i).toNat)
  case atStart => exact ⟨0, by omega, rfl, Lib.hid rfl, ow_nil _ _ _ _ _, Below.refl _ _⟩
  case round =>
    obtain ⟨k, hk, rfl, HW, hown, hbel⟩ := hrel
    obtain ⟨au, cu, rfl⟩ := hown.slice
    have BR := Lib.hid hbel
    have OW := Lib.hid hown
    by_cases hlt : k < xs.length
    · have hki : (k : Int) < (xs.length : Int) := by omega
      obtain ⟨g, rfl, hg0, hg, hcell⟩ : ∃ g, a = some ⟨g, 0, none⟩ ∧ base ≤ g ∧ g < w.heap.size ∧ ∀ i, i < xs.length → w.cell? ⟨g, i, none⟩ = some (.string (xs.getD i ⟨#[]⟩)) := by
        rcases HC.out with h | h
        · rw [h] at hlt; simp at hlt
        · exact h
      obtain ⟨T, hT⟩ : ∃ T, T = xs.getD k ⟨#[]⟩ := ⟨_, rfl⟩
      have c0 := (hbel.cell (p := ⟨g, k, none⟩) hg).trans (hcell k hlt)
      rw [← hT] at c0
      have HT := Lib.hid hT
      have TT := TO.out T (by rw [hT]; exact HZ.out k hlt)
      obtain ⟨t, ht⟩ : ∃ t, t = trB T := ⟨_, rfl⟩
      have HTr := Lib.hid ht
      rw [← ht] at TT
      clear hT ht hcell hown hbel
      cases t with
      | false =>
        have E := Lib.hid (walk_no hlt (show wkOk xs k = false by unfold wkOk; rw [← HT.out, ← HTr.out, Bool.false_and]))
        rw [tkO_no HTr.out.symm] at TT
        unfold tkc at TT
        have TT := Lib.hid TT
        go_wp2_with (go_at_call 32; refine (TT.out _).mono ?_; rintro e w5 ⟨rfl, b5⟩)
        have b6 := (chain BR.out b5).alloc (chain BR.out b5).size (.cells #[.int .u64 0, .int .i64 0] 54)
        obtain ⟨W6, hW6⟩ : ∃ X, X = w5.alloc (.cells #[.int .u64 0, .int .i64 0] 54) := ⟨_, rfl⟩
        rw [← hW6] at b6 ⊢
        have B6 := Lib.hid b6
        clear b5 b6 hW6 c0
        refine wp_region_quiet_below (by kernel_rfl) (by kernel_rfl) ?_
        repeat (go_big_quiet_step (fail))
        refine wpQuiet_nil ?_
        intro _ hw'
        obtain ⟨⟨dq, osq⟩, hw''⟩ := hw'
        subst hw''
        have B7 := Lib.hid (B6.out.trans ((below_regrown W6 dq osq).mono B6.out.size))
        go_wp2_with fail
        go_ret2
        exact ⟨.slice none 0 0, by rw [E.out]; rfl, fun q => absurd (E.out.symm.trans q) (by decide), B7.out⟩
      | true =>
        rw [tkO_yes HTr.out.symm] at TT
        unfold tkc at TT
        have TT := Lib.hid TT
        have hsz := (trB_of HTr.out.symm).1
        have hoc := (oc_lt2 HTr.out.symm).1
        go_wp2_with (go_at_call 32; refine (TT.out _).mono ?_; rintro e w5 ⟨rfl, b5⟩)
        have P := Pair.new w5 (.int .u64 (oc T : Nat)) (.int .i64 (T.size : Nat)) 54
        have b6 := (chain BR.out b5).alloc (chain BR.out b5).size (.cells #[.int .u64 (oc T : Nat), .int .i64 (T.size : Nat)] 54)
        have O6 := (OW.out.below b5).below (below_alloc w5 (.cells #[.int .u64 (oc T : Nat), .int .i64 (T.size : Nat)] 54))
        obtain ⟨W6, hW6⟩ : ∃ X, X = w5.alloc (.cells #[.int .u64 (oc T : Nat), .int .i64 (T.size : Nat)] 54) := ⟨_, rfl⟩
        rw [← hW6] at P b6 O6 ⊢
        have d0 := P.cell0
        have d1 := P.cell1
        have z0 := fun d os => cell_regrown d0 d os
        have z1 := fun d os => cell_regrown d1 d os
        have B6 := Lib.hid b6
        have O6 := Lib.hid O6
        have HTW := Lib.hid (HTB.out.below HTB.out.lt B6.out)
        clear b5 b6 hW6 c0 P
        by_cases h0 : k = 0
        · subst h0
          have E := Lib.hid (show wkTo xs (0 + 1) = true by simp only [wkTo, wkOk]; rw [← HT.out, ← HTr.out]; rfl)
          clear hsz hoc
          refine wp_region_quiet_below (by kernel_rfl) (by kernel_rfl) ?_
          repeat (go_big_quiet_step (fail))
          refine wpQuiet_nil ?_
          intro _ hw'
          obtain ⟨⟨dq, osq⟩, hw''⟩ := hw'
          subst hw''
          have e0 := cell_regrown d0 dq osq
          have e1 := cell_regrown d1 dq osq
          have B7 := Lib.hid (B6.out.trans ((below_regrown W6 dq osq).mono B6.out.size))
          have O7 := O6.out.below (below_regrown W6 dq osq)
          obtain ⟨W7, hW7⟩ : ∃ X, X = grow (redrawn W6 dq) osq := ⟨_, rfl⟩
          rw [← hW7] at e0 e1 B7 O7 ⊢
          clear z0 z1 d0 d1 hW7
          have hor := O7
          unfold Ow at hor
          go_wp2_with (at_builtin; refine wpList_append_own _ rfl _ _ 48 rfl w.heap.size 54 i0 (.agg #[.int .u64 0, .int .i64 0]) 2 16 Tryd.underlying48 hi hz0 hz1 hz2 rfl (by decide) _ _ _ rfl (hor.alloc _) ⟨W7.heap.size, 0, none⟩ 1 1 [.int .u64 (oc T : Nat), .int .i64 (T.size : Nat)] rfl rfl ?c1 ?c2 ?c3 ?c4 ?c5 ?_)
          case c1 => exact cell_two_new _ _ _ _
          case c2 => intro u hu; simp at hu; rcases hu with rfl | rfl <;> rfl
          case c3 => simp only [maxLen]; omega
          case c4 => omega
          case c5 => have := B7.out.size; simp; omega
          intro v' w8 hown' hgrow _
          have HB := Lib.hid ((B7.out.alloc B7.out.size _).grown hgrow (by have := B7.out.size; simp; omega) (fun g hg => (World.ownsRow.lt hor g hg).1))
          have HO := Lib.hid (show Ow w8 w.heap.size 54 2 v' (0 + 1) (tkF xs) by
            unfold Ow
            rw [← tkF_more, ← HT.out]
            exact hown')
          clear hown' hgrow hor
          go_wp2_with fail
          go_roundw
          case rel => exact ⟨0 + 1, by omega, by go_num, Lib.hid E.out, HO.out, HB.out⟩
          case measure => simp [intOf]; omega
        · obtain ⟨j, hj⟩ : ∃ j, k = j + 1 := ⟨k - 1, by omega⟩
          have hkp : 0 < k := by omega
          have hjl : j < xs.length := by omega
          have hji : (j : Int) < (k : Int) := by omega
          have hw1 : IntKind.i64.wrap ((k : Int) - 1) = (j : Int) := by rw [IntWalk.i64_in _ (by omega)]; omega
          obtain ⟨gu, rfl⟩ : ∃ gu, au = some ⟨gu, 0, none⟩ := by
            rcases OW.out.shape with ⟨_, q⟩ | ⟨gu, _, q, _⟩
            · omega
            · simp only [Value.slice.injEq] at q
              exact ⟨gu, q.1⟩
          obtain ⟨S, hS⟩ : ∃ S, S = xs.getD j ⟨#[]⟩ := ⟨_, rfl⟩
          have y0 := O6.out.cell (q := j * 2) (by omega)
          have y1 := O6.out.cell (q := j * 2 + 1) (by omega)
          rw [tkF_even, ← hS] at y0
          rw [tkF_odd, ← hS] at y1
          have z2 := fun d os => cell_regrown y0 d os
          have z3 := fun d os => cell_regrown y1 d os
          have hSv : trB S = true := by rw [hS]; exact wkTo_valid (by rw [← hj]; exact HW.out)
          have hsS := (trB_of hSv).1
          have IS := fun (W : World) (hT : TabW W) => isStep_is S.size (oc S) T.size (oc T) hsS (oc_lt2 hSv).1 hsz hoc W hT
          rw [← isB_is hSv HTr.out.symm] at IS
          obtain ⟨s, hs⟩ : ∃ s, s = isB S T S.size := ⟨_, rfl⟩
          rw [← hs] at IS
          unfold tkc at IS
          have hok : wkOk xs k = s := by
            unfold wkOk
            rw [← HT.out, ← HTr.out, decide_eq_false h0, show k - 1 = j by omega, ← hS, ← hs]
            rfl
          have G := Lib.hid (fun (d : Nat) (os : Array Obj) => Calls.regrown_of (IS (grow (redrawn W6 d) os) (HTW.out.regrown d os)))
          cases s with
          | false =>
            have E := Lib.hid (walk_no hlt hok)
            clear hsz hoc IS hj h0 hS hs hok hSv hsS
            refine wp_region_quiet_below (by kernel_rfl) (by kernel_rfl) ?_
            repeat (go_big_quiet_step (with_reducible exact G.out _ _))
            refine wpQuiet_nil ?_
            intro _ hw'
            obtain ⟨⟨dq, osq⟩, hw''⟩ := hw'
            subst hw''
            have B7 := Lib.hid (B6.out.trans ((below_regrown W6 dq osq).mono B6.out.size))
            clear z0 z1 z2 z3
            go_wp2_with fail
            go_ret2
            exact ⟨.slice none 0 0, by rw [E.out]; rfl, fun q => absurd (E.out.symm.trans q) (by decide), B7.out⟩
          | true =>
            have E := Lib.hid (show wkTo xs (k + 1) = true by simp only [wkTo]; rw [hok, HW.out]; rfl)
            clear hsz hoc IS hj h0 hS hs hok hSv hsS
            refine wp_region_quiet_below (by kernel_rfl) (by kernel_rfl) ?_
            repeat (go_big_quiet_step (with_reducible exact G.out _ _))
            refine wpQuiet_nil ?_
            intro _ hw'
            obtain ⟨⟨dq, osq⟩, hw''⟩ := hw'
            subst hw''
            have e0 := cell_regrown d0 dq osq
            have e1 := cell_regrown d1 dq osq
            have B7 := Lib.hid (B6.out.trans ((below_regrown W6 dq osq).mono B6.out.size))
            have O7 := O6.out.below (below_regrown W6 dq osq)
            obtain ⟨W7, hW7⟩ : ∃ X, X = grow (redrawn W6 dq) osq := ⟨_, rfl⟩
            rw [← hW7] at e0 e1 B7 O7 ⊢
            clear z0 z1 d0 d1 hW7 z2 z3 y0 y1 G
            have hor := O7
            unfold Ow at hor
            go_wp2_with (at_builtin; refine wpList_append_own _ rfl _ _ 48 rfl w.heap.size 54 i0 (.agg #[.int .u64 0, .int .i64 0]) 2 16 Tryd.underlying48 hi hz0 hz1 hz2 rfl (by decide) _ _ _ rfl (hor.alloc _) ⟨W7.heap.size, 0, none⟩ 1 1 [.int .u64 (oc T : Nat), .int .i64 (T.size : Nat)] rfl rfl ?c1 ?c2 ?c3 ?c4 ?c5 ?_)
            case c1 => exact cell_two_new _ _ _ _
            case c2 => intro u hu; simp at hu; rcases hu with rfl | rfl <;> rfl
            case c3 => simp only [maxLen]; omega
            case c4 => omega
            case c5 => have := B7.out.size; simp; omega
            intro v' w8 hown' hgrow _
            have HB := Lib.hid ((B7.out.alloc B7.out.size _).grown hgrow (by have := B7.out.size; simp; omega) (fun g hg => (World.ownsRow.lt hor g hg).1))
            have HO := Lib.hid (show Ow w8 w.heap.size 54 2 v' (k + 1) (tkF xs) by
              unfold Ow
              rw [← tkF_more, ← HT.out]
              exact hown')
            clear hown' hgrow hor
            go_wp2_with fail
            go_roundw
            case rel => exact ⟨k + 1, by omega, by go_num, Lib.hid E.out, HO.out, HB.out⟩
            case measure => simp [intOf]; omega
    · obtain rfl : k = xs.length := by omega
      have E := Lib.hid (show walkB xs = decide (0 < xs.length) by unfold walkB; rw [HW.out, Bool.true_and])
      clear hbel hown hlt
      go_wp2_with fail
      go_ret2
      exact ⟨_, by rw [E.out]; rfl, fun _ => OW.out, BR.out⟩

set_option maxHeartbeats 1000000 in
theorem implWalk {w : World} {base : Nat} {v : Value} {xs : List ByteArray} (h : OwnS w base v xs) (hl : xs.length ≤ 1048576) (hz : ∀ i, i < xs.length → (xs.getD i ⟨#[]⟩).size ≤ 1048576) (hT : TabW w) :
    Calls Tryd.prog 10 #[v] w fun e w' => e = .returned (.bool (walkB xs)) ∧ Below w.heap.size w w' := by
  have WO := Lib.hid (walkOf_is h hl hz hT)
  clear h hz hT
  go_enter Tryd.func10, Tryd.ntmps10
  go_wp2_with (go_at_call 29; refine WO.out.mono ?_; rintro e w1 ⟨u, rfl, -, b1⟩)
  go_ret
  exact ⟨rfl, b1⟩

end Go.Proofs.YtilkphehonilbaaDoor
