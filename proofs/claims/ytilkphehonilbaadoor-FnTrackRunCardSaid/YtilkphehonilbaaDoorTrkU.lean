/-
  How often the last circuit becomes free: the program's TrackPassed. For lists of at most 1048576 texts of at most 1048576 bytes each, where the table of math/bits stands in its variable.
-/
import Derived.Test.YtilkphehonilbaaDoorTrkV
namespace Go.Proofs.YtilkphehonilbaaDoor
open Go.RowKit Go.Sort

theorem elem_tracks : Tryd.prog.elem 48 = 54 := by kernel_rfl
theorem size_tracks (w : World) : (sizeOf 54).run Tryd.prog w = .ok 2 w := by kernel_rfl
theorem tail_tracks {g n c : Nat} (hn : 1 ≤ n) (hc : n ≤ c) : ∃ ar cr, (∀ w : World, (Instr.slice 48 (.slice (some ⟨g, 0, none⟩) n c) (some (.int .i64 1)) none none).run Tryd.prog w = .ok (.slice ar (n - 1) cr) w) ∧ (n ≠ 1 → ar = some ⟨g, 2, none⟩) := by
  have hu := Tryd.underlying48
  refine ⟨if c = 1 then some ⟨g, 0, none⟩ else (some ⟨g, 0, none⟩ : Option Addr).map (·.add (1 * 2)), c - 1, fun w => ?_, fun hne => ?_⟩
  · rw [run_slice_l (P := Tryd.prog) w 48 (some ⟨g, 0, none⟩) n c (by rw [elem_tracks]; exact hu) .i64 1 (by omega) (by omega), elem_tracks, size_tracks]
    rfl
  · rw [if_neg (by omega)]
    rfl

set_option maxHeartbeats 8000000 in
theorem implPassed {w : World} {base : Nat} {v : Value} {xs : List ByteArray} (h : OwnS w base v xs) (hl : xs.length ≤ 1048576) (hz : ∀ i, i < xs.length → (xs.getD i ⟨#[]⟩).size ≤ 1048576) (hT : TabW w) :
    Calls Tryd.prog 19 #[v] w fun e w' => e = .returned (.int .i64 (psV xs)) ∧ Below w.heap.size w w' := by
  have WO := walkOf_is h hl hz hT
  obtain ⟨t, ht⟩ : ∃ t, t = walkB xs := ⟨_, rfl⟩
  rw [← ht] at WO
  clear h hz hT
  cases t with
  | false =>
    have WO := Lib.hid WO
    have E := Lib.hid (show psV xs = -1 by unfold psV; rw [← ht]; rfl)
    clear ht
    go_enter Tryd.func19, Tryd.ntmps19
    go_wp2_with (go_at_call 29; refine WO.out.mono ?_; rintro e w1 ⟨u, rfl, -, b1⟩)
    go_ret
    exact ⟨by rw [E.out]; rfl, b1⟩
  | true =>
    have E := Lib.hid (show psV xs = psTo xs (xs.length - 1) by unfold psV; rw [← ht]; rfl)
    obtain ⟨hpos, hall⟩ := walk_sizes ht.symm
    have ALL := Lib.hid hall
    have WO := Lib.hid (WO.mono (R' := fun e w' => ∃ u, e = .returned (.tuple #[u, .bool true]) ∧ Ow w' w.heap.size 54 2 u xs.length (tkF xs) ∧ Below w.heap.size w w') (fun _ _ ⟨u, a, b, c⟩ => ⟨u, a, b rfl, c⟩))
    clear ht hall
    go_enter Tryd.func19, Tryd.ntmps19
    go_upto_region 2 with (go_at_call 29; refine WO.out.mono ?_; rintro e w1 ⟨u, rfl, ow1, b1⟩)
    have OW := Lib.hid ow1
    have B1 := Lib.hid b1
    obtain ⟨gu, cu, rfl, hcu⟩ : ∃ gu cu, u = .slice (some ⟨gu, 0, none⟩) xs.length cu ∧ xs.length ≤ cu := by
      rcases ow1.2 with ⟨_, q⟩ | ⟨g, cap, cur, rfl, _, _, hnc, _⟩
      · omega
      · exact ⟨g, cap, rfl, hnc⟩
    obtain ⟨ar, cr, hsl, har⟩ := tail_tracks (g := gu) hpos hcu
    obtain ⟨m, hm⟩ : ∃ m, m = xs.length - 1 := ⟨_, rfl⟩
    rw [← hm] at hsl E
    have HM := Lib.hid hm
    have HAR := Lib.hid har
    have hml : m < xs.length := by omega
    have hmi : (m : Int) ≤ 1048576 := by omega
    have hgu : gu < w1.heap.size := (ow1.under gu rfl).2
    clear ow1 b1 hm har hcu
    go_wp2_with fail
    go_loopw [5, 6, 7, 18] (fun s _ _ i wr => ∃ k : Nat, k ≤ m ∧ i = .int .i64 k ∧ s = .int .i64 (psTo xs k) ∧ Below w1.heap.size w1 wr) (fun _ _ _ i _ => m - (intOf i).toNat)
    case atStart => exact ⟨0, by omega, rfl, rfl, Below.refl _ _⟩
    case round =>
      obtain ⟨k, hk, rfl, rfl, hbel⟩ := hrel
      by_cases hlt : k < m
      · have hki : (k : Int) < (m : Int) := by omega
        have hkl : (k : Int) < (xs.length : Int) := by omega
        have hne : xs.length ≠ 1 := by have := HM.out; omega
        obtain rfl := HAR.out hne
        obtain ⟨S, hS⟩ : ∃ S, S = xs.getD k ⟨#[]⟩ := ⟨_, rfl⟩
        obtain ⟨T, hT⟩ : ∃ T, T = xs.getD (k + 1) ⟨#[]⟩ := ⟨_, rfl⟩
        obtain ⟨s1, s2⟩ := ALL.out k (by omega)
        obtain ⟨t1, t2⟩ := ALL.out (k + 1) (by omega)
        have y0 := (hbel.cell (p := ⟨gu, k * 2, none⟩) hgu).trans (OW.out.cell (q := k * 2) (by omega))
        have y1 := (hbel.cell (p := ⟨gu, k * 2 + 1, none⟩) hgu).trans (OW.out.cell (q := k * 2 + 1) (by omega))
        have x0 := (hbel.cell (p := ⟨gu, (k + 1) * 2, none⟩) hgu).trans (OW.out.cell (q := (k + 1) * 2) (by omega))
        have x1 := (hbel.cell (p := ⟨gu, (k + 1) * 2 + 1, none⟩) hgu).trans (OW.out.cell (q := (k + 1) * 2 + 1) (by omega))
        rw [tkF_even, ← hS] at y0
        rw [tkF_odd, ← hS] at y1
        rw [tkF_even, ← hT, show (k + 1) * 2 = 2 + k * 2 by omega] at x0
        rw [tkF_odd, ← hT, show (k + 1) * 2 + 1 = 2 + k * 2 + 1 by omega] at x1
        rw [← hS] at s1 s2
        rw [← hT] at t1 t2
        obtain ⟨l, hlz⟩ : ∃ l, T.size = l + 1 := ⟨T.size - 1, by have := (trB_of t1).1; omega⟩
        have hsT := (trB_of t1).1
        have NX := Lib.hid (show psTo xs (k + 1) = psTo xs k + (if ((oc S).testBit l && !(oc T).testBit l) = true then 1 else 0) by
          have e : psB xs k = ((oc S).testBit l && !(oc T).testBit l) := by
            unfold psB
            rw [← hS, ← hT, ← t2, hlz, Nat.add_sub_cancel]
          rw [← e]
          rfl)
        have hr := psTo_range xs k
        obtain ⟨n, hn⟩ : ∃ n, n = psTo xs k := ⟨_, rfl⟩
        rw [← hn] at NX hr
        rw [← hn]
        have hwn : IntKind.i64.wrap (n + 1) = n + 1 := IntWalk.i64_in _ (by omega)
        have LA := fun (W : World) => last_is T.size (oc T) hsT W
        have H1 := fun (W : World) => has_is S.size (oc S) l (oc_lt2 s1).2 (by omega) W
        have H2 := fun (W : World) => has_is T.size (oc T) l (oc_lt2 t1).2 (by omega) W
        have el : (l : Int) = (T.size : Int) - 1 := by omega
        simp only [el] at H1 H2
        obtain ⟨p, hp⟩ : ∃ p, p = (oc S).testBit l := ⟨_, rfl⟩
        obtain ⟨q, hq⟩ : ∃ q, q = (oc T).testBit l := ⟨_, rfl⟩
        simp only [← hp] at H1
        simp only [← hq] at H2
        rw [← hp, ← hq] at NX
        have P := Pair.new wr (.int .u64 (oc T : Nat)) (.int .i64 (T.size : Nat)) 54
        have b6 := hbel.alloc hbel.size (.cells #[.int .u64 (oc T : Nat), .int .i64 (T.size : Nat)] 54)
        have ba := below_alloc wr (.cells #[.int .u64 (oc T : Nat), .int .i64 (T.size : Nat)] 54)
        have hgw : gu < wr.heap.size := Nat.lt_of_lt_of_le hgu hbel.size
        have v0 := (ba.cell (p := ⟨gu, k * 2, none⟩) hgw).trans y0
        have v1 := (ba.cell (p := ⟨gu, k * 2 + 1, none⟩) hgw).trans y1
        obtain ⟨W6, hW6⟩ : ∃ X, X = wr.alloc (.cells #[.int .u64 (oc T : Nat), .int .i64 (T.size : Nat)] 54) := ⟨_, rfl⟩
        rw [← hW6] at P b6 v0 v1
        have HW6 := Lib.hid hW6
        have d0 := P.cell0
        have d1 := P.cell1
        have B6 := Lib.hid b6
        unfold tkc at LA H1 H2
        have GL := Lib.hid (fun (d : Nat) (os : Array Obj) => Calls.regrown_of (LA (grow (redrawn W6 d) os)))
        have G1 := Lib.hid (fun (d : Nat) (os : Array Obj) => Calls.regrown_of (H1 (grow (redrawn W6 d) os)))
        have G2 := Lib.hid (fun (d : Nat) (os : Array Obj) => Calls.regrown_of (H2 (grow (redrawn W6 d) os)))
        clear hS hT s1 s2 t1 t2 hlz hsT hn LA H1 H2 el hp hq P b6 ba hW6 hbel hlt y0 y1
        go_upto_region 8 with fail
        rw [← HW6.out]
        clear x0 x1
        have z0 := fun d os => cell_regrown d0 d os
        have z1 := fun d os => cell_regrown d1 d os
        have z2 := fun d os => cell_regrown v0 d os
        have z3 := fun d os => cell_regrown v1 d os
        cases p with
        | false =>
          refine wp_region_quiet_below (by kernel_rfl) (by kernel_rfl) ?_
          repeat (go_big_quiet_step (first | with_reducible exact GL.out _ _ | with_reducible exact G1.out _ _ | with_reducible exact G2.out _ _))
          refine wpQuiet_nil ?_
          intro _ hw'
          obtain ⟨⟨dq, osq⟩, hw''⟩ := hw'
          subst hw''
          have B7 := Lib.hid (B6.out.trans ((below_regrown W6 dq osq).mono B6.out.size))
          clear z0 z1 z2 z3 d0 d1 v0 v1
          go_wp2_with fail
          go_roundw
          case rel => exact ⟨k + 1, by omega, by go_num, by rw [NX.out]; simp, B7.out⟩
          case measure => simp [intOf]; omega
        | true =>
          cases q with
          | true =>
            refine wp_region_quiet_below (by kernel_rfl) (by kernel_rfl) ?_
            repeat (go_big_quiet_step (first | with_reducible exact GL.out _ _ | with_reducible exact G1.out _ _ | with_reducible exact G2.out _ _))
            refine wpQuiet_nil ?_
            intro _ hw'
            obtain ⟨⟨dq, osq⟩, hw''⟩ := hw'
            subst hw''
            have B7 := Lib.hid (B6.out.trans ((below_regrown W6 dq osq).mono B6.out.size))
            clear z0 z1 z2 z3 d0 d1 v0 v1
            go_wp2_with fail
            go_roundw
            case rel => exact ⟨k + 1, by omega, by go_num, by rw [NX.out]; simp, B7.out⟩
            case measure => simp [intOf]; omega
          | false =>
            refine wp_region_quiet_below (by kernel_rfl) (by kernel_rfl) ?_
            repeat (go_big_quiet_step (first | with_reducible exact GL.out _ _ | with_reducible exact G1.out _ _ | with_reducible exact G2.out _ _))
            refine wpQuiet_nil ?_
            intro _ hw'
            obtain ⟨⟨dq, osq⟩, hw''⟩ := hw'
            subst hw''
            have B7 := Lib.hid (B6.out.trans ((below_regrown W6 dq osq).mono B6.out.size))
            clear z0 z1 z2 z3 d0 d1 v0 v1
            go_wp2_with fail
            go_roundw
            case rel => exact ⟨k + 1, by omega, by go_num, by rw [NX.out]; simp, B7.out⟩
            case measure => simp [intOf]; omega
      · obtain rfl : k = m := by omega
        have B7 := Lib.hid (B1.out.trans (hbel.mono B1.out.size))
        clear hlt hbel
        go_wp2_with fail
        go_ret
        exact ⟨by rw [E.out]; rfl, B7.out⟩

end Go.Proofs.YtilkphehonilbaaDoor
