/-
  The least gap between two trains of a section, by the model and by the program. For all lists of at most 1048576 paths.
-/
import Derived.Test.YtedbfmmklmidjaaSort
import Derived.BigRegion
namespace Go.Proofs.Ytedbfmmklmidjaa
open Go.RowKit Go.Sort

/-- The least of the first j gaps. -/
def gapTo (ps : List (List Int × List Int)) (k : Nat) (L : List Int) : Nat → Int
  | 0 => 2000
  | j + 1 => min (gapTo ps k L j) (inAt ps k (L.getD (j + 1) 0).toNat - outAt ps k (L.getD j 0).toNat)
def gapOf (n : Int) (ps : List (List Int × List Int)) (k : Int) : Int := if hasB n ps k = true ∧ 2 ≤ ps.length then gapTo ps k.toNat (orderOf ps k.toNat) (ps.length - 1) else -1
theorem gapOf_no {n : Int} {ps : List (List Int × List Int)} {k : Int} (h : hasB n ps k = false) : gapOf n ps k = -1 := by unfold gapOf; rw [if_neg (by rw [h]; simp)]
theorem gapOf_few {n : Int} {ps : List (List Int × List Int)} {k : Int} (h : (ps.length : Int) < 2) : gapOf n ps k = -1 := by unfold gapOf; rw [if_neg (by omega)]
theorem gapOf_is {n : Int} {ps : List (List Int × List Int)} {k : Int} (h : hasB n ps k = true) (h2 : 2 ≤ ps.length) : gapOf n ps k = gapTo ps k.toNat (orderOf ps k.toNat) (ps.length - 1) := by unfold gapOf; rw [if_pos ⟨h, h2⟩]
theorem gapTo_bounds {n : Int} {ps : List (List Int × List Int)} {k : Nat} (h : pathsB n ps = true) (hk : (k : Int) < n) : ∀ j, j + 1 ≤ ps.length → -2000 ≤ gapTo ps k (orderOf ps k) j ∧ gapTo ps k (orderOf ps k) j ≤ 2000 := by
  intro j
  induction j with
  | zero => intro _; exact ⟨by show (-2000 : Int) ≤ 2000; decide, by show (2000 : Int) ≤ 2000; decide⟩
  | succ j ih =>
    intro hj
    have q := ih (by omega)
    have b1 := sec_bounds h (order_get (k := k) (m := j + 1) (by rw [order_len]; omega)).2 hk
    have b2 := sec_bounds h (order_get (k := k) (m := j) (by rw [order_len]; omega)).2 hk
    unfold gapTo inAt outAt
    omega

set_option maxRecDepth 100000 in
set_option maxHeartbeats 8000000 in
theorem implGap {w : World} {v : Value} {n k : Int} {ps : List (List Int × List Int)} (h : Paths w v ps) :
    Calls Try.prog 26 #[.int .i64 n, v, .int .i64 k] w fun e w' => e = .returned (.int .i64 (gapOf n ps k)) ∧ Below w.heap.size w w' := by
  have hh := h
  obtain ⟨a, cap, rfl, hl, -⟩ := h
  have SV := Lib.hid (implOrder (n := n) (k := k) hh)
  have LV := ordV_length n ps k
  cases hp : hasB n ps k
  · have HN := Lib.hid (gapOf_no hp)
    rw [hp] at SV
    clear hp hh
    go_enter Try.func26, Try.ntmps26
    go_wp2_with (go_at_call 47; refine SV.out.mono ?_)
    rintro e w1 ⟨v1, rfl, o1, b1⟩
    go_wp2_with fail
    go_ret
    exact ⟨ret_int HN.out.symm, b1⟩
  · rw [hp] at SV
    obtain ⟨hpp, hk0, hkn⟩ := hasB_is hp
    obtain ⟨⟨hn1, hn5⟩, h8, _⟩ := pathsB_is hpp
    obtain ⟨k, rfl⟩ : ∃ m : Nat, k = (m : Int) := ⟨k.toNat, by omega⟩
    have EV := Lib.hid (show ordV n ps (k : Int) = orderOf ps k by unfold ordV; rw [hp, if_pos rfl, Int.toNat_natCast])
    have hlen : (ordV n ps (k : Int)).length = ps.length := by rw [EV.out, order_len]
    by_cases h2 : 2 ≤ ps.length
    · have HN := Lib.hid (show gapOf n ps (k : Int) = gapTo ps k (orderOf ps k) (ps.length - 1) by rw [gapOf_is hp h2, Int.toNat_natCast])
      have HP := Lib.hid hpp
      have HH := Lib.hid (fun (i : Nat) (hi : i < ps.length) => paths_at hh hi)
      have h2i : ¬ (ps.length : Int) < 2 := by omega
      have h1i : (1 : Int) ≤ (ps.length : Int) := by omega
      have HL := Lib.hid hlen
      have H2 := Lib.hid h2
      clear hp hpp hh hk0 h2 LV hlen
      go_enter Try.func26, Try.ntmps26
      go_wp2_with (go_at_call 47; refine SV.out.mono ?_)
      rintro e w1 ⟨v1, rfl, o1, b1⟩
      have hshape := o1.shape
      rcases hshape with ⟨-, e0⟩ | ⟨g, cp, rfl, hgb, hg⟩
      · have := HL.out; rw [e0] at this; simp at this; have := H2.out; omega
      have RD := Lib.hid (fun (i : Nat) (hi : i < (ordV n ps (k : Int)).length) => OwnI.readAt o1 i hi)
      have hcp : (ordV n ps (k : Int)).length ≤ cp := by
        rcases o1.2 with ⟨e, _⟩ | ⟨_, _, _, e, _, _, q, _⟩
        · cases e
        · simp only [Value.slice.injEq] at e; omega
      rw [HL.out] at hcp ⊢
      have hcpi : (ps.length : Int) ≤ (cp : Int) := by omega
      clear o1
      go_wp2_with fail
      go_loopw [9, 29] (fun gv i wr => ∃ j : Nat, j + 1 ≤ ps.length ∧ i = .int .i64 j ∧ gv = .int .i64 (gapTo ps k (orderOf ps k) j) ∧ Below w1.heap.size w1 wr) (fun _ i _ => ps.length - (intOf i).toNat)
      case atStart => exact ⟨0, by have := H2.out; omega, rfl, rfl, Below.refl _ _⟩
      case round =>
        obtain ⟨j, hj, rfl, rfl, hbel⟩ := hrel
        have BB := Lib.hid hbel
        clear hbel
        by_cases hlt : j + 1 < ps.length
        · have hol := order_len ps k
          obtain ⟨x0, xl⟩ := order_get (ps := ps) (k := k) (m := j + 1) (by omega)
          obtain ⟨y0, yl⟩ := order_get (ps := ps) (k := k) (m := j) (by omega)
          have gt : gapTo ps k (orderOf ps k) (j + 1) = min (gapTo ps k (orderOf ps k) j) (inAt ps k ((orderOf ps k).getD (j + 1) 0).toNat - outAt ps k ((orderOf ps k).getD j 0).toNat) := rfl
          have cx := RD.out (j + 1) (by rw [HL.out]; omega)
          have cy := RD.out j (by rw [HL.out]; omega)
          rw [EV.out] at cx cy
          obtain ⟨X, hX⟩ : ∃ X : Nat, X = ((orderOf ps k).getD (j + 1) 0).toNat := ⟨_, rfl⟩
          obtain ⟨Y, hY⟩ : ∃ Y : Nat, Y = ((orderOf ps k).getD j 0).toNat := ⟨_, rfl⟩
          have ex : (orderOf ps k).getD (j + 1) 0 = (X : Int) := by omega
          have ey : (orderOf ps k).getD j 0 = (Y : Int) := by omega
          rw [ex] at cx
          rw [ey] at cy
          rw [← hX] at xl gt
          rw [← hY] at yl gt
          obtain ⟨b, o, rfl, hb, hat⟩ := HH.out X xl
          obtain ⟨b1', o1, k1, b2, o2, k2, c1, c2, -, hb1, hb2, d1, d2⟩ := paths_cells hat HP.out xl hkn
          obtain ⟨b3, o3, k3, b4, o4, k4, c3, c4, -, hb3, hb4, d3, d4⟩ := paths_cells hat HP.out yl hkn
          obtain ⟨r1, r2, r3, r4, r5⟩ := sec_bounds HP.out xl hkn
          obtain ⟨u1, u2, u3, u4, u5⟩ := sec_bounds HP.out yl hkn
          have old : ∀ (q : Addr) (v : Value), q.block < w.heap.size → w.cell? q = some v → wr.cell? q = some v := fun q v hq hv => (BB.out.cell (Nat.lt_of_lt_of_le hq b1.size)).trans ((b1.cell hq).trans hv)
          have f1 := old _ _ hb c1
          have f2 := old _ _ hb c4
          have f3 := old _ _ hb1 d1
          have f4 := old _ _ hb4 d4
          have f5 := (BB.out.cell (p := ⟨g, j + 1, none⟩) hg).trans cx
          have f6 := (BB.out.cell (p := ⟨g, j, none⟩) hg).trans cy
          have f7 := f5
          rw [Nat.add_comm] at f7
          have f8 := f6
          rw [← Nat.zero_add j] at f8
          generalize (ps.getD X noPath).1.length = l1 at f1 r1
          generalize (ps.getD Y noPath).2.length = l2 at f2 u2
          obtain ⟨s, hs⟩ : ∃ s, s = (ps.getD X noPath).1.getD k 0 := ⟨_, rfl⟩
          obtain ⟨t, ht⟩ : ∃ t, t = (ps.getD Y noPath).2.getD k 0 := ⟨_, rfl⟩
          have gb := gapTo_bounds HP.out hkn j (by omega)
          obtain ⟨gv, hgv⟩ : ∃ gv, gv = gapTo ps k (orderOf ps k) j := ⟨_, rfl⟩
          rw [← hgv] at gb gt ⊢
          rw [← hs] at f3 r3
          rw [← ht] at f4 u5
          have hs2 : s ≤ 2000 := by rw [hs]; omega
          have ht0 : 0 ≤ t := by rw [ht]; omega
          have GT := Lib.hid (show gapTo ps k (orderOf ps k) (j + 1) = min gv (s - t) by rw [gt, hs, ht]; rfl)
          have w1' : IntKind.i64.wrap (s - t) = s - t := IntWalk.i64_in _ (by omega)
          have hXi : (X : Int) < (ps.length : Int) := by omega
          have hYi : (Y : Int) < (ps.length : Int) := by omega
          have hkl1 : (k : Int) < (l1 : Int) := by omega
          have hkl2 : (k : Int) < (l2 : Int) := by omega
          have hji : (j : Int) < ((ps.length - 1 : Nat) : Int) := by omega
          have hj1 : j < ps.length - 1 := by omega
          have hj2 : (j : Int) < (ps.length : Int) := by omega
          have hj3 : j < ps.length := by omega
          have hj4 : (j : Int) + 1 < (ps.length : Int) := by omega
          have hwj : IntKind.i64.wrap ((j : Int) + 1 - 1) = (j : Int) := by rw [IntWalk.i64_in _ (by omega)]; omega
          have hsz := BB.out.size
          clear gt cx cy hX hY ex ey x0 y0 hat c1 c2 c3 c4 d1 d2 d3 d4 old hs ht hgv r4 r5 u3 u4
          go_wp2_with fail
          have d1 := fun d os => cell_regrown f1 d os
          have d2 := fun d os => cell_regrown f2 d os
          have d3 := fun d os => cell_regrown f3 d os
          have d4 := fun d os => cell_regrown f4 d os
          have d5 := fun d os => cell_regrown f5 d os
          have d6 := fun d os => cell_regrown f6 d os
          refine wp_region_quiet_below (by kernel_rfl) (by kernel_rfl) ?_
          repeat (go_big_quiet_step (fail))
          refine wpQuiet_nil ?_
          intro _ hw'
          obtain ⟨⟨dq, osq⟩, hw''⟩ := hw'
          subst hw''
          have BR := (below_regrown wr dq osq).mono hsz
          have BF := Lib.hid (BB.out.trans BR)
          clear BR d1 d2 d3 d4 d5 d6
          go_wp2_with fail
          go_roundw
          case rel => exact ⟨j + 1, by omega, by go_num, by rw [GT.out], BF.out⟩
          case measure => simp [intOf]; omega
        · obtain rfl : j = ps.length - 1 := by omega
          go_wp2_with fail
          go_ret
          exact ⟨ret_int HN.out.symm, b1.trans (BB.out.mono b1.size)⟩
    · have HN := Lib.hid (gapOf_few (n := n) (ps := ps) (k := (k : Int)) (by omega))
      have h2i : (ps.length : Int) < 2 := by omega
      have HL := Lib.hid hlen
      clear hp hpp hh h2 hk0 LV hlen
      go_enter Try.func26, Try.ntmps26
      go_wp2_with (go_at_call 47; refine SV.out.mono ?_)
      rintro e w1 ⟨v1, rfl, o1, b1⟩
      obtain ⟨a1, d1, rfl⟩ := own_slice2 o1
      rw [HL.out]
      go_wp2_with fail
      go_ret
      exact ⟨ret_int HN.out.symm, b1⟩

set_option maxRecDepth 100000 in
set_option maxHeartbeats 8000000 in
theorem specGap {w : World} {v : Value} {n k : Int} {ps : List (List Int × List Int)} (h : Paths w v ps) :
    Calls Try.prog 27 #[.int .i64 n, v, .int .i64 k] w fun e w' => e = .returned (.int .i64 (gapOf n ps k)) ∧ Below w.heap.size w w' := by
  have hh := h
  obtain ⟨a, cap, rfl, hl, -⟩ := h
  have SV := Lib.hid (specPathsOrder (n := n) (k := k) hh)
  have LV := ordV_length n ps k
  cases hp : hasB n ps k
  · have HN := Lib.hid (gapOf_no hp)
    rw [hp] at SV
    clear hp hh
    go_enter Try.func27, Try.ntmps27
    go_wp2_with (go_at_call 48; refine SV.out.mono ?_)
    rintro e w1 ⟨v1, rfl, o1, b1⟩
    go_wp2_with fail
    go_ret
    exact ⟨ret_int HN.out.symm, b1⟩
  · rw [hp] at SV
    obtain ⟨hpp, hk0, hkn⟩ := hasB_is hp
    obtain ⟨⟨hn1, hn5⟩, h8, _⟩ := pathsB_is hpp
    obtain ⟨k, rfl⟩ : ∃ m : Nat, k = (m : Int) := ⟨k.toNat, by omega⟩
    have EV := Lib.hid (show ordV n ps (k : Int) = orderOf ps k by unfold ordV; rw [hp, if_pos rfl, Int.toNat_natCast])
    have hlen : (ordV n ps (k : Int)).length = ps.length := by rw [EV.out, order_len]
    by_cases h2 : 2 ≤ ps.length
    · have HN := Lib.hid (show gapOf n ps (k : Int) = gapTo ps k (orderOf ps k) (ps.length - 1) by rw [gapOf_is hp h2, Int.toNat_natCast])
      have HP := Lib.hid hpp
      have HH := Lib.hid (fun (i : Nat) (hi : i < ps.length) => paths_at hh hi)
      have h2i : ¬ (ps.length : Int) < 2 := by omega
      have h1i : (1 : Int) ≤ (ps.length : Int) := by omega
      have HL := Lib.hid hlen
      have H2 := Lib.hid h2
      clear hp hpp hh hk0 h2 LV hlen
      go_enter Try.func27, Try.ntmps27
      go_wp2_with (go_at_call 48; refine SV.out.mono ?_)
      rintro e w1 ⟨v1, rfl, o1, b1⟩
      have hshape := o1.shape
      rcases hshape with ⟨-, e0⟩ | ⟨g, cp, rfl, hgb, hg⟩
      · have := HL.out; rw [e0] at this; simp at this; have := H2.out; omega
      have RD := Lib.hid (fun (i : Nat) (hi : i < (ordV n ps (k : Int)).length) => OwnI.readAt o1 i hi)
      have hcp : (ordV n ps (k : Int)).length ≤ cp := by
        rcases o1.2 with ⟨e, _⟩ | ⟨_, _, _, e, _, _, q, _⟩
        · cases e
        · simp only [Value.slice.injEq] at e; omega
      rw [HL.out] at hcp ⊢
      have hcpi : (ps.length : Int) ≤ (cp : Int) := by omega
      clear o1
      go_wp2_with fail
      go_loopw [9, 10] (fun gv i wr => ∃ j : Nat, j + 1 ≤ ps.length ∧ i = .int .i64 ((j : Int) + 1) ∧ gv = .int .i64 (gapTo ps k (orderOf ps k) j) ∧ Below w1.heap.size w1 wr) (fun _ i _ => ps.length - (intOf i).toNat)
      case atStart => exact ⟨0, by have := H2.out; omega, rfl, rfl, Below.refl _ _⟩
      case round =>
        obtain ⟨j, hj, rfl, rfl, hbel⟩ := hrel
        have BB := Lib.hid hbel
        clear hbel
        by_cases hlt : j + 1 < ps.length
        · have hol := order_len ps k
          obtain ⟨x0, xl⟩ := order_get (ps := ps) (k := k) (m := j + 1) (by omega)
          obtain ⟨y0, yl⟩ := order_get (ps := ps) (k := k) (m := j) (by omega)
          have gt : gapTo ps k (orderOf ps k) (j + 1) = min (gapTo ps k (orderOf ps k) j) (inAt ps k ((orderOf ps k).getD (j + 1) 0).toNat - outAt ps k ((orderOf ps k).getD j 0).toNat) := rfl
          have cx := RD.out (j + 1) (by rw [HL.out]; omega)
          have cy := RD.out j (by rw [HL.out]; omega)
          rw [EV.out] at cx cy
          obtain ⟨X, hX⟩ : ∃ X : Nat, X = ((orderOf ps k).getD (j + 1) 0).toNat := ⟨_, rfl⟩
          obtain ⟨Y, hY⟩ : ∃ Y : Nat, Y = ((orderOf ps k).getD j 0).toNat := ⟨_, rfl⟩
          have ex : (orderOf ps k).getD (j + 1) 0 = (X : Int) := by omega
          have ey : (orderOf ps k).getD j 0 = (Y : Int) := by omega
          rw [ex] at cx
          rw [ey] at cy
          rw [← hX] at xl gt
          rw [← hY] at yl gt
          obtain ⟨b, o, rfl, hb, hat⟩ := HH.out X xl
          obtain ⟨b1', o1, k1, b2, o2, k2, c1, c2, -, hb1, hb2, d1, d2⟩ := paths_cells hat HP.out xl hkn
          obtain ⟨b3, o3, k3, b4, o4, k4, c3, c4, -, hb3, hb4, d3, d4⟩ := paths_cells hat HP.out yl hkn
          obtain ⟨r1, r2, r3, r4, r5⟩ := sec_bounds HP.out xl hkn
          obtain ⟨u1, u2, u3, u4, u5⟩ := sec_bounds HP.out yl hkn
          have old : ∀ (q : Addr) (v : Value), q.block < w.heap.size → w.cell? q = some v → wr.cell? q = some v := fun q v hq hv => (BB.out.cell (Nat.lt_of_lt_of_le hq b1.size)).trans ((b1.cell hq).trans hv)
          have f1 := old _ _ hb c1
          have f2 := old _ _ hb c4
          have f3 := old _ _ hb1 d1
          have f4 := old _ _ hb4 d4
          have f5 := (BB.out.cell (p := ⟨g, j + 1, none⟩) hg).trans cx
          have f6 := (BB.out.cell (p := ⟨g, j, none⟩) hg).trans cy
          have f7 := f5
          rw [Nat.add_comm] at f7
          have f8 := f6
          rw [← Nat.zero_add j] at f8
          generalize (ps.getD X noPath).1.length = l1 at f1 r1
          generalize (ps.getD Y noPath).2.length = l2 at f2 u2
          obtain ⟨s, hs⟩ : ∃ s, s = (ps.getD X noPath).1.getD k 0 := ⟨_, rfl⟩
          obtain ⟨t, ht⟩ : ∃ t, t = (ps.getD Y noPath).2.getD k 0 := ⟨_, rfl⟩
          have gb := gapTo_bounds HP.out hkn j (by omega)
          obtain ⟨gv, hgv⟩ : ∃ gv, gv = gapTo ps k (orderOf ps k) j := ⟨_, rfl⟩
          rw [← hgv] at gb gt ⊢
          rw [← hs] at f3 r3
          rw [← ht] at f4 u5
          have hs2 : s ≤ 2000 := by rw [hs]; omega
          have ht0 : 0 ≤ t := by rw [ht]; omega
          have GT := Lib.hid (show gapTo ps k (orderOf ps k) (j + 1) = min gv (s - t) by rw [gt, hs, ht]; rfl)
          have w1' : IntKind.i64.wrap (s - t) = s - t := IntWalk.i64_in _ (by omega)
          have hXi : (X : Int) < (ps.length : Int) := by omega
          have hYi : (Y : Int) < (ps.length : Int) := by omega
          have hkl1 : (k : Int) < (l1 : Int) := by omega
          have hkl2 : (k : Int) < (l2 : Int) := by omega
          have hji : (j : Int) < ((ps.length - 1 : Nat) : Int) := by omega
          have hj1 : j < ps.length - 1 := by omega
          have hj2 : (j : Int) < (ps.length : Int) := by omega
          have hj3 : j < ps.length := by omega
          have hj4 : (j : Int) + 1 < (ps.length : Int) := by omega
          have hwj : IntKind.i64.wrap ((j : Int) + 1 - 1) = (j : Int) := by rw [IntWalk.i64_in _ (by omega)]; omega
          have hsz := BB.out.size
          clear gt cx cy hX hY ex ey x0 y0 hat c1 c2 c3 c4 d1 d2 d3 d4 old hs ht hgv r4 r5 u3 u4
          go_wp2_with fail
          have d1 := fun d os => cell_regrown f1 d os
          have d2 := fun d os => cell_regrown f2 d os
          have d3 := fun d os => cell_regrown f3 d os
          have d4 := fun d os => cell_regrown f4 d os
          have d5 := fun d os => cell_regrown f5 d os
          have d6 := fun d os => cell_regrown f6 d os
          refine wp_region_quiet_below (by kernel_rfl) (by kernel_rfl) ?_
          repeat (go_big_quiet_step (fail))
          refine wpQuiet_nil ?_
          intro _ hw'
          obtain ⟨⟨dq, osq⟩, hw''⟩ := hw'
          subst hw''
          have BR := (below_regrown wr dq osq).mono hsz
          have BF := Lib.hid (BB.out.trans BR)
          clear BR d1 d2 d3 d4 d5 d6
          go_wp2_with fail
          go_roundw
          case rel => exact ⟨j + 1, by omega, by go_num, by rw [GT.out], BF.out⟩
          case measure => simp [intOf]; omega
        · obtain rfl : j = ps.length - 1 := by omega
          go_wp2_with fail
          go_ret
          exact ⟨ret_int HN.out.symm, b1.trans (BB.out.mono b1.size)⟩
    · have HN := Lib.hid (gapOf_few (n := n) (ps := ps) (k := (k : Int)) (by omega))
      have h2i : (ps.length : Int) < 2 := by omega
      have HL := Lib.hid hlen
      clear hp hpp hh h2 hk0 LV hlen
      go_enter Try.func27, Try.ntmps27
      go_wp2_with (go_at_call 48; refine SV.out.mono ?_)
      rintro e w1 ⟨v1, rfl, o1, b1⟩
      obtain ⟨a1, d1, rfl⟩ := own_slice2 o1
      rw [HL.out]
      go_wp2_with fail
      go_ret
      exact ⟨ret_int HN.out.symm, b1⟩

end Go.Proofs.Ytedbfmmklmidjaa
