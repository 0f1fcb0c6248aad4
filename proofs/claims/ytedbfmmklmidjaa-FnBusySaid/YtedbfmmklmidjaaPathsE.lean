/-
  Lists of paths: the laws' comparison, and the look at their sizes. For lists of at most 1048576 paths, each list in them of at most as many integers.
-/
import Derived.Test.YtedbfmmklmidjaaPathsL
namespace Go.Proofs.Ytedbfmmklmidjaa
open Go.RowKit Go.Sort

set_option maxHeartbeats 1000000 in
theorem eqPathsS {w : World} {u v : Value} {ps : List (List Int × List Int)} (h : Paths w u ps) (h' : Paths w v ps) :
    Calls Try.prog 20 #[u, v] w fun e w' => e = .returned (.bool true) ∧ Below w.heap.size w w' := by
  obtain ⟨a, cap, rfl, hl, hc⟩ := h
  obtain ⟨a', cap', rfl, -, hc'⟩ := h'
  have hl' : (ps.length : Int) ≤ 1048576 := by omega
  rcases hc with rfl | ⟨b, o, rfl, hb, hcell⟩
  · go_enter Try.func20, Try.ntmps20
    go_wp2_with fail
    refine wp_loop_rounds 1 ?_
    rw [rounds_succ]
    go_wp2_with fail
    go_ret
    exact ⟨rfl, Below.refl _ _⟩
  · rcases hc' with rfl | ⟨b', o', rfl, hb', hcell'⟩
    · go_enter Try.func20, Try.ntmps20
      go_wp2_with fail
      refine wp_loop_rounds 1 ?_
      rw [rounds_succ]
      go_wp2_with fail
      go_ret
      exact ⟨rfl, Below.refl _ _⟩
    · have HC := Lib.hid hcell
      have HC' := Lib.hid hcell'
      clear hcell hcell'
      go_enter Try.func20, Try.ntmps20
      go_wp2_with fail
      go_loopw [5] (fun i wr => ∃ k : Nat, k ≤ ps.length ∧ i = .int .i64 k ∧ Below w.heap.size w wr) (fun i _ => ps.length - (intOf i).toNat)
      case atStart => exact ⟨0, by omega, rfl, Below.refl _ _⟩
      case round =>
        obtain ⟨k, hk, rfl, hbel⟩ := hrel
        by_cases hlt : k < ps.length
        · obtain ⟨x1, x2, hx1, hx2, ix⟩ := ((HC.out k hlt).below hbel).pathV
          obtain ⟨y1, y2, hy1, hy2, iy⟩ := ((HC'.out k hlt).below hbel).pathV
          have hd1 := fun d os => cell_regrown hx1 d os
          have hd2 := fun d os => cell_regrown hx2 d os
          have hd3 := fun d os => cell_regrown hy1 d os
          have hd4 := fun d os => cell_regrown hy2 d os
          have HE : ∀ d os, Calls Try.prog 66 #[.agg #[x1, x2], .agg #[y1, y2]] (grow (redrawn wr d) os) fun e w'' => e = .returned (.bool true) ∧ ∃ p : Regrown, w'' = grow (redrawn wr p.d) p.os :=
            fun d os => Calls.regrown_of (eqPaths2 (ix.below (below_regrown wr d os)) (iy.below (below_regrown wr d os)))
          have HE' := Lib.hid HE
          clear HE ix iy
          have hi : (k : Int) < (ps.length : Int) := by omega
          go_wp2_with fail
          refine wp_region_quiet_below (by kernel_rfl) (by kernel_rfl) ?_
          repeat (go_big_quiet_step (exact HE'.out _ _))
          refine wpQuiet_nil ?_
          intro _ hw'
          obtain ⟨⟨dq, osq⟩, hw''⟩ := hw'
          subst hw''
          go_wp2_with fail
          go_roundw
          case rel => exact ⟨k + 1, by omega, by go_num, hbel.trans ((below_regrown wr dq osq).mono hbel.size)⟩
          case measure => simp [intOf]; omega
        · go_wp2_with fail
          go_ret
          exact ⟨rfl, hbel⟩

theorem paths_of {w : World} {x : Addr} {len cap : Nat} {A1 A2 : Nat → Option Addr} {N1 C1 N2 C2 : Nat → Nat} {Z1 Z2 : Nat → List Int} (hl : len ≤ cap) (hl2 : len ≤ 1048576)
    (hr : ∀ i, i < cap → w.cell? (x.add (i * 2)) = some (.slice (A1 i) (N1 i) (C1 i)) ∧ w.cell? (x.add (i * 2 + 1)) = some (.slice (A2 i) (N2 i) (C2 i)) ∧ IsRowK .i64 w (A1 i) (N1 i) (C1 i) (Z1 i) ∧ IsRowK .i64 w (A2 i) (N2 i) (C2 i) (Z2 i))
    (hs : ∀ i, i < len → N1 i ≤ 1048576 ∧ N2 i ≤ 1048576) : ∃ ps, Paths w (.slice (some x) len cap) ps := by
  refine ⟨(List.range len).map fun i => ((Z1 i).take (N1 i), (Z2 i).take (N2 i)), some x, cap, by simp, ⟨by simpa using hl2, by simpa using hl⟩, ?_⟩
  by_cases h0 : len = 0
  · subst h0; exact .inl (by simp)
  · obtain ⟨b, off, spot⟩ := x
    have hspot : spot = none := by
      have := World.cell?_spot (hr 0 (by omega)).1
      simpa [Addr.add] using this
    subst hspot
    have ea : ∀ i, (⟨b, off, none⟩ : Addr).add i = ⟨b, off + i, none⟩ := fun i => by unfold Addr.add; split <;> simp_all
    have h00 := (hr 0 (by omega)).1
    rw [ea] at h00
    have hb : b < w.heap.size := World.block_lt_of_cell? w _ h00
    refine .inr ⟨b, off, rfl, hb, fun i hi => ?_⟩
    have hi' : i < len := by simpa using hi
    obtain ⟨e1, e2, r1, r2⟩ := hr i (by omega)
    rw [ea] at e1 e2
    have hg : ((List.range len).map fun i => ((Z1 i).take (N1 i), (Z2 i).take (N2 i))).getD i noPath = ((Z1 i).take (N1 i), (Z2 i).take (N2 i)) := by simp [hi']
    rw [hg]
    exact ⟨_, _, e1, e2, hb, ints_of_rowK r1 (hs i hi').1, ints_of_rowK r2 (hs i hi').2⟩

set_option maxHeartbeats 1000000 in
theorem szPathsK {w : World} {v : Value} (h : IsPathsK w v) :
    Calls Try.prog 15 #[v, .int .i64 1048576] w fun e w' => ∃ n : Int, e = .returned (.int .i64 n) ∧ n ≤ 1048576 ∧ (0 ≤ n → ∃ ps, Paths w v ps) ∧ Below w.heap.size w w' := by
  rcases h with rfl | ⟨x, len, cap, A1, A2, N1, C1, N2, C2, Z1, Z2, rfl, hl, hm, hr⟩
  · go_enter Try.func15, Try.ntmps15
    go_wp2_with fail
    refine wp_loop_rounds 1 ?_
    rw [rounds_succ]
    go_wp2_with fail
    go_ret
    exact ⟨_, rfl, by omega, fun _ => ⟨[], none, 0, rfl, by simp, .inl rfl⟩, Below.refl _ _⟩
  · have hm' : (len : Int) ≤ 9223372036854775807 := by unfold maxLen at hm; omega
    rcases Nat.lt_or_ge 1048576 len with hbig | hsm
    · have hb : (1048576 : Int) < (len : Int) := by omega
      have hd : decide (1048576 - (len : Int) < 0) = true := decide_eq_true (by omega)
      go_enter Try.func15, Try.ntmps15
      go_wp2_with fail
      go_ret
      exact ⟨_, rfl, by omega, fun q => absurd q (by decide), Below.refl _ _⟩
    · have hb : (len : Int) ≤ 1048576 := by omega
      have hd : decide (1048576 - (len : Int) < 0) = false := by simp; omega
      by_cases h0 : len = 0
      · subst h0
        have HP := Lib.hid (paths_of hl hsm hr (fun i hi => by omega))
        clear hr
        go_enter Try.func15, Try.ntmps15
        go_wp2_with fail
        refine wp_loop_rounds 1 ?_
        rw [rounds_succ]
        go_wp2_with fail
        go_ret
        exact ⟨_, rfl, by omega, fun _ => HP.out, Below.refl _ _⟩
      · obtain ⟨b, off, spot⟩ := x
        have hspot : spot = none := by simpa [Addr.add] using World.cell?_spot (hr 0 (by omega)).1
        subst hspot
        have ea : ∀ i, (⟨b, off, none⟩ : Addr).add i = ⟨b, off + i, none⟩ := fun i => by unfold Addr.add; split <;> simp_all
        have h00 := (hr 0 (by omega)).1
        rw [ea] at h00
        have hbl : b < w.heap.size := World.block_lt_of_cell? w _ h00
        have HP := Lib.hid (fun hs => paths_of hl hsm hr hs)
        have HA := Lib.hid ea
        have HR := Lib.hid hr
        clear hr ea h0 hsm h00
        go_enter Try.func15, Try.ntmps15
        go_wp2_with fail
        go_loopw [1, 5] (fun m i wr => ∃ (k : Nat) (n : Int), k ≤ len ∧ i = .int .i64 k ∧ m = .int .i64 n ∧ 0 ≤ n ∧ n ≤ 1048576 ∧ (∀ j, j < k → N1 j ≤ 1048576 ∧ N2 j ≤ 1048576) ∧ Below w.heap.size w wr) (fun _ i _ => len - (intOf i).toNat)
        case atStart => exact ⟨0, _, by omega, rfl, rfl, by omega, by omega, fun r h1 => by omega, Below.refl _ _⟩
        case round =>
          obtain ⟨k, n, hk, rfl, rfl, hn0, hn1, hst, hbel⟩ := hrel
          by_cases hlt : k < len
          · obtain ⟨e1, e2, r1, r2⟩ := HR.out k (by omega)
            rw [HA.out] at e1 e2
            have f1 := (hbel.cell (p := ⟨b, off + k * 2, none⟩) hbl).trans e1
            have f2 : wr.cell? ⟨b, off + k * 2 + 1, none⟩ = some (.slice (A2 k) (N2 k) (C2 k)) := (hbel.cell (p := ⟨b, off + (k * 2 + 1), none⟩) hbl).trans e2
            have hki : (k : Int) < (len : Int) := by omega
            have HS := Lib.hid (szPath (w := wr) (a1 := A1 k) (c1 := C1 k) (a2 := A2 k) (c2 := C2 k) (Nat.le_trans r1.le.1 r1.le.2) (Nat.le_trans r2.le.1 r2.le.2) hn0 hn1)
            have ST := Lib.hid hst
            clear hst e1 e2 r1 r2
            go_wp2_with (go_at_call 63; refine HS.out.mono ?_)
            rintro e w2 ⟨rfl, b2⟩
            obtain ⟨z, hz⟩ : ∃ z, z = szOf n (N1 k) (N2 k) := ⟨_, rfl⟩
            rw [← hz]
            have Z := Lib.hid hz
            clear hz
            have c2 := hbel.trans (b2.mono hbel.size)
            by_cases hneg : z < 0
            · go_wp2_with fail
              go_ret
              exact ⟨_, rfl, by omega, fun q => absurd q (by decide), c2⟩
            · have hd2 : decide (z < 0) = false := by simpa using hneg
              have hz2 : z ≤ 1048576 ∧ N1 k ≤ 1048576 ∧ N2 k ≤ 1048576 := by
                have hz := Z.out
                unfold szOf at hz
                split at hz
                · omega
                · split at hz <;> omega
              have ST2 := Lib.hid (show ∀ j, j < k + 1 → N1 j ≤ 1048576 ∧ N2 j ≤ 1048576 from fun j hj => by
                by_cases e : j = k
                · subst e; exact hz2.2
                · exact ST.out j (by omega))
              have hz3 := hz2.1
              clear hneg hz2
              go_wp2_with fail
              go_roundw
              case rel => exact ⟨k + 1, z, by omega, by go_num, rfl, by simpa using hd2, hz3, ST2.out, c2⟩
              case measure => simp [intOf]; omega
          · obtain rfl : k = len := by omega
            have ST := Lib.hid hst
            clear hst
            go_wp2_with fail
            go_ret
            exact ⟨_, rfl, by omega, fun _ => HP.out ST.out, hbel⟩

end Go.Proofs.Ytedbfmmklmidjaa
