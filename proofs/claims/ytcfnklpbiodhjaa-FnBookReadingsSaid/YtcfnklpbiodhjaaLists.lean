/-
  Slices of lists of integers: what the laws' helpers do with them. For lists of at most 1048576 lists, each of at most as many integers.
-/
import Derived.Test.YtcfnklpbiodhjaaSlices
import Derived.Test.YtcfnklpbiodhjaaResults
import Derived.Lib.QuietBelow
namespace Go.Proofs.Ytcfnklpbiodhjaa
open Go.RowKit Go.Sort

/-- The value v can be read in w as a list of lists. -/
def Lists (w : World) (v : Value) (xss : List (List Int)) : Prop :=
  ∃ a cap, v = .slice a xss.length cap ∧ (xss.length ≤ 1048576 ∧ xss.length ≤ cap) ∧
    (xss = [] ∨ ∃ b o, a = some ⟨b, o, none⟩ ∧ b < w.heap.size ∧ ∀ i, i < xss.length → ∃ u, w.cell? ⟨b, o + i, none⟩ = some u ∧ Ints w u (xss.getD i []))

theorem Lists.below {w w' : World} {v : Value} {xss : List (List Int)} (h : Lists w v xss) (hb : Below w.heap.size w w') : Lists w' v xss := by
  obtain ⟨a, cap, rfl, hl, hc⟩ := h
  refine ⟨a, cap, rfl, hl, ?_⟩
  rcases hc with rfl | ⟨b, o, rfl, hlt, hcell⟩
  · exact .inl rfl
  · refine .inr ⟨b, o, rfl, Nat.lt_of_lt_of_le hlt hb.size, fun i hi => ?_⟩
    obtain ⟨u, hu, hi'⟩ := hcell i hi
    exact ⟨u, (hb.cell (p := ⟨b, o + i, none⟩) hlt).trans hu, hi'.below hb⟩

theorem Lists.len {w : World} {v : Value} {xss : List (List Int)} (h : Lists w v xss) : xss.length ≤ 1048576 := by
  obtain ⟨_, _, _, hl, _⟩ := h
  exact hl.1

theorem info_list : (Try.prog.info? 24).map (fun i => (i.zero, i.size, i.bytes)) = some (some (.slice none 0 0), 1, 24) := by kernel_rfl

/-- The first k rows of the new list in block B are there, each in a block of its own. -/
def RowsTo (w : World) (B : Nat) (xss : List (List Int)) (k : Nat) : Prop :=
  ∃ f : Nat → Value, w.rowIs B 24 xss.length f ∧ (∀ i, i < k → OwnI w (B + 1) (f i) (xss.getD i [])) ∧ (∀ i j, i < j → j < k → (f i).ownBlock = none ∨ (f i).ownBlock ≠ (f j).ownBlock)

theorem RowsTo.lt {w : World} {B : Nat} {xss : List (List Int)} {k : Nat} (h : RowsTo w B xss k) : B < w.heap.size := by
  obtain ⟨f, h, _⟩ := h
  exact h.lt

theorem RowsTo.below {w w' : World} {B : Nat} {xss : List (List Int)} {k : Nat} (h : RowsTo w B xss k) (hb : Below w.heap.size w w') : RowsTo w' B xss k := by
  obtain ⟨f, hr, hi, hd⟩ := h
  exact ⟨f, hr.of_block (hb.block _ hr.lt), fun i hik => (hi i hik).below hb, hd⟩

theorem RowsTo.cell {w : World} {B : Nat} {xss : List (List Int)} {k : Nat} (h : RowsTo w B xss k) {i : Nat} (hi : i < xss.length) : (∃ u, w.cell? ⟨B, i, none⟩ = some u) ∧ w.frozen? ⟨B, i, none⟩ = false := by
  obtain ⟨f, hr, _⟩ := h
  exact ⟨⟨_, hr.cell hi⟩, hr.frozen i⟩

theorem RowsTo.set {w w1 : World} {B : Nat} {xss : List (List Int)} {k : Nat} {u : Value} (h : RowsTo w B xss k) (hb : Below w.heap.size w w1) (ho : OwnI w1 w.heap.size u (xss.getD k [])) : RowsTo (w1.setCell ⟨B, k, none⟩ u) B xss (k + 1) := by
  have hB := h.lt
  obtain ⟨f, hr, hi, hd⟩ := h
  refine ⟨fun j => if j = k then u else f j, (hr.of_block (hb.block _ hB)).set k u, fun i hik => ?_, fun i j hij hjk => ?_⟩
  · by_cases e : i = k
    · subst e
      simp only [if_pos]
      exact ownsRow_setCell_below (OwnI.mono ho (by omega)) (by simp) u
    · simp only [if_neg e]
      exact ownsRow_setCell_below ((hi i (by omega)).below hb) (by simp) u
  · have ei : i ≠ k := by omega
    simp only [if_neg ei]
    by_cases e : j = k
    · simp only [if_pos e]
      exact apart (hi i (by omega)) (Nat.le_refl _) ho
    · simp only [if_neg e]
      exact hd i j hij (by omega)

/-- The value v owns a list of lists, from block base on. -/
def OwnLists (w : World) (base : Nat) (v : Value) (xss : List (List Int)) : Prop :=
  ∃ g, v = .slice (some ⟨g, 0, none⟩) xss.length xss.length ∧ base ≤ g ∧ RowsTo w g xss xss.length ∧ xss.length ≤ 1048576 ∧ ∀ i, i < xss.length → (xss.getD i []).length ≤ 1048576

theorem OwnLists.below {w w' : World} {base : Nat} {v : Value} {xss : List (List Int)} (h : OwnLists w base v xss) (hb : Below w.heap.size w w') : OwnLists w' base v xss := by
  obtain ⟨g, hv, hg, hr, hl⟩ := h
  exact ⟨g, hv, hg, hr.below hb, hl⟩

theorem OwnLists.lists {w : World} {base : Nat} {v : Value} {xss : List (List Int)} (h : OwnLists w base v xss) : Lists w v xss := by
  obtain ⟨g, rfl, hg, ⟨f, hr, hi, _⟩, hl, hll⟩ := h
  refine ⟨_, _, rfl, ⟨hl, Nat.le_refl _⟩, .inr ⟨g, 0, rfl, hr.lt, fun i hik => ⟨f i, ?_, (hi i hik).ints (hll i hik)⟩⟩⟩
  rw [Nat.zero_add]
  exact hr.cell hik

/-- A call that hands back a new list of lists, and writes nothing that was there. -/
def MadeLists (w : World) (xss : List (List Int)) (e : Ending) (w' : World) : Prop :=
  ∃ v, e = .returned v ∧ OwnLists w' w.heap.size v xss ∧ Below w.heap.size w w'

theorem Lists.row {w : World} {a : Option Addr} {n cap : Nat} {xss : List (List Int)} (h : Lists w (.slice a n cap) xss) {i : Nat} (hi : i < xss.length) : (xss.getD i []).length ≤ 1048576 := by
  obtain ⟨_, _, _, _, hc⟩ := h
  rcases hc with rfl | ⟨b, o, _, _, hcell⟩
  · simp at hi
  · obtain ⟨u, _, q⟩ := hcell i hi
    obtain ⟨_, _, _, hl, _⟩ := q
    exact hl.1

set_option maxHeartbeats 1000000 in
theorem toLists {w : World} {v : Value} {xss : List (List Int)} (h : Lists w v xss) : Calls Try.prog 12 #[v] w (MadeLists w xss) := by
  have hh := h
  obtain ⟨a, cap, rfl, hl, hc⟩ := h
  have hrow := fun i (hi : i < xss.length) => hh.row hi
  have hmk := run_make_row' (P := Try.prog) 23 24 (.slice none 0 0) 24 Try.underlying23 info_list rfl .i64 .i64 xss.length (by omega) (by omega)
  have hl' : (xss.length : Int) ≤ 1048576 := by omega
  have HR := Lib.hid hrow
  clear hrow
  rcases hc with rfl | ⟨b, o, rfl, hb, hcell⟩
  · have hmk0 : ∀ w : World, (Instr.makeSlice 23 (.int .i64 0) (.int .i64 0)).run Try.prog w = .ok (.slice (some ⟨w.heap.size, 0, none⟩) 0 0) (w.alloc (.cells (madeCells #[.slice none 0 0] 0) 24)) := hmk
    go_enter Try.func12, Try.ntmps12
    go_wp2_with fail
    refine wp_loop_rounds 1 ?_
    rw [rounds_succ]
    go_wp2_with fail
    go_ret
    exact ⟨_, rfl, ⟨_, rfl, Nat.le_refl _, ⟨_, World.rowIs_made w _ 0 _, fun i hi => by simp at hi, fun i j _ hj => by simp at hj⟩, by simp, fun i hi => by simp at hi⟩, (Below.refl _ _).alloc (Nat.le_refl _) _⟩
  · have HC := Lib.hid hcell
    clear hcell
    go_enter Try.func12, Try.ntmps12
    go_wp2_with fail
    go_loopw [4] (fun i wr => ∃ k : Nat, k ≤ xss.length ∧ i = .int .i64 k ∧ RowsTo wr w.heap.size xss k ∧ Below w.heap.size w wr) (fun i _ => xss.length - (intOf i).toNat)
    case atStart =>
      exact ⟨0, by omega, rfl, ⟨_, World.rowIs_made w _ _ _, fun i hi => by omega, fun i j _ hj => by omega⟩, (Below.refl _ _).alloc (Nat.le_refl _) _⟩
    case round =>
      obtain ⟨k, hk, rfl, hrow, hbel⟩ := hrel
      have hsz : w.heap.size < wr.heap.size := hrow.lt
      by_cases hlt : k < xss.length
      · obtain ⟨u, hu, hi⟩ := HC.out k hlt
        have hc1 : wr.cell? ⟨b, o + k, none⟩ = some u := (hbel.cell (p := ⟨b, o + k, none⟩) hb).trans hu
        have hi1 := hi.below hbel
        clear hi hu
        go_wp2_with (go_at_call 13; refine (toInts hi1).mono ?_)
        rintro e w1 ⟨u', rfl, ho, hb1⟩
        obtain ⟨⟨uo, hc2⟩, hf2⟩ := (hrow.below hb1).cell hlt
        have HS := Lib.hid (hrow.set hb1 ho)
        have HB := Lib.hid ((hbel.trans (hb1.mono hbel.size)).setCell (p := ⟨w.heap.size, k, none⟩) (Nat.le_refl _) u')
        have hsh : ∃ a n c, u' = .slice a n c := by
          rcases OwnI.shape ho with ⟨rfl, _⟩ | ⟨g, c, rfl, _⟩
          · exact ⟨_, _, _, rfl⟩
          · exact ⟨_, _, _, rfl⟩
        obtain ⟨a', n', c', rfl⟩ := hsh
        clear ho hb1 hrow hbel
        go_wp2_with fail
        go_roundw
        case rel => exact ⟨k + 1, by omega, by go_num, HS.out, HB.out⟩
        case measure => simp [intOf]; omega
      · obtain rfl : k = xss.length := by omega
        go_wp2_with fail
        go_ret
        exact ⟨_, rfl, ⟨_, rfl, Nat.le_refl _, hrow, by omega, HR.out⟩, hbel⟩

set_option maxHeartbeats 1000000 in
theorem eqLists {w : World} {u v : Value} {xss : List (List Int)} (h : Lists w u xss) (h' : Lists w v xss) :
    Calls Try.prog 14 #[u, v] w fun e w' => e = .returned (.bool true) ∧ Below w.heap.size w w' := by
  obtain ⟨a, cap, rfl, hl, hc⟩ := h
  obtain ⟨a', cap', rfl, -, hc'⟩ := h'
  have hl' : (xss.length : Int) ≤ 1048576 := by omega
  rcases hc with rfl | ⟨b, o, rfl, hb, hcell⟩
  · go_enter Try.func14, Try.ntmps14
    go_wp2_with fail
    refine wp_loop_rounds 1 ?_
    rw [rounds_succ]
    go_wp2_with fail
    go_ret
    exact ⟨rfl, Below.refl _ _⟩
  · rcases hc' with rfl | ⟨b', o', rfl, hb', hcell'⟩
    · go_enter Try.func14, Try.ntmps14
      go_wp2_with fail
      refine wp_loop_rounds 1 ?_
      rw [rounds_succ]
      go_wp2_with fail
      go_ret
      exact ⟨rfl, Below.refl _ _⟩
    · have HC := Lib.hid hcell
      have HC' := Lib.hid hcell'
      clear hcell hcell'
      go_enter Try.func14, Try.ntmps14
      go_wp2_with fail
      go_loopw [5] (fun i wr => ∃ k : Nat, k ≤ xss.length ∧ i = .int .i64 k ∧ Below w.heap.size w wr) (fun i _ => xss.length - (intOf i).toNat)
      case atStart => exact ⟨0, by omega, rfl, Below.refl _ _⟩
      case round =>
        obtain ⟨k, hk, rfl, hbel⟩ := hrel
        by_cases hlt : k < xss.length
        · obtain ⟨x, hx, ix⟩ := HC.out k hlt
          obtain ⟨y, hy, iy⟩ := HC'.out k hlt
          have hc1 : wr.cell? ⟨b, o + k, none⟩ = some x := (hbel.cell (p := ⟨b, o + k, none⟩) hb).trans hx
          have hc2 : wr.cell? ⟨b', o' + k, none⟩ = some y := (hbel.cell (p := ⟨b', o' + k, none⟩) hb').trans hy
          have hd1 : ∀ d os, (grow (redrawn wr d) os).cell? ⟨b, o + k, none⟩ = some x := fun d os => cell_regrown hc1 d os
          have hd2 : ∀ d os, (grow (redrawn wr d) os).cell? ⟨b', o' + k, none⟩ = some y := fun d os => cell_regrown hc2 d os
          have HE : ∀ d os, Calls Try.prog 15 #[x, y] (grow (redrawn wr d) os) fun e w'' => e = .returned (.bool true) ∧ ∃ p : Regrown, w'' = grow (redrawn wr p.d) p.os :=
            fun d os => Calls.regrown_of (eqInts ((ix.below hbel).below (below_regrown wr d os)) ((iy.below hbel).below (below_regrown wr d os)))
          have HE' := Lib.hid HE
          clear HE ix iy hx hy
          have hi : (k : Int) < (xss.length : Int) := by omega
          go_wp2_with fail
          refine wp_region_quiet_below (by kernel_rfl) (by kernel_rfl) ?_
          repeat (quiet_step (exact HE'.out _ _))
          refine wpQuiet_nil ?_
          intro _ hw'
          obtain ⟨⟨dq, osq⟩, hw''⟩ := hw'
          subst hw''
          go_wp2_with fail
          go_roundw
          case rel => exact ⟨k + 1, by omega, by go_num, hbel.trans ((below_regrown wr dq osq).mono hbel.size)⟩
          case measure => simp [intOf]; omega
        · go_wp2_with fail
          go_ret
          exact ⟨rfl, hbel⟩

end Go.Proofs.Ytcfnklpbiodhjaa
