/-
  What the laws' helpers do with lines: a copy, a comparison, the look at the sizes. For at most 1048576 blocks and as many trains.
-/
import Derived.Test.YtpofkfcjnhoamaaOpenL
import Derived.Test.YtpofkfcjnhoamaaOpenB
import Derived.Test.YtpofkfcjnhoamaaLawC
import Derived.Test.YtpofkfcjnhoamaaSz
import Derived.Test.YtpofkfcjnhoamaaResults
import Derived.Test.YtpofkfcjnhoamaaPairB
namespace Go.Proofs.Ytpofkfcjnhoamaa
open Go.RowKit Go.Sort

theorem info_block : (Try.prog.info? 33).map (fun i => (i.zero, i.size, i.bytes)) = some (some (.agg #[.int .i64 0, .bool false, .bool false]), 3, 16) := by kernel_rfl

theorem run_make_blocks (n : Nat) (hn : n ≤ 1048576) (w : World) :
    (Instr.makeSlice 23 (.int .i64 (n : Int)) (.int .i64 (n : Int))).run Try.prog w = .ok (.slice (some ⟨w.heap.size, 0, none⟩) n n) (w.alloc (.cells (madeCells #[.int .i64 0, .bool false, .bool false] (n * 3)) 33)) := by
  obtain ⟨i, hi, hz, hs, hb⟩ := info_parts info_block
  have hr := run_make (P := Try.prog) w 23 33 i (.agg #[.int .i64 0, .bool false, .bool false]) Try.underlying23 hi hz .i64 .i64 n n (by omega) (Int.le_refl _) (by rw [hb]; omega) (by omega)
  simp only [Int.toNat_natCast, hs] at hr
  exact hr
theorem blocks_made (w : World) (n : Nat) : (w.alloc (.cells (madeCells #[.int .i64 0, .bool false, .bool false] (n * 3)) 33)).rowIs w.heap.size 33 (n * 3) (bkF []) :=
  ⟨_, Go.Deep.blk_alloc_new _ _, size_madeCells _ _, fun i hi => by
    have hm : i % 3 = 0 ∨ i % 3 = 1 ∨ i % 3 = 2 := by omega
    simp only [madeCells, Array.getElem?_map, Array.getElem?_range]
    rw [if_pos hi]
    simp only [Option.map_some, List.size_toArray, List.length_cons, List.length_nil]
    unfold bkF
    rcases hm with q | q | q <;> (rw [show i % (0 + 1 + 1 + 1) = i % 3 by rfl, q]; rfl)⟩

def MadeBlks (w : World) (bs : List Blk) (e : Ending) (w' : World) : Prop := ∃ v, e = .returned v ∧ OwnB w' w.heap.size v bs ∧ Below w.heap.size w w'

/-- A list of which the first k blocks are there. -/
def bkTill (bs : List Blk) (k q : Nat) : Value := if q < k * 3 then bkF bs q else bkF [] q
theorem bkTill_succ (bs : List Blk) (k : Nat) (q : Nat) : (if q = k * 3 + 2 then Value.bool (bs.getD k nb).2.2 else if q = k * 3 + 1 then Value.bool (bs.getD k nb).2.1 else if q = k * 3 then Value.int .i64 (bs.getD k nb).1 else bkTill bs k q) = bkTill bs (k + 1) q := by
  unfold bkTill
  by_cases h2 : q = k * 3 + 2
  · rw [if_pos h2, if_pos (by omega), h2, bkF2]
  · rw [if_neg h2]
    by_cases h1 : q = k * 3 + 1
    · rw [if_pos h1, if_pos (by omega), h1, bkF1]
    · rw [if_neg h1]
      by_cases h0 : q = k * 3
      · rw [if_pos h0, if_pos (by omega), h0, bkF0]
      · rw [if_neg h0]
        by_cases h : q < k * 3
        · rw [if_pos h, if_pos (by omega)]
        · rw [if_neg h, if_neg (by omega)]

set_option maxHeartbeats 1000000 in
theorem toBlocks {w : World} {v : Value} {bs : List Blk} (h : Blks w v bs) : Calls Try.prog 64 #[v] w (MadeBlks w bs) := by
  obtain ⟨a, cap, rfl⟩ := Rd.slice h
  have hl := Rd.len h
  have hmk := run_make_blocks bs.length hl
  have hl' : (bs.length : Int) ≤ 1048576 := by omega
  by_cases h0 : bs = []
  · subst h0
    have hmk0 : ∀ w : World, (Instr.makeSlice 23 (.int .i64 0) (.int .i64 0)).run Try.prog w = .ok (.slice (some ⟨w.heap.size, 0, none⟩) 0 0) (w.alloc (.cells (madeCells #[.int .i64 0, .bool false, .bool false] 0) 33)) := hmk
    clear hmk h
    go_enter Try.func64, Try.ntmps64
    go_wp2_with fail
    refine wp_loop_rounds 1 ?_
    rw [rounds_succ]
    go_wp2_with fail
    go_ret
    exact ⟨_, rfl, ow_of_rowIs (k := 3) (n := 0) (blocks_made w 0) (Nat.le_refl _) (by simp [maxLen]), (Below.refl _ _).alloc (Nat.le_refl _) _⟩
  · have hpos : 0 < bs.length := List.length_pos_iff.2 h0
    obtain ⟨b, o, rfl, hb, hcell⟩ := Blks.at h hpos
    have HC := Lib.hid hcell
    clear hcell h h0 hpos
    go_enter Try.func64, Try.ntmps64
    go_wp2_with fail
    go_loopw [4] (fun i wr => ∃ k : Nat, k ≤ bs.length ∧ i = .int .i64 k ∧ wr.rowIs w.heap.size 33 (bs.length * 3) (bkTill bs k) ∧ Below w.heap.size w wr) (fun i _ => bs.length - (intOf i).toNat)
    case atStart => exact ⟨0, by omega, rfl, (blocks_made w bs.length).congr (fun q _ => by unfold bkTill; rw [if_neg (by omega)]), (Below.refl _ _).alloc (Nat.le_refl _) _⟩
    case round =>
      obtain ⟨k, hk, rfl, hrow, hbel⟩ := hrel
      have hsz : w.heap.size < wr.heap.size := hrow.lt
      by_cases hlt : k < bs.length
      · obtain ⟨e0, e1, e2⟩ := HC.out k hlt
        have c0 := (hbel.cell (p := ⟨b, o + k * 3, none⟩) hb).trans e0
        have c1 : wr.cell? ⟨b, o + k * 3 + 1, none⟩ = _ := (hbel.cell (p := ⟨b, o + k * 3 + 1, none⟩) hb).trans e1
        have c2 : wr.cell? ⟨b, o + k * 3 + 2, none⟩ = _ := (hbel.cell (p := ⟨b, o + k * 3 + 2, none⟩) hb).trans e2
        have hki : (k : Int) < (bs.length : Int) := by omega
        obtain ⟨x, hx⟩ : ∃ x, x = bs.getD k nb := ⟨_, rfl⟩
        rw [← hx] at c0 c1 c2
        have X := Lib.hid hx
        have HR := Lib.hid hrow
        have HB := Lib.hid hbel
        clear hx e0 e1 e2 hrow hbel
        go_wp2_with (go_at_call 85; refine (toBlock x _).mono ?_)
        rintro e w1 ⟨rfl, b1⟩
        have row1 := HR.out.of_block (b1.block _ HR.out.lt)
        have d0 := row1.cell (i := k * 3) (by omega)
        have d1 := row1.cell (i := k * 3 + 1) (by omega)
        have d2 := row1.cell (i := k * 3 + 2) (by omega)
        have f0 := row1.frozen (k * 3)
        have f1 := row1.frozen (k * 3 + 1)
        have f2 := row1.frozen (k * 3 + 2)
        have R3 := Lib.hid (((row1.set (k * 3) (.int .i64 x.1)).set (k * 3 + 1) (.bool x.2.1)).set (k * 3 + 2) (.bool x.2.2))
        have B3 := Lib.hid ((((HB.out.trans (b1.mono HB.out.size)).setCell (p := ⟨w.heap.size, k * 3, none⟩) (Nat.le_refl _) (.int .i64 x.1)).setCell (p := ⟨w.heap.size, k * 3 + 1, none⟩) (Nat.le_refl _) (.bool x.2.1)).setCell (p := ⟨w.heap.size, k * 3 + 2, none⟩) (Nat.le_refl _) (.bool x.2.2))
        clear row1 b1
        go_wp2_with fail
        go_roundw
        case rel => exact ⟨k + 1, by omega, by go_num, R3.out.congr (fun q _ => by rw [X.out]; exact bkTill_succ bs k q), B3.out⟩
        case measure => simp [intOf]; omega
      · obtain rfl : k = bs.length := by omega
        go_wp2_with fail
        go_ret
        exact ⟨_, rfl, ow_of_rowIs (hrow.congr fun q hq => by unfold bkTill; rw [if_pos hq]) (Nat.le_refl _) (by simp only [maxLen]; omega), hbel⟩

set_option maxHeartbeats 1000000 in
theorem eqBlocksS {w : World} {u v : Value} {bs : List Blk} (h : Blks w u bs) (h' : Blks w v bs) :
    Calls Try.prog 67 #[u, v] w fun e w' => e = .returned (.bool true) ∧ Below w.heap.size w w' := by
  obtain ⟨a, cap, rfl⟩ := Rd.slice h
  obtain ⟨a', cap', rfl⟩ := Rd.slice h'
  have hl := Rd.len h
  have hl' : (bs.length : Int) ≤ 1048576 := by omega
  by_cases h0 : bs = []
  · subst h0
    clear h h'
    go_enter Try.func67, Try.ntmps67
    go_wp2_with fail
    refine wp_loop_rounds 1 ?_
    rw [rounds_succ]
    go_wp2_with fail
    go_ret
    exact ⟨rfl, Below.refl _ _⟩
  · have hpos : 0 < bs.length := List.length_pos_iff.2 h0
    obtain ⟨b, o, rfl, hb, hcell⟩ := Blks.at h hpos
    obtain ⟨b', o', rfl, hb', hcell'⟩ := Blks.at h' hpos
    have HC := Lib.hid hcell
    have HC' := Lib.hid hcell'
    clear hcell h h0 hpos hcell' h'
    go_enter Try.func67, Try.ntmps67
    go_wp2_with fail
    go_loopw [5] (fun i wr => ∃ k : Nat, k ≤ bs.length ∧ i = .int .i64 k ∧ Below w.heap.size w wr) (fun i _ => bs.length - (intOf i).toNat)
    case atStart => exact ⟨0, by omega, rfl, Below.refl _ _⟩
    case round =>
      obtain ⟨k, hk, rfl, hbel⟩ := hrel
      by_cases hlt : k < bs.length
      · obtain ⟨e0, e1, e2⟩ := HC.out k hlt
        obtain ⟨g0, g1, g2⟩ := HC'.out k hlt
        have c0 := (hbel.cell (p := ⟨b, o + k * 3, none⟩) hb).trans e0
        have c1 : wr.cell? ⟨b, o + k * 3 + 1, none⟩ = _ := (hbel.cell (p := ⟨b, o + k * 3 + 1, none⟩) hb).trans e1
        have c2 : wr.cell? ⟨b, o + k * 3 + 2, none⟩ = _ := (hbel.cell (p := ⟨b, o + k * 3 + 2, none⟩) hb).trans e2
        have c3 := (hbel.cell (p := ⟨b', o' + k * 3, none⟩) hb').trans g0
        have c4 : wr.cell? ⟨b', o' + k * 3 + 1, none⟩ = _ := (hbel.cell (p := ⟨b', o' + k * 3 + 1, none⟩) hb').trans g1
        have c5 : wr.cell? ⟨b', o' + k * 3 + 2, none⟩ = _ := (hbel.cell (p := ⟨b', o' + k * 3 + 2, none⟩) hb').trans g2
        obtain ⟨x, hx⟩ : ∃ x, x = bs.getD k nb := ⟨_, rfl⟩
        rw [← hx] at c0 c1 c2 c3 c4 c5
        have d0 := fun d os => cell_regrown c0 d os
        have d1 := fun d os => cell_regrown c1 d os
        have d2 := fun d os => cell_regrown c2 d os
        have d3 := fun d os => cell_regrown c3 d os
        have d4 := fun d os => cell_regrown c4 d os
        have d5 := fun d os => cell_regrown c5 d os
        have HE := Lib.hid (fun d os => Calls.regrown_of (d := d) (os := os) (eqBlock x (grow (redrawn wr d) os)))
        have hi : (k : Int) < (bs.length : Int) := by omega
        clear e0 e1 e2 g0 g1 g2 hx
        go_wp2_with fail
        refine wp_region_quiet_below (by kernel_rfl) (by kernel_rfl) ?_
        repeat (go_big_quiet_step (exact HE.out _ _))
        refine wpQuiet_nil ?_
        intro _ hw'
        obtain ⟨⟨dq, osq⟩, hw''⟩ := hw'
        subst hw''
        go_wp2_with fail
        go_roundw
        case rel => exact ⟨k + 1, by omega, by go_num, hbel.trans ((below_regrown wr dq osq).mono hbel.size)⟩
        case measure => simp [intOf]; omega
      · go_wp2_with fail
        go_ret
        exact ⟨rfl, hbel⟩

set_option maxHeartbeats 400000 in
theorem szBlocks {w : World} {a : Option Addr} {n cap : Nat} {m : Int} (hn : n ≤ maxLen) (h0 : 0 ≤ m) (h1 : m ≤ 1048576) :
    Calls Try.prog 62 #[.slice a n cap, .int .i64 m] w fun e w' => e = .returned (.int .i64 (if m < n then -1 else m - n)) ∧ w = w' := by
  unfold maxLen at hn
  by_cases hlt : m < (n : Int)
  · go_enter Try.func62, Try.ntmps62
    go_wp2_with fail
    go_ret
    exact ⟨rfl, rfl⟩
  · have hge : (n : Int) ≤ m := by omega
    clear hlt
    go_enter Try.func62, Try.ntmps62
    go_wp2_with fail
    go_ret
    exact ⟨rfl, rfl⟩

end Go.Proofs.Ytpofkfcjnhoamaa
