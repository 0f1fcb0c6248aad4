/-
  A line that came in, and a list of moves that came in: what is known of their cells. No condition.
-/
import Derived.Test.YtpofkfcjnhoamaaBlks
import Derived.Test.YtpofkfcjnhoamaaRowK
import Derived.Deep.SlicePairs
import Derived.Deep.Strs
import Derived.Lib.SmallJoins
import Derived.Test.YtpofkfcjnhoamaaOpenB
import Derived.Test.YtpofkfcjnhoamaaLawC
import Derived.Test.YtpofkfcjnhoamaaSz
import Derived.Test.YtpofkfcjnhoamaaResults
import Derived.Test.YtpofkfcjnhoamaaPairB
namespace Go.Proofs.Ytpofkfcjnhoamaa
open Go.RowKit

/-- What is known of a list of blocks that came in. -/
def IsBlksK (w : World) (a : Option Addr) (n c : Nat) : Prop :=
  (a = none ∧ n = 0 ∧ c = 0) ∨ ∃ x bs, a = some x ∧ n ≤ c ∧ c ≤ maxLen ∧ bs.length = c ∧ ∀ q, q < c * 3 → w.cell? (x.add q) = some (bkF bs q)
/-- What is known of a line that came in. -/
def IsLineK (w : World) (v : Value) : Prop :=
  ∃ a1 n1 c1 a2 n2 c2 z2, v = .agg #[.slice a1 n1 c1, .slice a2 n2 c2] ∧ IsBlksK w a1 n1 c1 ∧ IsRowK .i64 w a2 n2 c2 z2
theorem IsBlksK.le {w : World} {a : Option Addr} {n c : Nat} (h : IsBlksK w a n c) : n ≤ c ∧ c ≤ maxLen := by
  rcases h with ⟨_, rfl, rfl⟩ | ⟨_, _, _, h1, h2, _⟩
  · exact ⟨Nat.le_refl _, Nat.zero_le _⟩
  · exact ⟨h1, h2⟩
theorem bkF_take {bs : List Blk} {n q : Nat} (h : q < n * 3) : bkF (bs.take n) q = bkF bs q := by
  have g : (bs.take n).getD (q / 3) nb = bs.getD (q / 3) nb := by
    simp only [List.getD_eq_getElem?_getD, List.getElem?_take, if_pos (show q / 3 < n by omega)]
  unfold bkF
  rw [g]
theorem blks_of_k {w : World} {a : Option Addr} {n c : Nat} (h : IsBlksK w a n c) (hn : n ≤ 1048576) : ∃ bs, Blks w (.slice a n c) bs := by
  rcases h with ⟨rfl, rfl, rfl⟩ | ⟨x, bs, rfl, h1, h2, h3, hc⟩
  · exact ⟨[], none, 0, rfl, by simp, .inl rfl⟩
  · have hlen : (bs.take n).length = n := by rw [List.length_take]; omega
    refine ⟨bs.take n, some x, c, by rw [hlen], ⟨by omega, by omega⟩, ?_⟩
    by_cases h0 : n = 0
    · subst h0; exact .inl (by simp)
    · obtain ⟨b, off, spot⟩ := x
      have hspot : spot = none := by simpa [Addr.add] using World.cell?_spot (hc 0 (by omega))
      subst hspot
      refine .inr ⟨b, off, rfl, World.block_lt_of_cell? w _ (hc 0 (by omega)), fun q hq => ?_⟩
      rw [hlen] at hq
      have := hc q (by omega)
      rw [show (⟨b, off, none⟩ : Addr).add q = ⟨b, off + q, none⟩ by unfold Addr.add; split <;> simp_all] at this
      rw [bkF_take hq]
      exact this
theorem IsBlksK.below {w w' : World} {a : Option Addr} {n c : Nat} (h : IsBlksK w a n c) (hb : Below w.heap.size w w') : IsBlksK w' a n c := by
  rcases h with h | ⟨x, bs, rfl, h1, h2, h3, h4⟩
  · exact .inl h
  · refine .inr ⟨x, bs, rfl, h1, h2, h3, fun q hq => ?_⟩
    have hx := World.block_lt_of_cell? w _ (h4 q hq)
    exact (hb.cell (p := x.add q) hx).trans (h4 q hq)
theorem rowK_below {k : IntKind} {w w' : World} {a : Option Addr} {n c : Nat} {z : List Int} (h : IsRowK k w a n c z) (hb : Below w.heap.size w w') : IsRowK k w' a n c z := by
  rcases h with h | ⟨x, rfl, h1, h2, h3, h4, h5⟩
  · exact .inl h
  · refine .inr ⟨x, rfl, h1, h2, h3, fun i hi => ?_, h5⟩
    have hx := World.block_lt_of_cell? w _ (h4 i hi)
    exact (hb.cell (p := x.add i) hx).trans (h4 i hi)
theorem IsLineK.below {w w' : World} {v : Value} (h : IsLineK w v) (hb : Below w.heap.size w w') : IsLineK w' v := by
  obtain ⟨a1, n1, c1, a2, n2, c2, z2, rfl, r1, r2⟩ := h
  exact ⟨a1, n1, c1, a2, n2, c2, z2, rfl, r1.below hb, rowK_below r2 hb⟩
theorem rowK_le {k : IntKind} {w : World} {a : Option Addr} {n c : Nat} {z : List Int} (h : IsRowK k w a n c z) : n ≤ c ∧ c ≤ maxLen := by
  rcases h with ⟨_, rfl, rfl, _⟩ | ⟨_, _, h1, h2, _⟩
  · exact ⟨Nat.le_refl _, Nat.zero_le _⟩
  · exact ⟨h1, h2⟩

section
variable {H : Type} {enc : TypeId × Value → H} {W : World}

theorem cells_intL : Try.prog.cellsOf 3 = 1 := by kernel_rfl

set_option maxRecDepth 100000 in
theorem row_of_trodL {fuel : Nat} {v : Value} {y : DataW H × List MemPlace} (h : DataW.trod enc Try.prog W 0 (fun _ => true) true fuel 24 [v] = some y) :
    ∃ (a : Option Addr) (n c : Nat) (z : List Int), v = .slice a n c ∧ IsRowK .i64 W a n c z := by
  rcases Go.ChangeShapes.open_ints Try.underlying24 Try.underlying3 cells_intL h with ⟨hcs, _⟩ | ⟨x, l, c, zs, hcs, _, hl, hm, hz, _, hcell, hwz⟩
  · simp only [List.cons.injEq, and_true] at hcs
    exact ⟨none, 0, 0, [], hcs, .inl ⟨rfl, rfl, rfl, rfl⟩⟩
  · simp only [List.cons.injEq, and_true] at hcs
    exact ⟨some x, l, c, zs, hcs, .inr ⟨x, rfl, hl, hm, by simpa using hz, hcell, hwz⟩⟩

set_option maxRecDepth 100000 in
theorem blk_of_trodL {fuel : Nat} {cs : List Value} {y : DataW H × List MemPlace} (hl : cs.length = 3) (h : DataW.trod enc Try.prog W 0 (fun _ => true) true fuel 130 cs = some y) :
    ∃ b : Blk, cs = [.int .i64 b.1, .bool b.2.1, .bool b.2.2] := by
  obtain ⟨y0, y1, y2, n, _, _, h0, h1, h2⟩ := Go.Deep.trod_struct3 Try.underlying130 h
  match cs, hl with
  | [v0, v1, v2], _ =>
    have hb : Try.prog.cellsOf 4 = 1 := by kernel_rfl
    simp only [cells_intL, hb, List.drop_zero, List.take_succ_cons, List.take_zero, List.drop_succ_cons] at h0 h1 h2
    have r0 : ∃ k, v0 = .int .i64 k := by
      cases n with
      | zero => simp [DataW.trod] at h0
      | succ n => cases v0 <;> simp [DataW.trod, Try.underlying3] at h0 <;> simp_all
    have r1 : ∃ k, v1 = .bool k := by
      cases n with
      | zero => simp [DataW.trod] at h1
      | succ n => cases v1 <;> simp [DataW.trod, Try.underlying4] at h1 <;> simp_all
    have r2 : ∃ k, v2 = .bool k := by
      cases n with
      | zero => simp [DataW.trod] at h2
      | succ n => cases v2 <;> simp [DataW.trod, Try.underlying4] at h2 <;> simp_all
    obtain ⟨k, rfl⟩ := r0
    obtain ⟨i, rfl⟩ := r1
    obtain ⟨o, rfl⟩ := r2
    exact ⟨(k, i, o), rfl⟩

set_option maxRecDepth 100000 in
theorem blks_of_trod {fuel : Nat} {v : Value} {y : DataW H × List MemPlace} (h : DataW.trod enc Try.prog W 0 (fun _ => true) true fuel 55 [v] = some y) :
    ∃ (a : Option Addr) (n c : Nat), v = .slice a n c ∧ IsBlksK W a n c := by
  have hc3 : Try.prog.cellsOf 130 = 3 := by kernel_rfl
  rcases Go.Deep.open_slice Try.underlying55 h with ⟨hcs, _⟩ | ⟨x, l, c, m, n, D, Pl, hcs, _, hl, hm, hmm, _, hi⟩
  · simp only [List.cons.injEq, and_true] at hcs
    exact ⟨none, 0, 0, hcs, .inl ⟨rfl, rfl, rfl⟩⟩
  · simp only [List.cons.injEq, and_true] at hcs
    obtain rfl : m = c := by simpa using hmm
    rw [hc3] at hi
    have each : ∀ i, i < m → ∃ b : Blk, W.cell? (x.add (i * 3)) = some (.int .i64 b.1) ∧ W.cell? (x.add (i * 3 + 1)) = some (.bool b.2.1) ∧ W.cell? (x.add (i * 3 + 2)) = some (.bool b.2.2) := by
      intro i him
      obtain ⟨cs', h1, h2⟩ := hi i him
      obtain ⟨_, hlen, hcell⟩ := World.cells?_some h1
      obtain ⟨b, rfl⟩ := blk_of_trodL hlen h2
      have e0 := hcell 0 (by omega)
      have e1 := hcell 1 (by omega)
      have e2 := hcell 2 (by omega)
      rw [Go.Deep.add_add] at e0 e1 e2
      exact ⟨b, by simpa using e0, by simpa using e1, by simpa using e2⟩
    obtain ⟨f, hf⟩ := Go.Deep.choose_lt each
    have hg : ∀ i, i < m → ((List.range m).map f).getD i nb = f i := fun i hi => by simp [hi]
    refine ⟨some x, l, m, hcs, .inr ⟨x, (List.range m).map f, rfl, hl, hm, by simp, fun q hq => ?_⟩⟩
    have him : q / 3 < m := by omega
    obtain ⟨e0, e1, e2⟩ := hf (q / 3) him
    have hd : q = q / 3 * 3 ∨ q = q / 3 * 3 + 1 ∨ q = q / 3 * 3 + 2 := by omega
    rcases hd with hd | hd | hd
    · rw [hd, bkF0, hg _ him]; exact e0
    · rw [hd, bkF1, hg _ him]; exact e1
    · rw [hd, bkF2, hg _ him]; exact e2

set_option maxRecDepth 100000 in
theorem open_line {v : Value} {d : DataW H} {p : List MemPlace} {b0 : Nat} (hv : Value.okWide Try.prog W .any b0 57 v) (h : DataW.Trod enc Try.prog W 0 (fun _ => true) true 57 v d p) : IsLineK W v := by
  obtain ⟨v0, v1, y0, y1, n, rfl, rfl, rfl, h0, h1⟩ := Go.Joins.open_agg2 Try.underlying57 (by kernel_rfl) (by kernel_rfl) hv h
  obtain ⟨a1, n1, c1, rfl, r1⟩ := blks_of_trod h0
  obtain ⟨a2, n2, c2, z2, rfl, r2⟩ := row_of_trodL h1
  exact ⟨a1, n1, c1, a2, n2, c2, z2, rfl, r1, r2⟩

end

end Go.Proofs.Ytpofkfcjnhoamaa

/-
  What the laws' helpers do with lines: a copy, a comparison, the look at the sizes. For at most 1048576 blocks and as many trains.
-/
namespace Go.Proofs.Ytpofkfcjnhoamaa
open Go.RowKit Go.Sort

theorem info_block : (Try.prog.info? 33).map (fun i => (i.zero, i.size, i.bytes)) = some (some (.agg #[.int .i64 0, .bool false, .bool false]), 3, 16) := by kernel_rfl

theorem run_make_blocks (n : Nat) (hn : n ≤ 1048576) (w : World) :
    (Instr.makeSlice 23 (.int .i64 (n : Int)) (.int .i64 (n : Int))).run Try.prog w = .ok (.slice (some ⟨w.heap.size, 0, none⟩) n n) (w.alloc (.cells (madeCells #[.int .i64 0, .bool false, .bool false] (n * 3)) 33)) := by
  obtain ⟨i, hi, hz, hs, hb⟩ := info_parts info_block
  have hr := run_make (P := Try.prog) w 23 33 i (.agg #[.int .i64 0, .bool false, .bool false]) Try.underlying23 hi hz .i64 .i64 n n (by omega) (Int.le_refl _) (by rw [hb]; omega) (by omega)
  simp only [Int.toNat_natCast, hs] at hr
  exact hr
theorem blocks_made (w : World) (n : Nat) : (w.alloc (.cells (madeCells #[.int .i64 0, .bool false, .bool false] (n * 3)) 33)).rowIs w.heap.size 33 (n * 3) (bkF []) :=
  ⟨_, Go.Deep.blk_alloc_new _ _, size_madeCells _ _, fun i hi => by
    have hm : i % 3 = 0 ∨ i % 3 = 1 ∨ i % 3 = 2 := by omega
    simp only [madeCells, Array.getElem?_map, Array.getElem?_range]
    rw [if_pos hi]
    simp only [Option.map_some, List.size_toArray, List.length_cons, List.length_nil]
    unfold bkF
    rcases hm with q | q | q <;> (rw [show i % (0 + 1 + 1 + 1) = i % 3 by rfl, q]; rfl)⟩

def MadeBlks (w : World) (bs : List Blk) (e : Ending) (w' : World) : Prop := ∃ v, e = .returned v ∧ OwnB w' w.heap.size v bs ∧ Below w.heap.size w w'

/-- A list of which the first k blocks are there. -/
def bkTill (bs : List Blk) (k q : Nat) : Value := if q < k * 3 then bkF bs q else bkF [] q
theorem bkTill_succ (bs : List Blk) (k : Nat) (q : Nat) : (if q = k * 3 + 2 then Value.bool (bs.getD k nb).2.2 else if q = k * 3 + 1 then Value.bool (bs.getD k nb).2.1 else if q = k * 3 then Value.int .i64 (bs.getD k nb).1 else bkTill bs k q) = bkTill bs (k + 1) q := by
  unfold bkTill
  by_cases h2 : q = k * 3 + 2
  · rw [if_pos h2, if_pos (by omega), h2, bkF2]
  · rw [if_neg h2]
    by_cases h1 : q = k * 3 + 1
    · rw [if_pos h1, if_pos (by omega), h1, bkF1]
    · rw [if_neg h1]
      by_cases h0 : q = k * 3
      · rw [if_pos h0, if_pos (by omega), h0, bkF0]
      · rw [if_neg h0]
        by_cases h : q < k * 3
        · rw [if_pos h, if_pos (by omega)]
        · rw [if_neg h, if_neg (by omega)]

set_option maxHeartbeats 1000000 in
theorem toBlocks {w : World} {v : Value} {bs : List Blk} (h : Blks w v bs) : Calls Try.prog 64 #[v] w (MadeBlks w bs) := by
  obtain ⟨a, cap, rfl⟩ := Rd.slice h
  have hl := Rd.len h
  have hmk := run_make_blocks bs.length hl
  have hl' : (bs.length : Int) ≤ 1048576 := by omega
  by_cases h0 : bs = []
  · subst h0
    have hmk0 : ∀ w : World, (Instr.makeSlice 23 (.int .i64 0) (.int .i64 0)).run Try.prog w = .ok (.slice (some ⟨w.heap.size, 0, none⟩) 0 0) (w.alloc (.cells (madeCells #[.int .i64 0, .bool false, .bool false] 0) 33)) := hmk
    clear hmk h
    go_enter Try.func64, Try.ntmps64
    go_wp2_with fail
    refine wp_loop_rounds 1 ?_
    rw [rounds_succ]
    go_wp2_with fail
    go_ret
    exact ⟨_, rfl, ow_of_rowIs (k := 3) (n := 0) (blocks_made w 0) (Nat.le_refl _) (by simp [maxLen]), (Below.refl _ _).alloc (Nat.le_refl _) _⟩
  · have hpos : 0 < bs.length := List.length_pos_iff.2 h0
    obtain ⟨b, o, rfl, hb, hcell⟩ := Blks.at h hpos
    have HC := Lib.hid hcell
    clear hcell h h0 hpos
    go_enter Try.func64, Try.ntmps64
    go_wp2_with fail
    go_loopw [4] (fun i wr => ∃ k : Nat, k ≤ bs.length ∧ i = .int .i64 k ∧ wr.rowIs w.heap.size 33 (bs.length * 3) (bkTill bs k) ∧ Below w.heap.size w wr) (fun i _ => bs.length - (intOf i).toNat)
    case atStart => exact ⟨0, by omega, rfl, (blocks_made w bs.length).congr (fun q _ => by unfold bkTill; rw [if_neg (by omega)]), (Below.refl _ _).alloc (Nat.le_refl _) _⟩
    case round =>
      obtain ⟨k, hk, rfl, hrow, hbel⟩ := hrel
      have hsz : w.heap.size < wr.heap.size := hrow.lt
      by_cases hlt : k < bs.length
      · obtain ⟨e0, e1, e2⟩ := HC.out k hlt
        have c0 := (hbel.cell (p := ⟨b, o + k * 3, none⟩) hb).trans e0
        have c1 : wr.cell? ⟨b, o + k * 3 + 1, none⟩ = _ := (hbel.cell (p := ⟨b, o + k * 3 + 1, none⟩) hb).trans e1
        have c2 : wr.cell? ⟨b, o + k * 3 + 2, none⟩ = _ := (hbel.cell (p := ⟨b, o + k * 3 + 2, none⟩) hb).trans e2
        have hki : (k : Int) < (bs.length : Int) := by omega
        obtain ⟨x, hx⟩ : ∃ x, x = bs.getD k nb := ⟨_, rfl⟩
        rw [← hx] at c0 c1 c2
        have X := Lib.hid hx
        have HR := Lib.hid hrow
        have HB := Lib.hid hbel
        clear hx e0 e1 e2 hrow hbel
        go_wp2_with (go_at_call 85; refine (toBlock x _).mono ?_)
        rintro e w1 ⟨rfl, b1⟩
        have row1 := HR.out.of_block (b1.block _ HR.out.lt)
        have d0 := row1.cell (i := k * 3) (by omega)
        have d1 := row1.cell (i := k * 3 + 1) (by omega)
        have d2 := row1.cell (i := k * 3 + 2) (by omega)
        have f0 := row1.frozen (k * 3)
        have f1 := row1.frozen (k * 3 + 1)
        have f2 := row1.frozen (k * 3 + 2)
        have R3 := Lib.hid (((row1.set (k * 3) (.int .i64 x.1)).set (k * 3 + 1) (.bool x.2.1)).set (k * 3 + 2) (.bool x.2.2))
        have B3 := Lib.hid ((((HB.out.trans (b1.mono HB.out.size)).setCell (p := ⟨w.heap.size, k * 3, none⟩) (Nat.le_refl _) (.int .i64 x.1)).setCell (p := ⟨w.heap.size, k * 3 + 1, none⟩) (Nat.le_refl _) (.bool x.2.1)).setCell (p := ⟨w.heap.size, k * 3 + 2, none⟩) (Nat.le_refl _) (.bool x.2.2))
        clear row1 b1
        go_wp2_with fail
        go_roundw
        case rel => exact ⟨k + 1, by omega, by go_num, R3.out.congr (fun q _ => by rw [X.out]; exact bkTill_succ bs k q), B3.out⟩
        case measure => simp [intOf]; omega
      · obtain rfl : k = bs.length := by omega
        go_wp2_with fail
        go_ret
        exact ⟨_, rfl, ow_of_rowIs (hrow.congr fun q hq => by unfold bkTill; rw [if_pos hq]) (Nat.le_refl _) (by simp only [maxLen]; omega), hbel⟩

set_option maxHeartbeats 1000000 in
theorem eqBlocksS {w : World} {u v : Value} {bs : List Blk} (h : Blks w u bs) (h' : Blks w v bs) :
    Calls Try.prog 67 #[u, v] w fun e w' => e = .returned (.bool true) ∧ Below w.heap.size w w' := by
  obtain ⟨a, cap, rfl⟩ := Rd.slice h
  obtain ⟨a', cap', rfl⟩ := Rd.slice h'
  have hl := Rd.len h
  have hl' : (bs.length : Int) ≤ 1048576 := by omega
  by_cases h0 : bs = []
  · subst h0
    clear h h'
    go_enter Try.func67, Try.ntmps67
    go_wp2_with fail
    refine wp_loop_rounds 1 ?_
    rw [rounds_succ]
    go_wp2_with fail
    go_ret
    exact ⟨rfl, Below.refl _ _⟩
  · have hpos : 0 < bs.length := List.length_pos_iff.2 h0
    obtain ⟨b, o, rfl, hb, hcell⟩ := Blks.at h hpos
    obtain ⟨b', o', rfl, hb', hcell'⟩ := Blks.at h' hpos
    have HC := Lib.hid hcell
    have HC' := Lib.hid hcell'
    clear hcell h h0 hpos hcell' h'
    go_enter Try.func67, Try.ntmps67
    go_wp2_with fail
    go_loopw [5] (fun i wr => ∃ k : Nat, k ≤ bs.length ∧ i = .int .i64 k ∧ Below w.heap.size w wr) (fun i _ => bs.length - (intOf i).toNat)
    case atStart => exact ⟨0, by omega, rfl, Below.refl _ _⟩
    case round =>
      obtain ⟨k, hk, rfl, hbel⟩ := hrel
      by_cases hlt : k < bs.length
      · obtain ⟨e0, e1, e2⟩ := HC.out k hlt
        obtain ⟨g0, g1, g2⟩ := HC'.out k hlt
        have c0 := (hbel.cell (p := ⟨b, o + k * 3, none⟩) hb).trans e0
        have c1 : wr.cell? ⟨b, o + k * 3 + 1, none⟩ = _ := (hbel.cell (p := ⟨b, o + k * 3 + 1, none⟩) hb).trans e1
        have c2 : wr.cell? ⟨b, o + k * 3 + 2, none⟩ = _ := (hbel.cell (p := ⟨b, o + k * 3 + 2, none⟩) hb).trans e2
        have c3 := (hbel.cell (p := ⟨b', o' + k * 3, none⟩) hb').trans g0
        have c4 : wr.cell? ⟨b', o' + k * 3 + 1, none⟩ = _ := (hbel.cell (p := ⟨b', o' + k * 3 + 1, none⟩) hb').trans g1
        have c5 : wr.cell? ⟨b', o' + k * 3 + 2, none⟩ = _ := (hbel.cell (p := ⟨b', o' + k * 3 + 2, none⟩) hb').trans g2
        obtain ⟨x, hx⟩ : ∃ x, x = bs.getD k nb := ⟨_, rfl⟩
        rw [← hx] at c0 c1 c2 c3 c4 c5
        have d0 := fun d os => cell_regrown c0 d os
        have d1 := fun d os => cell_regrown c1 d os
        have d2 := fun d os => cell_regrown c2 d os
        have d3 := fun d os => cell_regrown c3 d os
        have d4 := fun d os => cell_regrown c4 d os
        have d5 := fun d os => cell_regrown c5 d os
        have HE := Lib.hid (fun d os => Calls.regrown_of (d := d) (os := os) (eqBlock x (grow (redrawn wr d) os)))
        have hi : (k : Int) < (bs.length : Int) := by omega
        clear e0 e1 e2 g0 g1 g2 hx
        go_wp2_with fail
        refine wp_region_quiet_below (by kernel_rfl) (by kernel_rfl) ?_
        repeat (go_big_quiet_step (exact HE.out _ _))
        refine wpQuiet_nil ?_
        intro _ hw'
        obtain ⟨⟨dq, osq⟩, hw''⟩ := hw'
        subst hw''
        go_wp2_with fail
        go_roundw
        case rel => exact ⟨k + 1, by omega, by go_num, hbel.trans ((below_regrown wr dq osq).mono hbel.size)⟩
        case measure => simp [intOf]; omega
      · go_wp2_with fail
        go_ret
        exact ⟨rfl, hbel⟩

set_option maxHeartbeats 400000 in
theorem szBlocks {w : World} {a : Option Addr} {n cap : Nat} {m : Int} (hn : n ≤ maxLen) (h0 : 0 ≤ m) (h1 : m ≤ 1048576) :
    Calls Try.prog 62 #[.slice a n cap, .int .i64 m] w fun e w' => e = .returned (.int .i64 (if m < n then -1 else m - n)) ∧ w = w' := by
  unfold maxLen at hn
  by_cases hlt : m < (n : Int)
  · go_enter Try.func62, Try.ntmps62
    go_wp2_with fail
    go_ret
    exact ⟨rfl, rfl⟩
  · have hge : (n : Int) ≤ m := by omega
    clear hlt
    go_enter Try.func62, Try.ntmps62
    go_wp2_with fail
    go_ret
    exact ⟨rfl, rfl⟩

end Go.Proofs.Ytpofkfcjnhoamaa

/-
  What the laws' helpers do with a line: sizes, a copy, a comparison. For at most 1048576 blocks and as many trains.
-/
namespace Go.Proofs.Ytpofkfcjnhoamaa
open Go.RowKit Go.Sort

set_option maxHeartbeats 1000000 in
theorem toLine {w : World} {v : Value} {l : Ln} (h : LineV w v l) : Calls Try.prog 32 #[v] w (MadeLine w l) := by
  obtain ⟨bs, ts⟩ := l
  obtain ⟨u1, u2, rfl, i1, i2⟩ := h
  have I1 := Lib.hid i1
  have I2 := Lib.hid i2
  clear i1 i2
  have p0 := Pair.new w u1 u2 57
  have e0 := below_alloc w (.cells #[u1, u2] 57)
  obtain ⟨Wa, hWa⟩ : ∃ W, W = w.alloc (.cells #[u1, u2] 57) := ⟨_, rfl⟩
  have ea := below_alloc Wa (.cells #[.slice none 0 0, .slice none 0 0] 26)
  have pa := Pair.new Wa (.slice none 0 0) (.slice none 0 0) 26
  have sa : Wa.heap.size = w.heap.size + 1 := by rw [hWa]; exact Go.Deep.nblk_alloc _ _
  rw [← hWa] at p0 e0
  obtain ⟨Wb, hWb⟩ : ∃ W, W = Wa.alloc (.cells #[.slice none 0 0, .slice none 0 0] 26) := ⟨_, rfl⟩
  have eb := below_alloc Wb (.cells #[.slice none 0 0, .slice none 0 0] 26)
  have pb := Pair.new Wb (.slice none 0 0) (.slice none 0 0) 26
  have sb : Wb.heap.size = w.heap.size + 1 + 1 := by rw [hWb, ← sa]; exact Go.Deep.nblk_alloc _ _
  rw [← hWb] at pa ea
  obtain ⟨W, hW⟩ : ∃ W, W = Wb.alloc (.cells #[.slice none 0 0, .slice none 0 0] 26) := ⟨_, rfl⟩
  rw [← hW] at pb eb
  rw [sb] at pb
  rw [sa] at pa
  have hE : Below w.heap.size w W := (e0.trans (ea.mono e0.size)).trans (eb.mono (Nat.le_trans e0.size ea.size))
  have p0 := (p0.below ea).below eb
  have pa := pa.below eb
  have HW := Lib.hid (show (((w.alloc (Obj.cells #[u1, u2] 57)).alloc (Obj.cells #[Value.slice none 0 0, Value.slice none 0 0] 26)).alloc (Obj.cells #[Value.slice none 0 0, Value.slice none 0 0] 26)) = W by rw [hW, hWb, hWa])
  clear hW hWb hWa e0 ea eb sa sb
  have P0 := Lib.hid p0
  have PA := Lib.hid pa
  have PB := Lib.hid pb
  clear p0 pa pb
  go_enter Try.func32, Try.ntmps32
  go_wp2_with fail
  rw [HW.out]
  refine (toBlocks (Rd.below I1.out hE)).mono ?_
  rintro e w1 ⟨v1, rfl, o1, b1⟩
  have PB1 := Lib.hid (PB.out.below b1)
  have PA1 := Lib.hid (PA.out.below b1)
  have P01 := Lib.hid (P0.out.below b1)
  obtain ⟨a1, k1, rfl⟩ := Ow.slice o1
  have O1 := Lib.hid o1
  have B1 := Lib.hid (hE.trans (b1.mono hE.size))
  have c0 := PB1.out.cell0
  have c1 := P01.out.cell1
  have f0 := PB1.out.frozen 0
  have z1 : W.heap.size ≤ w1.heap.size := b1.size
  have L1 := PB1.out.lt
  have L0 := PB.out.lt
  clear o1 b1
  go_wp2_with fail
  have S1 : Below w.heap.size w (w1.setCell ⟨w.heap.size + 1 + 1, 0, none⟩ (.slice a1 bs.length k1)) := B1.out.setCell (by simp only; omega) _
  have O1' := Ow.setBelow O1.out (a := ⟨w.heap.size + 1 + 1, 0, none⟩) L0 (.slice a1 bs.length k1)
  have PB2 := PB1.out.set0 (.slice a1 bs.length k1)
  have PA2 := PA1.out.other (a := ⟨w.heap.size + 1 + 1, 0, none⟩) (by simp only; omega) (.slice a1 bs.length k1)
  obtain ⟨V, hV⟩ : ∃ V, V = w1.setCell ⟨w.heap.size + 1 + 1, 0, none⟩ (.slice a1 bs.length k1) := ⟨_, rfl⟩
  have hVs : V.heap.size = w1.heap.size := by rw [hV]; exact Go.Deep.nblk_setCell _ _ _
  rw [← hV] at S1 O1' PB2 PA2
  rw [← hV]
  refine (toInts (I2.out.below S1)).mono ?_
  rintro e w2 ⟨v2, rfl, o2, b2⟩
  obtain ⟨a2, n2, k2, rfl⟩ := own_is_slice o2
  have PB3 := PB2.below b2
  have PA3 := PA2.below b2
  have hap := (apartO (lo := 0) (Ow.under O1') (Nat.le_refl _) o2.under rfl).1
  have hap' := (apartO (lo := 0) (Ow.under O1') (Nat.le_refl _) o2.under rfl).2
  have q0 := PB3.cell0
  have q1 := PB3.cell1
  have qf := PB3.frozen
  have r0 := PA3.cell0
  have r1 := PA3.cell1
  have rf := PA3.frozen
  have x1 := Ow.setBelow (Ow.setBelow (Ow.setBelow (Ow.below O1' b2) (a := ⟨w.heap.size + 1 + 1, 1, none⟩) L0 (.slice a2 n2 k2)) (a := ⟨w.heap.size + 1, 0, none⟩) (by simp only; omega) (.slice a1 bs.length k1)) (a := ⟨w.heap.size + 1, 1, none⟩) (by simp only; omega) (.slice a2 n2 k2)
  have x2 := ((o2.setBelow (a := ⟨w.heap.size + 1 + 1, 1, none⟩) (by simp only; omega) (.slice a2 n2 k2)).setBelow (a := ⟨w.heap.size + 1, 0, none⟩) (by simp only; omega) (.slice a1 bs.length k1)).setBelow (a := ⟨w.heap.size + 1, 1, none⟩) (by simp only; omega) (.slice a2 n2 k2)
  have S2 := (((S1.trans (b2.mono S1.size)).setCell (p := ⟨w.heap.size + 1 + 1, 1, none⟩) (by simp only; omega) (.slice a2 n2 k2)).setCell (p := ⟨w.heap.size + 1, 0, none⟩) (by simp only; omega) (.slice a1 bs.length k1)).setCell (p := ⟨w.heap.size + 1, 1, none⟩) (by simp only; omega) (.slice a2 n2 k2)
  have X1 := Lib.hid (Ow.mono x1 (base' := w.heap.size) (by omega))
  have X2 := Lib.hid (x2.mono (base' := w.heap.size) (by omega))
  have S3 := Lib.hid S2
  have HAP := Lib.hid (And.intro hap hap')
  clear x1 x2 S2 hap hap' O1' o2 b2 PB2 PA2 PB3 PA3 S1 hV
  go_wp2_with fail
  refine bodyPost_ret (v := .agg #[.slice a1 bs.length k1, .slice a2 n2 k2]) (by simp [results, Try.results32, go_sem, r0, r1]) rfl ⟨_, rfl, ⟨_, _, rfl, X1.out, X2.out, HAP.out.1, HAP.out.2⟩, S3.out⟩

/-- What the sizes of a line leave of a number. -/
def szOfL (m : Int) (n1 n2 : Nat) : Int := if m < n1 then -1 else if m - n1 < n2 then -1 else m - n1 - n2

set_option maxHeartbeats 1000000 in
theorem szLine {w : World} {a1 a2 : Option Addr} {n1 c1 n2 c2 : Nat} {m : Int} (h1 : n1 ≤ maxLen) (h2 : n2 ≤ maxLen) (hm0 : 0 ≤ m) (hm1 : m ≤ 1048576) :
    Calls Try.prog 31 #[.agg #[.slice a1 n1 c1, .slice a2 n2 c2], .int .i64 m] w fun e w' => e = .returned (.int .i64 (szOfL m n1 n2)) ∧ Below w.heap.size w w' := by
  by_cases q1 : m < (n1 : Int)
  · have HN := Lib.hid (show szOfL m n1 n2 = -1 by unfold szOfL; rw [if_pos q1])
    have S1 := Lib.hid (fun W : World => szBlocks (w := W) (a := a1) (cap := c1) h1 hm0 hm1)
    rw [if_pos q1] at S1
    clear q1
    go_enter Try.func31, Try.ntmps31
    go_wp2_with (go_at_call 62; refine (S1.out _).mono ?_; rintro e w' ⟨rfl, rfl⟩)
    go_ret
    exact ⟨ret_int HN.out.symm, below_alloc _ _⟩
  · have hm2 : 0 ≤ m - (n1 : Int) := by omega
    have S1 := Lib.hid (fun W : World => szBlocks (w := W) (a := a1) (cap := c1) h1 hm0 hm1)
    rw [if_neg q1] at S1
    have S2 := Lib.hid (fun W : World => szInts (w := W) (a := a2) (cap := c2) h2 hm2 (by omega))
    have hp1 : decide (m - (n1 : Int) < 0) = false := by simp; omega
    by_cases q2 : m - (n1 : Int) < (n2 : Int)
    · have HN := Lib.hid (show szOfL m n1 n2 = -1 by unfold szOfL; rw [if_neg q1, if_pos q2])
      rw [if_pos q2] at S2
      clear q1 q2
      obtain ⟨z, hz⟩ : ∃ z, z = m - (n1 : Int) := ⟨_, rfl⟩
      rw [← hz] at S1 S2 hp1
      clear hz hm2
      go_enter Try.func31, Try.ntmps31
      go_wp2_with fail
      refine (S1.out _).mono ?_
      rintro e w' ⟨rfl, rfl⟩
      go_wp2_with fail
      refine (S2.out _).mono ?_
      rintro e w' ⟨rfl, rfl⟩
      go_wp2_with fail
      go_ret
      exact ⟨ret_int HN.out.symm, below_alloc _ _⟩
    · have HN := Lib.hid (show szOfL m n1 n2 = m - n1 - n2 by unfold szOfL; rw [if_neg q1, if_neg q2])
      rw [if_neg q2] at S2
      have hp2 : decide (m - (n1 : Int) - (n2 : Int) < 0) = false := by simp; omega
      clear q1 q2
      obtain ⟨y, hy⟩ : ∃ y, y = m - (n1 : Int) - (n2 : Int) := ⟨_, rfl⟩
      rw [← hy] at S2 HN hp2
      clear hy
      obtain ⟨z, hz⟩ : ∃ z, z = m - (n1 : Int) := ⟨_, rfl⟩
      rw [← hz] at S1 S2 hp1
      clear hz hm2
      go_enter Try.func31, Try.ntmps31
      go_wp2_with fail
      refine (S1.out _).mono ?_
      rintro e w' ⟨rfl, rfl⟩
      go_wp2_with fail
      refine (S2.out _).mono ?_
      rintro e w' ⟨rfl, rfl⟩
      go_wp2_with fail
      go_ret
      exact ⟨ret_int HN.out.symm, below_alloc _ _⟩

/-- What the sizes of a line that came in leave; where that is not negative the line can be read. -/
theorem szLineK {w : World} {v : Value} {m : Int} (h : IsLineK w v) (hm0 : 0 ≤ m) (hm1 : m ≤ 1048576) :
    Calls Try.prog 31 #[v, .int .i64 m] w fun e w' => ∃ n : Int, e = .returned (.int .i64 n) ∧ n ≤ m ∧ (0 ≤ n → ∃ l, LineV w v l) ∧ Below w.heap.size w w' := by
  obtain ⟨a1, n1, c1, a2, n2, c2, z2, rfl, r1, r2⟩ := h
  refine (szLine (Nat.le_trans r1.le.1 r1.le.2) (Nat.le_trans (rowK_le r2).1 (rowK_le r2).2) hm0 hm1).mono ?_
  rintro e w' ⟨rfl, hb⟩
  refine ⟨_, rfl, ?_, fun hn => ?_, hb⟩
  · unfold szOfL; split
    · omega
    · split <;> omega
  · unfold szOfL at hn
    split at hn
    · omega
    · split at hn
      · omega
      · obtain ⟨bs, hbs⟩ := blks_of_k r1 (by omega)
        exact ⟨(bs, z2.take n2), _, _, rfl, hbs, ints_of_rowK r2 (by omega)⟩

theorem IsLineK.agg {w : World} {v : Value} (h : IsLineK w v) : ∃ u1 u2, v = .agg #[u1, u2] := by
  obtain ⟨a1, n1, c1, a2, n2, c2, z2, rfl, _⟩ := h
  exact ⟨_, _, rfl⟩

set_option maxHeartbeats 1000000 in
theorem eqLines2 {w : World} {u v : Value} {l : Ln} (h : LineV w u l) (h' : LineV w v l) :
    Calls Try.prog 34 #[u, v] w fun e w' => e = .returned (.bool true) ∧ Below w.heap.size w w' := by
  obtain ⟨u1, u2, rfl, i1, i2⟩ := h
  obtain ⟨v1, v2, rfl, j1, j2⟩ := h'
  have ea := below_alloc w (.cells #[u1, u2] 26)
  have pa := Pair.new w u1 u2 26
  obtain ⟨Wa, hWa⟩ : ∃ W, W = w.alloc (.cells #[u1, u2] 26) := ⟨_, rfl⟩
  have sa : Wa.heap.size = w.heap.size + 1 := by rw [hWa]; exact Go.Deep.nblk_alloc _ _
  rw [← hWa] at ea pa
  have eb := below_alloc Wa (.cells #[v1, v2] 26)
  have pb := Pair.new Wa v1 v2 26
  obtain ⟨W, hW⟩ : ∃ W, W = Wa.alloc (.cells #[v1, v2] 26) := ⟨_, rfl⟩
  rw [← hW] at eb pb
  rw [sa] at pb
  have E := Lib.hid (ea.trans (eb.mono ea.size))
  have PA := Lib.hid (pa.below eb)
  have PB := Lib.hid pb
  have HW := Lib.hid (show (w.alloc (.cells #[u1, u2] 26)).alloc (.cells #[v1, v2] 26) = W by rw [hW, hWa])
  have J1 := Lib.hid (And.intro (Rd.below i1 E.out) (Rd.below j1 E.out))
  have J2 := Lib.hid (And.intro (i2.below E.out) (j2.below E.out))
  clear ea eb pa pb sa hW hWa i1 i2 j1 j2
  go_enter Try.func34, Try.ntmps34
  go_wp2_with fail
  rw [HW.out]
  refine (eqBlocksS J1.out.1 J1.out.2).mono ?_
  rintro e w1 ⟨rfl, b1⟩
  have c1 := (PA.out.below b1).cell1
  have c2 := (PB.out.below b1).cell1
  have B1 := Lib.hid b1
  clear b1
  go_wp2_with fail
  refine (eqInts (J2.out.1.below B1.out) (J2.out.2.below B1.out)).mono ?_
  rintro e w2 ⟨rfl, b2⟩
  go_wp2_with fail
  go_ret
  exact ⟨rfl, E.out.trans ((B1.out.trans (b2.mono B1.out.size)).mono E.out.size)⟩

end Go.Proofs.Ytpofkfcjnhoamaa
