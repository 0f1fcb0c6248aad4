/-
  What the laws' helpers do with notes: sizes, copies, comparisons. For at most 1048576 notes of as many bytes together.
-/
import Derived.Test.YtodknakemgmhkaaMvsL
namespace Go.Proofs.Ytodknakemgmhkaa
open Go.RowKit Go.Sort

/-- The value v owns a list of notes. -/
def OwnN (w : World) (base : Nat) (v : Value) (ms : List Mv) : Prop := Ow w base 65 2 v ms.length (mvF ms)
/-- A call that hands back a new list of notes and a bool. -/
def MadeNtsB (w : World) (ms : List Mv) (b : Bool) (e : Ending) (w' : World) : Prop := ∃ v, e = .returned (.tuple #[v, .bool b]) ∧ OwnN w' w.heap.size v ms ∧ Below w.heap.size w w'
theorem apart_blocks {v1 v2 : Value} {a b c d : Nat} (h1 : ∀ g, v1.ownBlock = some g → a ≤ g ∧ g < b) (h2 : ∀ g, v2.ownBlock = some g → c ≤ g ∧ g < d) (h : b ≤ c ∨ d ≤ a) : v1.ownBlock = none ∨ v1.ownBlock ≠ v2.ownBlock := by
  cases e1 : v1.ownBlock with
  | none => exact .inl rfl
  | some g =>
    refine .inr fun e2 => ?_
    have q1 := h1 g e1
    have q2 := h2 g e2.symm
    omega
theorem OwnN.nts {w : World} {base : Nat} {v : Value} {ms : List Mv} (h : OwnN w base v ms) (hl : ms.length ≤ 1048576) : Mvs w v ms := Ow.rd h hl

set_option maxHeartbeats 400000 in
theorem szNote (m : Mv) {z : Int} (hs : m.2.size ≤ maxLen) (h0 : 0 ≤ z) (h1 : z ≤ 1048576) (w : World) :
    Calls Try.prog 56 #[.agg #[.int .i64 m.1, .string m.2], .int .i64 z] w fun e w' => e = .returned (.int .i64 (if z < (m.2.size : Int) then -1 else z - m.2.size)) ∧ Below w.heap.size w w' := by
  have hs' : (m.2.size : Int) ≤ 9223372036854775807 := by unfold maxLen at hs; omega
  by_cases g : z < (m.2.size : Int)
  · rw [if_pos g]
    have g' : decide (z - (m.2.size : Int) < 0) = true := decide_eq_true (by omega)
    go_enter Try.func56, Try.ntmps56
    go_wp2_with fail
    go_ret
    exact ⟨rfl, below_alloc _ _⟩
  · rw [if_neg g]
    have g' : decide (z - (m.2.size : Int) < 0) = false := decide_eq_false (by omega)
    have hr : 0 ≤ z - (m.2.size : Int) := by omega
    go_enter Try.func56, Try.ntmps56
    go_wp2_with fail
    go_ret
    exact ⟨rfl, below_alloc _ _⟩

set_option maxHeartbeats 1000000 in
theorem toNote (m : Mv) (w : World) :
    Calls Try.prog 59 #[.agg #[.int .i64 m.1, .string m.2]] w fun e w' => e = .returned (.agg #[.int .i64 m.1, .string m.2]) ∧ Below w.heap.size w w' := by
  go_enter Try.func59, Try.ntmps59
  go_wp2_with fail
  exact bodyPost_ret (v := .agg #[.int .i64 m.1, .string m.2]) (by simp [results, Try.results59, go_sem]) rfl ⟨rfl, (((below_self w).alloc (Nat.le_refl _) _).alloc (by simp) _).alloc (by simp; omega) _⟩

set_option maxHeartbeats 1000000 in
theorem eqNote (m : Mv) (w : World) :
    Calls Try.prog 61 #[.agg #[.int .i64 m.1, .string m.2], .agg #[.int .i64 m.1, .string m.2]] w fun e w' => e = .returned (.bool true) ∧ Below w.heap.size w w' := by
  go_enter Try.func61, Try.ntmps61
  go_wp2_with fail
  go_ret
  exact ⟨rfl, ((below_self w).alloc (Nat.le_refl _) _).alloc (by simp) _⟩

theorem info_note : (Try.prog.info? 65).map (fun i => (i.zero, i.size, i.bytes)) = some (some (.agg #[.int .i64 0, .string ⟨#[]⟩]), 2, 24) := by kernel_rfl

theorem run_make_notes (n : Nat) (hn : n ≤ 1048576) (w : World) :
    (Instr.makeSlice 25 (.int .i64 (n : Int)) (.int .i64 (n : Int))).run Try.prog w = .ok (.slice (some ⟨w.heap.size, 0, none⟩) n n) (w.alloc (.cells (madeCells #[.int .i64 0, .string ⟨#[]⟩] (n * 2)) 65)) := by
  obtain ⟨i, hi, hz, hs, hb⟩ := info_parts info_note
  have hr := run_make (P := Try.prog) w 25 65 i (.agg #[.int .i64 0, .string ⟨#[]⟩]) Try.underlying25 hi hz .i64 .i64 n n (by omega) (Int.le_refl _) (by rw [hb]; omega) (by omega)
  simp only [Int.toNat_natCast, hs] at hr
  exact hr

theorem notes_made (w : World) (n : Nat) : (w.alloc (.cells (madeCells #[.int .i64 0, .string ⟨#[]⟩] (n * 2)) 65)).rowIs w.heap.size 65 (n * 2) (mvF []) :=
  ⟨_, Go.Deep.blk_alloc_new _ _, size_madeCells _ _, fun i hi => by
    have hm : i % 2 = 0 ∨ i % 2 = 1 := by omega
    simp only [madeCells, Array.getElem?_map, Array.getElem?_range]
    rw [if_pos hi]
    simp only [Option.map_some, List.size_toArray, List.length_cons, List.length_nil]
    unfold mvF
    rcases hm with q | q <;> (rw [show i % (0 + 1 + 1) = i % 2 by rfl, q]; rfl)⟩

def MadeNts (w : World) (ms : List Mv) (e : Ending) (w' : World) : Prop := ∃ v, e = .returned v ∧ OwnN w' w.heap.size v ms ∧ Below w.heap.size w w'

set_option maxHeartbeats 1000000 in
theorem toNotes {w : World} {v : Value} {ms : List Mv} (h : Mvs w v ms) : Calls Try.prog 18 #[v] w (MadeNts w ms) := by
  obtain ⟨a, cap, rfl⟩ := Rd.slice h
  have hl := Rd.len h
  have hmk := run_make_notes ms.length hl
  have hl' : (ms.length : Int) ≤ 1048576 := by omega
  by_cases h0 : ms = []
  · subst h0
    have hmk0 : ∀ w : World, (Instr.makeSlice 25 (.int .i64 0) (.int .i64 0)).run Try.prog w = .ok (.slice (some ⟨w.heap.size, 0, none⟩) 0 0) (w.alloc (.cells (madeCells #[.int .i64 0, .string ⟨#[]⟩] 0) 65)) := hmk
    clear hmk h
    go_enter Try.func18, Try.ntmps18
    go_wp2_with fail
    refine wp_loop_rounds 1 ?_
    rw [rounds_succ]
    go_wp2_with fail
    go_ret
    exact ⟨_, rfl, ow_of_rowIs (k := 2) (n := 0) (notes_made w 0) (Nat.le_refl _) (by simp [maxLen]), (Below.refl _ _).alloc (Nat.le_refl _) _⟩
  · have hpos : 0 < ms.length := List.length_pos_iff.2 h0
    obtain ⟨b, o, rfl, hb, hcell⟩ := Mvs.at h hpos
    have HC := Lib.hid hcell
    clear hcell h h0 hpos
    go_enter Try.func18, Try.ntmps18
    go_wp2_with fail
    go_loopw [4] (fun i wr => ∃ k : Nat, k ≤ ms.length ∧ i = .int .i64 k ∧ wr.rowIs w.heap.size 65 (ms.length * 2) (mvTill ms k) ∧ Below w.heap.size w wr) (fun i _ => ms.length - (intOf i).toNat)
    case atStart => exact ⟨0, by omega, rfl, (notes_made w ms.length).congr (fun q _ => by unfold mvTill; rw [if_neg (by omega)]), (Below.refl _ _).alloc (Nat.le_refl _) _⟩
    case round =>
      obtain ⟨k, hk, rfl, hrow, hbel⟩ := hrel
      have hsz : w.heap.size < wr.heap.size := hrow.lt
      by_cases hlt : k < ms.length
      · obtain ⟨e0, e1⟩ := HC.out k hlt
        have c0 := (hbel.cell (p := ⟨b, o + k * 2, none⟩) hb).trans e0
        have c1 : wr.cell? ⟨b, o + k * 2 + 1, none⟩ = _ := (hbel.cell (p := ⟨b, o + k * 2 + 1, none⟩) hb).trans e1
        have hki : (k : Int) < (ms.length : Int) := by omega
        obtain ⟨x, hx⟩ : ∃ x, x = ms.getD k noMv := ⟨_, rfl⟩
        rw [← hx] at c0 c1
        have X := Lib.hid hx
        have HR := Lib.hid hrow
        have HB := Lib.hid hbel
        clear hx e0 e1 hrow hbel
        go_wp2_with (go_at_call 59; refine (toNote x _).mono ?_)
        rintro e w1 ⟨rfl, b1⟩
        have row1 := HR.out.of_block (b1.block _ HR.out.lt)
        have d0 := row1.cell (i := k * 2) (by omega)
        have d1 := row1.cell (i := k * 2 + 1) (by omega)
        have f0 := row1.frozen (k * 2)
        have f1 := row1.frozen (k * 2 + 1)
        have R3 := Lib.hid ((row1.set (k * 2) (.int .i64 x.1)).set (k * 2 + 1) (.string x.2))
        have B3 := Lib.hid (((HB.out.trans (b1.mono HB.out.size)).setCell (p := ⟨w.heap.size, k * 2, none⟩) (Nat.le_refl _) (.int .i64 x.1)).setCell (p := ⟨w.heap.size, k * 2 + 1, none⟩) (Nat.le_refl _) (.string x.2))
        clear row1 b1
        go_wp2_with fail
        go_roundw
        case rel => exact ⟨k + 1, by omega, by go_num, R3.out.congr (fun q _ => by rw [X.out]; exact mvTill_succ ms k q), B3.out⟩
        case measure => simp [intOf]; omega
      · obtain rfl : k = ms.length := by omega
        go_wp2_with fail
        go_ret
        exact ⟨_, rfl, ow_of_rowIs (hrow.congr fun q hq => by unfold mvTill; rw [if_pos hq]) (Nat.le_refl _) (by simp only [maxLen]; omega), hbel⟩

set_option maxHeartbeats 1000000 in
theorem eqNotesS {w : World} {u v : Value} {ms : List Mv} (h : Mvs w u ms) (h' : Mvs w v ms) :
    Calls Try.prog 20 #[u, v] w fun e w' => e = .returned (.bool true) ∧ Below w.heap.size w w' := by
  obtain ⟨a, cap, rfl⟩ := Rd.slice h
  obtain ⟨a', cap', rfl⟩ := Rd.slice h'
  have hl := Rd.len h
  have hl' : (ms.length : Int) ≤ 1048576 := by omega
  by_cases h0 : ms = []
  · subst h0
    clear h h'
    go_enter Try.func20, Try.ntmps20
    go_wp2_with fail
    refine wp_loop_rounds 1 ?_
    rw [rounds_succ]
    go_wp2_with fail
    go_ret
    exact ⟨rfl, Below.refl _ _⟩
  · have hpos : 0 < ms.length := List.length_pos_iff.2 h0
    obtain ⟨b, o, rfl, hb, hcell⟩ := Mvs.at h hpos
    obtain ⟨b', o', rfl, hb', hcell'⟩ := Mvs.at h' hpos
    have HC := Lib.hid hcell
    have HC' := Lib.hid hcell'
    clear hcell h h0 hpos hcell' h'
    go_enter Try.func20, Try.ntmps20
    go_wp2_with fail
    go_loopw [5] (fun i wr => ∃ k : Nat, k ≤ ms.length ∧ i = .int .i64 k ∧ Below w.heap.size w wr) (fun i _ => ms.length - (intOf i).toNat)
    case atStart => exact ⟨0, by omega, rfl, Below.refl _ _⟩
    case round =>
      obtain ⟨k, hk, rfl, hbel⟩ := hrel
      by_cases hlt : k < ms.length
      · obtain ⟨e0, e1⟩ := HC.out k hlt
        obtain ⟨g0, g1⟩ := HC'.out k hlt
        have c0 := (hbel.cell (p := ⟨b, o + k * 2, none⟩) hb).trans e0
        have c1 : wr.cell? ⟨b, o + k * 2 + 1, none⟩ = _ := (hbel.cell (p := ⟨b, o + k * 2 + 1, none⟩) hb).trans e1
        have c3 := (hbel.cell (p := ⟨b', o' + k * 2, none⟩) hb').trans g0
        have c4 : wr.cell? ⟨b', o' + k * 2 + 1, none⟩ = _ := (hbel.cell (p := ⟨b', o' + k * 2 + 1, none⟩) hb').trans g1
        obtain ⟨x, hx⟩ : ∃ x, x = ms.getD k noMv := ⟨_, rfl⟩
        rw [← hx] at c0 c1 c3 c4
        have d0 := fun d os => cell_regrown c0 d os
        have d1 := fun d os => cell_regrown c1 d os
        have d3 := fun d os => cell_regrown c3 d os
        have d4 := fun d os => cell_regrown c4 d os
        have HE := Lib.hid (fun d os => Calls.regrown_of (d := d) (os := os) (eqNote x (grow (redrawn wr d) os)))
        have hi : (k : Int) < (ms.length : Int) := by omega
        clear e0 e1 g0 g1 hx
        go_wp2_with fail
        refine wp_region_quiet_below (by kernel_rfl) (by kernel_rfl) ?_
        repeat (go_big_quiet_step (exact HE.out _ _))
        refine wpQuiet_nil ?_
        intro _ hw'
        obtain ⟨⟨dq, osq⟩, hw''⟩ := hw'
        subst hw''
        go_wp2_with fail
        go_roundw
        case rel => exact ⟨k + 1, by omega, by go_num, hbel.trans ((below_regrown wr dq osq).mono hbel.size)⟩
        case measure => simp [intOf]; omega
      · go_wp2_with fail
        go_ret
        exact ⟨rfl, hbel⟩

set_option maxHeartbeats 1000000 in
theorem szNotesK {w : World} {v : Value} {z : Int} (h : IsMvsK w v) (hz0 : 0 ≤ z) (hz1 : z ≤ 1048576) :
    Calls Try.prog 16 #[v, .int .i64 z] w fun e w' => ∃ n : Int, e = .returned (.int .i64 n) ∧ n ≤ 1048576 ∧ (0 ≤ n → ∃ ms, Mvs w v ms ∧ sumS ms ms.length + ms.length ≤ z) ∧ Below w.heap.size w w' := by
  obtain ⟨a, n, c, hv, hnc⟩ : ∃ a n c, v = .slice a n c ∧ n ≤ maxLen := by
    rcases h with rfl | ⟨x, n, c, ms, rfl, h1, h2, _⟩
    · exact ⟨_, _, _, rfl, by simp [maxLen]⟩
    · exact ⟨_, _, _, rfl, by omega⟩
  have hm' : (n : Int) ≤ 9223372036854775807 := by unfold maxLen at hnc; omega
  by_cases hbig : z < (n : Int)
  · have hd : decide (z - (n : Int) < 0) = true := decide_eq_true (by omega)
    subst hv
    clear h
    go_enter Try.func16, Try.ntmps16
    go_wp2_with fail
    go_ret
    exact ⟨_, rfl, by omega, fun q => absurd q (by decide), Below.refl _ _⟩
  · obtain ⟨ms, hms, hlen, hss⟩ := mvs_of_k h hv (by omega)
    subst hv
    subst hlen
    have hd : decide (z - (ms.length : Int) < 0) = false := decide_eq_false (by omega)
    have HM := Lib.hid hms
    have AT := Lib.hid (fun (i : Nat) (hi : i < ms.length) => Mvs.at hms hi)
    have SS := Lib.hid hss
    have hle : (ms.length : Int) ≤ z := by omega
    clear h hms hss hbig
    go_enter Try.func16, Try.ntmps16
    go_wp2_with fail
    go_loopw [1, 5] (fun m i wr => ∃ (k : Nat) (n : Int), k ≤ ms.length ∧ i = .int .i64 k ∧ m = .int .i64 n ∧ 0 ≤ n ∧ n ≤ 1048576 ∧ Hid (n = z - ms.length - sumS ms k) ∧ Below w.heap.size w wr) (fun _ i _ => ms.length - (intOf i).toNat)
    case atStart => exact ⟨0, _, by omega, rfl, rfl, by omega, by omega, Lib.hid (by simp [sumS]), Below.refl _ _⟩
    case round =>
      obtain ⟨k, n, hk, rfl, rfl, hn0, hn1, HN, hbel⟩ := hrel
      by_cases hlt : k < ms.length
      · obtain ⟨b, o, rfl, hb, hcell⟩ := AT.out k hlt
        obtain ⟨e0, e1⟩ := hcell k hlt
        have c0 := (hbel.cell (p := ⟨b, o + k * 2, none⟩) hb).trans e0
        have c1 : wr.cell? ⟨b, o + k * 2 + 1, none⟩ = _ := (hbel.cell (p := ⟨b, o + k * 2 + 1, none⟩) hb).trans e1
        have hki : (k : Int) < (ms.length : Int) := by omega
        obtain ⟨x, hx⟩ : ∃ x, x = ms.getD k noMv := ⟨_, rfl⟩
        rw [← hx] at c0 c1
        have SZ := Lib.hid (szNote x (by rw [hx]; exact SS.out k hlt) hn0 hn1)
        have SU := Lib.hid (show sumS ms (k + 1) = sumS ms k + (x.2.size : Int) by rw [hx]; rfl)
        clear hx e0 e1 hcell
        by_cases g : n < (x.2.size : Int)
        · rw [if_pos g] at SZ
          clear g
          go_wp2_with (go_at_call 56; refine (SZ.out _).mono ?_; rintro e w2 ⟨rfl, b2⟩)
          go_ret
          exact ⟨_, rfl, by omega, fun q => absurd q (by decide), hbel.trans (b2.mono hbel.size)⟩
        · rw [if_neg g] at SZ
          obtain ⟨r, hr⟩ : ∃ r, r = n - (x.2.size : Int) := ⟨_, rfl⟩
          rw [← hr] at SZ
          have hr0 : 0 ≤ r := by omega
          have hr1 : r ≤ 1048576 := by omega
          have RN := Lib.hid (show r = z - ms.length - sumS ms (k + 1) by rw [SU.out, hr, HN.out]; omega)
          have hd2 : decide (r < 0) = false := decide_eq_false (by omega)
          clear hr g
          go_wp2_with (go_at_call 56; refine (SZ.out _).mono ?_; rintro e w2 ⟨rfl, b2⟩)
          go_roundw
          case rel => exact ⟨k + 1, r, by omega, by go_num, rfl, hr0, hr1, RN, hbel.trans (b2.mono hbel.size)⟩
          case measure => simp [intOf]; omega
      · obtain rfl : k = ms.length := by omega
        go_wp2_with fail
        go_ret
        exact ⟨_, rfl, by omega, fun _ => ⟨ms, HM.out, by have := HN.out; omega⟩, hbel⟩

end Go.Proofs.Ytodknakemgmhkaa
