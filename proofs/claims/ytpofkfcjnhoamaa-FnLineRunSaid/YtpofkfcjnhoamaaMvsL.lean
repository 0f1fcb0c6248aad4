/-
  What the laws' helpers do with moves: sizes, copies, comparisons. For at most 1048576 moves of as many bytes together.
-/
import Derived.Test.YtpofkfcjnhoamaaOpenM
import Derived.Test.YtpofkfcjnhoamaaLawC
import Derived.Test.YtpofkfcjnhoamaaPairB
import Derived.Test.YtpofkfcjnhoamaaSlices
import Derived.Lib.QuietBelow
namespace Go.Proofs.Ytpofkfcjnhoamaa
open Go.RowKit Go.Sort

/-- The bytes of the first k letters. -/
def sumS (ms : List Mv) : Nat → Int
  | 0 => 0
  | k + 1 => sumS ms k + ((ms.getD k noMv).2.size : Int)
theorem sumS_nonneg (ms : List Mv) (k : Nat) : 0 ≤ sumS ms k := by
  induction k with
  | zero => simp [sumS]
  | succ k ih => simp only [sumS]; omega
theorem sumS_mono (ms : List Mv) {i k : Nat} (h : i ≤ k) : sumS ms i ≤ sumS ms k := by
  induction k with
  | zero => obtain rfl : i = 0 := by omega
            exact Int.le_refl _
  | succ k ih =>
    by_cases e : i = k + 1
    · rw [e]; exact Int.le_refl _
    · have := ih (by omega)
      simp only [sumS]; omega
theorem sumS_one (ms : List Mv) {i k : Nat} (h : i < k) : ((ms.getD i noMv).2.size : Int) ≤ sumS ms k := by
  have h1 := sumS_mono ms (show i + 1 ≤ k by omega)
  have h2 := sumS_nonneg ms i
  simp only [sumS] at h1
  omega

set_option maxHeartbeats 1000000 in
theorem eqMove (m : Mv) (w : World) :
    Calls Try.prog 66 #[.agg #[.int .i64 m.1, .string m.2], .agg #[.int .i64 m.1, .string m.2]] w fun e w' => e = .returned (.bool true) ∧ Below w.heap.size w w' := by
  go_enter Try.func66, Try.ntmps66
  go_wp2_with fail
  go_ret
  exact ⟨rfl, ((below_self w).alloc (Nat.le_refl _) _).alloc (by simp) _⟩

theorem info_move : (Try.prog.info? 40).map (fun i => (i.zero, i.size, i.bytes)) = some (some (.agg #[.int .i64 0, .string ⟨#[]⟩]), 2, 24) := by kernel_rfl

theorem run_make_moves (n : Nat) (hn : n ≤ 1048576) (w : World) :
    (Instr.makeSlice 47 (.int .i64 (n : Int)) (.int .i64 (n : Int))).run Try.prog w = .ok (.slice (some ⟨w.heap.size, 0, none⟩) n n) (w.alloc (.cells (madeCells #[.int .i64 0, .string ⟨#[]⟩] (n * 2)) 40)) := by
  obtain ⟨i, hi, hz, hs, hb⟩ := info_parts info_move
  have hr := run_make (P := Try.prog) w 47 40 i (.agg #[.int .i64 0, .string ⟨#[]⟩]) Try.underlying47 hi hz .i64 .i64 n n (by omega) (Int.le_refl _) (by rw [hb]; omega) (by omega)
  simp only [Int.toNat_natCast, hs] at hr
  exact hr

theorem moves_made (w : World) (n : Nat) : (w.alloc (.cells (madeCells #[.int .i64 0, .string ⟨#[]⟩] (n * 2)) 40)).rowIs w.heap.size 40 (n * 2) (mvF []) :=
  ⟨_, Go.Deep.blk_alloc_new _ _, size_madeCells _ _, fun i hi => by
    have hm : i % 2 = 0 ∨ i % 2 = 1 := by omega
    simp only [madeCells, Array.getElem?_map, Array.getElem?_range]
    rw [if_pos hi]
    simp only [Option.map_some, List.size_toArray, List.length_cons, List.length_nil]
    unfold mvF
    rcases hm with q | q <;> (rw [show i % (0 + 1 + 1) = i % 2 by rfl, q]; rfl)⟩

def MadeMvs (w : World) (ms : List Mv) (e : Ending) (w' : World) : Prop := ∃ v, e = .returned v ∧ Ow w' w.heap.size 40 2 v ms.length (mvF ms) ∧ Below w.heap.size w w'

/-- A list of which the first k moves are there. -/
def mvTill (ms : List Mv) (k q : Nat) : Value := if q < k * 2 then mvF ms q else mvF [] q
theorem mvTill_succ (ms : List Mv) (k : Nat) (q : Nat) : (if q = k * 2 + 1 then Value.string (ms.getD k noMv).2 else if q = k * 2 then Value.int .i64 (ms.getD k noMv).1 else mvTill ms k q) = mvTill ms (k + 1) q := by
  unfold mvTill
  by_cases h1 : q = k * 2 + 1
  · rw [if_pos h1, if_pos (by omega), h1, mvF1]
  · rw [if_neg h1]
    by_cases h0 : q = k * 2
    · rw [if_pos h0, if_pos (by omega), h0, mvF0]
    · rw [if_neg h0]
      by_cases h : q < k * 2
      · rw [if_pos h, if_pos (by omega)]
      · rw [if_neg h, if_neg (by omega)]

set_option maxHeartbeats 1000000 in
theorem eqMovesS {w : World} {u v : Value} {ms : List Mv} (h : Mvs w u ms) (h' : Mvs w v ms) :
    Calls Try.prog 33 #[u, v] w fun e w' => e = .returned (.bool true) ∧ Below w.heap.size w w' := by
  obtain ⟨a, cap, rfl⟩ := Rd.slice h
  obtain ⟨a', cap', rfl⟩ := Rd.slice h'
  have hl := Rd.len h
  have hl' : (ms.length : Int) ≤ 1048576 := by omega
  by_cases h0 : ms = []
  · subst h0
    clear h h'
    go_enter Try.func33, Try.ntmps33
    go_wp2_with fail
    refine wp_loop_rounds 1 ?_
    rw [rounds_succ]
    go_wp2_with fail
    go_ret
    exact ⟨rfl, Below.refl _ _⟩
  · have hpos : 0 < ms.length := List.length_pos_iff.2 h0
    obtain ⟨b, o, rfl, hb, hcell⟩ := Mvs.at h hpos
    obtain ⟨b', o', rfl, hb', hcell'⟩ := Mvs.at h' hpos
    have HC := Lib.hid hcell
    have HC' := Lib.hid hcell'
    clear hcell h h0 hpos hcell' h'
    go_enter Try.func33, Try.ntmps33
    go_wp2_with fail
    go_loopw [5] (fun i wr => ∃ k : Nat, k ≤ ms.length ∧ i = .int .i64 k ∧ Below w.heap.size w wr) (fun i _ => ms.length - (intOf i).toNat)
    case atStart => exact ⟨0, by omega, rfl, Below.refl _ _⟩
    case round =>
      obtain ⟨k, hk, rfl, hbel⟩ := hrel
      by_cases hlt : k < ms.length
      · obtain ⟨e0, e1⟩ := HC.out k hlt
        obtain ⟨g0, g1⟩ := HC'.out k hlt
        have c0 := (hbel.cell (p := ⟨b, o + k * 2, none⟩) hb).trans e0
        have c1 : wr.cell? ⟨b, o + k * 2 + 1, none⟩ = _ := (hbel.cell (p := ⟨b, o + k * 2 + 1, none⟩) hb).trans e1
        have c3 := (hbel.cell (p := ⟨b', o' + k * 2, none⟩) hb').trans g0
        have c4 : wr.cell? ⟨b', o' + k * 2 + 1, none⟩ = _ := (hbel.cell (p := ⟨b', o' + k * 2 + 1, none⟩) hb').trans g1
        obtain ⟨x, hx⟩ : ∃ x, x = ms.getD k noMv := ⟨_, rfl⟩
        rw [← hx] at c0 c1 c3 c4
        have d0 := fun d os => cell_regrown c0 d os
        have d1 := fun d os => cell_regrown c1 d os
        have d3 := fun d os => cell_regrown c3 d os
        have d4 := fun d os => cell_regrown c4 d os
        have HE := Lib.hid (fun d os => Calls.regrown_of (d := d) (os := os) (eqMove x (grow (redrawn wr d) os)))
        have hi : (k : Int) < (ms.length : Int) := by omega
        clear e0 e1 g0 g1 hx
        go_wp2_with fail
        refine wp_region_quiet_below (by kernel_rfl) (by kernel_rfl) ?_
        repeat (go_big_quiet_step (exact HE.out _ _))
        refine wpQuiet_nil ?_
        intro _ hw'
        obtain ⟨⟨dq, osq⟩, hw''⟩ := hw'
        subst hw''
        go_wp2_with fail
        go_roundw
        case rel => exact ⟨k + 1, by omega, by go_num, hbel.trans ((below_regrown wr dq osq).mono hbel.size)⟩
        case measure => simp [intOf]; omega
      · go_wp2_with fail
        go_ret
        exact ⟨rfl, hbel⟩

end Go.Proofs.Ytpofkfcjnhoamaa
