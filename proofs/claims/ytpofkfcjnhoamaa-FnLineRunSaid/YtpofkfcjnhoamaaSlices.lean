/-
  What the laws' helpers on lists of integers do: a copy, a comparison, the marking of a list and the look whether it still holds its marks. For lists of at most 1048576 integers.
-/
import Derived.Test.YtpofkfcjnhoamaaKit
import Derived.WalkLawsBesides
import Derived.Lib.Hide
import Derived.Deep.QuietTactic
import Derived.BigQuiet
namespace Go.Proofs.Ytpofkfcjnhoamaa
open Go.RowKit

set_option maxHeartbeats 400000 in
theorem toInts {w : World} {v : Value} {xs : List Int} (h : Ints w v xs) : Calls Try.prog 65 #[v] w (MadeInts w xs) := by
  obtain ⟨a, cap, rfl, hl, hc⟩ := h
  have hmk := run_make_row' (P := Try.prog) 24 3 (.int .i64 0) 8 Try.underlying24 info_int rfl .i64 .i64 xs.length (by omega) (by omega)
  have hl' : (xs.length : Int) ≤ 1048576 := by omega
  rcases hc with rfl | ⟨b, o, rfl, hb, hcell⟩
  · have hmk0 : ∀ w : World, (Instr.makeSlice 24 (.int .i64 0) (.int .i64 0)).run Try.prog w = .ok (.slice (some ⟨w.heap.size, 0, none⟩) 0 0) (w.alloc (.cells (madeCells #[.int .i64 0] 0) 3)) := hmk
    go_enter Try.func65, Try.ntmps65
    go_wp2_with fail
    refine wp_loop_rounds 1 ?_
    rw [rounds_succ]
    go_wp2_with fail
    go_ret
    refine ⟨_, rfl, ?_, (Below.refl _ _).alloc (Nat.le_refl _) _⟩
    exact own_of_rowIs (f := fun _ => 0) (World.rowIs_made w _ 0 _) (Nat.le_refl _) (by simp [maxLen]) rfl (fun i hi => by omega)
  · go_enter Try.func65, Try.ntmps65
    go_wp2_with fail
    go_loopw [4] (fun i wr => ∃ k : Nat, k ≤ xs.length ∧ i = .int .i64 k ∧ wr.rowIs w.heap.size 3 xs.length (fun j => .int .i64 (if j < k then xs.getD j 0 else 0)) ∧ Below w.heap.size w wr) (fun i _ => xs.length - (intOf i).toNat)
    case atStart =>
      exact ⟨0, by omega, rfl, (World.rowIs_made w _ _ _).congr (fun i _ => by simp), (Below.refl _ _).alloc (Nat.le_refl _) _⟩
    case round =>
      obtain ⟨k, hk, rfl, hrow, hbel⟩ := hrel
      have hsz : w.heap.size < wr.heap.size := hrow.lt
      by_cases hlt : k < xs.length
      · have hc1 : wr.cell? ⟨b, o + k, none⟩ = some (.int .i64 (xs.getD k 0)) := (hbel.cell (p := ⟨b, o + k, none⟩) hb).trans (hcell k hlt)
        have hc2 : wr.cell? ⟨w.heap.size, k, none⟩ = some _ := hrow.cell hlt
        have hf2 : wr.frozen? ⟨w.heap.size, k, none⟩ = false := hrow.frozen k
        go_wp2_with fail
        go_roundw
        case rel =>
          refine ⟨k + 1, by omega, by go_num, ?_, hbel.setCell (by simp) _⟩
          refine (hrow.set k _).congr (fun j hj => ?_)
          by_cases e : j = k
          · subst e; simp [hj]
          · by_cases l : j < k
            · rw [if_neg e, if_pos l, if_pos (by omega)]
            · rw [if_neg e, if_neg l, if_neg (by omega)]
        case measure => simp [intOf]; omega
      · go_wp2_with fail
        go_ret
        refine ⟨_, rfl, ?_, hbel⟩
        exact own_of_rowIs hrow (Nat.le_refl _) (by simp only [maxLen]; omega) rfl (fun i hi => by rw [if_pos (by omega)])

set_option maxHeartbeats 400000 in
theorem eqInts {w : World} {u v : Value} {xs : List Int} (h : Ints w u xs) (h' : Ints w v xs) :
    Calls Try.prog 68 #[u, v] w fun e w' => e = .returned (.bool true) ∧ Below w.heap.size w w' := by
  obtain ⟨a, cap, rfl, hl, hc⟩ := h
  obtain ⟨a', cap', rfl, -, hc'⟩ := h'
  have hl' : (xs.length : Int) ≤ 1048576 := by omega
  rcases hc with rfl | ⟨b, o, rfl, hb, hcell⟩
  · go_enter Try.func68, Try.ntmps68
    go_wp2_with fail
    refine wp_loop_rounds 1 ?_
    rw [rounds_succ]
    go_wp2_with fail
    go_ret
    exact ⟨rfl, Below.refl _ _⟩
  · rcases hc' with rfl | ⟨b', o', rfl, hb', hcell'⟩
    · go_enter Try.func68, Try.ntmps68
      go_wp2_with fail
      refine wp_loop_rounds 1 ?_
      rw [rounds_succ]
      go_wp2_with fail
      go_ret
      exact ⟨rfl, Below.refl _ _⟩
    · go_enter Try.func68, Try.ntmps68
      go_wp2_with fail
      go_loopw [5] (fun i wr => ∃ k : Nat, k ≤ xs.length ∧ i = .int .i64 k ∧ Below w.heap.size w wr) (fun i _ => xs.length - (intOf i).toNat)
      case atStart => exact ⟨0, by omega, rfl, Below.refl _ _⟩
      case round =>
        obtain ⟨k, hk, rfl, hbel⟩ := hrel
        by_cases hlt : k < xs.length
        · have hc1 : wr.cell? ⟨b, o + k, none⟩ = some (.int .i64 (xs.getD k 0)) := (hbel.cell (p := ⟨b, o + k, none⟩) hb).trans (hcell k hlt)
          have hc2 : wr.cell? ⟨b', o' + k, none⟩ = some (.int .i64 (xs.getD k 0)) := (hbel.cell (p := ⟨b', o' + k, none⟩) hb').trans (hcell' k hlt)
          have hi : (k : Int) < (xs.length : Int) := by omega
          go_wp2_with fail
          go_quiet (fail)
          go_wp2_with fail
          go_roundw
          case rel => exact ⟨k + 1, by omega, by go_num, below_drewN hbel _⟩
          case measure => simp [intOf]; omega
        · go_wp2_with fail
          go_ret
          exact ⟨rfl, hbel⟩

set_option maxHeartbeats 400000 in
theorem markInts {w : World} {base : Nat} {v : Value} {xs : List Int} {k : Int} (h : OwnI w base v xs) (hl : xs.length ≤ 1048576) (hk0 : 0 ≤ k) (hk : k ≤ 4611686018427387904) :
    Calls Try.prog 70 #[v, .int .i64 k] w (Marked w base v k xs.length) := by
  have hl' : (xs.length : Int) ≤ 1048576 := by omega
  rcases h.shape with ⟨rfl, rfl⟩ | ⟨g, cap, rfl, hb, hg⟩
  · go_enter Try.func70, Try.ntmps70
    go_wp2_with fail
    refine wp_loop_rounds 1 ?_
    rw [rounds_succ]
    go_wp2_with fail
    go_ret
    exact ⟨ret_int (by simp), World.ownsRow_nil _ _ _ _, World.grownBy.refl _ _⟩
  · have h0 : w.ownsRow base 3 1 (.slice (some ⟨g, 0, none⟩) xs.length cap) xs.length (fillTo (fun i => k + i) (fun i => xs.getD i 0) 0 xs.length) := by rw [fill_none]; exact h
    clear h
    go_enter Try.func70, Try.ntmps70
    go_wp2_with fail
    go_loopw [1, 5] (fun q i wr => ∃ j : Nat, j ≤ xs.length ∧ i = .int .i64 j ∧ q = .int .i64 (k + j) ∧ wr.ownsRow base 3 1 (.slice (some ⟨g, 0, none⟩) xs.length cap) xs.length (fillTo (fun i => k + i) (fun i => xs.getD i 0) j xs.length) ∧ w.grownBy wr (some g)) (fun _ i _ => xs.length - (intOf i).toNat)
    case atStart => exact ⟨0, by omega, rfl, by simp, h0, World.grownBy.refl _ _⟩
    case round =>
      obtain ⟨j, hj, rfl, rfl, hown, hgr⟩ := hrel
      by_cases hlt : j < xs.length
      · have hc : wr.cell? ⟨g, j, none⟩ = some (.int .i64 (if j < j then k + j else xs.getD j 0)) := by rw [World.ownsRow.cellAt hown j (by omega), fill_get _ _ _ _ _ hlt]
        have hf : wr.frozen? ⟨g, j, none⟩ = false := World.ownsRow.frozenAt hown j
        go_wp2_with fail
        go_roundw
        case rel =>
          have hs := World.ownsRow.stored hown j (.int .i64 (k + j))
          rw [fill_set (fun i => k + i)] at hs
          exact ⟨j + 1, by omega, by go_num, by go_num, hs.1, grown_trans hgr hs.2⟩
        case measure => simp [intOf]; omega
      · obtain rfl : j = xs.length := by omega
        go_wp2_with fail
        go_ret
        refine ⟨rfl, ?_, hgr⟩
        rw [fill_all] at hown
        unfold OwnI
        rw [marks_length]
        exact hown

end Go.Proofs.Ytpofkfcjnhoamaa
