/-
  What the laws' helpers do with lines: a copy, a comparison, the look at the sizes. For at most 1048576 blocks and as many trains.
-/
import Derived.Test.YtoapfcnpmpggcaaOpenL
import Derived.Test.YtoapfcnpmpggcaaOpenB
import Derived.Test.YtoapfcnpmpggcaaLawC
import Derived.Test.YtoapfcnpmpggcaaSz
import Derived.Test.YtoapfcnpmpggcaaResults
import Derived.Test.YtoapfcnpmpggcaaPairB
namespace Go.Proofs.Ytoapfcnpmpggcaa
open Go.RowKit Go.Sort

theorem info_block : (Try.prog.info? 33).map (fun i => (i.zero, i.size, i.bytes)) = some (some (.agg #[.int .i64 0, .bool false, .bool false]), 3, 16) := by kernel_rfl

theorem run_make_blocks (n : Nat) (hn : n ≤ 1048576) (w : World) :
    (Instr.makeSlice 23 (.int .i64 (n : Int)) (.int .i64 (n : Int))).run Try.prog w = .ok (.slice (some ⟨w.heap.size, 0, none⟩) n n) (w.alloc (.cells (madeCells #[.int .i64 0, .bool false, .bool false] (n * 3)) 33)) := by
  obtain ⟨i, hi, hz, hs, hb⟩ := info_parts info_block
  have hr := run_make (P := Try.prog) w 23 33 i (.agg #[.int .i64 0, .bool false, .bool false]) Try.underlying23 hi hz .i64 .i64 n n (by omega) (Int.le_refl _) (by rw [hb]; omega) (by omega)
  simp only [Int.toNat_natCast, hs] at hr
  exact hr
theorem blocks_made (w : World) (n : Nat) : (w.alloc (.cells (madeCells #[.int .i64 0, .bool false, .bool false] (n * 3)) 33)).rowIs w.heap.size 33 (n * 3) (bkF []) :=
  ⟨_, Go.Deep.blk_alloc_new _ _, size_madeCells _ _, fun i hi => by
    have hm : i % 3 = 0 ∨ i % 3 = 1 ∨ i % 3 = 2 := by omega
    simp only [madeCells, Array.getElem?_map, Array.getElem?_range]
    rw [if_pos hi]
    simp only [Option.map_some, List.size_toArray, List.length_cons, List.length_nil]
    unfold bkF
    rcases hm with q | q | q <;> (rw [show i % (0 + 1 + 1 + 1) = i % 3 by rfl, q]; rfl)⟩

def MadeBlks (w : World) (bs : List Blk) (e : Ending) (w' : World) : Prop := ∃ v, e = .returned v ∧ OwnB w' w.heap.size v bs ∧ Below w.heap.size w w'

/-- A list of which the first k blocks are there. -/
def bkTill (bs : List Blk) (k q : Nat) : Value := if q < k * 3 then bkF bs q else bkF [] q
theorem bkTill_succ (bs : List Blk) (k : Nat) (q : Nat) : (if q = k * 3 + 2 then Value.bool (bs.getD k nb).2.2 else if q = k * 3 + 1 then Value.bool (bs.getD k nb).2.1 else if q = k * 3 then Value.int .i64 (bs.getD k nb).1 else bkTill bs k q) = bkTill bs (k + 1) q := by
  unfold bkTill
  by_cases h2 : q = k * 3 + 2
  · rw [if_pos h2, if_pos (by omega), h2, bkF2]
  · rw [if_neg h2]
    by_cases h1 : q = k * 3 + 1
    · rw [if_pos h1, if_pos (by omega), h1, bkF1]
    · rw [if_neg h1]
      by_cases h0 : q = k * 3
      · rw [if_pos h0, if_pos (by omega), h0, bkF0]
      · rw [if_neg h0]
        by_cases h : q < k * 3
        · rw [if_pos h, if_pos (by omega)]
        · rw [if_neg h, if_neg (by omega)]

end Go.Proofs.Ytoapfcnpmpggcaa
