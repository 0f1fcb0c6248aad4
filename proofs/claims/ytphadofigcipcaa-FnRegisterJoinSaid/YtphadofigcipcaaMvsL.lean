/-
  What the laws' helpers do with moves: sizes, copies, comparisons. For at most 1048576 moves of as many bytes together.
-/
import Derived.Test.YtphadofigcipcaaOpenM
import Derived.Test.YtphadofigcipcaaLawC
import Derived.Test.YtphadofigcipcaaPairB
import Derived.Test.YtphadofigcipcaaSlices
import Derived.Lib.QuietBelow
namespace Go.Proofs.Ytphadofigcipcaa
open Go.RowKit Go.Sort

/-- The bytes of the first k letters. -/
def sumS (ms : List Mv) : Nat → Int
  | 0 => 0
  | k + 1 => sumS ms k + ((ms.getD k noMv).2.size : Int)
theorem sumS_nonneg (ms : List Mv) (k : Nat) : 0 ≤ sumS ms k := by
  induction k with
  | zero => simp [sumS]
  | succ k ih => simp only [sumS]; omega
theorem sumS_mono (ms : List Mv) {i k : Nat} (h : i ≤ k) : sumS ms i ≤ sumS ms k := by
  induction k with
  | zero => obtain rfl : i = 0 := by omega
            exact Int.le_refl _
  | succ k ih =>
    by_cases e : i = k + 1
    · rw [e]; exact Int.le_refl _
    · have := ih (by omega)
      simp only [sumS]; omega
theorem sumS_one (ms : List Mv) {i k : Nat} (h : i < k) : ((ms.getD i noMv).2.size : Int) ≤ sumS ms k := by
  have h1 := sumS_mono ms (show i + 1 ≤ k by omega)
  have h2 := sumS_nonneg ms i
  simp only [sumS] at h1
  omega

theorem info_move : (Try.prog.info? 96).map (fun i => (i.zero, i.size, i.bytes)) = some (some (.agg #[.int .i64 0, .string ⟨#[]⟩]), 2, 24) := by kernel_rfl

theorem run_make_moves (n : Nat) (hn : n ≤ 1048576) (w : World) :
    (Instr.makeSlice 52 (.int .i64 (n : Int)) (.int .i64 (n : Int))).run Try.prog w = .ok (.slice (some ⟨w.heap.size, 0, none⟩) n n) (w.alloc (.cells (madeCells #[.int .i64 0, .string ⟨#[]⟩] (n * 2)) 96)) := by
  obtain ⟨i, hi, hz, hs, hb⟩ := info_parts info_move
  have hr := run_make (P := Try.prog) w 52 96 i (.agg #[.int .i64 0, .string ⟨#[]⟩]) Try.underlying52 hi hz .i64 .i64 n n (by omega) (Int.le_refl _) (by rw [hb]; omega) (by omega)
  simp only [Int.toNat_natCast, hs] at hr
  exact hr

theorem moves_made (w : World) (n : Nat) : (w.alloc (.cells (madeCells #[.int .i64 0, .string ⟨#[]⟩] (n * 2)) 96)).rowIs w.heap.size 96 (n * 2) (mvF []) :=
  ⟨_, Go.Deep.blk_alloc_new _ _, size_madeCells _ _, fun i hi => by
    have hm : i % 2 = 0 ∨ i % 2 = 1 := by omega
    simp only [madeCells, Array.getElem?_map, Array.getElem?_range]
    rw [if_pos hi]
    simp only [Option.map_some, List.size_toArray, List.length_cons, List.length_nil]
    unfold mvF
    rcases hm with q | q <;> (rw [show i % (0 + 1 + 1) = i % 2 by rfl, q]; rfl)⟩

def MadeMvs (w : World) (ms : List Mv) (e : Ending) (w' : World) : Prop := ∃ v, e = .returned v ∧ OwnM w' w.heap.size v ms ∧ Below w.heap.size w w'

/-- A list of which the first k moves are there. -/
def mvTill (ms : List Mv) (k q : Nat) : Value := if q < k * 2 then mvF ms q else mvF [] q
theorem mvTill_succ (ms : List Mv) (k : Nat) (q : Nat) : (if q = k * 2 + 1 then Value.string (ms.getD k noMv).2 else if q = k * 2 then Value.int .i64 (ms.getD k noMv).1 else mvTill ms k q) = mvTill ms (k + 1) q := by
  unfold mvTill
  by_cases h1 : q = k * 2 + 1
  · rw [if_pos h1, if_pos (by omega), h1, mvF1]
  · rw [if_neg h1]
    by_cases h0 : q = k * 2
    · rw [if_pos h0, if_pos (by omega), h0, mvF0]
    · rw [if_neg h0]
      by_cases h : q < k * 2
      · rw [if_pos h, if_pos (by omega)]
      · rw [if_neg h, if_neg (by omega)]

end Go.Proofs.Ytphadofigcipcaa
