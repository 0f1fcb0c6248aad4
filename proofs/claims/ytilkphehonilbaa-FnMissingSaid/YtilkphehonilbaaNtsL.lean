/-
  What the laws' helpers do with notes: sizes, copies, comparisons. For at most 1048576 notes of as many bytes together.
-/
import Derived.Test.YtilkphehonilbaaMvsL
namespace Go.Proofs.Ytilkphehonilbaa
open Go.RowKit Go.Sort

/-- The value v owns a list of notes. -/
def OwnN (w : World) (base : Nat) (v : Value) (ms : List Mv) : Prop := Ow w base 42 2 v ms.length (mvF ms)
/-- A call that hands back a new list of notes and a bool. -/
def MadeNtsB (w : World) (ms : List Mv) (b : Bool) (e : Ending) (w' : World) : Prop := ∃ v, e = .returned (.tuple #[v, .bool b]) ∧ OwnN w' w.heap.size v ms ∧ Below w.heap.size w w'
theorem apart_blocks {v1 v2 : Value} {a b c d : Nat} (h1 : ∀ g, v1.ownBlock = some g → a ≤ g ∧ g < b) (h2 : ∀ g, v2.ownBlock = some g → c ≤ g ∧ g < d) (h : b ≤ c ∨ d ≤ a) : v1.ownBlock = none ∨ v1.ownBlock ≠ v2.ownBlock := by
  cases e1 : v1.ownBlock with
  | none => exact .inl rfl
  | some g =>
    refine .inr fun e2 => ?_
    have q1 := h1 g e1
    have q2 := h2 g e2.symm
    omega
theorem OwnN.nts {w : World} {base : Nat} {v : Value} {ms : List Mv} (h : OwnN w base v ms) (hl : ms.length ≤ 1048576) : Mvs w v ms := Ow.rd h hl

theorem info_note : (Try.prog.info? 42).map (fun i => (i.zero, i.size, i.bytes)) = some (some (.agg #[.int .i64 0, .string ⟨#[]⟩]), 2, 24) := by kernel_rfl

theorem run_make_notes (n : Nat) (hn : n ≤ 1048576) (w : World) :
    (Instr.makeSlice 23 (.int .i64 (n : Int)) (.int .i64 (n : Int))).run Try.prog w = .ok (.slice (some ⟨w.heap.size, 0, none⟩) n n) (w.alloc (.cells (madeCells #[.int .i64 0, .string ⟨#[]⟩] (n * 2)) 42)) := by
  obtain ⟨i, hi, hz, hs, hb⟩ := info_parts info_note
  have hr := run_make (P := Try.prog) w 23 42 i (.agg #[.int .i64 0, .string ⟨#[]⟩]) Try.underlying23 hi hz .i64 .i64 n n (by omega) (Int.le_refl _) (by rw [hb]; omega) (by omega)
  simp only [Int.toNat_natCast, hs] at hr
  exact hr

theorem notes_made (w : World) (n : Nat) : (w.alloc (.cells (madeCells #[.int .i64 0, .string ⟨#[]⟩] (n * 2)) 42)).rowIs w.heap.size 42 (n * 2) (mvF []) :=
  ⟨_, Go.Deep.blk_alloc_new _ _, size_madeCells _ _, fun i hi => by
    have hm : i % 2 = 0 ∨ i % 2 = 1 := by omega
    simp only [madeCells, Array.getElem?_map, Array.getElem?_range]
    rw [if_pos hi]
    simp only [Option.map_some, List.size_toArray, List.length_cons, List.length_nil]
    unfold mvF
    rcases hm with q | q <;> (rw [show i % (0 + 1 + 1) = i % 2 by rfl, q]; rfl)⟩

def MadeNts (w : World) (ms : List Mv) (e : Ending) (w' : World) : Prop := ∃ v, e = .returned v ∧ OwnN w' w.heap.size v ms ∧ Below w.heap.size w w'

end Go.Proofs.Ytilkphehonilbaa
