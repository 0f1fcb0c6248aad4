/-
  A drawn state of tokens with a drawn text of events. For codes of at most 1048576 bytes.
-/
import Derived.Test.YthjodagbgmpbhaaGreatDoorDrawTk
import Derived.Test.YthjodagbgmpbhaaGreatDoorTokC
namespace Go.Proofs.YthjodagbgmpbhaaGreatDoor
open Go.RowKit Go.Sort

def DrawnTextG (w : World) (g P m : Nat) (e : Ending) (w' : World) : Prop :=
  ∃ (S : ByteArray) (q : Nat), e = .returned (.string S) ∧ S.size ≤ m ∧ Rdr w' g q ∧ q ≤ P ∧ w.grownBy w' (some g)
theorem ggt {w0 w w' : World} {g B : Nat} (h : w0.grownBy w (some g)) (k : Below B w w') (hB : w0.heap.size ≤ B) : w0.grownBy w' (some g) :=
  ⟨k.os.trans h.os, k.tape.trans h.tape, k.output.trans h.output, Nat.le_trans h.size k.size, fun i hi hne => (k.block i (by omega)).trans (h.block i hi hne)⟩

/-- The state in which a drawing stands that has drawn its tokens: the result's cell, the reader, the tokens. -/
structure AtT (w : World) (g q n : Nat) (b : Tk) (W : World) : Prop where
  cell : Tri3 W w.heap.size (.int .i64 0) (.int .i64 0) (.int .i64 0) 29
  blk : Tri3 W n (.int .i64 b.1) (.int .i64 b.2.1) (.int .i64 b.2.2) 29
  rd : Rdr W g q
  lo : w.heap.size < g
  hi : g < n
  bel : Below w.heap.size w W
theorem AtT.drew {w W : World} {g q n : Nat} {b : Tk} (h : AtT w g q n b W) : AtT w g q n b W.drew := ⟨h.cell, h.blk, h.rd, h.lo, h.hi, h.bel.drew⟩
theorem AtT.grown {w W X : World} {g q q' n : Nat} {b : Tk} (h : AtT w g q n b W) (hg : W.grownBy X (some g)) (hr : Rdr X g q') : AtT w g q' n b X :=
  ⟨h.cell.of (hg.block _ h.cell.lt (by have := h.lo; simp; omega)), h.blk.of (hg.block _ h.blk.lt (by have := h.hi; simp; omega)), hr, h.lo, h.hi, h.bel.grown hg h.bel.size (fun c hc => by have := h.lo; simp only [Option.some.injEq] at hc; omega)⟩
theorem AtT.new {w W : World} {g q : Nat} {b : Tk} (hc : Tri3 W w.heap.size (.int .i64 0) (.int .i64 0) (.int .i64 0) 29) (hr : Rdr W g q) (hl : w.heap.size < g) (hb : Below w.heap.size w W) : AtT w g q W.heap.size b (W.alloc (.cells #[.int .i64 b.1, .int .i64 b.2.1, .int .i64 b.2.2] 29)) :=
  have e := below_alloc W (.cells #[.int .i64 b.1, .int .i64 b.2.1, .int .i64 b.2.2] 29)
  ⟨hc.below e, Tri3.new _ _ _ _ _, hr.below e hr.lt, hl, hr.lt, hb.trans (e.mono hb.size)⟩
/-- What is behind the last store. -/
theorem AtT.fin {w W : World} {g q n : Nat} {b : Tk} (h : AtT w g q n b W) (x y z : Value) : Tri3 (((W.setCell ⟨w.heap.size, 0, none⟩ x).setCell ⟨w.heap.size, 1, none⟩ y).setCell ⟨w.heap.size, 2, none⟩ z) w.heap.size x y z 29 ∧ Below w.heap.size w (((W.setCell ⟨w.heap.size, 0, none⟩ x).setCell ⟨w.heap.size, 1, none⟩ y).setCell ⟨w.heap.size, 2, none⟩ z) :=
  ⟨h.cell.stored x y z, stored_below h.bel (Nat.le_refl _) x y z⟩

end Go.Proofs.YthjodagbgmpbhaaGreatDoor
