/-
  What a call that writes into some blocks alone leaves as it was. No condition; no walk.
-/
import Derived.Test.YtpofkfcjnhoamaaKit
namespace Go.Proofs.Ytpofkfcjnhoamaa
open Go.RowKit

/-- Of what was there only blocks from lo up to hi may have been written. -/
structure GrownIn (w w' : World) (lo hi : Nat) : Prop where
  os : w'.os = w.os
  tape : w'.tape = w.tape
  output : w'.output = w.output
  size : w.heap.size ≤ w'.heap.size
  block : ∀ k, k < w.heap.size → k < lo ∨ hi ≤ k → w'.heap[k]? = w.heap[k]?

theorem GrownIn.refl (w : World) (lo hi : Nat) : GrownIn w w lo hi := ⟨rfl, rfl, rfl, Nat.le_refl _, fun _ _ _ => rfl⟩
theorem GrownIn.step {w w1 w2 : World} {lo hi : Nat} {row : Option Nat} (h : GrownIn w w1 lo hi) (g : w1.grownBy w2 row) (hr : ∀ b, row = some b → lo ≤ b ∧ b < hi) : GrownIn w w2 lo hi :=
  ⟨g.os.trans h.os, g.tape.trans h.tape, g.output.trans h.output, Nat.le_trans h.size g.size, fun k hk hout => (g.block k (Nat.lt_of_lt_of_le hk h.size) (fun e => by have := hr k e.symm; omega)).trans (h.block k hk hout)⟩
/-- Seen from a world in which none of those blocks was there yet. -/
theorem GrownIn.below {w0 w w' : World} {lo hi : Nat} (g : GrownIn w w' lo hi) (c : Below w0.heap.size w0 w) (hlo : w0.heap.size ≤ lo) : Below w0.heap.size w0 w' :=
  ⟨g.os.trans c.os, g.tape.trans c.tape, g.output.trans c.output, Nat.le_trans c.size g.size, fun k hk => (g.block k (Nat.lt_of_lt_of_le hk c.size) (.inl (by omega))).trans (c.block k hk)⟩
/-- A list of the call's own that lies in another block stands. -/
theorem OwnI.keptIn {w w' : World} {base lo hi : Nat} {v : Value} {xs : List Int} (h : OwnI w base v xs) (g : GrownIn w w' lo hi) (hv : ∀ b, v.ownBlock = some b → b < lo ∨ hi ≤ b) : OwnI w' base v xs := by
  rcases h.2 with ⟨rfl, h0⟩ | ⟨b, cap, cur, rfl, hb, hg, hr⟩
  · exact ⟨h.1, .inl ⟨rfl, h0⟩⟩
  · exact ⟨h.1, .inr ⟨b, cap, cur, rfl, hb, (g.block b (Array.getElem?_eq_some_iff.1 hg).1 (hv b rfl)).trans hg, hr⟩⟩
theorem GrownIn.trans {a b c : World} {lo hi : Nat} (h : GrownIn a b lo hi) (k : GrownIn b c lo hi) : GrownIn a c lo hi :=
  ⟨k.os.trans h.os, k.tape.trans h.tape, k.output.trans h.output, Nat.le_trans h.size k.size, fun i hi hout => (k.block i (Nat.lt_of_lt_of_le hi h.size) hout).trans (h.block i hi hout)⟩
theorem GrownIn.of_below {a b : World} (h : Below a.heap.size a b) (lo hi : Nat) : GrownIn a b lo hi := ⟨h.os, h.tape, h.output, h.size, fun k hk _ => h.block k hk⟩
theorem GrownIn.of_grown {a b : World} {row : Option Nat} {lo hi : Nat} (g : a.grownBy b row) (hr : ∀ b, row = some b → lo ≤ b ∧ b < hi) : GrownIn a b lo hi := (GrownIn.refl a lo hi).step g hr

end Go.Proofs.Ytpofkfcjnhoamaa
