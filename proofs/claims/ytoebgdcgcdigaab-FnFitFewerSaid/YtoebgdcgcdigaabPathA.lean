/-
  A path that came in, once the laws' helper on sizes has let it by, can be read. No condition.
-/
import Derived.Test.YtoebgdcgcdigaabOpenP
import Derived.Test.YtoebgdcgcdigaabPathL
namespace Go.Proofs.Ytoebgdcgcdigaab
open Go.RowKit

theorem chain {w a b : World} (h : Below w.heap.size w a) (k : Below a.heap.size a b) : Below w.heap.size w b := h.trans (k.mono h.size)

theorem IsPathK.agg {w : World} {v : Value} (h : IsPathK w v) : ∃ u1 u2, v = .agg #[u1, u2] := by
  obtain ⟨a1, a2, n1, c1, n2, c2, z1, z2, rfl, _⟩ := h
  exact ⟨_, _, rfl⟩
theorem IsRowK.below {k : IntKind} {w w' : World} {a : Option Addr} {n c : Nat} {z : List Int} (h : IsRowK k w a n c z) (hb : Below w.heap.size w w') : IsRowK k w' a n c z := by
  rcases h with h | ⟨x, rfl, h1, h2, h3, h4, h5⟩
  · exact .inl h
  · refine .inr ⟨x, rfl, h1, h2, h3, fun i hi => ?_, h5⟩
    have hx := World.block_lt_of_cell? w _ (h4 i hi)
    exact (hb.cell (p := x.add i) hx).trans (h4 i hi)
theorem IsPathK.below {w w' : World} {v : Value} (h : IsPathK w v) (hb : Below w.heap.size w w') : IsPathK w' v := by
  obtain ⟨a1, a2, n1, c1, n2, c2, z1, z2, rfl, r1, r2⟩ := h
  exact ⟨a1, a2, n1, c1, n2, c2, z1, z2, rfl, r1.below hb, r2.below hb⟩

end Go.Proofs.Ytoebgdcgcdigaab
