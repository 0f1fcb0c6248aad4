/-
  A path that came in, once the laws' helper on sizes has let it by, can be read. No condition.
-/
import Derived.Test.YtedbfmmklmidjaaOpenP
import Derived.Test.YtedbfmmklmidjaaPathL
namespace Go.Proofs.Ytedbfmmklmidjaa
open Go.RowKit

/-- What the sizes of a path that came in leave; where that is not negative the path can be read. -/
theorem szPathK {w : World} {v : Value} {m : Int} (h : IsPathK w v) (hm0 : 0 ≤ m) (hm1 : m ≤ 1048576) :
    Calls Try.prog 63 #[v, .int .i64 m] w fun e w' => ∃ n : Int, e = .returned (.int .i64 n) ∧ n ≤ m ∧ (0 ≤ n → ∃ p, PathV w v p) ∧ Below w.heap.size w w' := by
  obtain ⟨a1, a2, n1, c1, n2, c2, z1, z2, rfl, r1, r2⟩ := h
  refine (szPath (Nat.le_trans r1.le.1 r1.le.2) (Nat.le_trans r2.le.1 r2.le.2) hm0 hm1).mono ?_
  rintro e w' ⟨rfl, hb⟩
  refine ⟨_, rfl, ?_, fun hn => ?_, hb⟩
  · unfold szOf; split
    · omega
    · split <;> omega
  · unfold szOf at hn
    split at hn
    · omega
    · split at hn
      · omega
      · exact ⟨(z1.take n1, z2.take n2), _, _, rfl, ints_of_rowK r1 (by omega), ints_of_rowK r2 (by omega)⟩

theorem chain {w a b : World} (h : Below w.heap.size w a) (k : Below a.heap.size a b) : Below w.heap.size w b := h.trans (k.mono h.size)

theorem IsPathK.agg {w : World} {v : Value} (h : IsPathK w v) : ∃ u1 u2, v = .agg #[u1, u2] := by
  obtain ⟨a1, a2, n1, c1, n2, c2, z1, z2, rfl, _⟩ := h
  exact ⟨_, _, rfl⟩
theorem IsRowK.below {k : IntKind} {w w' : World} {a : Option Addr} {n c : Nat} {z : List Int} (h : IsRowK k w a n c z) (hb : Below w.heap.size w w') : IsRowK k w' a n c z := by
  rcases h with h | ⟨x, rfl, h1, h2, h3, h4, h5⟩
  · exact .inl h
  · refine .inr ⟨x, rfl, h1, h2, h3, fun i hi => ?_, h5⟩
    have hx := World.block_lt_of_cell? w _ (h4 i hi)
    exact (hb.cell (p := x.add i) hx).trans (h4 i hi)
theorem IsPathK.below {w w' : World} {v : Value} (h : IsPathK w v) (hb : Below w.heap.size w w') : IsPathK w' v := by
  obtain ⟨a1, a2, n1, c1, n2, c2, z1, z2, rfl, r1, r2⟩ := h
  exact ⟨a1, a2, n1, c1, n2, c2, z1, z2, rfl, r1.below hb, r2.below hb⟩

end Go.Proofs.Ytedbfmmklmidjaa
