/-
  What the laws' helpers do with a line: sizes, a copy, a comparison. For at most 1048576 blocks and as many trains.
-/
import Derived.Test.YtoapfcnpmpggcaaLineL
namespace Go.Proofs.Ytoapfcnpmpggcaa
open Go.RowKit Go.Sort

/-- What the sizes of a line leave of a number. -/
def szOfL (m : Int) (n1 n2 : Nat) : Int := if m < n1 then -1 else if m - n1 < n2 then -1 else m - n1 - n2

theorem IsLineK.agg {w : World} {v : Value} (h : IsLineK w v) : ∃ u1 u2, v = .agg #[u1, u2] := by
  obtain ⟨a1, n1, c1, a2, n2, c2, z2, rfl, _⟩ := h
  exact ⟨_, _, rfl⟩

end Go.Proofs.Ytoapfcnpmpggcaa
