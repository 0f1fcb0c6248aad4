/-
  A path that came in, and a list of paths that came in: what is known of their cells. No condition.
-/
import Derived.Test.YtoebgdcgcdigaabRowK
import Derived.Deep.SlicePairs
import Derived.Lib.SmallJoins
namespace Go.Proofs.Ytoebgdcgcdigaab
open Go.RowKit

/-- What is known of a path that came in. -/
def IsPathK (w : World) (v : Value) : Prop :=
  ∃ (a1 a2 : Option Addr) (n1 c1 n2 c2 : Nat) (z1 z2 : List Int), v = .agg #[.slice a1 n1 c1, .slice a2 n2 c2] ∧ IsRowK .i64 w a1 n1 c1 z1 ∧ IsRowK .i64 w a2 n2 c2 z2

/-- What is known of a list of paths that came in. -/
def IsPathsK (w : World) (v : Value) : Prop :=
  v = .slice none 0 0 ∨
  ∃ (x : Addr) (len cap : Nat) (A1 A2 : Nat → Option Addr) (N1 C1 N2 C2 : Nat → Nat) (Z1 Z2 : Nat → List Int), v = .slice (some x) len cap ∧ len ≤ cap ∧ cap ≤ maxLen ∧
    ∀ i, i < cap → w.cell? (x.add (i * 2)) = some (.slice (A1 i) (N1 i) (C1 i)) ∧ w.cell? (x.add (i * 2 + 1)) = some (.slice (A2 i) (N2 i) (C2 i)) ∧
      IsRowK .i64 w (A1 i) (N1 i) (C1 i) (Z1 i) ∧ IsRowK .i64 w (A2 i) (N2 i) (C2 i) (Z2 i)

theorem IsRowK.le {k : IntKind} {w : World} {a : Option Addr} {n c : Nat} {z : List Int} (h : IsRowK k w a n c z) : n ≤ c ∧ c ≤ maxLen := by
  rcases h with ⟨_, rfl, rfl, _⟩ | ⟨_, _, h1, h2, _⟩
  · exact ⟨Nat.le_refl _, Nat.zero_le _⟩
  · exact ⟨h1, h2⟩

/-- The cells of path i of a list. -/
def w0cell (w : World) (x : Addr) (i : Nat) (q r : Option Addr × Nat × Nat × List Int) : Prop :=
  w.cell? (x.add (i * 2)) = some (.slice q.1 q.2.1 q.2.2.1) ∧ w.cell? (x.add (i * 2 + 1)) = some (.slice r.1 r.2.1 r.2.2.1) ∧ IsRowK .i64 w q.1 q.2.1 q.2.2.1 q.2.2.2 ∧ IsRowK .i64 w r.1 r.2.1 r.2.2.1 r.2.2.2

section
variable {H : Type} {enc : TypeId × Value → H} {W : World}

theorem cells_int : Try.prog.cellsOf 3 = 1 := by kernel_rfl

theorem row_of_trod {fuel : Nat} {v : Value} {y : DataW H × List MemPlace} (h : DataW.trod enc Try.prog W 0 (fun _ => true) true fuel 27 [v] = some y) :
    ∃ (a : Option Addr) (n c : Nat) (z : List Int), v = .slice a n c ∧ IsRowK .i64 W a n c z := by
  rcases Go.ChangeShapes.open_ints Try.underlying27 Try.underlying3 cells_int h with ⟨hcs, _⟩ | ⟨x, l, c, zs, hcs, _, hl, hm, hz, _, hcell, hwz⟩
  · simp only [List.cons.injEq, and_true] at hcs
    exact ⟨none, 0, 0, [], hcs, .inl ⟨rfl, rfl, rfl, rfl⟩⟩
  · simp only [List.cons.injEq, and_true] at hcs
    exact ⟨some x, l, c, zs, hcs, .inr ⟨x, rfl, hl, hm, by simpa using hz, hcell, hwz⟩⟩

end

end Go.Proofs.Ytoebgdcgcdigaab
