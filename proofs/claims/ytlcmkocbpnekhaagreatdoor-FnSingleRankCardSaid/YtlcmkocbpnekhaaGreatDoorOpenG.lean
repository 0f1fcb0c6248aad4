/-
  A single line that came in: what is known of its cells. No condition.
-/
import Derived.Test.YtlcmkocbpnekhaaGreatDoorRowK
import Derived.Deep.SlicePairs
import Derived.Lib.SmallJoins
namespace Go.Proofs.YtlcmkocbpnekhaaGreatDoor
open Go.RowKit

def fits64 (n : Int) : Prop := -9223372036854775808 ≤ n ∧ n ≤ 9223372036854775807
/-- What is known of a single line that came in. -/
def IsSingK (w : World) (v : Value) : Prop :=
  ∃ (a1 a2 : Option Addr) (n1 c1 n2 c2 : Nat) (z1 z2 : List Int) (r h : Int), v = .agg #[.slice a1 n1 c1, .slice a2 n2 c2, .int .i64 r, .int .i64 h] ∧ IsRowK .i64 w a1 n1 c1 z1 ∧ IsRowK .i64 w a2 n2 c2 z2 ∧ fits64 r ∧ fits64 h

theorem IsRowK.le {k : IntKind} {w : World} {a : Option Addr} {n c : Nat} {z : List Int} (h : IsRowK k w a n c z) : n ≤ c ∧ c ≤ maxLen := by
  rcases h with ⟨_, rfl, rfl, _⟩ | ⟨_, _, h1, h2, _⟩
  · exact ⟨Nat.le_refl _, Nat.zero_le _⟩
  · exact ⟨h1, h2⟩
theorem IsRowK.below {k : IntKind} {w w' : World} {a : Option Addr} {n c : Nat} {z : List Int} (h : IsRowK k w a n c z) (hb : Below w.heap.size w w') : IsRowK k w' a n c z := by
  rcases h with h | ⟨x, rfl, h1, h2, h3, h4, h5⟩
  · exact .inl h
  · refine .inr ⟨x, rfl, h1, h2, h3, fun i hi => ?_, h5⟩
    have hx := World.block_lt_of_cell? w _ (h4 i hi)
    exact (hb.cell (p := x.add i) hx).trans (h4 i hi)
theorem IsSingK.below {w w' : World} {v : Value} (h : IsSingK w v) (hb : Below w.heap.size w w') : IsSingK w' v := by
  obtain ⟨a1, a2, n1, c1, n2, c2, z1, z2, r, hd, rfl, r1, r2, f1, f2⟩ := h
  exact ⟨a1, a2, n1, c1, n2, c2, z1, z2, r, hd, rfl, r1.below hb, r2.below hb, f1, f2⟩
theorem IsSingK.agg {w : World} {v : Value} (h : IsSingK w v) : ∃ u1 u2 r hd, v = .agg #[u1, u2, .int .i64 r, .int .i64 hd] := by
  obtain ⟨a1, a2, n1, c1, n2, c2, z1, z2, r, hd, rfl, _⟩ := h
  exact ⟨_, _, _, _, rfl⟩

section
variable {H : Type} {enc : TypeId × Value → H} {W : World}

theorem cells_int : Tryz.prog.cellsOf 3 = 1 := by kernel_rfl

theorem row_of_trod {fuel : Nat} {v : Value} {y : DataW H × List MemPlace} (h : DataW.trod enc Tryz.prog W 0 (fun _ => true) true fuel 23 [v] = some y) :
    ∃ (a : Option Addr) (n c : Nat) (z : List Int), v = .slice a n c ∧ IsRowK .i64 W a n c z := by
  rcases Go.ChangeShapes.open_ints Tryz.underlying23 Tryz.underlying3 cells_int h with ⟨hcs, _⟩ | ⟨x, l, c, zs, hcs, _, hl, hm, hz, _, hcell, hwz⟩
  · simp only [List.cons.injEq, and_true] at hcs
    exact ⟨none, 0, 0, [], hcs, .inl ⟨rfl, rfl, rfl, rfl⟩⟩
  · simp only [List.cons.injEq, and_true] at hcs
    exact ⟨some x, l, c, zs, hcs, .inr ⟨x, rfl, hl, hm, by simpa using hz, hcell, hwz⟩⟩

end

end Go.Proofs.YtlcmkocbpnekhaaGreatDoor
