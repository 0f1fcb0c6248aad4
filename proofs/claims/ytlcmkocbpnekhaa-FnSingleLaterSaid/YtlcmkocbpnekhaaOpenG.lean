/-
  A single line that came in: what is known of its cells. No condition.
-/
import Derived.Test.YtlcmkocbpnekhaaRowK
import Derived.Deep.SlicePairs
import Derived.Lib.SmallJoins
namespace Go.Proofs.Ytlcmkocbpnekhaa
open Go.RowKit

def fits64 (n : Int) : Prop := -9223372036854775808 ≤ n ∧ n ≤ 9223372036854775807
/-- What is known of a single line that came in. -/
def IsSingK (w : World) (v : Value) : Prop :=
  ∃ (a1 a2 : Option Addr) (n1 c1 n2 c2 : Nat) (z1 z2 : List Int) (r h : Int), v = .agg #[.slice a1 n1 c1, .slice a2 n2 c2, .int .i64 r, .int .i64 h] ∧ IsRowK .i64 w a1 n1 c1 z1 ∧ IsRowK .i64 w a2 n2 c2 z2 ∧ fits64 r ∧ fits64 h

theorem IsRowK.le {k : IntKind} {w : World} {a : Option Addr} {n c : Nat} {z : List Int} (h : IsRowK k w a n c z) : n ≤ c ∧ c ≤ maxLen := by
  rcases h with ⟨_, rfl, rfl, _⟩ | ⟨_, _, h1, h2, _⟩
  · exact ⟨Nat.le_refl _, Nat.zero_le _⟩
  · exact ⟨h1, h2⟩
theorem IsRowK.below {k : IntKind} {w w' : World} {a : Option Addr} {n c : Nat} {z : List Int} (h : IsRowK k w a n c z) (hb : Below w.heap.size w w') : IsRowK k w' a n c z := by
  rcases h with h | ⟨x, rfl, h1, h2, h3, h4, h5⟩
  · exact .inl h
  · refine .inr ⟨x, rfl, h1, h2, h3, fun i hi => ?_, h5⟩
    have hx := World.block_lt_of_cell? w _ (h4 i hi)
    exact (hb.cell (p := x.add i) hx).trans (h4 i hi)
theorem IsSingK.below {w w' : World} {v : Value} (h : IsSingK w v) (hb : Below w.heap.size w w') : IsSingK w' v := by
  obtain ⟨a1, a2, n1, c1, n2, c2, z1, z2, r, hd, rfl, r1, r2, f1, f2⟩ := h
  exact ⟨a1, a2, n1, c1, n2, c2, z1, z2, r, hd, rfl, r1.below hb, r2.below hb, f1, f2⟩
theorem IsSingK.agg {w : World} {v : Value} (h : IsSingK w v) : ∃ u1 u2 r hd, v = .agg #[u1, u2, .int .i64 r, .int .i64 hd] := by
  obtain ⟨a1, a2, n1, c1, n2, c2, z1, z2, r, hd, rfl, _⟩ := h
  exact ⟨_, _, _, _, rfl⟩

section
variable {H : Type} {enc : TypeId × Value → H} {W : World}

theorem cells_int : Try.prog.cellsOf 3 = 1 := by kernel_rfl

theorem row_of_trod {fuel : Nat} {v : Value} {y : DataW H × List MemPlace} (h : DataW.trod enc Try.prog W 0 (fun _ => true) true fuel 23 [v] = some y) :
    ∃ (a : Option Addr) (n c : Nat) (z : List Int), v = .slice a n c ∧ IsRowK .i64 W a n c z := by
  rcases Go.ChangeShapes.open_ints Try.underlying23 Try.underlying3 cells_int h with ⟨hcs, _⟩ | ⟨x, l, c, zs, hcs, _, hl, hm, hz, _, hcell, hwz⟩
  · simp only [List.cons.injEq, and_true] at hcs
    exact ⟨none, 0, 0, [], hcs, .inl ⟨rfl, rfl, rfl, rfl⟩⟩
  · simp only [List.cons.injEq, and_true] at hcs
    exact ⟨some x, l, c, zs, hcs, .inr ⟨x, rfl, hl, hm, by simpa using hz, hcell, hwz⟩⟩

set_option maxRecDepth 100000 in
theorem open_single {v : Value} {d : DataW H} {p : List MemPlace} {b0 : Nat} (hv : Value.okWide Try.prog W .any b0 44 v) (h : DataW.Trod enc Try.prog W 0 (fun _ => true) true 44 v d p) : IsSingK W v := by
  obtain ⟨v0, v1, v2, v3, y0, y1, y2, y3, n, rfl, rfl, rfl, h0, h1, h2, h3⟩ := Go.Joins.open_agg4 Try.underlying44 (by kernel_rfl) (by kernel_rfl) hv h
  obtain ⟨a1, n1, c1, z1, rfl, r1⟩ := row_of_trod h0
  obtain ⟨a2, n2, c2, z2, rfl, r2⟩ := row_of_trod h1
  obtain ⟨k2, e2, _, f2⟩ := DataW.trod_int Try.underlying3 h2
  obtain ⟨k3, e3, _, f3⟩ := DataW.trod_int Try.underlying3 h3
  simp only [List.cons.injEq, and_true] at e2 e3
  subst e2
  subst e3
  have hmin : IntKind.i64.min = -9223372036854775808 := rfl
  have hmax : IntKind.i64.max = 9223372036854775807 := rfl
  have q2 := f2
  have q3 := f3
  simp only [Lit.wf, Bool.and_eq_true, decide_eq_true_eq, hmin, hmax] at q2 q3
  exact ⟨a1, a2, n1, c1, n2, c2, z1, z2, k2, k3, rfl, r1, r2, q2, q3⟩

end

end Go.Proofs.Ytlcmkocbpnekhaa
