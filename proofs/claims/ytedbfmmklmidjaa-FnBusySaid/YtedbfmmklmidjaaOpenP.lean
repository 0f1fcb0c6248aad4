/-
  A path that came in, and a list of paths that came in: what is known of their cells. No condition.
-/
import Derived.Test.YtedbfmmklmidjaaRowK
import Derived.Deep.SlicePairs
import Derived.Lib.SmallJoins
namespace Go.Proofs.Ytedbfmmklmidjaa
open Go.RowKit

/-- What is known of a path that came in. -/
def IsPathK (w : World) (v : Value) : Prop :=
  ∃ (a1 a2 : Option Addr) (n1 c1 n2 c2 : Nat) (z1 z2 : List Int), v = .agg #[.slice a1 n1 c1, .slice a2 n2 c2] ∧ IsRowK .i64 w a1 n1 c1 z1 ∧ IsRowK .i64 w a2 n2 c2 z2

/-- What is known of a list of paths that came in. -/
def IsPathsK (w : World) (v : Value) : Prop :=
  v = .slice none 0 0 ∨
  ∃ (x : Addr) (len cap : Nat) (A1 A2 : Nat → Option Addr) (N1 C1 N2 C2 : Nat → Nat) (Z1 Z2 : Nat → List Int), v = .slice (some x) len cap ∧ len ≤ cap ∧ cap ≤ maxLen ∧
    ∀ i, i < cap → w.cell? (x.add (i * 2)) = some (.slice (A1 i) (N1 i) (C1 i)) ∧ w.cell? (x.add (i * 2 + 1)) = some (.slice (A2 i) (N2 i) (C2 i)) ∧
      IsRowK .i64 w (A1 i) (N1 i) (C1 i) (Z1 i) ∧ IsRowK .i64 w (A2 i) (N2 i) (C2 i) (Z2 i)

theorem IsRowK.le {k : IntKind} {w : World} {a : Option Addr} {n c : Nat} {z : List Int} (h : IsRowK k w a n c z) : n ≤ c ∧ c ≤ maxLen := by
  rcases h with ⟨_, rfl, rfl, _⟩ | ⟨_, _, h1, h2, _⟩
  · exact ⟨Nat.le_refl _, Nat.zero_le _⟩
  · exact ⟨h1, h2⟩

/-- The cells of path i of a list. -/
def w0cell (w : World) (x : Addr) (i : Nat) (q r : Option Addr × Nat × Nat × List Int) : Prop :=
  w.cell? (x.add (i * 2)) = some (.slice q.1 q.2.1 q.2.2.1) ∧ w.cell? (x.add (i * 2 + 1)) = some (.slice r.1 r.2.1 r.2.2.1) ∧ IsRowK .i64 w q.1 q.2.1 q.2.2.1 q.2.2.2 ∧ IsRowK .i64 w r.1 r.2.1 r.2.2.1 r.2.2.2

section
variable {H : Type} {enc : TypeId × Value → H} {W : World}

theorem cells_int : Try.prog.cellsOf 3 = 1 := by kernel_rfl

theorem row_of_trod {fuel : Nat} {v : Value} {y : DataW H × List MemPlace} (h : DataW.trod enc Try.prog W 0 (fun _ => true) true fuel 23 [v] = some y) :
    ∃ (a : Option Addr) (n c : Nat) (z : List Int), v = .slice a n c ∧ IsRowK .i64 W a n c z := by
  rcases Go.ChangeShapes.open_ints Try.underlying23 Try.underlying3 cells_int h with ⟨hcs, _⟩ | ⟨x, l, c, zs, hcs, _, hl, hm, hz, _, hcell, hwz⟩
  · simp only [List.cons.injEq, and_true] at hcs
    exact ⟨none, 0, 0, [], hcs, .inl ⟨rfl, rfl, rfl, rfl⟩⟩
  · simp only [List.cons.injEq, and_true] at hcs
    exact ⟨some x, l, c, zs, hcs, .inr ⟨x, rfl, hl, hm, by simpa using hz, hcell, hwz⟩⟩

set_option maxRecDepth 100000 in
theorem open_path {v : Value} {d : DataW H} {p : List MemPlace} {b0 : Nat} (hv : Value.okWide Try.prog W .any b0 72 v) (h : DataW.Trod enc Try.prog W 0 (fun _ => true) true 72 v d p) : IsPathK W v := by
  obtain ⟨v0, v1, y0, y1, n, rfl, rfl, rfl, h0, h1⟩ := Go.Joins.open_agg2 Try.underlying72 (by kernel_rfl) (by kernel_rfl) hv h
  obtain ⟨a1, n1, c1, z1, rfl, r1⟩ := row_of_trod h0
  obtain ⟨a2, n2, c2, z2, rfl, r2⟩ := row_of_trod h1
  exact ⟨a1, a2, n1, c1, n2, c2, z1, z2, rfl, r1, r2⟩

set_option maxRecDepth 100000 in
theorem open_paths {v : Value} {d : DataW H} {p : List MemPlace} {b0 : Nat} (hv : Value.okWide Try.prog W .any b0 22 v) (h : DataW.Trod enc Try.prog W 0 (fun _ => true) true 22 v d p) : IsPathsK W v := by
  obtain ⟨a, len, cap, rfl⟩ := Go.WideShapes.okWide_slice Try.underlying22 hv
  obtain ⟨fuel, hf⟩ := h
  rcases Go.Deep.open_slice_pairs Try.underlying22 Try.underlying72 (by kernel_rfl) rfl rfl (by kernel_rfl) (by kernel_rfl) hf with ⟨hcs, _⟩ | ⟨x, l, c, m, n, V0, V1, D0, D1, P0, P1, hcs, _, hl, hm, hmm, _, hi⟩
  · simp only [Value.cells, List.cons.injEq, and_true] at hcs
    exact .inl (by simpa using hcs)
  · have hcs' : Value.slice a len cap = .slice (some x) l c := by simpa [Value.cells] using hcs
    obtain rfl : m = c := by simpa using hmm
    refine .inr ?_
    have each : ∀ i, i < m → ∃ q : (Option Addr × Nat × Nat × List Int) × (Option Addr × Nat × Nat × List Int),
        w0cell W x i q.1 q.2 := by
      intro i him
      obtain ⟨e0, e1, t0, t1⟩ := hi i him
      obtain ⟨a1, n1, c1, z1, hv1, r1⟩ := row_of_trod t0
      obtain ⟨a2, n2, c2, z2, hv2, r2⟩ := row_of_trod t1
      rw [hv1] at e0
      rw [hv2] at e1
      exact ⟨((a1, n1, c1, z1), (a2, n2, c2, z2)), e0, e1, r1, r2⟩
    have all : ∃ F : Nat → (Option Addr × Nat × Nat × List Int) × (Option Addr × Nat × Nat × List Int), ∀ i, i < m → w0cell W x i (F i).1 (F i).2 := by
      refine ⟨fun i => if q : i < m then Classical.choose (each i q) else ((none, 0, 0, []), (none, 0, 0, [])), fun i q => ?_⟩
      simp only [dif_pos q]
      exact Classical.choose_spec (each i q)
    obtain ⟨F, hF⟩ := all
    exact ⟨x, l, m, fun i => (F i).1.1, fun i => (F i).2.1, fun i => (F i).1.2.1, fun i => (F i).1.2.2.1, fun i => (F i).2.2.1, fun i => (F i).2.2.2.1, fun i => (F i).1.2.2.2, fun i => (F i).2.2.2.2, hcs', hl, hm, fun i q => hF i q⟩

end

end Go.Proofs.Ytedbfmmklmidjaa
