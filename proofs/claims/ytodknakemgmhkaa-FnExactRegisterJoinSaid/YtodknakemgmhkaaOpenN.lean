/-
  Notes that came in: what is known of their cells. No condition.
-/
import Derived.Test.YtodknakemgmhkaaOpenM
namespace Go.Proofs.Ytodknakemgmhkaa
open Go.RowKit

section
variable {H : Type} {enc : TypeId × Value → H} {W : World}

set_option maxRecDepth 100000 in
theorem open_note {v : Value} {d : DataW H} {p : List MemPlace} {b0 : Nat} (hv : Value.okWide Try.prog W .any b0 63 v) (h : DataW.Trod enc Try.prog W 0 (fun _ => true) true 63 v d p) : IsMoveK W v := by
  obtain ⟨v0, v1, y0, y1, n, rfl, rfl, rfl, h0, h1⟩ := Go.Joins.open_agg2 Try.underlying63 (by kernel_rfl) (by kernel_rfl) hv h
  obtain ⟨k, e0, _, _⟩ := DataW.trod_int Try.underlying3 h0
  obtain ⟨s, e1, _, hs⟩ := DataW.trod_string Try.underlying9 h1
  simp only [List.cons.injEq, and_true] at e0 e1
  subst e0
  subst e1
  exact ⟨(k, s), rfl, hs⟩

set_option maxRecDepth 100000 in
theorem open_notes {v : Value} {d : DataW H} {p : List MemPlace} {b0 : Nat} (hv : Value.okWide Try.prog W .any b0 22 v) (h : DataW.Trod enc Try.prog W 0 (fun _ => true) true 22 v d p) : IsMvsK W v := by
  obtain ⟨a, len, cap, rfl⟩ := Go.WideShapes.okWide_slice Try.underlying22 hv
  obtain ⟨fuel, hf⟩ := h
  rcases Go.Deep.open_slice_pairs Try.underlying22 Try.underlying63 (by kernel_rfl) rfl rfl (by kernel_rfl) (by kernel_rfl) hf with ⟨hcs, _⟩ | ⟨x, l, c, m, n, V0, V1, D0, D1, P0, P1, hcs, _, hl, hm, hmm, _, hi⟩
  · simp only [Value.cells, List.cons.injEq, and_true] at hcs
    exact .inl (by simpa using hcs)
  · have hcs' : Value.slice a len cap = .slice (some x) l c := by simpa [Value.cells] using hcs
    obtain rfl : m = c := by simpa using hmm
    have each : ∀ i, i < m → ∃ b : Mv, W.cell? (x.add (i * 2)) = some (.int .i64 b.1) ∧ W.cell? (x.add (i * 2 + 1)) = some (.string b.2) ∧ b.2.size ≤ maxLen := by
      intro i him
      obtain ⟨e0, e1, t0, t1⟩ := hi i him
      obtain ⟨k, q0, _, _⟩ := DataW.trod_int Try.underlying3 t0
      obtain ⟨s, q1, _, hs⟩ := DataW.trod_string Try.underlying9 t1
      simp only [List.cons.injEq, and_true] at q0 q1
      rw [q0] at e0
      rw [q1] at e1
      exact ⟨(k, s), e0, e1, hs⟩
    have all : ∃ f : Nat → Mv, ∀ i, i < m → W.cell? (x.add (i * 2)) = some (.int .i64 (f i).1) ∧ W.cell? (x.add (i * 2 + 1)) = some (.string (f i).2) ∧ (f i).2.size ≤ maxLen := by
      refine ⟨fun i => if q : i < m then Classical.choose (each i q) else noMv, fun i q => ?_⟩
      simp only [dif_pos q]
      exact Classical.choose_spec (each i q)
    obtain ⟨f, hf2⟩ := all
    have hg : ∀ i, i < m → ((List.range m).map f).getD i noMv = f i := fun i hi => by simp [hi]
    refine .inr ⟨x, l, m, (List.range m).map f, hcs', hl, hm, by simp, fun q hq => ?_, fun i hi => by rw [hg i hi]; exact (hf2 i hi).2.2⟩
    have him : q / 2 < m := by omega
    obtain ⟨e0, e1, _⟩ := hf2 (q / 2) him
    have hd : q = q / 2 * 2 ∨ q = q / 2 * 2 + 1 := by omega
    rcases hd with hd | hd
    · rw [hd, mvF0, hg _ him]; exact e0
    · rw [hd, mvF1, hg _ him]; exact e1

end

end Go.Proofs.Ytodknakemgmhkaa
