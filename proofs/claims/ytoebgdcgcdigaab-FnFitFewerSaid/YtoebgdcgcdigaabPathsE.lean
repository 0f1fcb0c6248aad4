/-
  Lists of paths: the laws' comparison, and the look at their sizes. For lists of at most 1048576 paths, each list in them of at most as many integers.
-/
import Derived.Test.YtoebgdcgcdigaabPathsL
namespace Go.Proofs.Ytoebgdcgcdigaab
open Go.RowKit Go.Sort

theorem paths_of {w : World} {x : Addr} {len cap : Nat} {A1 A2 : Nat → Option Addr} {N1 C1 N2 C2 : Nat → Nat} {Z1 Z2 : Nat → List Int} (hl : len ≤ cap) (hl2 : len ≤ 1048576)
    (hr : ∀ i, i < cap → w.cell? (x.add (i * 2)) = some (.slice (A1 i) (N1 i) (C1 i)) ∧ w.cell? (x.add (i * 2 + 1)) = some (.slice (A2 i) (N2 i) (C2 i)) ∧ IsRowK .i64 w (A1 i) (N1 i) (C1 i) (Z1 i) ∧ IsRowK .i64 w (A2 i) (N2 i) (C2 i) (Z2 i))
    (hs : ∀ i, i < len → N1 i ≤ 1048576 ∧ N2 i ≤ 1048576) : ∃ ps, Paths w (.slice (some x) len cap) ps := by
  refine ⟨(List.range len).map fun i => ((Z1 i).take (N1 i), (Z2 i).take (N2 i)), some x, cap, by simp, ⟨by simpa using hl2, by simpa using hl⟩, ?_⟩
  by_cases h0 : len = 0
  · subst h0; exact .inl (by simp)
  · obtain ⟨b, off, spot⟩ := x
    have hspot : spot = none := by
      have := World.cell?_spot (hr 0 (by omega)).1
      simpa [Addr.add] using this
    subst hspot
    have ea : ∀ i, (⟨b, off, none⟩ : Addr).add i = ⟨b, off + i, none⟩ := fun i => by unfold Addr.add; split <;> simp_all
    have h00 := (hr 0 (by omega)).1
    rw [ea] at h00
    have hb : b < w.heap.size := World.block_lt_of_cell? w _ h00
    refine .inr ⟨b, off, rfl, hb, fun i hi => ?_⟩
    have hi' : i < len := by simpa using hi
    obtain ⟨e1, e2, r1, r2⟩ := hr i (by omega)
    rw [ea] at e1 e2
    have hg : ((List.range len).map fun i => ((Z1 i).take (N1 i), (Z2 i).take (N2 i))).getD i noPath = ((Z1 i).take (N1 i), (Z2 i).take (N2 i)) := by simp [hi']
    rw [hg]
    exact ⟨_, _, e1, e2, hb, ints_of_rowK r1 (hs i hi').1, ints_of_rowK r2 (hs i hi').2⟩

end Go.Proofs.Ytoebgdcgcdigaab
