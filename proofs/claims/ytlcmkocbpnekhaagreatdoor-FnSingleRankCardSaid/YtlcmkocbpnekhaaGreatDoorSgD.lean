/-
  The ready times in an order, and the starts: the program's. For texts of at most 1048576 bytes.
-/
import Derived.Test.YtlcmkocbpnekhaaGreatDoorSgC
import Derived.Test.YtlcmkocbpnekhaaGreatDoorCpyI
namespace Go.Proofs.YtlcmkocbpnekhaaGreatDoor
open Go.RowKit Go.Sort

theorem below_zero (w : World) : Below 0 w w := Below.refl _ _
/-- The first of a list that is not empty, and the rest. -/
theorem drop_first {w : World} {u : Value} {xs : List Int} {m : Nat} (h : Ints w u (xs.drop m)) (hm : m < xs.length) :
    ∃ b o n c u', u = .slice (some ⟨b, o, none⟩) n c ∧ 0 < n ∧ n ≤ 1048576 ∧ b < w.heap.size ∧ w.cell? ⟨b, o, none⟩ = some (.int .i64 (xs.getD m 0)) ∧
      (∀ X : World, (Instr.slice 23 u (some (.int .i64 1)) none none).run Tryz.prog X = .ok u' X) ∧ Ints w u' (xs.drop (m + 1)) := by
  have hl : (xs.drop m).length = xs.length - m := List.length_drop
  obtain ⟨a, c, rfl, h1, h2⟩ := h
  have h0 : Ints w (.slice a (xs.drop m).length c) (xs.drop m) := ⟨a, c, rfl, h1, h2⟩
  rcases h2 with e | ⟨b, o, rfl, hb, hcell⟩
  · rw [e] at hl; simp at hl; omega
  obtain ⟨u', p1, p2⟩ := part_tail (a := some ⟨b, o, none⟩) (c := c) (xs := xs.drop m) (m := 1) (by omega) (by omega)
  have hc := hcell 0 (by omega)
  refine ⟨b, o, _, c, u', rfl, by omega, by omega, hb, ?_, p1, ?_⟩
  · have e : (xs.drop m).getD 0 0 = xs.getD m 0 := by simp [List.getD_eq_getElem?_getD, List.getElem?_drop]
    rw [← e]; exact hc
  · have := p2 w h0
    rw [List.drop_drop] at this
    exact this

end Go.Proofs.YtlcmkocbpnekhaaGreatDoor
