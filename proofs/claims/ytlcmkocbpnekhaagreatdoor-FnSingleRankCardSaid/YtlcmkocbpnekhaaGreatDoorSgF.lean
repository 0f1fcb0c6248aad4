/-
  The starts of all trains in an order: the model's. For texts of at most 1048576 bytes.
-/
import Derived.Test.YtlcmkocbpnekhaaGreatDoorSgE
namespace Go.Proofs.YtlcmkocbpnekhaaGreatDoor
open Go.RowKit Go.Sort

theorem ints_at {w : World} {v : Value} {xs : List Int} (h : Ints w v xs) (h0 : 0 < xs.length) : ∃ b o c, v = .slice (some ⟨b, o, none⟩) xs.length c ∧ b < w.heap.size ∧ ∀ i, i < xs.length → w.cell? ⟨b, o + i, none⟩ = some (.int .i64 (xs.getD i 0)) := by
  obtain ⟨a, c, rfl, -, h2⟩ := h
  rcases h2 with rfl | ⟨b, o, rfl, hb, hc⟩
  · simp at h0
  · exact ⟨b, o, c, rfl, hb, hc⟩
theorem slice_len {w : World} {a : Option Addr} {n c : Nat} {xs : List Int} (h : Ints w (.slice a n c) xs) : n = xs.length := by
  obtain ⟨_, _, e, _⟩ := h; simp only [Value.slice.injEq] at e; exact e.2.1

/-- The box stands behind an append to a list that was made later. -/
theorem box_kept {w0 w' : World} {base b : Nat} {x y z u : Value} {t : TypeId} (hb : b < base) (k : ∀ n W, Below n W w0 → n ≤ base → Below n W w') (h : Quad w0 b x y z u t) : Quad w' b x y z u t := by
  have q := k (b + 1) w0 (Below.refl _ _) (by omega)
  exact h.of (q.block _ (by omega))

end Go.Proofs.YtlcmkocbpnekhaaGreatDoor
