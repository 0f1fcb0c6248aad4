/-
  Beginnings of lists of strings of the call's own. No condition.
-/
import Derived.Test.YtilkphehonilbaaDoorStrT
namespace Go.Proofs.YtilkphehonilbaaDoor
open Go.RowKit Go.Sort

theorem elem_strs : Tryd.prog.elem 23 = 9 := by kernel_rfl
theorem size_strs (w : World) : (sizeOf 9).run Tryd.prog w = .ok 1 w := by kernel_rfl
theorem OwnS.take {w : World} {base g n cap : Nat} {xs : List ByteArray} (h : OwnS w base (.slice (some ⟨g, 0, none⟩) n cap) xs) {m : Nat} (hm : m ≤ xs.length) : OwnS w base (.slice (some ⟨g, 0, none⟩) m cap) (xs.take m) := by
  have hl : (xs.take m).length = m := by rw [List.length_take, Nat.min_eq_left hm]
  unfold OwnS at h ⊢
  rw [hl]
  refine ⟨by rw [List.length_map, hl, Nat.mul_one], ?_⟩
  rcases h.2 with ⟨q, _⟩ | ⟨g', cap', cur, e, hb, hg, hnc, hcm, hs, ht⟩
  · cases q
  · simp only [Value.slice.injEq, Option.some.injEq, Addr.mk.injEq, and_true] at e
    obtain ⟨rfl, rfl, rfl⟩ := e
    refine .inr ⟨g, cap, cur, rfl, hb, hg, by omega, hcm, hs, ?_⟩
    rw [List.map_take, ← ht, List.take_take, Nat.mul_one, Nat.mul_one, Nat.min_eq_left hm]
theorem slice_strs {g n cap m : Nat} (hm : m ≤ cap) (w : World) : (Instr.slice 23 (.slice (some ⟨g, 0, none⟩) n cap) none (some (.int .i64 m)) none).run Tryd.prog w = .ok (.slice (some ⟨g, 0, none⟩) m cap) w := by
  have hu := Tryd.underlying23
  rw [run_slice_h (P := Tryd.prog) w 23 (some ⟨g, 0, none⟩) n cap (by rw [elem_strs]; exact hu) .i64 m (by omega) (by omega), elem_strs, size_strs]
  have e : sliced (some ⟨g, 0, none⟩) 0 m cap 1 = .slice (some ⟨g, 0, none⟩) m cap := by
    unfold sliced
    split <;> rfl
  exact Eq.trans (b := .ok (sliced (some ⟨g, 0, none⟩) 0 m cap 1) w) rfl (by rw [e])

end Go.Proofs.YtilkphehonilbaaDoor
