/-
  Parts of a list of numbers that can be read. (CtrS holds the same: never together.)
-/
import Derived.Test.YtlcmkocbpnekhaaKit
import Derived.WalkSpells
namespace Go.Proofs.Ytlcmkocbpnekhaa
open Go.RowKit

/-! ### Parts of a list -/
theorem add_at (a o j : Nat) : (⟨a, o, none⟩ : Addr).add j = ⟨a, o + j, none⟩ := by
  unfold Addr.add
  split
  · next h => rw [h]; rfl
  · rfl
theorem elem_ints : Try.prog.elem 23 = 3 := by kernel_rfl
theorem size_ints (w : World) : (sizeOf 3).run Try.prog w = .ok 1 w := by kernel_rfl
/-- The first m of a list. -/
theorem part_head {a : Option Addr} {c : Nat} {xs : List Int} {m : Nat} (hm : m ≤ xs.length) (hc : xs.length ≤ c) :
    ∃ u, (∀ w : World, (Instr.slice 23 (.slice a xs.length c) none (some (.int .i64 m)) none).run Try.prog w = .ok u w) ∧ ∀ w, Ints w (.slice a xs.length c) xs → Ints w u (xs.take m) := by
  have hu := Try.underlying23
  refine ⟨sliced a 0 m c 1, fun w => ?_, fun w h => ?_⟩
  · rw [run_slice_h (P := Try.prog) w 23 a xs.length c (by rw [elem_ints]; exact hu) .i64 m (by omega) (by omega), elem_ints, size_ints]
    rfl
  · obtain ⟨a', c', e, ⟨h1, h2⟩, h3⟩ := h
    simp only [Value.slice.injEq, true_and] at e
    obtain ⟨rfl, rfl⟩ := e
    have hl : (xs.take m).length = m := by rw [List.length_take, Nat.min_eq_left hm]
    unfold sliced
    refine ⟨(if c = 0 then a else a.map (·.add (0 * 1))), c - 0, by rw [hl, Nat.sub_zero], ⟨by omega, by omega⟩, ?_⟩
    rcases h3 with rfl | ⟨b, o, rfl, hb, hcell⟩
    · exact .inl (by simp)
    · refine .inr ⟨b, o, ?_, hb, fun i hi => ?_⟩
      · split
        · rfl
        · simp [add_at]
      · rw [hcell i (by omega)]
        have : (xs.take m).getD i 0 = xs.getD i 0 := by simp [List.getD_eq_getElem?_getD, show i < m by omega]
        rw [this]
/-- What is left of a list. -/
theorem part_tail {a : Option Addr} {c : Nat} {xs : List Int} {m : Nat} (hm : m ≤ xs.length) (hc : xs.length ≤ c) :
    ∃ u, (∀ w : World, (Instr.slice 23 (.slice a xs.length c) (some (.int .i64 m)) none none).run Try.prog w = .ok u w) ∧ ∀ w, Ints w (.slice a xs.length c) xs → Ints w u (xs.drop m) := by
  have hu := Try.underlying23
  refine ⟨sliced a m xs.length c 1, fun w => ?_, fun w h => ?_⟩
  · rw [run_slice_l (P := Try.prog) w 23 a xs.length c (by rw [elem_ints]; exact hu) .i64 m (by omega) (by omega), elem_ints, size_ints]
    rfl
  · obtain ⟨a', c', e, ⟨h1, h2⟩, h3⟩ := h
    simp only [Value.slice.injEq, true_and] at e
    obtain ⟨rfl, rfl⟩ := e
    have hl : (xs.drop m).length = xs.length - m := List.length_drop
    unfold sliced
    refine ⟨(if c = m then a else a.map (·.add (m * 1))), c - m, by rw [hl], ⟨by omega, by omega⟩, ?_⟩
    rcases h3 with rfl | ⟨b, o, rfl, hb, hcell⟩
    · exact .inl (by simp)
    · by_cases e : m = xs.length
      · exact .inl (List.eq_nil_of_length_eq_zero (by omega))
      · refine .inr ⟨b, o + m, ?_, hb, fun i hi => ?_⟩
        · rw [if_neg (by omega)]
          simp [add_at]
        · rw [Nat.add_assoc, hcell (m + i) (by omega)]
          have : (xs.drop m).getD i 0 = xs.getD (m + i) 0 := by simp [List.getD_eq_getElem?_getD, List.getElem?_drop]
          rw [this]

end Go.Proofs.Ytlcmkocbpnekhaa
