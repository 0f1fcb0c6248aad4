/-
  Moves that came in: what is known of their cells. No condition.
-/
import Derived.Test.YtpofkfcjnhoamaaBlks
import Derived.Deep.SlicePairs
import Derived.Lib.SmallJoins
namespace Go.Proofs.Ytpofkfcjnhoamaa
open Go.RowKit

/-- What is known of a move that came in, and of a list of moves. -/
def IsMoveK (_w : World) (v : Value) : Prop := ∃ m : Mv, v = .agg #[.int .i64 m.1, .string m.2] ∧ m.2.size ≤ maxLen
def IsMvsK (w : World) (v : Value) : Prop :=
  v = .slice none 0 0 ∨ ∃ (x : Addr) (n c : Nat) (ms : List Mv), v = .slice (some x) n c ∧ n ≤ c ∧ c ≤ maxLen ∧ ms.length = c ∧ (∀ q, q < c * 2 → w.cell? (x.add q) = some (mvF ms q)) ∧ ∀ i, i < c → (ms.getD i noMv).2.size ≤ maxLen
theorem mvF_take {ms : List Mv} {n q : Nat} (h : q < n * 2) : mvF (ms.take n) q = mvF ms q := by
  have g : (ms.take n).getD (q / 2) noMv = ms.getD (q / 2) noMv := by
    simp only [List.getD_eq_getElem?_getD, List.getElem?_take, if_pos (show q / 2 < n by omega)]
  unfold mvF
  rw [g]
theorem mvs_of_k {w : World} {v : Value} (h : IsMvsK w v) {n c : Nat} {a : Option Addr} (hv : v = .slice a n c) (hn : n ≤ 1048576) : ∃ ms, Mvs w v ms ∧ ms.length = n ∧ ∀ i, i < n → (ms.getD i noMv).2.size ≤ maxLen := by
  subst hv
  rcases h with h | ⟨x, n', c', ms, h, h1, h2, h3, hc, hs⟩
  · simp only [Value.slice.injEq] at h
    obtain ⟨rfl, rfl, rfl⟩ := h
    exact ⟨[], ⟨none, 0, rfl, by simp, .inl rfl⟩, rfl, fun i hi => by omega⟩
  · simp only [Value.slice.injEq] at h
    obtain ⟨rfl, rfl, rfl⟩ := h
    have hlen : (ms.take n).length = n := by rw [List.length_take]; omega
    refine ⟨ms.take n, ⟨some x, c, by rw [hlen], ⟨by omega, by omega⟩, ?_⟩, hlen, fun i hi => ?_⟩
    · by_cases h0 : n = 0
      · subst h0; exact .inl (by simp)
      · obtain ⟨b, off, spot⟩ := x
        have hspot : spot = none := by simpa [Addr.add] using World.cell?_spot (hc 0 (by omega))
        subst hspot
        refine .inr ⟨b, off, rfl, World.block_lt_of_cell? w _ (hc 0 (by omega)), fun q hq => ?_⟩
        rw [hlen] at hq
        have := hc q (by omega)
        rw [show (⟨b, off, none⟩ : Addr).add q = ⟨b, off + q, none⟩ by unfold Addr.add; split <;> simp_all] at this
        rw [mvF_take hq]
        exact this
    · have g : (ms.take n).getD i noMv = ms.getD i noMv := by simp only [List.getD_eq_getElem?_getD, List.getElem?_take, if_pos hi]
      rw [g]
      exact hs i (by omega)
theorem IsMvsK.below {w w' : World} {v : Value} (h : IsMvsK w v) (hb : Below w.heap.size w w') : IsMvsK w' v := by
  rcases h with h | ⟨x, n, c, ms, rfl, h1, h2, h3, hc, hs⟩
  · exact .inl h
  · exact .inr ⟨x, n, c, ms, rfl, h1, h2, h3, fun q hq => (hb.cell (p := x.add q) (World.block_lt_of_cell? w _ (hc q hq))).trans (hc q hq), hs⟩

section
variable {H : Type} {enc : TypeId × Value → H} {W : World}

end

end Go.Proofs.Ytpofkfcjnhoamaa
