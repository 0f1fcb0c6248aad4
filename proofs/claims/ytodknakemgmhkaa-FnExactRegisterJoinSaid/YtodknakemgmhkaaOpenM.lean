/-
  Moves that came in: what is known of their cells. No condition.
-/
import Derived.Test.YtodknakemgmhkaaBlks
import Derived.Deep.SlicePairs
import Derived.Lib.SmallJoins
namespace Go.Proofs.Ytodknakemgmhkaa
open Go.RowKit

/-- What is known of a move that came in, and of a list of moves. -/
def IsMoveK (_w : World) (v : Value) : Prop := ∃ m : Mv, v = .agg #[.int .i64 m.1, .string m.2] ∧ m.2.size ≤ maxLen
def IsMvsK (w : World) (v : Value) : Prop :=
  v = .slice none 0 0 ∨ ∃ (x : Addr) (n c : Nat) (ms : List Mv), v = .slice (some x) n c ∧ n ≤ c ∧ c ≤ maxLen ∧ ms.length = c ∧ (∀ q, q < c * 2 → w.cell? (x.add q) = some (mvF ms q)) ∧ ∀ i, i < c → (ms.getD i noMv).2.size ≤ maxLen
theorem mvF_take {ms : List Mv} {n q : Nat} (h : q < n * 2) : mvF (ms.take n) q = mvF ms q := by
  have g : (ms.take n).getD (q / 2) noMv = ms.getD (q / 2) noMv := by
    simp only [List.getD_eq_getElem?_getD, List.getElem?_take, if_pos (show q / 2 < n by omega)]
  unfold mvF
  rw [g]
theorem mvs_of_k {w : World} {v : Value} (h : IsMvsK w v) {n c : Nat} {a : Option Addr} (hv : v = .slice a n c) (hn : n ≤ 1048576) : ∃ ms, Mvs w v ms ∧ ms.length = n ∧ ∀ i, i < n → (ms.getD i noMv).2.size ≤ maxLen := by
  subst hv
  rcases h with h | ⟨x, n', c', ms, h, h1, h2, h3, hc, hs⟩
  · simp only [Value.slice.injEq] at h
    obtain ⟨rfl, rfl, rfl⟩ := h
    exact ⟨[], ⟨none, 0, rfl, by simp, .inl rfl⟩, rfl, fun i hi => by omega⟩
  · simp only [Value.slice.injEq] at h
    obtain ⟨rfl, rfl, rfl⟩ := h
    have hlen : (ms.take n).length = n := by rw [List.length_take]; omega
    refine ⟨ms.take n, ⟨some x, c, by rw [hlen], ⟨by omega, by omega⟩, ?_⟩, hlen, fun i hi => ?_⟩
    · by_cases h0 : n = 0
      · subst h0; exact .inl (by simp)
      · obtain ⟨b, off, spot⟩ := x
        have hspot : spot = none := by simpa [Addr.add] using World.cell?_spot (hc 0 (by omega))
        subst hspot
        refine .inr ⟨b, off, rfl, World.block_lt_of_cell? w _ (hc 0 (by omega)), fun q hq => ?_⟩
        rw [hlen] at hq
        have := hc q (by omega)
        rw [show (⟨b, off, none⟩ : Addr).add q = ⟨b, off + q, none⟩ by unfold Addr.add; split <;> simp_all] at this
        rw [mvF_take hq]
        exact this
    · have g : (ms.take n).getD i noMv = ms.getD i noMv := by simp only [List.getD_eq_getElem?_getD, List.getElem?_take, if_pos hi]
      rw [g]
      exact hs i (by omega)
theorem IsMvsK.below {w w' : World} {v : Value} (h : IsMvsK w v) (hb : Below w.heap.size w w') : IsMvsK w' v := by
  rcases h with h | ⟨x, n, c, ms, rfl, h1, h2, h3, hc, hs⟩
  · exact .inl h
  · exact .inr ⟨x, n, c, ms, rfl, h1, h2, h3, fun q hq => (hb.cell (p := x.add q) (World.block_lt_of_cell? w _ (hc q hq))).trans (hc q hq), hs⟩

section
variable {H : Type} {enc : TypeId × Value → H} {W : World}

set_option maxRecDepth 100000 in
theorem open_move {v : Value} {d : DataW H} {p : List MemPlace} {b0 : Nat} (hv : Value.okWide Try.prog W .any b0 86 v) (h : DataW.Trod enc Try.prog W 0 (fun _ => true) true 86 v d p) : IsMoveK W v := by
  obtain ⟨v0, v1, y0, y1, n, rfl, rfl, rfl, h0, h1⟩ := Go.Joins.open_agg2 Try.underlying86 (by kernel_rfl) (by kernel_rfl) hv h
  obtain ⟨k, e0, _, _⟩ := DataW.trod_int Try.underlying3 h0
  obtain ⟨s, e1, _, hs⟩ := DataW.trod_string Try.underlying9 h1
  simp only [List.cons.injEq, and_true] at e0 e1
  subst e0
  subst e1
  exact ⟨(k, s), rfl, hs⟩

set_option maxRecDepth 100000 in
theorem open_moves {v : Value} {d : DataW H} {p : List MemPlace} {b0 : Nat} (hv : Value.okWide Try.prog W .any b0 50 v) (h : DataW.Trod enc Try.prog W 0 (fun _ => true) true 50 v d p) : IsMvsK W v := by
  obtain ⟨a, len, cap, rfl⟩ := Go.WideShapes.okWide_slice Try.underlying50 hv
  obtain ⟨fuel, hf⟩ := h
  rcases Go.Deep.open_slice_pairs Try.underlying50 Try.underlying86 (by kernel_rfl) rfl rfl (by kernel_rfl) (by kernel_rfl) hf with ⟨hcs, _⟩ | ⟨x, l, c, m, n, V0, V1, D0, D1, P0, P1, hcs, _, hl, hm, hmm, _, hi⟩
  · simp only [Value.cells, List.cons.injEq, and_true] at hcs
    exact .inl (by simpa using hcs)
  · have hcs' : Value.slice a len cap = .slice (some x) l c := by simpa [Value.cells] using hcs
    obtain rfl : m = c := by simpa using hmm
    have each : ∀ i, i < m → ∃ b : Mv, W.cell? (x.add (i * 2)) = some (.int .i64 b.1) ∧ W.cell? (x.add (i * 2 + 1)) = some (.string b.2) ∧ b.2.size ≤ maxLen := by
      intro i him
      obtain ⟨e0, e1, t0, t1⟩ := hi i him
      obtain ⟨k, q0, _, _⟩ := DataW.trod_int Try.underlying3 t0
      obtain ⟨s, q1, _, hs⟩ := DataW.trod_string Try.underlying9 t1
      simp only [List.cons.injEq, and_true] at q0 q1
      rw [q0] at e0
      rw [q1] at e1
      exact ⟨(k, s), e0, e1, hs⟩
    have all : ∃ f : Nat → Mv, ∀ i, i < m → W.cell? (x.add (i * 2)) = some (.int .i64 (f i).1) ∧ W.cell? (x.add (i * 2 + 1)) = some (.string (f i).2) ∧ (f i).2.size ≤ maxLen := by
      refine ⟨fun i => if q : i < m then Classical.choose (each i q) else noMv, fun i q => ?_⟩
      simp only [dif_pos q]
      exact Classical.choose_spec (each i q)
    obtain ⟨f, hf2⟩ := all
    have hg : ∀ i, i < m → ((List.range m).map f).getD i noMv = f i := fun i hi => by simp [hi]
    refine .inr ⟨x, l, m, (List.range m).map f, hcs', hl, hm, by simp, fun q hq => ?_, fun i hi => by rw [hg i hi]; exact (hf2 i hi).2.2⟩
    have him : q / 2 < m := by omega
    obtain ⟨e0, e1, _⟩ := hf2 (q / 2) him
    have hd : q = q / 2 * 2 ∨ q = q / 2 * 2 + 1 := by omega
    rcases hd with hd | hd
    · rw [hd, mvF0, hg _ him]; exact e0
    · rw [hd, mvF1, hg _ him]; exact e1

end

end Go.Proofs.Ytodknakemgmhkaa
