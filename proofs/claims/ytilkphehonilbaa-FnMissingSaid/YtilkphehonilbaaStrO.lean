/-
  Lists of strings of the call's own. No walk.
-/
import Derived.Test.YtilkphehonilbaaRepP
namespace Go.Proofs.Ytilkphehonilbaa
open Go.RowKit Go.Sort

/-- The value v owns the list of strings ss in a block from base on. -/
def OwnS (w : World) (base : Nat) (v : Value) (ss : List ByteArray) : Prop := w.ownsRow base 9 1 v ss.length (ss.map Value.string)
theorem OwnS.below {w w' : World} {base : Nat} {v : Value} {ss : List ByteArray} (h : OwnS w base v ss) (hb : Below w.heap.size w w') : OwnS w' base v ss :=
  World.ownsRow.kept h (below_grown hb) (by cases v.ownBlock <;> simp)
theorem OwnS.kept {w w' : World} {base : Nat} {v : Value} {ss : List ByteArray} (h : OwnS w base v ss) {row : Option Nat} (hg : w.grownBy w' row) (hne : v.ownBlock = none ∨ v.ownBlock ≠ row) : OwnS w' base v ss :=
  World.ownsRow.kept h hg hne
theorem ownS_empty (w : World) : OwnS (w.alloc (.cells #[] 9)) w.heap.size (.slice (some ⟨w.heap.size, 0, none⟩) 0 0) [] :=
  World.ownsRow_lit w #[] 0 (Nat.le_refl _) (by simp [maxLen]) rfl
theorem info_str : (Try.prog.info? 9).map (fun i => (i.zero, i.size, i.bytes)) = some (some (.string ⟨#[]⟩), 1, 16) := by kernel_rfl
/-- A call that hands back a new list of strings, and writes nothing that was there. -/
def MadeStrs (w : World) (ss : List ByteArray) (e : Ending) (w' : World) : Prop := ∃ v, e = .returned v ∧ OwnS w' w.heap.size v ss ∧ Below w.heap.size w w'
/-- Its cells. -/
theorem OwnS.cells {w : World} {base : Nat} {v : Value} {ss : List ByteArray} (h : OwnS w base v ss) :
    ∃ a cap, v = .slice a ss.length cap ∧ ss.length ≤ cap ∧ (ss = [] ∨ ∃ g, a = some ⟨g, 0, none⟩ ∧ base ≤ g ∧ g < w.heap.size ∧ ∀ i, i < ss.length → w.cell? ⟨g, i, none⟩ = some (.string (ss.getD i ⟨#[]⟩))) := by
  rcases h.2 with ⟨rfl, h0⟩ | ⟨g, cap, cur, rfl, hb, hg, hnc, _⟩
  · have : ss = [] := List.eq_nil_of_length_eq_zero h0
    subst this
    exact ⟨none, 0, rfl, Nat.le_refl _, .inl rfl⟩
  · refine ⟨_, cap, rfl, by omega, .inr ⟨g, rfl, hb, (Array.getElem?_eq_some_iff.1 hg).1, fun i hi => ?_⟩⟩
    have := World.ownsRow.cellAt h i (by simpa using hi)
    rw [this]
    simp [hi]
/-- Its block is no iterator. -/
theorem OwnS.not_iter {w : World} {base K pos : Nat} {v : Value} {ss : List ByteArray} {s : ByteArray} (h : OwnS w base v ss) (hk : w.heap[K]? = some (.stringIter s pos)) : v.ownBlock ≠ some K := by
  intro e
  rcases h.2 with ⟨rfl, _⟩ | ⟨g, cap, cur, rfl, hb, hg, _⟩
  · cases e
  · simp only [Value.ownBlock, Option.some.injEq] at e
    subst e
    rw [hk] at hg
    cases hg
theorem OwnS.iterAt {w : World} {base K pos : Nat} {v : Value} {ss : List ByteArray} {s : ByteArray} (h : OwnS w base v ss) (hk : w.heap[K]? = some (.stringIter s pos)) (pos' : Nat) : OwnS (w.iterAt K s pos') base v ss := by
  refine h.kept (row := some K) ?_ (.inr (h.not_iter hk))
  exact ⟨rfl, rfl, rfl, by rw [Lib.iterAt_size]; exact Nat.le_refl _, fun j _ hne => Lib.iterAt_other w K j s pos' (fun e => hne (by rw [e]))⟩
end Go.Proofs.Ytilkphehonilbaa
