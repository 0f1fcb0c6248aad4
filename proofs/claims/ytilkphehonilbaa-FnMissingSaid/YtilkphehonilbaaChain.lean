/-
  Linked notes in memory. No condition; no walk.
-/
import Derived.Test.YtilkphehonilbaaNoteP
import Derived.Test.YtilkphehonilbaaKit
import Derived.Test.YtilkphehonilbaaBlockA
import Derived.RangeFuncBox
import Derived.Deep.RegionHeld3
namespace Go.Proofs.Ytilkphehonilbaa
open Go.RowKit

/-- The value p points to the first of some notes, each linked to the one behind it; it is nil if there are none. -/
def Chain (w : World) : Value → List Mv → Prop
  | p, [] => p = .pointer none
  | p, x :: r => ∃ b q, p = .pointer (some ⟨b, 0, none⟩) ∧ w.heap[b]? = some (.cells #[.int .i64 x.1, .string x.2, q] 65) ∧ Chain w q r
theorem Chain.ptr {w : World} {p : Value} {ns : List Mv} (h : Chain w p ns) : ∃ a, p = .pointer a := by
  cases ns with
  | nil => exact ⟨_, h⟩
  | cons x r => obtain ⟨b, q, rfl, _⟩ := h; exact ⟨_, rfl⟩
theorem Chain.kept {w w' : World} {row : Option Nat} (hg : w.grownBy w' row) (hne : ∀ b, row = some b → ∀ c0 c1 c2, w.heap[b]? ≠ some (.cells #[c0, c1, c2] 65)) {p : Value} {ns : List Mv} (h : Chain w p ns) : Chain w' p ns := by
  induction ns generalizing p with
  | nil => exact h
  | cons x r ih =>
    obtain ⟨b, q, rfl, hb, hr⟩ := h
    refine ⟨b, q, rfl, ?_, ih hr⟩
    rw [hg.block b (Array.getElem?_eq_some_iff.1 hb).1 (fun e => hne b e.symm _ _ _ hb)]
    exact hb
theorem Chain.below {w w' : World} (hb : Below w.heap.size w w') {p : Value} {ns : List Mv} (h : Chain w p ns) : Chain w' p ns := h.kept (below_grown hb) (fun _ e => by cases e)
theorem Chain.cells {w : World} {p : Value} {x : Mv} {r : List Mv} (h : Chain w p (x :: r)) : ∃ b q, p = .pointer (some ⟨b, 0, none⟩) ∧ b < w.heap.size ∧ w.cell? ⟨b, 0, none⟩ = some (.int .i64 x.1) ∧ w.cell? ⟨b, 1, none⟩ = some (.string x.2) ∧ w.cell? ⟨b, 2, none⟩ = some q ∧ Chain w q r := by
  obtain ⟨b, q, rfl, hb, hr⟩ := h
  exact ⟨b, q, rfl, (Array.getElem?_eq_some_iff.1 hb).1, by simp [World.cell?, hb], by simp [World.cell?, hb], by simp [World.cell?, hb], hr⟩
theorem Chain.new {w : World} {q : Value} {r : List Mv} (h : Chain w q r) (x : Mv) : Chain (w.alloc (.cells #[.int .i64 x.1, .string x.2, q] 65)) (.pointer (some ⟨w.heap.size, 0, none⟩)) (x :: r) :=
  ⟨w.heap.size, q, rfl, World.alloc_heap_new w _, h.below (below_alloc _ _)⟩
/-- A store into a box of another type, a turn of what is no cells. -/
theorem Chain.box {w : World} {B : Nat} {t : TypeId} {v : Value} (hB : Boxed w B t v) (u : Value) {p : Value} {ns : List Mv} (h : Chain w p ns) : Chain (w.setCell ⟨B, 0, none⟩ u) p ns := by
  refine h.kept (grownBy_setCell' w B u) (fun b e c0 c1 c2 q => ?_)
  simp only [Option.some.injEq] at e
  subst e
  rw [show w.heap[B]? = _ from hB] at q
  simp at q
theorem Chain.turn {w w' : World} {row : Option Nat} (hg : w.grownBy w' row) (hr : ∀ r, row = some r → ∃ o : Obj, w.heap[r]? = some o ∧ o.isCells = false) {p : Value} {ns : List Mv} (h : Chain w p ns) : Chain w' p ns := by
  refine h.kept hg (fun b e c0 c1 c2 q => ?_)
  obtain ⟨o, ho, hc⟩ := hr b e
  rw [q] at ho
  cases ho
  cases hc
/-- What is linked is one list; how long it is. -/
theorem Chain.one {w : World} {p : Value} {ns ms : List Mv} (h : Chain w p ns) (k : Chain w p ms) : ns = ms := by
  induction ns generalizing p ms with
  | nil =>
    obtain rfl : p = .pointer none := h
    cases ms with
    | nil => rfl
    | cons y s => obtain ⟨b, q, e, _⟩ := k; cases e
  | cons x r ih =>
    obtain ⟨b, q, rfl, hb, hr⟩ := h
    cases ms with
    | nil => cases (show Value.pointer (some ⟨b, 0, none⟩) = .pointer none from k)
    | cons y s =>
      obtain ⟨b', q', e, hb', hr'⟩ := k
      simp only [Value.pointer.injEq, Option.some.injEq, Addr.mk.injEq, and_true] at e
      subst e
      rw [hb] at hb'
      simp only [Option.some.injEq, Obj.cells.injEq, Array.mk.injEq, List.cons.injEq, Value.int.injEq, Value.string.injEq, true_and, and_true] at hb'
      obtain ⟨e1, e2, rfl⟩ := hb'
      rw [ih hr hr', show x = y from Prod.ext e1 e2]
open Classical in
noncomputable def left (w : World) (p : Value) : Nat := if h : ∃ ns, Chain w p ns then (Classical.choose h).length else 0
theorem left_eq {w : World} {p : Value} {ns : List Mv} (h : Chain w p ns) : left w p = ns.length := by
  have e : ∃ ns, Chain w p ns := ⟨ns, h⟩
  unfold left
  rw [dif_pos e, (Classical.choose_spec e).one h]

end Go.Proofs.Ytilkphehonilbaa
