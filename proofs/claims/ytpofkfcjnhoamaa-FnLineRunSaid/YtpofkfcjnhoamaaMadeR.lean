/-
  Lines that are made in a region that draws its order: where such a region ends.
-/
import Derived.Test.YtpofkfcjnhoamaaStepL
import Derived.Test.YtpofkfcjnhoamaaMarkL
namespace Go.Proofs.Ytpofkfcjnhoamaa
open Go.RowKit

theorem line_alloc {w : World} {v : Value} {l : Ln} (h : LineV w v l) (o : Obj) : LineV (w.alloc o) v l := h.below (below_alloc _ _)
theorem line_under {w w' : World} {v : Value} {l : Ln} (h : LineV w v l) (b : Below w.heap.size w w') : LineV w' v l := h.below b
theorem line_drew {w : World} {v : Value} {l : Ln} (h : LineV w v l) : LineV w.drew v l := h
/-- A line's rows lie from base on, and its box lies outside them. -/
def Apart (base g : Nat) (v : Value) : Prop := ∃ lo hi, LnIn v lo hi ∧ base ≤ lo ∧ (g < lo ∨ hi ≤ g)
theorem lnStep_len (l : Ln) (m : Mv) : ((lnStep l m).getD noLn).1.length ≤ 5 ∧ ((lnStep l m).getD noLn).2.length ≤ 5 := by
  unfold lnStep
  cases hb : lnB l
  · simp [noLn]
  · have hl := lnOk_len hb
    simp only [if_true]
    cases e : lnDo l m with
    | none => simp [noLn]
    | some x =>
      have := lnDo_len e
      simp only [Option.getD_some]
      omega
theorem made_endA {q Y : World} {B : Nat} {uA uB : Value} {l : Ln} {t : Bool} (o : OwnLine Y B (.agg #[uA, uB]) l) (hB : q.heap.size ≤ B) (b : Below q.heap.size q Y) :
    ∃ g y1 y2, Value.pointer (some ⟨Y.heap.size, 0, none⟩) = Value.pointer (some ⟨g, 0, none⟩) ∧ Value.bool t = Value.bool t ∧ (q.heap.size ≤ g ∧ Pair (Y.alloc (.cells #[uA, uB] 26)) g y1 y2 26 ∧ OwnLine (Y.alloc (.cells #[uA, uB] 26)) q.heap.size (.agg #[y1, y2]) l ∧ Apart q.heap.size g (.agg #[y1, y2])) ∧ Below q.heap.size q (Y.alloc (.cells #[uA, uB] 26)) :=
  ⟨_, uA, uB, rfl, rfl, ⟨b.size, Pair.new _ _ _ _, (o.mono hB).below (below_alloc _ _), _, _, o.isIn, hB, .inr (Nat.le_refl _)⟩, bel_alloc b _⟩
theorem made_endB {q Y : World} {C B : Nat} {x y uA uB : Value} {l : Ln} {t : Bool} (hC : q.heap.size ≤ C) (p : Pair Y C x y 26) (o : OwnLine Y B (.agg #[uA, uB]) l) (hB : q.heap.size ≤ B) (hCB : C < B) (b : Below q.heap.size q Y) :
    ∃ g y1 y2, Value.pointer (some ⟨C, 0, none⟩) = Value.pointer (some ⟨g, 0, none⟩) ∧ Value.bool t = Value.bool t ∧ (q.heap.size ≤ g ∧ Pair ((Y.setCell ⟨C, 0, none⟩ uA).setCell ⟨C, 1, none⟩ uB) g y1 y2 26 ∧ OwnLine ((Y.setCell ⟨C, 0, none⟩ uA).setCell ⟨C, 1, none⟩ uB) q.heap.size (.agg #[y1, y2]) l ∧ Apart q.heap.size g (.agg #[y1, y2])) ∧ Below q.heap.size q ((Y.setCell ⟨C, 0, none⟩ uA).setCell ⟨C, 1, none⟩ uB) := by
  have e := made_end (w := q) o hB p hC b
  exact ⟨_, uA, uB, rfl, rfl, ⟨hC, e.2.2, e.1, _, _, o.isIn, hB, .inl hCB⟩, e.2.1⟩

end Go.Proofs.Ytpofkfcjnhoamaa
