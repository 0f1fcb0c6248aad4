/-
  Blocks of three cells; worlds one behind the other. (What chapter 3's texts hold too: never together with BlockB.) No condition.
-/
import Derived.Test.YtilkphehonilbaaDoorIn
import Derived.Test.YtilkphehonilbaaDoorBlockP
import Derived.Lib.Hide
namespace Go.Proofs.YtilkphehonilbaaDoor
open Go.RowKit

theorem below_alloc (w : World) (o : Obj) : Below w.heap.size w (w.alloc o) := (Below.refl _ _).alloc (Nat.le_refl _) _
theorem below_self (w : World) : Below w.heap.size w w := Below.refl _ _
theorem chain {w w1 w2 : World} (h : Below w.heap.size w w1) (k : Below w1.heap.size w1 w2) : Below w.heap.size w w2 := h.trans (k.mono h.size)

def Tri3 (w : World) (b : Nat) (x y z : Value) (t : TypeId) : Prop := w.heap[b]? = some (.cells #[x, y, z] t (0, 0))
theorem Tri3.lt {w : World} {b : Nat} {x y z : Value} {t : TypeId} (h : Tri3 w b x y z t) : b < w.heap.size := (Array.getElem?_eq_some_iff.1 h).1
theorem Tri3.cell0 {w : World} {b : Nat} {x y z : Value} {t : TypeId} (h : Tri3 w b x y z t) : w.cell? ⟨b, 0, none⟩ = some x := by unfold Tri3 at h; simp only [World.cell?, h]; rfl
theorem Tri3.cell1 {w : World} {b : Nat} {x y z : Value} {t : TypeId} (h : Tri3 w b x y z t) : w.cell? ⟨b, 1, none⟩ = some y := by unfold Tri3 at h; simp only [World.cell?, h]; rfl
theorem Tri3.cell2 {w : World} {b : Nat} {x y z : Value} {t : TypeId} (h : Tri3 w b x y z t) : w.cell? ⟨b, 2, none⟩ = some z := by unfold Tri3 at h; simp only [World.cell?, h]; rfl
theorem Tri3.frozen {w : World} {b : Nat} {x y z : Value} {t : TypeId} (h : Tri3 w b x y z t) (i : Nat) : w.frozen? ⟨b, i, none⟩ = false := by unfold Tri3 at h; simp [World.frozen?, h]
theorem Tri3.new (w : World) (x y z : Value) (t : TypeId) : Tri3 (w.alloc (.cells #[x, y, z] t)) w.heap.size x y z t := Go.Deep.blk_alloc_new _ _
theorem Tri3.of {w w' : World} {b : Nat} {x y z : Value} {t : TypeId} (h : Tri3 w b x y z t) (e : w'.heap[b]? = w.heap[b]?) : Tri3 w' b x y z t := e.trans h
theorem Tri3.below {w w' : World} {b : Nat} {x y z : Value} {t : TypeId} (h : Tri3 w b x y z t) (hb : Below w.heap.size w w') : Tri3 w' b x y z t := h.of (hb.block _ h.lt)
theorem Tri3.alloc {w : World} {b : Nat} {x y z : Value} {t : TypeId} (h : Tri3 w b x y z t) (o : Obj) : Tri3 (w.alloc o) b x y z t := h.of (Go.Deep.blk_alloc_lt _ _ _ h.lt)
theorem Tri3.other {w : World} {b : Nat} {x y z : Value} {t : TypeId} (h : Tri3 w b x y z t) {a : Addr} (ha : b ≠ a.block) (v : Value) : Tri3 (w.setCell a v) b x y z t := h.of (Go.Deep.blk_setCell_other _ _ _ _ ha)

theorem Tri3.stored {w : World} {b : Nat} {x y z : Value} {t : TypeId} (h : Tri3 w b x y z t) (x' y' z' : Value) : Tri3 (((w.setCell ⟨b, 0, none⟩ x').setCell ⟨b, 1, none⟩ y').setCell ⟨b, 2, none⟩ z') b x' y' z' t := by
  unfold Tri3 at h ⊢
  simp [World.setCell, Array.getElem?_modify, h]
theorem stored_below {w w' : World} {n b : Nat} (h : Below n w w') (hb : n ≤ b) (x y z : Value) : Below n w (((w'.setCell ⟨b, 0, none⟩ x).setCell ⟨b, 1, none⟩ y).setCell ⟨b, 2, none⟩ z) :=
  ((h.setCell (p := ⟨b, 0, none⟩) hb x).setCell (p := ⟨b, 1, none⟩) hb y).setCell (p := ⟨b, 2, none⟩) hb z

/-- The two blocks that a function with a block to hand back begins with. -/
theorem two_tri (w : World) (x y z : Value) (t : TypeId) (x' y' z' : Value) (t' : TypeId) (W : World) (hW : W = (w.alloc (.cells #[x, y, z] t)).alloc (.cells #[x', y', z'] t')) :
    Tri3 W w.heap.size x y z t ∧ Tri3 W (w.heap.size + 1) x' y' z' t' ∧ Below w.heap.size w W ∧ W.heap.size = w.heap.size + 2 := by
  have hs : (w.alloc (.cells #[x, y, z] t)).heap.size = w.heap.size + 1 := Go.Deep.nblk_alloc _ _
  have h2 := Tri3.new (w.alloc (.cells #[x, y, z] t)) x' y' z' t'
  rw [hs] at h2
  subst hW
  exact ⟨(Tri3.new w x y z t).alloc _, h2, (below_alloc w _).alloc (by omega) _, by rw [Go.Deep.nblk_alloc, hs]⟩

end Go.Proofs.YtilkphehonilbaaDoor
