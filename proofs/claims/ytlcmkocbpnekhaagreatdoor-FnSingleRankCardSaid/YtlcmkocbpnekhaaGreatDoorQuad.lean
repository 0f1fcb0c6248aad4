/-
  Blocks of four cells. No condition.
-/
import Derived.Test.YtlcmkocbpnekhaaGreatDoorTri
namespace Go.Proofs.YtlcmkocbpnekhaaGreatDoor
open Go.RowKit

def Quad (w : World) (b : Nat) (x y z u : Value) (t : TypeId) : Prop := w.heap[b]? = some (.cells #[x, y, z, u] t (0, 0))
theorem Quad.lt {w : World} {b : Nat} {x y z u : Value} {t : TypeId} (h : Quad w b x y z u t) : b < w.heap.size := (Array.getElem?_eq_some_iff.1 h).1
theorem Quad.cell0 {w : World} {b : Nat} {x y z u : Value} {t : TypeId} (h : Quad w b x y z u t) : w.cell? ⟨b, 0, none⟩ = some x := by unfold Quad at h; simp only [World.cell?, h]; rfl
theorem Quad.cell1 {w : World} {b : Nat} {x y z u : Value} {t : TypeId} (h : Quad w b x y z u t) : w.cell? ⟨b, 1, none⟩ = some y := by unfold Quad at h; simp only [World.cell?, h]; rfl
theorem Quad.cell2 {w : World} {b : Nat} {x y z u : Value} {t : TypeId} (h : Quad w b x y z u t) : w.cell? ⟨b, 2, none⟩ = some z := by unfold Quad at h; simp only [World.cell?, h]; rfl
theorem Quad.cell3 {w : World} {b : Nat} {x y z u : Value} {t : TypeId} (h : Quad w b x y z u t) : w.cell? ⟨b, 3, none⟩ = some u := by unfold Quad at h; simp only [World.cell?, h]; rfl
theorem Quad.frozen {w : World} {b : Nat} {x y z u : Value} {t : TypeId} (h : Quad w b x y z u t) (i : Nat) : w.frozen? ⟨b, i, none⟩ = false := by unfold Quad at h; simp [World.frozen?, h]
theorem Quad.new (w : World) (x y z u : Value) (t : TypeId) : Quad (w.alloc (.cells #[x, y, z, u] t)) w.heap.size x y z u t := Go.Deep.blk_alloc_new _ _
theorem Quad.of {w w' : World} {b : Nat} {x y z u : Value} {t : TypeId} (h : Quad w b x y z u t) (e : w'.heap[b]? = w.heap[b]?) : Quad w' b x y z u t := e.trans h
theorem Quad.below {w w' : World} {b : Nat} {x y z u : Value} {t : TypeId} (h : Quad w b x y z u t) (hb : Below w.heap.size w w') : Quad w' b x y z u t := h.of (hb.block _ h.lt)
theorem Quad.alloc {w : World} {b : Nat} {x y z u : Value} {t : TypeId} (h : Quad w b x y z u t) (o : Obj) : Quad (w.alloc o) b x y z u t := h.of (Go.Deep.blk_alloc_lt _ _ _ h.lt)
theorem Quad.other {w : World} {b : Nat} {x y z u : Value} {t : TypeId} (h : Quad w b x y z u t) {a : Addr} (ha : b ≠ a.block) (v : Value) : Quad (w.setCell a v) b x y z u t := h.of (Go.Deep.blk_setCell_other _ _ _ _ ha)
theorem Quad.set0 {w : World} {b : Nat} {x y z u : Value} {t : TypeId} (h : Quad w b x y z u t) (v : Value) : Quad (w.setCell ⟨b, 0, none⟩ v) b v y z u t := by unfold Quad at h ⊢; simp [World.setCell, Array.getElem?_modify, h]
theorem Quad.set1 {w : World} {b : Nat} {x y z u : Value} {t : TypeId} (h : Quad w b x y z u t) (v : Value) : Quad (w.setCell ⟨b, 1, none⟩ v) b x v z u t := by unfold Quad at h ⊢; simp [World.setCell, Array.getElem?_modify, h]
theorem Quad.set2 {w : World} {b : Nat} {x y z u : Value} {t : TypeId} (h : Quad w b x y z u t) (v : Value) : Quad (w.setCell ⟨b, 2, none⟩ v) b x y v u t := by unfold Quad at h ⊢; simp [World.setCell, Array.getElem?_modify, h]
theorem Quad.set3 {w : World} {b : Nat} {x y z u : Value} {t : TypeId} (h : Quad w b x y z u t) (v : Value) : Quad (w.setCell ⟨b, 3, none⟩ v) b x y z v t := by unfold Quad at h ⊢; simp [World.setCell, Array.getElem?_modify, h]
theorem Quad.stored {w : World} {b : Nat} {x y z u : Value} {t : TypeId} (h : Quad w b x y z u t) (x' y' z' u' : Value) : Quad ((((w.setCell ⟨b, 0, none⟩ x').setCell ⟨b, 1, none⟩ y').setCell ⟨b, 2, none⟩ z').setCell ⟨b, 3, none⟩ u') b x' y' z' u' t := by
  unfold Quad at h ⊢
  simp [World.setCell, Array.getElem?_modify, h]
theorem stored4 {w w' : World} {n b : Nat} (h : Below n w w') (hb : n ≤ b) (x y z u : Value) : Below n w ((((w'.setCell ⟨b, 0, none⟩ x).setCell ⟨b, 1, none⟩ y).setCell ⟨b, 2, none⟩ z).setCell ⟨b, 3, none⟩ u) :=
  (((h.setCell (p := ⟨b, 0, none⟩) hb x).setCell (p := ⟨b, 1, none⟩) hb y).setCell (p := ⟨b, 2, none⟩) hb z).setCell (p := ⟨b, 3, none⟩) hb u

/-! ### One cell -/
def Uno (w : World) (b : Nat) (x : Value) (t : TypeId) : Prop := w.heap[b]? = some (.cells #[x] t (0, 0))
theorem Uno.lt {w : World} {b : Nat} {x : Value} {t : TypeId} (h : Uno w b x t) : b < w.heap.size := (Array.getElem?_eq_some_iff.1 h).1
theorem Uno.cell {w : World} {b : Nat} {x : Value} {t : TypeId} (h : Uno w b x t) : w.cell? ⟨b, 0, none⟩ = some x := by unfold Uno at h; simp only [World.cell?, h]; rfl
theorem Uno.frozen {w : World} {b : Nat} {x : Value} {t : TypeId} (h : Uno w b x t) (i : Nat) : w.frozen? ⟨b, i, none⟩ = false := by unfold Uno at h; simp [World.frozen?, h]
theorem Uno.new (w : World) (x : Value) (t : TypeId) : Uno (w.alloc (.cells #[x] t)) w.heap.size x t := Go.Deep.blk_alloc_new _ _
theorem Uno.of {w w' : World} {b : Nat} {x : Value} {t : TypeId} (h : Uno w b x t) (e : w'.heap[b]? = w.heap[b]?) : Uno w' b x t := e.trans h
theorem Uno.below {w w' : World} {b : Nat} {x : Value} {t : TypeId} (h : Uno w b x t) (hb : Below w.heap.size w w') : Uno w' b x t := h.of (hb.block _ h.lt)
theorem Uno.alloc {w : World} {b : Nat} {x : Value} {t : TypeId} (h : Uno w b x t) (o : Obj) : Uno (w.alloc o) b x t := h.of (Go.Deep.blk_alloc_lt _ _ _ h.lt)
theorem Uno.other {w : World} {b : Nat} {x : Value} {t : TypeId} (h : Uno w b x t) {a : Addr} (ha : b ≠ a.block) (v : Value) : Uno (w.setCell a v) b x t := h.of (Go.Deep.blk_setCell_other _ _ _ _ ha)
theorem Uno.set {w : World} {b : Nat} {x : Value} {t : TypeId} (h : Uno w b x t) (v : Value) : Uno (w.setCell ⟨b, 0, none⟩ v) b v t := by unfold Uno at h ⊢; simp [World.setCell, Array.getElem?_modify, h]

end Go.Proofs.YtlcmkocbpnekhaaGreatDoor
