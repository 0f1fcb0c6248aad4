/-
  A block of two cells. No condition; no walk.
-/
import Derived.Test.YtpofkfcjnhoamaaKit
import Derived.Test.YtpofkfcjnhoamaaGrown
import Derived.Test.YtpofkfcjnhoamaaBlockB
namespace Go.Proofs.Ytpofkfcjnhoamaa
open Go.RowKit Go.Sort

theorem box_cells (w : World) (u1 u2 : Value) (t : TypeId) : (w.alloc (.cells #[u1, u2] t)).cell? ⟨w.heap.size, 0, none⟩ = some u1 ∧ (w.alloc (.cells #[u1, u2] t)).cell? ⟨w.heap.size, 1, none⟩ = some u2 ∧ w.heap.size < (w.alloc (.cells #[u1, u2] t)).heap.size := by
  have hn : (w.alloc (.cells #[u1, u2] t)).heap[w.heap.size]? = some (.cells #[u1, u2] t (0, 0)) := Go.Deep.blk_alloc_new _ _
  exact ⟨by simp only [World.cell?, hn]; rfl, by simp only [World.cell?, hn]; rfl, (Array.getElem?_eq_some_iff.1 hn).1⟩
/-! ### A block of two cells -/

def Pair (w : World) (b : Nat) (x y : Value) (t : TypeId) : Prop := w.heap[b]? = some (.cells #[x, y] t (0, 0))
theorem Pair.lt {w : World} {b : Nat} {x y : Value} {t : TypeId} (h : Pair w b x y t) : b < w.heap.size := (Array.getElem?_eq_some_iff.1 h).1
theorem Pair.cell0 {w : World} {b : Nat} {x y : Value} {t : TypeId} (h : Pair w b x y t) : w.cell? ⟨b, 0, none⟩ = some x := by unfold Pair at h; simp only [World.cell?, h]; rfl
theorem Pair.cell1 {w : World} {b : Nat} {x y : Value} {t : TypeId} (h : Pair w b x y t) : w.cell? ⟨b, 1, none⟩ = some y := by unfold Pair at h; simp only [World.cell?, h]; rfl
theorem Pair.frozen {w : World} {b : Nat} {x y : Value} {t : TypeId} (h : Pair w b x y t) (i : Nat) : w.frozen? ⟨b, i, none⟩ = false := by unfold Pair at h; simp [World.frozen?, h]
theorem Pair.new (w : World) (x y : Value) (t : TypeId) : Pair (w.alloc (.cells #[x, y] t)) w.heap.size x y t := Go.Deep.blk_alloc_new _ _
theorem Pair.of {w w' : World} {b : Nat} {x y : Value} {t : TypeId} (h : Pair w b x y t) (e : w'.heap[b]? = w.heap[b]?) : Pair w' b x y t := e.trans h
theorem Pair.below {w w' : World} {b : Nat} {x y : Value} {t : TypeId} (h : Pair w b x y t) (hb : Below w.heap.size w w') : Pair w' b x y t := h.of (hb.block _ h.lt)
theorem Pair.alloc {w : World} {b : Nat} {x y : Value} {t : TypeId} (h : Pair w b x y t) (o : Obj) : Pair (w.alloc o) b x y t := h.of (Go.Deep.blk_alloc_lt _ _ _ h.lt)
theorem Pair.other {w : World} {b : Nat} {x y : Value} {t : TypeId} (h : Pair w b x y t) {a : Addr} (ha : b ≠ a.block) (v : Value) : Pair (w.setCell a v) b x y t := h.of (Go.Deep.blk_setCell_other _ _ _ _ ha)
theorem Pair.set0 {w : World} {b : Nat} {x y : Value} {t : TypeId} (h : Pair w b x y t) (v : Value) : Pair (w.setCell ⟨b, 0, none⟩ v) b v y t := by unfold Pair at h ⊢; simp [World.setCell, Array.getElem?_modify, h]
theorem Pair.set1 {w : World} {b : Nat} {x y : Value} {t : TypeId} (h : Pair w b x y t) (v : Value) : Pair (w.setCell ⟨b, 1, none⟩ v) b x v t := by unfold Pair at h ⊢; simp [World.setCell, Array.getElem?_modify, h]

theorem Pair.kept {w w' : World} {b : Nat} {x y : Value} {t : TypeId} {row : Option Nat} (h : Pair w b x y t) (g : w.grownBy w' row) (ho : ∀ c, row = some c → b ≠ c) : Pair w' b x y t :=
  h.of (g.block b h.lt (fun e => ho b e.symm rfl))
theorem Pair.keptIn {w w' : World} {b lo hi : Nat} {x y : Value} {t : TypeId} (h : Pair w b x y t) (g : GrownIn w w' lo hi) (ho : b < lo ∨ hi ≤ b) : Pair w' b x y t := h.of (g.block b h.lt ho)
theorem OwnI.under {w : World} {base : Nat} {v : Value} {xs : List Int} (h : OwnI w base v xs) : ∀ b, v.ownBlock = some b → base ≤ b ∧ b < w.heap.size := fun b e => World.ownsRow.lt h b e
theorem OwnI.setBelow {w : World} {base : Nat} {v : Value} {xs : List Int} (h : OwnI w base v xs) {a : Addr} (ha : a.block < base) (u : Value) : OwnI (w.setCell a u) base v xs := ownsRow_setCell_below h ha u
theorem own_is_slice {w : World} {base : Nat} {v : Value} {xs : List Int} (h : OwnI w base v xs) : ∃ a n c, v = .slice a n c := by
  rcases h.shape with ⟨rfl, _⟩ | ⟨g, c, rfl, _⟩
  · exact ⟨_, _, _, rfl⟩
  · exact ⟨_, _, _, rfl⟩

end Go.Proofs.Ytpofkfcjnhoamaa
