/-
  A region that draws its order and ends with a store: what is known of the world ahead of the store and behind it. No condition; no walk.
-/
import Derived.Test.YtlcmkocbpnekhaaGreatDoorGoods3
import Derived.Test.YtlcmkocbpnekhaaGreatDoorTri
namespace Go.Proofs.YtlcmkocbpnekhaaGreatDoor
open Go.RowKit

/-- Ahead of operation L nothing that was there has been written; behind it 'post' holds. -/
def RS (L : Nat) (W0 : World) (post : World → Prop) : (Nat → Bool) → World → Prop := fun D X => if D L = true then post X else Below W0.heap.size W0 X
theorem RS.same {L : Nat} {W0 : World} {post : World → Prop} {D D' : Nat → Bool} {X : World} (e : D' L = D L) (h : RS L W0 post D X) : RS L W0 post D' X := by
  unfold RS at h ⊢; rw [e]; exact h
theorem RS.pre {L : Nat} {W0 : World} {post : World → Prop} {D : Nat → Bool} {X : World} (h : RS L W0 post D X) (e : D L = false) : Below W0.heap.size W0 X := by
  unfold RS at h; rw [e] at h; exact h
theorem RS.step {L : Nat} {W0 : World} {post : World → Prop} {D D' : Nat → Bool} {X X' : World} (h : RS L W0 post D X) (e : D L = false) (e' : D' L = D L) (b : Below X.heap.size X X') : RS L W0 post D' X' := by
  have q := h.pre e
  unfold RS; rw [e', e]; exact q.trans (b.mono q.size)
theorem RS.post {L : Nat} {W0 : World} {post : World → Prop} {D' : Nat → Bool} {X : World} (e : D' L = true) (h : post X) : RS L W0 post D' X := by
  unfold RS; rw [e]; exact h
theorem RS.done {L : Nat} {W0 : World} {post : World → Prop} {D' : Nat → Bool} {X : World} (h : RS L W0 post D' X) (e : D' L = true) : post X := by
  unfold RS at h; rw [e] at h; exact h
theorem RS.start {L : Nat} {W0 : World} {post : World → Prop} {D : Nat → Bool} {X : World} (e : ∀ j, D j = false) (h : Below W0.heap.size W0 X) : RS L W0 post D X := by
  unfold RS; rw [e L]; exact h

theorem frame_of (tm : Array Value) (n : Nat) (h : tm.size = n) : tm = ((List.range n).map fun i => tm.getD i undef).toArray := by
  apply Array.ext
  · simp [h]
  · intro i h1 h2
    simp [h1]

end Go.Proofs.YtlcmkocbpnekhaaGreatDoor
