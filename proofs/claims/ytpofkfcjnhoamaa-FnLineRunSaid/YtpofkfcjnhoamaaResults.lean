/-
  Results that are a new list and a bool; empty lists. No condition; no walk.
-/
import Derived.Test.YtpofkfcjnhoamaaKit
namespace Go.Proofs.Ytpofkfcjnhoamaa
open Go.RowKit

/-- A call that hands back a new list and a bool. -/
def MadeIntsB (w : World) (xs : List Int) (b : Bool) (e : Ending) (w' : World) : Prop :=
  ∃ v, e = .returned (.tuple #[v, .bool b]) ∧ OwnI w' w.heap.size v xs ∧ Below w.heap.size w w'

theorem own_empty (w : World) : OwnI (w.alloc (.cells #[] 3)) w.heap.size (.slice (some ⟨w.heap.size, 0, none⟩) 0 0) [] :=
  World.ownsRow_lit w #[] 0 (Nat.le_refl _) (by simp [maxLen]) rfl

theorem own_nil (w : World) : OwnI w w.heap.size (.slice none 0 0) [] := World.ownsRow_nil _ _ _ _

/-- Two lists of the call's own that were made one behind the other lie in different blocks. -/
theorem apart {w1 w2 : World} {b1 b2 : Nat} {v1 v2 : Value} {xs ys : List Int} (o1 : OwnI w1 b1 v1 xs) (hle : w1.heap.size ≤ b2) (o2 : OwnI w2 b2 v2 ys) : v1.ownBlock = none ∨ v1.ownBlock ≠ v2.ownBlock := by
  cases e1 : v1.ownBlock with
  | none => exact .inl rfl
  | some k =>
    refine .inr ?_
    intro e
    have h1 := (World.ownsRow.lt o1 k e1).2
    have h2 := (World.ownsRow.lt o2 k e.symm).1
    omega
theorem apart' {w1 w2 : World} {b1 b2 : Nat} {v1 v2 : Value} {xs ys : List Int} (o1 : OwnI w1 b1 v1 xs) (hle : w1.heap.size ≤ b2) (o2 : OwnI w2 b2 v2 ys) : v2.ownBlock = none ∨ v2.ownBlock ≠ v1.ownBlock := by
  rcases apart o1 hle o2 with h | h
  · cases e2 : v2.ownBlock with
    | none => exact .inl rfl
    | some k => rw [h]; exact .inr (by simp)
  · exact .inr (fun e => h e.symm)
theorem below_mark {w W W' : World} {base : Nat} {v : Value} {xs : List Int} (c : Below w.heap.size w W) (o : OwnI W base v xs) (hb : w.heap.size ≤ base) (g : W.grownBy W' v.ownBlock) : Below w.heap.size w W' :=
  c.grown g c.size (fun k hk => Nat.le_trans hb (World.ownsRow.lt o k hk).1)
theorem marks_held (k : Int) (n : Nat) : ∀ i, i < (marks k n).length → (marks k n).getD i 0 = k + i := fun i hi => marks_getD k n i (by rw [marks_length] at hi; exact hi)

end Go.Proofs.Ytpofkfcjnhoamaa
