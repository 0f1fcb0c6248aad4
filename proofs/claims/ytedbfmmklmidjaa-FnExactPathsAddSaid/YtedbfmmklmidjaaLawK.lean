/-
  What stays as it was behind the marking of a path: for the walks of the laws. No condition; no walk.
-/
import Derived.Test.YtedbfmmklmidjaaPathA
namespace Go.Proofs.Ytedbfmmklmidjaa
open Go.RowKit

theorem Pair.keptIn {w w' : World} {b lo hi : Nat} {x y : Value} {t : TypeId} (h : Pair w b x y t) (g : GrownIn w w' lo hi) (ho : b < lo ∨ hi ≤ b) : Pair w' b x y t := h.of (g.block b h.lt ho)
theorem OwnI.under {w : World} {base : Nat} {v : Value} {xs : List Int} (h : OwnI w base v xs) : ∀ b, v.ownBlock = some b → base ≤ b ∧ b < w.heap.size := fun b e => World.ownsRow.lt h b e
theorem PathIn.wider {v : Value} {lo hi lo' hi' : Nat} (h : PathIn v lo hi) (h1 : lo' ≤ lo) (h2 : hi ≤ hi') : PathIn v lo' hi' := by
  obtain ⟨u1, u2, rfl, k1, k2⟩ := h
  exact ⟨u1, u2, rfl, fun b e => by have := k1 b e; omega, fun b e => by have := k2 b e; omega⟩
/-- Marks can be read as a path's lists. -/
theorem marks_path {w : World} {base : Nat} {v : Value} {k : Int} {n m : Nat} (h : OwnPath w base v (marks k n, marks (k + n) m)) (hn : n ≤ 1048576) (hm : m ≤ 1048576) : PathV w v (marks k n, marks (k + n) m) :=
  h.pathV (by simp only [marks_length]; exact hn) (by simp only [marks_length]; exact hm)
theorem Pair.kept {w w' : World} {b : Nat} {x y : Value} {t : TypeId} {row : Option Nat} (h : Pair w b x y t) (g : w.grownBy w' row) (ho : ∀ c, row = some c → b ≠ c) : Pair w' b x y t :=
  h.of (g.block b h.lt (fun e => ho b e.symm rfl))

end Go.Proofs.Ytedbfmmklmidjaa
