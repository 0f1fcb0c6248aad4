/-
  What the laws' helpers do with a path: sizes, a copy, a comparison, the marking and the look at the marks. For lists of at most 1048576 integers.
-/
import Derived.Test.YtoebgdcgcdigaabPathS
import Derived.Test.YtoebgdcgcdigaabSz
import Derived.Test.YtoebgdcgcdigaabResults
import Derived.Test.YtoebgdcgcdigaabGrown
namespace Go.Proofs.Ytoebgdcgcdigaab
open Go.RowKit Go.Sort

/-- The value v is a path of the call's own. -/
def OwnPath (w : World) (base : Nat) (v : Value) (p : List Int × List Int) : Prop :=
  ∃ u1 u2, v = .agg #[u1, u2] ∧ OwnI w base u1 p.1 ∧ OwnI w base u2 p.2 ∧ (u1.ownBlock = none ∨ u1.ownBlock ≠ u2.ownBlock) ∧ (u2.ownBlock = none ∨ u2.ownBlock ≠ u1.ownBlock)
theorem OwnPath.below {w w' : World} {base : Nat} {v : Value} {p : List Int × List Int} (h : OwnPath w base v p) (hb : Below w.heap.size w w') : OwnPath w' base v p := by
  obtain ⟨u1, u2, rfl, h1, h2, h3⟩ := h
  exact ⟨u1, u2, rfl, h1.below hb, h2.below hb, h3⟩
theorem OwnPath.mono {w : World} {base base' : Nat} {v : Value} {p : List Int × List Int} (h : OwnPath w base v p) (hb : base' ≤ base) : OwnPath w base' v p := by
  obtain ⟨u1, u2, rfl, h1, h2, h3⟩ := h
  exact ⟨u1, u2, rfl, h1.mono hb, h2.mono hb, h3⟩
theorem OwnPath.pathV {w : World} {base : Nat} {v : Value} {p : List Int × List Int} (h : OwnPath w base v p) (l1 : p.1.length ≤ 1048576) (l2 : p.2.length ≤ 1048576) : PathV w v p := by
  obtain ⟨u1, u2, rfl, h1, h2, h3⟩ := h
  exact ⟨u1, u2, rfl, h1.ints l1, h2.ints l2⟩
theorem OwnPath.agg {w : World} {base : Nat} {v : Value} {p : List Int × List Int} (h : OwnPath w base v p) : ∃ u1 u2, v = .agg #[u1, u2] := by
  obtain ⟨u1, u2, rfl, _⟩ := h
  exact ⟨u1, u2, rfl⟩
theorem PathV.form {w : World} {v : Value} {p : List Int × List Int} (h : PathV w v p) : ∃ a n c a' n' c', v = .agg #[.slice a n c, .slice a' n' c'] := by
  obtain ⟨u1, u2, rfl, ⟨a, c, rfl, _⟩, ⟨a', c', rfl, _⟩⟩ := h
  exact ⟨_, _, _, _, _, _, rfl⟩
theorem PathV.len {w : World} {v : Value} {p : List Int × List Int} (h : PathV w v p) : p.1.length ≤ 1048576 ∧ p.2.length ≤ 1048576 := by
  obtain ⟨u1, u2, rfl, h1, h2⟩ := h
  exact ⟨h1.len, h2.len⟩
/-- A call that hands back a new path, and writes nothing that was there. -/
def MadePath (w : World) (p : List Int × List Int) (e : Ending) (w' : World) : Prop :=
  ∃ v, e = .returned v ∧ OwnPath w' w.heap.size v p ∧ Below w.heap.size w w'

theorem own_is_slice {w : World} {base : Nat} {v : Value} {xs : List Int} (h : OwnI w base v xs) : ∃ a n c, v = .slice a n c := by
  rcases h.shape with ⟨rfl, _⟩ | ⟨g, c, rfl, _⟩
  · exact ⟨_, _, _, rfl⟩
  · exact ⟨_, _, _, rfl⟩

theorem OwnI.setBelow {w : World} {base : Nat} {v : Value} {xs : List Int} (h : OwnI w base v xs) {a : Addr} (ha : a.block < base) (u : Value) : OwnI (w.setCell a u) base v xs := ownsRow_setCell_below h ha u

/-- What the sizes of a path leave of a number. -/
def szOf (m : Int) (n1 n2 : Nat) : Int := if m < n1 then -1 else if m - n1 < n2 then -1 else m - n1 - n2

/-- A path's lists lie in blocks from lo up to hi. -/
def PathIn (v : Value) (lo hi : Nat) : Prop := ∃ u1 u2, v = .agg #[u1, u2] ∧ (∀ b, u1.ownBlock = some b → lo ≤ b ∧ b < hi) ∧ ∀ b, u2.ownBlock = some b → lo ≤ b ∧ b < hi
theorem OwnPath.isIn {w : World} {base : Nat} {v : Value} {p : List Int × List Int} (h : OwnPath w base v p) : PathIn v base w.heap.size := by
  obtain ⟨u1, u2, rfl, h1, h2, _⟩ := h
  exact ⟨u1, u2, rfl, fun b e => World.ownsRow.lt h1 b e, fun b e => World.ownsRow.lt h2 b e⟩
theorem OwnPath.keptIn {w w' : World} {base lo hi a b : Nat} {v : Value} {p : List Int × List Int} (h : OwnPath w base v p) (g : GrownIn w w' lo hi) (hin : PathIn v a b) (ho : b ≤ lo ∨ hi ≤ a) : OwnPath w' base v p := by
  obtain ⟨u1, u2, rfl, h1, h2, h3⟩ := h
  obtain ⟨_, _, e, k1, k2⟩ := hin
  simp only [Value.agg.injEq, Array.mk.injEq, List.cons.injEq, and_true] at e
  obtain ⟨rfl, rfl⟩ := e
  exact ⟨u1, u2, rfl, h1.keptIn g (fun c e => by have := k1 c e; omega), h2.keptIn g (fun c e => by have := k2 c e; omega), h3⟩

end Go.Proofs.Ytoebgdcgcdigaab
