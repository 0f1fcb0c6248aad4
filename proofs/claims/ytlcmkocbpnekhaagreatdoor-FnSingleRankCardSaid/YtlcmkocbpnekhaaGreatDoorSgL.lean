/-
  What the laws' helpers do with a single line: sizes, a copy, a comparison, the marking and the look at the marks. For lists of at most 1048576 integers.
-/
import Derived.Test.YtlcmkocbpnekhaaGreatDoorSgP
import Derived.Test.YtlcmkocbpnekhaaGreatDoorQuad
import Derived.Test.YtlcmkocbpnekhaaGreatDoorOpenG
import Derived.Test.YtlcmkocbpnekhaaGreatDoorSz
import Derived.Test.YtlcmkocbpnekhaaGreatDoorResults
import Derived.Test.YtlcmkocbpnekhaaGreatDoorGrown
namespace Go.Proofs.YtlcmkocbpnekhaaGreatDoor
open Go.RowKit Go.Sort

/-- The value v can be read in w as the single line s. -/
def SgV (w : World) (v : Value) (s : Sg) : Prop := ∃ u1 u2, v = .agg #[u1, u2, .int .i64 s.run, .int .i64 s.head] ∧ Ints w u1 s.A ∧ Ints w u2 s.B
theorem SgV.below {w w' : World} {v : Value} {s : Sg} (h : SgV w v s) (hb : Below w.heap.size w w') : SgV w' v s := by
  obtain ⟨u1, u2, rfl, h1, h2⟩ := h
  exact ⟨u1, u2, rfl, h1.below hb, h2.below hb⟩
theorem SgV.len {w : World} {v : Value} {s : Sg} (h : SgV w v s) : s.A.length ≤ 1048576 ∧ s.B.length ≤ 1048576 := by
  obtain ⟨u1, u2, rfl, h1, h2⟩ := h
  exact ⟨h1.len, h2.len⟩
theorem SgV.form {w : World} {v : Value} {s : Sg} (h : SgV w v s) : ∃ a n c a' n' c', v = .agg #[.slice a n c, .slice a' n' c', .int .i64 s.run, .int .i64 s.head] ∧ Ints w (.slice a n c) s.A ∧ Ints w (.slice a' n' c') s.B := by
  obtain ⟨u1, u2, rfl, i1, i2⟩ := h
  obtain ⟨a, c, rfl, q1⟩ := i1
  obtain ⟨a', c', rfl, q2⟩ := i2
  exact ⟨_, _, _, _, _, _, rfl, ⟨a, c, rfl, q1⟩, ⟨a', c', rfl, q2⟩⟩

/-- The value v is a single line of the call's own. -/
def OwnSg (w : World) (base : Nat) (v : Value) (s : Sg) : Prop :=
  ∃ u1 u2, v = .agg #[u1, u2, .int .i64 s.run, .int .i64 s.head] ∧ OwnI w base u1 s.A ∧ OwnI w base u2 s.B ∧ (u1.ownBlock = none ∨ u1.ownBlock ≠ u2.ownBlock) ∧ (u2.ownBlock = none ∨ u2.ownBlock ≠ u1.ownBlock)
theorem OwnSg.below {w w' : World} {base : Nat} {v : Value} {s : Sg} (h : OwnSg w base v s) (hb : Below w.heap.size w w') : OwnSg w' base v s := by
  obtain ⟨u1, u2, rfl, h1, h2, h3⟩ := h
  exact ⟨u1, u2, rfl, h1.below hb, h2.below hb, h3⟩
theorem OwnSg.mono {w : World} {base base' : Nat} {v : Value} {s : Sg} (h : OwnSg w base v s) (hb : base' ≤ base) : OwnSg w base' v s := by
  obtain ⟨u1, u2, rfl, h1, h2, h3⟩ := h
  exact ⟨u1, u2, rfl, h1.mono hb, h2.mono hb, h3⟩
theorem OwnSg.sgV {w : World} {base : Nat} {v : Value} {s : Sg} (h : OwnSg w base v s) (l1 : s.A.length ≤ 1048576) (l2 : s.B.length ≤ 1048576) : SgV w v s := by
  obtain ⟨u1, u2, rfl, h1, h2, h3⟩ := h
  exact ⟨u1, u2, rfl, h1.ints l1, h2.ints l2⟩
/-- A call that hands back a new single line, and writes nothing that was there. -/
def MadeSg (w : World) (s : Sg) (e : Ending) (w' : World) : Prop :=
  ∃ v, e = .returned v ∧ OwnSg w' w.heap.size v s ∧ Below w.heap.size w w'
theorem own_is_slice {w : World} {base : Nat} {v : Value} {xs : List Int} (h : OwnI w base v xs) : ∃ a n c, v = .slice a n c := by
  rcases h.shape with ⟨rfl, _⟩ | ⟨g, c, rfl, _⟩
  · exact ⟨_, _, _, rfl⟩
  · exact ⟨_, _, _, rfl⟩
theorem OwnSg.form {w : World} {base : Nat} {v : Value} {s : Sg} (h : OwnSg w base v s) : ∃ a n c a' n' c', v = .agg #[.slice a n c, .slice a' n' c', .int .i64 s.run, .int .i64 s.head] := by
  obtain ⟨u1, u2, rfl, h1, h2, _⟩ := h
  obtain ⟨a, n, c, rfl⟩ := own_is_slice h1
  obtain ⟨a', n', c', rfl⟩ := own_is_slice h2
  exact ⟨_, _, _, _, _, _, rfl⟩

theorem OwnI.setBelow {w : World} {base : Nat} {v : Value} {xs : List Int} (h : OwnI w base v xs) {a : Addr} (ha : a.block < base) (u : Value) : OwnI (w.setCell a u) base v xs := ownsRow_setCell_below h ha u

/-- What the sizes of a single line leave of a number. -/
def szOf (m : Int) (n1 n2 : Nat) : Int := if m < n1 then -1 else if m - n1 < n2 then -1 else m - n1 - n2

/-- A single line's lists lie in blocks from lo up to hi. -/
def SgIn (v : Value) (lo hi : Nat) : Prop := ∃ u1 u2 u3 u4, v = .agg #[u1, u2, u3, u4] ∧ (∀ b, u1.ownBlock = some b → lo ≤ b ∧ b < hi) ∧ ∀ b, u2.ownBlock = some b → lo ≤ b ∧ b < hi
theorem OwnSg.isIn {w : World} {base : Nat} {v : Value} {s : Sg} (h : OwnSg w base v s) : SgIn v base w.heap.size := by
  obtain ⟨u1, u2, rfl, h1, h2, _⟩ := h
  exact ⟨u1, u2, _, _, rfl, fun b e => World.ownsRow.lt h1 b e, fun b e => World.ownsRow.lt h2 b e⟩
theorem OwnSg.keptIn {w w' : World} {base lo hi a b : Nat} {v : Value} {s : Sg} (h : OwnSg w base v s) (g : GrownIn w w' lo hi) (hin : SgIn v a b) (ho : b ≤ lo ∨ hi ≤ a) : OwnSg w' base v s := by
  obtain ⟨u1, u2, rfl, h1, h2, h3⟩ := h
  obtain ⟨_, _, _, _, e, k1, k2⟩ := hin
  simp only [Value.agg.injEq, Array.mk.injEq, List.cons.injEq, and_true] at e
  obtain ⟨rfl, rfl, rfl, rfl⟩ := e
  exact ⟨u1, u2, rfl, h1.keptIn g (fun c e => by have := k1 c e; omega), h2.keptIn g (fun c e => by have := k2 c e; omega), h3⟩

end Go.Proofs.YtlcmkocbpnekhaaGreatDoor
