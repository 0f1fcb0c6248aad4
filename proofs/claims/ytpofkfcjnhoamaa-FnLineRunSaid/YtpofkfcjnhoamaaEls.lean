/-
  Slices whose elements are some cells long: those that can be read, and those that a call has made for itself. No condition; no walk.
-/
import Derived.Test.YtpofkfcjnhoamaaGrown
namespace Go.Proofs.Ytpofkfcjnhoamaa
open Go.RowKit

/-- The value v can be read in w as n elements of k cells; cell q holds F q. -/
def Rd (w : World) (v : Value) (n k : Nat) (F : Nat → Value) : Prop :=
  ∃ a cap, v = .slice a n cap ∧ (n ≤ 1048576 ∧ n ≤ cap) ∧ (n = 0 ∨ ∃ b o, a = some ⟨b, o, none⟩ ∧ b < w.heap.size ∧ ∀ q, q < n * k → w.cell? ⟨b, o + q, none⟩ = some (F q))
theorem Rd.below {w w' : World} {v : Value} {n k : Nat} {F : Nat → Value} (h : Rd w v n k F) (hb : Below w.heap.size w w') : Rd w' v n k F := by
  obtain ⟨a, cap, rfl, hl, hc⟩ := h
  refine ⟨a, cap, rfl, hl, ?_⟩
  rcases hc with h0 | ⟨b, o, rfl, hlt, hcell⟩
  · exact .inl h0
  · exact .inr ⟨b, o, rfl, Nat.lt_of_lt_of_le hlt hb.size, fun q hq => (hb.cell (p := ⟨b, o + q, none⟩) hlt).trans (hcell q hq)⟩
theorem Rd.len {w : World} {v : Value} {n k : Nat} {F : Nat → Value} (h : Rd w v n k F) : n ≤ 1048576 := by
  obtain ⟨_, _, _, hl, _⟩ := h
  exact hl.1
theorem Rd.congr {w : World} {v : Value} {n k : Nat} {F G : Nat → Value} (h : Rd w v n k F) (e : ∀ q, q < n * k → F q = G q) : Rd w v n k G := by
  obtain ⟨a, cap, rfl, hl, hc⟩ := h
  refine ⟨a, cap, rfl, hl, ?_⟩
  rcases hc with h0 | ⟨b, o, rfl, hlt, hcell⟩
  · exact .inl h0
  · exact .inr ⟨b, o, rfl, hlt, fun q hq => by rw [hcell q hq, e q hq]⟩
theorem Rd.slice {w : World} {v : Value} {n k : Nat} {F : Nat → Value} (h : Rd w v n k F) : ∃ a cap, v = .slice a n cap := by
  obtain ⟨a, cap, rfl, _⟩ := h
  exact ⟨a, cap, rfl⟩
theorem Rd.at {w : World} {a : Option Addr} {n m cap k : Nat} {F : Nat → Value} (h : Rd w (.slice a m cap) n k F) {i : Nat} (hi : i < n) : m = n ∧ ∃ b o, a = some ⟨b, o, none⟩ ∧ b < w.heap.size ∧ ∀ q, q < n * k → w.cell? ⟨b, o + q, none⟩ = some (F q) := by
  obtain ⟨a', cap', e, hl, hc⟩ := h
  simp only [Value.slice.injEq] at e
  obtain ⟨rfl, rfl, rfl⟩ := e
  rcases hc with h0 | h
  · omega
  · exact ⟨rfl, h⟩

/-- The value v owns n elements of k cells, in a block from base on. -/
def Ow (w : World) (base : Nat) (t : TypeId) (k : Nat) (v : Value) (n : Nat) (F : Nat → Value) : Prop := w.ownsRow base t k v n ((List.range (n * k)).map F)
theorem rangeF_get (F : Nat → Value) {n q : Nat} (h : q < n) : ((List.range n).map F)[q]? = some (F q) := by simp [h]
theorem Ow.shape {w : World} {base : Nat} {t : TypeId} {k : Nat} {v : Value} {n : Nat} {F : Nat → Value} (h : Ow w base t k v n F) :
    (v = .slice none 0 0 ∧ n = 0) ∨ ∃ g cap, v = .slice (some ⟨g, 0, none⟩) n cap ∧ base ≤ g ∧ g < w.heap.size ∧ n ≤ cap := by
  rcases h.2 with ⟨rfl, h0⟩ | ⟨g, cap, cur, rfl, hb, hg, hn, _⟩
  · exact .inl ⟨rfl, h0⟩
  · exact .inr ⟨g, cap, rfl, hb, (Array.getElem?_eq_some_iff.1 hg).1, hn⟩
theorem Ow.slice {w : World} {base : Nat} {t : TypeId} {k : Nat} {v : Value} {n : Nat} {F : Nat → Value} (h : Ow w base t k v n F) : ∃ a cap, v = .slice a n cap := by
  rcases h.shape with ⟨rfl, rfl⟩ | ⟨g, c, rfl, _⟩
  · exact ⟨_, _, rfl⟩
  · exact ⟨_, _, rfl⟩
theorem Ow.rd {w : World} {base : Nat} {t : TypeId} {k : Nat} {v : Value} {n : Nat} {F : Nat → Value} (h : Ow w base t k v n F) (hl : n ≤ 1048576) : Rd w v n k F := by
  rcases h.shape with ⟨rfl, rfl⟩ | ⟨g, cap, rfl, hb, hg, hn⟩
  · exact ⟨none, 0, rfl, by simp, .inl rfl⟩
  · refine ⟨_, cap, rfl, ⟨hl, hn⟩, .inr ⟨g, 0, rfl, hg, fun q hq => ?_⟩⟩
    rw [Nat.zero_add, World.ownsRow.cellAt h q hq, rangeF_get F hq]
theorem Ow.congr {w : World} {base : Nat} {t : TypeId} {k : Nat} {v : Value} {n : Nat} {F G : Nat → Value} (h : Ow w base t k v n F) (e : ∀ q, q < n * k → F q = G q) : Ow w base t k v n G := by
  unfold Ow at h ⊢
  rw [show (List.range (n * k)).map G = (List.range (n * k)).map F from (List.map_congr_left fun q hq => e q (by simpa using hq)).symm]
  exact h
theorem Ow.kept {w w' : World} {base : Nat} {t : TypeId} {k : Nat} {v : Value} {n : Nat} {F : Nat → Value} (h : Ow w base t k v n F) {row : Option Nat} (hg : w.grownBy w' row) (hne : v.ownBlock = none ∨ v.ownBlock ≠ row) : Ow w' base t k v n F := World.ownsRow.kept h hg hne
theorem Ow.below {w w' : World} {base : Nat} {t : TypeId} {k : Nat} {v : Value} {n : Nat} {F : Nat → Value} (h : Ow w base t k v n F) (hb : Below w.heap.size w w') : Ow w' base t k v n F :=
  h.kept (below_grown hb) (by cases v.ownBlock <;> simp)
theorem Ow.mono {w : World} {base base' : Nat} {t : TypeId} {k : Nat} {v : Value} {n : Nat} {F : Nat → Value} (h : Ow w base t k v n F) (hb : base' ≤ base) : Ow w base' t k v n F := by
  refine ⟨h.1, ?_⟩
  rcases h.2 with h | ⟨g, cap, cur, rfl, hg, r⟩
  · exact .inl h
  · exact .inr ⟨g, cap, cur, rfl, Nat.le_trans hb hg, r⟩
theorem Ow.under {w : World} {base : Nat} {t : TypeId} {k : Nat} {v : Value} {n : Nat} {F : Nat → Value} (h : Ow w base t k v n F) : ∀ b, v.ownBlock = some b → base ≤ b ∧ b < w.heap.size := fun b e => World.ownsRow.lt h b e
theorem Ow.setBelow {w : World} {base : Nat} {t : TypeId} {k : Nat} {v : Value} {n : Nat} {F : Nat → Value} (h : Ow w base t k v n F) {a : Addr} (ha : a.block < base) (u : Value) : Ow (w.setCell a u) base t k v n F := ownsRow_setCell_below h ha u
theorem Ow.keptIn {w w' : World} {base lo hi : Nat} {t : TypeId} {k : Nat} {v : Value} {n : Nat} {F : Nat → Value} (h : Ow w base t k v n F) (g : GrownIn w w' lo hi) (hv : ∀ b, v.ownBlock = some b → b < lo ∨ hi ≤ b) : Ow w' base t k v n F := by
  refine ⟨h.1, ?_⟩
  rcases h.2 with h0 | ⟨b, cap, cur, rfl, hb, hg, hr⟩
  · exact .inl h0
  · exact .inr ⟨b, cap, cur, rfl, hb, (g.block b (Array.getElem?_eq_some_iff.1 hg).1 (hv b rfl)).trans hg, hr⟩
/-- A row that is known cell by cell is owned. -/
theorem ow_of_rowIs {w : World} {b base n k : Nat} {t : TypeId} {F : Nat → Value} (h : w.rowIs b t (n * k) F) (hb : base ≤ b) (hn : n ≤ maxLen) : Ow w base t k (.slice (some ⟨b, 0, none⟩) n n) n F := by
  obtain ⟨c, hh, hs, hc⟩ := h
  refine ⟨by simp, .inr ⟨b, _, c, rfl, hb, hh, Nat.le_refl _, hn, hs, ?_⟩⟩
  apply List.ext_getElem?
  intro i
  by_cases hi : i < n * k
  · have h1 := hc i hi
    rw [List.getElem?_take, if_pos hi, rangeF_get F hi]
    simpa using h1
  · rw [List.getElem?_eq_none (by simp; omega), List.getElem?_eq_none (by simp; omega)]
theorem ow_nil (w : World) (base : Nat) (t : TypeId) (k : Nat) (F : Nat → Value) : Ow w base t k (.slice none 0 0) 0 F := by
  unfold Ow
  rw [Nat.zero_mul]
  exact World.ownsRow_nil _ _ _ _
theorem ow_empty (w : World) (t : TypeId) (k : Nat) (F : Nat → Value) : Ow (w.alloc (.cells #[] t)) w.heap.size t k (.slice (some ⟨w.heap.size, 0, none⟩) 0 0) 0 F := by
  unfold Ow
  rw [Nat.zero_mul]
  exact World.ownsRow_lit w #[] 0 (Nat.le_refl _) (by simp [maxLen]) (by simp)
/-- One cell of an owned row, and a store into it. -/
theorem Ow.cell {w : World} {base : Nat} {t : TypeId} {k g cap n : Nat} {F : Nat → Value} (h : Ow w base t k (.slice (some ⟨g, 0, none⟩) n cap) n F) {q : Nat} (hq : q < n * k) : w.cell? ⟨g, q, none⟩ = some (F q) := by
  rw [World.ownsRow.cellAt h q hq, rangeF_get F hq]
theorem Ow.frozen {w : World} {base : Nat} {t : TypeId} {k g cap n : Nat} {F : Nat → Value} (h : Ow w base t k (.slice (some ⟨g, 0, none⟩) n cap) n F) (q : Nat) : w.frozen? ⟨g, q, none⟩ = false := World.ownsRow.frozenAt h q
theorem rangeF_set (F : Nat → Value) (n q : Nat) (u : Value) : ((List.range n).map F).set q u = (List.range n).map fun i => if i = q then u else F i := by
  apply List.ext_getElem?
  intro i
  by_cases hi : i < n
  · by_cases e : q = i
    · subst e; simp [hi]
    · simp [hi, e, show ¬ i = q from fun h => e h.symm]
  · rw [List.getElem?_eq_none (by simp; omega), List.getElem?_eq_none (by simp; omega)]
theorem Ow.set {w : World} {base : Nat} {t : TypeId} {k g cap n : Nat} {F : Nat → Value} (h : Ow w base t k (.slice (some ⟨g, 0, none⟩) n cap) n F) (q : Nat) (u : Value) :
    Ow (w.setCell ⟨g, q, none⟩ u) base t k (.slice (some ⟨g, 0, none⟩) n cap) n (fun i => if i = q then u else F i) ∧ w.grownBy (w.setCell ⟨g, q, none⟩ u) (some g) := by
  have hs := World.ownsRow.stored h q u
  rw [rangeF_set] at hs
  exact hs

theorem ownI_ow {w : World} {base : Nat} {v : Value} {xs : List Int} (h : OwnI w base v xs) : Ow w base 3 1 v xs.length (fun q => .int .i64 (xs.getD q 0)) := by
  unfold OwnI at h
  unfold Ow
  have e : (List.range (xs.length * 1)).map (fun q => Value.int .i64 (xs.getD q 0)) = xs.map (Value.int .i64) := by
    apply List.ext_getElem?
    intro i
    by_cases hi : i < xs.length
    · simp [hi]
    · rw [List.getElem?_eq_none (by simp; omega), List.getElem?_eq_none (by simp; omega)]
  rw [e]
  exact h
theorem apartO {b1 b2 lo : Nat} {w1 w2 : World} {v1 v2 : Value} (h1 : ∀ b, v1.ownBlock = some b → b1 ≤ b ∧ b < w1.heap.size) (hle : w1.heap.size ≤ b2) (h2 : ∀ b, v2.ownBlock = some b → b2 ≤ b ∧ b < w2.heap.size) (_ : lo = lo) :
    (v1.ownBlock = none ∨ v1.ownBlock ≠ v2.ownBlock) ∧ (v2.ownBlock = none ∨ v2.ownBlock ≠ v1.ownBlock) := by
  cases e1 : v1.ownBlock with
  | none => exact ⟨.inl rfl, by cases e2 : v2.ownBlock <;> simp⟩
  | some k =>
    cases e2 : v2.ownBlock with
    | none => exact ⟨.inr (by simp), .inl rfl⟩
    | some m =>
      have q1 := (h1 k e1).2
      have q2 := (h2 m e2).1
      exact ⟨.inr (by simp; omega), .inr (by simp; omega)⟩

/-! ### Lists of blocks and of moves -/

end Go.Proofs.Ytpofkfcjnhoamaa
