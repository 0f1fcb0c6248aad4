/-
  Slices of integers in memory: those that can be read, and those that a call has made for itself. No condition; no walk.
-/
import Derived.Test.YtpofkfcjnhoamaaRows
import Derived.WalkKit
import Derived.WalkSpells
import Derived.Deep.OwnRows
namespace Go.Proofs.Ytpofkfcjnhoamaa
open Go.RowKit

theorem ret_int {k : IntKind} {a b : Int} (h : a = b) : Ending.returned (.int k a) = .returned (.int k b) := by rw [h]
theorem ret_str {a b : ByteArray} (h : a = b) : Ending.returned (.string a) = .returned (.string b) := by rw [h]
theorem ret_bool {a b : Bool} (h : a = b) : Ending.returned (.bool a) = .returned (.bool b) := by rw [h]

theorem info_int : (Try.prog.info? 3).map (fun i => (i.zero, i.size, i.bytes)) = some (some (.int .i64 0), 1, 8) := by kernel_rfl

/-- The value v can be read in w as the list xs. -/
def Ints (w : World) (v : Value) (xs : List Int) : Prop :=
  ∃ a cap, v = .slice a xs.length cap ∧ (xs.length ≤ 1048576 ∧ xs.length ≤ cap) ∧
    (xs = [] ∨ ∃ b o, a = some ⟨b, o, none⟩ ∧ b < w.heap.size ∧ ∀ i, i < xs.length → w.cell? ⟨b, o + i, none⟩ = some (.int .i64 (xs.getD i 0)))

/-- The value v owns the list xs in a block from base on. -/
def OwnI (w : World) (base : Nat) (v : Value) (xs : List Int) : Prop :=
  w.ownsRow base 3 1 v xs.length (xs.map (Value.int .i64))

theorem Ints.below {w w' : World} {v : Value} {xs : List Int} (h : Ints w v xs) (hb : Below w.heap.size w w') : Ints w' v xs := by
  obtain ⟨a, cap, rfl, hl, hc⟩ := h
  refine ⟨a, cap, rfl, hl, ?_⟩
  rcases hc with rfl | ⟨b, o, rfl, hlt, hcell⟩
  · exact .inl rfl
  · exact .inr ⟨b, o, rfl, Nat.lt_of_lt_of_le hlt hb.size, fun i hi => (hb.cell (p := ⟨b, o + i, none⟩) hlt).trans (hcell i hi)⟩

theorem Ints.len {w : World} {v : Value} {xs : List Int} (h : Ints w v xs) : xs.length ≤ 1048576 := by
  obtain ⟨_, _, _, hl, _⟩ := h
  exact hl.1

/-- The first k numbers of a list that can be read. -/
theorem Ints.take {w : World} {a : Option Addr} {n cap : Nat} {ys : List Int} (h : Ints w (.slice a n cap) ys) {k : Nat} (hk : k ≤ ys.length) : Ints w (.slice a k cap) (ys.take k) := by
  obtain ⟨a', cap', e, hl, hc⟩ := h
  simp only [Value.slice.injEq] at e
  obtain ⟨rfl, _, rfl⟩ := e
  have hlen : (ys.take k).length = k := by rw [List.length_take]; omega
  refine ⟨a, cap, by rw [hlen], ⟨by omega, by omega⟩, ?_⟩
  rcases hc with rfl | ⟨b, o, rfl, hb, hcell⟩
  · exact .inl (by simp)
  · refine .inr ⟨b, o, rfl, hb, fun i hi => ?_⟩
    rw [hlen] at hi
    rw [hcell i (by omega)]
    simp [hi]

theorem OwnI.shape {w : World} {base : Nat} {v : Value} {xs : List Int} (h : OwnI w base v xs) :
    (v = .slice none 0 0 ∧ xs = []) ∨ ∃ g cap, v = .slice (some ⟨g, 0, none⟩) xs.length cap ∧ base ≤ g ∧ g < w.heap.size := by
  rcases h.2 with ⟨rfl, h0⟩ | ⟨g, cap, cur, rfl, hb, hg, _⟩
  · exact .inl ⟨rfl, List.eq_nil_of_length_eq_zero h0⟩
  · exact .inr ⟨g, cap, rfl, hb, (Array.getElem?_eq_some_iff.1 hg).1⟩

theorem OwnI.ints {w : World} {base : Nat} {v : Value} {xs : List Int} (h : OwnI w base v xs) (hl : xs.length ≤ 1048576) : Ints w v xs := by
  rcases h.shape with ⟨rfl, rfl⟩ | ⟨g, cap, rfl, hb, hg⟩
  · exact ⟨none, 0, rfl, by simp, .inl rfl⟩
  · have hcap : xs.length ≤ cap := by
      rcases h.2 with ⟨h', _⟩ | ⟨g', cap', cur, h', _, _, hnc, _⟩
      · simp at h'
      · simp only [Value.slice.injEq, Option.some.injEq, Addr.mk.injEq, and_true, true_and] at h'
        omega
    refine ⟨_, cap, rfl, ⟨hl, hcap⟩, .inr ⟨g, 0, rfl, hg, fun i hi => ?_⟩⟩
    have := World.ownsRow.cellAt h i (by simpa using hi)
    rw [Nat.zero_add, this]
    simp [hi]

theorem OwnI.kept {w w' : World} {base : Nat} {v : Value} {xs : List Int} (h : OwnI w base v xs) {row : Option Nat} (hg : w.grownBy w' row) (hne : v.ownBlock = none ∨ v.ownBlock ≠ row) : OwnI w' base v xs :=
  World.ownsRow.kept h hg hne

theorem below_grown {w w' : World} (hb : Below w.heap.size w w') : w.grownBy w' none :=
  ⟨hb.os, hb.tape, hb.output, hb.size, fun k hk _ => hb.block k hk⟩

theorem OwnI.below {w w' : World} {base : Nat} {v : Value} {xs : List Int} (h : OwnI w base v xs) (hb : Below w.heap.size w w') : OwnI w' base v xs :=
  h.kept (below_grown hb) (by cases v.ownBlock <;> simp)

theorem OwnI.mono {w : World} {base base' : Nat} {v : Value} {xs : List Int} (h : OwnI w base v xs) (hb : base' ≤ base) : OwnI w base' v xs := by
  refine ⟨h.1, ?_⟩
  rcases h.2 with h | ⟨g, cap, cur, rfl, hg, r⟩
  · exact .inl h
  · exact .inr ⟨g, cap, cur, rfl, Nat.le_trans hb hg, r⟩

/-- What a call writes into the block of v leaves what lies in another block. -/
theorem Ints.kept {w w' : World} {v u : Value} {xs : List Int} (h : Ints w v xs) (hg : w.grownBy w' u.ownBlock) (hv : ∀ b o n c, v = .slice (some ⟨b, o, none⟩) n c → u.ownBlock ≠ some b) : Ints w' v xs := by
  obtain ⟨a, cap, rfl, hl, hc⟩ := h
  refine ⟨a, cap, rfl, hl, ?_⟩
  rcases hc with rfl | ⟨b, o, rfl, hlt, hcell⟩
  · exact .inl rfl
  · exact .inr ⟨b, o, rfl, Nat.lt_of_lt_of_le hlt hg.size, fun i hi => (World.cell?_of_block (hg.block b hlt (fun e => hv b o _ _ rfl e.symm))).trans (hcell i hi)⟩

/-- A row that is known cell by cell is owned. -/
theorem own_of_rowIs {w : World} {b base n : Nat} {f : Nat → Int} (h : w.rowIs b 3 n (fun i => .int .i64 (f i))) (hb : base ≤ b) (hn : n ≤ maxLen) {xs : List Int} (hx : xs.length = n) (hf : ∀ i, i < n → f i = xs.getD i 0) :
    OwnI w base (.slice (some ⟨b, 0, none⟩) n n) xs := by
  subst hx
  obtain ⟨c, hh, hs, hc⟩ := h
  refine ⟨by simp, .inr ⟨b, _, c, rfl, hb, hh, Nat.le_refl _, hn, by omega, ?_⟩⟩
  apply List.ext_getElem?
  intro i
  by_cases hi : i < xs.length
  · have h1 := hc i hi
    have h2 := hf i hi
    rw [List.getElem?_take, if_pos (by omega)]
    simp [h1, h2, hi]
  · rw [List.getElem?_eq_none (by simp; omega), List.getElem?_eq_none (by simp; omega)]

theorem grown_trans {w w1 w2 : World} {row : Option Nat} (h : w.grownBy w1 row) (k : w1.grownBy w2 row) : w.grownBy w2 row :=
  ⟨k.os.trans h.os, k.tape.trans h.tape, k.output.trans h.output, Nat.le_trans h.size k.size, fun i hi hne => (k.block i (Nat.lt_of_lt_of_le hi h.size) hne).trans (h.block i hi hne)⟩

/-- The marks k, k + 1 .. -/
def marks (k : Int) (n : Nat) : List Int := (List.range n).map fun (i : Nat) => k + (i : Int)
theorem marks_length (k : Int) (n : Nat) : (marks k n).length = n := by simp [marks]
theorem marks_getD (k : Int) (n i : Nat) (h : i < n) : (marks k n).getD i 0 = k + i := by simp [marks, h]

/-- A row whose first j cells are written already. -/
def fillTo (f : Nat → Int) (g : Nat → Int) (j n : Nat) : List Value := (List.range n).map fun i => .int .i64 (if i < j then f i else g i)
theorem fill_set (f g : Nat → Int) (j n : Nat) : (fillTo f g j n).set j (.int .i64 (f j)) = fillTo f g (j + 1) n := by
  apply List.ext_getElem?
  intro i
  by_cases hi : i < n
  · by_cases e : j = i
    · subst e; simp [fillTo, hi]
    · by_cases l : i < j
      · simp [fillTo, hi, e, l, show i < j + 1 by omega]
      · simp [fillTo, hi, e, l, show ¬ i < j + 1 by omega]
  · rw [List.getElem?_eq_none (by simp [fillTo]; omega), List.getElem?_eq_none (by simp [fillTo]; omega)]
theorem fill_none (f : Nat → Int) (xs : List Int) : fillTo f (fun i => xs.getD i 0) 0 xs.length = xs.map (Value.int .i64) := by
  apply List.ext_getElem?
  intro i
  by_cases hi : i < xs.length
  · simp [fillTo, hi]
  · rw [List.getElem?_eq_none (by simp [fillTo]; omega), List.getElem?_eq_none (by simp; omega)]
theorem fill_all (k : Int) (g : Nat → Int) (n : Nat) : fillTo (fun i => k + i) g n n = (marks k n).map (Value.int .i64) := by
  apply List.ext_getElem?
  intro i
  by_cases hi : i < n
  · simp [fillTo, marks, hi]
  · rw [List.getElem?_eq_none (by simp [fillTo]; omega), List.getElem?_eq_none (by simp [marks]; omega)]
theorem fill_get (f g : Nat → Int) (j n i : Nat) (h : i < n) : (fillTo f g j n)[i]? = some (.int .i64 (if i < j then f i else g i)) := by
  simp [fillTo, h]

/-- A list is marked: the last mark comes back, and the list's own block alone has been written. -/
def Marked (w : World) (base : Nat) (v : Value) (k : Int) (n : Nat) (e : Ending) (w' : World) : Prop :=
  e = .returned (.int .i64 (k + n)) ∧ OwnI w' base v (marks k n) ∧ w.grownBy w' v.ownBlock

/-- A call that hands back a new list, and writes nothing that was there. -/
def MadeInts (w : World) (xs : List Int) (e : Ending) (w' : World) : Prop :=
  ∃ v, e = .returned v ∧ OwnI w' w.heap.size v xs ∧ Below w.heap.size w w'

end Go.Proofs.Ytpofkfcjnhoamaa
