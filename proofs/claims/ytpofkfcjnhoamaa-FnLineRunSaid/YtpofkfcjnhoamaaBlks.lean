/-
  Lists of blocks, lists of moves, and lines, in memory. No condition; no walk.
-/
import Derived.Test.YtpofkfcjnhoamaaEls
import Derived.Test.YtpofkfcjnhoamaaLineP
import Derived.Test.YtpofkfcjnhoamaaBlockB
namespace Go.Proofs.Ytpofkfcjnhoamaa
open Go.RowKit

/-- The cells of a list of blocks, and of a list of moves. -/
def bkF (bs : List Blk) (q : Nat) : Value := if q % 3 = 0 then .int .i64 (bs.getD (q / 3) nb).1 else if q % 3 = 1 then .bool (bs.getD (q / 3) nb).2.1 else .bool (bs.getD (q / 3) nb).2.2
theorem bkF0 (bs : List Blk) (i : Nat) : bkF bs (i * 3) = .int .i64 (bs.getD i nb).1 := by
  unfold bkF; rw [if_pos (by omega), show i * 3 / 3 = i by omega]
theorem bkF1 (bs : List Blk) (i : Nat) : bkF bs (i * 3 + 1) = .bool (bs.getD i nb).2.1 := by
  unfold bkF; rw [if_neg (by omega), if_pos (by omega), show (i * 3 + 1) / 3 = i by omega]
theorem bkF2 (bs : List Blk) (i : Nat) : bkF bs (i * 3 + 2) = .bool (bs.getD i nb).2.2 := by
  unfold bkF; rw [if_neg (by omega), if_neg (by omega), show (i * 3 + 2) / 3 = i by omega]
def mvF (ms : List Mv) (q : Nat) : Value := if q % 2 = 0 then .int .i64 (ms.getD (q / 2) noMv).1 else .string (ms.getD (q / 2) noMv).2
theorem mvF0 (ms : List Mv) (i : Nat) : mvF ms (i * 2) = .int .i64 (ms.getD i noMv).1 := by
  unfold mvF; rw [if_pos (by omega), show i * 2 / 2 = i by omega]
theorem mvF1 (ms : List Mv) (i : Nat) : mvF ms (i * 2 + 1) = .string (ms.getD i noMv).2 := by
  unfold mvF; rw [if_neg (by omega), show (i * 2 + 1) / 2 = i by omega]
theorem bkF_set {bs : List Blk} {i : Nat} (hi : i < bs.length) (b : Blk) (q : Nat) : bkF (bs.set i b) q = (if q = i * 3 + 2 then .bool b.2.2 else if q = i * 3 + 1 then .bool b.2.1 else if q = i * 3 then .int .i64 b.1 else bkF bs q) := by
  have hd : q = q / 3 * 3 ∨ q = q / 3 * 3 + 1 ∨ q = q / 3 * 3 + 2 := by omega
  by_cases e : q / 3 = i
  · have g : (bs.set i b).getD i nb = b := by simp [hi]
    rcases hd with h | h | h
    · rw [h, e, bkF0, g, if_neg (by omega), if_neg (by omega), if_pos rfl]
    · rw [h, e, bkF1, g, if_neg (by omega), if_pos rfl]
    · rw [h, e, bkF2, g, if_pos rfl]
  · have g : (bs.set i b).getD (q / 3) nb = bs.getD (q / 3) nb := by
      simp only [List.getD_eq_getElem?_getD, List.getElem?_set, if_neg (show ¬ i = q / 3 from fun h => e h.symm)]
    rw [if_neg (by omega), if_neg (by omega), if_neg (by omega)]
    unfold bkF
    rw [g]
theorem mvF_append (ms : List Mv) (m : Mv) : (List.range ((ms ++ [m]).length * 2)).map (mvF (ms ++ [m])) = (List.range (ms.length * 2)).map (mvF ms) ++ [.int .i64 m.1, .string m.2] := by
  have e : (ms ++ [m]).length * 2 = ms.length * 2 + 1 + 1 := by simp; omega
  have g : (ms ++ [m]).getD ms.length noMv = m := by simp
  rw [e, List.range_succ, List.range_succ, List.map_append, List.map_append, List.append_assoc]
  congr 1
  · refine List.map_congr_left fun q hq => ?_
    have hq' : q / 2 < ms.length := by have := List.mem_range.1 hq; omega
    have g2 : (ms ++ [m]).getD (q / 2) noMv = ms.getD (q / 2) noMv := by
      simp only [List.getD_eq_getElem?_getD, List.getElem?_append, if_pos hq']
    unfold mvF
    rw [g2]
  · simp only [List.map_cons, List.map_nil, List.cons_append, List.nil_append]
    rw [mvF0, mvF1, g]

/-- The value v can be read in w as a list of blocks, of moves. -/
def Blks (w : World) (v : Value) (bs : List Blk) : Prop := Rd w v bs.length 3 (bkF bs)
def Mvs (w : World) (v : Value) (ms : List Mv) : Prop := Rd w v ms.length 2 (mvF ms)
/-- It is owned. -/
def OwnB (w : World) (base : Nat) (v : Value) (bs : List Blk) : Prop := Ow w base 33 3 v bs.length (bkF bs)

def OwnM (w : World) (base : Nat) (v : Value) (ms : List Mv) : Prop := Ow w base 40 2 v ms.length (mvF ms)

/-- What lies at block i, and at move i. -/
theorem Blks.at {w : World} {a : Option Addr} {n cap : Nat} {bs : List Blk} (h : Blks w (.slice a n cap) bs) {i : Nat} (hi : i < bs.length) : ∃ b o, a = some ⟨b, o, none⟩ ∧ b < w.heap.size ∧
    ∀ i, i < bs.length → w.cell? ⟨b, o + i * 3, none⟩ = some (.int .i64 (bs.getD i nb).1) ∧ w.cell? ⟨b, o + i * 3 + 1, none⟩ = some (.bool (bs.getD i nb).2.1) ∧ w.cell? ⟨b, o + i * 3 + 2, none⟩ = some (.bool (bs.getD i nb).2.2) := by
  obtain ⟨_, b, o, rfl, hb, hc⟩ := Rd.at h hi
  refine ⟨b, o, rfl, hb, fun i hi => ⟨?_, ?_, ?_⟩⟩
  · rw [hc (i * 3) (by omega), bkF0]
  · rw [Nat.add_assoc, hc (i * 3 + 1) (by omega), bkF1]
  · rw [Nat.add_assoc, hc (i * 3 + 2) (by omega), bkF2]
theorem Mvs.at {w : World} {a : Option Addr} {n cap : Nat} {ms : List Mv} (h : Mvs w (.slice a n cap) ms) {i : Nat} (hi : i < ms.length) : ∃ b o, a = some ⟨b, o, none⟩ ∧ b < w.heap.size ∧
    ∀ i, i < ms.length → w.cell? ⟨b, o + i * 2, none⟩ = some (.int .i64 (ms.getD i noMv).1) ∧ w.cell? ⟨b, o + i * 2 + 1, none⟩ = some (.string (ms.getD i noMv).2) := by
  obtain ⟨_, b, o, rfl, hb, hc⟩ := Rd.at h hi
  refine ⟨b, o, rfl, hb, fun i hi => ⟨?_, ?_⟩⟩
  · rw [hc (i * 2) (by omega), mvF0]
  · rw [Nat.add_assoc, hc (i * 2 + 1) (by omega), mvF1]

/-- The value v can be read as a line; it is a line of the call's own. -/
def LineV (w : World) (v : Value) (l : Ln) : Prop := ∃ u1 u2, v = .agg #[u1, u2] ∧ Blks w u1 l.1 ∧ Ints w u2 l.2
theorem LineV.below {w w' : World} {v : Value} {l : Ln} (h : LineV w v l) (hb : Below w.heap.size w w') : LineV w' v l := by
  obtain ⟨u1, u2, rfl, h1, h2⟩ := h
  exact ⟨u1, u2, rfl, Rd.below h1 hb, h2.below hb⟩
theorem LineV.len {w : World} {v : Value} {l : Ln} (h : LineV w v l) : l.1.length ≤ 1048576 ∧ l.2.length ≤ 1048576 := by
  obtain ⟨u1, u2, rfl, h1, h2⟩ := h
  exact ⟨Rd.len h1, h2.len⟩
theorem LineV.form {w : World} {v : Value} {l : Ln} (h : LineV w v l) : ∃ a n c a' n' c', v = .agg #[.slice a n c, .slice a' n' c'] := by
  obtain ⟨u1, u2, rfl, ⟨a, c, rfl, _⟩, ⟨a', c', rfl, _⟩⟩ := h
  exact ⟨_, _, _, _, _, _, rfl⟩
def OwnLine (w : World) (base : Nat) (v : Value) (l : Ln) : Prop :=
  ∃ u1 u2, v = .agg #[u1, u2] ∧ OwnB w base u1 l.1 ∧ OwnI w base u2 l.2 ∧ (u1.ownBlock = none ∨ u1.ownBlock ≠ u2.ownBlock) ∧ (u2.ownBlock = none ∨ u2.ownBlock ≠ u1.ownBlock)
theorem OwnLine.below {w w' : World} {base : Nat} {v : Value} {l : Ln} (h : OwnLine w base v l) (hb : Below w.heap.size w w') : OwnLine w' base v l := by
  obtain ⟨u1, u2, rfl, h1, h2, h3⟩ := h
  exact ⟨u1, u2, rfl, Ow.below h1 hb, h2.below hb, h3⟩
theorem OwnLine.mono {w : World} {base base' : Nat} {v : Value} {l : Ln} (h : OwnLine w base v l) (hb : base' ≤ base) : OwnLine w base' v l := by
  obtain ⟨u1, u2, rfl, h1, h2, h3⟩ := h
  exact ⟨u1, u2, rfl, Ow.mono h1 hb, h2.mono hb, h3⟩
theorem OwnLine.lineV {w : World} {base : Nat} {v : Value} {l : Ln} (h : OwnLine w base v l) (l1 : l.1.length ≤ 1048576) (l2 : l.2.length ≤ 1048576) : LineV w v l := by
  obtain ⟨u1, u2, rfl, h1, h2, h3⟩ := h
  exact ⟨u1, u2, rfl, Ow.rd h1 l1, h2.ints l2⟩
/-- A call that hands back a new line, and a new line and a bool. -/
def MadeLine (w : World) (l : Ln) (e : Ending) (w' : World) : Prop := ∃ v, e = .returned v ∧ OwnLine w' w.heap.size v l ∧ Below w.heap.size w w'
def MadeLineB (w : World) (l : Ln) (b : Bool) (e : Ending) (w' : World) : Prop := ∃ v, e = .returned (.tuple #[v, .bool b]) ∧ OwnLine w' w.heap.size v l ∧ Below w.heap.size w w'

end Go.Proofs.Ytpofkfcjnhoamaa
