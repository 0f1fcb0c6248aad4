/-
  A line that came in, and a list of moves that came in: what is known of their cells. No condition.
-/
import Derived.Test.YtpofkfcjnhoamaaBlks
import Derived.Test.YtpofkfcjnhoamaaRowK
import Derived.Deep.SlicePairs
import Derived.Deep.Strs
import Derived.Lib.SmallJoins
namespace Go.Proofs.Ytpofkfcjnhoamaa
open Go.RowKit

/-- What is known of a list of blocks that came in. -/
def IsBlksK (w : World) (a : Option Addr) (n c : Nat) : Prop :=
  (a = none ∧ n = 0 ∧ c = 0) ∨ ∃ x bs, a = some x ∧ n ≤ c ∧ c ≤ maxLen ∧ bs.length = c ∧ ∀ q, q < c * 3 → w.cell? (x.add q) = some (bkF bs q)
/-- What is known of a line that came in. -/
def IsLineK (w : World) (v : Value) : Prop :=
  ∃ a1 n1 c1 a2 n2 c2 z2, v = .agg #[.slice a1 n1 c1, .slice a2 n2 c2] ∧ IsBlksK w a1 n1 c1 ∧ IsRowK .i64 w a2 n2 c2 z2
theorem IsBlksK.le {w : World} {a : Option Addr} {n c : Nat} (h : IsBlksK w a n c) : n ≤ c ∧ c ≤ maxLen := by
  rcases h with ⟨_, rfl, rfl⟩ | ⟨_, _, _, h1, h2, _⟩
  · exact ⟨Nat.le_refl _, Nat.zero_le _⟩
  · exact ⟨h1, h2⟩
theorem bkF_take {bs : List Blk} {n q : Nat} (h : q < n * 3) : bkF (bs.take n) q = bkF bs q := by
  have g : (bs.take n).getD (q / 3) nb = bs.getD (q / 3) nb := by
    simp only [List.getD_eq_getElem?_getD, List.getElem?_take, if_pos (show q / 3 < n by omega)]
  unfold bkF
  rw [g]
theorem blks_of_k {w : World} {a : Option Addr} {n c : Nat} (h : IsBlksK w a n c) (hn : n ≤ 1048576) : ∃ bs, Blks w (.slice a n c) bs := by
  rcases h with ⟨rfl, rfl, rfl⟩ | ⟨x, bs, rfl, h1, h2, h3, hc⟩
  · exact ⟨[], none, 0, rfl, by simp, .inl rfl⟩
  · have hlen : (bs.take n).length = n := by rw [List.length_take]; omega
    refine ⟨bs.take n, some x, c, by rw [hlen], ⟨by omega, by omega⟩, ?_⟩
    by_cases h0 : n = 0
    · subst h0; exact .inl (by simp)
    · obtain ⟨b, off, spot⟩ := x
      have hspot : spot = none := by simpa [Addr.add] using World.cell?_spot (hc 0 (by omega))
      subst hspot
      refine .inr ⟨b, off, rfl, World.block_lt_of_cell? w _ (hc 0 (by omega)), fun q hq => ?_⟩
      rw [hlen] at hq
      have := hc q (by omega)
      rw [show (⟨b, off, none⟩ : Addr).add q = ⟨b, off + q, none⟩ by unfold Addr.add; split <;> simp_all] at this
      rw [bkF_take hq]
      exact this
theorem IsBlksK.below {w w' : World} {a : Option Addr} {n c : Nat} (h : IsBlksK w a n c) (hb : Below w.heap.size w w') : IsBlksK w' a n c := by
  rcases h with h | ⟨x, bs, rfl, h1, h2, h3, h4⟩
  · exact .inl h
  · refine .inr ⟨x, bs, rfl, h1, h2, h3, fun q hq => ?_⟩
    have hx := World.block_lt_of_cell? w _ (h4 q hq)
    exact (hb.cell (p := x.add q) hx).trans (h4 q hq)
theorem rowK_below {k : IntKind} {w w' : World} {a : Option Addr} {n c : Nat} {z : List Int} (h : IsRowK k w a n c z) (hb : Below w.heap.size w w') : IsRowK k w' a n c z := by
  rcases h with h | ⟨x, rfl, h1, h2, h3, h4, h5⟩
  · exact .inl h
  · refine .inr ⟨x, rfl, h1, h2, h3, fun i hi => ?_, h5⟩
    have hx := World.block_lt_of_cell? w _ (h4 i hi)
    exact (hb.cell (p := x.add i) hx).trans (h4 i hi)
theorem IsLineK.below {w w' : World} {v : Value} (h : IsLineK w v) (hb : Below w.heap.size w w') : IsLineK w' v := by
  obtain ⟨a1, n1, c1, a2, n2, c2, z2, rfl, r1, r2⟩ := h
  exact ⟨a1, n1, c1, a2, n2, c2, z2, rfl, r1.below hb, rowK_below r2 hb⟩
theorem rowK_le {k : IntKind} {w : World} {a : Option Addr} {n c : Nat} {z : List Int} (h : IsRowK k w a n c z) : n ≤ c ∧ c ≤ maxLen := by
  rcases h with ⟨_, rfl, rfl, _⟩ | ⟨_, _, h1, h2, _⟩
  · exact ⟨Nat.le_refl _, Nat.zero_le _⟩
  · exact ⟨h1, h2⟩

section
variable {H : Type} {enc : TypeId × Value → H} {W : World}

theorem cells_intL : Try.prog.cellsOf 3 = 1 := by kernel_rfl

set_option maxRecDepth 100000 in
theorem row_of_trodL {fuel : Nat} {v : Value} {y : DataW H × List MemPlace} (h : DataW.trod enc Try.prog W 0 (fun _ => true) true fuel 24 [v] = some y) :
    ∃ (a : Option Addr) (n c : Nat) (z : List Int), v = .slice a n c ∧ IsRowK .i64 W a n c z := by
  rcases Go.ChangeShapes.open_ints Try.underlying24 Try.underlying3 cells_intL h with ⟨hcs, _⟩ | ⟨x, l, c, zs, hcs, _, hl, hm, hz, _, hcell, hwz⟩
  · simp only [List.cons.injEq, and_true] at hcs
    exact ⟨none, 0, 0, [], hcs, .inl ⟨rfl, rfl, rfl, rfl⟩⟩
  · simp only [List.cons.injEq, and_true] at hcs
    exact ⟨some x, l, c, zs, hcs, .inr ⟨x, rfl, hl, hm, by simpa using hz, hcell, hwz⟩⟩

set_option maxRecDepth 100000 in
theorem blk_of_trodL {fuel : Nat} {cs : List Value} {y : DataW H × List MemPlace} (hl : cs.length = 3) (h : DataW.trod enc Try.prog W 0 (fun _ => true) true fuel 130 cs = some y) :
    ∃ b : Blk, cs = [.int .i64 b.1, .bool b.2.1, .bool b.2.2] := by
  obtain ⟨y0, y1, y2, n, _, _, h0, h1, h2⟩ := Go.Deep.trod_struct3 Try.underlying130 h
  match cs, hl with
  | [v0, v1, v2], _ =>
    have hb : Try.prog.cellsOf 4 = 1 := by kernel_rfl
    simp only [cells_intL, hb, List.drop_zero, List.take_succ_cons, List.take_zero, List.drop_succ_cons] at h0 h1 h2
    have r0 : ∃ k, v0 = .int .i64 k := by
      cases n with
      | zero => simp [DataW.trod] at h0
      | succ n => cases v0 <;> simp [DataW.trod, Try.underlying3] at h0 <;> simp_all
    have r1 : ∃ k, v1 = .bool k := by
      cases n with
      | zero => simp [DataW.trod] at h1
      | succ n => cases v1 <;> simp [DataW.trod, Try.underlying4] at h1 <;> simp_all
    have r2 : ∃ k, v2 = .bool k := by
      cases n with
      | zero => simp [DataW.trod] at h2
      | succ n => cases v2 <;> simp [DataW.trod, Try.underlying4] at h2 <;> simp_all
    obtain ⟨k, rfl⟩ := r0
    obtain ⟨i, rfl⟩ := r1
    obtain ⟨o, rfl⟩ := r2
    exact ⟨(k, i, o), rfl⟩

set_option maxRecDepth 100000 in
theorem blks_of_trod {fuel : Nat} {v : Value} {y : DataW H × List MemPlace} (h : DataW.trod enc Try.prog W 0 (fun _ => true) true fuel 55 [v] = some y) :
    ∃ (a : Option Addr) (n c : Nat), v = .slice a n c ∧ IsBlksK W a n c := by
  have hc3 : Try.prog.cellsOf 130 = 3 := by kernel_rfl
  rcases Go.Deep.open_slice Try.underlying55 h with ⟨hcs, _⟩ | ⟨x, l, c, m, n, D, Pl, hcs, _, hl, hm, hmm, _, hi⟩
  · simp only [List.cons.injEq, and_true] at hcs
    exact ⟨none, 0, 0, hcs, .inl ⟨rfl, rfl, rfl⟩⟩
  · simp only [List.cons.injEq, and_true] at hcs
    obtain rfl : m = c := by simpa using hmm
    rw [hc3] at hi
    have each : ∀ i, i < m → ∃ b : Blk, W.cell? (x.add (i * 3)) = some (.int .i64 b.1) ∧ W.cell? (x.add (i * 3 + 1)) = some (.bool b.2.1) ∧ W.cell? (x.add (i * 3 + 2)) = some (.bool b.2.2) := by
      intro i him
      obtain ⟨cs', h1, h2⟩ := hi i him
      obtain ⟨_, hlen, hcell⟩ := World.cells?_some h1
      obtain ⟨b, rfl⟩ := blk_of_trodL hlen h2
      have e0 := hcell 0 (by omega)
      have e1 := hcell 1 (by omega)
      have e2 := hcell 2 (by omega)
      rw [Go.Deep.add_add] at e0 e1 e2
      exact ⟨b, by simpa using e0, by simpa using e1, by simpa using e2⟩
    obtain ⟨f, hf⟩ := Go.Deep.choose_lt each
    have hg : ∀ i, i < m → ((List.range m).map f).getD i nb = f i := fun i hi => by simp [hi]
    refine ⟨some x, l, m, hcs, .inr ⟨x, (List.range m).map f, rfl, hl, hm, by simp, fun q hq => ?_⟩⟩
    have him : q / 3 < m := by omega
    obtain ⟨e0, e1, e2⟩ := hf (q / 3) him
    have hd : q = q / 3 * 3 ∨ q = q / 3 * 3 + 1 ∨ q = q / 3 * 3 + 2 := by omega
    rcases hd with hd | hd | hd
    · rw [hd, bkF0, hg _ him]; exact e0
    · rw [hd, bkF1, hg _ him]; exact e1
    · rw [hd, bkF2, hg _ him]; exact e2

set_option maxRecDepth 100000 in
theorem open_line {v : Value} {d : DataW H} {p : List MemPlace} {b0 : Nat} (hv : Value.okWide Try.prog W .any b0 57 v) (h : DataW.Trod enc Try.prog W 0 (fun _ => true) true 57 v d p) : IsLineK W v := by
  obtain ⟨v0, v1, y0, y1, n, rfl, rfl, rfl, h0, h1⟩ := Go.Joins.open_agg2 Try.underlying57 (by kernel_rfl) (by kernel_rfl) hv h
  obtain ⟨a1, n1, c1, rfl, r1⟩ := blks_of_trod h0
  obtain ⟨a2, n2, c2, z2, rfl, r2⟩ := row_of_trodL h1
  exact ⟨a1, n1, c1, a2, n2, c2, z2, rfl, r1, r2⟩

end

end Go.Proofs.Ytpofkfcjnhoamaa
