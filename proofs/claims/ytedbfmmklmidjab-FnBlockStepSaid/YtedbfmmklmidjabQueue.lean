/-
  A queue of blocks: a slice of the call's own, from which the first element is taken, and behind which others are put. No condition; no walk.
-/
import Derived.Test.YtedbfmmklmidjabMapB
import Derived.Test.YtedbfmmklmidjabBlockD
import Derived.ArgAppend
import Derived.Deep.Upon
import Derived.Laws.Slices
namespace Go.Proofs.Ytedbfmmklmidjab
open Go.RowKit

def cellsB (i : Nat) : List Value := [.int .i64 (bkAt i).1, .bool (bkAt i).2.1, .bool (bkAt i).2.2]
def cellsOf : List Nat → List Value
  | [] => []
  | i :: l => cellsB i ++ cellsOf l
theorem cellsOf_length (l : List Nat) : (cellsOf l).length = l.length * 3 := by
  induction l with
  | nil => rfl
  | cons i l ih => simp only [cellsOf, List.length_append, ih, List.length_cons, cellsB, List.length_nil]; omega
theorem cellsOf_append (l r : List Nat) : cellsOf (l ++ r) = cellsOf l ++ cellsOf r := by
  induction l with
  | nil => rfl
  | cons i l ih => simp [cellsOf, ih]
theorem cellsOf_one (i : Nat) : cellsOf [i] = cellsB i := by simp [cellsOf]
theorem cellsOf_plain (l : List Nat) : ∀ u ∈ cellsOf l, u.oneCell' = true := by
  induction l with
  | nil => simp [cellsOf]
  | cons i l ih =>
    intro u hu
    simp only [cellsOf, List.mem_append] at hu
    rcases hu with hu | hu
    · simp only [cellsB, List.mem_cons, List.not_mem_nil, or_false] at hu
      rcases hu with rfl | rfl | rfl <;> rfl
    · exact ih u hu

/-- A block of cells. -/
def CellsAt (w : World) (g : Nat) : Prop := ∃ cs, w.heap[g]? = some (.cells cs 25 (0, 0))
theorem CellsAt.setCell {w : World} {g : Nat} (h : CellsAt w g) (b o : Nat) (v : Value) : CellsAt (w.setCell ⟨b, o, none⟩ v) g := by
  by_cases e : g = b
  · subst e
    obtain ⟨cs, h⟩ := h
    exact ⟨cs.setIfInBounds o v, by simp [World.setCell, Array.getElem?_modify, h]⟩
  · obtain ⟨cs, h⟩ := h
    exact ⟨cs, (Go.Deep.blk_setCell_other _ _ _ _ e).trans h⟩
theorem CellsAt.setCells {g : Nat} (b : Nat) : ∀ (vs : List Value) (o : Nat) (w : World), CellsAt w g → CellsAt (w.setCells b o vs) g
  | [], _, _, h => h
  | v :: r, o, _, h => CellsAt.setCells b r (o + 1) _ (h.setCell b o v)
theorem CellsAt.not_iter {w : World} {g K pos : Nat} {s : ByteArray} (h : CellsAt w g) (hk : w.heap[K]? = some (.stringIter s pos)) : g ≠ K := by
  rintro rfl
  obtain ⟨cs, h⟩ := h
  rw [hk] at h
  cases h

/-- The value v is a queue of the blocks l in block g, which lies from base on and is not E. -/
def QueAt (w : World) (g base E : Nat) (v : Value) (l : List Nat) : Prop :=
  ∃ o cap, v = .slice (some ⟨g, o, none⟩) l.length cap ∧ (l.length ≤ cap ∧ cap ≤ maxLen) ∧ (base ≤ g ∧ g < w.heap.size ∧ g ≠ E ∧ CellsAt w g) ∧
    (∀ j u, (cellsOf l)[j]? = some u → w.cell? ⟨g, o + j, none⟩ = some u) ∧ ∀ j, j < cap * 3 → (w.cell? ⟨g, o + j, none⟩).isSome = true ∧ w.frozen? ⟨g, o + j, none⟩ = false

theorem QueAt.lt {w : World} {g base E : Nat} {v : Value} {l : List Nat} (h : QueAt w g base E v l) : base ≤ g ∧ g < w.heap.size ∧ g ≠ E ∧ CellsAt w g := by
  obtain ⟨o, cap, _, _, h, _⟩ := h; exact h
theorem QueAt.kept {w w' : World} {g base E : Nat} {v : Value} {l : List Nat} {row : Option Nat} (h : QueAt w g base E v l) (hg : w.grownBy w' row) (hne : some g ≠ row) : QueAt w' g base E v l := by
  obtain ⟨o, cap, hv, hc, hl, hcell, hsp⟩ := h
  have hb := hg.block g hl.2.1 hne
  exact ⟨o, cap, hv, hc, ⟨hl.1, Nat.lt_of_lt_of_le hl.2.1 hg.size, hl.2.2.1, let ⟨cs, e⟩ := hl.2.2.2; ⟨cs, hb.trans e⟩⟩, fun j u hu => (World.cell?_of_block (a := ⟨g, o + j, none⟩) hb).trans (hcell j u hu),
    fun j hj => ⟨by rw [World.cell?_of_block (a := ⟨g, o + j, none⟩) hb]; exact (hsp j hj).1, by rw [World.frozen?_of_block (a := ⟨g, o + j, none⟩) hb]; exact (hsp j hj).2⟩⟩
theorem QueAt.avoid {w : World} {g base E E' : Nat} {v : Value} {l : List Nat} (h : QueAt w g base E v l) (hE : w.heap.size ≤ E') : QueAt w g base E' v l := by
  obtain ⟨o, cap, hv, hc, hl, r⟩ := h
  exact ⟨o, cap, hv, hc, ⟨hl.1, hl.2.1, by omega, hl.2.2.2⟩, r⟩
theorem QueAt.other {w : World} {g base E E' : Nat} {v : Value} {l : List Nat} (h : QueAt w g base E v l) (hE : E' < base) : QueAt w g base E' v l := by
  obtain ⟨o, cap, hv, hc, hl, r⟩ := h
  exact ⟨o, cap, hv, hc, ⟨hl.1, hl.2.1, by omega, hl.2.2.2⟩, r⟩
theorem QueAt.shape {w : World} {g base E : Nat} {v : Value} {l : List Nat} (h : QueAt w g base E v l) : ∃ o cap, v = .slice (some ⟨g, o, none⟩) l.length cap := by
  obtain ⟨o, cap, hv, _⟩ := h; exact ⟨o, cap, hv⟩

theorem QueAt.new {w : World} {N base E i : Nat} (hN : Tri3 w N (.int .i64 (bkAt i).1) (.bool (bkAt i).2.1) (.bool (bkAt i).2.2) 25) (hb : base ≤ N) (hE : N ≠ E) : QueAt w N base E (.slice (some ⟨N, 0, none⟩) 1 1) [i] := by
  refine ⟨0, 1, rfl, ⟨by simp, by simp [maxLen]⟩, ⟨hb, hN.lt, hE, ⟨_, hN⟩⟩, fun j u hu => ?_, fun j hj => ?_⟩
  · rw [cellsOf_one] at hu
    have hj3 : j < 3 := by
      rcases Nat.lt_or_ge j 3 with q | q
      · exact q
      · rw [List.getElem?_eq_none (by simpa [cellsB] using q)] at hu; cases hu
    rw [Nat.zero_add]
    match j, hj3 with
    | 0, _ => rw [hN.cell0]; exact hu
    | 1, _ => rw [hN.cell1]; exact hu
    | 2, _ => rw [hN.cell2]; exact hu
  · rw [Nat.zero_add]
    refine ⟨?_, hN.frozen j⟩
    match j, hj with
    | 0, _ => rw [hN.cell0]; rfl
    | 1, _ => rw [hN.cell1]; rfl
    | 2, _ => rw [hN.cell2]; rfl
theorem QueAt.head {w : World} {g base E o n cap e : Nat} {qu : List Nat} (h : QueAt w g base E (.slice (some ⟨g, o, none⟩) n cap) (e :: qu)) :
    w.cell? ⟨g, o, none⟩ = some (.int .i64 (bkAt e).1) ∧ w.cell? ⟨g, o + 1, none⟩ = some (.bool (bkAt e).2.1) ∧ w.cell? ⟨g, o + 2, none⟩ = some (.bool (bkAt e).2.2) := by
  obtain ⟨o', cap', hv, _, _, hcell, _⟩ := h
  simp only [Value.slice.injEq, Option.some.injEq, Addr.mk.injEq, and_true, true_and] at hv
  obtain ⟨rfl, _, rfl⟩ := hv
  exact ⟨hcell 0 _ rfl, hcell 1 _ rfl, hcell 2 _ rfl⟩

theorem size_block (w : World) : (sizeOf 25).run Try.prog w = .ok 3 w := by kernel_rfl

theorem elem_block : Try.prog.elem 55 = 25 := by kernel_rfl

/-- 'queue[1:]'. -/
theorem QueAt.pop {w : World} {g base E e : Nat} {v : Value} {qu : List Nat} (h : QueAt w g base E v (e :: qu)) :
    ∃ v', (∀ W : World, (Instr.slice 55 v (some (.int .i64 1)) none none).run Try.prog W = .ok v' W) ∧ QueAt w g base E v' qu := by
  obtain ⟨o, cap, rfl, hc, hl, hcell, hsp⟩ := h
  have hu := Try.underlying55
  simp only [List.length_cons] at hc
  have hrun : ∀ W : World, (Instr.slice 55 (.slice (some ⟨g, o, none⟩) (qu.length + 1) cap) (some (.int .i64 1)) none none).run Try.prog W = .ok (sliced (some ⟨g, o, none⟩) 1 (qu.length + 1) cap 3) W := by
    intro W
    rw [run_slice_l (P := Try.prog) W 55 (some ⟨g, o, none⟩) (qu.length + 1) cap (by rw [elem_block]; exact hu) .i64 1 (by omega) (by omega), elem_block, size_block]
    rfl
  refine ⟨_, hrun, ?_⟩
  by_cases h1 : cap = 1
  · subst h1
    have hq : qu = [] := List.eq_nil_of_length_eq_zero (by omega)
    subst hq
    refine ⟨o, 0, by simp [sliced], ⟨by simp, by simp [maxLen]⟩, hl, fun j u hu => by simp [cellsOf] at hu, fun j hj => by omega⟩
  · refine ⟨o + 3, cap - 1, ?_, ⟨by omega, by omega⟩, hl, fun j u hu => ?_, fun j hj => ?_⟩
    · have : ¬ cap = 1 := h1
      simp [sliced, this, Addr.add]
    · have := hcell (3 + j) u (by simp only [cellsOf]; rw [List.getElem?_append_right (by simp [cellsB])]; simpa [cellsB] using hu)
      rw [← Nat.add_assoc] at this
      exact this
    · have := hsp (3 + j) (by omega)
      rw [← Nat.add_assoc] at this
      exact this

theorem info_block : (Try.prog.info? 25).map (fun i => (i.zero, i.size, i.bytes)) = some (some (.agg #[.int .i64 0, .bool false, .bool false]), 3, 16) := by kernel_rfl

theorem grown_setCell (w : World) (g o : Nat) (v : Value) : w.grownBy (w.setCell ⟨g, o, none⟩ v) (some g) :=
  ⟨rfl, rfl, rfl, by simp [World.setCell], fun k _ hne => Go.Deep.blk_setCell_other _ _ _ _ (fun e => hne (by rw [e]))⟩
theorem grown_setCells (g : Nat) : ∀ (vs : List Value) (o : Nat) (w : World), w.grownBy (w.setCells g o vs) (some g)
  | [], _, w => World.grownBy.refl w _
  | v :: r, o, w => grown_trans (grown_setCell w g o v) (grown_setCells g r (o + 1) _)

theorem QueAt.push {w : World} {g base E i N : Nat} {v : Value} {l : List Nat} (h : QueAt w g base E v l) (hl : l.length ≤ 100) (hN : Tri3 w N (.int .i64 (bkAt i).1) (.bool (bkAt i).2.1) (.bool (bkAt i).2.2) 25) (hE : E < w.heap.size) (ty : TypeId) :
    ∃ v' g' w', (Builtin.append_ #[55, 55] ty #[v, .slice (some ⟨N, 0, none⟩) 1 1]).run Try.prog w = .ok v' w' ∧ QueAt w' g' base E v' (l ++ [i]) ∧ w.grownBy w' (some g) := by
  obtain ⟨o, cap, rfl, hc, hg, hcell, hsp⟩ := h
  obtain ⟨inf, hi, hz⟩ := Option.map_eq_some_iff.1 info_block
  simp only [Prod.mk.injEq] at hz
  obtain ⟨hz0, hz1, hz2⟩ := hz
  have hu := Try.underlying55
  have hnl : (cellsB i).length = 1 * inf.size := by rw [hz1]; rfl
  have hnews : ∀ j u, (cellsB i)[j]? = some u → w.cell? ((⟨N, 0, none⟩ : Addr).add j) = some u := by
    intro j u hj
    have hj3 : j < 3 := by
      rcases Nat.lt_or_ge j 3 with q | q
      · exact q
      · rw [List.getElem?_eq_none (by simpa [cellsB] using q)] at hj; cases hj
    have ea : (⟨N, 0, none⟩ : Addr).add j = ⟨N, j, none⟩ := by unfold Addr.add; split <;> simp_all
    rw [ea]
    match j, hj3 with
    | 0, _ => rw [hN.cell0]; exact hj
    | 1, _ => rw [hN.cell1]; exact hj
    | 2, _ => rw [hN.cell2]; exact hj
  have hplain : ∀ u ∈ cellsB i, u.oneCell' = true := by rw [← cellsOf_one]; exact cellsOf_plain _
  by_cases hr : l.length + 1 ≤ cap
  · have hrun := run_append_room_cells (P := Try.prog) w 55 ty 25 inf hu hi g o l.length cap ⟨N, 0, none⟩ 1 1 (cellsB i) hnl hnews hplain hr
      (fun j hj => by rw [hz1, Nat.add_assoc]; exact (hsp _ (by simp [cellsB] at hj; omega)).1) (fun j hj => by rw [hz1, Nat.add_assoc]; exact (hsp _ (by simp [cellsB] at hj; omega)).2)
    rw [hz1] at hrun
    have hin : ∀ j, j < (cellsB i).length → (w.cell? ⟨g, o + l.length * 3 + j, none⟩).isSome = true := fun j hj => by rw [Nat.add_assoc]; exact (hsp _ (by simp [cellsB] at hj; omega)).1
    have hcl : (cellsB i).length = 3 := rfl
    refine ⟨_, g, _, hrun, ⟨o, cap, by simp, ⟨by simpa using hr, hc.2⟩, ⟨hg.1, ?_, hg.2.2.1, CellsAt.setCells g _ _ _ hg.2.2.2⟩, fun j u hj => ?_, fun j hj => ?_⟩, grown_setCells g _ _ w⟩
    · exact Nat.lt_of_lt_of_le hg.2.1 (grown_setCells g _ _ w).size
    · rw [cellsOf_append, cellsOf_one] at hj
      by_cases q : j < l.length * 3
      · rw [List.getElem?_append_left (by rw [cellsOf_length]; exact q)] at hj
        rw [World.cell?_setCells_out g _ _ _ _ (fun _ _ => Or.inl (by show o + j < o + l.length * 3; omega))]
        exact hcell j u hj
      · rw [List.getElem?_append_right (by rw [cellsOf_length]; omega), cellsOf_length] at hj
        have hlt : j - l.length * 3 < (cellsB i).length := (List.getElem?_eq_some_iff.1 hj).1
        have := World.cell?_setCells_in g (cellsB i) (o + l.length * 3) w hin (j - l.length * 3) hlt
        rw [show o + l.length * 3 + (j - l.length * 3) = o + j by omega] at this
        rw [this]
        exact hj ▸ (List.getElem?_eq_getElem hlt).symm
    · refine ⟨?_, by rw [World.frozen?_setCells]; exact (hsp j hj).2⟩
      by_cases q : l.length * 3 ≤ j ∧ j < l.length * 3 + 3
      · have := World.cell?_setCells_in g (cellsB i) (o + l.length * 3) w hin (j - l.length * 3) (by rw [hcl]; omega)
        rw [show o + l.length * 3 + (j - l.length * 3) = o + j by omega] at this
        rw [this]; rfl
      · rw [World.cell?_setCells_out g _ _ _ _ (fun _ _ => by show o + j < o + l.length * 3 ∨ o + l.length * 3 + 3 ≤ o + j; omega)]
        exact (hsp j hj).1
  · obtain ⟨v', w', hrun, hown, hgr⟩ := run_append_arg_grows (P := Try.prog) w 55 ty 25 inf _ 3 16 hu hi hz0 hz1 hz2 rfl (by decide) ⟨g, o, none⟩ l.length cap (cellsOf l) (cellsOf_length l) (fun j u hj => by rw [Addr.add_lit]; exact hcell j u hj) ⟨N, 0, none⟩ 1 1 (cellsB i) (by rfl) hnews (by omega) (by unfold maxLen; omega) (by omega)
    rcases hown.2 with ⟨_, h0⟩ | ⟨G, cap', cur, rfl, hb, hG, hnc, hm, hsz, htk⟩
    · omega
    · have hGlt := (Array.getElem?_eq_some_iff.1 hG).1
      refine ⟨_, G, w', hrun, ⟨0, cap', by simp, ⟨by simpa using hnc, hm⟩, ⟨by omega, hGlt, by omega, ⟨cur, hG⟩⟩, fun j u hj => ?_, fun j hj => ?_⟩, hgr.but _⟩
      · rw [cellsOf_append, cellsOf_one, ← htk] at hj
        have hjl : j < (l.length + 1) * 3 := by
          have := (List.getElem?_eq_some_iff.1 hj).1
          rw [List.length_take] at this
          omega
        rw [List.getElem?_take, if_pos hjl] at hj
        simp only [World.cell?, hG, Nat.zero_add]
        simpa using hj
      · have hlt : j < cur.size := by omega
        simp [World.cell?, World.frozen?, hG, hlt]

end Go.Proofs.Ytedbfmmklmidjab
