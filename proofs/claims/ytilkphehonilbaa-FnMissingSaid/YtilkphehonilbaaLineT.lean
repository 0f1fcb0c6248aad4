/-
  The letters of one section of a list of moves, by the program and by the model. For at most 1048576 moves of as many bytes together.
-/
import Derived.Test.YtilkphehonilbaaMvsL
import Derived.Test.YtilkphehonilbaaBuilder
import Derived.Test.YtilkphehonilbaaShelf
import Derived.Deep.DeepCutAuto
import Derived.Deep.RegionWith
namespace Go.Proofs.Ytilkphehonilbaa
open Go.RowKit

/-- The letters of a section among the first j moves. -/
def lnTx (ms : List Mv) (k : Int) : Nat → ByteArray
  | 0 => ⟨#[]⟩
  | j + 1 => if (ms.getD j noMv).1 = k then lnTx ms k j ++ (ms.getD j noMv).2 else lnTx ms k j
theorem lnTx_size (ms : List Mv) (k : Int) (j : Nat) : ((lnTx ms k j).size : Int) ≤ sumS ms j := by
  induction j with
  | zero => exact Int.le_refl _
  | succ j ih =>
    simp only [lnTx, sumS]
    split
    · rw [ByteArray.size_append]; omega
    · omega
theorem lnTx_yes {ms : List Mv} {k : Int} {j : Nat} (h : (ms.getD j noMv).1 = k) : lnTx ms k (j + 1) = lnTx ms k j ++ (ms.getD j noMv).2 := by simp only [lnTx, if_pos h]
theorem lnTx_no {ms : List Mv} {k : Int} {j : Nat} (h : ¬ (ms.getD j noMv).1 = k) : lnTx ms k (j + 1) = lnTx ms k j := by simp only [lnTx, if_neg h]

set_option maxHeartbeats 2000000 in
set_option maxRecDepth 100000 in
theorem writeString (B b : Nat) (l : List UInt8) (s : ByteArray) (w : World) (h : Lib.IsBuilderF 72 5 B b (Lib.byteCells l) w) (hlen : l.length + s.size ≤ 140737488355328) (hBw : B ≤ w.heap.size) :
    Calls Try.prog 42 #[.pointer (some ⟨b, 0, none⟩), .string s] w fun e w' => e = .returned (.tuple #[.int .i64 s.size, .nilIface]) ∧ Lib.IsBuilderF 72 5 B b (Lib.byteCells (l ++ s.data.toList)) w' ∧ Below B w w' := by
  obtain ⟨i0, hi, hz0, hz1, hz2⟩ := info_parts info_byte
  have AP := Lib.hid (show Lib.byteCells l ++ Lib.strCells s = Lib.byteCells (l ++ s.data.toList) by rw [Lib.byteCells_append]; rfl)
  go_enter Try.func42, Try.ntmps42
  go_wp2_with (go_at_call 50; refine (copyCheck B b _ _ h).mono ?_)
  rintro e w1 ⟨rfl, h1, hb1, _⟩
  obtain ⟨hB, v, hbk, hown, hne⟩ := h1
  have c0 : w1.cell? ⟨b, 0, none⟩ = some (.pointer (some ⟨b, 0, none⟩)) := by rw [Lib.cell_of_heap hbk]; rfl
  have c1 : w1.cell? ⟨b, 1, none⟩ = some v := by rw [Lib.cell_of_heap hbk]; rfl
  go_wp2_with (at_builtin; refine Lib.wpList_append_own_stringF _ rfl _ _ 22 9 rfl B 5 i0 Try.underlying22 Try.underlying9 hi hz0 hz1 hz2 _ _ _ rfl hown s rfl ?c3 ?c4 ?c5 ?_)
  case c3 => rw [Lib.byteCells_length]; unfold maxLen; omega
  case c4 => rw [Lib.byteCells_length]; omega
  case c5 => have := hb1.size; omega
  intro v' w2 hown' hgrow _
  have hlt : b < w1.heap.size := (Array.getElem?_eq_some_iff.1 hbk).1
  have hb2 : w2.heap[b]? = some (.cells #[.pointer (some ⟨b, 0, none⟩), v] 72 (0, 0)) := by
    rw [hgrow.block b hlt (fun e => hne e.symm)]
    exact hbk
  have d0 : w2.cell? ⟨b, 0, none⟩ = some (.pointer (some ⟨b, 0, none⟩)) := by rw [Lib.cell_of_heap hb2]; rfl
  have d1 : w2.cell? ⟨b, 1, none⟩ = some v := by rw [Lib.cell_of_heap hb2]; rfl
  have f1 : w2.frozen? ⟨b, 1, none⟩ = false := Lib.frozen_of_heap hb2 1
  obtain ⟨ao, n', cap, rfl⟩ : ∃ ao n' cap, v' = .slice ao n' cap := by
    rcases hown'.2 with ⟨hv, _⟩ | ⟨g, cap, cur, fz, hv, _⟩
    · exact ⟨_, _, _, hv⟩
    · exact ⟨_, _, _, hv⟩
  have PUT := Lib.hid (Lib.BuilderAtF.put (T := 72) (e := 5) hB hb2 (bs' := Lib.byteCells (l ++ s.data.toList)) (by rw [← AP.out, List.length_append, Lib.strCells_length]; exact hown') (by decide))
  have BB := Lib.hid ((hb1.grown hgrow (by have := hb1.size; omega) (fun k hk => (hown.lt k hk).1)).setCell (p := ⟨b, 1, none⟩) hB (.slice ao n' cap))
  clear hown' hgrow hown hbk
  go_wp2
  go_ret2
  exact ⟨rfl, .inr PUT.out, BB.out⟩

end Go.Proofs.Ytilkphehonilbaa
