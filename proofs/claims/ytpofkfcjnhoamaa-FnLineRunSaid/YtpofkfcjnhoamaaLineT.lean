/-
  The letters of one section of a list of moves, by the program and by the model. For at most 1048576 moves of as many bytes together.
-/
import Derived.Test.YtpofkfcjnhoamaaMvsL
import Derived.Test.YtpofkfcjnhoamaaBuilder
import Derived.Test.YtpofkfcjnhoamaaShelf
import Derived.Deep.DeepCutAuto
import Derived.Deep.RegionWith
namespace Go.Proofs.Ytpofkfcjnhoamaa
open Go.RowKit

/-- The letters of a section among the first j moves. -/
def lnTx (ms : List Mv) (k : Int) : Nat → ByteArray
  | 0 => ⟨#[]⟩
  | j + 1 => if (ms.getD j noMv).1 = k then lnTx ms k j ++ (ms.getD j noMv).2 else lnTx ms k j
theorem lnTx_size (ms : List Mv) (k : Int) (j : Nat) : ((lnTx ms k j).size : Int) ≤ sumS ms j := by
  induction j with
  | zero => exact Int.le_refl _
  | succ j ih =>
    simp only [lnTx, sumS]
    split
    · rw [ByteArray.size_append]; omega
    · omega
theorem lnTx_yes {ms : List Mv} {k : Int} {j : Nat} (h : (ms.getD j noMv).1 = k) : lnTx ms k (j + 1) = lnTx ms k j ++ (ms.getD j noMv).2 := by simp only [lnTx, if_pos h]
theorem lnTx_no {ms : List Mv} {k : Int} {j : Nat} (h : ¬ (ms.getD j noMv).1 = k) : lnTx ms k (j + 1) = lnTx ms k j := by simp only [lnTx, if_neg h]

set_option maxHeartbeats 2000000 in
set_option maxRecDepth 100000 in
theorem writeString (B b : Nat) (l : List UInt8) (s : ByteArray) (w : World) (h : Lib.IsBuilderF 83 5 B b (Lib.byteCells l) w) (hlen : l.length + s.size ≤ 140737488355328) (hBw : B ≤ w.heap.size) :
    Calls Try.prog 56 #[.pointer (some ⟨b, 0, none⟩), .string s] w fun e w' => e = .returned (.tuple #[.int .i64 s.size, .nilIface]) ∧ Lib.IsBuilderF 83 5 B b (Lib.byteCells (l ++ s.data.toList)) w' ∧ Below B w w' := by
  obtain ⟨i0, hi, hz0, hz1, hz2⟩ := info_parts info_byte
  have AP := Lib.hid (show Lib.byteCells l ++ Lib.strCells s = Lib.byteCells (l ++ s.data.toList) by rw [Lib.byteCells_append]; rfl)
  go_enter Try.func56, Try.ntmps56
  go_wp2_with (go_at_call 82; refine (copyCheck B b _ _ h).mono ?_)
  rintro e w1 ⟨rfl, h1, hb1, _⟩
  obtain ⟨hB, v, hbk, hown, hne⟩ := h1
  have c0 : w1.cell? ⟨b, 0, none⟩ = some (.pointer (some ⟨b, 0, none⟩)) := by rw [Lib.cell_of_heap hbk]; rfl
  have c1 : w1.cell? ⟨b, 1, none⟩ = some v := by rw [Lib.cell_of_heap hbk]; rfl
  go_wp2_with (at_builtin; refine Lib.wpList_append_own_stringF _ rfl _ _ 22 9 rfl B 5 i0 Try.underlying22 Try.underlying9 hi hz0 hz1 hz2 _ _ _ rfl hown s rfl ?c3 ?c4 ?c5 ?_)
  case c3 => rw [Lib.byteCells_length]; unfold maxLen; omega
  case c4 => rw [Lib.byteCells_length]; omega
  case c5 => have := hb1.size; omega
  intro v' w2 hown' hgrow _
  have hlt : b < w1.heap.size := (Array.getElem?_eq_some_iff.1 hbk).1
  have hb2 : w2.heap[b]? = some (.cells #[.pointer (some ⟨b, 0, none⟩), v] 83 (0, 0)) := by
    rw [hgrow.block b hlt (fun e => hne e.symm)]
    exact hbk
  have d0 : w2.cell? ⟨b, 0, none⟩ = some (.pointer (some ⟨b, 0, none⟩)) := by rw [Lib.cell_of_heap hb2]; rfl
  have d1 : w2.cell? ⟨b, 1, none⟩ = some v := by rw [Lib.cell_of_heap hb2]; rfl
  have f1 : w2.frozen? ⟨b, 1, none⟩ = false := Lib.frozen_of_heap hb2 1
  obtain ⟨ao, n', cap, rfl⟩ : ∃ ao n' cap, v' = .slice ao n' cap := by
    rcases hown'.2 with ⟨hv, _⟩ | ⟨g, cap, cur, fz, hv, _⟩
    · exact ⟨_, _, _, hv⟩
    · exact ⟨_, _, _, hv⟩
  have PUT := Lib.hid (Lib.BuilderAtF.put (T := 83) (e := 5) hB hb2 (bs' := Lib.byteCells (l ++ s.data.toList)) (by rw [← AP.out, List.length_append, Lib.strCells_length]; exact hown') (by decide))
  have BB := Lib.hid ((hb1.grown hgrow (by have := hb1.size; omega) (fun k hk => (hown.lt k hk).1)).setCell (p := ⟨b, 1, none⟩) hB (.slice ao n' cap))
  clear hown' hgrow hown hbk
  go_wp2
  go_ret2
  exact ⟨rfl, .inr PUT.out, BB.out⟩

set_option maxHeartbeats 2000000 in
theorem implLineText {w : World} {v : Value} {ms : List Mv} (k : Int) (h : Mvs w v ms) (hs : sumS ms ms.length ≤ 1048576) :
    Calls Try.prog 25 #[v, .int .i64 k] w fun e w' => e = .returned (.string (lnTx ms k ms.length)) ∧ Below w.heap.size w w' := by
  obtain ⟨a, cap, rfl⟩ := Rd.slice h
  have hl := Rd.len h
  have hl' : (ms.length : Int) ≤ 1048576 := by omega
  have AT := Lib.hid (fun (i : Nat) (hi : i < ms.length) => Mvs.at h hi)
  have hfresh := Lib.IsBuilderF.of (Lib.fresh_isBuilder 83 5 w)
  have SZ := Lib.hid (fun j (hj : j ≤ ms.length) => show ((lnTx ms k j).data.toList.length : Int) ≤ 1048576 from by
    have h1 := lnTx_size ms k j
    have h2 := sumS_mono ms hj
    have h3 : (lnTx ms k j).data.toList.length = (lnTx ms k j).size := by simp only [Array.length_toList]; rfl
    omega)
  have SX := Lib.hid (fun i (hi : i < ms.length) => sumS_one ms hi)
  clear h hl
  go_enter Try.func25, Try.ntmps25
  go_wp2_with fail
  go_loopw [10] (fun i wr => ∃ j : Nat, j ≤ ms.length ∧ i = .int .i64 j ∧ Hid (Lib.IsBuilderF 83 5 w.heap.size w.heap.size (Lib.byteCells (lnTx ms k j).data.toList) wr) ∧ Below w.heap.size w wr) (fun i _ => ms.length - (intOf i).toNat)
  case atStart => exact ⟨0, by omega, rfl, Lib.hid hfresh, (Below.refl _ w).alloc (Nat.le_refl _) _⟩
  case round =>
    obtain ⟨j, hj, rfl, HI, hbel⟩ := hrel
    by_cases hlt : j < ms.length
    · obtain ⟨b, o, rfl, hb, hcell⟩ := AT.out j hlt
      obtain ⟨e0, e1⟩ := hcell j hlt
      have c0 := (hbel.cell (p := ⟨b, o + j * 2, none⟩) hb).trans e0
      have c1 : wr.cell? ⟨b, o + j * 2 + 1, none⟩ = _ := (hbel.cell (p := ⟨b, o + j * 2 + 1, none⟩) hb).trans e1
      have hji : (j : Int) < (ms.length : Int) := by omega
      have hxs := SX.out j hlt
      obtain ⟨x, hx⟩ : ∃ x, x = ms.getD j noMv := ⟨_, rfl⟩
      rw [← hx] at c0 c1 hxs
      have X := Lib.hid hx
      have p1 := Pair.new wr (.int .i64 x.1) (.string x.2) 40
      have q1 := hbel.alloc hbel.size (.cells #[.int .i64 x.1, .string x.2] 40)
      have HI2 := Lib.hid (HI.out.alloc (.cells #[.int .i64 x.1, .string x.2] 40))
      obtain ⟨V, hV⟩ : ∃ V, V = wr.alloc (.cells #[.int .i64 x.1, .string x.2] 40) := ⟨_, rfl⟩
      rw [← hV] at p1 q1 HI2
      have HV := Lib.hid hV.symm
      have V0 := p1.cell0
      have V1 := p1.cell1
      have Q1 := Lib.hid q1
      clear hx hV e0 e1 hcell hbel p1 q1
      go_upto_region 5 with fail
      rw [HV.out]
      by_cases e : x.1 = k
      · have E := Lib.hid (show lnTx ms k (j + 1) = lnTx ms k j ++ x.2 by rw [X.out]; exact lnTx_yes (by rw [← X.out]; exact e))
        have WS := Lib.hid (writeString w.heap.size w.heap.size (lnTx ms k j).data.toList x.2 V HI2.out (by have := SZ.out j hj; omega) Q1.out.size)
        have e' : decide (x.1 = k) = true := decide_eq_true e
        clear hxs
        go_wp2_with (go_at_call 56; refine WS.out.mono ?_; rintro e w2 ⟨rfl, i2, b2⟩)
        go_roundw
        case rel => exact ⟨j + 1, by omega, by go_num, Lib.hid (by rw [E.out, ByteArray.data_append, Array.toList_append]; exact i2), Q1.out.trans b2⟩
        case measure => simp [intOf]; omega
      · have E := Lib.hid (show lnTx ms k (j + 1) = lnTx ms k j from lnTx_no (by rw [← X.out]; exact e))
        go_wp2_with fail
        go_roundw
        case rel => exact ⟨j + 1, by omega, by go_num, Lib.hid (by rw [E.out]; exact HI2.out), Q1.out⟩
        case measure => simp [intOf]; omega
    · obtain rfl : j = ms.length := by omega
      have ST := Lib.hid (Try.Builder_String_any_k w.heap.size w.heap.size (lnTx ms k ms.length).data.toList wr HI.out hbel.size)
      go_wp2_with (go_at_call 57; refine ST.out.mono ?_; rintro e w2 ⟨rfl, _, b2, _⟩)
      go_ret
      exact ⟨ret_str (by simp), hbel.trans b2⟩

end Go.Proofs.Ytpofkfcjnhoamaa
