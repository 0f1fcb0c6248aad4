/-
  What the program does with linked notes: their text, their list, those up to a minute, all but one. For registers.
-/
import Derived.Test.YtilkphehonilbaaRegI
import Derived.Test.YtilkphehonilbaaLineT
import Derived.Test.YtilkphehonilbaaNtsL
import Derived.Test.YtilkphehonilbaaLawC
import Derived.Test.YtilkphehonilbaaPairB
import Derived.Deep.RegionWith
import Derived.Deep.RegionHeld3
import Derived.BigQuiet
namespace Go.Proofs.Ytilkphehonilbaa
open Go.RowKit

theorem drop_get {ns : List Mv} {j : Nat} (h : j < ns.length) : ns.drop j = ns.getD j noMv :: ns.drop (j + 1) := by
  rw [List.drop_eq_getElem_cons h]
  simp [h]
theorem bl_size (S : ByteArray) : S.data.toList.length = S.size := by rw [Array.length_toList]; rfl

set_option maxHeartbeats 2000000 in
theorem implText {w : World} {p : Value} {ns : List Mv} (h : Chain w p ns) (hr : regB ns = true) :
    Calls Try.prog 29 #[p] w fun e w' => e = .returned (.string (nTx ns)) ∧ Below w.heap.size w w' := by
  have h30 := (regB_is hr).1
  have hfresh := Lib.IsBuilderF.of (Lib.fresh_isBuilder 72 5 w)
  have SZ := Lib.hid (fun j (hj : j ≤ ns.length) => show (ntx ns j).data.toList.length = j from by rw [bl_size, reg_size hr hj])
  have SX := Lib.hid (fun i (hi : i < ns.length) => evB_size (reg_note hr hi).2.2)
  have H := Lib.hid h
  clear h
  go_enter Try.func29, Try.ntmps29
  go_wp2_with fail
  go_loopw [0] (fun q wr => ∃ j : Nat, j ≤ ns.length ∧ Hid (Chain w q (ns.drop j)) ∧ Hid (Lib.IsBuilderF 72 5 w.heap.size w.heap.size (Lib.byteCells (ntx ns j).data.toList) wr) ∧ Below w.heap.size w wr) (fun q _ => left w q)
  case atStart => exact ⟨0, by omega, H, Lib.hid hfresh, (Below.refl _ w).alloc (Nat.le_refl _) _⟩
  case round =>
    obtain ⟨j, hj, HC, HI, hbel⟩ := hrel
    have hc := HC.out
    have ML := Lib.hid (left_eq hc)
    by_cases hlt : j < ns.length
    · rw [drop_get hlt] at hc
      obtain ⟨b, q', rfl, hb, k0, k1, k2, hn⟩ := hc.cells
      have k1 := (hbel.cell (p := ⟨b, 1, none⟩) hb).trans k1
      have k2 := (hbel.cell (p := ⟨b, 2, none⟩) hb).trans k2
      have hs1 := SX.out j hlt
      have EX := Lib.hid (show ntx ns (j + 1) = ntx ns j ++ (ns.getD j noMv).2 from rfl)
      obtain ⟨x, hx⟩ : ∃ x, x = (ns.getD j noMv).2 := ⟨_, rfl⟩
      rw [← hx] at k1 hs1 EX
      have WS := Lib.hid (writeString w.heap.size w.heap.size (ntx ns j).data.toList x wr HI.out (by have := SZ.out j hj; omega) hbel.size)
      have HN := Lib.hid hn
      have B0 := Lib.hid hb
      clear hx k0 hc hn
      go_wp2_with (go_at_call 42; refine WS.out.mono ?_; rintro e w2 ⟨rfl, i2, b2⟩; have k3 := (b2.cell (p := ⟨b, 2, none⟩) B0.out).trans k2)
      go_roundw
      case rel => exact ⟨j + 1, by omega, HN, Lib.hid (by rw [EX.out, ByteArray.data_append, Array.toList_append]; exact i2), hbel.trans b2⟩
      case measure => rw [ML.out, left_eq HN.out, List.length_drop, List.length_drop]; omega
    · obtain rfl : j = ns.length := by omega
      rw [List.drop_length] at hc
      have hq : _ = Value.pointer none := hc
      subst hq
      have ST := Lib.hid (Try.Builder_String_any_k w.heap.size w.heap.size (ntx ns ns.length).data.toList wr HI.out hbel.size)
      clear HC ML
      go_wp2_with (go_at_call 43; refine ST.out.mono ?_; rintro e w2 ⟨rfl, _, b2, _⟩)
      go_ret
      exact ⟨ret_str (by simp [nTx]), hbel.trans b2⟩

theorem lit_two_n (U : World) (x y : Value) (t : TypeId) : ∀ (j : Nat) (u : Value), [x, y][j]? = some u → (U.alloc (.cells #[x, y] t)).cell? ((⟨U.heap.size, 0, none⟩ : Addr).add j) = some u := by
  intro j u hu
  have p := Pair.new U x y t
  match j, hu with
  | 0, hu => simp at hu; subst hu; rw [Addr.add_lit]; exact p.cell0
  | 1, hu => simp at hu; subst hu; rw [Addr.add_lit]; exact p.cell1
  | j + 2, hu => simp at hu
set_option maxHeartbeats 4000000 in
theorem nts_more {w : World} {base : Nat} {v : Value} {ms : List Mv} {m : Mv} (h : w.ownsRow base 42 2 v (ms.length + 1) ((List.range (ms.length * 2)).map (mvF ms) ++ [.int .i64 m.1, .string m.2])) : OwnN w base v (ms ++ [m]) := by
  unfold OwnN Ow
  rw [mvF_append, List.length_append]
  exact h
theorem take_more {ns : List Mv} {j : Nat} (h : j < ns.length) : ns.take (j + 1) = ns.take j ++ [ns.getD j noMv] := by
  rw [List.take_add_one]
  simp [h]

end Go.Proofs.Ytilkphehonilbaa
