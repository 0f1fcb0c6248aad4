/-
  What the program does with linked notes: their text, their list, those up to a minute, all but one. For registers.
-/
import Derived.Test.YtphadofigcipcaaRegI
import Derived.Test.YtphadofigcipcaaLineT
import Derived.Test.YtphadofigcipcaaNtsL
import Derived.Test.YtphadofigcipcaaLawC
import Derived.Test.YtphadofigcipcaaPairB
import Derived.Deep.RegionWith
import Derived.Deep.RegionHeld3
import Derived.BigQuiet
namespace Go.Proofs.Ytphadofigcipcaa
open Go.RowKit

theorem drop_get {ns : List Mv} {j : Nat} (h : j < ns.length) : ns.drop j = ns.getD j noMv :: ns.drop (j + 1) := by
  rw [List.drop_eq_getElem_cons h]
  simp [h]
theorem bl_size (S : ByteArray) : S.data.toList.length = S.size := by rw [Array.length_toList]; rfl

set_option maxHeartbeats 2000000 in
theorem implText {w : World} {p : Value} {ns : List Mv} (h : Chain w p ns) (hr : regB ns = true) :
    Calls Try.prog 75 #[p] w fun e w' => e = .returned (.string (nTx ns)) ∧ Below w.heap.size w w' := by
  have h30 := (regB_is hr).1
  have hfresh := Lib.IsBuilderF.of (Lib.fresh_isBuilder 99 5 w)
  have SZ := Lib.hid (fun j (hj : j ≤ ns.length) => show (ntx ns j).data.toList.length = j from by rw [bl_size, reg_size hr hj])
  have SX := Lib.hid (fun i (hi : i < ns.length) => evB_size (reg_note hr hi).2.2)
  have H := Lib.hid h
  clear h
  go_enter Try.func75, Try.ntmps75
  go_wp2_with fail
  go_loopw [0] (fun q wr => ∃ j : Nat, j ≤ ns.length ∧ Hid (Chain w q (ns.drop j)) ∧ Hid (Lib.IsBuilderF 99 5 w.heap.size w.heap.size (Lib.byteCells (ntx ns j).data.toList) wr) ∧ Below w.heap.size w wr) (fun q _ => left w q)
  case atStart => exact ⟨0, by omega, H, Lib.hid hfresh, (Below.refl _ w).alloc (Nat.le_refl _) _⟩
  case round =>
    obtain ⟨j, hj, HC, HI, hbel⟩ := hrel
    have hc := HC.out
    have ML := Lib.hid (left_eq hc)
    by_cases hlt : j < ns.length
    · rw [drop_get hlt] at hc
      obtain ⟨b, q', rfl, hb, k0, k1, k2, hn⟩ := hc.cells
      have k1 := (hbel.cell (p := ⟨b, 1, none⟩) hb).trans k1
      have k2 := (hbel.cell (p := ⟨b, 2, none⟩) hb).trans k2
      have hs1 := SX.out j hlt
      have EX := Lib.hid (show ntx ns (j + 1) = ntx ns j ++ (ns.getD j noMv).2 from rfl)
      obtain ⟨x, hx⟩ : ∃ x, x = (ns.getD j noMv).2 := ⟨_, rfl⟩
      rw [← hx] at k1 hs1 EX
      have WS := Lib.hid (writeString w.heap.size w.heap.size (ntx ns j).data.toList x wr HI.out (by have := SZ.out j hj; omega) hbel.size)
      have HN := Lib.hid hn
      have B0 := Lib.hid hb
      clear hx k0 hc hn
      go_wp2_with (go_at_call 79; refine WS.out.mono ?_; rintro e w2 ⟨rfl, i2, b2⟩; have k3 := (b2.cell (p := ⟨b, 2, none⟩) B0.out).trans k2)
      go_roundw
      case rel => exact ⟨j + 1, by omega, HN, Lib.hid (by rw [EX.out, ByteArray.data_append, Array.toList_append]; exact i2), hbel.trans b2⟩
      case measure => rw [ML.out, left_eq HN.out, List.length_drop, List.length_drop]; omega
    · obtain rfl : j = ns.length := by omega
      rw [List.drop_length] at hc
      have hq : _ = Value.pointer none := hc
      subst hq
      have ST := Lib.hid (Try.Builder_String_any_k w.heap.size w.heap.size (ntx ns ns.length).data.toList wr HI.out hbel.size)
      clear HC ML
      go_wp2_with (go_at_call 80; refine ST.out.mono ?_; rintro e w2 ⟨rfl, _, b2, _⟩)
      go_ret
      exact ⟨ret_str (by simp [nTx]), hbel.trans b2⟩

theorem lit_two_n (U : World) (x y : Value) (t : TypeId) : ∀ (j : Nat) (u : Value), [x, y][j]? = some u → (U.alloc (.cells #[x, y] t)).cell? ((⟨U.heap.size, 0, none⟩ : Addr).add j) = some u := by
  intro j u hu
  have p := Pair.new U x y t
  match j, hu with
  | 0, hu => simp at hu; subst hu; rw [Addr.add_lit]; exact p.cell0
  | 1, hu => simp at hu; subst hu; rw [Addr.add_lit]; exact p.cell1
  | j + 2, hu => simp at hu
set_option maxHeartbeats 4000000 in
theorem nts_more {w : World} {base : Nat} {v : Value} {ms : List Mv} {m : Mv} (h : w.ownsRow base 29 2 v (ms.length + 1) ((List.range (ms.length * 2)).map (mvF ms) ++ [.int .i64 m.1, .string m.2])) : OwnN w base v (ms ++ [m]) := by
  unfold OwnN Ow
  rw [mvF_append, List.length_append]
  exact h
theorem take_more {ns : List Mv} {j : Nat} (h : j < ns.length) : ns.take (j + 1) = ns.take j ++ [ns.getD j noMv] := by
  rw [List.take_add_one]
  simp [h]

set_option maxHeartbeats 2000000 in
theorem implNotes {w : World} {p : Value} {ns : List Mv} (h : Chain w p ns) (hl : ns.length ≤ 1048576) : Calls Try.prog 66 #[p] w (MadeNts w ns) := by
  obtain ⟨i0, hi, hz0, hz1, hz2⟩ := info_parts info_note
  have q0 := below_alloc w (.cells #[] 29)
  have o0 := ow_empty w 29 2 (mvF [])
  obtain ⟨W, hW⟩ : ∃ W, W = w.alloc (.cells #[] 29) := ⟨_, rfl⟩
  rw [← hW] at q0 o0
  have HW := Lib.hid hW
  have Q0 := Lib.hid q0
  have O0 := Lib.hid (show OwnN W w.heap.size _ [] from o0)
  have H := Lib.hid h
  clear hW q0 o0 h
  go_enter Try.func66, Try.ntmps66
  go_wp2_with fail
  rw [← HW.out]
  go_loopw [0, 3] (fun q v wr => ∃ j : Nat, j ≤ ns.length ∧ Hid (Chain w q (ns.drop j)) ∧ Hid (OwnN wr w.heap.size v (ns.take j)) ∧ Hid (Below w.heap.size w wr)) (fun q _ _ => left w q)
  case atStart => exact ⟨0, by omega, H, O0, Q0⟩
  case round =>
    obtain ⟨j, hj, HC, HO, HB⟩ := hrel
    have hc := HC.out
    have ML := Lib.hid (left_eq hc)
    by_cases hlt : j < ns.length
    · rw [drop_get hlt] at hc
      obtain ⟨b, q', rfl, hb, k0, k1, k2, hn⟩ := hc.cells
      obtain ⟨V, hV⟩ : ∃ V, V = wr := ⟨_, rfl⟩
      have k0 := (HB.out.cell (p := ⟨b, 0, none⟩) hb).trans k0
      have k1 := (HB.out.cell (p := ⟨b, 1, none⟩) hb).trans k1
      have k2 := (HB.out.cell (p := ⟨b, 2, none⟩) hb).trans k2
      have TM := Lib.hid (take_more hlt)
      obtain ⟨x, hx⟩ : ∃ x, x = ns.getD j noMv := ⟨_, rfl⟩
      rw [← hx] at k0 k1 TM
      have HN := Lib.hid hn
      have B0 := Lib.hid hb
      obtain ⟨ms, hms⟩ : ∃ ms, ms = ns.take j := ⟨_, rfl⟩
      rw [← hms] at HO TM
      have hml : ms.length ≤ 1048576 := by rw [hms, List.length_take]; omega
      obtain ⟨av, cv, rfl⟩ := Ow.slice HO.out
      obtain ⟨n, hn'⟩ : ∃ n, n = ms.length := ⟨_, rfl⟩
      have hnl : n ≤ 1048576 := by omega
      have NN := Lib.hid hn'
      have own := Ow.below HO.out (below_alloc wr (.cells #[.int .i64 x.1, .string x.2] 29))
      unfold Ow at own
      obtain ⟨XS, hXS⟩ : ∃ XS, XS = (List.range (ms.length * 2)).map (mvF ms) := ⟨_, rfl⟩
      rw [← hXS, ← hn'] at own
      have XSH := Lib.hid hXS
      have LT := Lib.hid (fun g hg => (Ow.under HO.out g hg).1)
      rw [← hn'] at LT ⊢
      clear hx hc hn hms hXS hn' hml hV
      go_wp2_with (at_builtin; refine wpList_append_own _ rfl _ _ 23 rfl w.heap.size 29 i0 (.agg #[.int .i64 0, .string ⟨#[]⟩]) 2 24 Try.underlying23 hi hz0 hz1 hz2 rfl (by decide) _ _ _ rfl own ⟨wr.heap.size, 0, none⟩ 1 1 [.int .i64 x.1, .string x.2] rfl rfl ?c1 ?c2 ?c3 ?c4 ?c5 ?_)
      case c1 => exact lit_two_n _ _ _ _
      case c2 => intro u hu; simp at hu; rcases hu with rfl | rfl <;> rfl
      case c3 => simp only [maxLen]; omega
      case c4 => omega
      case c5 => have := HB.out.size; simp; omega
      intro v' w5 hown' hgrow _
      have B5 := Lib.hid (((HB.out.trans ((below_alloc wr (.cells #[.int .i64 x.1, .string x.2] 29)).mono HB.out.size))).grown hgrow (Nat.le_trans HB.out.size (by simp)) LT.out)
      have O5 := Lib.hid (show OwnN w5 w.heap.size v' (ns.take (j + 1)) by
        rw [TM.out]
        refine nts_more ?_
        rw [← XSH.out, ← NN.out]
        exact hown')
      have k3 := (B5.out.cell (p := ⟨b, 2, none⟩) B0.out).trans ((HB.out.cell (p := ⟨b, 2, none⟩) B0.out).symm.trans k2)
      obtain ⟨av', cv', rfl⟩ := Ow.slice O5.out
      clear hown' hgrow
      go_wp2_with fail
      go_roundw
      case rel => exact ⟨j + 1, by omega, HN, O5, B5⟩
      case measure => rw [ML.out, left_eq HN.out, List.length_drop, List.length_drop]; omega
    · obtain rfl : j = ns.length := by omega
      rw [List.drop_length] at hc
      have hq : _ = Value.pointer none := hc
      subst hq
      have O := HO.out
      rw [List.take_length] at O
      have OO := Lib.hid O
      clear HC ML O
      go_wp2_with fail
      go_ret
      exact ⟨_, rfl, OO.out, HB.out⟩

end Go.Proofs.Ytphadofigcipcaa
