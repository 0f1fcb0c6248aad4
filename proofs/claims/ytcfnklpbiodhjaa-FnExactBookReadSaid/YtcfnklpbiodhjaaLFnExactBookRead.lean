/-
  For every input the law 'FnExactBookRead' returns true, and each of its arguments reads behind the call as it read before. Conditions: none beyond those of the row.
-/
import Derived.Test.YtcfnklpbiodhjaaRows
import Derived.WalkKit
import Derived.ProofKit
import Derived.OpenShut
import Derived.ShutString
import Derived.ChangeOld
import Derived.Below
import Derived.Deep.Matrix
import Derived.Test.YtcfnklpbiodhjaaBookArg
import Derived.Test.YtcfnklpbiodhjaaReadM
import Derived.Test.YtcfnklpbiodhjaaMarks
namespace Go.Proofs.Ytcfnklpbiodhjaa
open Go.RowKit

set_option maxHeartbeats 2000000 in
theorem walk_FnExactBookRead (a0 : Option Addr) (len0 cap0 : Nat) (a1 : Option Addr) (len1 cap1 : Nat) (z1 : List Int) (w : World) (w0 : IsRowsI w a0 len0 cap0) (w1 : IsRowK .i64 w a1 len1 cap1 z1) :
    Calls Try.prog 5 #[.slice a0 len0 cap0, .slice a1 len1 cap1] w fun e w' => e = .returned (.bool true) ∧ Below w.heap.size w w' := by
  rcases Nat.lt_or_ge 1048576 len1 with hbig | hsm1
  · have hb : (1048576 : Int) < (len1 : Int) := by omega
    go_enter Try.func5, Try.ntmps5
    go_wp2_with fail
    go_ret
    exact ⟨rfl, Below.refl _ _⟩
  have hb : (len1 : Int) ≤ 1048576 := by omega
  have k := ints_of_rowK w1 hsm1
  generalize z1.take len1 = xs at k
  have hxl := k.len
  clear w1 hsm1
  go_enter Try.func5, Try.ntmps5
  go_wp2_with (go_at_call 11; refine (szLists w0).mono ?_)
  rintro e w' ⟨n, rfl, hn, rfl⟩
  rcases Int.lt_or_le n 0 with hneg | hpos
  · go_wp2_with fail
    go_ret
    exact ⟨rfl, Below.refl _ _⟩
  · obtain ⟨hsm, hst⟩ := hn hpos
    obtain ⟨bk, h⟩ := lists_of_rows w0 hsm hst
    have hbl := h.len
    have hyl : (readOf bk xs).length ≤ 1048576 := readOf_length bk xs
    obtain ⟨ys, hys⟩ : ∃ ys, ys = readOf bk xs := ⟨_, rfl⟩
    obtain ⟨ok, hok⟩ : ∃ ok, ok = readB bk xs := ⟨_, rfl⟩
    have HS : ∀ (W : World) (u v : Value), Lists W u bk → Ints W v xs → Calls Try.prog 16 #[u, v] W (MadeIntsB W ys ok) := by intro W u v a b; rw [hys, hok]; exact specRead a b
    have HI : ∀ (W : World) (u v : Value), Lists W u bk → Ints W v xs → Calls Try.prog 17 #[u, v] W (MadeIntsB W ys ok) := by intro W u v a b; rw [hys, hok]; exact implRead a b
    rw [← hys] at hyl
    have hyl' : (ys.length : Int) ≤ 1048576 := by omega
    have HS' := Lib.hid HS
    have HI' := Lib.hid HI
    clear hn hst w0 hys hok HS HI
    go_wp2_with (go_at_call 12; refine (toLists h).mono ?_)
    rintro e w1 ⟨v1, rfl, o1, b1⟩
    go_wp2_with (go_at_call 13; refine (toInts (k.below b1)).mono ?_)
    rintro e w2 ⟨v2, rfl, o2, b2⟩
    have c2 := b1.trans (b2.mono b1.size)
    go_wp2_with (go_at_call 16; refine (HS'.out _ _ _ (o1.below b2).lists (o2.ints k.len)).mono ?_)
    rintro e w3 ⟨vw, rfl, ow, b3⟩
    have c3 := c2.trans (b3.mono c2.size)
    clear o1 o2
    go_wp2_with (go_at_call 12; refine (toLists (h.below c3)).mono ?_)
    rintro e w4 ⟨v4, rfl, o4, b4⟩
    have c4 := c3.trans (b4.mono c3.size)
    go_wp2_with (go_at_call 13; refine (toInts (k.below c4)).mono ?_)
    rintro e w5 ⟨v5, rfl, o5, b5⟩
    have c5 := c4.trans (b5.mono c4.size)
    go_wp2_with (go_at_call 17; refine (HI'.out _ _ _ (o4.below b5).lists (o5.ints k.len)).mono ?_)
    rintro e w6 ⟨vg, rfl, og, b6⟩
    have c6 := c5.trans (b6.mono c5.size)
    have d6 := b5.trans (b6.mono b5.size)
    have HW := Lib.hid (fun b (e : vw.ownBlock = some b) => show b < w3.heap.size ∨ w4.heap.size ≤ b from .inl (World.ownsRow.lt ow b e).2)
    have H5 := Lib.hid (fun b (e : v5.ownBlock = some b) => show b < w3.heap.size ∨ w4.heap.size ≤ b from .inr (World.ownsRow.lt o5 b e).1)
    have HG := Lib.hid (fun b (e : vg.ownBlock = some b) => show b < w3.heap.size ∨ w4.heap.size ≤ b from .inr (Nat.le_trans b5.size (World.ownsRow.lt og b e).1))
    have pw5 := apart ow b4.size o5
    have pwg := apart ow (Nat.le_trans b4.size b5.size) og
    have pg5 := apart' o5 (Nat.le_refl _) og
    have ow6 := (ow.below b4).below d6
    have o56 := o5.below b6
    clear ow o5
    go_wp2_with (go_at_call 15; refine (eqInts (og.ints hyl) (ow6.ints hyl)).mono ?_)
    rintro e w7 ⟨rfl, b7⟩
    have c7 := c6.trans (b7.mono c6.size)
    have d7 := d6.trans (b7.mono d6.size)
    have ow7 := ow6.below b7
    have o57 := o56.below b7
    have og7 := og.below b7
    go_wp2_with (go_at_call 12; refine (toLists (h.below c7)).mono ?_)
    rintro e w8 ⟨v8, rfl, o8, b8⟩
    have c8 := c7.trans (b8.mono c7.size)
    have d8 := d7.trans (b8.mono d7.size)
    go_wp2_with (go_at_call 14; refine (eqLists (o4.below d8).lists o8.lists).mono ?_)
    rintro e w9 ⟨rfl, b9⟩
    have c9 := c8.trans (b9.mono c8.size)
    have d9 := d8.trans (b9.mono d8.size)
    have o59 := (o57.below b8).below b9
    go_wp2_with (go_at_call 13; refine (toInts (k.below c9)).mono ?_)
    rintro e w10 ⟨v10, rfl, o10, b10⟩
    have c10 := c9.trans (b10.mono c9.size)
    have d10 := d9.trans (b10.mono d9.size)
    go_wp2_with (go_at_call 15; refine (eqInts ((o59.below b10).ints hxl) (o10.ints hxl)).mono ?_)
    rintro e w11 ⟨rfl, b11⟩
    have c11 := c10.trans (b11.mono c10.size)
    have d11 := d10.trans (b11.mono d10.size)
    have ow11 := (((ow7.below b8).below b9).below b10).below b11
    have og11 := (((og7.below b8).below b9).below b10).below b11
    have o511 := (o59.below b10).below b11
    have hM := markLists (k := 1) o4 d11 (by omega) (by omega)
    clear o4 o8 o10 o56 o57 o59 ow6 ow7 og og7 d6 d7 d8 d9 d10
    go_wp2_with (go_at_call 18; refine hM.mono ?_)
    rintro e w12 ⟨q, rfl, hq0, hq1, g12⟩
    have c12 := g12.below c11 c3.size
    have ow12 := ow11.keptIn g12 HW.out
    have og12 := og11.keptIn g12 HG.out
    have o512 := o511.keptIn g12 H5.out
    clear ow11 og11 o511 hM g12 d11
    go_wp2_with (go_at_call 19; refine (markInts o512 hxl (by omega) (by omega)).mono ?_)
    rintro e w13 ⟨rfl, o513, g13⟩
    have c13 := below_mark c12 o512 c4.size g13
    have ow13 := ow12.kept g13 pw5
    have og13 := og12.kept g13 pg5
    have hq2 : decide (q + (xs.length : Int) < 0) = false := by simp; omega
    clear ow12 og12 o512 o513 g13
    go_wp2_with (go_at_call 15; refine (eqInts (og13.ints hyl) (ow13.ints hyl)).mono ?_)
    rintro e w14 ⟨rfl, b14⟩
    have c14 := c13.trans (b14.mono c13.size)
    have ow14 := ow13.below b14
    have og14 := og13.below b14
    go_wp2_with (go_at_call 19; refine (markInts og14 hyl (by omega) (by omega)).mono ?_)
    rintro e w15 ⟨rfl, og15, g15⟩
    have c15 := below_mark c14 og14 c5.size g15
    have ow15 := ow14.kept g15 pwg
    clear ow13 og13 ow14 og14 g15
    go_wp2_with (go_at_call 20; refine (heldInts (og15.ints (by rw [marks_length]; exact hyl)) (marks_held 1 _) (by omega) (by omega)).mono ?_)
    rintro e w15' ⟨rfl, rfl⟩
    rw [marks_length]
    go_wp2_with (go_at_call 12; refine (toLists (h.below c15)).mono ?_)
    rintro e w16 ⟨v16, rfl, o16, b16⟩
    have c16 := c15.trans (b16.mono c15.size)
    go_wp2_with (go_at_call 13; refine (toInts (k.below c16)).mono ?_)
    rintro e w17 ⟨v17, rfl, o17, b17⟩
    have c17 := c16.trans (b17.mono c16.size)
    go_wp2_with (go_at_call 17; refine (HI'.out _ _ _ (o16.below b17).lists (o17.ints hxl)).mono ?_)
    rintro e w18 ⟨vh, rfl, oh, b18⟩
    have c18 := c17.trans (b18.mono c17.size)
    have ow18 := ((ow15.below b16).below b17).below b18
    have og18 := ((og15.below b16).below b17).below b18
    clear o16 o17 ow15 og15
    go_wp2_with (go_at_call 15; refine (eqInts (oh.ints hyl) (ow18.ints hyl)).mono ?_)
    rintro e w19 ⟨rfl, b19⟩
    have c19 := c18.trans (b19.mono c18.size)
    have og19 := og18.below b19
    go_wp2_with (go_at_call 20; refine (heldInts (og19.ints (by rw [marks_length]; exact hyl)) (marks_held 1 _) (by omega) (by omega)).mono ?_)
    rintro e w19' ⟨rfl, rfl⟩
    rw [marks_length]
    go_wp2_with fail
    go_ret
    exact ⟨rfl, c19⟩

end Go.Proofs.Ytcfnklpbiodhjaa

namespace Go.Proofs.Ytcfnklpbiodhjaa.fnExactBookRead
open Go.ChangeShapes Go.WideShapes Go.ChangeAt Go.RowKit
open Go.ChangeMaps (open_string shut_string)
set_option linter.unusedVariables false

theorem own : ownKnob Try.prog.godebug = none := by kernel_rfl
theorem laidOut : laidOutB Try.prog = true := by kernel_rfl

set_option maxRecDepth 100000 in
theorem lifted (os : Os) (started : os.Started) (H : Type) (enc : TypeId × Value → H) :
    ReturnsInHanded {} Try.checked os 5 .any (Rows.fnExactBookReadSpec.pre6 enc Try.prog Try.f5 Rows.fnExactBookReadRow.domain false) (Rows.fnExactBookReadSpec.post enc Try.prog Try.f5 false true false false) := by
  refine returnsInHanded_of_change (C := Try.checked) own started (by kernel_rfl) Try.func5
    (ChangeSpec.witness6 (enc := enc) (C := Try.checked) false ⟨#[], #[.slice none 0 0, .slice none 0 0], []⟩ 8 (by kernel_rfl) (by kernel_rfl) (by kernel_rfl) (by kernel_rfl)) ?_
  intro W base args ds gs before hval0 hW hcnd _
  have hval : ∀ (j : Nat) t v, Try.f5.params[j]? = some t → args[j]? = some v → Value.okWide Try.prog W .any base t v := hval0
  have hW' := hW
  obtain ⟨p, q, hA0, hV, rfl, hfz, hnd⟩ := hW
  have hA : DataW.TrodAll enc Try.prog W 0 (fun _ => true) true Try.f5.params.toList args.toList ds p := hA0
  rw [Try.params5] at hA hval
  obtain ⟨v0, vs0, d0, ds0, p0, q0, hargs, rfl, rfl, h0, r0⟩ := trodAll_cons hA
  obtain ⟨v1, vs1, d1, ds1, p1, q1, rfl, rfl, rfl, h1, r1⟩ := trodAll_cons r0
  obtain ⟨rfl, rfl, rfl⟩ := trodAll_nil r1
  obtain rfl : args = #[v0, v1] := by cases args; simp_all
  obtain ⟨rfl, rfl⟩ := trodVars_none hV
  obtain ⟨a0, len0, cap0, rfl⟩ := okWide_slice Try.underlying23 (hval 0 23 v0 rfl rfl)
  have k0 := h0
  have lt0 : ∀ x ∈ p0, x.block < W.heap.size := by obtain ⟨m, hm⟩ := k0; exact DataW.trod_lt m _ _ _ hm
  have w0 : IsRowsI W a0 len0 cap0 := by
    obtain ⟨fuel, hf⟩ := h0
    rcases Go.Deep.open_int_rows Try.underlying23 Try.underlying24 Try.underlying3 (by kernel_rfl) (by kernel_rfl) hf with ⟨hcs, _⟩ | ⟨x, l, c, A, L, C, Z, hcs, _, hl, hm, _, hr⟩
    · simp [Value.cells] at hcs
      obtain ⟨rfl, rfl, rfl⟩ := hcs
      exact .inl ⟨rfl, rfl, rfl⟩
    · simp [Value.cells] at hcs
      obtain ⟨rfl, rfl, rfl⟩ := hcs
      exact IsRowsI.mk hl hm (fun r hr' => ⟨(hr r hr').1, (hr r hr').2.1, (hr r hr').2.2.1, (hr r hr').2.2.2.1, (hr r hr').2.2.2.2.1, (hr r hr').2.2.2.2.2.1, fun a' ha c hc => ((hr r hr').2.2.2.2.2.2 a' ha).2 c hc⟩)
  obtain ⟨a1, len1, cap1, rfl⟩ := okWide_slice Try.underlying24 (hval 1 24 v1 rfl rfl)
  have k1 := h1
  have lt1 : ∀ x ∈ p1, x.block < W.heap.size := by obtain ⟨m, hm⟩ := k1; exact DataW.trod_lt m _ _ _ hm
  obtain ⟨z1, w1⟩ : ∃ zs, IsRowK .i64 W a1 len1 cap1 zs := by
    obtain ⟨fuel, hf⟩ := h1
    rcases open_ints Try.underlying24 Try.underlying3 (by kernel_rfl) hf with ⟨hcs, _⟩ | ⟨x, l, c, zs, hcs, _, hl, hm, hz, _, hcell, hwz⟩
    · simp [Value.cells] at hcs
      obtain ⟨rfl, rfl, rfl⟩ := hcs
      exact ⟨[], .inl ⟨rfl, rfl, rfl, rfl⟩⟩
    · simp [Value.cells] at hcs
      obtain ⟨rfl, rfl, rfl⟩ := hcs
      exact ⟨zs, .inr ⟨_, rfl, hl, hm, by simpa using hz, hcell, hwz⟩⟩
  clear hA0 hval0
  refine (walk_FnExactBookRead a0 len0 cap0 a1 len1 cap1 z1 W w0 w1).mono fun e W' ⟨he, bel⟩ => ?_
  subst he
  exact ⟨_, rfl, _, _, _, [], _, [], hW', trodAll_mk1 (shut_bool Try.underlying4 _), (trodAll_cons_mk (Below.trod laidOut (by kernel_rfl) (of_decide_eq_true (by kernel_rfl)) k0 bel lt0) (trodAll_cons_mk (Below.trod laidOut (by kernel_rfl) (of_decide_eq_true (by kernel_rfl)) k1 bel lt1) trodAll_mk0)), rfl, bel.frame _, fun h => by cases h⟩

theorem over : Rows.fnExactBookReadRow.holds Try.pinned (OpenSpec.ofChange Rows.fnExactBookReadSpec) :=
  OpenClaim.holds_of_wide 5 Try.f5 rfl rfl rfl rfl rfl rfl rfl ⟨rfl, rfl, rfl, rfl, rfl⟩ rfl rfl rfl rfl rfl (by kernel_rfl) Try.func5 (by kernel_rfl)
    (of_decide_eq_true (by kernel_rfl)) (by unfold Func.isWrapper; first | (rw [if_pos (by decide +kernel)]; kernel_rfl) | (rw [if_neg (by decide +kernel)]; exact ⟨rfl, rfl⟩))
    (fun os started H enc _ => lifted os started H enc)

theorem proved : Rows.FnExactBookReadSaid := over
#print axioms proved
end Go.Proofs.Ytcfnklpbiodhjaa.fnExactBookRead
