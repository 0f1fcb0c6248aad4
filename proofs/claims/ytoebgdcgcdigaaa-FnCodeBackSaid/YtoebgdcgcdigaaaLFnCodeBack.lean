/-
  For every input the law 'FnCodeBack' returns true, and each of its arguments reads behind the call as it read before. Conditions: none beyond those of the row.
-/
import Derived.Test.YtoebgdcgcdigaaaRows
import Derived.WalkKit
import Derived.ProofKit
import Derived.OpenShut
import Derived.ShutString
import Derived.ChangeOld
import Derived.Below
import Derived.Deep.Matrix
import Derived.Test.YtoebgdcgcdigaaaIo
import Derived.Test.YtoebgdcgcdigaaaBacks
import Derived.Test.YtoebgdcgcdigaaaStrs
import Derived.Test.YtoebgdcgcdigaaaSumP
import Derived.Test.YtoebgdcgcdigaaaDraws3
import Derived.Test.YtoebgdcgcdigaaaSameL
namespace Go.Proofs.Ytoebgdcgcdigaaa
open Go.RowKit

theorem sumL_from (a : Int) (xs : List Int) : xs.foldl (· + ·) a = a + sumL xs := by
  unfold sumL
  induction xs generalizing a with
  | nil => show a = a + 0; omega
  | cons x xs ih =>
    show xs.foldl (· + ·) (a + x) = a + xs.foldl (· + ·) (0 + x)
    rw [ih (a + x), ih (0 + x)]
    omega
theorem sumL_reverse (xs : List Int) : sumL xs.reverse = sumL xs := by
  induction xs with
  | nil => rfl
  | cons x xs ih =>
    have e : sumL (xs.reverse ++ [x]) = sumL xs.reverse + x := by unfold sumL; rw [List.foldl_append]; rfl
    have e2 : sumL (x :: xs) = 0 + x + sumL xs := sumL_from (0 + x) xs
    rw [List.reverse_cons, e, ih, e2]
    omega
theorem groupsB_reverse (xs : List Int) (lo hi : Int) : groupsB xs.reverse lo hi = groupsB xs lo hi := by
  unfold groupsB okGroups
  rw [List.all_reverse, List.length_reverse]

set_option maxHeartbeats 400000 in
theorem drawBackC {w : World} {a : Option Addr} {len cap : Nat} {zs : List Int} (h : IsRowK .u8 w a len cap zs) (hl : len ≤ 1048576) :
    Calls Try.prog 18 #[.slice a len cap] w (DrawnInts w) := by
  have OP := Lib.hid (openRd h hl)
  clear h
  go_enter Try.func18, Try.ntmps18
  go_wp2_with (go_at_call 53; refine OP.out.mono ?_)
  rintro e w1 ⟨g, rfl, hg, hr, b1⟩
  have DC := Lib.hid (drawCode hr (by omega))
  clear hr OP
  go_wp2_with (go_at_call 54; refine DC.out.mono ?_)
  rintro e w2 ⟨v, xs, p', rfl, o2, hl6, hr2, hp2, g2⟩
  have I2 := Lib.hid (o2.ints (by omega))
  have B2 := Lib.hid (b1.grown g2 b1.size (fun b hb => by simp only [Option.some.injEq] at hb; omega))
  clear o2 hr2 g2 b1
  go_wp2_with fail
  go_ret
  exact ⟨v, xs, rfl, I2.out, hl6, B2.out⟩

set_option maxRecDepth 100000 in
set_option maxHeartbeats 4000000 in
theorem walk_FnCodeBack (a0 : Option Addr) (len0 cap0 : Nat) (z0 : List Int) (w : World) (w0 : IsRowK .u8 w a0 len0 cap0 z0) :
    Calls Try.prog 4 #[.slice a0 len0 cap0] w fun e w' => e = .returned (.bool true) ∧ Below w.heap.size w w' := by
  rcases Nat.lt_or_ge 1048576 len0 with hbig | hsm
  · have hb : (1048576 : Int) < (len0 : Int) := by omega
    go_enter Try.func4, Try.ntmps4
    go_wp2_with fail
    go_ret
    exact ⟨rfl, Below.refl _ _⟩
  have hb : (len0 : Int) ≤ 1048576 := by omega
  have DS := Lib.hid (drawBackC w0 hsm)
  clear w0
  go_enter Try.func4, Try.ntmps4
  go_wp2_with (go_at_call 18; refine DS.out.mono ?_)
  rintro e w1 ⟨v, xs, rfl, hv, hl6, b1⟩
  have HV := Lib.hid hv
  have B1 := Lib.hid b1
  have hyl := backOf_length xs
  have GI := Lib.hid (implBack hv)
  have GS := Lib.hid (fun (X : World) (hX : Below w1.heap.size w1 X) => specBack (hv.below hX))
  obtain ⟨av, cv, rfl, -, -⟩ := hv
  clear DS b1
  go_wp2_with (go_at_call 19; refine GI.out.mono ?_)
  rintro e w2 ⟨v2, rfl, o2, b2⟩
  obtain ⟨a2, c2, rfl⟩ := own_slice o2
  have D2 := Lib.hid b2
  have I2 := Lib.hid (o2.ints (by omega))
  clear o2 b2 GI
  go_wp2_with (go_at_call 20; refine (GS.out _ D2.out).mono ?_)
  rintro e w3 ⟨v3, rfl, o3, b3⟩
  obtain ⟨a3, c3, rfl⟩ := own_slice o3
  have D3 := Lib.hid (D2.out.trans (b3.mono D2.out.size))
  have I3 := Lib.hid (o3.ints (by omega))
  have I2 := Lib.hid (I2.out.below b3)
  have SI := fun (X : World) (hX : Below w3.heap.size w3 X) => sameInts (I2.out.below hX) (I3.out.below hX)
  rw [decide_eq_true rfl] at SI
  have SI := Lib.hid SI
  clear o3 b3 GS
  obtain ⟨t, ht⟩ : ∃ t, t = groupsB xs 1 5 := ⟨_, rfl⟩
  have HT := Lib.hid ht
  rw [← ht]
  clear ht
  go_wp2_with (go_at_call 21; refine (SI.out _ (Below.refl _ _)).mono ?_)
  rintro e w4 ⟨rfl, b4⟩
  have B4 := Lib.hid b4
  have D4 := Lib.hid (D3.out.trans (b4.mono D3.out.size))
  clear b4
  cases t
  · go_wp2_with (go_at_call 21; refine (SI.out _ B4.out).mono ?_)
    rintro e w5 ⟨rfl, b5⟩
    have CE := Lib.hid (B1.out.trans ((D4.out.trans (b5.mono D4.out.size)).mono B1.out.size))
    clear b5
    go_wp2_with fail
    go_ret
    exact ⟨rfl, CE.out⟩
  have hg : groupsB xs 1 5 = true := HT.out.symm
  have hys : backOf xs = xs.reverse := by unfold backOf; rw [hg]; rfl
  have hg2 : groupsB (backOf xs) 1 5 = true := by rw [hys, groupsB_reverse]; exact hg
  have hbb : backOf (backOf xs) = xs := by unfold backOf; rw [hg]; simp only [if_true]; rw [groupsB_reverse, hg]; simp
  have hbt : beatsOf (backOf xs) = beatsOf xs := by unfold beatsOf; rw [hg2, hg, hys, sumL_reverse]
  have hll : (backOf xs).length = xs.length := by rw [hys, List.length_reverse]
  have I4 := Lib.hid (I2.out.below B4.out)
  have GB := implBack I4.out
  rw [hbb, hg2] at GB
  have BT1 := fun (X : World) (hX : Below w4.heap.size w4 X) => implBeats (I4.out.below hX)
  rw [hbt] at BT1
  have BT2 := fun (X : World) (hX : Below w1.heap.size w1 X) => implBeats (HV.out.below hX)
  generalize beatsOf xs = bt at BT1 BT2
  have GB := Lib.hid GB
  have BT1 := Lib.hid BT1
  have BT2 := Lib.hid BT2
  have hee : ((xs.length : Int) == (xs.length : Int)) = true := by simp
  have hbe : (bt == bt) = true := by simp
  rw [hll] at GB BT1
  rw [hll]
  clear hys hg hg2 hbb hbt hyl hll
  go_wp2_with (go_at_call 19; refine GB.out.mono ?_)
  rintro e w5 ⟨v5, rfl, o5, b5⟩
  obtain ⟨a5, c5, rfl⟩ := own_slice o5
  have D5 := Lib.hid (D4.out.trans (b5.mono D4.out.size))
  have B5 := Lib.hid b5
  have S5 := sameInts (o5.ints (by omega)) (HV.out.below D5.out)
  rw [decide_eq_true rfl] at S5
  have S5 := Lib.hid S5
  clear o5 b5
  go_wp2_with (go_at_call 21; refine S5.out.mono ?_)
  rintro e w6 ⟨rfl, b6⟩
  have D6 := Lib.hid (D5.out.trans (b6.mono D5.out.size))
  have B6 := Lib.hid (B5.out.trans (b6.mono B5.out.size))
  clear b6
  go_wp2_with (go_at_call 16; refine (BT1.out _ B6.out).mono ?_)
  rintro e w7 ⟨rfl, b7⟩
  have D7 := Lib.hid (D6.out.trans (b7.mono D6.out.size))
  clear b7
  go_wp2_with (go_at_call 16; refine (BT2.out _ D7.out).mono ?_)
  rintro e w8 ⟨rfl, b8⟩
  have CF := Lib.hid (B1.out.trans ((D7.out.trans (b8.mono D7.out.size)).mono B1.out.size))
  clear b8
  go_wp2_with fail
  go_ret
  exact ⟨rfl, CF.out⟩

end Go.Proofs.Ytoebgdcgcdigaaa

namespace Go.Proofs.Ytoebgdcgcdigaaa.fnCodeBack
open Go.ChangeShapes Go.WideShapes Go.ChangeAt Go.RowKit
open Go.ChangeMaps (open_string shut_string)
set_option linter.unusedVariables false

theorem own : ownKnob Try.prog.godebug = none := by kernel_rfl
theorem laidOut : laidOutB Try.prog = true := by kernel_rfl

set_option maxRecDepth 100000 in
theorem lifted (os : Os) (started : os.Started) (H : Type) (enc : TypeId × Value → H) :
    ReturnsInHanded {} Try.checked os 4 .any (Rows.fnCodeBackSpec.pre6 enc Try.prog Try.f4 Rows.fnCodeBackRow.domain false) (Rows.fnCodeBackSpec.post enc Try.prog Try.f4 false true false false) := by
  refine returnsInHanded_of_change (C := Try.checked) own started (by kernel_rfl) Try.func4
    (ChangeSpec.witness6 (enc := enc) (C := Try.checked) false ⟨#[], #[.slice none 0 0], []⟩ 8 (by kernel_rfl) (by kernel_rfl) (by kernel_rfl) (by kernel_rfl)) ?_
  intro W base args ds gs before hval0 hW hcnd _
  have hval : ∀ (j : Nat) t v, Try.f4.params[j]? = some t → args[j]? = some v → Value.okWide Try.prog W .any base t v := hval0
  have hW' := hW
  obtain ⟨p, q, hA0, hV, rfl, hfz, hnd⟩ := hW
  have hA : DataW.TrodAll enc Try.prog W 0 (fun _ => true) true Try.f4.params.toList args.toList ds p := hA0
  rw [Try.params4] at hA hval
  obtain ⟨v0, vs0, d0, ds0, p0, q0, hargs, rfl, rfl, h0, r0⟩ := trodAll_cons hA
  obtain ⟨rfl, rfl, rfl⟩ := trodAll_nil r0
  obtain rfl : args = #[v0] := by cases args; simp_all
  obtain ⟨rfl, rfl⟩ := trodVars_none hV
  obtain ⟨a0, len0, cap0, rfl⟩ := okWide_slice Try.underlying22 (hval 0 22 v0 rfl rfl)
  have k0 := h0
  have lt0 : ∀ x ∈ p0, x.block < W.heap.size := by obtain ⟨m, hm⟩ := k0; exact DataW.trod_lt m _ _ _ hm
  obtain ⟨z0, w0⟩ : ∃ zs, IsRowK .u8 W a0 len0 cap0 zs := by
    obtain ⟨fuel, hf⟩ := h0
    rcases open_ints Try.underlying22 Try.underlying5 (by kernel_rfl) hf with ⟨hcs, _⟩ | ⟨x, l, c, zs, hcs, _, hl, hm, hz, _, hcell, hwz⟩
    · simp [Value.cells] at hcs
      obtain ⟨rfl, rfl, rfl⟩ := hcs
      exact ⟨[], .inl ⟨rfl, rfl, rfl, rfl⟩⟩
    · simp [Value.cells] at hcs
      obtain ⟨rfl, rfl, rfl⟩ := hcs
      exact ⟨zs, .inr ⟨_, rfl, hl, hm, by simpa using hz, hcell, hwz⟩⟩
  clear hA0 hval0
  refine (walk_FnCodeBack a0 len0 cap0 z0 W w0).mono fun e W' ⟨he, bel⟩ => ?_
  subst he
  exact ⟨_, rfl, _, _, _, [], _, [], hW', trodAll_mk1 (shut_bool Try.underlying4 _), (trodAll_cons_mk (Below.trod laidOut (by kernel_rfl) (of_decide_eq_true (by kernel_rfl)) k0 bel lt0) trodAll_mk0), rfl, bel.frame _, fun h => by cases h⟩

theorem closed : joinedFacts Try.checked.prog 4 Try.f4 Rows.fnCodeBackSpec Rows.fnCodeBackRow = true := by
  unfold joinedFacts
  simp only [Bool.and_eq_true]
  repeat' (refine And.intro ?_ ?_)
  all_goals first
    | with_reducible exact may_enter
    | (rw [lifts_final]; kernel_rfl)
    | (rw [make_is]; kernel_rfl)
    | kernel_rfl

theorem over : Rows.fnCodeBackRow.holds Try.pinned (OpenSpec.ofChange Rows.fnCodeBackSpec) :=
  OpenClaim.holds_of_wide 4 Try.f4 rfl rfl rfl rfl rfl rfl rfl ⟨rfl, rfl, rfl, rfl, rfl⟩ rfl rfl rfl rfl rfl (by kernel_rfl) Try.func4 closed
    (of_decide_eq_true (by kernel_rfl)) (by unfold Func.isWrapper; first | (rw [if_pos (by decide +kernel)]; kernel_rfl) | (rw [if_neg (by decide +kernel)]; exact ⟨rfl, rfl⟩))
    (fun os started H enc _ => lifted os started H enc)

theorem proved : Rows.FnCodeBackSaid := over
#print axioms proved
end Go.Proofs.Ytoebgdcgcdigaaa.fnCodeBack
