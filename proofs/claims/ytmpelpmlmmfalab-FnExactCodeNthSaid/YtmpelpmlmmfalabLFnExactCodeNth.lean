/-
  For every input the law 'FnExactCodeNth' returns true, and each of its arguments reads behind the call as it read before. Conditions: none beyond those of the row.
-/
import Derived.Test.YtmpelpmlmmfalabRows
import Derived.WalkKit
import Derived.ProofKit
import Derived.OpenShut
import Derived.ShutString
import Derived.ChangeOld
import Derived.Below
import Derived.Test.YtmpelpmlmmfalabNthW
namespace Go.Proofs.Ytmpelpmlmmfalab
open Go.RowKit

set_option maxHeartbeats 1000000 in
theorem walk_FnExactCodeNth (n r : Int) (_h : (Lit.int .i64 n).wf = true) (_k : (Lit.int .i64 r).wf = true) (w : World) :
    Calls Try.prog 3 #[.int .i64 n, .int .i64 r] w fun e w' => e = .returned (.bool true) ∧ Below w.heap.size w w' := by
  have hyl : (nthOf n r).length ≤ 1048576 := nthOf_length n r
  obtain ⟨ys, hys⟩ : ∃ ys, ys = nthOf n r := ⟨_, rfl⟩
  obtain ⟨ok, hok⟩ : ∃ ok, ok = nthOk n r := ⟨_, rfl⟩
  have HS : ∀ W : World, Calls Try.prog 10 #[.int .i64 n, .int .i64 r] W (MadeIntsB W ys ok) := by intro W; rw [hys, hok]; exact specNth n r W
  have HI : ∀ W : World, Calls Try.prog 11 #[.int .i64 n, .int .i64 r] W (MadeIntsB W ys ok) := by intro W; rw [hys, hok]; exact implNth n r W
  rw [← hys] at hyl
  clear hys hok
  have hyl' : (ys.length : Int) ≤ 1048576 := by omega
  go_enter Try.func3, Try.ntmps3
  go_wp2_with (go_at_call 10; refine (HS _).mono ?_)
  rintro e w1 ⟨vw, rfl, ow, b1⟩
  go_wp2_with (go_at_call 11; refine (HI _).mono ?_)
  rintro e w2 ⟨vg, rfl, og, b2⟩
  have c2 := b1.trans (b2.mono b1.size)
  have pwg := apart ow (Nat.le_refl _) og
  have ow2 := ow.below b2
  go_wp2_with (go_at_call 12; refine (eqInts (og.ints hyl) (ow2.ints hyl)).mono ?_)
  rintro e w3 ⟨rfl, b3⟩
  have c3 := c2.trans (b3.mono c2.size)
  have ow3 := ow2.below b3
  have og3 := og.below b3
  go_wp2_with (go_at_call 13; refine (markInts og3 hyl (by omega) (by omega)).mono ?_)
  rintro e w4 ⟨rfl, og4, g4⟩
  have c4 := below_mark c3 og3 b1.size g4
  have ow4 := ow3.kept g4 pwg
  go_wp2_with (go_at_call 14; refine (heldInts (og4.ints (by rw [marks_length]; exact hyl)) (marks_held 1 _) (by omega) (by omega)).mono ?_)
  rintro e w4' ⟨rfl, rfl⟩
  rw [marks_length]
  go_wp2_with (go_at_call 11; refine (HI _).mono ?_)
  rintro e w5 ⟨vh, rfl, oh, b5⟩
  have c5 := c4.trans (b5.mono c4.size)
  have ow5 := ow4.below b5
  have og5 := og4.below b5
  go_wp2_with (go_at_call 12; refine (eqInts (oh.ints hyl) (ow5.ints hyl)).mono ?_)
  rintro e w6 ⟨rfl, b6⟩
  have og6 := og5.below b6
  go_wp2_with (go_at_call 14; refine (heldInts (og6.ints (by rw [marks_length]; exact hyl)) (marks_held 1 _) (by omega) (by omega)).mono ?_)
  rintro e w6' ⟨rfl, rfl⟩
  rw [marks_length]
  go_wp2_with fail
  go_ret
  exact ⟨rfl, c5.trans (b6.mono c5.size)⟩

end Go.Proofs.Ytmpelpmlmmfalab

namespace Go.Proofs.Ytmpelpmlmmfalab.fnExactCodeNth
open Go.ChangeShapes Go.WideShapes Go.ChangeAt Go.RowKit
open Go.ChangeMaps (open_string shut_string)
set_option linter.unusedVariables false      -- a walk need not use every 'w<i>' (that an integer argument fits its kind)

theorem own : ownKnob Try.prog.godebug = none := by kernel_rfl

theorem walk (a0 : Int) (a1 : Int) (w0 : (Lit.int .i64 a0).wf = true) (w1 : (Lit.int .i64 a1).wf = true) (w : World) :
    Calls Try.prog 3 #[.int .i64 a0, .int .i64 a1] w fun e w' => e = .returned (.bool true) ∧ Below w.heap.size w w' := by
  exact @Go.Proofs.Ytmpelpmlmmfalab.walk_FnExactCodeNth a0 a1 w0 w1 w

set_option maxRecDepth 100000 in
theorem lifted (os : Os) (started : os.Started) (H : Type) (enc : TypeId × Value → H) :
    ReturnsInHanded {} Try.checked os 3 .any (Rows.fnExactCodeNthSpec.pre6 enc Try.prog Try.f3 Rows.fnExactCodeNthRow.domain false) (Rows.fnExactCodeNthSpec.post enc Try.prog Try.f3 false true false false) := by
  refine returnsInHanded_of_change (C := Try.checked) own started (by kernel_rfl) Try.func3
    (ChangeSpec.witness6 (enc := enc) (C := Try.checked) false ⟨#[], #[.int .i64 0, .int .i64 0], []⟩ 8 (by kernel_rfl) (by kernel_rfl) (by kernel_rfl) (by kernel_rfl)) ?_
  intro W base args ds gs before hval0 hW hcnd _
  have hval : ∀ (j : Nat) t v, Try.f3.params[j]? = some t → args[j]? = some v → Value.okWide Try.prog W .any base t v := hval0
  have hW' := hW
  obtain ⟨p, q, hA0, hV, rfl, hfz, hnd⟩ := hW
  have hA : DataW.TrodAll enc Try.prog W 0 (fun _ => true) true Try.f3.params.toList args.toList ds p := hA0
  rw [Try.params3] at hA hval
  obtain ⟨v0, vs0, d0, ds0, p0, q0, hargs, rfl, rfl, h0, r0⟩ := trodAll_cons hA
  obtain ⟨v1, vs1, d1, ds1, p1, q1, rfl, rfl, rfl, h1, r1⟩ := trodAll_cons r0
  obtain ⟨rfl, rfl, rfl⟩ := trodAll_nil r1
  obtain rfl : args = #[v0, v1] := by cases args; simp_all
  obtain ⟨rfl, rfl⟩ := trodVars_none hV
  obtain ⟨a0, rfl, rfl, rfl, w0⟩ := open_int Try.underlying3 (hval 0 3 v0 rfl rfl) h0
  obtain ⟨a1, rfl, rfl, rfl, w1⟩ := open_int Try.underlying3 (hval 1 3 v1 rfl rfl) h1
  clear hA0 hval0
  refine (walk a0 a1 w0 w1 W).mono fun e W' ⟨he, bel⟩ => ?_
  subst he
  exact ⟨_, rfl, _, _, _, [], _, [], hW', trodAll_mk1 (shut_bool Try.underlying4 _), (trodAll_cons_mk (shut_int Try.underlying3 w0) (trodAll_cons_mk (shut_int Try.underlying3 w1) trodAll_mk0)), rfl, bel.frame _, fun h => by cases h⟩

theorem over : Rows.fnExactCodeNthRow.holds Try.pinned (OpenSpec.ofChange Rows.fnExactCodeNthSpec) :=
  OpenClaim.holds_of_wide 3 Try.f3 rfl rfl rfl rfl rfl rfl rfl ⟨rfl, rfl, rfl, rfl, rfl⟩ rfl rfl rfl rfl rfl (by kernel_rfl) Try.func3 (by kernel_rfl)
    (of_decide_eq_true (by kernel_rfl)) (by unfold Func.isWrapper; first | (rw [if_pos (by decide +kernel)]; kernel_rfl) | (rw [if_neg (by decide +kernel)]; exact ⟨rfl, rfl⟩))
    (fun os started H enc _ => lifted os started H enc)

theorem proved : Rows.FnExactCodeNthSaid :=
  over
#print axioms proved
end Go.Proofs.Ytmpelpmlmmfalab.fnExactCodeNth
