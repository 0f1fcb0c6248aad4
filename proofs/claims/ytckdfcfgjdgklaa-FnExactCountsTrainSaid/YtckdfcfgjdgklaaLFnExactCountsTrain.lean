/-
  For every input the law 'FnExactCountsTrain' returns true, and each of its arguments reads behind the call as it read before. Conditions: none beyond those of the row.
-/
import Derived.Test.YtckdfcfgjdgklaaRows
import Derived.WalkKit
import Derived.ProofKit
import Derived.OpenShut
import Derived.ShutString
import Derived.ChangeOld
import Derived.Below
import Derived.Deep.Matrix
import Derived.Test.YtckdfcfgjdgklaaIo
import Derived.Test.YtckdfcfgjdgklaaCtrL
import Derived.Test.YtckdfcfgjdgklaaCtrF
namespace Go.Proofs.Ytckdfcfgjdgklaa
open Go.RowKit

set_option maxHeartbeats 2000000 in
theorem walk_FnExactCountsTrain (a0 : Int) (a1 : Int) (w : World) (w0 : (Lit.int .i64 a0).wf = true) (w1 : (Lit.int .i64 a1).wf = true) :
    Calls Try.prog 9 #[.int .i64 a0, .int .i64 a1] w fun e w' => e = .returned (.bool true) ∧ Below w.heap.size w w' := by
  have _ := w0
  have _ := w1
  have r0 := range_of w0
  have r1 := range_of w1
  have hyl : (tnV a0 a1).length ≤ 1048576 := Nat.le_trans (tnV_length _ _) (by decide)
  obtain ⟨ys, hys⟩ : ∃ ys, ys = tnV a0 a1 := ⟨_, rfl⟩
  obtain ⟨ok, hok⟩ : ∃ ok, ok = tnOk a0 a1 := ⟨_, rfl⟩
  have HS : ∀ {W : World}, Calls Try.prog 29 #[.int .i64 a0, .int .i64 a1] W (MadeIntsB W ys ok) := by
    intro W; rw [hys, hok]; exact specTrain r0 r1 W
  have HI : ∀ {W : World}, Calls Try.prog 30 #[.int .i64 a0, .int .i64 a1] W (MadeIntsB W ys ok) := by
    intro W; rw [hys, hok]; exact implTrain r0 r1 W
  rw [← hys] at hyl
  have hyl' : (ys.length : Int) ≤ 1048576 := by omega
  clear hys hok
  go_enter Try.func9, Try.ntmps9
  go_wp2_with (go_at_call 29; refine (HS).mono ?_)
  rintro e w_1 ⟨vw, rfl, ow, b1⟩
  have c1 := b1
  have s1 := b1.size
  go_wp2_with (go_at_call 30; refine (HI).mono ?_)
  rintro e w_2 ⟨vg, rfl, og, b2⟩
  have c2 := c1.trans (b2.mono c1.size)
  have s2 := b2.size
  have ow_2 := ow.below b2
  go_wp2_with (go_at_call 18; refine (eqInts (og.ints hyl) (ow_2.ints hyl)).mono ?_)
  rintro e w_3 ⟨rfl, b3⟩
  have c3 := c2.trans (b3.mono c2.size)
  have s3 := b3.size
  have ow_3 := ow_2.below b3
  have og_3 := og.below b3
  go_wp2_with (go_at_call 21; refine (markInts og_3 hyl (by omega) (by omega)).mono ?_)
  rintro e w_4 ⟨rfl, om4, g4⟩
  have c4 := below_mark c3 og_3 c1.size g4
  have s4 := g4.size
  have ow_4 := ow_3.kept g4 (apart ow (Nat.le_refl _) og)
  go_wp2_with (go_at_call 22; refine (heldInts (om4.ints (by rw [marks_length]; exact hyl)) (marks_held 1 _) (by omega) (by omega)).mono ?_)
  rintro e w_x ⟨rfl, rfl⟩
  rw [marks_length]
  go_wp2_with (go_at_call 30; refine (HI).mono ?_)
  rintro e w_5 ⟨vh, rfl, oh, b5⟩
  have c5 := c4.trans (b5.mono c4.size)
  have s5 := b5.size
  have ow_5 := ow_4.below b5
  have og_5 := om4.below b5
  go_wp2_with (go_at_call 18; refine (eqInts (oh.ints hyl) (ow_5.ints hyl)).mono ?_)
  rintro e w_6 ⟨rfl, b6⟩
  have c6 := c5.trans (b6.mono c5.size)
  have s6 := b6.size
  have ow_6 := ow_5.below b6
  have og_6 := og_5.below b6
  have oh_6 := oh.below b6
  go_wp2_with (go_at_call 22; refine (heldInts (og_6.ints (by rw [marks_length]; exact hyl)) (marks_held 1 _) (by omega) (by omega)).mono ?_)
  rintro e w_x ⟨rfl, rfl⟩
  rw [marks_length]
  go_wp2_with fail
  go_ret
  exact ⟨rfl, c6⟩

end Go.Proofs.Ytckdfcfgjdgklaa

namespace Go.Proofs.Ytckdfcfgjdgklaa.fnExactCountsTrain
open Go.ChangeShapes Go.WideShapes Go.ChangeAt Go.RowKit
open Go.ChangeMaps (open_string shut_string)
set_option linter.unusedVariables false

theorem own : ownKnob Try.prog.godebug = none := by kernel_rfl
theorem laidOut : laidOutB Try.prog = true := by kernel_rfl

set_option maxRecDepth 100000 in
theorem lifted (os : Os) (started : os.Started) (H : Type) (enc : TypeId × Value → H) :
    ReturnsInHanded {} Try.checked os 9 .any (Rows.fnExactCountsTrainSpec.pre6 enc Try.prog Try.f9 Rows.fnExactCountsTrainRow.domain false) (Rows.fnExactCountsTrainSpec.post enc Try.prog Try.f9 false true false false) := by
  refine returnsInHanded_of_change (C := Try.checked) own started (by kernel_rfl) Try.func9
    (ChangeSpec.witness6 (enc := enc) (C := Try.checked) false ⟨#[], #[.int .i64 0, .int .i64 0], []⟩ 8 (by kernel_rfl) (by kernel_rfl) (by kernel_rfl) (by kernel_rfl)) ?_
  intro W base args ds gs before hval0 hW hcnd _
  have hval : ∀ (j : Nat) t v, Try.f9.params[j]? = some t → args[j]? = some v → Value.okWide Try.prog W .any base t v := hval0
  have hW' := hW
  obtain ⟨p, q, hA0, hV, rfl, hfz, hnd⟩ := hW
  have hA : DataW.TrodAll enc Try.prog W 0 (fun _ => true) true Try.f9.params.toList args.toList ds p := hA0
  rw [Try.params9] at hA hval
  obtain ⟨v0, vs0, d0, ds0, p0, q0, hargs, rfl, rfl, h0, r0⟩ := trodAll_cons hA
  obtain ⟨v1, vs1, d1, ds1, p1, q1, rfl, rfl, rfl, h1, r1⟩ := trodAll_cons r0
  obtain ⟨rfl, rfl, rfl⟩ := trodAll_nil r1
  obtain rfl : args = #[v0, v1] := by cases args; simp_all
  obtain ⟨rfl, rfl⟩ := trodVars_none hV
  obtain ⟨a0, rfl, rfl, rfl, w0⟩ := open_int Try.underlying3 (hval 0 3 v0 rfl rfl) h0
  obtain ⟨a1, rfl, rfl, rfl, w1⟩ := open_int Try.underlying3 (hval 1 3 v1 rfl rfl) h1
  clear hA0 hval0
  refine (walk_FnExactCountsTrain a0 a1 W w0 w1).mono fun e W' ⟨he, bel⟩ => ?_
  subst he
  exact ⟨_, rfl, _, _, _, [], _, [], hW', trodAll_mk1 (shut_bool Try.underlying4 _), (trodAll_cons_mk (shut_int Try.underlying3 w0) (trodAll_cons_mk (shut_int Try.underlying3 w1) trodAll_mk0)), rfl, bel.frame _, fun h => by cases h⟩

theorem closed : joinedFacts Try.checked.prog 9 Try.f9 Rows.fnExactCountsTrainSpec Rows.fnExactCountsTrainRow = true := by
  unfold joinedFacts
  simp only [Bool.and_eq_true]
  repeat' (refine And.intro ?_ ?_)
  all_goals first
    | with_reducible exact may_enter
    | (rw [lifts_final]; kernel_rfl)
    | (rw [make_is]; kernel_rfl)
    | kernel_rfl

theorem over : Rows.fnExactCountsTrainRow.holds Try.pinned (OpenSpec.ofChange Rows.fnExactCountsTrainSpec) :=
  OpenClaim.holds_of_wide 9 Try.f9 rfl rfl rfl rfl rfl rfl rfl ⟨rfl, rfl, rfl, rfl, rfl⟩ rfl rfl rfl rfl rfl (by kernel_rfl) Try.func9 closed
    (of_decide_eq_true (by kernel_rfl)) (by unfold Func.isWrapper; first | (rw [if_pos (by decide +kernel)]; kernel_rfl) | (rw [if_neg (by decide +kernel)]; exact ⟨rfl, rfl⟩))
    (fun os started H enc _ => lifted os started H enc)

theorem proved : Rows.FnExactCountsTrainSaid := over
#print axioms proved
end Go.Proofs.Ytckdfcfgjdgklaa.fnExactCountsTrain
