/-
  For every input the law 'FnExactPathsGap' returns true, and each of its arguments reads behind the call as it read before. Conditions: none beyond those of the row.
-/
import Derived.Test.YtbpifchlmmdnaabRows
import Derived.WalkKit
import Derived.ProofKit
import Derived.OpenShut
import Derived.ShutString
import Derived.ChangeOld
import Derived.Below
import Derived.Deep.Matrix
import Derived.Test.YtbpifchlmmdnaabIo
import Derived.Test.YtbpifchlmmdnaabGap
import Derived.Test.YtbpifchlmmdnaabOpenP
namespace Go.Proofs.Ytbpifchlmmdnaab
open Go.RowKit

set_option maxHeartbeats 1000000 in
theorem walk_FnExactPathsGap (a0 : Int) (v1 : Value) (a2 : Int) (w : World) (w0 : (Lit.int .i64 a0).wf = true) (w1 : IsPathsK w v1) (w2 : (Lit.int .i64 a2).wf = true) :
    Calls Try.prog 5 #[.int .i64 a0, v1, .int .i64 a2] w fun e w' => e = .returned (.bool true) ∧ Below w.heap.size w w' := by
  have _ := w0
  have _ := w2
  go_enter Try.func5, Try.ntmps5
  go_wp2_with (go_at_call 10; refine (szPathsK w1).mono ?_)
  rintro e wa ⟨n, rfl, hn1, hn, ba⟩
  rcases Int.lt_or_le n 0 with hneg | hpos
  · have hd : decide (n < 0) = true := decide_eq_true hneg
    clear hn w1
    go_wp2_with fail
    go_ret
    exact ⟨rfl, ba⟩
  · have hd : decide (n < 0) = false := by simpa using hpos
    obtain ⟨ps, h⟩ := hn hpos
    clear hn w1
    go_wp2_with (go_at_call 12; refine (toPaths (h.below ba)).mono ?_)
    rintro e wb ⟨vb, rfl, o1, b1⟩
    have c1 := chain ba b1
    go_wp2_with (go_at_call 9; refine (specGap o1.paths).mono ?_)
    rintro e wc ⟨rfl, b2⟩
    have c2 := chain c1 b2
    go_wp2_with (go_at_call 12; refine (toPaths (h.below c2)).mono ?_)
    rintro e wd ⟨vd, rfl, o3, b3⟩
    have c3 := chain c2 b3
    go_wp2_with (go_at_call 8; refine (implGap o3.paths).mono ?_)
    rintro e we ⟨rfl, b4⟩
    have c4 := chain c3 b4
    go_wp2_with (go_at_call 12; refine (toPaths (h.below c4)).mono ?_)
    rintro e wf ⟨vf, rfl, o5, b5⟩
    have c5 := chain c4 b5
    go_wp2_with (go_at_call 15; refine (eqPathsS ((o3.below b4).below b5).paths o5.paths).mono ?_)
    rintro e wg ⟨rfl, b6⟩
    go_wp2_with fail
    go_ret
    exact ⟨rfl, chain c5 b6⟩

end Go.Proofs.Ytbpifchlmmdnaab

namespace Go.Proofs.Ytbpifchlmmdnaab.fnExactPathsGap
open Go.ChangeShapes Go.WideShapes Go.ChangeAt Go.RowKit
open Go.ChangeMaps (open_string shut_string)
set_option linter.unusedVariables false

theorem own : ownKnob Try.prog.godebug = none := by kernel_rfl
theorem laidOut : laidOutB Try.prog = true := by kernel_rfl

set_option maxRecDepth 100000 in
theorem lifted (os : Os) (started : os.Started) (H : Type) (enc : TypeId × Value → H) :
    ReturnsInHanded {} Try.checked os 5 .any (Rows.fnExactPathsGapSpec.pre6 enc Try.prog Try.f5 Rows.fnExactPathsGapRow.domain false) (Rows.fnExactPathsGapSpec.post enc Try.prog Try.f5 false true false false) := by
  refine returnsInHanded_of_change (C := Try.checked) own started (by kernel_rfl) Try.func5
    (ChangeSpec.witness6 (enc := enc) (C := Try.checked) false ⟨#[], #[.int .i64 0, .slice none 0 0, .int .i64 0], []⟩ 8 (by kernel_rfl) (by kernel_rfl) (by kernel_rfl) (by kernel_rfl)) ?_
  intro W base args ds gs before hval0 hW hcnd _
  have hval : ∀ (j : Nat) t v, Try.f5.params[j]? = some t → args[j]? = some v → Value.okWide Try.prog W .any base t v := hval0
  have hW' := hW
  obtain ⟨p, q, hA0, hV, rfl, hfz, hnd⟩ := hW
  have hA : DataW.TrodAll enc Try.prog W 0 (fun _ => true) true Try.f5.params.toList args.toList ds p := hA0
  rw [Try.params5] at hA hval
  obtain ⟨v0, vs0, d0, ds0, p0, q0, hargs, rfl, rfl, h0, r0⟩ := trodAll_cons hA
  obtain ⟨v1, vs1, d1, ds1, p1, q1, rfl, rfl, rfl, h1, r1⟩ := trodAll_cons r0
  obtain ⟨v2, vs2, d2, ds2, p2, q2, rfl, rfl, rfl, h2, r2⟩ := trodAll_cons r1
  obtain ⟨rfl, rfl, rfl⟩ := trodAll_nil r2
  obtain rfl : args = #[v0, v1, v2] := by cases args; simp_all
  obtain ⟨rfl, rfl⟩ := trodVars_none hV
  obtain ⟨a0, rfl, rfl, rfl, w0⟩ := open_int Try.underlying3 (hval 0 3 v0 rfl rfl) h0
  have w1 := open_paths (hval 1 31 v1 rfl rfl) h1
  have k1 := h1
  have lt1 : ∀ x ∈ p1, x.block < W.heap.size := by obtain ⟨m, hm⟩ := k1; exact DataW.trod_lt m _ _ _ hm
  obtain ⟨a2, rfl, rfl, rfl, w2⟩ := open_int Try.underlying3 (hval 2 3 v2 rfl rfl) h2
  clear hA0 hval0
  refine (walk_FnExactPathsGap a0 v1 a2 W w0 w1 w2).mono fun e W' ⟨he, bel⟩ => ?_
  subst he
  exact ⟨_, rfl, _, _, _, [], _, [], hW', trodAll_mk1 (shut_bool Try.underlying4 _), (trodAll_cons_mk (shut_int Try.underlying3 w0) (trodAll_cons_mk (Below.trod laidOut (by kernel_rfl) (of_decide_eq_true (by kernel_rfl)) k1 bel lt1) (trodAll_cons_mk (shut_int Try.underlying3 w2) trodAll_mk0))), rfl, bel.frame _, fun h => by cases h⟩

theorem closed : joinedFacts Try.checked.prog 5 Try.f5 Rows.fnExactPathsGapSpec Rows.fnExactPathsGapRow = true := by
  unfold joinedFacts
  simp only [Bool.and_eq_true]
  repeat' (refine And.intro ?_ ?_)
  all_goals first
    | with_reducible exact may_enter
    | (rw [lifts_final]; kernel_rfl)
    | (rw [make_is]; kernel_rfl)
    | kernel_rfl

theorem over : Rows.fnExactPathsGapRow.holds Try.pinned (OpenSpec.ofChange Rows.fnExactPathsGapSpec) :=
  OpenClaim.holds_of_wide 5 Try.f5 rfl rfl rfl rfl rfl rfl rfl ⟨rfl, rfl, rfl, rfl, rfl⟩ rfl rfl rfl rfl rfl (by kernel_rfl) Try.func5 closed
    (of_decide_eq_true (by kernel_rfl)) (by unfold Func.isWrapper; first | (rw [if_pos (by decide +kernel)]; kernel_rfl) | (rw [if_neg (by decide +kernel)]; exact ⟨rfl, rfl⟩))
    (fun os started H enc _ => lifted os started H enc)

theorem proved : Rows.FnExactPathsGapSaid := over
#print axioms proved
end Go.Proofs.Ytbpifchlmmdnaab.fnExactPathsGap
