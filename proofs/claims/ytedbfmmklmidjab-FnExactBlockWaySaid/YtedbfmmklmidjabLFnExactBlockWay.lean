/-
  For every input the law 'FnExactBlockWay' returns true, and each of its arguments reads behind the call as it read before. Conditions: none beyond those of the row.
-/
import Derived.Test.YtedbfmmklmidjabRows
import Derived.WalkKit
import Derived.ProofKit
import Derived.OpenShut
import Derived.ShutString
import Derived.ChangeOld
import Derived.Below
import Derived.Deep.Matrix
import Derived.Test.YtedbfmmklmidjabIo
import Derived.Test.YtedbfmmklmidjabOpenB
import Derived.Test.YtedbfmmklmidjabLawC
import Derived.Test.YtedbfmmklmidjabWayS
import Derived.Lib.QuietBelow
import Derived.BigQuiet
namespace Go.Proofs.Ytedbfmmklmidjab
open Go.RowKit

open Go.Sort

set_option maxHeartbeats 2000000 in
theorem walk_FnExactBlockWay (v0 : Value) (v1 : Value) (w : World) (w0 : IsBlockK w v0) (w1 : IsBlockK w v1) :
    Calls Try.prog 4 #[v0, v1] w fun e w' => e = .returned (.bool true) ∧ Below w.heap.size w w' := by
  obtain ⟨a, rfl⟩ := w0
  obtain ⟨b, rfl⟩ := w1
  unfold bkV
  obtain ⟨W, hW⟩ : ∃ W, W = (w.alloc (.cells #[.int .i64 a.1, .bool a.2.1, .bool a.2.2] 23)).alloc (.cells #[.int .i64 b.1, .bool b.2.1, .bool b.2.2] 23) := ⟨_, rfl⟩
  obtain ⟨T1, T2, B0, SZ⟩ := two_tri _ _ _ _ _ _ _ _ _ W hW
  have HW := Lib.hid hW
  have HB := Lib.hid B0
  have HT := Lib.hid (And.intro T1 T2)
  have c0 := fun d os => cell_regrown T1.cell0 d os
  have c1 := fun d os => cell_regrown T1.cell1 d os
  have c2 := fun d os => cell_regrown T1.cell2 d os
  have d0 := fun d os => cell_regrown T2.cell0 d os
  have d1 := fun d os => cell_regrown T2.cell1 d os
  have d2 := fun d os => cell_regrown T2.cell2 d os
  clear hW B0 SZ T1 T2
  obtain ⟨s, hs⟩ : ∃ s, s = bkWay a b := ⟨_, rfl⟩
  obtain ⟨t, ht⟩ : ∃ t, t = bkBoth a b := ⟨_, rfl⟩
  have SP := Lib.hid (show ∀ w : World, Calls Try.prog 16 #[.agg #[.int .i64 a.1, .bool a.2.1, .bool a.2.2], .agg #[.int .i64 b.1, .bool b.2.1, .bool b.2.2]] w fun e w' => e = .returned (.tuple #[.string s, .bool t]) ∧ Below w.heap.size w w' by rw [hs, ht]; exact specWay a b)
  have IM := Lib.hid (show ∀ w : World, Calls Try.prog 17 #[.agg #[.int .i64 a.1, .bool a.2.1, .bool a.2.2], .agg #[.int .i64 b.1, .bool b.2.1, .bool b.2.2]] w fun e w' => e = .returned (.tuple #[.string s, .bool t]) ∧ Below w.heap.size w w' by rw [hs, ht]; exact implWay a b)
  clear hs ht
  have TA := Lib.hid (fun (w : World) d os => Calls.regrown_of (w := w) (d := d) (os := os) (toBlock a _))
  have TB := Lib.hid (fun (w : World) d os => Calls.regrown_of (w := w) (d := d) (os := os) (toBlock b _))
  have SQ := Lib.hid (fun (w : World) d os => Calls.regrown_of (w := w) (d := d) (os := os) (SP.out _))
  have IQ := Lib.hid (fun (w : World) d os => Calls.regrown_of (w := w) (d := d) (os := os) (IM.out _))
  go_enter Try.func4, Try.ntmps4
  go_upto_region 1 with (rw [← HW.out])
  refine wp_region_quiet_below (by kernel_rfl) (by kernel_rfl) ?_
  repeat (go_big_quiet_step (first | with_reducible exact TA.out _ _ _ | with_reducible exact TB.out _ _ _ | with_reducible exact SQ.out _ _ _))
  refine wpQuiet_nil ?_
  intro _ hw'
  obtain ⟨⟨dq, osq⟩, hw''⟩ := hw'
  subst hw''
  have b1 := below_regrown W dq osq
  obtain ⟨W1, hW1⟩ : ∃ X, X = grow (redrawn W dq) osq := ⟨_, rfl⟩
  rw [← hW1] at b1 ⊢
  have m1 := HT.out.1.below b1
  have m2 := HT.out.2.below b1
  clear c0 c1 c2 d0 d1 d2 hW1
  have c0 := fun d os => cell_regrown m1.cell0 d os
  have c1 := fun d os => cell_regrown m1.cell1 d os
  have c2 := fun d os => cell_regrown m1.cell2 d os
  have d0 := fun d os => cell_regrown m2.cell0 d os
  have d1 := fun d os => cell_regrown m2.cell1 d os
  have d2 := fun d os => cell_regrown m2.cell2 d os
  clear m1 m2
  go_upto_region 2 with fail
  refine wp_region_quiet_below (by kernel_rfl) (by kernel_rfl) ?_
  repeat (go_big_quiet_step (first | with_reducible exact TA.out _ _ _ | with_reducible exact TB.out _ _ _ | with_reducible exact IQ.out _ _ _))
  refine wpQuiet_nil ?_
  intro _ hw'
  obtain ⟨⟨dq2, osq2⟩, hw''⟩ := hw'
  subst hw''
  have b2 := below_regrown W1 dq2 osq2
  obtain ⟨W2, hW2⟩ : ∃ X, X = grow (redrawn W1 dq2) osq2 := ⟨_, rfl⟩
  rw [← hW2] at b2 ⊢
  clear c0 c1 c2 d0 d1 d2 hW2
  go_wp2_with fail
  go_ret
  exact ⟨rfl, HB.out.trans ((chain b1 b2).mono HB.out.size)⟩

end Go.Proofs.Ytedbfmmklmidjab

namespace Go.Proofs.Ytedbfmmklmidjab.fnExactBlockWay
open Go.ChangeShapes Go.WideShapes Go.ChangeAt Go.RowKit
open Go.ChangeMaps (open_string shut_string)
set_option linter.unusedVariables false

theorem own : ownKnob Try.prog.godebug = none := by kernel_rfl
theorem laidOut : laidOutB Try.prog = true := by kernel_rfl

set_option maxRecDepth 100000 in
theorem lifted (os : Os) (started : os.Started) (H : Type) (enc : TypeId × Value → H) :
    ReturnsInHanded {} Try.checked os 4 .any (Rows.fnExactBlockWaySpec.pre6 enc Try.prog Try.f4 Rows.fnExactBlockWayRow.domain false) (Rows.fnExactBlockWaySpec.post enc Try.prog Try.f4 false true false false) := by
  refine returnsInHanded_of_change (C := Try.checked) own started (by kernel_rfl) Try.func4
    (ChangeSpec.witness6 (enc := enc) (C := Try.checked) false ⟨#[], #[.agg #[.int .i64 0, .bool false, .bool false], .agg #[.int .i64 0, .bool false, .bool false]], []⟩ 8 (by kernel_rfl) (by kernel_rfl) (by kernel_rfl) (by kernel_rfl)) ?_
  intro W base args ds gs before hval0 hW hcnd _
  have hval : ∀ (j : Nat) t v, Try.f4.params[j]? = some t → args[j]? = some v → Value.okWide Try.prog W .any base t v := hval0
  have hW' := hW
  obtain ⟨p, q, hA0, hV, rfl, hfz, hnd⟩ := hW
  have hA : DataW.TrodAll enc Try.prog W 0 (fun _ => true) true Try.f4.params.toList args.toList ds p := hA0
  rw [Try.params4] at hA hval
  obtain ⟨v0, vs0, d0, ds0, p0, q0, hargs, rfl, rfl, h0, r0⟩ := trodAll_cons hA
  obtain ⟨v1, vs1, d1, ds1, p1, q1, rfl, rfl, rfl, h1, r1⟩ := trodAll_cons r0
  obtain ⟨rfl, rfl, rfl⟩ := trodAll_nil r1
  obtain rfl : args = #[v0, v1] := by cases args; simp_all
  obtain ⟨rfl, rfl⟩ := trodVars_none hV
  have w0 := open_block (hval 0 23 v0 rfl rfl) h0
  have k0 := h0
  have lt0 : ∀ x ∈ p0, x.block < W.heap.size := by obtain ⟨m, hm⟩ := k0; exact DataW.trod_lt m _ _ _ hm
  have w1 := open_block (hval 1 23 v1 rfl rfl) h1
  have k1 := h1
  have lt1 : ∀ x ∈ p1, x.block < W.heap.size := by obtain ⟨m, hm⟩ := k1; exact DataW.trod_lt m _ _ _ hm
  clear hA0 hval0
  refine (walk_FnExactBlockWay v0 v1 W w0 w1).mono fun e W' ⟨he, bel⟩ => ?_
  subst he
  exact ⟨_, rfl, _, _, _, [], _, [], hW', trodAll_mk1 (shut_bool Try.underlying4 _), (trodAll_cons_mk (Below.trod laidOut (by kernel_rfl) (of_decide_eq_true (by kernel_rfl)) k0 bel lt0) (trodAll_cons_mk (Below.trod laidOut (by kernel_rfl) (of_decide_eq_true (by kernel_rfl)) k1 bel lt1) trodAll_mk0)), rfl, bel.frame _, fun h => by cases h⟩

theorem closed : joinedFacts Try.checked.prog 4 Try.f4 Rows.fnExactBlockWaySpec Rows.fnExactBlockWayRow = true := by
  unfold joinedFacts
  simp only [Bool.and_eq_true]
  repeat' (refine And.intro ?_ ?_)
  all_goals first
    | with_reducible exact may_enter
    | (rw [lifts_final]; kernel_rfl)
    | (rw [make_is]; kernel_rfl)
    | kernel_rfl

theorem over : Rows.fnExactBlockWayRow.holds Try.pinned (OpenSpec.ofChange Rows.fnExactBlockWaySpec) :=
  OpenClaim.holds_of_wide 4 Try.f4 rfl rfl rfl rfl rfl rfl rfl ⟨rfl, rfl, rfl, rfl, rfl⟩ rfl rfl rfl rfl rfl (by kernel_rfl) Try.func4 closed
    (of_decide_eq_true (by kernel_rfl)) (by unfold Func.isWrapper; first | (rw [if_pos (by decide +kernel)]; kernel_rfl) | (rw [if_neg (by decide +kernel)]; exact ⟨rfl, rfl⟩))
    (fun os started H enc _ => lifted os started H enc)

theorem proved : Rows.FnExactBlockWaySaid := over
#print axioms proved
end Go.Proofs.Ytedbfmmklmidjab.fnExactBlockWay
