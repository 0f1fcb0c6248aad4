/-
  For every input the law 'FnExactTrackRun' returns true, and each of its arguments reads behind the call as it read before. Conditions: none beyond those of the row.
-/
import Derived.Test.YtckdfcfgjdgklaaRows
import Derived.WalkKit
import Derived.ProofKit
import Derived.OpenShut
import Derived.ShutString
import Derived.ChangeOld
import Derived.Below
import Derived.Deep.Matrix
import Derived.Test.YtckdfcfgjdgklaaIo
import Derived.Test.YtckdfcfgjdgklaaRunT
import Derived.Test.YtckdfcfgjdgklaaMarkU
namespace Go.Proofs.Ytckdfcfgjdgklaa
open Go.RowKit

theorem range_of {n : Int} (h : (Lit.int .i64 n).wf = true) : -9223372036854775808 ≤ n ∧ n ≤ 9223372036854775807 := by
  simp [Lit.wf, IntKind.min, IntKind.max, IntKind.signed, IntKind.bits] at h
  omega
theorem own_slice2 {w : World} {base E : Nat} {v : Value} {n : Nat} {ys : List Value} (h : w.ownsRow base E 1 v n ys) : ∃ a c, v = .slice a n c := by
  rcases h.2 with ⟨rfl, h0⟩ | ⟨g, cap, cur, rfl, _⟩
  · exact ⟨none, 0, by rw [h0]⟩
  · exact ⟨_, _, rfl⟩

set_option maxHeartbeats 4000000 in
theorem walk_FnExactTrackRun (a0 : Int) (a1 : Int) (w : World) (w0 : (Lit.int .i64 a0).wf = true) (w1 : (Lit.int .i64 a1).wf = true) :
    Calls Try.prog 3 #[.int .i64 a0, .int .i64 a1] w fun e w' => e = .returned (.bool true) ∧ Below w.heap.size w w' := by
  obtain ⟨cl, hcl⟩ : ∃ cl, cl = rnV a0 a1 := ⟨_, rfl⟩
  obtain ⟨ok, hok⟩ : ∃ ok, ok = rnOk a0 a1 := ⟨_, rfl⟩
  have hcl5 : cl.length ≤ 1048576 := by have := rnV_length a0 a1; rw [← hcl] at this; omega
  have SP := Lib.hid (fun W : World => specTrackRun a0 a1 (range_of w0) (range_of w1) W)
  have IM := Lib.hid (fun W : World => implTrackRun a0 a1 (range_of w0) (range_of w1) W)
  simp only [← hcl, ← hok] at SP IM
  clear hcl hok
  have hcli : (cl.length : Int) ≤ 1048576 := by omega
  go_enter Try.func3, Try.ntmps3
  go_wp2_with (go_at_call 10; refine (SP.out _).mono ?_)
  rintro e w1 ⟨v1, rfl, o1, b1⟩
  obtain ⟨a1, c1, rfl⟩ := own_slice2 o1
  go_wp2_with (go_at_call 11; refine (IM.out _).mono ?_)
  rintro e w2 ⟨v2, rfl, o2, b2⟩
  obtain ⟨a2, c2, rfl⟩ := own_slice2 o2
  have k2 := chain b1 b2
  have O1 := Lib.hid (o1.below b2)
  have U1 := Lib.hid (fun b e => (World.ownsRow.lt o1 b e).2)
  have U2 := Lib.hid (fun b e => (World.ownsRow.lt o2 b e).1)
  have O2 := Lib.hid o2
  clear o1 o2 b2
  go_wp2_with (go_at_call 12; refine (eqStrs O2.out O1.out hcl5).mono ?_)
  rintro e w3 ⟨rfl, b3⟩
  have k3 := chain k2 b3
  have O1 := Lib.hid (O1.out.below b3)
  have O2 := Lib.hid (O2.out.below b3)
  go_wp2_with (go_at_call 13; refine (markStrs O2.out hcl5 (by omega) (by omega)).mono ?_)
  rintro e w4 ⟨rfl, o4, m4⟩
  have k4 := k3.grown m4 k3.size (fun b e => Nat.le_trans b1.size (U2.out b e))
  have O1 := Lib.hid (O1.out.kept m4 (by
    cases e1 : (Value.slice a1 cl.length c1).ownBlock with
    | none => exact .inl rfl
    | some b =>
      refine .inr fun e2 => ?_
      have h1 := U1.out b e1
      have h2 := U2.out b e2.symm
      omega))
  have O4 := Lib.hid o4
  clear o4 m4 b3
  go_wp2_with (go_at_call 14; refine (heldStrs O4.out hcl5 (by omega) (by omega)).mono ?_)
  rintro e w4' ⟨rfl, b4'⟩
  have k4 := chain k4 b4'
  have O1 := Lib.hid (O1.out.below b4')
  have O4 := Lib.hid (O4.out.below b4')
  have hk : decide ((1 : Int) + cl.length < 0) = false := by simp; omega
  go_wp2_with (go_at_call 11; refine (IM.out _).mono ?_)
  rintro e w5 ⟨v5, rfl, o5, b5⟩
  obtain ⟨a5, c5, rfl⟩ := own_slice2 o5
  have k5 := chain k4 b5
  have O1 := Lib.hid (O1.out.below b5)
  have O4 := Lib.hid (O4.out.below b5)
  have O5 := Lib.hid o5
  clear o5
  go_wp2_with (go_at_call 12; refine (eqStrs O5.out O1.out hcl5).mono ?_)
  rintro e w6 ⟨rfl, b6⟩
  have k6 := chain k5 b6
  have O4 := Lib.hid (O4.out.below b6)
  go_wp2_with (go_at_call 14; refine (heldStrs O4.out hcl5 (by omega) (by omega)).mono ?_)
  rintro e w6' ⟨rfl, b6'⟩
  have k6 := chain k6 b6'
  go_wp2_with fail
  go_ret
  exact ⟨rfl, k6⟩

end Go.Proofs.Ytckdfcfgjdgklaa

namespace Go.Proofs.Ytckdfcfgjdgklaa.fnExactTrackRun
open Go.ChangeShapes Go.WideShapes Go.ChangeAt Go.RowKit
open Go.ChangeMaps (open_string shut_string)
set_option linter.unusedVariables false

theorem own : ownKnob Try.prog.godebug = none := by kernel_rfl
theorem laidOut : laidOutB Try.prog = true := by kernel_rfl

set_option maxRecDepth 100000 in
theorem lifted (os : Os) (started : os.Started) (H : Type) (enc : TypeId × Value → H) :
    ReturnsInHanded {} Try.checked os 3 .any (Rows.fnExactTrackRunSpec.pre6 enc Try.prog Try.f3 Rows.fnExactTrackRunRow.domain false) (Rows.fnExactTrackRunSpec.post enc Try.prog Try.f3 false true false false) := by
  refine returnsInHanded_of_change (C := Try.checked) own started (by kernel_rfl) Try.func3
    (ChangeSpec.witness6 (enc := enc) (C := Try.checked) false ⟨#[], #[.int .i64 0, .int .i64 0], []⟩ 8 (by kernel_rfl) (by kernel_rfl) (by kernel_rfl) (by kernel_rfl)) ?_
  intro W base args ds gs before hval0 hW hcnd _
  have hval : ∀ (j : Nat) t v, Try.f3.params[j]? = some t → args[j]? = some v → Value.okWide Try.prog W .any base t v := hval0
  have hW' := hW
  obtain ⟨p, q, hA0, hV, rfl, hfz, hnd⟩ := hW
  have hA : DataW.TrodAll enc Try.prog W 0 (fun _ => true) true Try.f3.params.toList args.toList ds p := hA0
  rw [Try.params3] at hA hval
  obtain ⟨v0, vs0, d0, ds0, p0, q0, hargs, rfl, rfl, h0, r0⟩ := trodAll_cons hA
  obtain ⟨v1, vs1, d1, ds1, p1, q1, rfl, rfl, rfl, h1, r1⟩ := trodAll_cons r0
  obtain ⟨rfl, rfl, rfl⟩ := trodAll_nil r1
  obtain rfl : args = #[v0, v1] := by cases args; simp_all
  obtain ⟨rfl, rfl⟩ := trodVars_none hV
  obtain ⟨a0, rfl, rfl, rfl, w0⟩ := open_int Try.underlying3 (hval 0 3 v0 rfl rfl) h0
  obtain ⟨a1, rfl, rfl, rfl, w1⟩ := open_int Try.underlying3 (hval 1 3 v1 rfl rfl) h1
  clear hA0 hval0
  refine (walk_FnExactTrackRun a0 a1 W w0 w1).mono fun e W' ⟨he, bel⟩ => ?_
  subst he
  exact ⟨_, rfl, _, _, _, [], _, [], hW', trodAll_mk1 (shut_bool Try.underlying4 _), (trodAll_cons_mk (shut_int Try.underlying3 w0) (trodAll_cons_mk (shut_int Try.underlying3 w1) trodAll_mk0)), rfl, bel.frame _, fun h => by cases h⟩

theorem closed : joinedFacts Try.checked.prog 3 Try.f3 Rows.fnExactTrackRunSpec Rows.fnExactTrackRunRow = true := by
  unfold joinedFacts
  simp only [Bool.and_eq_true]
  repeat' (refine And.intro ?_ ?_)
  all_goals first
    | with_reducible exact may_enter
    | (rw [lifts_final]; kernel_rfl)
    | (rw [make_is]; kernel_rfl)
    | kernel_rfl

theorem over : Rows.fnExactTrackRunRow.holds Try.pinned (OpenSpec.ofChange Rows.fnExactTrackRunSpec) :=
  OpenClaim.holds_of_wide 3 Try.f3 rfl rfl rfl rfl rfl rfl rfl ⟨rfl, rfl, rfl, rfl, rfl⟩ rfl rfl rfl rfl rfl (by kernel_rfl) Try.func3 closed
    (of_decide_eq_true (by kernel_rfl)) (by unfold Func.isWrapper; first | (rw [if_pos (by decide +kernel)]; kernel_rfl) | (rw [if_neg (by decide +kernel)]; exact ⟨rfl, rfl⟩))
    (fun os started H enc _ => lifted os started H enc)

theorem proved : Rows.FnExactTrackRunSaid := over
#print axioms proved
end Go.Proofs.Ytckdfcfgjdgklaa.fnExactTrackRun
