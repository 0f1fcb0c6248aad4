/-
  For every input the law 'FnExactTokenValid' returns true, and each of its arguments reads behind the call as it read before. Conditions: none beyond those of the row.
-/
import Derived.Test.YtlheikmipljbaaaRows
import Derived.WalkKit
import Derived.ProofKit
import Derived.OpenShut
import Derived.ShutString
import Derived.ChangeOld
import Derived.Below
import Derived.Deep.Matrix
import Derived.Test.YtlheikmipljbaaaIo
import Derived.Test.YtlheikmipljbaaaOpenT
import Derived.Test.YtlheikmipljbaaaTokA
namespace Go.Proofs.Ytlheikmipljbaaa
open Go.RowKit

set_option maxHeartbeats 2000000 in
theorem walk_FnExactTokenValid (v0 : Value) (w : World) (w0 : IsTokK w v0) :
    Calls Try.prog 3 #[v0] w fun e w' => e = .returned (.bool true) ∧ Below w.heap.size w w' := by
  obtain ⟨b, rfl, hF⟩ := w0
  unfold tkV
  have q := below_alloc w (.cells #[.int .i64 b.1, .int .i64 b.2.1, .int .i64 b.2.2] 23)
  have t0 := Tri3.new w (.int .i64 b.1) (.int .i64 b.2.1) (.int .i64 b.2.2) 23
  obtain ⟨W, hW⟩ : ∃ W, W = w.alloc (.cells #[.int .i64 b.1, .int .i64 b.2.1, .int .i64 b.2.2] 23) := ⟨_, rfl⟩
  rw [← hW] at q t0
  have HW := Lib.hid hW
  have T0 := Lib.hid t0
  have c0 := t0.cell0
  have c1 := t0.cell1
  have c2 := t0.cell2
  clear hW t0
  obtain ⟨s, hs⟩ : ∃ s, s = tkOk b := ⟨_, rfl⟩
  have SP := Lib.hid (specTokenValid b)
  have IM := Lib.hid (implTokenValid b hF)
  rw [← hs] at SP IM
  clear hs
  go_enter Try.func3, Try.ntmps3
  go_wp2_with (rw [← HW.out]; go_at_call 8; refine (toToken b _).mono ?_)
  rintro e w1 ⟨rfl, b1⟩
  go_wp2_with (go_at_call 7; refine (SP.out _).mono ?_)
  rintro e w2 ⟨rfl, b2⟩
  have k2 := chain b1 b2
  clear c0 c1 c2
  have m2 := T0.out.below k2
  have c0 := m2.cell0
  have c1 := m2.cell1
  have c2 := m2.cell2
  clear m2
  go_wp2_with (go_at_call 8; refine (toToken b _).mono ?_)
  rintro e w3 ⟨rfl, b3⟩
  go_wp2_with (go_at_call 9; refine (IM.out _).mono ?_)
  rintro e w4 ⟨rfl, b4⟩
  go_wp2_with fail
  go_ret
  exact ⟨rfl, chain q (chain k2 (chain b3 b4))⟩

end Go.Proofs.Ytlheikmipljbaaa

namespace Go.Proofs.Ytlheikmipljbaaa.fnExactTokenValid
open Go.ChangeShapes Go.WideShapes Go.ChangeAt Go.RowKit
open Go.ChangeMaps (open_string shut_string)
set_option linter.unusedVariables false

theorem own : ownKnob Try.prog.godebug = none := by kernel_rfl
theorem laidOut : laidOutB Try.prog = true := by kernel_rfl

set_option maxRecDepth 100000 in
theorem lifted (os : Os) (started : os.Started) (H : Type) (enc : TypeId × Value → H) :
    ReturnsInHanded {} Try.checked os 3 .any (Rows.fnExactTokenValidSpec.pre6 enc Try.prog Try.f3 Rows.fnExactTokenValidRow.domain false) (Rows.fnExactTokenValidSpec.post enc Try.prog Try.f3 false true false false) := by
  refine returnsInHanded_of_change (C := Try.checked) own started (by kernel_rfl) Try.func3
    (ChangeSpec.witness6 (enc := enc) (C := Try.checked) false ⟨#[], #[.agg #[.int .i64 0, .int .i64 0, .int .i64 0]], []⟩ 8 (by kernel_rfl) (by kernel_rfl) (by kernel_rfl) (by kernel_rfl)) ?_
  intro W base args ds gs before hval0 hW hcnd _
  have hval : ∀ (j : Nat) t v, Try.f3.params[j]? = some t → args[j]? = some v → Value.okWide Try.prog W .any base t v := hval0
  have hW' := hW
  obtain ⟨p, q, hA0, hV, rfl, hfz, hnd⟩ := hW
  have hA : DataW.TrodAll enc Try.prog W 0 (fun _ => true) true Try.f3.params.toList args.toList ds p := hA0
  rw [Try.params3] at hA hval
  obtain ⟨v0, vs0, d0, ds0, p0, q0, hargs, rfl, rfl, h0, r0⟩ := trodAll_cons hA
  obtain ⟨rfl, rfl, rfl⟩ := trodAll_nil r0
  obtain rfl : args = #[v0] := by cases args; simp_all
  obtain ⟨rfl, rfl⟩ := trodVars_none hV
  have w0 := open_token (hval 0 23 v0 rfl rfl) h0
  have k0 := h0
  have lt0 : ∀ x ∈ p0, x.block < W.heap.size := by obtain ⟨m, hm⟩ := k0; exact DataW.trod_lt m _ _ _ hm
  clear hA0 hval0
  refine (walk_FnExactTokenValid v0 W w0).mono fun e W' ⟨he, bel⟩ => ?_
  subst he
  exact ⟨_, rfl, _, _, _, [], _, [], hW', trodAll_mk1 (shut_bool Try.underlying4 _), (trodAll_cons_mk (Below.trod laidOut (by kernel_rfl) (of_decide_eq_true (by kernel_rfl)) k0 bel lt0) trodAll_mk0), rfl, bel.frame _, fun h => by cases h⟩

theorem closed : joinedFacts Try.checked.prog 3 Try.f3 Rows.fnExactTokenValidSpec Rows.fnExactTokenValidRow = true := by
  unfold joinedFacts
  simp only [Bool.and_eq_true]
  repeat' (refine And.intro ?_ ?_)
  all_goals first
    | with_reducible exact may_enter
    | (rw [lifts_final]; kernel_rfl)
    | (rw [make_is]; kernel_rfl)
    | kernel_rfl

theorem over : Rows.fnExactTokenValidRow.holds Try.pinned (OpenSpec.ofChange Rows.fnExactTokenValidSpec) :=
  OpenClaim.holds_of_wide 3 Try.f3 rfl rfl rfl rfl rfl rfl rfl ⟨rfl, rfl, rfl, rfl, rfl⟩ rfl rfl rfl rfl rfl (by kernel_rfl) Try.func3 closed
    (of_decide_eq_true (by kernel_rfl)) (by unfold Func.isWrapper; first | (rw [if_pos (by decide +kernel)]; kernel_rfl) | (rw [if_neg (by decide +kernel)]; exact ⟨rfl, rfl⟩))
    (fun os started H enc _ => lifted os started H enc)

theorem proved : Rows.FnExactTokenValidSaid := over
#print axioms proved
end Go.Proofs.Ytlheikmipljbaaa.fnExactTokenValid
