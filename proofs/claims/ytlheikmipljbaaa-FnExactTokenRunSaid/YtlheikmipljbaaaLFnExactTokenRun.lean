/-
  For every input the law 'FnExactTokenRun' returns true, and each of its arguments reads behind the call as it read before. Conditions: none beyond those of the row.
-/
import Derived.Test.YtlheikmipljbaaaRows
import Derived.WalkKit
import Derived.ProofKit
import Derived.OpenShut
import Derived.ShutString
import Derived.ChangeOld
import Derived.Below
import Derived.Deep.Matrix
import Derived.Test.YtlheikmipljbaaaIo
import Derived.Test.YtlheikmipljbaaaOpenT
import Derived.Test.YtlheikmipljbaaaTokC
namespace Go.Proofs.Ytlheikmipljbaaa
open Go.RowKit

set_option maxHeartbeats 2000000 in
theorem walk_FnExactTokenRun (v0 : Value) (a1 : ByteArray) (w : World) (w0 : IsTokK w v0) (w1 : a1.size ≤ maxLen) :
    Calls Try.prog 5 #[v0, .string a1] w fun e w' => e = .returned (.bool true) ∧ Below w.heap.size w w' := by
  have _ := w1
  rcases Nat.lt_or_ge 1048576 a1.size with hbig | hsm
  · have hb : (1048576 : Int) < (a1.size : Int) := by omega
    obtain ⟨b, rfl, hF⟩ := w0
    unfold tkV
    go_enter Try.func5, Try.ntmps5
    go_wp2_with fail
    go_ret
    exact ⟨rfl, below_alloc _ _⟩
  have hb : (a1.size : Int) ≤ 1048576 := by omega
  have hsm' : a1.size ≤ 2097152 := by omega
  obtain ⟨b, rfl, hF⟩ := w0
  unfold tkV
  have q := below_alloc w (.cells #[.int .i64 b.1, .int .i64 b.2.1, .int .i64 b.2.2] 23)
  have t0 := Tri3.new w (.int .i64 b.1) (.int .i64 b.2.1) (.int .i64 b.2.2) 23
  obtain ⟨W, hW⟩ : ∃ W, W = w.alloc (.cells #[.int .i64 b.1, .int .i64 b.2.1, .int .i64 b.2.2] 23) := ⟨_, rfl⟩
  rw [← hW] at q t0
  have HW := Lib.hid hW
  have T0 := Lib.hid t0
  have c0 := t0.cell0
  have c1 := t0.cell1
  have c2 := t0.cell2
  clear hW t0
  obtain ⟨y, hy⟩ : ∃ y, y = (tkRun b a1).getD nt := ⟨_, rfl⟩
  obtain ⟨t, ht⟩ : ∃ t, t = (tkRun b a1).isSome := ⟨_, rfl⟩
  have SP := Lib.hid (specTokenRunE b a1 hsm')
  have IM := Lib.hid (implTokenRunE b a1 hF hsm')
  rw [← hy, ← ht] at SP IM
  clear hy ht hsm hsm'
  go_enter Try.func5, Try.ntmps5
  go_wp2_with (rw [← HW.out]; go_at_call 8; refine (toToken b _).mono ?_)
  rintro e w1 ⟨rfl, b1⟩
  go_wp2_with (go_at_call 13; refine (SP.out _).mono ?_)
  rintro e w2 ⟨rfl, b2⟩
  have k2 := (chain b1 b2).alloc (chain b1 b2).size (.cells #[.int .i64 y.1, .int .i64 y.2.1, .int .i64 y.2.2] 25)
  have t5 := Tri3.new w2 (.int .i64 y.1) (.int .i64 y.2.1) (.int .i64 y.2.2) 25
  obtain ⟨W2, hW2⟩ : ∃ X, X = w2.alloc (.cells #[.int .i64 y.1, .int .i64 y.2.1, .int .i64 y.2.2] 25) := ⟨_, rfl⟩
  rw [← hW2] at k2 t5
  have T5 := Lib.hid t5
  have HW2 := Lib.hid hW2
  clear c0 c1 c2 t5 hW2
  have m2 := T0.out.below k2
  have c0 := m2.cell0
  have c1 := m2.cell1
  have c2 := m2.cell2
  clear m2
  go_upto_region 4 with fail
  rw [← HW2.out]
  go_wp2_with (go_at_call 8; refine (toToken b _).mono ?_)
  rintro e w3 ⟨rfl, b3⟩
  go_wp2_with (go_at_call 14; refine (IM.out _).mono ?_)
  rintro e w4 ⟨rfl, b4⟩
  have k4 := (chain b3 b4).alloc (chain b3 b4).size (.cells #[.int .i64 y.1, .int .i64 y.2.1, .int .i64 y.2.2] 25)
  have t7 := Tri3.new w4 (.int .i64 y.1) (.int .i64 y.2.1) (.int .i64 y.2.2) 25
  obtain ⟨W4, hW4⟩ : ∃ X, X = w4.alloc (.cells #[.int .i64 y.1, .int .i64 y.2.1, .int .i64 y.2.2] 25) := ⟨_, rfl⟩
  rw [← hW4] at k4 t7
  have HW4 := Lib.hid hW4
  have m5 := T5.out.below k4
  have e0 := m5.cell0
  have e1 := m5.cell1
  have e2 := m5.cell2
  have g0 := t7.cell0
  have g1 := t7.cell1
  have g2 := t7.cell2
  clear m5 t7 hW4 c0 c1 c2
  go_upto_region 5 with fail
  rw [← HW4.out]
  go_wp2_with (go_at_call 12; refine (eqToken y _).mono ?_)
  rintro e w5 ⟨rfl, b5⟩
  go_wp2_with fail
  go_ret
  exact ⟨rfl, chain q (chain k2 (chain k4 b5))⟩

end Go.Proofs.Ytlheikmipljbaaa

namespace Go.Proofs.Ytlheikmipljbaaa.fnExactTokenRun
open Go.ChangeShapes Go.WideShapes Go.ChangeAt Go.RowKit
open Go.ChangeMaps (open_string shut_string)
set_option linter.unusedVariables false

theorem own : ownKnob Try.prog.godebug = none := by kernel_rfl
theorem laidOut : laidOutB Try.prog = true := by kernel_rfl

set_option maxRecDepth 100000 in
theorem lifted (os : Os) (started : os.Started) (H : Type) (enc : TypeId × Value → H) :
    ReturnsInHanded {} Try.checked os 5 .any (Rows.fnExactTokenRunSpec.pre6 enc Try.prog Try.f5 Rows.fnExactTokenRunRow.domain false) (Rows.fnExactTokenRunSpec.post enc Try.prog Try.f5 false true false false) := by
  refine returnsInHanded_of_change (C := Try.checked) own started (by kernel_rfl) Try.func5
    (ChangeSpec.witness6 (enc := enc) (C := Try.checked) false ⟨#[], #[.agg #[.int .i64 0, .int .i64 0, .int .i64 0], .string ⟨#[]⟩], []⟩ 8 (by kernel_rfl) (by kernel_rfl) (by kernel_rfl) (by kernel_rfl)) ?_
  intro W base args ds gs before hval0 hW hcnd _
  have hval : ∀ (j : Nat) t v, Try.f5.params[j]? = some t → args[j]? = some v → Value.okWide Try.prog W .any base t v := hval0
  have hW' := hW
  obtain ⟨p, q, hA0, hV, rfl, hfz, hnd⟩ := hW
  have hA : DataW.TrodAll enc Try.prog W 0 (fun _ => true) true Try.f5.params.toList args.toList ds p := hA0
  rw [Try.params5] at hA hval
  obtain ⟨v0, vs0, d0, ds0, p0, q0, hargs, rfl, rfl, h0, r0⟩ := trodAll_cons hA
  obtain ⟨v1, vs1, d1, ds1, p1, q1, rfl, rfl, rfl, h1, r1⟩ := trodAll_cons r0
  obtain ⟨rfl, rfl, rfl⟩ := trodAll_nil r1
  obtain rfl : args = #[v0, v1] := by cases args; simp_all
  obtain ⟨rfl, rfl⟩ := trodVars_none hV
  have w0 := open_token (hval 0 23 v0 rfl rfl) h0
  have k0 := h0
  have lt0 : ∀ x ∈ p0, x.block < W.heap.size := by obtain ⟨m, hm⟩ := k0; exact DataW.trod_lt m _ _ _ hm
  obtain ⟨a1, rfl, rfl, rfl, w1⟩ := open_string Try.underlying9 (hval 1 9 v1 rfl rfl) h1
  clear hA0 hval0
  refine (walk_FnExactTokenRun v0 a1 W w0 w1).mono fun e W' ⟨he, bel⟩ => ?_
  subst he
  exact ⟨_, rfl, _, _, _, [], _, [], hW', trodAll_mk1 (shut_bool Try.underlying4 _), (trodAll_cons_mk (Below.trod laidOut (by kernel_rfl) (of_decide_eq_true (by kernel_rfl)) k0 bel lt0) (trodAll_cons_mk (shut_string Try.underlying9 w1) trodAll_mk0)), rfl, bel.frame _, fun h => by cases h⟩

theorem closed : joinedFacts Try.checked.prog 5 Try.f5 Rows.fnExactTokenRunSpec Rows.fnExactTokenRunRow = true := by
  unfold joinedFacts
  simp only [Bool.and_eq_true]
  repeat' (refine And.intro ?_ ?_)
  all_goals first
    | with_reducible exact may_enter
    | (rw [lifts_final]; kernel_rfl)
    | (rw [make_is]; kernel_rfl)
    | kernel_rfl

theorem over : Rows.fnExactTokenRunRow.holds Try.pinned (OpenSpec.ofChange Rows.fnExactTokenRunSpec) :=
  OpenClaim.holds_of_wide 5 Try.f5 rfl rfl rfl rfl rfl rfl rfl ⟨rfl, rfl, rfl, rfl, rfl⟩ rfl rfl rfl rfl rfl (by kernel_rfl) Try.func5 closed
    (of_decide_eq_true (by kernel_rfl)) (by unfold Func.isWrapper; first | (rw [if_pos (by decide +kernel)]; kernel_rfl) | (rw [if_neg (by decide +kernel)]; exact ⟨rfl, rfl⟩))
    (fun os started H enc _ => lifted os started H enc)

theorem proved : Rows.FnExactTokenRunSaid := over
#print axioms proved
end Go.Proofs.Ytlheikmipljbaaa.fnExactTokenRun
