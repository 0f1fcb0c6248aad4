/-
  For every input the law 'FnBlockStep' returns true, and each of its arguments reads behind the call as it read before. Conditions: none beyond those of the row.
-/
import Derived.Test.YtedbfmmklmidjabRows
import Derived.WalkKit
import Derived.ProofKit
import Derived.OpenShut
import Derived.ShutString
import Derived.ChangeOld
import Derived.Below
import Derived.Deep.Matrix
import Derived.Test.YtedbfmmklmidjabIo
import Derived.Test.YtedbfmmklmidjabDrawU
import Derived.Test.YtedbfmmklmidjabBlockT
import Derived.Lib.QuietBelow
import Derived.BigQuiet
namespace Go.Proofs.Ytedbfmmklmidjab
open Go.RowKit

open Go.Sort

theorem neBlk (x y : Blk) (w : World) : (binOp .neq 25 (.agg #[.int .i64 x.1, .bool x.2.1, .bool x.2.2]) (.agg #[.int .i64 y.1, .bool y.2.1, .bool y.2.2])).run Try.prog w = .ok (.bool (!decide (x = y))) w := by
  obtain ⟨n, i, o⟩ := x
  obtain ⟨n', i', o'⟩ := y
  by_cases e : n = n'
  · subst e
    cases i <;> cases i' <;> cases o <;> cases o' <;> simp [go_sem, Try.underlying25, Try.underlying3, Try.underlying4]
  · simp [go_sem, Try.underlying25, Try.underlying3, Try.underlying4, e]
/-- What is true of an event that can be done. -/
theorem step_facts {b y : Blk} {c : Int} (h : bkStep b c = some y) : bkPos y = true ∧ ¬ y = b ∧ cntTo (nxS b) c (nxS b).size = 1 := by
  rcases bkStep_cases h with ⟨rfl, rfl, rfl⟩ | ⟨rfl, rfl, rfl⟩ | ⟨rfl, rfl, rfl⟩ | ⟨rfl, rfl, rfl⟩ | ⟨rfl, rfl, rfl⟩ | ⟨rfl, rfl, rfl⟩ | ⟨rfl, rfl, rfl⟩ <;> decide
theorem countOfB (S : ByteArray) (hS : S.size ≤ 1048576) (c : Int) (w : World) :
    Calls Try.prog 23 #[.string S, .int .u8 c] w fun e w' => e = .returned (.int .i64 (cntTo S c S.size)) ∧ Below w.heap.size w w' := by
  refine (countOf S hS c w).mono ?_
  rintro e w' ⟨rfl, rfl⟩
  exact ⟨rfl, Below.refl _ _⟩

set_option maxRecDepth 100000 in
set_option maxHeartbeats 8000000 in
theorem walk_FnBlockStep (a0 : Option Addr) (len0 cap0 : Nat) (z0 : List Int) (w : World) (w0 : IsRowK .u8 w a0 len0 cap0 z0) :
    Calls Try.prog 5 #[.slice a0 len0 cap0] w fun e w' => e = .returned (.bool true) ∧ Below w.heap.size w w' := by
  rcases Nat.lt_or_ge 1048576 len0 with hbig | hsm
  · have hb : (1048576 : Int) < (len0 : Int) := by omega
    go_enter Try.func5, Try.ntmps5
    go_wp2_with fail
    go_ret
    exact ⟨rfl, Below.refl _ _⟩
  have hb : (len0 : Int) ≤ 1048576 := by omega
  have DN := Lib.hid (drawStepB w0 hsm)
  clear w0
  go_enter Try.func5, Try.ntmps5
  go_wp2_with (go_at_call 18; refine DN.out.mono ?_)
  rintro e w1 ⟨b, S, rfl, hS, b1⟩
  unfold bkV
  have e1 := below_alloc w1 (.cells #[.int .i64 b.1, .bool b.2.1, .bool b.2.2] 25)
  have t1 := Tri3.new w1 (.int .i64 b.1) (.bool b.2.1) (.bool b.2.2) 25
  obtain ⟨W, hW⟩ : ∃ W, W = w1.alloc (.cells #[.int .i64 b.1, .bool b.2.1, .bool b.2.2] 25) := ⟨_, rfl⟩
  rw [← hW] at e1 t1
  have HW := Lib.hid hW.symm
  have C1 := Lib.hid (chain b1 e1)
  clear hW b1 e1 DN
  go_upto_region 4 with fail
  rw [HW.out]
  have l0 := t1.cell0
  have l1 := t1.cell1
  have l2 := t1.cell2
  have IR := implStepE b S (by omega)
  have SR := specStepE b S
  obtain ⟨o, ho⟩ : ∃ o, o = bkOne b S := ⟨_, rfl⟩
  obtain ⟨y, hy⟩ : ∃ y, y = (bkOne b S).getD nb := ⟨_, rfl⟩
  rw [← hy, ← ho] at IR SR
  obtain ⟨t, ht⟩ : ∃ t, t = o.isSome := ⟨_, rfl⟩
  rw [← ht] at IR SR
  have IR := Lib.hid IR
  have SR := Lib.hid SR
  have HO := Lib.hid (And.intro ho (And.intro hy ht))
  clear ho hy ht
  go_wp2_with (go_at_call 19; refine (IR.out _).mono ?_)
  rintro e w2 ⟨rfl, b2⟩
  have q2 := below_alloc w2 (.cells #[.int .i64 y.1, .bool y.2.1, .bool y.2.2] 25)
  have u2 := Tri3.new w2 (.int .i64 y.1) (.bool y.2.1) (.bool y.2.2) 25
  have t2 := (t1.below b2).below q2
  obtain ⟨W2, hW2⟩ : ∃ X, X = w2.alloc (.cells #[.int .i64 y.1, .bool y.2.1, .bool y.2.2] 25) := ⟨_, rfl⟩
  rw [← hW2] at q2 u2 t2
  have HW2 := Lib.hid hW2.symm
  have C2 := Lib.hid (chain C1.out (chain b2 q2))
  clear hW2 q2 b2 l0 l1 l2 t1
  go_upto_region 5 with fail
  rw [HW2.out]
  have l0 := t2.cell0
  have l1 := t2.cell1
  have l2 := t2.cell2
  go_wp2_with (go_at_call 20; refine (SR.out _).mono ?_)
  rintro e w3 ⟨rfl, b3⟩
  have q3 := below_alloc w3 (.cells #[.int .i64 y.1, .bool y.2.1, .bool y.2.2] 25)
  have v3 := Tri3.new w3 (.int .i64 y.1) (.bool y.2.1) (.bool y.2.2) 25
  have t3 := (t2.below b3).below q3
  have u3 := (u2.below b3).below q3
  obtain ⟨W3, hW3⟩ : ∃ X, X = w3.alloc (.cells #[.int .i64 y.1, .bool y.2.1, .bool y.2.2] 25) := ⟨_, rfl⟩
  rw [← hW3] at q3 v3 u3 t3
  have HW3 := Lib.hid hW3.symm
  have C3 := Lib.hid (chain C2.out (chain b3 q3))
  clear hW3 q3 b3 l0 l1 l2 t2 u2
  go_upto_region 6 with fail
  rw [HW3.out]
  have m0 := u3.cell0
  have m1 := u3.cell1
  have m2 := u3.cell2
  have n0 := v3.cell0
  have n1 := v3.cell1
  have n2 := v3.cell2
  have ne := neBlk y y
  rw [decide_eq_true rfl] at ne
  have eq := eqBlk y y
  rw [decide_eq_true rfl] at eq
  cases t
  · go_wp2_with fail
    go_ret
    exact ⟨rfl, C3.out⟩
  have hone : bkOne b S = some y := by
    obtain ⟨h1, h2, h3⟩ := HO.out
    rw [h1] at h3
    obtain ⟨z, hz⟩ := Option.isSome_iff_exists.1 h3.symm
    rw [hz, Option.getD_some] at h2
    rw [hz, h2]
  have hs1 : S.size = 1 := by
    by_cases e : S.size = 1
    · exact e
    · rw [bkOne_no e] at hone; cases hone
  rw [bkOne_yes hs1] at hone
  obtain ⟨p1, p2, p3⟩ := step_facts hone
  have IX := implRunE b S (by omega)
  rw [bkRun_one hs1, hone] at IX
  simp only [Option.getD_some, Option.isSome_some] at IX
  have IX := Lib.hid IX
  have T3 := Lib.hid t3
  have U3 := Lib.hid u3
  have hix : ∀ (w : World), (Instr.index 9 (.string S) (.int .i64 0)).run Try.prog w = .ok (.int .u8 (bt S 0)) w := by
    intro w
    rw [run_index_string _ _ _ _ _ Try.underlying9, dif_pos ⟨by omega, by omega⟩, ← bt_get (show 0 < S.size by omega)]
    rfl
  obtain ⟨c, hc⟩ : ∃ c, c = bt S 0 := ⟨_, rfl⟩
  rw [← hc] at hix p3
  have nyb := neBlk y b
  rw [decide_eq_false p2] at nyb
  have hNs : (nxS b).size ≤ 7 := nxB_size b 7
  obtain ⟨N, hN⟩ : ∃ N, N = nxS b := ⟨_, rfl⟩
  have NX := implNext b
  rw [← hN] at p3 NX hNs
  have PO := implPossible y
  rw [p1] at PO
  have CO := countOfB N (by omega) c
  rw [p3] at CO
  have PO := Lib.hid PO
  have NX := Lib.hid NX
  have CO := Lib.hid CO
  clear hN hc p1 p2 p3 hone t3 u3 v3
  go_upto_region 8 with fail
  clear m0 m1 m2 n0 n1 n2
  have l0 := T3.out.cell0
  have l1 := T3.out.cell1
  have l2 := T3.out.cell2
  go_wp2_with (go_at_call 21; refine (IX.out _).mono ?_)
  rintro e w5 ⟨rfl, b5⟩
  have q5 := below_alloc w5 (.cells #[.int .i64 y.1, .bool y.2.1, .bool y.2.2] 25)
  have v5 := Tri3.new w5 (.int .i64 y.1) (.bool y.2.1) (.bool y.2.2) 25
  have t5 := (T3.out.below b5).below q5
  have u5 := (U3.out.below b5).below q5
  obtain ⟨W5, hW5⟩ : ∃ X, X = w5.alloc (.cells #[.int .i64 y.1, .bool y.2.1, .bool y.2.2] 25) := ⟨_, rfl⟩
  rw [← hW5] at q5 v5 u5 t5
  have HW5 := Lib.hid hW5.symm
  have C5 := Lib.hid (chain C3.out (chain b5 q5))
  clear hW5 q5 b5 l0 l1 l2
  go_upto_region 9 with fail
  rw [HW5.out]
  have k0 := fun d os => cell_regrown t5.cell0 d os
  have k1 := fun d os => cell_regrown t5.cell1 d os
  have k2 := fun d os => cell_regrown t5.cell2 d os
  have k3 := fun d os => cell_regrown u5.cell0 d os
  have k4 := fun d os => cell_regrown u5.cell1 d os
  have k5 := fun d os => cell_regrown u5.cell2 d os
  have k6 := fun d os => cell_regrown v5.cell0 d os
  have k7 := fun d os => cell_regrown v5.cell1 d os
  have k8 := fun d os => cell_regrown v5.cell2 d os
  have PO := Lib.hid (fun dd os => Calls.regrown_of (PO.out (grow (redrawn W5 dd) os)))
  have NX := Lib.hid (fun dd os => Calls.regrown_of (NX.out (grow (redrawn W5 dd) os)))
  have CO := Lib.hid (fun dd os => Calls.regrown_of (CO.out (grow (redrawn W5 dd) os)))
  clear t5 u5 v5
  refine wp_region_quiet_below (by kernel_rfl) (by kernel_rfl) ?_
  repeat (go_big_quiet_step (first | exact PO.out _ _ | exact NX.out _ _ | exact CO.out _ _))
  refine wpQuiet_nil ?_
  intro _ hw'
  obtain ⟨⟨dq, osq⟩, hw''⟩ := hw'
  subst hw''
  have C6 := Lib.hid (chain C5.out (below_regrown W5 dq osq))
  go_wp2_with fail
  go_ret
  exact ⟨rfl, C6.out⟩

end Go.Proofs.Ytedbfmmklmidjab

namespace Go.Proofs.Ytedbfmmklmidjab.fnBlockStep
open Go.ChangeShapes Go.WideShapes Go.ChangeAt Go.RowKit
open Go.ChangeMaps (open_string shut_string)
set_option linter.unusedVariables false

theorem own : ownKnob Try.prog.godebug = none := by kernel_rfl
theorem laidOut : laidOutB Try.prog = true := by kernel_rfl

set_option maxRecDepth 100000 in
theorem lifted (os : Os) (started : os.Started) (H : Type) (enc : TypeId × Value → H) :
    ReturnsInHanded {} Try.checked os 5 .any (Rows.fnBlockStepSpec.pre6 enc Try.prog Try.f5 Rows.fnBlockStepRow.domain false) (Rows.fnBlockStepSpec.post enc Try.prog Try.f5 false true false false) := by
  refine returnsInHanded_of_change (C := Try.checked) own started (by kernel_rfl) Try.func5
    (ChangeSpec.witness6 (enc := enc) (C := Try.checked) false ⟨#[], #[.slice none 0 0], []⟩ 8 (by kernel_rfl) (by kernel_rfl) (by kernel_rfl) (by kernel_rfl)) ?_
  intro W base args ds gs before hval0 hW hcnd _
  have hval : ∀ (j : Nat) t v, Try.f5.params[j]? = some t → args[j]? = some v → Value.okWide Try.prog W .any base t v := hval0
  have hW' := hW
  obtain ⟨p, q, hA0, hV, rfl, hfz, hnd⟩ := hW
  have hA : DataW.TrodAll enc Try.prog W 0 (fun _ => true) true Try.f5.params.toList args.toList ds p := hA0
  rw [Try.params5] at hA hval
  obtain ⟨v0, vs0, d0, ds0, p0, q0, hargs, rfl, rfl, h0, r0⟩ := trodAll_cons hA
  obtain ⟨rfl, rfl, rfl⟩ := trodAll_nil r0
  obtain rfl : args = #[v0] := by cases args; simp_all
  obtain ⟨rfl, rfl⟩ := trodVars_none hV
  obtain ⟨a0, len0, cap0, rfl⟩ := okWide_slice Try.underlying31 (hval 0 31 v0 rfl rfl)
  have k0 := h0
  have lt0 : ∀ x ∈ p0, x.block < W.heap.size := by obtain ⟨m, hm⟩ := k0; exact DataW.trod_lt m _ _ _ hm
  obtain ⟨z0, w0⟩ : ∃ zs, IsRowK .u8 W a0 len0 cap0 zs := by
    obtain ⟨fuel, hf⟩ := h0
    rcases open_ints Try.underlying31 Try.underlying5 (by kernel_rfl) hf with ⟨hcs, _⟩ | ⟨x, l, c, zs, hcs, _, hl, hm, hz, _, hcell, hwz⟩
    · simp [Value.cells] at hcs
      obtain ⟨rfl, rfl, rfl⟩ := hcs
      exact ⟨[], .inl ⟨rfl, rfl, rfl, rfl⟩⟩
    · simp [Value.cells] at hcs
      obtain ⟨rfl, rfl, rfl⟩ := hcs
      exact ⟨zs, .inr ⟨_, rfl, hl, hm, by simpa using hz, hcell, hwz⟩⟩
  clear hA0 hval0
  refine (walk_FnBlockStep a0 len0 cap0 z0 W w0).mono fun e W' ⟨he, bel⟩ => ?_
  subst he
  exact ⟨_, rfl, _, _, _, [], _, [], hW', trodAll_mk1 (shut_bool Try.underlying4 _), (trodAll_cons_mk (Below.trod laidOut (by kernel_rfl) (of_decide_eq_true (by kernel_rfl)) k0 bel lt0) trodAll_mk0), rfl, bel.frame _, fun h => by cases h⟩

theorem closed : joinedFacts Try.checked.prog 5 Try.f5 Rows.fnBlockStepSpec Rows.fnBlockStepRow = true := by
  unfold joinedFacts
  simp only [Bool.and_eq_true]
  repeat' (refine And.intro ?_ ?_)
  all_goals first
    | with_reducible exact may_enter
    | (rw [lifts_final]; kernel_rfl)
    | (rw [make_is]; kernel_rfl)
    | kernel_rfl

theorem over : Rows.fnBlockStepRow.holds Try.pinned (OpenSpec.ofChange Rows.fnBlockStepSpec) :=
  OpenClaim.holds_of_wide 5 Try.f5 rfl rfl rfl rfl rfl rfl rfl ⟨rfl, rfl, rfl, rfl, rfl⟩ rfl rfl rfl rfl rfl (by kernel_rfl) Try.func5 closed
    (of_decide_eq_true (by kernel_rfl)) (by unfold Func.isWrapper; first | (rw [if_pos (by decide +kernel)]; kernel_rfl) | (rw [if_neg (by decide +kernel)]; exact ⟨rfl, rfl⟩))
    (fun os started H enc _ => lifted os started H enc)

theorem proved : Rows.FnBlockStepSaid := over
#print axioms proved
end Go.Proofs.Ytedbfmmklmidjab.fnBlockStep
