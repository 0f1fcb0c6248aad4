/-
  For every input the law 'FnBlockWay' returns true, and each of its arguments reads behind the call as it read before. Conditions: none beyond those of the row.
-/
import Derived.Test.YtedbfmmklmidjabRows
import Derived.WalkKit
import Derived.ProofKit
import Derived.OpenShut
import Derived.ShutString
import Derived.ChangeOld
import Derived.Below
import Derived.Deep.Matrix
import Derived.Test.YtedbfmmklmidjabIo
import Derived.Test.YtedbfmmklmidjabDrawN
import Derived.Test.YtedbfmmklmidjabWayS
import Derived.Deep.DeepCutAuto
import Derived.Deep.RegionWith
namespace Go.Proofs.Ytedbfmmklmidjab
open Go.RowKit

/-- Where the ways between possible blocks lead. -/
theorem way_facts : ∀ i j : Fin 5, bkRun (bkAt i.val) (bkWay (bkAt i.val) (bkAt j.val)) = some (bkAt j.val) ∧ decide ((bkWay (bkAt i.val) (bkAt j.val)).size = 0) = decide (bkAt i.val = bkAt j.val) ∧ (bkWay (bkAt i.val) (bkAt j.val)).size ≤ 5 ∧
    ((bkWay (bkAt i.val) (bkAt j.val)).size = 0 ∨ ((bkOne (bkAt i.val) ((bkWay (bkAt i.val) (bkAt j.val)).extract 0 1)).isSome = true ∧ bkBoth ((bkOne (bkAt i.val) ((bkWay (bkAt i.val) (bkAt j.val)).extract 0 1)).getD nb) (bkAt j.val) = true ∧ bkWay ((bkOne (bkAt i.val) ((bkWay (bkAt i.val) (bkAt j.val)).extract 0 1)).getD nb) (bkAt j.val) = (bkWay (bkAt i.val) (bkAt j.val)).extract 1 (bkWay (bkAt i.val) (bkAt j.val)).size)) := by decide +kernel

theorem neBlk (x y : Blk) (w : World) : (binOp .neq 25 (.agg #[.int .i64 x.1, .bool x.2.1, .bool x.2.2]) (.agg #[.int .i64 y.1, .bool y.2.1, .bool y.2.2])).run Try.prog w = .ok (.bool (!decide (x = y))) w := by
  obtain ⟨n, i, o⟩ := x
  obtain ⟨n', i', o'⟩ := y
  by_cases e : n = n'
  · subst e
    cases i <;> cases i' <;> cases o <;> cases o' <;> simp [go_sem, Try.underlying25, Try.underlying3, Try.underlying4]
  · simp [go_sem, Try.underlying25, Try.underlying3, Try.underlying4, e]

set_option maxRecDepth 100000 in
set_option maxHeartbeats 4000000 in
theorem walk_FnBlockWay (a0 : Option Addr) (len0 cap0 : Nat) (z0 : List Int) (w : World) (w0 : IsRowK .u8 w a0 len0 cap0 z0) :
    Calls Try.prog 9 #[.slice a0 len0 cap0] w fun e w' => e = .returned (.bool true) ∧ Below w.heap.size w w' := by
  rcases Nat.lt_or_ge 1048576 len0 with hbig | hsm
  · have hb : (1048576 : Int) < (len0 : Int) := by omega
    go_enter Try.func9, Try.ntmps9
    go_wp2_with fail
    go_ret
    exact ⟨rfl, Below.refl _ _⟩
  have hb : (len0 : Int) ≤ 1048576 := by omega
  have DN := Lib.hid (drawWayB w0 hsm)
  clear w0
  go_enter Try.func9, Try.ntmps9
  go_wp2_with (go_at_call 30; refine DN.out.mono ?_)
  rintro e w1 ⟨a, b, rfl, b1⟩
  unfold bkV
  obtain ⟨W, hW⟩ : ∃ W, W = (w1.alloc (.cells #[.int .i64 a.1, .bool a.2.1, .bool a.2.2] 25)).alloc (.cells #[.int .i64 b.1, .bool b.2.1, .bool b.2.2] 25) := ⟨_, rfl⟩
  obtain ⟨t1, u1, e1, -⟩ := two_tri w1 (.int .i64 a.1) (.bool a.2.1) (.bool a.2.2) 25 (.int .i64 b.1) (.bool b.2.1) (.bool b.2.2) 25 W hW
  have HW := Lib.hid hW.symm
  have C1 := Lib.hid (chain b1 e1)
  clear hW b1 e1 DN
  go_upto_region 4 with fail
  rw [HW.out]
  have l0 := t1.cell0
  have l1 := t1.cell1
  have l2 := t1.cell2
  have m0 := u1.cell0
  have m1 := u1.cell1
  have m2 := u1.cell2
  obtain ⟨R, hR⟩ : ∃ R, R = bkWay a b := ⟨_, rfl⟩
  obtain ⟨ok, hok⟩ : ∃ ok, ok = bkBoth a b := ⟨_, rfl⟩
  have IM := Lib.hid (implWay a b)
  have SM := Lib.hid (specWay a b)
  rw [← hR, ← hok] at IM SM
  have HR := Lib.hid hR
  have HO := Lib.hid hok
  clear hR hok
  go_wp2_with (go_at_call 17; refine (IM.out _).mono ?_)
  rintro e w2 ⟨rfl, b2⟩
  have t2 := t1.below b2
  have u2 := u1.below b2
  clear l0 l1 l2 m0 m1 m2
  have l0 := t2.cell0
  have l1 := t2.cell1
  have l2 := t2.cell2
  have m0 := u2.cell0
  have m1 := u2.cell1
  have m2 := u2.cell2
  go_wp2_with (go_at_call 16; refine (SM.out _).mono ?_)
  rintro e w3 ⟨rfl, b3⟩
  have t3 := t2.below b3
  have u3 := u2.below b3
  have C3 := Lib.hid (chain C1.out (chain b2 b3))
  clear l0 l1 l2 m0 m1 m2 b2 b3 t1 t2 u1 u2
  cases ok
  · go_wp2_with fail
    go_ret
    exact ⟨rfl, C3.out⟩
  have hpa : bkPos a = true ∧ bkPos b = true := by
    have := HO.out.symm
    unfold bkBoth at this
    rwa [Bool.and_eq_true] at this
  obtain ⟨hi5, hib⟩ := bkAt_ix hpa.1
  obtain ⟨hj5, hjb⟩ := bkAt_ix hpa.2
  obtain ⟨f1, f2, f3, f4⟩ := way_facts ⟨bkIx a, hi5⟩ ⟨bkIx b, hj5⟩
  simp only [hib, hjb] at f1 f2 f3 f4
  rw [← HR.out] at f1 f2 f3 f4
  have IR := Lib.hid (implRunE a R (by omega))
  rw [f1] at IR
  simp only [Option.getD_some, Option.isSome_some] at IR
  have EQ := empty_is R
  have T3 := Lib.hid t3
  have U3 := Lib.hid u3
  have F4 := Lib.hid f4
  have F2 := Lib.hid f2
  have hR5 : (R.size : Int) ≤ 5 := by omega
  have l0 := t3.cell0
  have l1 := t3.cell1
  have l2 := t3.cell2
  clear f1 f2 f4 hi5 hj5 hib hjb hpa t3 u3
  go_wp2_with (go_at_call 21; refine (IR.out _).mono ?_)
  rintro e w4 ⟨rfl, b4⟩
  have q5 := below_alloc w4 (.cells #[.int .i64 b.1, .bool b.2.1, .bool b.2.2] 25)
  have v5 := Tri3.new w4 (.int .i64 b.1) (.bool b.2.1) (.bool b.2.2) 25
  have t5 := (T3.out.below b4).below q5
  have u5 := (U3.out.below b4).below q5
  obtain ⟨W5, hW5⟩ : ∃ X, X = w4.alloc (.cells #[.int .i64 b.1, .bool b.2.1, .bool b.2.2] 25) := ⟨_, rfl⟩
  rw [← hW5] at q5 v5 t5 u5
  have HW5 := Lib.hid hW5.symm
  have C5 := Lib.hid (chain C3.out (chain b4 q5))
  clear l0 l1 l2 hW5 q5 b4
  go_upto_region 9 with fail
  rw [HW5.out]
  have l0 := t5.cell0
  have l1 := t5.cell1
  have l2 := t5.cell2
  have m0 := u5.cell0
  have m1 := u5.cell1
  have m2 := u5.cell2
  have n0 := v5.cell0
  have n1 := v5.cell1
  have n2 := v5.cell2
  have eb1 := neBlk b b
  rw [decide_eq_true rfl] at eb1
  have eb2 := eqBlk a b
  by_cases hz : R.size = 0
  · have hab : a = b := of_decide_eq_true (F2.out.symm.trans (decide_eq_true hz))
    rw [decide_eq_true hz] at EQ
    rw [decide_eq_true hab] at eb2
    clear hab
    go_wp2_with fail
    go_ret
    exact ⟨rfl, C5.out⟩
  rw [decide_eq_false hz] at EQ
  have hab : ¬ a = b := of_decide_eq_false (F2.out.symm.trans (decide_eq_false hz))
  rw [decide_eq_false hab] at eb2
  obtain ⟨g1, g2, g3⟩ := F4.out.resolve_left hz
  have IS := implStepE a (R.extract 0 1) (by rw [ByteArray.size_extract]; omega)
  rw [g1] at IS
  obtain ⟨y, hy⟩ : ∃ y, y = (bkOne a (R.extract 0 1)).getD nb := ⟨_, rfl⟩
  rw [← hy] at IS g2 g3
  have IW := implWay y b
  rw [g2, g3] at IW
  have IS := Lib.hid IS
  have IW := Lib.hid IW
  have hsl := part_to (S := R) (k := 1) (by omega)
  have hsl2 := part_from (S := R) (k := 1) (by omega)
  have hR1 : (1 : Int) ≤ (R.size : Int) := by omega
  have T5 := Lib.hid t5
  have U5 := Lib.hid u5
  have V5 := Lib.hid v5
  have d0 : Below W5.heap.size W5 W5.drew := (Below.refl _ _).drew
  clear hy g1 g2 g3 t5 u5 v5
  go_upto_region 13 with fail
  clear l0 l1 l2 m0 m1 m2 n0 n1 n2 eb1 eb2
  have l0 := T5.out.cell0
  have l1 := T5.out.cell1
  have l2 := T5.out.cell2
  go_cut [11, 12] (fun p t wx => ∃ g, p = .pointer (some ⟨g, 0, none⟩) ∧ t = .bool true ∧ Tri3 wx g (.int .i64 y.1) (.bool y.2.1) (.bool y.2.2) 25 ∧ Below W5.heap.size W5 wx)
  case first =>
    have l9 : w1.heap.size < W5.heap.size := T5.out.lt
    go_region_with (go_at_call 19; refine (IS.out _).mono ?_; rintro e wA ⟨rfl, bA⟩; first | (have z : Tri3 wA W5.heap.size (.int .i64 0) (.bool false) (.bool false) 25 := (Tri3.new W5.drew (.int .i64 0) (.bool false) (.bool false) 25).below bA; have z0 := z.cell0; have z1 := z.cell1; have z2 := z.cell2; have g0 := z.frozen 0; have g1 := z.frozen 1; have g2 := z.frozen 2) | (have z := d0.trans bA))
    all_goals (go_wp2_with fail; go_meet; first
      | with_reducible exact step_endA z _ _ _ _
      | with_reducible exact step_endB bA z _ _ _ _)
  case rest =>
  obtain ⟨g, rfl, rfl, tg6, bx⟩ := hcut
  have C6 := Lib.hid (chain C5.out bx)
  have u6 := U5.out.below bx
  clear bx l0 l1 l2
  have l0 := tg6.cell0
  have l1 := tg6.cell1
  have l2 := tg6.cell2
  have m0 := u6.cell0
  have m1 := u6.cell1
  have m2 := u6.cell2
  go_wp2_with (go_at_call 17; refine (IW.out _).mono ?_)
  rintro e w7 ⟨rfl, b7⟩
  have C7 := Lib.hid (chain C6.out b7)
  clear b7 l0 l1 l2 m0 m1 m2
  go_wp2_with fail
  go_ret
  exact ⟨rfl, C7.out⟩

end Go.Proofs.Ytedbfmmklmidjab

namespace Go.Proofs.Ytedbfmmklmidjab.fnBlockWay
open Go.ChangeShapes Go.WideShapes Go.ChangeAt Go.RowKit
open Go.ChangeMaps (open_string shut_string)
set_option linter.unusedVariables false

theorem own : ownKnob Try.prog.godebug = none := by kernel_rfl
theorem laidOut : laidOutB Try.prog = true := by kernel_rfl

set_option maxRecDepth 100000 in
theorem lifted (os : Os) (started : os.Started) (H : Type) (enc : TypeId × Value → H) :
    ReturnsInHanded {} Try.checked os 9 .any (Rows.fnBlockWaySpec.pre6 enc Try.prog Try.f9 Rows.fnBlockWayRow.domain false) (Rows.fnBlockWaySpec.post enc Try.prog Try.f9 false true false false) := by
  refine returnsInHanded_of_change (C := Try.checked) own started (by kernel_rfl) Try.func9
    (ChangeSpec.witness6 (enc := enc) (C := Try.checked) false ⟨#[], #[.slice none 0 0], []⟩ 8 (by kernel_rfl) (by kernel_rfl) (by kernel_rfl) (by kernel_rfl)) ?_
  intro W base args ds gs before hval0 hW hcnd _
  have hval : ∀ (j : Nat) t v, Try.f9.params[j]? = some t → args[j]? = some v → Value.okWide Try.prog W .any base t v := hval0
  have hW' := hW
  obtain ⟨p, q, hA0, hV, rfl, hfz, hnd⟩ := hW
  have hA : DataW.TrodAll enc Try.prog W 0 (fun _ => true) true Try.f9.params.toList args.toList ds p := hA0
  rw [Try.params9] at hA hval
  obtain ⟨v0, vs0, d0, ds0, p0, q0, hargs, rfl, rfl, h0, r0⟩ := trodAll_cons hA
  obtain ⟨rfl, rfl, rfl⟩ := trodAll_nil r0
  obtain rfl : args = #[v0] := by cases args; simp_all
  obtain ⟨rfl, rfl⟩ := trodVars_none hV
  obtain ⟨a0, len0, cap0, rfl⟩ := okWide_slice Try.underlying31 (hval 0 31 v0 rfl rfl)
  have k0 := h0
  have lt0 : ∀ x ∈ p0, x.block < W.heap.size := by obtain ⟨m, hm⟩ := k0; exact DataW.trod_lt m _ _ _ hm
  obtain ⟨z0, w0⟩ : ∃ zs, IsRowK .u8 W a0 len0 cap0 zs := by
    obtain ⟨fuel, hf⟩ := h0
    rcases open_ints Try.underlying31 Try.underlying5 (by kernel_rfl) hf with ⟨hcs, _⟩ | ⟨x, l, c, zs, hcs, _, hl, hm, hz, _, hcell, hwz⟩
    · simp [Value.cells] at hcs
      obtain ⟨rfl, rfl, rfl⟩ := hcs
      exact ⟨[], .inl ⟨rfl, rfl, rfl, rfl⟩⟩
    · simp [Value.cells] at hcs
      obtain ⟨rfl, rfl, rfl⟩ := hcs
      exact ⟨zs, .inr ⟨_, rfl, hl, hm, by simpa using hz, hcell, hwz⟩⟩
  clear hA0 hval0
  refine (walk_FnBlockWay a0 len0 cap0 z0 W w0).mono fun e W' ⟨he, bel⟩ => ?_
  subst he
  exact ⟨_, rfl, _, _, _, [], _, [], hW', trodAll_mk1 (shut_bool Try.underlying4 _), (trodAll_cons_mk (Below.trod laidOut (by kernel_rfl) (of_decide_eq_true (by kernel_rfl)) k0 bel lt0) trodAll_mk0), rfl, bel.frame _, fun h => by cases h⟩

theorem closed : joinedFacts Try.checked.prog 9 Try.f9 Rows.fnBlockWaySpec Rows.fnBlockWayRow = true := by
  unfold joinedFacts
  simp only [Bool.and_eq_true]
  repeat' (refine And.intro ?_ ?_)
  all_goals first
    | with_reducible exact may_enter
    | (rw [lifts_final]; kernel_rfl)
    | (rw [make_is]; kernel_rfl)
    | kernel_rfl

theorem over : Rows.fnBlockWayRow.holds Try.pinned (OpenSpec.ofChange Rows.fnBlockWaySpec) :=
  OpenClaim.holds_of_wide 9 Try.f9 rfl rfl rfl rfl rfl rfl rfl ⟨rfl, rfl, rfl, rfl, rfl⟩ rfl rfl rfl rfl rfl (by kernel_rfl) Try.func9 closed
    (of_decide_eq_true (by kernel_rfl)) (by unfold Func.isWrapper; first | (rw [if_pos (by decide +kernel)]; kernel_rfl) | (rw [if_neg (by decide +kernel)]; exact ⟨rfl, rfl⟩))
    (fun os started H enc _ => lifted os started H enc)

theorem proved : Rows.FnBlockWaySaid := over
#print axioms proved
end Go.Proofs.Ytedbfmmklmidjab.fnBlockWay
