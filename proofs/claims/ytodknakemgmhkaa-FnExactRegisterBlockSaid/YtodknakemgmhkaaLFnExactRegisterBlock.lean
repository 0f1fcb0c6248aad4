/-
  For every input the law 'FnExactRegisterBlock' returns true, and each of its arguments reads behind the call as it read before. Conditions: none beyond those of the row.
-/
import Derived.Test.YtodknakemgmhkaaRows
import Derived.WalkKit
import Derived.ProofKit
import Derived.OpenShut
import Derived.ShutString
import Derived.ChangeOld
import Derived.Below
import Derived.Deep.Matrix
import Derived.Test.YtodknakemgmhkaaIo
import Derived.Test.YtodknakemgmhkaaRegB
import Derived.Test.YtodknakemgmhkaaOpenN
import Derived.Test.YtodknakemgmhkaaNtsL
import Derived.Test.YtodknakemgmhkaaOpenB
import Derived.Deep.DeepCutAuto
import Derived.Deep.RegionWith
namespace Go.Proofs.Ytodknakemgmhkaa
open Go.RowKit

set_option maxRecDepth 100000 in
set_option maxHeartbeats 4000000 in
theorem walk_FnExactRegisterBlock (v0 : Value) (a1 : Int) (w : World) (w0 : IsMvsK w v0) (w1 : (Lit.int .i64 a1).wf = true) :
    Calls Try.prog 8 #[v0, .int .i64 a1] w fun e w' => e = .returned (.bool true) ∧ Below w.heap.size w w' := by
  have _ := w1
  go_enter Try.func8, Try.ntmps8
  go_wp2_with (go_at_call 16; refine (szNotesK w0 (by omega) (by omega)).mono ?_)
  rintro e ws0 ⟨n0, rfl, hn1_0, hn0, bs0⟩
  rcases Int.lt_or_le n0 0 with hneg0 | hpos0
  · have hd0 : decide (n0 < 0) = true := decide_eq_true hneg0
    clear hn0
    go_wp2_with fail
    go_ret
    exact ⟨rfl, bs0⟩
  have hd0 : decide (n0 < 0) = false := by simpa using hpos0
  obtain ⟨m0, h0, hs0⟩ := hn0 hpos0
  have hl0 := Rd.len h0
  have hli0 : (m0.length : Int) ≤ 1048576 := by omega
  clear hn0
  have H0 := Lib.hid (show ∀ X, Below ws0.heap.size ws0 X → Mvs X v0 m0 from fun X c => Rd.below (Rd.below h0 bs0) c)
  obtain ⟨y, hy⟩ : ∃ y, y = (blkV m0 a1).getD nb := ⟨_, rfl⟩
  obtain ⟨t, ht⟩ : ∃ t, t = (blkV m0 a1).isSome := ⟨_, rfl⟩
  have SP := Lib.hid (fun (X : World) (u0 : Value) (j0 : Mvs X u0 m0) => specRegisterBlock j0 a1)
  have IM := Lib.hid (fun (X : World) (u0 : Value) (j0 : Mvs X u0 m0) => implRegisterBlock j0 a1)
  rw [← hy, ← ht] at SP IM
  clear hy ht h0 hs0
  have TN := Lib.hid (fun (X : World) (c : Below ws0.heap.size ws0 X) => toNotes (H0.out X c))
  go_wp2_with (go_at_call 18; refine (TN.out _ (Below.refl _ _)).mono ?_)
  rintro e x1 ⟨vs, rfl, os, b1⟩
  obtain ⟨qs, ds, rfl⟩ := Ow.slice os
  go_wp2_with (go_at_call 29; refine (SP.out _ _ (OwnN.nts os hl0)).mono ?_)
  rintro e x2 ⟨rfl, b2⟩
  have k2 := (chain b1 b2).alloc (chain b1 b2).size (.cells #[.int .i64 y.1, .bool y.2.1, .bool y.2.2] 36)
  have t5 := Tri3.new x2 (.int .i64 y.1) (.bool y.2.1) (.bool y.2.2) 36
  obtain ⟨W2, hW2⟩ : ∃ X, X = x2.alloc (.cells #[.int .i64 y.1, .bool y.2.1, .bool y.2.2] 36) := ⟨_, rfl⟩
  rw [← hW2] at k2 t5
  have T5 := Lib.hid t5
  have HW2 := Lib.hid hW2
  clear t5 hW2 os b1 b2
  go_upto_region 6 with fail
  rw [← HW2.out]
  go_wp2_with (go_at_call 18; refine (TN.out _ k2).mono ?_)
  rintro e x3 ⟨vx, rfl, ox, b3⟩
  obtain ⟨qx, dx, rfl⟩ := Ow.slice ox
  have OX := Lib.hid ox
  have c3 := chain k2 b3
  go_wp2_with (go_at_call 30; refine (IM.out _ _ (OwnN.nts ox hl0)).mono ?_)
  rintro e x4 ⟨rfl, b4⟩
  have k4 := (chain b3 b4).alloc (chain b3 b4).size (.cells #[.int .i64 y.1, .bool y.2.1, .bool y.2.2] 36)
  have c4 := (chain c3 b4).alloc (chain c3 b4).size (.cells #[.int .i64 y.1, .bool y.2.1, .bool y.2.2] 36)
  have o4 := Lib.hid ((OX.out.below b4).below (below_alloc x4 (.cells #[.int .i64 y.1, .bool y.2.1, .bool y.2.2] 36)))
  have t7 := Tri3.new x4 (.int .i64 y.1) (.bool y.2.1) (.bool y.2.2) 36
  obtain ⟨W4, hW4⟩ : ∃ X, X = x4.alloc (.cells #[.int .i64 y.1, .bool y.2.1, .bool y.2.2] 36) := ⟨_, rfl⟩
  rw [← hW4] at k4 t7 c4 o4
  have HW4 := Lib.hid hW4
  have m5 := T5.out.below k4
  have e0 := m5.cell0
  have e1 := m5.cell1
  have e2 := m5.cell2
  have g0 := t7.cell0
  have g1 := t7.cell1
  have g2 := t7.cell2
  clear m5 t7 hW4 ox
  go_upto_region 8 with fail
  rw [← HW4.out]
  go_wp2_with (go_at_call 31; refine (eqBlock y _).mono ?_)
  rintro e x5 ⟨rfl, b5⟩
  have o5 := Lib.hid (o4.out.below b5)
  have c5 := chain c4 b5
  go_wp2_with (go_at_call 18; refine (TN.out _ c5).mono ?_)
  rintro e x6 ⟨vy, rfl, oy, b6⟩
  have o6 := Lib.hid (o5.out.below b6)
  have c6 := chain c5 b6
  go_wp2_with (go_at_call 20; refine (eqNotesS (OwnN.nts o6.out hl0) (OwnN.nts oy hl0)).mono ?_)
  rintro e x7 ⟨rfl, b7⟩
  go_wp2_with fail
  go_ret
  exact ⟨rfl, chain bs0 (chain c6 b7)⟩

end Go.Proofs.Ytodknakemgmhkaa

namespace Go.Proofs.Ytodknakemgmhkaa.fnExactRegisterBlock
open Go.ChangeShapes Go.WideShapes Go.ChangeAt Go.RowKit
open Go.ChangeMaps (open_string shut_string)
set_option linter.unusedVariables false

theorem own : ownKnob Try.prog.godebug = none := by kernel_rfl
theorem laidOut : laidOutB Try.prog = true := by kernel_rfl

set_option maxRecDepth 100000 in
theorem lifted (os : Os) (started : os.Started) (H : Type) (enc : TypeId × Value → H) :
    ReturnsInHanded {} Try.checked os 8 .any (Rows.fnExactRegisterBlockSpec.pre6 enc Try.prog Try.f8 Rows.fnExactRegisterBlockRow.domain false) (Rows.fnExactRegisterBlockSpec.post enc Try.prog Try.f8 false true false false) := by
  refine returnsInHanded_of_change (C := Try.checked) own started (by kernel_rfl) Try.func8
    (ChangeSpec.witness6 (enc := enc) (C := Try.checked) false ⟨#[], #[.slice none 0 0, .int .i64 0], []⟩ 8 (by kernel_rfl) (by kernel_rfl) (by kernel_rfl) (by kernel_rfl)) ?_
  intro W base args ds gs before hval0 hW hcnd _
  have hval : ∀ (j : Nat) t v, Try.f8.params[j]? = some t → args[j]? = some v → Value.okWide Try.prog W .any base t v := hval0
  have hW' := hW
  obtain ⟨p, q, hA0, hV, rfl, hfz, hnd⟩ := hW
  have hA : DataW.TrodAll enc Try.prog W 0 (fun _ => true) true Try.f8.params.toList args.toList ds p := hA0
  rw [Try.params8] at hA hval
  obtain ⟨v0, vs0, d0, ds0, p0, q0, hargs, rfl, rfl, h0, r0⟩ := trodAll_cons hA
  obtain ⟨v1, vs1, d1, ds1, p1, q1, rfl, rfl, rfl, h1, r1⟩ := trodAll_cons r0
  obtain ⟨rfl, rfl, rfl⟩ := trodAll_nil r1
  obtain rfl : args = #[v0, v1] := by cases args; simp_all
  obtain ⟨rfl, rfl⟩ := trodVars_none hV
  have w0 := open_notes (hval 0 22 v0 rfl rfl) h0
  have k0 := h0
  have lt0 : ∀ x ∈ p0, x.block < W.heap.size := by obtain ⟨m, hm⟩ := k0; exact DataW.trod_lt m _ _ _ hm
  obtain ⟨a1, rfl, rfl, rfl, w1⟩ := open_int Try.underlying3 (hval 1 3 v1 rfl rfl) h1
  clear hA0 hval0
  refine (walk_FnExactRegisterBlock v0 a1 W w0 w1).mono fun e W' ⟨he, bel⟩ => ?_
  subst he
  exact ⟨_, rfl, _, _, _, [], _, [], hW', trodAll_mk1 (shut_bool Try.underlying4 _), (trodAll_cons_mk (Below.trod laidOut (by kernel_rfl) (of_decide_eq_true (by kernel_rfl)) k0 bel lt0) (trodAll_cons_mk (shut_int Try.underlying3 w1) trodAll_mk0)), rfl, bel.frame _, fun h => by cases h⟩

theorem closed : joinedFacts Try.checked.prog 8 Try.f8 Rows.fnExactRegisterBlockSpec Rows.fnExactRegisterBlockRow = true := by
  unfold joinedFacts
  simp only [Bool.and_eq_true]
  repeat' (refine And.intro ?_ ?_)
  all_goals first
    | with_reducible exact may_enter
    | (rw [lifts_final]; kernel_rfl)
    | (rw [make_is]; kernel_rfl)
    | kernel_rfl

theorem over : Rows.fnExactRegisterBlockRow.holds Try.pinned (OpenSpec.ofChange Rows.fnExactRegisterBlockSpec) :=
  OpenClaim.holds_of_wide 8 Try.f8 rfl rfl rfl rfl rfl rfl rfl ⟨rfl, rfl, rfl, rfl, rfl⟩ rfl rfl rfl rfl rfl (by kernel_rfl) Try.func8 closed
    (of_decide_eq_true (by kernel_rfl)) (by unfold Func.isWrapper; first | (rw [if_pos (by decide +kernel)]; kernel_rfl) | (rw [if_neg (by decide +kernel)]; exact ⟨rfl, rfl⟩))
    (fun os started H enc _ => lifted os started H enc)

theorem proved : Rows.FnExactRegisterBlockSaid := over
#print axioms proved
end Go.Proofs.Ytodknakemgmhkaa.fnExactRegisterBlock
