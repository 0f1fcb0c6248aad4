/-
  For every input the law 'FnExactRegisterSound' returns true, and each of its arguments reads behind the call as it read before. Conditions: none beyond those of the row.
-/
import Derived.Test.YtodknakemgmhkaaRows
import Derived.WalkKit
import Derived.ProofKit
import Derived.OpenShut
import Derived.ShutString
import Derived.ChangeOld
import Derived.Below
import Derived.Deep.Matrix
import Derived.Test.YtodknakemgmhkaaIo
import Derived.Test.YtodknakemgmhkaaRegS
import Derived.Test.YtodknakemgmhkaaOpenN
import Derived.Test.YtodknakemgmhkaaNtsL
namespace Go.Proofs.Ytodknakemgmhkaa
open Go.RowKit

set_option maxRecDepth 100000 in
set_option maxHeartbeats 4000000 in
theorem walk_FnExactRegisterSound (v0 : Value) (w : World) (w0 : IsMvsK w v0) :
    Calls Try.prog 5 #[v0] w fun e w' => e = .returned (.bool true) ∧ Below w.heap.size w w' := by
  go_enter Try.func5, Try.ntmps5
  go_wp2_with (go_at_call 16; refine (szNotesK w0 (by omega) (by omega)).mono ?_)
  rintro e ws0 ⟨n0, rfl, hn1_0, hn0, bs0⟩
  have s0 := bs0
  rcases Int.lt_or_le n0 0 with hneg0 | hpos0
  · have hd0 : decide (n0 < 0) = true := decide_eq_true hneg0
    clear hn0
    go_wp2_with fail
    go_ret
    exact ⟨rfl, s0⟩
  have hd0 : decide (n0 < 0) = false := by simpa using hpos0
  obtain ⟨m0, h0, hs0⟩ := hn0 hpos0
  have hl0 := Rd.len h0
  have hli0 : (m0.length : Int) ≤ 1048576 := by omega
  clear hn0
  have H0 := Lib.hid (show ∀ X, Below ws0.heap.size ws0 X → Mvs X v0 m0 from fun X c => Rd.below (Rd.below h0 bs0) c)
  obtain ⟨rr, hrr⟩ : ∃ rr, rr = soundB m0 := ⟨_, rfl⟩
  have SP := Lib.hid (fun (X : World) (u0 : Value) (j0 : Mvs X u0 m0) => (hrr ▸ specRegisterSound j0  : Calls Try.prog 23 #[u0] X (fun e w' => e = .returned (.bool rr) ∧ Below X.heap.size X w')))
  have IM := Lib.hid (fun (X : World) (u0 : Value) (j0 : Mvs X u0 m0) => (hrr ▸ implRegisterSound j0  : Calls Try.prog 24 #[u0] X (fun e w' => e = .returned (.bool rr) ∧ Below X.heap.size X w')))
  clear hrr  h0 hs0
  have TN0 := Lib.hid (fun (X : World) (c : Below ws0.heap.size ws0 X) => toNotes (H0.out X c))
  have c0 := Below.refl ws0.heap.size ws0
  go_wp2_with (go_at_call 18; refine (TN0.out _ c0).mono ?_)
  rintro e x1 ⟨vs0, rfl, os0, b⟩
  have c1 := chain c0 b
  have Z1 := Lib.hid b.size
  have Us0 := Lib.hid (fun g e => Ow.under os0 g e)
  have Vs0 := Lib.hid os0
  obtain ⟨qs0, ds0, rfl⟩ := Ow.slice os0
  clear os0 b
  go_wp2_with (go_at_call 23; refine (SP.out _ _ (OwnN.nts Vs0.out hl0)).mono ?_)
  rintro e x2 ⟨rfl, b⟩
  have Vs0 := Lib.hid (Vs0.out.below b)
  have c2 := chain c1 b
  have Z2 := Lib.hid b.size
  clear b
  go_wp2_with (go_at_call 18; refine (TN0.out _ c2).mono ?_)
  rintro e x3 ⟨vx0, rfl, ox0, b⟩
  have c3 := chain c2 b
  have Z3 := Lib.hid b.size
  have Ux0 := Lib.hid (fun g e => Ow.under ox0 g e)
  have Vx0 := Lib.hid ox0
  obtain ⟨qx0, dx0, rfl⟩ := Ow.slice ox0
  clear ox0 b
  have cX := c3
  go_wp2_with (go_at_call 24; refine (IM.out _ _ (OwnN.nts Vx0.out hl0)).mono ?_)
  rintro e x4 ⟨rfl, b⟩
  have Vx0 := Lib.hid (Vx0.out.below b)
  have c4 := chain c3 b
  have Z4 := Lib.hid b.size
  clear b
  go_wp2_with (go_at_call 18; refine (TN0.out _ c4).mono ?_)
  rintro e x5 ⟨vy0, rfl, oy0, b⟩
  have Vx0 := Lib.hid (Vx0.out.below b)
  have c5 := chain c4 b
  have Z5 := Lib.hid b.size
  clear b
  go_wp2_with (go_at_call 20; refine (eqNotesS (OwnN.nts Vx0.out hl0) (OwnN.nts oy0 hl0)).mono ?_)
  rintro e x6 ⟨rfl, b⟩
  have Vx0 := Lib.hid (Vx0.out.below b)
  have c6 := chain c5 b
  have Z6 := Lib.hid b.size
  clear b oy0
  go_wp2_with fail
  go_ret
  exact ⟨rfl, chain s0 c6⟩

end Go.Proofs.Ytodknakemgmhkaa

namespace Go.Proofs.Ytodknakemgmhkaa.fnExactRegisterSound
open Go.ChangeShapes Go.WideShapes Go.ChangeAt Go.RowKit
open Go.ChangeMaps (open_string shut_string)
set_option linter.unusedVariables false

theorem own : ownKnob Try.prog.godebug = none := by kernel_rfl
theorem laidOut : laidOutB Try.prog = true := by kernel_rfl

set_option maxRecDepth 100000 in
theorem lifted (os : Os) (started : os.Started) (H : Type) (enc : TypeId × Value → H) :
    ReturnsInHanded {} Try.checked os 5 .any (Rows.fnExactRegisterSoundSpec.pre6 enc Try.prog Try.f5 Rows.fnExactRegisterSoundRow.domain false) (Rows.fnExactRegisterSoundSpec.post enc Try.prog Try.f5 false true false false) := by
  refine returnsInHanded_of_change (C := Try.checked) own started (by kernel_rfl) Try.func5
    (ChangeSpec.witness6 (enc := enc) (C := Try.checked) false ⟨#[], #[.slice none 0 0], []⟩ 8 (by kernel_rfl) (by kernel_rfl) (by kernel_rfl) (by kernel_rfl)) ?_
  intro W base args ds gs before hval0 hW hcnd _
  have hval : ∀ (j : Nat) t v, Try.f5.params[j]? = some t → args[j]? = some v → Value.okWide Try.prog W .any base t v := hval0
  have hW' := hW
  obtain ⟨p, q, hA0, hV, rfl, hfz, hnd⟩ := hW
  have hA : DataW.TrodAll enc Try.prog W 0 (fun _ => true) true Try.f5.params.toList args.toList ds p := hA0
  rw [Try.params5] at hA hval
  obtain ⟨v0, vs0, d0, ds0, p0, q0, hargs, rfl, rfl, h0, r0⟩ := trodAll_cons hA
  obtain ⟨rfl, rfl, rfl⟩ := trodAll_nil r0
  obtain rfl : args = #[v0] := by cases args; simp_all
  obtain ⟨rfl, rfl⟩ := trodVars_none hV
  have w0 := open_notes (hval 0 22 v0 rfl rfl) h0
  have k0 := h0
  have lt0 : ∀ x ∈ p0, x.block < W.heap.size := by obtain ⟨m, hm⟩ := k0; exact DataW.trod_lt m _ _ _ hm
  clear hA0 hval0
  refine (walk_FnExactRegisterSound v0 W w0).mono fun e W' ⟨he, bel⟩ => ?_
  subst he
  exact ⟨_, rfl, _, _, _, [], _, [], hW', trodAll_mk1 (shut_bool Try.underlying4 _), (trodAll_cons_mk (Below.trod laidOut (by kernel_rfl) (of_decide_eq_true (by kernel_rfl)) k0 bel lt0) trodAll_mk0), rfl, bel.frame _, fun h => by cases h⟩

theorem closed : joinedFacts Try.checked.prog 5 Try.f5 Rows.fnExactRegisterSoundSpec Rows.fnExactRegisterSoundRow = true := by
  unfold joinedFacts
  simp only [Bool.and_eq_true]
  repeat' (refine And.intro ?_ ?_)
  all_goals first
    | with_reducible exact may_enter
    | (rw [lifts_final]; kernel_rfl)
    | (rw [make_is]; kernel_rfl)
    | kernel_rfl

theorem over : Rows.fnExactRegisterSoundRow.holds Try.pinned (OpenSpec.ofChange Rows.fnExactRegisterSoundSpec) :=
  OpenClaim.holds_of_wide 5 Try.f5 rfl rfl rfl rfl rfl rfl rfl ⟨rfl, rfl, rfl, rfl, rfl⟩ rfl rfl rfl rfl rfl (by kernel_rfl) Try.func5 closed
    (of_decide_eq_true (by kernel_rfl)) (by unfold Func.isWrapper; first | (rw [if_pos (by decide +kernel)]; kernel_rfl) | (rw [if_neg (by decide +kernel)]; exact ⟨rfl, rfl⟩))
    (fun os started H enc _ => lifted os started H enc)

theorem proved : Rows.FnExactRegisterSoundSaid := over
#print axioms proved
end Go.Proofs.Ytodknakemgmhkaa.fnExactRegisterSound
