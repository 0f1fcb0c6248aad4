/-
  For every input the law 'FnExactRegisterLate' returns true, and each of its arguments reads behind the call as it read before. Conditions: none beyond those of the row.
-/
import Derived.Test.YtodknakemgmhkaaRows
import Derived.WalkKit
import Derived.ProofKit
import Derived.OpenShut
import Derived.ShutString
import Derived.ChangeOld
import Derived.Below
import Derived.Deep.Matrix
import Derived.Test.YtodknakemgmhkaaIo
import Derived.Test.YtodknakemgmhkaaRegL
import Derived.Test.YtodknakemgmhkaaMarkN
import Derived.Test.YtodknakemgmhkaaOpenN
import Derived.Test.YtodknakemgmhkaaNtsL
namespace Go.Proofs.Ytodknakemgmhkaa
open Go.RowKit

set_option maxRecDepth 100000 in
set_option maxHeartbeats 4000000 in
theorem walk_FnExactRegisterLate (v0 : Value) (a1 : Int) (w : World) (w0 : IsMvsK w v0) (w1 : (Lit.int .i64 a1).wf = true) :
    Calls Try.prog 12 #[v0, .int .i64 a1] w fun e w' => e = .returned (.bool true) ∧ Below w.heap.size w w' := by
  have _ := w1
  go_enter Try.func12, Try.ntmps12
  go_wp2_with (go_at_call 16; refine (szNotesK w0 (by omega) (by omega)).mono ?_)
  rintro e ws0 ⟨n0, rfl, hn1_0, hn0, bs0⟩
  have s0 := bs0
  rcases Int.lt_or_le n0 0 with hneg0 | hpos0
  · have hd0 : decide (n0 < 0) = true := decide_eq_true hneg0
    clear hn0
    go_wp2_with fail
    go_ret
    exact ⟨rfl, s0⟩
  have hd0 : decide (n0 < 0) = false := by simpa using hpos0
  obtain ⟨m0, h0, hs0⟩ := hn0 hpos0
  have hl0 := Rd.len h0
  have hli0 : (m0.length : Int) ≤ 1048576 := by omega
  clear hn0
  have H0 := Lib.hid (show ∀ X, Below ws0.heap.size ws0 X → Mvs X v0 m0 from fun X c => Rd.below (Rd.below h0 bs0) c)
  obtain ⟨rr, hrr⟩ : ∃ rr, rr = latV m0 a1 := ⟨_, rfl⟩
  obtain ⟨tt, htt⟩ : ∃ tt, tt = latB m0 a1 := ⟨_, rfl⟩
  have SP := Lib.hid (fun (X : World) (u0 : Value) (j0 : Mvs X u0 m0) => (hrr ▸ htt ▸ specRegisterLate j0 (k := a1) (bounds_i64 w1) : Calls Try.prog 43 #[u0, .int .i64 a1] X (MadeNtsB X rr tt)))
  have IM := Lib.hid (fun (X : World) (u0 : Value) (j0 : Mvs X u0 m0) => (hrr ▸ htt ▸ implRegisterLate j0 a1 : Calls Try.prog 44 #[u0, .int .i64 a1] X (MadeNtsB X rr tt)))
  have hrl : rr.length ≤ 1048576 := by rw [hrr]; exact latV_len m0 a1
  have hrli : (rr.length : Int) ≤ 1048576 := by omega
  clear hrr htt h0 hs0
  have TN0 := Lib.hid (fun (X : World) (c : Below ws0.heap.size ws0 X) => toNotes (H0.out X c))
  have c0 := Below.refl ws0.heap.size ws0
  go_wp2_with (go_at_call 18; refine (TN0.out _ c0).mono ?_)
  rintro e x1 ⟨vs0, rfl, os0, b⟩
  have c1 := chain c0 b
  have Z1 := Lib.hid b.size
  have Us0 := Lib.hid (fun g e => Ow.under os0 g e)
  have Vs0 := Lib.hid os0
  obtain ⟨qs0, ds0, rfl⟩ := Ow.slice os0
  clear os0 b
  go_wp2_with (go_at_call 43; refine (SP.out _ _ (OwnN.nts Vs0.out hl0)).mono ?_)
  rintro e x2 ⟨vw, rfl, ow, b⟩
  obtain ⟨qw, dw, rfl⟩ := Ow.slice ow
  have Uw := Lib.hid (fun g e => Ow.under ow g e)
  have Vs0 := Lib.hid (Vs0.out.below b)
  have c2 := chain c1 b
  have Z2 := Lib.hid b.size
  have Vw := Lib.hid ow
  clear ow b
  go_wp2_with (go_at_call 18; refine (TN0.out _ c2).mono ?_)
  rintro e x3 ⟨vx0, rfl, ox0, b⟩
  have Vw := Lib.hid (Vw.out.below b)
  have c3 := chain c2 b
  have Z3 := Lib.hid b.size
  have Ux0 := Lib.hid (fun g e => Ow.under ox0 g e)
  have Vx0 := Lib.hid ox0
  obtain ⟨qx0, dx0, rfl⟩ := Ow.slice ox0
  clear ox0 b
  have cX := c3
  go_wp2_with (go_at_call 44; refine (IM.out _ _ (OwnN.nts Vx0.out hl0)).mono ?_)
  rintro e x4 ⟨vg, rfl, og, b⟩
  obtain ⟨qg, dg, rfl⟩ := Ow.slice og
  have Ug := Lib.hid (fun g e => Ow.under og g e)
  have Vw := Lib.hid (Vw.out.below b)
  have Vx0 := Lib.hid (Vx0.out.below b)
  have c4 := chain c3 b
  have Z4 := Lib.hid b.size
  have Vg := Lib.hid og
  clear og b
  go_wp2_with (go_at_call 20; refine (eqNotesS (OwnN.nts Vg.out hrl) (OwnN.nts Vw.out hrl)).mono ?_)
  rintro e x5 ⟨rfl, b⟩
  have Vw := Lib.hid (Vw.out.below b)
  have Vx0 := Lib.hid (Vx0.out.below b)
  have Vg := Lib.hid (Vg.out.below b)
  have c5 := chain c4 b
  have Z5 := Lib.hid b.size
  clear b
  go_wp2_with (go_at_call 18; refine (TN0.out _ c5).mono ?_)
  rintro e x6 ⟨vy0, rfl, oy0, b⟩
  have Vw := Lib.hid (Vw.out.below b)
  have Vx0 := Lib.hid (Vx0.out.below b)
  have Vg := Lib.hid (Vg.out.below b)
  have c6 := chain c5 b
  have Z6 := Lib.hid b.size
  clear b
  go_wp2_with (go_at_call 20; refine (eqNotesS (OwnN.nts Vx0.out hl0) (OwnN.nts oy0 hl0)).mono ?_)
  rintro e x7 ⟨rfl, b⟩
  have Vw := Lib.hid (Vw.out.below b)
  have Vx0 := Lib.hid (Vx0.out.below b)
  have Vg := Lib.hid (Vg.out.below b)
  have c7 := chain c6 b
  have Z7 := Lib.hid b.size
  clear b oy0
  go_wp2_with (go_at_call 34; refine (markNotesK Vx0.out hl0 (by omega) (by omega)).mono ?_)
  rintro e x8 ⟨rfl, ox0, mk⟩
  have Vw := Lib.hid (Ow.kept Vw.out mk (apart_blocks Uw.out Ux0.out (.inl (by  omega))))
  have Vg := Lib.hid (Ow.kept Vg.out mk (apart_blocks Ug.out Ux0.out (.inr (by  omega))))
  have c8 := Below.grown c7 mk c7.size (fun g e => by have := (Ux0.out g e).1; have := Z1.out; have := Z2.out; omega)
  have Vx0 := Lib.hid ox0
  clear ox0 mk
  have hkn : decide ((1 : Int) + m0.length * 2 < 0) = false := by simp; omega
  go_wp2_with (go_at_call 20; refine (eqNotesS (OwnN.nts Vg.out hrl) (OwnN.nts Vw.out hrl)).mono ?_)
  rintro e x9 ⟨rfl, b⟩
  have Vw := Lib.hid (Vw.out.below b)
  have Vg := Lib.hid (Vg.out.below b)
  have c9 := chain c8 b
  have Z9 := Lib.hid b.size
  clear b
  go_wp2_with (go_at_call 34; refine (markNotesK Vg.out hrl (by omega) (by omega)).mono ?_)
  rintro e x10 ⟨rfl, og, mk⟩
  have Vw := Lib.hid (Ow.kept Vw.out mk (apart_blocks Uw.out Ug.out (.inl (by have := Z3.out; omega))))
  have c10 := Below.grown c9 mk c9.size (fun g e => by have := (Ug.out g e).1; have := Z1.out; have := Z2.out; have := Z3.out; omega)
  have Vg := Lib.hid og
  clear og mk
  go_wp2_with (go_at_call 35; refine (heldNotes (Ow.rd Vg.out hrl) (by omega) (by omega)).mono ?_)
  rintro e x11 ⟨rfl, b⟩
  have Vw := Lib.hid (Vw.out.below b)
  have Vg := Lib.hid (Vg.out.below b)
  have c11 := chain c10 b
  have Z11 := Lib.hid b.size
  clear b
  have hkg : decide ((1 : Int) + rr.length * 2 < 0) = false := by simp; omega
  go_wp2_with (go_at_call 18; refine (TN0.out _ c11).mono ?_)
  rintro e x12 ⟨vz0, rfl, oz0, b⟩
  have Vw := Lib.hid (Vw.out.below b)
  have Vg := Lib.hid (Vg.out.below b)
  have c12 := chain c11 b
  have Z12 := Lib.hid b.size
  have Uz0 := Lib.hid (fun g e => Ow.under oz0 g e)
  have Vz0 := Lib.hid oz0
  obtain ⟨qz0, dz0, rfl⟩ := Ow.slice oz0
  clear oz0 b
  go_wp2_with (go_at_call 44; refine (IM.out _ _ (OwnN.nts Vz0.out hl0)).mono ?_)
  rintro e x13 ⟨vh, rfl, oh, b⟩
  obtain ⟨qh, dh, rfl⟩ := Ow.slice oh
  have Uh := Lib.hid (fun g e => Ow.under oh g e)
  have Vw := Lib.hid (Vw.out.below b)
  have Vg := Lib.hid (Vg.out.below b)
  have Vz0 := Lib.hid (Vz0.out.below b)
  have c13 := chain c12 b
  have Z13 := Lib.hid b.size
  have Vh := Lib.hid oh
  clear oh b
  go_wp2_with (go_at_call 20; refine (eqNotesS (OwnN.nts Vh.out hrl) (OwnN.nts Vw.out hrl)).mono ?_)
  rintro e x14 ⟨rfl, b⟩
  have Vw := Lib.hid (Vw.out.below b)
  have Vg := Lib.hid (Vg.out.below b)
  have Vh := Lib.hid (Vh.out.below b)
  have c14 := chain c13 b
  have Z14 := Lib.hid b.size
  clear b
  go_wp2_with (go_at_call 35; refine (heldNotes (Ow.rd Vg.out hrl) (by omega) (by omega)).mono ?_)
  rintro e x15 ⟨rfl, b⟩
  have Vw := Lib.hid (Vw.out.below b)
  have Vg := Lib.hid (Vg.out.below b)
  have Vh := Lib.hid (Vh.out.below b)
  have c15 := chain c14 b
  have Z15 := Lib.hid b.size
  clear b
  go_wp2_with fail
  go_ret
  exact ⟨rfl, chain s0 c15⟩

end Go.Proofs.Ytodknakemgmhkaa

namespace Go.Proofs.Ytodknakemgmhkaa.fnExactRegisterLate
open Go.ChangeShapes Go.WideShapes Go.ChangeAt Go.RowKit
open Go.ChangeMaps (open_string shut_string)
set_option linter.unusedVariables false

theorem own : ownKnob Try.prog.godebug = none := by kernel_rfl
theorem laidOut : laidOutB Try.prog = true := by kernel_rfl

set_option maxRecDepth 100000 in
theorem lifted (os : Os) (started : os.Started) (H : Type) (enc : TypeId × Value → H) :
    ReturnsInHanded {} Try.checked os 12 .any (Rows.fnExactRegisterLateSpec.pre6 enc Try.prog Try.f12 Rows.fnExactRegisterLateRow.domain false) (Rows.fnExactRegisterLateSpec.post enc Try.prog Try.f12 false true false false) := by
  refine returnsInHanded_of_change (C := Try.checked) own started (by kernel_rfl) Try.func12
    (ChangeSpec.witness6 (enc := enc) (C := Try.checked) false ⟨#[], #[.slice none 0 0, .int .i64 0], []⟩ 8 (by kernel_rfl) (by kernel_rfl) (by kernel_rfl) (by kernel_rfl)) ?_
  intro W base args ds gs before hval0 hW hcnd _
  have hval : ∀ (j : Nat) t v, Try.f12.params[j]? = some t → args[j]? = some v → Value.okWide Try.prog W .any base t v := hval0
  have hW' := hW
  obtain ⟨p, q, hA0, hV, rfl, hfz, hnd⟩ := hW
  have hA : DataW.TrodAll enc Try.prog W 0 (fun _ => true) true Try.f12.params.toList args.toList ds p := hA0
  rw [Try.params12] at hA hval
  obtain ⟨v0, vs0, d0, ds0, p0, q0, hargs, rfl, rfl, h0, r0⟩ := trodAll_cons hA
  obtain ⟨v1, vs1, d1, ds1, p1, q1, rfl, rfl, rfl, h1, r1⟩ := trodAll_cons r0
  obtain ⟨rfl, rfl, rfl⟩ := trodAll_nil r1
  obtain rfl : args = #[v0, v1] := by cases args; simp_all
  obtain ⟨rfl, rfl⟩ := trodVars_none hV
  have w0 := open_notes (hval 0 22 v0 rfl rfl) h0
  have k0 := h0
  have lt0 : ∀ x ∈ p0, x.block < W.heap.size := by obtain ⟨m, hm⟩ := k0; exact DataW.trod_lt m _ _ _ hm
  obtain ⟨a1, rfl, rfl, rfl, w1⟩ := open_int Try.underlying3 (hval 1 3 v1 rfl rfl) h1
  clear hA0 hval0
  refine (walk_FnExactRegisterLate v0 a1 W w0 w1).mono fun e W' ⟨he, bel⟩ => ?_
  subst he
  exact ⟨_, rfl, _, _, _, [], _, [], hW', trodAll_mk1 (shut_bool Try.underlying4 _), (trodAll_cons_mk (Below.trod laidOut (by kernel_rfl) (of_decide_eq_true (by kernel_rfl)) k0 bel lt0) (trodAll_cons_mk (shut_int Try.underlying3 w1) trodAll_mk0)), rfl, bel.frame _, fun h => by cases h⟩

theorem closed : joinedFacts Try.checked.prog 12 Try.f12 Rows.fnExactRegisterLateSpec Rows.fnExactRegisterLateRow = true := by
  unfold joinedFacts
  simp only [Bool.and_eq_true]
  repeat' (refine And.intro ?_ ?_)
  all_goals first
    | with_reducible exact may_enter
    | (rw [lifts_final]; kernel_rfl)
    | (rw [make_is]; kernel_rfl)
    | kernel_rfl

theorem over : Rows.fnExactRegisterLateRow.holds Try.pinned (OpenSpec.ofChange Rows.fnExactRegisterLateSpec) :=
  OpenClaim.holds_of_wide 12 Try.f12 rfl rfl rfl rfl rfl rfl rfl ⟨rfl, rfl, rfl, rfl, rfl⟩ rfl rfl rfl rfl rfl (by kernel_rfl) Try.func12 closed
    (of_decide_eq_true (by kernel_rfl)) (by unfold Func.isWrapper; first | (rw [if_pos (by decide +kernel)]; kernel_rfl) | (rw [if_neg (by decide +kernel)]; exact ⟨rfl, rfl⟩))
    (fun os started H enc _ => lifted os started H enc)

theorem proved : Rows.FnExactRegisterLateSaid := over
#print axioms proved
end Go.Proofs.Ytodknakemgmhkaa.fnExactRegisterLate
