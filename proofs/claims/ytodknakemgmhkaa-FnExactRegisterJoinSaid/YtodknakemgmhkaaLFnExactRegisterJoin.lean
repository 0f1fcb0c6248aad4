/-
  For every input the law 'FnExactRegisterJoin' returns true, and each of its arguments reads behind the call as it read before. Conditions: none beyond those of the row.
-/
import Derived.Test.YtodknakemgmhkaaRows
import Derived.WalkKit
import Derived.ProofKit
import Derived.OpenShut
import Derived.ShutString
import Derived.ChangeOld
import Derived.Below
import Derived.Deep.Matrix
import Derived.Test.YtodknakemgmhkaaIo
import Derived.Test.YtodknakemgmhkaaRegJ
import Derived.Test.YtodknakemgmhkaaMarkN
import Derived.Test.YtodknakemgmhkaaOpenN
import Derived.Test.YtodknakemgmhkaaNtsL
namespace Go.Proofs.Ytodknakemgmhkaa
open Go.RowKit

set_option maxRecDepth 100000 in
set_option maxHeartbeats 4000000 in
theorem walk_FnExactRegisterJoin (v0 : Value) (v1 : Value) (w : World) (w0 : IsMvsK w v0) (w1 : IsMvsK w v1) :
    Calls Try.prog 13 #[v0, v1] w fun e w' => e = .returned (.bool true) ∧ Below w.heap.size w w' := by
  go_enter Try.func13, Try.ntmps13
  go_wp2_with (go_at_call 16; refine (szNotesJ w0 (by omega) (by omega)).mono ?_)
  rintro e ws0 ⟨n0, rfl, hn1_0, hn0, bs0⟩
  have s0 := bs0
  rcases Int.lt_or_le n0 0 with hneg0 | hpos0
  · have hd0 : decide (n0 < 0) = true := decide_eq_true hneg0
    clear hn0
    go_wp2_with fail
    go_ret
    exact ⟨rfl, s0⟩
  have hd0 : decide (n0 < 0) = false := by simpa using hpos0
  obtain ⟨m0, h0, hs0⟩ := hn0 hpos0
  have hl0 := Rd.len h0
  have hli0 : (m0.length : Int) ≤ 1048576 := by omega
  clear hn0
  go_wp2_with (go_at_call 16; refine (szNotesJ (w1.below s0) hpos0 hn1_0).mono ?_)
  rintro e ws1 ⟨n1, rfl, hn1_1, hn1, bs1⟩
  have s1 := chain s0 bs1
  rcases Int.lt_or_le n1 0 with hneg1 | hpos1
  · have hd1 : decide (n1 < 0) = true := decide_eq_true hneg1
    clear hn1
    go_wp2_with fail
    go_ret
    exact ⟨rfl, s1⟩
  have hd1 : decide (n1 < 0) = false := by simpa using hpos1
  obtain ⟨m1, h1, hs1⟩ := hn1 hpos1
  have hl1 := Rd.len h1
  have hs01 : m0.length + m1.length ≤ 1048576 := by have := sumS_nonneg m0 m0.length; have := sumS_nonneg m1 m1.length; omega
  have hli1 : (m1.length : Int) ≤ 1048576 := by omega
  clear hn1
  have H0 := Lib.hid (show ∀ X, Below ws1.heap.size ws1 X → Mvs X v0 m0 from fun X c => Rd.below (Rd.below (Rd.below h0 bs0) bs1) c)
  have H1 := Lib.hid (show ∀ X, Below ws1.heap.size ws1 X → Mvs X v1 m1 from fun X c => Rd.below (Rd.below h1 bs1) c)
  obtain ⟨rr, hrr⟩ : ∃ rr, rr = joinV m0 m1 := ⟨_, rfl⟩
  obtain ⟨tt, htt⟩ : ∃ tt, tt = joinB m0 m1 := ⟨_, rfl⟩
  have SP := Lib.hid (fun (X : World) (u0 : Value) (j0 : Mvs X u0 m0) (u1 : Value) (j1 : Mvs X u1 m1) => (hrr ▸ htt ▸ specRegisterJoin j0 j1 hs01 : Calls Try.prog 45 #[u0, u1] X (MadeNtsB X rr tt)))
  have IM := Lib.hid (fun (X : World) (u0 : Value) (j0 : Mvs X u0 m0) (u1 : Value) (j1 : Mvs X u1 m1) => (hrr ▸ htt ▸ implRegisterJoin j0 j1 hs01 : Calls Try.prog 46 #[u0, u1] X (MadeNtsB X rr tt)))
  have hrl : rr.length ≤ 1048576 := by rw [hrr]; exact joinV_len m0 m1
  have hrli : (rr.length : Int) ≤ 1048576 := by omega
  clear hrr htt h0 hs0 h1 hs1 
  have TN0 := Lib.hid (fun (X : World) (c : Below ws1.heap.size ws1 X) => toNotes (H0.out X c))
  have TN1 := Lib.hid (fun (X : World) (c : Below ws1.heap.size ws1 X) => toNotes (H1.out X c))
  have c0 := Below.refl ws1.heap.size ws1
  go_wp2_with (go_at_call 18; refine (TN0.out _ c0).mono ?_)
  rintro e x1 ⟨vs0, rfl, os0, b⟩
  have c1 := chain c0 b
  have Z1 := Lib.hid b.size
  obtain ⟨qs0, ds0, rfl⟩ := Ow.slice os0
  have Us0 := Lib.hid (fun g e => Ow.under os0 g e)
  have Vs0 := Lib.hid os0
  clear os0 b
  go_wp2_with (go_at_call 18; refine (TN1.out _ c1).mono ?_)
  rintro e x2 ⟨vs1, rfl, os1, b⟩
  have Vs0 := Lib.hid (Vs0.out.below b)
  have c2 := chain c1 b
  have Z2 := Lib.hid b.size
  obtain ⟨qs1, ds1, rfl⟩ := Ow.slice os1
  have Us1 := Lib.hid (fun g e => Ow.under os1 g e)
  have Vs1 := Lib.hid os1
  clear os1 b
  go_wp2_with (go_at_call 45; refine (SP.out _ _ (OwnN.nts Vs0.out hl0) _ (OwnN.nts Vs1.out hl1)).mono ?_)
  rintro e x3 ⟨vw, rfl, ow, b⟩
  have Vs0 := Lib.hid (Vs0.out.below b)
  have Vs1 := Lib.hid (Vs1.out.below b)
  have c3 := chain c2 b
  have Z3 := Lib.hid b.size
  obtain ⟨qw, dw, rfl⟩ := Ow.slice ow
  have Uw := Lib.hid (fun g e => Ow.under ow g e)
  have Vw := Lib.hid ow
  clear ow b
  go_wp2_with (go_at_call 18; refine (TN0.out _ c3).mono ?_)
  rintro e x4 ⟨vx0, rfl, ox0, b⟩
  have Vw := Lib.hid (Vw.out.below b)
  have c4 := chain c3 b
  have Z4 := Lib.hid b.size
  obtain ⟨qx0, dx0, rfl⟩ := Ow.slice ox0
  have Ux0 := Lib.hid (fun g e => Ow.under ox0 g e)
  have Vx0 := Lib.hid ox0
  clear ox0 b
  go_wp2_with (go_at_call 18; refine (TN1.out _ c4).mono ?_)
  rintro e x5 ⟨vx1, rfl, ox1, b⟩
  have Vw := Lib.hid (Vw.out.below b)
  have Vx0 := Lib.hid (Vx0.out.below b)
  have c5 := chain c4 b
  have Z5 := Lib.hid b.size
  obtain ⟨qx1, dx1, rfl⟩ := Ow.slice ox1
  have Ux1 := Lib.hid (fun g e => Ow.under ox1 g e)
  have Vx1 := Lib.hid ox1
  clear ox1 b
  go_wp2_with (go_at_call 46; refine (IM.out _ _ (OwnN.nts Vx0.out hl0) _ (OwnN.nts Vx1.out hl1)).mono ?_)
  rintro e x6 ⟨vg, rfl, og, b⟩
  have Vw := Lib.hid (Vw.out.below b)
  have Vx0 := Lib.hid (Vx0.out.below b)
  have Vx1 := Lib.hid (Vx1.out.below b)
  have c6 := chain c5 b
  have Z6 := Lib.hid b.size
  obtain ⟨qg, dg, rfl⟩ := Ow.slice og
  have Ug := Lib.hid (fun g e => Ow.under og g e)
  have Vg := Lib.hid og
  clear og b
  go_wp2_with (go_at_call 20; refine (eqNotesS (OwnN.nts Vg.out hrl) (OwnN.nts Vw.out hrl)).mono ?_)
  rintro e x7 ⟨rfl, b⟩
  have Vw := Lib.hid (Vw.out.below b)
  have Vx0 := Lib.hid (Vx0.out.below b)
  have Vx1 := Lib.hid (Vx1.out.below b)
  have Vg := Lib.hid (Vg.out.below b)
  have c7 := chain c6 b
  have Z7 := Lib.hid b.size
  clear b
  go_wp2_with (go_at_call 18; refine (TN0.out _ c7).mono ?_)
  rintro e x8 ⟨vy0, rfl, oy0, b⟩
  have Vw := Lib.hid (Vw.out.below b)
  have Vx0 := Lib.hid (Vx0.out.below b)
  have Vx1 := Lib.hid (Vx1.out.below b)
  have Vg := Lib.hid (Vg.out.below b)
  have c8 := chain c7 b
  have Z8 := Lib.hid b.size
  clear b
  go_wp2_with (go_at_call 20; refine (eqNotesS (OwnN.nts Vx0.out hl0) (OwnN.nts oy0 hl0)).mono ?_)
  rintro e x9 ⟨rfl, b⟩
  have Vw := Lib.hid (Vw.out.below b)
  have Vx0 := Lib.hid (Vx0.out.below b)
  have Vx1 := Lib.hid (Vx1.out.below b)
  have Vg := Lib.hid (Vg.out.below b)
  have c9 := chain c8 b
  have Z9 := Lib.hid b.size
  clear b oy0
  go_wp2_with (go_at_call 18; refine (TN1.out _ c9).mono ?_)
  rintro e x10 ⟨vy1, rfl, oy1, b⟩
  have Vw := Lib.hid (Vw.out.below b)
  have Vx0 := Lib.hid (Vx0.out.below b)
  have Vx1 := Lib.hid (Vx1.out.below b)
  have Vg := Lib.hid (Vg.out.below b)
  have c10 := chain c9 b
  have Z10 := Lib.hid b.size
  clear b
  go_wp2_with (go_at_call 20; refine (eqNotesS (OwnN.nts Vx1.out hl1) (OwnN.nts oy1 hl1)).mono ?_)
  rintro e x11 ⟨rfl, b⟩
  have Vw := Lib.hid (Vw.out.below b)
  have Vx0 := Lib.hid (Vx0.out.below b)
  have Vx1 := Lib.hid (Vx1.out.below b)
  have Vg := Lib.hid (Vg.out.below b)
  have c11 := chain c10 b
  have Z11 := Lib.hid b.size
  clear b oy1
  go_wp2_with (go_at_call 34; refine (markNotesK Vx0.out hl0 (by omega) (by omega)).mono ?_)
  rintro e x12 ⟨rfl, ov, mk⟩
  have Vw := Lib.hid (Ow.kept Vw.out mk (apart_blocks Uw.out Ux0.out (.inl (by  omega))))
  have Vx1 := Lib.hid (Ow.kept Vx1.out mk (apart_blocks Ux1.out Ux0.out (.inr (by  omega))))
  have Vg := Lib.hid (Ow.kept Vg.out mk (apart_blocks Ug.out Ux0.out (.inr (by have := Z5.out; omega))))
  have c12 := Below.grown c11 mk c11.size (fun g e => by have := (Ux0.out g e).1; have := Z1.out; have := Z2.out; have := Z3.out; omega)
  have Z12 := Lib.hid mk.size
  have Vx0 := Lib.hid ov
  clear ov mk
  go_wp2_with (go_at_call 34; refine (markNotesK Vx1.out hl1 (by omega) (by omega)).mono ?_)
  rintro e x13 ⟨rfl, ov, mk⟩
  have Vw := Lib.hid (Ow.kept Vw.out mk (apart_blocks Uw.out Ux1.out (.inl (by have := Z4.out; omega))))
  have Vg := Lib.hid (Ow.kept Vg.out mk (apart_blocks Ug.out Ux1.out (.inr (by  omega))))
  have Vx0 := Lib.hid (Ow.kept Vx0.out mk (apart_blocks Ux0.out Ux1.out (.inl (by  omega))))
  have c13 := Below.grown c12 mk c12.size (fun g e => by have := (Ux1.out g e).1; have := Z1.out; have := Z2.out; have := Z3.out; have := Z4.out; omega)
  have Z13 := Lib.hid mk.size
  have Vx1 := Lib.hid ov
  clear ov mk
  have hkn : decide ((1 : Int) + m0.length * 2 + m1.length * 2 < 0) = false := by simp; omega
  go_wp2_with (go_at_call 20; refine (eqNotesS (OwnN.nts Vg.out hrl) (OwnN.nts Vw.out hrl)).mono ?_)
  rintro e x14 ⟨rfl, b⟩
  have Vw := Lib.hid (Vw.out.below b)
  have Vg := Lib.hid (Vg.out.below b)
  have c14 := chain c13 b
  have Z14 := Lib.hid b.size
  clear b
  go_wp2_with (go_at_call 34; refine (markNotesK Vg.out hrl (by omega) (by omega)).mono ?_)
  rintro e x15 ⟨rfl, ov, mk⟩
  have Vw := Lib.hid (Ow.kept Vw.out mk (apart_blocks Uw.out Ug.out (.inl (by have := Z4.out; have := Z5.out; omega))))
  have c15 := Below.grown c14 mk c14.size (fun g e => by have := (Ug.out g e).1; have := Z1.out; have := Z2.out; have := Z3.out; have := Z4.out; have := Z5.out; omega)
  have Z15 := Lib.hid mk.size
  have Vg := Lib.hid ov
  clear ov mk
  go_wp2_with (go_at_call 35; refine (heldNotes (Ow.rd Vg.out hrl) (by omega) (by omega)).mono ?_)
  rintro e x16 ⟨rfl, b⟩
  have Vw := Lib.hid (Vw.out.below b)
  have Vg := Lib.hid (Vg.out.below b)
  have c16 := chain c15 b
  have Z16 := Lib.hid b.size
  clear b
  have hkg : decide ((1 : Int) + rr.length * 2 < 0) = false := by simp; omega
  go_wp2_with (go_at_call 18; refine (TN0.out _ c16).mono ?_)
  rintro e x17 ⟨vz0, rfl, oz0, b⟩
  have Vw := Lib.hid (Vw.out.below b)
  have Vg := Lib.hid (Vg.out.below b)
  have c17 := chain c16 b
  have Z17 := Lib.hid b.size
  obtain ⟨qz0, dz0, rfl⟩ := Ow.slice oz0
  have Uz0 := Lib.hid (fun g e => Ow.under oz0 g e)
  have Vz0 := Lib.hid oz0
  clear oz0 b
  go_wp2_with (go_at_call 18; refine (TN1.out _ c17).mono ?_)
  rintro e x18 ⟨vz1, rfl, oz1, b⟩
  have Vw := Lib.hid (Vw.out.below b)
  have Vg := Lib.hid (Vg.out.below b)
  have Vz0 := Lib.hid (Vz0.out.below b)
  have c18 := chain c17 b
  have Z18 := Lib.hid b.size
  obtain ⟨qz1, dz1, rfl⟩ := Ow.slice oz1
  have Uz1 := Lib.hid (fun g e => Ow.under oz1 g e)
  have Vz1 := Lib.hid oz1
  clear oz1 b
  go_wp2_with (go_at_call 46; refine (IM.out _ _ (OwnN.nts Vz0.out hl0) _ (OwnN.nts Vz1.out hl1)).mono ?_)
  rintro e x19 ⟨vh, rfl, oh, b⟩
  have Vw := Lib.hid (Vw.out.below b)
  have Vg := Lib.hid (Vg.out.below b)
  have Vz0 := Lib.hid (Vz0.out.below b)
  have Vz1 := Lib.hid (Vz1.out.below b)
  have c19 := chain c18 b
  have Z19 := Lib.hid b.size
  obtain ⟨qh, dh, rfl⟩ := Ow.slice oh
  have Uh := Lib.hid (fun g e => Ow.under oh g e)
  have Vh := Lib.hid oh
  clear oh b
  go_wp2_with (go_at_call 20; refine (eqNotesS (OwnN.nts Vh.out hrl) (OwnN.nts Vw.out hrl)).mono ?_)
  rintro e x20 ⟨rfl, b⟩
  have Vw := Lib.hid (Vw.out.below b)
  have Vg := Lib.hid (Vg.out.below b)
  have Vh := Lib.hid (Vh.out.below b)
  have c20 := chain c19 b
  have Z20 := Lib.hid b.size
  clear b
  go_wp2_with (go_at_call 35; refine (heldNotes (Ow.rd Vg.out hrl) (by omega) (by omega)).mono ?_)
  rintro e x21 ⟨rfl, b⟩
  have Vw := Lib.hid (Vw.out.below b)
  have Vg := Lib.hid (Vg.out.below b)
  have Vh := Lib.hid (Vh.out.below b)
  have c21 := chain c20 b
  have Z21 := Lib.hid b.size
  clear b
  go_wp2_with fail
  go_ret
  exact ⟨rfl, chain s1 c21⟩

end Go.Proofs.Ytodknakemgmhkaa

namespace Go.Proofs.Ytodknakemgmhkaa.fnExactRegisterJoin
open Go.ChangeShapes Go.WideShapes Go.ChangeAt Go.RowKit
open Go.ChangeMaps (open_string shut_string)
set_option linter.unusedVariables false

theorem own : ownKnob Try.prog.godebug = none := by kernel_rfl
theorem laidOut : laidOutB Try.prog = true := by kernel_rfl

set_option maxRecDepth 100000 in
theorem lifted (os : Os) (started : os.Started) (H : Type) (enc : TypeId × Value → H) :
    ReturnsInHanded {} Try.checked os 13 .any (Rows.fnExactRegisterJoinSpec.pre6 enc Try.prog Try.f13 Rows.fnExactRegisterJoinRow.domain false) (Rows.fnExactRegisterJoinSpec.post enc Try.prog Try.f13 false true false false) := by
  refine returnsInHanded_of_change (C := Try.checked) own started (by kernel_rfl) Try.func13
    (ChangeSpec.witness6 (enc := enc) (C := Try.checked) false ⟨#[], #[.slice none 0 0, .slice none 0 0], []⟩ 8 (by kernel_rfl) (by kernel_rfl) (by kernel_rfl) (by kernel_rfl)) ?_
  intro W base args ds gs before hval0 hW hcnd _
  have hval : ∀ (j : Nat) t v, Try.f13.params[j]? = some t → args[j]? = some v → Value.okWide Try.prog W .any base t v := hval0
  have hW' := hW
  obtain ⟨p, q, hA0, hV, rfl, hfz, hnd⟩ := hW
  have hA : DataW.TrodAll enc Try.prog W 0 (fun _ => true) true Try.f13.params.toList args.toList ds p := hA0
  rw [Try.params13] at hA hval
  obtain ⟨v0, vs0, d0, ds0, p0, q0, hargs, rfl, rfl, h0, r0⟩ := trodAll_cons hA
  obtain ⟨v1, vs1, d1, ds1, p1, q1, rfl, rfl, rfl, h1, r1⟩ := trodAll_cons r0
  obtain ⟨rfl, rfl, rfl⟩ := trodAll_nil r1
  obtain rfl : args = #[v0, v1] := by cases args; simp_all
  obtain ⟨rfl, rfl⟩ := trodVars_none hV
  have w0 := open_notes (hval 0 22 v0 rfl rfl) h0
  have k0 := h0
  have lt0 : ∀ x ∈ p0, x.block < W.heap.size := by obtain ⟨m, hm⟩ := k0; exact DataW.trod_lt m _ _ _ hm
  have w1 := open_notes (hval 1 22 v1 rfl rfl) h1
  have k1 := h1
  have lt1 : ∀ x ∈ p1, x.block < W.heap.size := by obtain ⟨m, hm⟩ := k1; exact DataW.trod_lt m _ _ _ hm
  clear hA0 hval0
  refine (walk_FnExactRegisterJoin v0 v1 W w0 w1).mono fun e W' ⟨he, bel⟩ => ?_
  subst he
  exact ⟨_, rfl, _, _, _, [], _, [], hW', trodAll_mk1 (shut_bool Try.underlying4 _), (trodAll_cons_mk (Below.trod laidOut (by kernel_rfl) (of_decide_eq_true (by kernel_rfl)) k0 bel lt0) (trodAll_cons_mk (Below.trod laidOut (by kernel_rfl) (of_decide_eq_true (by kernel_rfl)) k1 bel lt1) trodAll_mk0)), rfl, bel.frame _, fun h => by cases h⟩

theorem closed : joinedFacts Try.checked.prog 13 Try.f13 Rows.fnExactRegisterJoinSpec Rows.fnExactRegisterJoinRow = true := by
  unfold joinedFacts
  simp only [Bool.and_eq_true]
  repeat' (refine And.intro ?_ ?_)
  all_goals first
    | with_reducible exact may_enter
    | (rw [lifts_final]; kernel_rfl)
    | (rw [make_is]; kernel_rfl)
    | kernel_rfl

theorem over : Rows.fnExactRegisterJoinRow.holds Try.pinned (OpenSpec.ofChange Rows.fnExactRegisterJoinSpec) :=
  OpenClaim.holds_of_wide 13 Try.f13 rfl rfl rfl rfl rfl rfl rfl ⟨rfl, rfl, rfl, rfl, rfl⟩ rfl rfl rfl rfl rfl (by kernel_rfl) Try.func13 closed
    (of_decide_eq_true (by kernel_rfl)) (by unfold Func.isWrapper; first | (rw [if_pos (by decide +kernel)]; kernel_rfl) | (rw [if_neg (by decide +kernel)]; exact ⟨rfl, rfl⟩))
    (fun os started H enc _ => lifted os started H enc)

theorem proved : Rows.FnExactRegisterJoinSaid := over
#print axioms proved
end Go.Proofs.Ytodknakemgmhkaa.fnExactRegisterJoin
