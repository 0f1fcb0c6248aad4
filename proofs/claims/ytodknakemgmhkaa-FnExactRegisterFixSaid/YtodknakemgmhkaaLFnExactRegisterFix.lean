/-
  For every input the law 'FnExactRegisterFix' returns true, and each of its arguments reads behind the call as it read before. Conditions: none beyond those of the row.
-/
import Derived.Test.YtodknakemgmhkaaRows
import Derived.WalkKit
import Derived.ProofKit
import Derived.OpenShut
import Derived.ShutString
import Derived.ChangeOld
import Derived.Below
import Derived.Deep.Matrix
import Derived.Test.YtodknakemgmhkaaIo
import Derived.Test.YtodknakemgmhkaaRegX
import Derived.Test.YtodknakemgmhkaaMarkN
import Derived.Test.YtodknakemgmhkaaOpenN
import Derived.Test.YtodknakemgmhkaaNtsL
namespace Go.Proofs.Ytodknakemgmhkaa
open Go.RowKit

set_option maxRecDepth 100000 in
set_option maxHeartbeats 4000000 in
theorem walk_FnExactRegisterFix (v0 : Value) (w : World) (w0 : IsMvsK w v0) :
    Calls Try.prog 15 #[v0] w fun e w' => e = .returned (.bool true) ∧ Below w.heap.size w w' := by
  go_enter Try.func15, Try.ntmps15
  go_wp2_with (go_at_call 16; refine (szNotesK w0 (by omega) (by omega)).mono ?_)
  rintro e ws0 ⟨n0, rfl, hn1_0, hn0, bs0⟩
  have s0 := bs0
  rcases Int.lt_or_le n0 0 with hneg0 | hpos0
  · have hd0 : decide (n0 < 0) = true := decide_eq_true hneg0
    clear hn0
    go_wp2_with fail
    go_ret
    exact ⟨rfl, s0⟩
  have hd0 : decide (n0 < 0) = false := by simpa using hpos0
  obtain ⟨m0, h0, hs0⟩ := hn0 hpos0
  have hl0 := Rd.len h0
  have hli0 : (m0.length : Int) ≤ 1048576 := by omega
  clear hn0
  have H0 := Lib.hid (show ∀ X, Below ws0.heap.size ws0 X → Mvs X v0 m0 from fun X c => Rd.below (Rd.below h0 bs0) c)
  obtain ⟨rr, hrr⟩ : ∃ rr, rr = fxN m0 := ⟨_, rfl⟩
  obtain ⟨tt, htt⟩ : ∃ tt, tt = fxI m0 := ⟨_, rfl⟩
  have SP := Lib.hid (fun (X : World) (u0 : Value) (j0 : Mvs X u0 m0) => (hrr ▸ htt ▸ specRegisterFix j0  : Calls Try.prog 54 #[u0] X (MadeNI X rr tt)))
  have IM := Lib.hid (fun (X : World) (u0 : Value) (j0 : Mvs X u0 m0) => (hrr ▸ htt ▸ implRegisterFix j0  : Calls Try.prog 55 #[u0] X (MadeNI X rr tt)))
  have hrl : rr.length ≤ 1048576 := by rw [hrr]; exact fxN_len m0
  have hrli : (rr.length : Int) ≤ 1048576 := by omega
  have htl : tt.length ≤ 1048576 := by rw [htt]; exact fxI_len m0
  have htli : (tt.length : Int) ≤ 1048576 := by omega
  clear hrr htt h0 hs0 
  have TN0 := Lib.hid (fun (X : World) (c : Below ws0.heap.size ws0 X) => toNotes (H0.out X c))
  have c0 := Below.refl ws0.heap.size ws0
  go_wp2_with (go_at_call 18; refine (TN0.out _ c0).mono ?_)
  rintro e x1 ⟨vs0, rfl, os0, b⟩
  have c1 := chain c0 b
  have Z1 := Lib.hid b.size
  obtain ⟨qs0, ds0, rfl⟩ := Ow.slice os0
  have Us0 := Lib.hid (fun g e => Ow.under os0 g e)
  have Vs0 := Lib.hid os0
  clear os0 b
  go_wp2_with (go_at_call 54; refine (SP.out _ _ (OwnN.nts Vs0.out hl0)).mono ?_)
  rintro e x2 ⟨vw, yw, rfl, ow, pw, apw, b⟩
  have Vs0 := Lib.hid (Vs0.out.below b)
  have c2 := chain c1 b
  have Z2 := Lib.hid b.size
  obtain ⟨qw, dw, rfl⟩ := Ow.slice ow
  have Uw := Lib.hid (fun g e => Ow.under ow g e)
  have Vw := Lib.hid ow
  obtain ⟨qwi, dwi, rfl⟩ := own_slice2 pw
  have Uwi := Lib.hid (fun g e => World.ownsRow.lt pw g e)
  have Vwi := Lib.hid pw
  have APw := Lib.hid apw
  clear ow pw apw b
  go_wp2_with (go_at_call 18; refine (TN0.out _ c2).mono ?_)
  rintro e x3 ⟨vx0, rfl, ox0, b⟩
  have Vw := Lib.hid (Vw.out.below b)
  have Vwi := Lib.hid (Vwi.out.below b)
  have c3 := chain c2 b
  have Z3 := Lib.hid b.size
  obtain ⟨qx0, dx0, rfl⟩ := Ow.slice ox0
  have Ux0 := Lib.hid (fun g e => Ow.under ox0 g e)
  have Vx0 := Lib.hid ox0
  clear ox0 b
  go_wp2_with (go_at_call 55; refine (IM.out _ _ (OwnN.nts Vx0.out hl0)).mono ?_)
  rintro e x4 ⟨vg, yg, rfl, og, pg, apg, b⟩
  have Vw := Lib.hid (Vw.out.below b)
  have Vwi := Lib.hid (Vwi.out.below b)
  have Vx0 := Lib.hid (Vx0.out.below b)
  have c4 := chain c3 b
  have Z4 := Lib.hid b.size
  obtain ⟨qg, dg, rfl⟩ := Ow.slice og
  have Ug := Lib.hid (fun g e => Ow.under og g e)
  have Vg := Lib.hid og
  obtain ⟨qgi, dgi, rfl⟩ := own_slice2 pg
  have Ugi := Lib.hid (fun g e => World.ownsRow.lt pg g e)
  have Vgi := Lib.hid pg
  have APg := Lib.hid apg
  clear og pg apg b
  go_wp2_with (go_at_call 20; refine (eqNotesS (OwnN.nts Vg.out hrl) (OwnN.nts Vw.out hrl)).mono ?_)
  rintro e x5 ⟨rfl, b⟩
  have Vw := Lib.hid (Vw.out.below b)
  have Vwi := Lib.hid (Vwi.out.below b)
  have Vx0 := Lib.hid (Vx0.out.below b)
  have Vg := Lib.hid (Vg.out.below b)
  have Vgi := Lib.hid (Vgi.out.below b)
  have c5 := chain c4 b
  have Z5 := Lib.hid b.size
  clear b
  go_wp2_with (go_at_call 38; refine (eqInts (OwnI.ints Vgi.out htl) (OwnI.ints Vwi.out htl)).mono ?_)
  rintro e x6 ⟨rfl, b⟩
  have Vw := Lib.hid (Vw.out.below b)
  have Vwi := Lib.hid (Vwi.out.below b)
  have Vx0 := Lib.hid (Vx0.out.below b)
  have Vg := Lib.hid (Vg.out.below b)
  have Vgi := Lib.hid (Vgi.out.below b)
  have c6 := chain c5 b
  have Z6 := Lib.hid b.size
  clear b
  go_wp2_with (go_at_call 18; refine (TN0.out _ c6).mono ?_)
  rintro e x7 ⟨vy0, rfl, oy0, b⟩
  have Vw := Lib.hid (Vw.out.below b)
  have Vwi := Lib.hid (Vwi.out.below b)
  have Vx0 := Lib.hid (Vx0.out.below b)
  have Vg := Lib.hid (Vg.out.below b)
  have Vgi := Lib.hid (Vgi.out.below b)
  have c7 := chain c6 b
  have Z7 := Lib.hid b.size
  clear b
  go_wp2_with (go_at_call 20; refine (eqNotesS (OwnN.nts Vx0.out hl0) (OwnN.nts oy0 hl0)).mono ?_)
  rintro e x8 ⟨rfl, b⟩
  have Vw := Lib.hid (Vw.out.below b)
  have Vwi := Lib.hid (Vwi.out.below b)
  have Vx0 := Lib.hid (Vx0.out.below b)
  have Vg := Lib.hid (Vg.out.below b)
  have Vgi := Lib.hid (Vgi.out.below b)
  have c8 := chain c7 b
  have Z8 := Lib.hid b.size
  clear b oy0
  go_wp2_with (go_at_call 34; refine (markNotesK Vx0.out hl0 (by omega) (by omega)).mono ?_)
  rintro e x9 ⟨rfl, ov, mk⟩
  have Vw := Lib.hid (Ow.kept Vw.out mk (apart_blocks Uw.out Ux0.out (.inl (by  omega))))
  have Vwi := Lib.hid (OwnI.kept Vwi.out mk (apart_blocks Uwi.out Ux0.out (.inl (by  omega))))
  have Vg := Lib.hid (Ow.kept Vg.out mk (apart_blocks Ug.out Ux0.out (.inr (by  omega))))
  have Vgi := Lib.hid (OwnI.kept Vgi.out mk (apart_blocks Ugi.out Ux0.out (.inr (by  omega))))
  have c9 := Below.grown c8 mk c8.size (fun g e => by have := (Ux0.out g e).1; have := Z1.out; have := Z2.out; omega)
  have Z9 := Lib.hid mk.size
  have Vx0 := Lib.hid ov
  clear ov mk
  have hkn : decide ((1 : Int) + m0.length * 2 < 0) = false := by simp; omega
  go_wp2_with (go_at_call 20; refine (eqNotesS (OwnN.nts Vg.out hrl) (OwnN.nts Vw.out hrl)).mono ?_)
  rintro e x10 ⟨rfl, b⟩
  have Vw := Lib.hid (Vw.out.below b)
  have Vwi := Lib.hid (Vwi.out.below b)
  have Vg := Lib.hid (Vg.out.below b)
  have Vgi := Lib.hid (Vgi.out.below b)
  have c10 := chain c9 b
  have Z10 := Lib.hid b.size
  clear b
  go_wp2_with (go_at_call 38; refine (eqInts (OwnI.ints Vgi.out htl) (OwnI.ints Vwi.out htl)).mono ?_)
  rintro e x11 ⟨rfl, b⟩
  have Vw := Lib.hid (Vw.out.below b)
  have Vwi := Lib.hid (Vwi.out.below b)
  have Vg := Lib.hid (Vg.out.below b)
  have Vgi := Lib.hid (Vgi.out.below b)
  have c11 := chain c10 b
  have Z11 := Lib.hid b.size
  clear b
  go_wp2_with (go_at_call 34; refine (markNotesK Vg.out hrl (by omega) (by omega)).mono ?_)
  rintro e x12 ⟨rfl, ov, mk⟩
  have Vw := Lib.hid (Ow.kept Vw.out mk (apart_blocks Uw.out Ug.out (.inl (by have := Z3.out; omega))))
  have Vwi := Lib.hid (OwnI.kept Vwi.out mk (apart_blocks Uwi.out Ug.out (.inl (by have := Z3.out; omega))))
  have Vgi := Lib.hid (OwnI.kept Vgi.out mk (APg.out.2))
  have c12 := Below.grown c11 mk c11.size (fun g e => by have := (Ug.out g e).1; have := Z1.out; have := Z2.out; have := Z3.out; omega)
  have Z12 := Lib.hid mk.size
  have Vg := Lib.hid ov
  clear ov mk
  go_wp2_with (go_at_call 39; refine (markInts Vgi.out htl (by omega) (by omega)).mono ?_)
  rintro e x13 ⟨rfl, ov, mk⟩
  have Vw := Lib.hid (Ow.kept Vw.out mk (apart_blocks Uw.out Ugi.out (.inl (by have := Z3.out; omega))))
  have Vwi := Lib.hid (OwnI.kept Vwi.out mk (apart_blocks Uwi.out Ugi.out (.inl (by have := Z3.out; omega))))
  have Vg := Lib.hid (Ow.kept Vg.out mk (APg.out.1))
  have c13 := Below.grown c12 mk c12.size (fun g e => by have := (Ugi.out g e).1; have := Z1.out; have := Z2.out; have := Z3.out; omega)
  have Z13 := Lib.hid mk.size
  have Vgi := Lib.hid ov
  clear ov mk
  have hkg0 : decide ((1 : Int) + rr.length * 2 < 0) = false := by simp; omega
  have hkg1 : decide ((1 : Int) + rr.length * 2 + tt.length < 0) = false := by simp; omega
  go_wp2_with (go_at_call 35; refine (heldNotes (Ow.rd Vg.out hrl) (by omega) (by omega)).mono ?_)
  rintro e x14 ⟨rfl, b⟩
  have Vw := Lib.hid (Vw.out.below b)
  have Vwi := Lib.hid (Vwi.out.below b)
  have Vg := Lib.hid (Vg.out.below b)
  have Vgi := Lib.hid (Vgi.out.below b)
  have c14 := chain c13 b
  have Z14 := Lib.hid b.size
  clear b
  go_wp2_with (go_at_call 40; refine (heldInts (Vgi.out.ints (by rw [marks_length]; exact htl)) (marks_held (1 + rr.length * 2) _) (by omega) (by omega)).mono ?_)
  rintro e x15 ⟨rfl, rfl⟩
  rw [marks_length]
  go_wp2_with (go_at_call 18; refine (TN0.out _ c14).mono ?_)
  rintro e x16 ⟨vz0, rfl, oz0, b⟩
  have Vw := Lib.hid (Vw.out.below b)
  have Vwi := Lib.hid (Vwi.out.below b)
  have Vg := Lib.hid (Vg.out.below b)
  have Vgi := Lib.hid (Vgi.out.below b)
  have c15 := chain c14 b
  have Z16 := Lib.hid b.size
  obtain ⟨qz0, dz0, rfl⟩ := Ow.slice oz0
  have Uz0 := Lib.hid (fun g e => Ow.under oz0 g e)
  have Vz0 := Lib.hid oz0
  clear oz0 b
  go_wp2_with (go_at_call 55; refine (IM.out _ _ (OwnN.nts Vz0.out hl0)).mono ?_)
  rintro e x17 ⟨vh, yh, rfl, oh, ph, aph, b⟩
  have Vw := Lib.hid (Vw.out.below b)
  have Vwi := Lib.hid (Vwi.out.below b)
  have Vg := Lib.hid (Vg.out.below b)
  have Vgi := Lib.hid (Vgi.out.below b)
  have Vz0 := Lib.hid (Vz0.out.below b)
  have c16 := chain c15 b
  have Z17 := Lib.hid b.size
  obtain ⟨qh, dh, rfl⟩ := Ow.slice oh
  have Uh := Lib.hid (fun g e => Ow.under oh g e)
  have Vh := Lib.hid oh
  obtain ⟨qhi, dhi, rfl⟩ := own_slice2 ph
  have Uhi := Lib.hid (fun g e => World.ownsRow.lt ph g e)
  have Vhi := Lib.hid ph
  have APh := Lib.hid aph
  clear oh ph aph b
  go_wp2_with (go_at_call 20; refine (eqNotesS (OwnN.nts Vh.out hrl) (OwnN.nts Vw.out hrl)).mono ?_)
  rintro e x18 ⟨rfl, b⟩
  have Vw := Lib.hid (Vw.out.below b)
  have Vwi := Lib.hid (Vwi.out.below b)
  have Vg := Lib.hid (Vg.out.below b)
  have Vgi := Lib.hid (Vgi.out.below b)
  have Vh := Lib.hid (Vh.out.below b)
  have Vhi := Lib.hid (Vhi.out.below b)
  have c17 := chain c16 b
  have Z18 := Lib.hid b.size
  clear b
  go_wp2_with (go_at_call 38; refine (eqInts (OwnI.ints Vhi.out htl) (OwnI.ints Vwi.out htl)).mono ?_)
  rintro e x19 ⟨rfl, b⟩
  have Vw := Lib.hid (Vw.out.below b)
  have Vwi := Lib.hid (Vwi.out.below b)
  have Vg := Lib.hid (Vg.out.below b)
  have Vgi := Lib.hid (Vgi.out.below b)
  have Vh := Lib.hid (Vh.out.below b)
  have Vhi := Lib.hid (Vhi.out.below b)
  have c18 := chain c17 b
  have Z19 := Lib.hid b.size
  clear b
  go_wp2_with (go_at_call 35; refine (heldNotes (Ow.rd Vg.out hrl) (by omega) (by omega)).mono ?_)
  rintro e x20 ⟨rfl, b⟩
  have Vw := Lib.hid (Vw.out.below b)
  have Vwi := Lib.hid (Vwi.out.below b)
  have Vg := Lib.hid (Vg.out.below b)
  have Vgi := Lib.hid (Vgi.out.below b)
  have Vh := Lib.hid (Vh.out.below b)
  have Vhi := Lib.hid (Vhi.out.below b)
  have c19 := chain c18 b
  have Z20 := Lib.hid b.size
  clear b
  go_wp2_with (go_at_call 40; refine (heldInts (Vgi.out.ints (by rw [marks_length]; exact htl)) (marks_held (1 + rr.length * 2) _) (by omega) (by omega)).mono ?_)
  rintro e x21 ⟨rfl, rfl⟩
  rw [marks_length]
  go_wp2_with fail
  go_ret
  exact ⟨rfl, chain s0 c19⟩

end Go.Proofs.Ytodknakemgmhkaa

namespace Go.Proofs.Ytodknakemgmhkaa.fnExactRegisterFix
open Go.ChangeShapes Go.WideShapes Go.ChangeAt Go.RowKit
open Go.ChangeMaps (open_string shut_string)
set_option linter.unusedVariables false

theorem own : ownKnob Try.prog.godebug = none := by kernel_rfl
theorem laidOut : laidOutB Try.prog = true := by kernel_rfl

set_option maxRecDepth 100000 in
theorem lifted (os : Os) (started : os.Started) (H : Type) (enc : TypeId × Value → H) :
    ReturnsInHanded {} Try.checked os 15 .any (Rows.fnExactRegisterFixSpec.pre6 enc Try.prog Try.f15 Rows.fnExactRegisterFixRow.domain false) (Rows.fnExactRegisterFixSpec.post enc Try.prog Try.f15 false true false false) := by
  refine returnsInHanded_of_change (C := Try.checked) own started (by kernel_rfl) Try.func15
    (ChangeSpec.witness6 (enc := enc) (C := Try.checked) false ⟨#[], #[.slice none 0 0], []⟩ 8 (by kernel_rfl) (by kernel_rfl) (by kernel_rfl) (by kernel_rfl)) ?_
  intro W base args ds gs before hval0 hW hcnd _
  have hval : ∀ (j : Nat) t v, Try.f15.params[j]? = some t → args[j]? = some v → Value.okWide Try.prog W .any base t v := hval0
  have hW' := hW
  obtain ⟨p, q, hA0, hV, rfl, hfz, hnd⟩ := hW
  have hA : DataW.TrodAll enc Try.prog W 0 (fun _ => true) true Try.f15.params.toList args.toList ds p := hA0
  rw [Try.params15] at hA hval
  obtain ⟨v0, vs0, d0, ds0, p0, q0, hargs, rfl, rfl, h0, r0⟩ := trodAll_cons hA
  obtain ⟨rfl, rfl, rfl⟩ := trodAll_nil r0
  obtain rfl : args = #[v0] := by cases args; simp_all
  obtain ⟨rfl, rfl⟩ := trodVars_none hV
  have w0 := open_notes (hval 0 22 v0 rfl rfl) h0
  have k0 := h0
  have lt0 : ∀ x ∈ p0, x.block < W.heap.size := by obtain ⟨m, hm⟩ := k0; exact DataW.trod_lt m _ _ _ hm
  clear hA0 hval0
  refine (walk_FnExactRegisterFix v0 W w0).mono fun e W' ⟨he, bel⟩ => ?_
  subst he
  exact ⟨_, rfl, _, _, _, [], _, [], hW', trodAll_mk1 (shut_bool Try.underlying4 _), (trodAll_cons_mk (Below.trod laidOut (by kernel_rfl) (of_decide_eq_true (by kernel_rfl)) k0 bel lt0) trodAll_mk0), rfl, bel.frame _, fun h => by cases h⟩

theorem closed : joinedFacts Try.checked.prog 15 Try.f15 Rows.fnExactRegisterFixSpec Rows.fnExactRegisterFixRow = true := by
  unfold joinedFacts
  simp only [Bool.and_eq_true]
  repeat' (refine And.intro ?_ ?_)
  all_goals first
    | with_reducible exact may_enter
    | (rw [lifts_final]; kernel_rfl)
    | (rw [make_is]; kernel_rfl)
    | kernel_rfl

theorem over : Rows.fnExactRegisterFixRow.holds Try.pinned (OpenSpec.ofChange Rows.fnExactRegisterFixSpec) :=
  OpenClaim.holds_of_wide 15 Try.f15 rfl rfl rfl rfl rfl rfl rfl ⟨rfl, rfl, rfl, rfl, rfl⟩ rfl rfl rfl rfl rfl (by kernel_rfl) Try.func15 closed
    (of_decide_eq_true (by kernel_rfl)) (by unfold Func.isWrapper; first | (rw [if_pos (by decide +kernel)]; kernel_rfl) | (rw [if_neg (by decide +kernel)]; exact ⟨rfl, rfl⟩))
    (fun os started H enc _ => lifted os started H enc)

theorem proved : Rows.FnExactRegisterFixSaid := over
#print axioms proved
end Go.Proofs.Ytodknakemgmhkaa.fnExactRegisterFix
