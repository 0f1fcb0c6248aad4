/-
  For every input the law 'FnExactRegisterSlack' returns true, and each of its arguments reads behind the call as it read before. Conditions: none beyond those of the row.
-/
import Derived.Test.YtodknakemgmhkaaRows
import Derived.WalkKit
import Derived.ProofKit
import Derived.OpenShut
import Derived.ShutString
import Derived.ChangeOld
import Derived.Below
import Derived.Deep.Matrix
import Derived.Test.YtodknakemgmhkaaIo
import Derived.Test.YtodknakemgmhkaaRegO2
import Derived.Test.YtodknakemgmhkaaOpenN
import Derived.Test.YtodknakemgmhkaaNtsL
namespace Go.Proofs.Ytodknakemgmhkaa
open Go.RowKit

set_option maxRecDepth 100000 in
set_option maxHeartbeats 4000000 in
theorem walk_FnExactRegisterSlack (v0 : Value) (v1 : Value) (w : World) (w0 : IsMvsK w v0) (w1 : IsMvsK w v1) :
    Calls Try.prog 7 #[v0, v1] w fun e w' => e = .returned (.bool true) ∧ Below w.heap.size w w' := by
  go_enter Try.func7, Try.ntmps7
  go_wp2_with (go_at_call 16; refine (szNotesK w0 (by omega) (by omega)).mono ?_)
  rintro e ws0 ⟨n0, rfl, hn1_0, hn0, bs0⟩
  have s0 := bs0
  rcases Int.lt_or_le n0 0 with hneg0 | hpos0
  · have hd0 : decide (n0 < 0) = true := decide_eq_true hneg0
    clear hn0
    go_wp2_with fail
    go_ret
    exact ⟨rfl, s0⟩
  have hd0 : decide (n0 < 0) = false := by simpa using hpos0
  obtain ⟨m0, h0, hs0⟩ := hn0 hpos0
  have hl0 := Rd.len h0
  have hli0 : (m0.length : Int) ≤ 1048576 := by omega
  clear hn0
  go_wp2_with (go_at_call 16; refine (szNotesK (w1.below s0) hpos0 hn1_0).mono ?_)
  rintro e ws1 ⟨n1, rfl, hn1_1, hn1, bs1⟩
  have s1 := chain s0 bs1
  rcases Int.lt_or_le n1 0 with hneg1 | hpos1
  · have hd1 : decide (n1 < 0) = true := decide_eq_true hneg1
    clear hn1
    go_wp2_with fail
    go_ret
    exact ⟨rfl, s1⟩
  have hd1 : decide (n1 < 0) = false := by simpa using hpos1
  obtain ⟨m1, h1, hs1⟩ := hn1 hpos1
  have hl1 := Rd.len h1
  have hli1 : (m1.length : Int) ≤ 1048576 := by omega
  clear hn1
  have H0 := Lib.hid (show ∀ X, Below ws1.heap.size ws1 X → Mvs X v0 m0 from fun X c => Rd.below (Rd.below (Rd.below h0 bs0) bs1) c)
  have H1 := Lib.hid (show ∀ X, Below ws1.heap.size ws1 X → Mvs X v1 m1 from fun X c => Rd.below (Rd.below h1 bs1) c)
  obtain ⟨rr, hrr⟩ : ∃ rr, rr = slkO m0 m1 := ⟨_, rfl⟩
  have SP := Lib.hid (fun (X : World) (u0 : Value) (j0 : Mvs X u0 m0) (u1 : Value) (j1 : Mvs X u1 m1) => (show Calls Try.prog 27 #[u0, u1] X (fun e w' => e = .returned (.tuple #[.int .i64 ((slkO m0 m1).getD 0), .bool (slkO m0 m1).isSome]) ∧ Below X.heap.size X w') from specRegisterSlack j0 j1 ))
  have IM := Lib.hid (fun (X : World) (u0 : Value) (j0 : Mvs X u0 m0) (u1 : Value) (j1 : Mvs X u1 m1) => (show Calls Try.prog 28 #[u0, u1] X (fun e w' => e = .returned (.tuple #[.int .i64 ((slkO m0 m1).getD 0), .bool (slkO m0 m1).isSome]) ∧ Below X.heap.size X w') from implRegisterSlack j0 j1 ))
  obtain ⟨xx, hxx⟩ : ∃ xx, xx = (slkO m0 m1).getD 0 := ⟨_, rfl⟩
  obtain ⟨tt, htt⟩ : ∃ tt, tt = (slkO m0 m1).isSome := ⟨_, rfl⟩
  rw [← hxx, ← htt] at SP IM
  clear hxx htt
  clear hrr  h0 hs0 h1 hs1
  have TN0 := Lib.hid (fun (X : World) (c : Below ws1.heap.size ws1 X) => toNotes (H0.out X c))
  have TN1 := Lib.hid (fun (X : World) (c : Below ws1.heap.size ws1 X) => toNotes (H1.out X c))
  have c0 := Below.refl ws1.heap.size ws1
  go_wp2_with (go_at_call 18; refine (TN0.out _ c0).mono ?_)
  rintro e x1 ⟨vs0, rfl, os0, b⟩
  have c1 := chain c0 b
  have Z1 := Lib.hid b.size
  have Us0 := Lib.hid (fun g e => Ow.under os0 g e)
  have Vs0 := Lib.hid os0
  obtain ⟨qs0, ds0, rfl⟩ := Ow.slice os0
  clear os0 b
  go_wp2_with (go_at_call 18; refine (TN1.out _ c1).mono ?_)
  rintro e x2 ⟨vs1, rfl, os1, b⟩
  have Vs0 := Lib.hid (Vs0.out.below b)
  have c2 := chain c1 b
  have Z2 := Lib.hid b.size
  have Us1 := Lib.hid (fun g e => Ow.under os1 g e)
  have Vs1 := Lib.hid os1
  obtain ⟨qs1, ds1, rfl⟩ := Ow.slice os1
  clear os1 b
  go_wp2_with (go_at_call 27; refine (SP.out _ _ (OwnN.nts Vs0.out hl0) _ (OwnN.nts Vs1.out hl1)).mono ?_)
  rintro e x3 ⟨rfl, b⟩
  have Vs0 := Lib.hid (Vs0.out.below b)
  have Vs1 := Lib.hid (Vs1.out.below b)
  have c3 := chain c2 b
  have Z3 := Lib.hid b.size
  clear b
  go_wp2_with (go_at_call 18; refine (TN0.out _ c3).mono ?_)
  rintro e x4 ⟨vx0, rfl, ox0, b⟩
  have c4 := chain c3 b
  have Z4 := Lib.hid b.size
  have Ux0 := Lib.hid (fun g e => Ow.under ox0 g e)
  have Vx0 := Lib.hid ox0
  obtain ⟨qx0, dx0, rfl⟩ := Ow.slice ox0
  clear ox0 b
  go_wp2_with (go_at_call 18; refine (TN1.out _ c4).mono ?_)
  rintro e x5 ⟨vx1, rfl, ox1, b⟩
  have Vx0 := Lib.hid (Vx0.out.below b)
  have c5 := chain c4 b
  have Z5 := Lib.hid b.size
  have Ux1 := Lib.hid (fun g e => Ow.under ox1 g e)
  have Vx1 := Lib.hid ox1
  obtain ⟨qx1, dx1, rfl⟩ := Ow.slice ox1
  clear ox1 b
  have cX := c5
  go_wp2_with (go_at_call 28; refine (IM.out _ _ (OwnN.nts Vx0.out hl0) _ (OwnN.nts Vx1.out hl1)).mono ?_)
  rintro e x6 ⟨rfl, b⟩
  have Vx0 := Lib.hid (Vx0.out.below b)
  have Vx1 := Lib.hid (Vx1.out.below b)
  have c6 := chain c5 b
  have Z6 := Lib.hid b.size
  clear b
  go_wp2_with (go_at_call 18; refine (TN0.out _ c6).mono ?_)
  rintro e x7 ⟨vy0, rfl, oy0, b⟩
  have Vx0 := Lib.hid (Vx0.out.below b)
  have Vx1 := Lib.hid (Vx1.out.below b)
  have c7 := chain c6 b
  have Z7 := Lib.hid b.size
  clear b
  go_wp2_with (go_at_call 20; refine (eqNotesS (OwnN.nts Vx0.out hl0) (OwnN.nts oy0 hl0)).mono ?_)
  rintro e x8 ⟨rfl, b⟩
  have Vx0 := Lib.hid (Vx0.out.below b)
  have Vx1 := Lib.hid (Vx1.out.below b)
  have c8 := chain c7 b
  have Z8 := Lib.hid b.size
  clear b oy0
  go_wp2_with (go_at_call 18; refine (TN1.out _ c8).mono ?_)
  rintro e x9 ⟨vy1, rfl, oy1, b⟩
  have Vx0 := Lib.hid (Vx0.out.below b)
  have Vx1 := Lib.hid (Vx1.out.below b)
  have c9 := chain c8 b
  have Z9 := Lib.hid b.size
  clear b
  go_wp2_with (go_at_call 20; refine (eqNotesS (OwnN.nts Vx1.out hl1) (OwnN.nts oy1 hl1)).mono ?_)
  rintro e x10 ⟨rfl, b⟩
  have Vx0 := Lib.hid (Vx0.out.below b)
  have Vx1 := Lib.hid (Vx1.out.below b)
  have c10 := chain c9 b
  have Z10 := Lib.hid b.size
  clear b oy1
  go_wp2_with fail
  go_ret
  exact ⟨rfl, chain s1 c10⟩

end Go.Proofs.Ytodknakemgmhkaa

namespace Go.Proofs.Ytodknakemgmhkaa.fnExactRegisterSlack
open Go.ChangeShapes Go.WideShapes Go.ChangeAt Go.RowKit
open Go.ChangeMaps (open_string shut_string)
set_option linter.unusedVariables false

theorem own : ownKnob Try.prog.godebug = none := by kernel_rfl
theorem laidOut : laidOutB Try.prog = true := by kernel_rfl

set_option maxRecDepth 100000 in
theorem lifted (os : Os) (started : os.Started) (H : Type) (enc : TypeId × Value → H) :
    ReturnsInHanded {} Try.checked os 7 .any (Rows.fnExactRegisterSlackSpec.pre6 enc Try.prog Try.f7 Rows.fnExactRegisterSlackRow.domain false) (Rows.fnExactRegisterSlackSpec.post enc Try.prog Try.f7 false true false false) := by
  refine returnsInHanded_of_change (C := Try.checked) own started (by kernel_rfl) Try.func7
    (ChangeSpec.witness6 (enc := enc) (C := Try.checked) false ⟨#[], #[.slice none 0 0, .slice none 0 0], []⟩ 8 (by kernel_rfl) (by kernel_rfl) (by kernel_rfl) (by kernel_rfl)) ?_
  intro W base args ds gs before hval0 hW hcnd _
  have hval : ∀ (j : Nat) t v, Try.f7.params[j]? = some t → args[j]? = some v → Value.okWide Try.prog W .any base t v := hval0
  have hW' := hW
  obtain ⟨p, q, hA0, hV, rfl, hfz, hnd⟩ := hW
  have hA : DataW.TrodAll enc Try.prog W 0 (fun _ => true) true Try.f7.params.toList args.toList ds p := hA0
  rw [Try.params7] at hA hval
  obtain ⟨v0, vs0, d0, ds0, p0, q0, hargs, rfl, rfl, h0, r0⟩ := trodAll_cons hA
  obtain ⟨v1, vs1, d1, ds1, p1, q1, rfl, rfl, rfl, h1, r1⟩ := trodAll_cons r0
  obtain ⟨rfl, rfl, rfl⟩ := trodAll_nil r1
  obtain rfl : args = #[v0, v1] := by cases args; simp_all
  obtain ⟨rfl, rfl⟩ := trodVars_none hV
  have w0 := open_notes (hval 0 22 v0 rfl rfl) h0
  have k0 := h0
  have lt0 : ∀ x ∈ p0, x.block < W.heap.size := by obtain ⟨m, hm⟩ := k0; exact DataW.trod_lt m _ _ _ hm
  have w1 := open_notes (hval 1 22 v1 rfl rfl) h1
  have k1 := h1
  have lt1 : ∀ x ∈ p1, x.block < W.heap.size := by obtain ⟨m, hm⟩ := k1; exact DataW.trod_lt m _ _ _ hm
  clear hA0 hval0
  refine (walk_FnExactRegisterSlack v0 v1 W w0 w1).mono fun e W' ⟨he, bel⟩ => ?_
  subst he
  exact ⟨_, rfl, _, _, _, [], _, [], hW', trodAll_mk1 (shut_bool Try.underlying4 _), (trodAll_cons_mk (Below.trod laidOut (by kernel_rfl) (of_decide_eq_true (by kernel_rfl)) k0 bel lt0) (trodAll_cons_mk (Below.trod laidOut (by kernel_rfl) (of_decide_eq_true (by kernel_rfl)) k1 bel lt1) trodAll_mk0)), rfl, bel.frame _, fun h => by cases h⟩

theorem closed : joinedFacts Try.checked.prog 7 Try.f7 Rows.fnExactRegisterSlackSpec Rows.fnExactRegisterSlackRow = true := by
  unfold joinedFacts
  simp only [Bool.and_eq_true]
  repeat' (refine And.intro ?_ ?_)
  all_goals first
    | with_reducible exact may_enter
    | (rw [lifts_final]; kernel_rfl)
    | (rw [make_is]; kernel_rfl)
    | kernel_rfl

theorem over : Rows.fnExactRegisterSlackRow.holds Try.pinned (OpenSpec.ofChange Rows.fnExactRegisterSlackSpec) :=
  OpenClaim.holds_of_wide 7 Try.f7 rfl rfl rfl rfl rfl rfl rfl ⟨rfl, rfl, rfl, rfl, rfl⟩ rfl rfl rfl rfl rfl (by kernel_rfl) Try.func7 closed
    (of_decide_eq_true (by kernel_rfl)) (by unfold Func.isWrapper; first | (rw [if_pos (by decide +kernel)]; kernel_rfl) | (rw [if_neg (by decide +kernel)]; exact ⟨rfl, rfl⟩))
    (fun os started H enc _ => lifted os started H enc)

theorem proved : Rows.FnExactRegisterSlackSaid := over
#print axioms proved
end Go.Proofs.Ytodknakemgmhkaa.fnExactRegisterSlack
