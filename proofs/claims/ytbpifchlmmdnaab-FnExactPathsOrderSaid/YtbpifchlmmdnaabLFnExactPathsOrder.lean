/-
  For every input the law 'FnExactPathsOrder' returns true, and each of its arguments reads behind the call as it read before. Conditions: none beyond those of the row.
-/
import Derived.Test.YtbpifchlmmdnaabRows
import Derived.WalkKit
import Derived.ProofKit
import Derived.OpenShut
import Derived.ShutString
import Derived.ChangeOld
import Derived.Below
import Derived.Deep.Matrix
import Derived.Test.YtbpifchlmmdnaabIo
import Derived.Test.YtbpifchlmmdnaabOrdS
import Derived.Test.YtbpifchlmmdnaabPathsM
import Derived.Test.YtbpifchlmmdnaabOpenP
namespace Go.Proofs.Ytbpifchlmmdnaab
open Go.RowKit

set_option maxRecDepth 100000 in
set_option maxHeartbeats 4000000 in
theorem walk_FnExactPathsOrder (a0 : Int) (v1 : Value) (a2 : Int) (w : World) (w0 : (Lit.int .i64 a0).wf = true) (w1 : IsPathsK w v1) (w2 : (Lit.int .i64 a2).wf = true) :
    Calls Try.prog 4 #[.int .i64 a0, v1, .int .i64 a2] w fun e w' => e = .returned (.bool true) ∧ Below w.heap.size w w' := by
  have _ := w0
  have _ := w2
  go_enter Try.func4, Try.ntmps4
  go_wp2_with (go_at_call 10; refine (szPathsK w1).mono ?_)
  rintro e wa ⟨n, rfl, hn1, hn, ba⟩
  rcases Int.lt_or_le n 0 with hneg | hpos
  · have hd : decide (n < 0) = true := decide_eq_true hneg
    clear hn w1
    go_wp2_with fail
    go_ret
    exact ⟨rfl, ba⟩
  have hd : decide (n < 0) = false := by simpa using hpos
  obtain ⟨ps, h⟩ := hn hpos
  clear hn w1
  have hpn := h.len
  obtain ⟨cl, hcl⟩ : ∃ cl, cl = ordV a0 ps a2 := ⟨_, rfl⟩
  obtain ⟨t, ht⟩ : ∃ t, t = hasB a0 ps a2 := ⟨_, rfl⟩
  have hcl5 : cl.length ≤ 1048576 := by have := ordV_length a0 ps a2; rw [← hcl] at this; omega
  have SP := Lib.hid (fun (X : World) (u : Value) (j : Paths X u ps) => (hcl ▸ ht ▸ specPathsOrder (n := a0) (k := a2) j : Calls Try.prog 11 #[.int .i64 a0, u, .int .i64 a2] X (MadeIntsB X cl t)))
  have IM := Lib.hid (fun (X : World) (u : Value) (j : Paths X u ps) => (hcl ▸ ht ▸ implOrder (n := a0) (k := a2) j : Calls Try.prog 13 #[.int .i64 a0, u, .int .i64 a2] X (MadeIntsB X cl t)))
  have H := Lib.hid h
  clear hcl ht h
  have hcli : (cl.length : Int) ≤ 1048576 := by omega
  go_wp2_with (go_at_call 12; refine (toPaths (H.out.below ba)).mono ?_)
  rintro e wb ⟨vb, rfl, o1, b1⟩
  have c1 := chain ba b1
  go_wp2_with (go_at_call 11; refine (SP.out _ _ o1.paths).mono ?_)
  rintro e wc ⟨vw, rfl, ow, b2⟩
  obtain ⟨aw, dw, rfl⟩ := own_slice2 ow
  have c2 := chain c1 b2
  have OW := Lib.hid ow
  have UW := Lib.hid (fun b e => (World.ownsRow.lt ow b e).2)
  clear ow o1 b1 b2 c1
  go_wp2_with (go_at_call 12; refine (toPaths (H.out.below c2)).mono ?_)
  rintro e wd ⟨vx, rfl, ox, b3⟩
  have OX := Lib.hid ox
  have OW := Lib.hid (OW.out.below b3)
  have c3 := chain c2 b3
  have z3 := b3.size
  clear b3
  obtain ⟨gx, hvx⟩ : ∃ g, vx = .slice (some ⟨g, 0, none⟩) ps.length ps.length := by obtain ⟨g, e, _⟩ := ox; exact ⟨g, e⟩
  subst hvx
  clear ox
  go_wp2_with (go_at_call 13; refine (IM.out _ _ OX.out.paths).mono ?_)
  rintro e we ⟨vg, rfl, og, b4⟩
  obtain ⟨ag, dg, rfl⟩ := own_slice2 og
  have OG := Lib.hid og
  have UG := Lib.hid (fun b e => (World.ownsRow.lt og b e).1)
  have OW := Lib.hid (OW.out.below b4)
  have c4 := chain c3 b4
  have d4 := b4
  clear og b4
  go_wp2_with (go_at_call 14; refine (eqInts (OG.out.ints hcl5) (OW.out.ints hcl5)).mono ?_)
  rintro e wf ⟨rfl, b5⟩
  have OG := Lib.hid (OG.out.below b5)
  have OW := Lib.hid (OW.out.below b5)
  have c5 := chain c4 b5
  have d5 := chain d4 b5
  clear b5
  go_wp2_with (go_at_call 12; refine (toPaths (H.out.below c5)).mono ?_)
  rintro e wg ⟨vy, rfl, oy, b6⟩
  have OG := Lib.hid (OG.out.below b6)
  have OW := Lib.hid (OW.out.below b6)
  have c6 := chain c5 b6
  have d6 := chain d5 b6
  clear b6
  go_wp2_with (go_at_call 15; refine (eqPathsS (OX.out.below d6).paths oy.paths).mono ?_)
  rintro e wh ⟨rfl, b7⟩
  have OG := Lib.hid (OG.out.below b7)
  have OW := Lib.hid (OW.out.below b7)
  have c7 := chain c6 b7
  have d7 := chain d6 b7
  clear b7 oy
  go_wp2_with (go_at_call 16; refine (markPaths OX.out d7 (by omega) (by omega)).mono ?_)
  rintro e wi ⟨n9, rfl, hn9, hn9', m9⟩
  have c8 := m9.below c7 c2.size
  have OW := Lib.hid (OW.out.keptIn m9 (fun b e => .inl (UW.out b e)))
  have OG := Lib.hid (OG.out.keptIn m9 (fun b e => .inr (UG.out b e)))
  have hneg : decide (n9 < 0) = false := by simp; omega
  clear m9 hn9'
  go_wp2_with (go_at_call 14; refine (eqInts (OG.out.ints hcl5) (OW.out.ints hcl5)).mono ?_)
  rintro e wj ⟨rfl, b8⟩
  have OG := Lib.hid (OG.out.below b8)
  have OW := Lib.hid (OW.out.below b8)
  have c9 := chain c8 b8
  clear b8
  go_wp2_with (go_at_call 17; refine (markInts OG.out hcl5 (by omega) (by omega)).mono ?_)
  rintro e wk ⟨rfl, o4, m4⟩
  have c10 := below_mark c9 OG.out c3.size m4
  have OW := Lib.hid (OW.out.kept m4 (by
    cases e1 : (Value.slice aw cl.length dw).ownBlock with
    | none => exact .inl rfl
    | some b =>
      refine .inr fun e2 => ?_
      have h1 := UW.out b e1
      have h2 := UG.out b e2.symm
      omega))
  have O4 := Lib.hid o4
  clear o4 m4 OG
  go_wp2_with (go_at_call 18; refine (heldInts (O4.out.ints (by rw [marks_length]; exact hcl5)) (marks_held 1 _) (by omega) (by omega)).mono ?_)
  rintro e wk' ⟨rfl, rfl⟩
  rw [marks_length]
  have hk : decide ((1 : Int) + cl.length < 0) = false := by simp; omega
  go_wp2_with (go_at_call 12; refine (toPaths (H.out.below c10)).mono ?_)
  rintro e wl ⟨vz, rfl, oz, b9⟩
  have OW := Lib.hid (OW.out.below b9)
  have O4 := Lib.hid (O4.out.below b9)
  have c11 := chain c10 b9
  clear b9
  go_wp2_with (go_at_call 13; refine (IM.out _ _ oz.paths).mono ?_)
  rintro e wm ⟨v5, rfl, o5, b10⟩
  obtain ⟨a5, e5, rfl⟩ := own_slice2 o5
  have OW := Lib.hid (OW.out.below b10)
  have O4 := Lib.hid (O4.out.below b10)
  have O5 := Lib.hid o5
  have c12 := chain c11 b10
  clear o5 b10 oz
  go_wp2_with (go_at_call 14; refine (eqInts (O5.out.ints hcl5) (OW.out.ints hcl5)).mono ?_)
  rintro e wn ⟨rfl, b11⟩
  have O4 := Lib.hid (O4.out.below b11)
  have c13 := chain c12 b11
  clear b11
  go_wp2_with (go_at_call 18; refine (heldInts (O4.out.ints (by rw [marks_length]; exact hcl5)) (marks_held 1 _) (by omega) (by omega)).mono ?_)
  rintro e wn' ⟨rfl, rfl⟩
  rw [marks_length]
  go_wp2_with fail
  go_ret
  exact ⟨rfl, c13⟩

end Go.Proofs.Ytbpifchlmmdnaab

namespace Go.Proofs.Ytbpifchlmmdnaab.fnExactPathsOrder
open Go.ChangeShapes Go.WideShapes Go.ChangeAt Go.RowKit
open Go.ChangeMaps (open_string shut_string)
set_option linter.unusedVariables false

theorem own : ownKnob Try.prog.godebug = none := by kernel_rfl
theorem laidOut : laidOutB Try.prog = true := by kernel_rfl

set_option maxRecDepth 100000 in
theorem lifted (os : Os) (started : os.Started) (H : Type) (enc : TypeId × Value → H) :
    ReturnsInHanded {} Try.checked os 4 .any (Rows.fnExactPathsOrderSpec.pre6 enc Try.prog Try.f4 Rows.fnExactPathsOrderRow.domain false) (Rows.fnExactPathsOrderSpec.post enc Try.prog Try.f4 false true false false) := by
  refine returnsInHanded_of_change (C := Try.checked) own started (by kernel_rfl) Try.func4
    (ChangeSpec.witness6 (enc := enc) (C := Try.checked) false ⟨#[], #[.int .i64 0, .slice none 0 0, .int .i64 0], []⟩ 8 (by kernel_rfl) (by kernel_rfl) (by kernel_rfl) (by kernel_rfl)) ?_
  intro W base args ds gs before hval0 hW hcnd _
  have hval : ∀ (j : Nat) t v, Try.f4.params[j]? = some t → args[j]? = some v → Value.okWide Try.prog W .any base t v := hval0
  have hW' := hW
  obtain ⟨p, q, hA0, hV, rfl, hfz, hnd⟩ := hW
  have hA : DataW.TrodAll enc Try.prog W 0 (fun _ => true) true Try.f4.params.toList args.toList ds p := hA0
  rw [Try.params4] at hA hval
  obtain ⟨v0, vs0, d0, ds0, p0, q0, hargs, rfl, rfl, h0, r0⟩ := trodAll_cons hA
  obtain ⟨v1, vs1, d1, ds1, p1, q1, rfl, rfl, rfl, h1, r1⟩ := trodAll_cons r0
  obtain ⟨v2, vs2, d2, ds2, p2, q2, rfl, rfl, rfl, h2, r2⟩ := trodAll_cons r1
  obtain ⟨rfl, rfl, rfl⟩ := trodAll_nil r2
  obtain rfl : args = #[v0, v1, v2] := by cases args; simp_all
  obtain ⟨rfl, rfl⟩ := trodVars_none hV
  obtain ⟨a0, rfl, rfl, rfl, w0⟩ := open_int Try.underlying3 (hval 0 3 v0 rfl rfl) h0
  have w1 := open_paths (hval 1 31 v1 rfl rfl) h1
  have k1 := h1
  have lt1 : ∀ x ∈ p1, x.block < W.heap.size := by obtain ⟨m, hm⟩ := k1; exact DataW.trod_lt m _ _ _ hm
  obtain ⟨a2, rfl, rfl, rfl, w2⟩ := open_int Try.underlying3 (hval 2 3 v2 rfl rfl) h2
  clear hA0 hval0
  refine (walk_FnExactPathsOrder a0 v1 a2 W w0 w1 w2).mono fun e W' ⟨he, bel⟩ => ?_
  subst he
  exact ⟨_, rfl, _, _, _, [], _, [], hW', trodAll_mk1 (shut_bool Try.underlying4 _), (trodAll_cons_mk (shut_int Try.underlying3 w0) (trodAll_cons_mk (Below.trod laidOut (by kernel_rfl) (of_decide_eq_true (by kernel_rfl)) k1 bel lt1) (trodAll_cons_mk (shut_int Try.underlying3 w2) trodAll_mk0))), rfl, bel.frame _, fun h => by cases h⟩

theorem closed : joinedFacts Try.checked.prog 4 Try.f4 Rows.fnExactPathsOrderSpec Rows.fnExactPathsOrderRow = true := by
  unfold joinedFacts
  simp only [Bool.and_eq_true]
  repeat' (refine And.intro ?_ ?_)
  all_goals first
    | with_reducible exact may_enter
    | (rw [lifts_final]; kernel_rfl)
    | (rw [make_is]; kernel_rfl)
    | kernel_rfl

theorem over : Rows.fnExactPathsOrderRow.holds Try.pinned (OpenSpec.ofChange Rows.fnExactPathsOrderSpec) :=
  OpenClaim.holds_of_wide 4 Try.f4 rfl rfl rfl rfl rfl rfl rfl ⟨rfl, rfl, rfl, rfl, rfl⟩ rfl rfl rfl rfl rfl (by kernel_rfl) Try.func4 closed
    (of_decide_eq_true (by kernel_rfl)) (by unfold Func.isWrapper; first | (rw [if_pos (by decide +kernel)]; kernel_rfl) | (rw [if_neg (by decide +kernel)]; exact ⟨rfl, rfl⟩))
    (fun os started H enc _ => lifted os started H enc)

theorem proved : Rows.FnExactPathsOrderSaid := over
#print axioms proved
end Go.Proofs.Ytbpifchlmmdnaab.fnExactPathsOrder
