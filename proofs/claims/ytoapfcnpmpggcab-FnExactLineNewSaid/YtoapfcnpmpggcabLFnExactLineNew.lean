/-
  For every input the law 'FnExactLineNew' returns true, and each of its arguments reads behind the call as it read before. Conditions: none beyond those of the row.
-/
import Derived.Test.YtoapfcnpmpggcabRows
import Derived.WalkKit
import Derived.ProofKit
import Derived.OpenShut
import Derived.ShutString
import Derived.ChangeOld
import Derived.Below
import Derived.Deep.Matrix
import Derived.Test.YtoapfcnpmpggcabIo
import Derived.Test.YtoapfcnpmpggcabLineN
import Derived.Test.YtoapfcnpmpggcabMarkL
import Derived.Deep.DeepCutAuto
import Derived.Deep.RegionWith
namespace Go.Proofs.Ytoapfcnpmpggcab
open Go.RowKit

set_option maxRecDepth 100000 in
set_option maxHeartbeats 4000000 in
theorem walk_FnExactLineNew (a0 : Int) (a1 : Int) (w : World) (w0 : (Lit.int .i64 a0).wf = true) (w1 : (Lit.int .i64 a1).wf = true) :
    Calls Try.prog 4 #[.int .i64 a0, .int .i64 a1] w fun e w' => e = .returned (.bool true) ∧ Below w.heap.size w w' := by
  have _ := w0
  have _ := w1
  have hrl : (newV a0 a1).1.length ≤ 5 ∧ (newV a0 a1).2.length ≤ 5 := by
    unfold newV
    split
    · rename_i h
      have := of_decide_eq_true h
      rw [(newLn_len _ _).1, (newLn_len _ _).2]
      omega
    · exact ⟨by simp [noLn], by simp [noLn]⟩
  have HS' := Lib.hid (specLineNew a0 a1)
  have HI' := Lib.hid (implLineNew a0 a1)
  obtain ⟨r, hr⟩ : ∃ r, r = newV a0 a1 := ⟨_, rfl⟩
  obtain ⟨ok, hok⟩ : ∃ ok, ok = newOk a0 a1 := ⟨_, rfl⟩
  rw [← hr, ← hok] at HS' HI'
  rw [← hr] at hrl
  have l1 : r.1.length ≤ 1048576 := by omega
  have l2 : r.2.length ≤ 1048576 := by omega
  have hl1 : (r.1.length : Int) ≤ 5 := by omega
  have hl2 : (r.2.length : Int) ≤ 5 := by omega
  clear hr hok hrl
  go_enter Try.func4, Try.ntmps4
  go_wp2_with (go_at_call 20; refine (HS'.out _).mono ?_)
  rintro e wb ⟨vw, rfl, ow, b2⟩
  obtain ⟨a2', n2, d2, e2, m2, f2, rfl⟩ := ow.form
  have q2 := below_alloc wb (.cells #[.slice a2' n2 d2, .slice e2 m2 f2] 30)
  have pw := Pair.new wb (.slice a2' n2 d2) (.slice e2 m2 f2) 30
  have s2 : (wb.alloc (.cells #[.slice a2' n2 d2, .slice e2 m2 f2] 30)).heap.size = wb.heap.size + 1 := Go.Deep.nblk_alloc _ _
  obtain ⟨w8, hw8⟩ : ∃ X, X = wb.alloc (.cells #[.slice a2' n2 d2, .slice e2 m2 f2] 30) := ⟨_, rfl⟩
  rw [← hw8] at q2 pw s2
  have HW8 := Lib.hid hw8.symm
  have IW := Lib.hid ow.isIn
  have OW := Lib.hid (ow.below q2)
  have PW := Lib.hid pw
  have c3 := chain b2 q2
  have S2 := Lib.hid s2
  clear hw8 pw ow q2 b2 s2
  go_upto_region 2 with fail
  rw [HW8.out]
  go_wp2_with (go_at_call 21; refine (HI'.out _).mono ?_)
  rintro e we ⟨vg, rfl, og, b5⟩
  obtain ⟨a5, n5, d5, e5, m5, f5, rfl⟩ := og.form
  have q5 := below_alloc we (.cells #[.slice a5 n5 d5, .slice e5 m5 f5] 30)
  have pg := Pair.new we (.slice a5 n5 d5) (.slice e5 m5 f5) 30
  obtain ⟨w11, hw11⟩ : ∃ X, X = we.alloc (.cells #[.slice a5 n5 d5, .slice e5 m5 f5] 30) := ⟨_, rfl⟩
  rw [← hw11] at q5 pg
  have HW11 := Lib.hid hw11.symm
  have IG := Lib.hid og.isIn
  have OG := Lib.hid (og.below q5)
  have PG := Lib.hid pg
  have OW := Lib.hid ((OW.out.below b5).below q5)
  have PW := Lib.hid ((PW.out.below b5).below q5)
  have c6 := chain (chain c3 b5) q5
  clear hw11 pg og q5 b5
  go_upto_region 3 with fail
  rw [HW11.out]
  have k0 := PW.out.cell0
  have k1 := PW.out.cell1
  have k2 := PG.out.cell0
  have k3 := PG.out.cell1
  go_wp2_with (go_at_call 19; refine (eqLines2 (OG.out.lineV l1 l2) (OW.out.lineV l1 l2)).mono ?_)
  rintro e wg ⟨rfl, b6⟩
  have OW := Lib.hid (OW.out.below b6)
  have PW := Lib.hid (PW.out.below b6)
  have OG := Lib.hid (OG.out.below b6)
  have PG := Lib.hid (PG.out.below b6)
  have c7 := chain c6 b6
  clear k0 k1 k2 k3 b6
  have k2 := PG.out.cell0
  have k3 := PG.out.cell1
  go_wp2_with (go_at_call 22; refine (markLine OG.out IG.out l1 l2 (by omega) (by omega)).mono ?_)
  rintro e wl ⟨rfl, og, m11⟩
  have c12 := m11.below c7 c3.size
  have OW := Lib.hid (OW.out.keptIn m11 IW.out (.inl (by have := S2.out; omega)))
  have PW := Lib.hid (PW.out.keptIn m11 (.inl (by have := S2.out; omega)))
  have PG := Lib.hid (PG.out.keptIn m11 (.inr (Nat.le_refl _)))
  have OG := Lib.hid og
  clear og m11 k2 k3
  have k2 := PG.out.cell0
  have k3 := PG.out.cell1
  go_wp2_with (go_at_call 23; refine (heldLine OG.out l1 l2 (by omega) (by omega)).mono ?_)
  rintro e wm ⟨rfl, b12⟩
  have OW := Lib.hid (OW.out.below b12)
  have PW := Lib.hid (PW.out.below b12)
  have OG := Lib.hid (OG.out.below b12)
  have PG := Lib.hid (PG.out.below b12)
  have c13 := chain c12 b12
  have hneg : decide ((1 : Int) + r.1.length * 3 + r.2.length < 0) = false := by simp; omega
  clear k2 k3 b12
  go_wp2_with (go_at_call 21; refine (HI'.out _).mono ?_)
  rintro e wo ⟨vh, rfl, oh, b14⟩
  obtain ⟨a7, n7, d7, e7, m7, f7, rfl⟩ := oh.form
  have q7 := below_alloc wo (.cells #[.slice a7 n7 d7, .slice e7 m7 f7] 30)
  have ph := Pair.new wo (.slice a7 n7 d7) (.slice e7 m7 f7) 30
  obtain ⟨wp, hwp⟩ : ∃ X, X = wo.alloc (.cells #[.slice a7 n7 d7, .slice e7 m7 f7] 30) := ⟨_, rfl⟩
  rw [← hwp] at q7 ph
  have HWP := Lib.hid hwp.symm
  have OH := Lib.hid (oh.below q7)
  have PH := Lib.hid ph
  have OW := Lib.hid ((OW.out.below b14).below q7)
  have PW := Lib.hid ((PW.out.below b14).below q7)
  have OG := Lib.hid ((OG.out.below b14).below q7)
  have PG := Lib.hid ((PG.out.below b14).below q7)
  have c15 := chain (chain c13 b14) q7
  clear hwp ph oh q7 b14
  go_upto_region 14 with fail
  rw [HWP.out]
  have k0 := PW.out.cell0
  have k1 := PW.out.cell1
  have k2 := PH.out.cell0
  have k3 := PH.out.cell1
  go_wp2_with (go_at_call 19; refine (eqLines2 (OH.out.lineV l1 l2) (OW.out.lineV l1 l2)).mono ?_)
  rintro e wq ⟨rfl, b15⟩
  have OG := Lib.hid (OG.out.below b15)
  have PG := Lib.hid (PG.out.below b15)
  have c16 := chain c15 b15
  clear k0 k1 k2 k3 b15
  have k2 := PG.out.cell0
  have k3 := PG.out.cell1
  go_wp2_with (go_at_call 23; refine (heldLine OG.out l1 l2 (by omega) (by omega)).mono ?_)
  rintro e wr ⟨rfl, b16⟩
  go_wp2_with fail
  go_ret
  exact ⟨rfl, chain c16 b16⟩

end Go.Proofs.Ytoapfcnpmpggcab

namespace Go.Proofs.Ytoapfcnpmpggcab.fnExactLineNew
open Go.ChangeShapes Go.WideShapes Go.ChangeAt Go.RowKit
open Go.ChangeMaps (open_string shut_string)
set_option linter.unusedVariables false

theorem own : ownKnob Try.prog.godebug = none := by kernel_rfl
theorem laidOut : laidOutB Try.prog = true := by kernel_rfl

set_option maxRecDepth 100000 in
theorem lifted (os : Os) (started : os.Started) (H : Type) (enc : TypeId × Value → H) :
    ReturnsInHanded {} Try.checked os 4 .any (Rows.fnExactLineNewSpec.pre6 enc Try.prog Try.f4 Rows.fnExactLineNewRow.domain false) (Rows.fnExactLineNewSpec.post enc Try.prog Try.f4 false true false false) := by
  refine returnsInHanded_of_change (C := Try.checked) own started (by kernel_rfl) Try.func4
    (ChangeSpec.witness6 (enc := enc) (C := Try.checked) false ⟨#[], #[.int .i64 0, .int .i64 0], []⟩ 8 (by kernel_rfl) (by kernel_rfl) (by kernel_rfl) (by kernel_rfl)) ?_
  intro W base args ds gs before hval0 hW hcnd _
  have hval : ∀ (j : Nat) t v, Try.f4.params[j]? = some t → args[j]? = some v → Value.okWide Try.prog W .any base t v := hval0
  have hW' := hW
  obtain ⟨p, q, hA0, hV, rfl, hfz, hnd⟩ := hW
  have hA : DataW.TrodAll enc Try.prog W 0 (fun _ => true) true Try.f4.params.toList args.toList ds p := hA0
  rw [Try.params4] at hA hval
  obtain ⟨v0, vs0, d0, ds0, p0, q0, hargs, rfl, rfl, h0, r0⟩ := trodAll_cons hA
  obtain ⟨v1, vs1, d1, ds1, p1, q1, rfl, rfl, rfl, h1, r1⟩ := trodAll_cons r0
  obtain ⟨rfl, rfl, rfl⟩ := trodAll_nil r1
  obtain rfl : args = #[v0, v1] := by cases args; simp_all
  obtain ⟨rfl, rfl⟩ := trodVars_none hV
  obtain ⟨a0, rfl, rfl, rfl, w0⟩ := open_int Try.underlying3 (hval 0 3 v0 rfl rfl) h0
  obtain ⟨a1, rfl, rfl, rfl, w1⟩ := open_int Try.underlying3 (hval 1 3 v1 rfl rfl) h1
  clear hA0 hval0
  refine (walk_FnExactLineNew a0 a1 W w0 w1).mono fun e W' ⟨he, bel⟩ => ?_
  subst he
  exact ⟨_, rfl, _, _, _, [], _, [], hW', trodAll_mk1 (shut_bool Try.underlying4 _), (trodAll_cons_mk (shut_int Try.underlying3 w0) (trodAll_cons_mk (shut_int Try.underlying3 w1) trodAll_mk0)), rfl, bel.frame _, fun h => by cases h⟩

theorem closed : joinedFacts Try.checked.prog 4 Try.f4 Rows.fnExactLineNewSpec Rows.fnExactLineNewRow = true := by
  unfold joinedFacts
  simp only [Bool.and_eq_true]
  repeat' (refine And.intro ?_ ?_)
  all_goals first
    | with_reducible exact may_enter
    | (rw [lifts_final]; kernel_rfl)
    | (rw [make_is]; kernel_rfl)
    | kernel_rfl

theorem over : Rows.fnExactLineNewRow.holds Try.pinned (OpenSpec.ofChange Rows.fnExactLineNewSpec) :=
  OpenClaim.holds_of_wide 4 Try.f4 rfl rfl rfl rfl rfl rfl rfl ⟨rfl, rfl, rfl, rfl, rfl⟩ rfl rfl rfl rfl rfl (by kernel_rfl) Try.func4 closed
    (of_decide_eq_true (by kernel_rfl)) (by unfold Func.isWrapper; first | (rw [if_pos (by decide +kernel)]; kernel_rfl) | (rw [if_neg (by decide +kernel)]; exact ⟨rfl, rfl⟩))
    (fun os started H enc _ => lifted os started H enc)

theorem proved : Rows.FnExactLineNewSaid := over
#print axioms proved
end Go.Proofs.Ytoapfcnpmpggcab.fnExactLineNew
