/-
  For every input the law 'FnExactTrackNext' returns true, and each of its arguments reads behind the call as it read before. Conditions: none beyond those of the row.
-/
import Derived.Test.YtckdfcfgjdgklaaDoorRows
import Derived.WalkKit
import Derived.ProofKit
import Derived.OpenShut
import Derived.ShutString
import Derived.ChangeOld
import Derived.Below
import Derived.Deep.Matrix
import Derived.Test.YtckdfcfgjdgklaaDoorIo
import Derived.LaidMore
import Derived.Lay
import Derived.SevenTiedAt
import Derived.Stop.Joined
import Derived.Test.YtckdfcfgjdgklaaDoorCards
import Derived.Test.YtckdfcfgjdgklaaDoorTie
import Derived.Test.YtckdfcfgjdgklaaDoorShp
import Derived.Test.YtckdfcfgjdgklaaDoorTrkE
namespace Go.Proofs.YtckdfcfgjdgklaaDoor
open Go.RowKit

set_option maxHeartbeats 4000000 in
theorem walk_FnExactTrackNext (a0 : ByteArray) (w : World) (w0 : a0.size ≤ maxLen) :
    Calls Tryd.prog 5 #[.string a0] w fun e w' => e = .returned (.bool true) ∧ Below w.heap.size w w' := by
  have _ := w0
  rcases Nat.lt_or_ge 1048576 a0.size with hbig | hsm
  · have hb : (1048576 : Int) < (a0.size : Int) := by omega
    go_enter Tryd.func5, Tryd.ntmps5
    go_wp2_with fail
    go_ret
    exact ⟨rfl, Below.refl _ _⟩
  have hb : (a0.size : Int) ≤ 1048576 := by omega
  obtain ⟨cl, hcl⟩ : ∃ cl, cl = nxT a0 := ⟨_, rfl⟩
  have hcl5 : cl.length ≤ 1048576 := by have := nxT_length a0; rw [← hcl] at this; omega
  have SP := Lib.hid (specTrackNext a0 hsm)
  have IM := Lib.hid (implTrackNext a0 hsm)
  rw [← hcl] at SP IM
  clear hcl hsm
  have hcli : (cl.length : Int) ≤ 1048576 := by omega
  go_enter Tryd.func5, Tryd.ntmps5
  go_wp2_with (go_at_call 15; refine (SP.out _).mono ?_)
  rintro e w1 ⟨v1, rfl, o1, b1⟩
  obtain ⟨a1, c1, rfl⟩ := own_slice2 o1
  go_wp2_with (go_at_call 16; refine (IM.out _).mono ?_)
  rintro e w2 ⟨v2, rfl, o2, b2⟩
  obtain ⟨a2, c2, rfl⟩ := own_slice2 o2
  have k2 := chain b1 b2
  have O1 := Lib.hid (o1.below b2)
  have U1 := Lib.hid (fun b e => (World.ownsRow.lt o1 b e).2)
  have U2 := Lib.hid (fun b e => (World.ownsRow.lt o2 b e).1)
  have O2 := Lib.hid o2
  clear o1 o2 b2
  go_wp2_with (go_at_call 17; refine (eqInts (O2.out.ints hcl5) (O1.out.ints hcl5)).mono ?_)
  rintro e w3 ⟨rfl, b3⟩
  have k3 := chain k2 b3
  have O1 := Lib.hid (O1.out.below b3)
  have O2 := Lib.hid (O2.out.below b3)
  go_wp2_with (go_at_call 18; refine (markInts O2.out hcl5 (by omega) (by omega)).mono ?_)
  rintro e w4 ⟨rfl, o4, m4⟩
  have k4 := below_mark k3 O2.out b1.size m4
  have O1 := Lib.hid (O1.out.kept m4 (by
    cases e1 : (Value.slice a1 cl.length c1).ownBlock with
    | none => exact .inl rfl
    | some b =>
      refine .inr fun e2 => ?_
      have h1 := U1.out b e1
      have h2 := U2.out b e2.symm
      omega))
  have O4 := Lib.hid o4
  clear o4 m4 b3
  go_wp2_with (go_at_call 19; refine (heldInts (O4.out.ints (by rw [marks_length]; exact hcl5)) (marks_held 1 _) (by omega) (by omega)).mono ?_)
  rintro e w4' ⟨rfl, rfl⟩
  rw [marks_length]
  have hk : decide ((1 : Int) + cl.length < 0) = false := by simp; omega
  go_wp2_with (go_at_call 16; refine (IM.out _).mono ?_)
  rintro e w5 ⟨v5, rfl, o5, b5⟩
  obtain ⟨a5, c5, rfl⟩ := own_slice2 o5
  have k5 := chain k4 b5
  have O1 := Lib.hid (O1.out.below b5)
  have O4 := Lib.hid (O4.out.below b5)
  have O5 := Lib.hid o5
  clear o5
  go_wp2_with (go_at_call 17; refine (eqInts (O5.out.ints hcl5) (O1.out.ints hcl5)).mono ?_)
  rintro e w6 ⟨rfl, b6⟩
  have k6 := chain k5 b6
  have O4 := Lib.hid (O4.out.below b6)
  go_wp2_with (go_at_call 19; refine (heldInts (O4.out.ints (by rw [marks_length]; exact hcl5)) (marks_held 1 _) (by omega) (by omega)).mono ?_)
  rintro e w6' ⟨rfl, rfl⟩
  rw [marks_length]
  go_wp2_with fail
  go_ret
  exact ⟨rfl, k6⟩

end Go.Proofs.YtckdfcfgjdgklaaDoor

namespace Go.Proofs.YtckdfcfgjdgklaaDoor.fnExactTrackNext
open Go.ChangeShapes Go.WideShapes Go.ChangeAt Go.RowKit
open Go.ChangeMaps (open_string shut_string)
set_option linter.unusedVariables false

theorem own : ownKnob Tryd.prog.godebug = none := by kernel_rfl
theorem laidOut : laidOutB Tryd.prog = true := by kernel_rfl

abbrev lst : List (String × DataW Unit) := Rows.fnExactTrackNextRow.laid

set_option maxRecDepth 100000 in
theorem lifted (os : Os) (started : os.Started) (H : Type) (enc : TypeId × Value → H) :
    ReturnsInHanded {} Tryd.checked os 5 .any (fun w args => (Rows.fnExactTrackNextSpec.pre enc Tryd.prog Tryd.f5 Rows.fnExactTrackNextRow.domain false w args ∧ laidMetH Tryd.prog lst w) ∧ sizedMet enc Tryd.prog Tryd.f5 (OpenSpec.ofChange Rows.fnExactTrackNextSpec) false w args) (Rows.fnExactTrackNextSpec.post enc Tryd.prog Tryd.f5 false true false false) := by
  refine returns_shaped (C := Tryd.checked) (X := fun w _ => laidMetH Tryd.prog lst w) (fun _ _ _ hh h => h.of_heap hh) own started (by kernel_rfl) Tryd.func5
    (ChangeSpec.witness_shaped (enc := enc) (C := Tryd.checked) (os := os) (X := fun w _ => laidMetH Tryd.prog lst w) false (World.laidAll Tryd.prog os lst) #[.string ⟨#[]⟩] 8 (World.laidAll_os _ _ _)
      (World.shaped_of_ZipB (by kernel_rfl) (by kernel_rfl)) (by kernel_rfl) (by kernel_rfl) (by kernel_rfl)
      (by rw [MakeChecks.laidMetH_plain _ _ _ (by kernel_rfl)]; exact laidMet_laidAll _ (by kernel_rfl) (by kernel_rfl))) ?_
  intro W base args ds gs before hshape hval0 hW hcnd _ hL _
  have hval : ∀ (j : Nat) t v, Tryd.f5.params[j]? = some t → args[j]? = some v → Value.okWide Tryd.prog W .any base t v := hval0
  have hW' := hW
  obtain ⟨p, q, hA0, hV, rfl, hfz, hnd⟩ := hW
  have hA : DataW.TrodAll enc Tryd.prog W 0 (fun _ => true) true Tryd.f5.params.toList args.toList ds p := hA0
  rw [Tryd.params5] at hA hval
  obtain ⟨v0, vs0, d0, ds0, p0, q0, hargs, rfl, rfl, h0, r0⟩ := trodAll_cons hA
  obtain ⟨rfl, rfl, rfl⟩ := trodAll_nil r0
  obtain rfl : args = #[v0] := by cases args; simp_all
  obtain ⟨rfl, rfl⟩ := trodVars_none hV
  obtain ⟨a0, rfl, rfl, rfl, w0⟩ := open_string Tryd.underlying9 (hval 0 9 v0 rfl rfl) h0
  clear hA0 hval0
  refine (walk_FnExactTrackNext a0 W w0).mono fun e W' ⟨he, bel⟩ => ?_
  subst he
  exact ⟨_, rfl, _, _, _, [], _, [], hW', trodAll_mk1 (shut_bool Tryd.underlying4 _), (trodAll_cons_mk (shut_string Tryd.underlying9 w0) trodAll_mk0), rfl, bel.frame _, fun h => by cases h⟩

theorem closed : joinedFacts Tryd.checked.prog 5 Tryd.f5 Rows.fnExactTrackNextSpec Rows.fnExactTrackNextRow = true := by
  unfold joinedFacts
  simp only [Bool.and_eq_true]
  repeat' (refine And.intro ?_ ?_)
  all_goals first
    | with_reducible exact may_enter
    | (rw [lifts_final]; kernel_rfl)
    | (rw [make_is]; kernel_rfl)
    | kernel_rfl

theorem over : Rows.fnExactTrackNextRow.holds Tryd.pinned (OpenSpec.ofChange Rows.fnExactTrackNextSpec) :=
  OpenClaim.holds_of_wide 5 Tryd.f5 rfl rfl rfl rfl rfl rfl rfl ⟨rfl, rfl, rfl, rfl, rfl⟩ rfl rfl rfl rfl rfl (by kernel_rfl) Tryd.func5 closed
    (of_decide_eq_true (by kernel_rfl)) (by unfold Func.isWrapper; first | (rw [if_pos (by decide +kernel)]; kernel_rfl) | (rw [if_neg (by decide +kernel)]; exact ⟨rfl, rfl⟩))
    (fun os started H enc _ => lifted os started H enc)

set_option maxRecDepth 100000 in
theorem proved : Rows.FnExactTrackNextCardSaid :=
  Claim7.holds_tied_plain_at .later [] [.data, .pinned] true (true, "d1d665dd0b38efc821c20988ac2bcce0e64474d050080726855cde3a77ab2864") false over (fun _ h => by cases h) (by kernel_rfl) (fun _ h => by cases h) fnExactTrackNext_row_tie rfl ⟨rfl, rfl⟩ (by kernel_rfl) rfl
    (fun f fn hf hfn => by
      obtain rfl : f = 5 := Option.some.inj ((show Tryd.prog.funcNamed "loop.example/blockboxes/laws.FnExactTrackNext" = some 5 by kernel_rfl).symm.trans hf) |>.symm
      obtain rfl : fn = Tryd.f5 := (Option.some.inj (Tryd.func5.symm.trans hfn)).symm
      exact ⟨by kernel_rfl, fun j t ht => by
        rw [Tryd.params5] at ht
        have hm : t ∈ [9] := by simpa using Array.mem_of_getElem? ht
        have hall : ([9].all fun u => !Tryd.prog.wantsStandIn u) = true := by kernel_rfl
        exact (show Tryd.prog.wantsStandIn t = false by simpa using List.all_eq_true.1 hall t hm)⟩)
    (by kernel_rfl)
#print axioms proved
end Go.Proofs.YtckdfcfgjdgklaaDoor.fnExactTrackNext
