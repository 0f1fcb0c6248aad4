/-
  For every input the law 'FnExactTrackPassed' returns true, and each of its arguments reads behind the call as it read before. Conditions: none beyond those of the row.
-/
import Derived.Test.YtckdfcfgjdgklaaDoorRows
import Derived.WalkKit
import Derived.ProofKit
import Derived.OpenShut
import Derived.ShutString
import Derived.ChangeOld
import Derived.Below
import Derived.Deep.Matrix
import Derived.Test.YtckdfcfgjdgklaaDoorIo
import Derived.LaidMore
import Derived.Lay
import Derived.SevenTiedAt
import Derived.Stop.Joined
import Derived.Test.YtckdfcfgjdgklaaDoorCards
import Derived.Test.YtckdfcfgjdgklaaDoorTie
import Derived.Test.YtckdfcfgjdgklaaDoorShp
import Derived.SliceStrings
import Derived.Test.YtckdfcfgjdgklaaDoorTrkU
import Derived.Test.YtckdfcfgjdgklaaDoorTabL
import Derived.Test.YtckdfcfgjdgklaaDoorStrA
namespace Go.Proofs.YtckdfcfgjdgklaaDoor
open Go.RowKit

set_option maxHeartbeats 4000000 in
theorem walk_FnExactTrackPassed (a0 : Option Addr) (len0 cap0 : Nat) (z0 : List ByteArray) (w : World) (w0 : IsStrs w (.slice a0 len0 cap0) z0) (hT : TabW w) :
    Calls Tryd.prog 10 #[.slice a0 len0 cap0] w fun e w' => e = .returned (.bool true) ∧ Below w.heap.size w w' := by
  have SZ := Lib.hid (szStrs w0)
  have W0 := Lib.hid w0
  have HT := Lib.hid hT
  clear w0 hT
  go_enter Tryd.func10, Tryd.ntmps10
  go_wp2_with (go_at_call 22; refine SZ.out.mono ?_)
  rintro e w1 ⟨r, rfl, hr, rfl⟩
  rcases hr with hr | ⟨hr, hl, hz⟩
  · go_wp2_with fail
    go_ret
    exact ⟨rfl, Below.refl _ _⟩
  have hr' : ¬ r < 0 := by omega
  have HZ := Lib.hid hz
  have T1 := Lib.hid (toStrs W0.out hl)
  clear hz hr
  go_wp2_with (go_at_call 24; refine T1.out.mono ?_)
  rintro e w2 ⟨v2, rfl, o2, b2⟩
  have SW := Lib.hid (specPassed o2 hl HZ.out)
  have B2 := Lib.hid b2
  clear o2 b2
  go_wp2_with (go_at_call 31; refine SW.out.mono ?_)
  rintro e w3 ⟨rfl, b3⟩
  have B3 := Lib.hid (chain B2.out b3)
  have T3 := Lib.hid (toStrs (W0.out.below B3.out) hl)
  clear b3
  go_wp2_with (go_at_call 24; refine T3.out.mono ?_)
  rintro e w4 ⟨v4, rfl, o4, b4⟩
  have B4 := Lib.hid (chain B3.out b4)
  have IW := Lib.hid (implPassed o4 hl HZ.out (HT.out.below HT.out.lt B4.out))
  have O4 := Lib.hid o4
  clear b4 o4
  obtain ⟨t, ht⟩ : ∃ t, t = psV z0 := ⟨_, rfl⟩
  rw [← ht] at IW ⊢
  have tn : (t != t) = false := bne_self_eq_false _
  clear ht
  go_wp2_with (go_at_call 32; refine IW.out.mono ?_)
  rintro e w5 ⟨rfl, b5⟩
  have B5 := Lib.hid (chain B4.out b5)
  have O5 := Lib.hid (O4.out.below b5)
  have T5 := Lib.hid (toStrs (W0.out.below B5.out) hl)
  clear b5
  go_wp2_with (go_at_call 24; refine T5.out.mono ?_)
  rintro e w6 ⟨v6, rfl, o6, b6⟩
  have EQ := Lib.hid (eqStrs (O5.out.below b6) o6 hl)
  have B6 := Lib.hid (chain B5.out b6)
  clear b6 o6
  go_wp2_with (go_at_call 26; refine EQ.out.mono ?_; rintro e w7 ⟨rfl, b7⟩)
  go_ret
  exact ⟨rfl, chain B6.out b7⟩

end Go.Proofs.YtckdfcfgjdgklaaDoor

namespace Go.Proofs.YtckdfcfgjdgklaaDoor.fnExactTrackPassed
open Go.ChangeShapes Go.WideShapes Go.ChangeAt Go.RowKit
open Go.ChangeMaps (open_string shut_string)
set_option linter.unusedVariables false

theorem own : ownKnob Tryd.prog.godebug = none := by kernel_rfl
theorem laidOut : laidOutB Tryd.prog = true := by kernel_rfl

abbrev lst : List (String × DataW Unit) := Rows.fnExactTrackPassedRow.laid

set_option maxRecDepth 100000 in
theorem lifted (os : Os) (started : os.Started) (H : Type) (enc : TypeId × Value → H) :
    ReturnsInHanded {} Tryd.checked os 10 .any (fun w args => (Rows.fnExactTrackPassedSpec.pre enc Tryd.prog Tryd.f10 Rows.fnExactTrackPassedRow.domain false w args ∧ laidMetH Tryd.prog lst w) ∧ sizedMet enc Tryd.prog Tryd.f10 (OpenSpec.ofChange Rows.fnExactTrackPassedSpec) false w args) (Rows.fnExactTrackPassedSpec.post enc Tryd.prog Tryd.f10 false true false false) := by
  refine returns_shaped (C := Tryd.checked) (X := fun w _ => laidMetH Tryd.prog lst w) (fun _ _ _ hh h => h.of_heap hh) own started (by kernel_rfl) Tryd.func10
    (ChangeSpec.witness_shaped (enc := enc) (C := Tryd.checked) (os := os) (X := fun w _ => laidMetH Tryd.prog lst w) false (World.laidAll Tryd.prog os lst) #[.slice none 0 0] 8 (World.laidAll_os _ _ _)
      (World.shaped_of_ZipB (by kernel_rfl) (by kernel_rfl)) (by kernel_rfl) (by kernel_rfl) (by kernel_rfl)
      (by rw [MakeChecks.laidMetH_plain _ _ _ (by kernel_rfl)]; exact laidMet_laidAll _ (by kernel_rfl) (by kernel_rfl))) ?_
  intro W base args ds gs before hshape hval0 hW hcnd _ hL _
  have hval : ∀ (j : Nat) t v, Tryd.f10.params[j]? = some t → args[j]? = some v → Value.okWide Tryd.prog W .any base t v := hval0
  have hW' := hW
  obtain ⟨p, q, hA0, hV, rfl, hfz, hnd⟩ := hW
  have hA : DataW.TrodAll enc Tryd.prog W 0 (fun _ => true) true Tryd.f10.params.toList args.toList ds p := hA0
  rw [Tryd.params10] at hA hval
  obtain ⟨v0, vs0, d0, ds0, p0, q0, hargs, rfl, rfl, h0, r0⟩ := trodAll_cons hA
  obtain ⟨rfl, rfl, rfl⟩ := trodAll_nil r0
  obtain rfl : args = #[v0] := by cases args; simp_all
  obtain ⟨rfl, rfl⟩ := trodVars_none hV
  obtain ⟨a0, len0, cap0, rfl⟩ := okWide_slice Tryd.underlying31 (hval 0 31 v0 rfl rfl)
  have k0 := h0
  have lt0 : ∀ x ∈ p0, x.block < W.heap.size := by obtain ⟨m, hm⟩ := k0; exact DataW.trod_lt m _ _ _ hm
  obtain ⟨z0, w0⟩ : ∃ ss, IsStrs W (.slice a0 len0 cap0) ss := by
    obtain ⟨fuel, hf⟩ := h0
    rcases open_strings Tryd.underlying31 Tryd.underlying9 (by kernel_rfl) hf with ⟨hcs, _⟩ | ⟨x, l, c, zs, hcs, _, hl, hm, hz, _, hcell, hwz⟩
    · simp [Value.cells] at hcs
      obtain ⟨rfl, rfl, rfl⟩ := hcs
      exact ⟨[], none, 0, rfl, by simp, fun i hi => by simp at hi, .inl rfl⟩
    · simp [Value.cells] at hcs
      obtain ⟨rfl, rfl, rfl⟩ := hcs
      exact ⟨zs.take len0, strs_at hl hm (by simpa using hz) hcell hwz⟩
  clear hA0 hval0
  refine (walk_FnExactTrackPassed a0 len0 cap0 z0 W w0 (tab_of (by kernel_rfl) hL)).mono fun e W' ⟨he, bel⟩ => ?_
  subst he
  exact ⟨_, rfl, _, _, _, [], _, [], hW', trodAll_mk1 (shut_bool Tryd.underlying4 _), (trodAll_cons_mk (Below.trod laidOut (by kernel_rfl) (of_decide_eq_true (by kernel_rfl)) k0 bel lt0) trodAll_mk0), rfl, bel.frame _, fun h => by cases h⟩

theorem closed : joinedFacts Tryd.checked.prog 10 Tryd.f10 Rows.fnExactTrackPassedSpec Rows.fnExactTrackPassedRow = true := by
  unfold joinedFacts
  simp only [Bool.and_eq_true]
  repeat' (refine And.intro ?_ ?_)
  all_goals first
    | with_reducible exact may_enter
    | (rw [lifts_final]; kernel_rfl)
    | (rw [make_is]; kernel_rfl)
    | kernel_rfl

theorem over : Rows.fnExactTrackPassedRow.holds Tryd.pinned (OpenSpec.ofChange Rows.fnExactTrackPassedSpec) :=
  OpenClaim.holds_of_wide 10 Tryd.f10 rfl rfl rfl rfl rfl rfl rfl ⟨rfl, rfl, rfl, rfl, rfl⟩ rfl rfl rfl rfl rfl (by kernel_rfl) Tryd.func10 closed
    (of_decide_eq_true (by kernel_rfl)) (by unfold Func.isWrapper; first | (rw [if_pos (by decide +kernel)]; kernel_rfl) | (rw [if_neg (by decide +kernel)]; exact ⟨rfl, rfl⟩))
    (fun os started H enc _ => lifted os started H enc)

set_option maxRecDepth 100000 in
theorem proved : Rows.FnExactTrackPassedCardSaid :=
  Claim7.holds_tied_plain_at .later [] [.data, .data, .data, .pinned] true (true, "d1d665dd0b38efc821c20988ac2bcce0e64474d050080726855cde3a77ab2864") false over (fun _ h => by cases h) (by kernel_rfl) (fun _ h => by cases h) fnExactTrackPassed_row_tie rfl ⟨rfl, rfl⟩ (by kernel_rfl) rfl
    (fun f fn hf hfn => by
      obtain rfl : f = 10 := Option.some.inj ((show Tryd.prog.funcNamed "loop.example/blockboxes/laws.FnExactTrackPassed" = some 10 by kernel_rfl).symm.trans hf) |>.symm
      obtain rfl : fn = Tryd.f10 := (Option.some.inj (Tryd.func10.symm.trans hfn)).symm
      exact ⟨by kernel_rfl, fun j t ht => by
        rw [Tryd.params10] at ht
        have hm : t ∈ [31] := by simpa using Array.mem_of_getElem? ht
        have hall : ([31].all fun u => !Tryd.prog.wantsStandIn u) = true := by kernel_rfl
        exact (show Tryd.prog.wantsStandIn t = false by simpa using List.all_eq_true.1 hall t hm)⟩)
    (by kernel_rfl)
#print axioms proved
end Go.Proofs.YtckdfcfgjdgklaaDoor.fnExactTrackPassed
