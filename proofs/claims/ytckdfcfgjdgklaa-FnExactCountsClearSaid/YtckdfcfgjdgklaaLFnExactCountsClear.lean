/-
  For every input the law 'FnExactCountsClear' returns true, and each of its arguments reads behind the call as it read before. Conditions: none beyond those of the row.
-/
import Derived.Test.YtckdfcfgjdgklaaRows
import Derived.WalkKit
import Derived.ProofKit
import Derived.OpenShut
import Derived.ShutString
import Derived.ChangeOld
import Derived.Below
import Derived.Deep.Matrix
import Derived.Test.YtckdfcfgjdgklaaIo
import Derived.Test.YtckdfcfgjdgklaaCtrL
import Derived.Test.YtckdfcfgjdgklaaCtrD
namespace Go.Proofs.Ytckdfcfgjdgklaa
open Go.RowKit

set_option maxHeartbeats 2000000 in
theorem walk_FnExactCountsClear (a0 : Option Addr) (len0 cap0 : Nat) (z0 : List Int) (w : World) (w0 : IsRowK .i64 w a0 len0 cap0 z0) :
    Calls Try.prog 7 #[.slice a0 len0 cap0] w fun e w' => e = .returned (.bool true) ∧ Below w.heap.size w w' := by
  rcases Nat.lt_or_ge 1048576 len0 with hbig | hsm0
  · have hb : (1048576 : Int) < (len0 : Int) := by omega
    go_enter Try.func7, Try.ntmps7
    go_wp2_with fail
    go_ret
    exact ⟨rfl, Below.refl _ _⟩
  have hb0 : (len0 : Int) ≤ 1048576 := by omega
  have h0 := ints_of_rowK w0 hsm0
  have f0 := fits_take w0
  generalize z0.take len0 = xs0 at h0 f0
  clear w0 hsm0
  have hx0 : xs0.length ≤ 1048576 := h0.len
  have hyl : (clL xs0).length ≤ 1048576 := Nat.le_trans (clL_length _) (by decide)
  obtain ⟨ys, hys⟩ : ∃ ys, ys = clL xs0 := ⟨_, rfl⟩
  have HS : ∀ {W : World} {u0 : Value}, Ints W u0 xs0 → Calls Try.prog 25 #[u0] W (MadeInts W ys) := by
    intro W u0 q0; rw [hys]; exact specClear q0
  have HI : ∀ {W : World} {u0 : Value}, Ints W u0 xs0 → Calls Try.prog 26 #[u0] W (MadeInts W ys) := by
    intro W u0 q0; rw [hys]; exact implClear q0
  rw [← hys] at hyl
  have hyl' : (ys.length : Int) ≤ 1048576 := by omega
  clear hys
  go_enter Try.func7, Try.ntmps7
  go_wp2_with (go_at_call 16; refine (toInts h0).mono ?_)
  rintro e w_1 ⟨va0, rfl, oa0, b1⟩
  have c1 := b1
  have s1 := b1.size
  go_wp2_with (go_at_call 25; refine ((HS (oa0.ints hx0))).mono ?_)
  rintro e w_2 ⟨vw, rfl, ow, b2⟩
  have c2 := c1.trans (b2.mono c1.size)
  have s2 := b2.size
  have oa0_2 := oa0.below b2
  go_wp2_with (go_at_call 16; refine (toInts (h0.below c2)).mono ?_)
  rintro e w_3 ⟨vx0, rfl, ox0, b3⟩
  have c3 := c2.trans (b3.mono c2.size)
  have s3 := b3.size
  have ow_3 := ow.below b3
  go_wp2_with (go_at_call 26; refine ((HI (ox0.ints hx0))).mono ?_)
  rintro e w_4 ⟨vg, rfl, og, b4⟩
  have c4 := c3.trans (b4.mono c3.size)
  have s4 := b4.size
  have ow_4 := ow_3.below b4
  have ox0_4 := ox0.below b4
  go_wp2_with (go_at_call 18; refine (eqInts (og.ints hyl) (ow_4.ints hyl)).mono ?_)
  rintro e w_5 ⟨rfl, b5⟩
  have c5 := c4.trans (b5.mono c4.size)
  have s5 := b5.size
  have ow_5 := ow_4.below b5
  have ox0_5 := ox0_4.below b5
  have og_5 := og.below b5
  go_wp2_with (go_at_call 16; refine (toInts (h0.below c5)).mono ?_)
  rintro e w_6 ⟨vt0, rfl, ot0, b6⟩
  have c6 := c5.trans (b6.mono c5.size)
  have s6 := b6.size
  have ow_6 := ow_5.below b6
  have ox0_6 := ox0_5.below b6
  have og_6 := og_5.below b6
  go_wp2_with (go_at_call 18; refine (eqInts (ox0_6.ints hx0) (ot0.ints hx0)).mono ?_)
  rintro e w_7 ⟨rfl, b7⟩
  have c7 := c6.trans (b7.mono c6.size)
  have s7 := b7.size
  have ow_7 := ow_6.below b7
  have ox0_7 := ox0_6.below b7
  have og_7 := og_6.below b7
  have ot0_7 := ot0.below b7
  go_wp2_with (go_at_call 21; refine (markInts ox0_7 hx0 (by omega) (by omega)).mono ?_)
  rintro e w_8 ⟨rfl, om8, g8⟩
  have c8 := below_mark c7 ox0_7 c2.size g8
  have s8 := g8.size
  have ow_8 := ow_7.kept g8 (apart ow (Nat.le_refl _) ox0)
  have og_8 := og_7.kept g8 (apart' ox0 (Nat.le_refl _) og)
  go_wp2_with (go_at_call 18; refine (eqInts (og_8.ints hyl) (ow_8.ints hyl)).mono ?_)
  rintro e w_9 ⟨rfl, b9⟩
  have c9 := c8.trans (b9.mono c8.size)
  have s9 := b9.size
  have ow_9 := ow_8.below b9
  have og_9 := og_8.below b9
  go_wp2_with (go_at_call 21; refine (markInts og_9 hyl (by omega) (by omega)).mono ?_)
  rintro e w_10 ⟨rfl, om10, g10⟩
  have c10 := below_mark c9 og_9 c3.size g10
  have s10 := g10.size
  have ow_10 := ow_9.kept g10 (apart ow s3 og)
  go_wp2_with (go_at_call 22; refine (heldInts (om10.ints (by rw [marks_length]; exact hyl)) (marks_held 1 _) (by omega) (by omega)).mono ?_)
  rintro e w_x ⟨rfl, rfl⟩
  rw [marks_length]
  go_wp2_with (go_at_call 16; refine (toInts (h0.below c10)).mono ?_)
  rintro e w_11 ⟨vy0, rfl, oy0, b11⟩
  have c11 := c10.trans (b11.mono c10.size)
  have s11 := b11.size
  have ow_11 := ow_10.below b11
  have og_11 := om10.below b11
  go_wp2_with (go_at_call 26; refine ((HI (oy0.ints hx0))).mono ?_)
  rintro e w_12 ⟨vh, rfl, oh, b12⟩
  have c12 := c11.trans (b12.mono c11.size)
  have s12 := b12.size
  have ow_12 := ow_11.below b12
  have og_12 := og_11.below b12
  have oy0_12 := oy0.below b12
  go_wp2_with (go_at_call 18; refine (eqInts (oh.ints hyl) (ow_12.ints hyl)).mono ?_)
  rintro e w_13 ⟨rfl, b13⟩
  have c13 := c12.trans (b13.mono c12.size)
  have s13 := b13.size
  have ow_13 := ow_12.below b13
  have og_13 := og_12.below b13
  have oh_13 := oh.below b13
  go_wp2_with (go_at_call 22; refine (heldInts (og_13.ints (by rw [marks_length]; exact hyl)) (marks_held 1 _) (by omega) (by omega)).mono ?_)
  rintro e w_x ⟨rfl, rfl⟩
  rw [marks_length]
  go_wp2_with fail
  go_ret
  exact ⟨rfl, c13⟩

end Go.Proofs.Ytckdfcfgjdgklaa

namespace Go.Proofs.Ytckdfcfgjdgklaa.fnExactCountsClear
open Go.ChangeShapes Go.WideShapes Go.ChangeAt Go.RowKit
open Go.ChangeMaps (open_string shut_string)
set_option linter.unusedVariables false

theorem own : ownKnob Try.prog.godebug = none := by kernel_rfl
theorem laidOut : laidOutB Try.prog = true := by kernel_rfl

set_option maxRecDepth 100000 in
theorem lifted (os : Os) (started : os.Started) (H : Type) (enc : TypeId × Value → H) :
    ReturnsInHanded {} Try.checked os 7 .any (Rows.fnExactCountsClearSpec.pre6 enc Try.prog Try.f7 Rows.fnExactCountsClearRow.domain false) (Rows.fnExactCountsClearSpec.post enc Try.prog Try.f7 false true false false) := by
  refine returnsInHanded_of_change (C := Try.checked) own started (by kernel_rfl) Try.func7
    (ChangeSpec.witness6 (enc := enc) (C := Try.checked) false ⟨#[], #[.slice none 0 0], []⟩ 8 (by kernel_rfl) (by kernel_rfl) (by kernel_rfl) (by kernel_rfl)) ?_
  intro W base args ds gs before hval0 hW hcnd _
  have hval : ∀ (j : Nat) t v, Try.f7.params[j]? = some t → args[j]? = some v → Value.okWide Try.prog W .any base t v := hval0
  have hW' := hW
  obtain ⟨p, q, hA0, hV, rfl, hfz, hnd⟩ := hW
  have hA : DataW.TrodAll enc Try.prog W 0 (fun _ => true) true Try.f7.params.toList args.toList ds p := hA0
  rw [Try.params7] at hA hval
  obtain ⟨v0, vs0, d0, ds0, p0, q0, hargs, rfl, rfl, h0, r0⟩ := trodAll_cons hA
  obtain ⟨rfl, rfl, rfl⟩ := trodAll_nil r0
  obtain rfl : args = #[v0] := by cases args; simp_all
  obtain ⟨rfl, rfl⟩ := trodVars_none hV
  obtain ⟨a0, len0, cap0, rfl⟩ := okWide_slice Try.underlying28 (hval 0 28 v0 rfl rfl)
  have k0 := h0
  have lt0 : ∀ x ∈ p0, x.block < W.heap.size := by obtain ⟨m, hm⟩ := k0; exact DataW.trod_lt m _ _ _ hm
  obtain ⟨z0, w0⟩ : ∃ zs, IsRowK .i64 W a0 len0 cap0 zs := by
    obtain ⟨fuel, hf⟩ := h0
    rcases open_ints Try.underlying28 Try.underlying3 (by kernel_rfl) hf with ⟨hcs, _⟩ | ⟨x, l, c, zs, hcs, _, hl, hm, hz, _, hcell, hwz⟩
    · simp [Value.cells] at hcs
      obtain ⟨rfl, rfl, rfl⟩ := hcs
      exact ⟨[], .inl ⟨rfl, rfl, rfl, rfl⟩⟩
    · simp [Value.cells] at hcs
      obtain ⟨rfl, rfl, rfl⟩ := hcs
      exact ⟨zs, .inr ⟨_, rfl, hl, hm, by simpa using hz, hcell, hwz⟩⟩
  clear hA0 hval0
  refine (walk_FnExactCountsClear a0 len0 cap0 z0 W w0).mono fun e W' ⟨he, bel⟩ => ?_
  subst he
  exact ⟨_, rfl, _, _, _, [], _, [], hW', trodAll_mk1 (shut_bool Try.underlying4 _), (trodAll_cons_mk (Below.trod laidOut (by kernel_rfl) (of_decide_eq_true (by kernel_rfl)) k0 bel lt0) trodAll_mk0), rfl, bel.frame _, fun h => by cases h⟩

theorem closed : joinedFacts Try.checked.prog 7 Try.f7 Rows.fnExactCountsClearSpec Rows.fnExactCountsClearRow = true := by
  unfold joinedFacts
  simp only [Bool.and_eq_true]
  repeat' (refine And.intro ?_ ?_)
  all_goals first
    | with_reducible exact may_enter
    | (rw [lifts_final]; kernel_rfl)
    | (rw [make_is]; kernel_rfl)
    | kernel_rfl

theorem over : Rows.fnExactCountsClearRow.holds Try.pinned (OpenSpec.ofChange Rows.fnExactCountsClearSpec) :=
  OpenClaim.holds_of_wide 7 Try.f7 rfl rfl rfl rfl rfl rfl rfl ⟨rfl, rfl, rfl, rfl, rfl⟩ rfl rfl rfl rfl rfl (by kernel_rfl) Try.func7 closed
    (of_decide_eq_true (by kernel_rfl)) (by unfold Func.isWrapper; first | (rw [if_pos (by decide +kernel)]; kernel_rfl) | (rw [if_neg (by decide +kernel)]; exact ⟨rfl, rfl⟩))
    (fun os started H enc _ => lifted os started H enc)

theorem proved : Rows.FnExactCountsClearSaid := over
#print axioms proved
end Go.Proofs.Ytckdfcfgjdgklaa.fnExactCountsClear
