/-
  For every input the law 'FnExactCountsNet' returns true, and each of its arguments reads behind the call as it read before. Conditions: none beyond those of the row.
-/
import Derived.Test.YtckdfcfgjdgklaaRows
import Derived.WalkKit
import Derived.ProofKit
import Derived.OpenShut
import Derived.ShutString
import Derived.ChangeOld
import Derived.Below
import Derived.Deep.Matrix
import Derived.Test.YtckdfcfgjdgklaaIo
import Derived.Test.YtckdfcfgjdgklaaCtrL
import Derived.Test.YtckdfcfgjdgklaaCtrE
namespace Go.Proofs.Ytckdfcfgjdgklaa
open Go.RowKit

set_option maxHeartbeats 2000000 in
theorem walk_FnExactCountsNet (a0 : Int) (a1 : Option Addr) (len1 cap1 : Nat) (z1 : List Int) (w : World) (w0 : (Lit.int .i64 a0).wf = true) (w1 : IsRowK .i64 w a1 len1 cap1 z1) :
    Calls Try.prog 8 #[.int .i64 a0, .slice a1 len1 cap1] w fun e w' => e = .returned (.bool true) ∧ Below w.heap.size w w' := by
  have _ := w0
  rcases Nat.lt_or_ge 1048576 len1 with hbig | hsm1
  · have hb : (1048576 : Int) < (len1 : Int) := by omega
    go_enter Try.func8, Try.ntmps8
    go_wp2_with fail
    go_ret
    exact ⟨rfl, Below.refl _ _⟩
  have hb1 : (len1 : Int) ≤ 1048576 := by omega
  have h1 := ints_of_rowK w1 hsm1
  have f1 := fits_take w1
  generalize z1.take len1 = xs1 at h1 f1
  clear w1 hsm1
  have hx1 : xs1.length ≤ 1048576 := h1.len
  have r0 := range_of w0
  have hyl : (netV a0 xs1).length ≤ 1048576 := Nat.le_trans (netV_length _ _) (by decide)
  obtain ⟨ys, hys⟩ : ∃ ys, ys = netV a0 xs1 := ⟨_, rfl⟩
  obtain ⟨ok, hok⟩ : ∃ ok, ok = netOk a0 xs1 := ⟨_, rfl⟩
  have HS : ∀ {W : World} {u1 : Value}, Ints W u1 xs1 → Calls Try.prog 27 #[.int .i64 a0, u1] W (MadeIntsB W ys ok) := by
    intro W u1 q1; rw [hys, hok]; exact specNet q1 f1 r0
  have HI : ∀ {W : World} {u1 : Value}, Ints W u1 xs1 → Calls Try.prog 28 #[.int .i64 a0, u1] W (MadeIntsB W ys ok) := by
    intro W u1 q1; rw [hys, hok]; exact implNet q1 f1 r0
  rw [← hys] at hyl
  have hyl' : (ys.length : Int) ≤ 1048576 := by omega
  clear hys hok
  go_enter Try.func8, Try.ntmps8
  go_wp2_with (go_at_call 16; refine (toInts h1).mono ?_)
  rintro e w_1 ⟨va1, rfl, oa1, b1⟩
  have c1 := b1
  have s1 := b1.size
  go_wp2_with (go_at_call 27; refine ((HS (oa1.ints hx1))).mono ?_)
  rintro e w_2 ⟨vw, rfl, ow, b2⟩
  have c2 := c1.trans (b2.mono c1.size)
  have s2 := b2.size
  have oa1_2 := oa1.below b2
  go_wp2_with (go_at_call 16; refine (toInts (h1.below c2)).mono ?_)
  rintro e w_3 ⟨vx1, rfl, ox1, b3⟩
  have c3 := c2.trans (b3.mono c2.size)
  have s3 := b3.size
  have ow_3 := ow.below b3
  go_wp2_with (go_at_call 28; refine ((HI (ox1.ints hx1))).mono ?_)
  rintro e w_4 ⟨vg, rfl, og, b4⟩
  have c4 := c3.trans (b4.mono c3.size)
  have s4 := b4.size
  have ow_4 := ow_3.below b4
  have ox1_4 := ox1.below b4
  go_wp2_with (go_at_call 18; refine (eqInts (og.ints hyl) (ow_4.ints hyl)).mono ?_)
  rintro e w_5 ⟨rfl, b5⟩
  have c5 := c4.trans (b5.mono c4.size)
  have s5 := b5.size
  have ow_5 := ow_4.below b5
  have ox1_5 := ox1_4.below b5
  have og_5 := og.below b5
  go_wp2_with (go_at_call 16; refine (toInts (h1.below c5)).mono ?_)
  rintro e w_6 ⟨vt1, rfl, ot1, b6⟩
  have c6 := c5.trans (b6.mono c5.size)
  have s6 := b6.size
  have ow_6 := ow_5.below b6
  have ox1_6 := ox1_5.below b6
  have og_6 := og_5.below b6
  go_wp2_with (go_at_call 18; refine (eqInts (ox1_6.ints hx1) (ot1.ints hx1)).mono ?_)
  rintro e w_7 ⟨rfl, b7⟩
  have c7 := c6.trans (b7.mono c6.size)
  have s7 := b7.size
  have ow_7 := ow_6.below b7
  have ox1_7 := ox1_6.below b7
  have og_7 := og_6.below b7
  have ot1_7 := ot1.below b7
  go_wp2_with (go_at_call 21; refine (markInts ox1_7 hx1 (by omega) (by omega)).mono ?_)
  rintro e w_8 ⟨rfl, om8, g8⟩
  have c8 := below_mark c7 ox1_7 c2.size g8
  have s8 := g8.size
  have ow_8 := ow_7.kept g8 (apart ow (Nat.le_refl _) ox1)
  have og_8 := og_7.kept g8 (apart' ox1 (Nat.le_refl _) og)
  go_wp2_with (go_at_call 18; refine (eqInts (og_8.ints hyl) (ow_8.ints hyl)).mono ?_)
  rintro e w_9 ⟨rfl, b9⟩
  have c9 := c8.trans (b9.mono c8.size)
  have s9 := b9.size
  have ow_9 := ow_8.below b9
  have og_9 := og_8.below b9
  go_wp2_with (go_at_call 21; refine (markInts og_9 hyl (by omega) (by omega)).mono ?_)
  rintro e w_10 ⟨rfl, om10, g10⟩
  have c10 := below_mark c9 og_9 c3.size g10
  have s10 := g10.size
  have ow_10 := ow_9.kept g10 (apart ow s3 og)
  go_wp2_with (go_at_call 22; refine (heldInts (om10.ints (by rw [marks_length]; exact hyl)) (marks_held 1 _) (by omega) (by omega)).mono ?_)
  rintro e w_x ⟨rfl, rfl⟩
  rw [marks_length]
  go_wp2_with (go_at_call 16; refine (toInts (h1.below c10)).mono ?_)
  rintro e w_11 ⟨vy1, rfl, oy1, b11⟩
  have c11 := c10.trans (b11.mono c10.size)
  have s11 := b11.size
  have ow_11 := ow_10.below b11
  have og_11 := om10.below b11
  go_wp2_with (go_at_call 28; refine ((HI (oy1.ints hx1))).mono ?_)
  rintro e w_12 ⟨vh, rfl, oh, b12⟩
  have c12 := c11.trans (b12.mono c11.size)
  have s12 := b12.size
  have ow_12 := ow_11.below b12
  have og_12 := og_11.below b12
  have oy1_12 := oy1.below b12
  go_wp2_with (go_at_call 18; refine (eqInts (oh.ints hyl) (ow_12.ints hyl)).mono ?_)
  rintro e w_13 ⟨rfl, b13⟩
  have c13 := c12.trans (b13.mono c12.size)
  have s13 := b13.size
  have ow_13 := ow_12.below b13
  have og_13 := og_12.below b13
  have oh_13 := oh.below b13
  go_wp2_with (go_at_call 22; refine (heldInts (og_13.ints (by rw [marks_length]; exact hyl)) (marks_held 1 _) (by omega) (by omega)).mono ?_)
  rintro e w_x ⟨rfl, rfl⟩
  rw [marks_length]
  go_wp2_with fail
  go_ret
  exact ⟨rfl, c13⟩

end Go.Proofs.Ytckdfcfgjdgklaa

namespace Go.Proofs.Ytckdfcfgjdgklaa.fnExactCountsNet
open Go.ChangeShapes Go.WideShapes Go.ChangeAt Go.RowKit
open Go.ChangeMaps (open_string shut_string)
set_option linter.unusedVariables false

theorem own : ownKnob Try.prog.godebug = none := by kernel_rfl
theorem laidOut : laidOutB Try.prog = true := by kernel_rfl

set_option maxRecDepth 100000 in
theorem lifted (os : Os) (started : os.Started) (H : Type) (enc : TypeId × Value → H) :
    ReturnsInHanded {} Try.checked os 8 .any (Rows.fnExactCountsNetSpec.pre6 enc Try.prog Try.f8 Rows.fnExactCountsNetRow.domain false) (Rows.fnExactCountsNetSpec.post enc Try.prog Try.f8 false true false false) := by
  refine returnsInHanded_of_change (C := Try.checked) own started (by kernel_rfl) Try.func8
    (ChangeSpec.witness6 (enc := enc) (C := Try.checked) false ⟨#[], #[.int .i64 0, .slice none 0 0], []⟩ 8 (by kernel_rfl) (by kernel_rfl) (by kernel_rfl) (by kernel_rfl)) ?_
  intro W base args ds gs before hval0 hW hcnd _
  have hval : ∀ (j : Nat) t v, Try.f8.params[j]? = some t → args[j]? = some v → Value.okWide Try.prog W .any base t v := hval0
  have hW' := hW
  obtain ⟨p, q, hA0, hV, rfl, hfz, hnd⟩ := hW
  have hA : DataW.TrodAll enc Try.prog W 0 (fun _ => true) true Try.f8.params.toList args.toList ds p := hA0
  rw [Try.params8] at hA hval
  obtain ⟨v0, vs0, d0, ds0, p0, q0, hargs, rfl, rfl, h0, r0⟩ := trodAll_cons hA
  obtain ⟨v1, vs1, d1, ds1, p1, q1, rfl, rfl, rfl, h1, r1⟩ := trodAll_cons r0
  obtain ⟨rfl, rfl, rfl⟩ := trodAll_nil r1
  obtain rfl : args = #[v0, v1] := by cases args; simp_all
  obtain ⟨rfl, rfl⟩ := trodVars_none hV
  obtain ⟨a0, rfl, rfl, rfl, w0⟩ := open_int Try.underlying3 (hval 0 3 v0 rfl rfl) h0
  obtain ⟨a1, len1, cap1, rfl⟩ := okWide_slice Try.underlying28 (hval 1 28 v1 rfl rfl)
  have k1 := h1
  have lt1 : ∀ x ∈ p1, x.block < W.heap.size := by obtain ⟨m, hm⟩ := k1; exact DataW.trod_lt m _ _ _ hm
  obtain ⟨z1, w1⟩ : ∃ zs, IsRowK .i64 W a1 len1 cap1 zs := by
    obtain ⟨fuel, hf⟩ := h1
    rcases open_ints Try.underlying28 Try.underlying3 (by kernel_rfl) hf with ⟨hcs, _⟩ | ⟨x, l, c, zs, hcs, _, hl, hm, hz, _, hcell, hwz⟩
    · simp [Value.cells] at hcs
      obtain ⟨rfl, rfl, rfl⟩ := hcs
      exact ⟨[], .inl ⟨rfl, rfl, rfl, rfl⟩⟩
    · simp [Value.cells] at hcs
      obtain ⟨rfl, rfl, rfl⟩ := hcs
      exact ⟨zs, .inr ⟨_, rfl, hl, hm, by simpa using hz, hcell, hwz⟩⟩
  clear hA0 hval0
  refine (walk_FnExactCountsNet a0 a1 len1 cap1 z1 W w0 w1).mono fun e W' ⟨he, bel⟩ => ?_
  subst he
  exact ⟨_, rfl, _, _, _, [], _, [], hW', trodAll_mk1 (shut_bool Try.underlying4 _), (trodAll_cons_mk (shut_int Try.underlying3 w0) (trodAll_cons_mk (Below.trod laidOut (by kernel_rfl) (of_decide_eq_true (by kernel_rfl)) k1 bel lt1) trodAll_mk0)), rfl, bel.frame _, fun h => by cases h⟩

theorem closed : joinedFacts Try.checked.prog 8 Try.f8 Rows.fnExactCountsNetSpec Rows.fnExactCountsNetRow = true := by
  unfold joinedFacts
  simp only [Bool.and_eq_true]
  repeat' (refine And.intro ?_ ?_)
  all_goals first
    | with_reducible exact may_enter
    | (rw [lifts_final]; kernel_rfl)
    | (rw [make_is]; kernel_rfl)
    | kernel_rfl

theorem over : Rows.fnExactCountsNetRow.holds Try.pinned (OpenSpec.ofChange Rows.fnExactCountsNetSpec) :=
  OpenClaim.holds_of_wide 8 Try.f8 rfl rfl rfl rfl rfl rfl rfl ⟨rfl, rfl, rfl, rfl, rfl⟩ rfl rfl rfl rfl rfl (by kernel_rfl) Try.func8 closed
    (of_decide_eq_true (by kernel_rfl)) (by unfold Func.isWrapper; first | (rw [if_pos (by decide +kernel)]; kernel_rfl) | (rw [if_neg (by decide +kernel)]; exact ⟨rfl, rfl⟩))
    (fun os started H enc _ => lifted os started H enc)

theorem proved : Rows.FnExactCountsNetSaid := over
#print axioms proved
end Go.Proofs.Ytckdfcfgjdgklaa.fnExactCountsNet
