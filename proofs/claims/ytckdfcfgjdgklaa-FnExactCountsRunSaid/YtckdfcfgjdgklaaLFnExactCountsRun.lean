/-
  For every input the law 'FnExactCountsRun' returns true, and each of its arguments reads behind the call as it read before. Conditions: none beyond those of the row.
-/
import Derived.Test.YtckdfcfgjdgklaaRows
import Derived.WalkKit
import Derived.ProofKit
import Derived.OpenShut
import Derived.ShutString
import Derived.ChangeOld
import Derived.Below
import Derived.Deep.Matrix
import Derived.Test.YtckdfcfgjdgklaaIo
import Derived.Test.YtckdfcfgjdgklaaCtrL
namespace Go.Proofs.Ytckdfcfgjdgklaa
open Go.RowKit

set_option maxHeartbeats 2000000 in
theorem walk_FnExactCountsRun (a0 : Option Addr) (len0 cap0 : Nat) (z0 : List Int) (a1 : Option Addr) (len1 cap1 : Nat) (z1 : List Int) (w : World) (w0 : IsRowK .i64 w a0 len0 cap0 z0) (w1 : IsRowK .i64 w a1 len1 cap1 z1) :
    Calls Try.prog 6 #[.slice a0 len0 cap0, .slice a1 len1 cap1] w fun e w' => e = .returned (.bool true) ∧ Below w.heap.size w w' := by
  rcases Nat.lt_or_ge 1048576 len0 with hbig | hsm0
  · have hb : (1048576 : Int) < (len0 : Int) := by omega
    go_enter Try.func6, Try.ntmps6
    go_wp2_with fail
    go_ret
    exact ⟨rfl, Below.refl _ _⟩
  rcases Nat.lt_or_ge 1048576 len1 with hbig | hsm1
  · have hb : (1048576 : Int) < (len1 : Int) := by omega
    have hk0 : (len0 : Int) ≤ 1048576 := by omega
    go_enter Try.func6, Try.ntmps6
    go_wp2_with fail
    go_ret
    exact ⟨rfl, Below.refl _ _⟩
  have hb0 : (len0 : Int) ≤ 1048576 := by omega
  have h0 := ints_of_rowK w0 hsm0
  have f0 := fits_take w0
  generalize z0.take len0 = xs0 at h0 f0
  clear w0 hsm0
  have hx0 : xs0.length ≤ 1048576 := h0.len
  have hb1 : (len1 : Int) ≤ 1048576 := by omega
  have h1 := ints_of_rowK w1 hsm1
  have f1 := fits_take w1
  generalize z1.take len1 = xs1 at h1 f1
  clear w1 hsm1
  have hx1 : xs1.length ≤ 1048576 := h1.len
  have hyl : ((runC xs0 xs1).getD []).length ≤ 1048576 := Nat.le_trans runC_len (by decide)
  obtain ⟨ys, hys⟩ : ∃ ys, ys = (runC xs0 xs1).getD [] := ⟨_, rfl⟩
  obtain ⟨ok, hok⟩ : ∃ ok, ok = (runC xs0 xs1).isSome := ⟨_, rfl⟩
  have HS : ∀ {W : World} {u0 u1 : Value}, Ints W u0 xs0 → Ints W u1 xs1 → Calls Try.prog 23 #[u0, u1] W (MadeIntsB W ys ok) := by
    intro W u0 u1 q0 q1; rw [hys, hok]; exact specRunC q0 q1 f1
  have HI : ∀ {W : World} {u0 u1 : Value}, Ints W u0 xs0 → Ints W u1 xs1 → Calls Try.prog 24 #[u0, u1] W (MadeIntsB W ys ok) := by
    intro W u0 u1 q0 q1; rw [hys, hok]; exact implRunC q0 q1 f1
  rw [← hys] at hyl
  have hyl' : (ys.length : Int) ≤ 1048576 := by omega
  clear hys hok
  go_enter Try.func6, Try.ntmps6
  go_wp2_with (go_at_call 16; refine (toInts h0).mono ?_)
  rintro e w_1 ⟨va0, rfl, oa0, b1⟩
  have c1 := b1
  have s1 := b1.size
  go_wp2_with (go_at_call 16; refine (toInts (h1.below c1)).mono ?_)
  rintro e w_2 ⟨va1, rfl, oa1, b2⟩
  have c2 := c1.trans (b2.mono c1.size)
  have s2 := b2.size
  have oa0_2 := oa0.below b2
  go_wp2_with (go_at_call 23; refine ((HS (oa0_2.ints hx0) (oa1.ints hx1))).mono ?_)
  rintro e w_3 ⟨vw, rfl, ow, b3⟩
  have c3 := c2.trans (b3.mono c2.size)
  have s3 := b3.size
  have oa0_3 := oa0_2.below b3
  have oa1_3 := oa1.below b3
  go_wp2_with (go_at_call 16; refine (toInts (h0.below c3)).mono ?_)
  rintro e w_4 ⟨vx0, rfl, ox0, b4⟩
  have c4 := c3.trans (b4.mono c3.size)
  have s4 := b4.size
  have ow_4 := ow.below b4
  go_wp2_with (go_at_call 16; refine (toInts (h1.below c4)).mono ?_)
  rintro e w_5 ⟨vx1, rfl, ox1, b5⟩
  have c5 := c4.trans (b5.mono c4.size)
  have s5 := b5.size
  have ow_5 := ow_4.below b5
  have ox0_5 := ox0.below b5
  go_wp2_with (go_at_call 24; refine ((HI (ox0_5.ints hx0) (ox1.ints hx1))).mono ?_)
  rintro e w_6 ⟨vg, rfl, og, b6⟩
  have c6 := c5.trans (b6.mono c5.size)
  have s6 := b6.size
  have ow_6 := ow_5.below b6
  have ox0_6 := ox0_5.below b6
  have ox1_6 := ox1.below b6
  go_wp2_with (go_at_call 18; refine (eqInts (og.ints hyl) (ow_6.ints hyl)).mono ?_)
  rintro e w_7 ⟨rfl, b7⟩
  have c7 := c6.trans (b7.mono c6.size)
  have s7 := b7.size
  have ow_7 := ow_6.below b7
  have ox0_7 := ox0_6.below b7
  have ox1_7 := ox1_6.below b7
  have og_7 := og.below b7
  go_wp2_with (go_at_call 16; refine (toInts (h0.below c7)).mono ?_)
  rintro e w_8 ⟨vt0, rfl, ot0, b8⟩
  have c8 := c7.trans (b8.mono c7.size)
  have s8 := b8.size
  have ow_8 := ow_7.below b8
  have ox0_8 := ox0_7.below b8
  have ox1_8 := ox1_7.below b8
  have og_8 := og_7.below b8
  go_wp2_with (go_at_call 18; refine (eqInts (ox0_8.ints hx0) (ot0.ints hx0)).mono ?_)
  rintro e w_9 ⟨rfl, b9⟩
  have c9 := c8.trans (b9.mono c8.size)
  have s9 := b9.size
  have ow_9 := ow_8.below b9
  have ox0_9 := ox0_8.below b9
  have ox1_9 := ox1_8.below b9
  have og_9 := og_8.below b9
  have ot0_9 := ot0.below b9
  go_wp2_with (go_at_call 16; refine (toInts (h1.below c9)).mono ?_)
  rintro e w_10 ⟨vt1, rfl, ot1, b10⟩
  have c10 := c9.trans (b10.mono c9.size)
  have s10 := b10.size
  have ow_10 := ow_9.below b10
  have ox0_10 := ox0_9.below b10
  have ox1_10 := ox1_9.below b10
  have og_10 := og_9.below b10
  go_wp2_with (go_at_call 18; refine (eqInts (ox1_10.ints hx1) (ot1.ints hx1)).mono ?_)
  rintro e w_11 ⟨rfl, b11⟩
  have c11 := c10.trans (b11.mono c10.size)
  have s11 := b11.size
  have ow_11 := ow_10.below b11
  have ox0_11 := ox0_10.below b11
  have ox1_11 := ox1_10.below b11
  have og_11 := og_10.below b11
  have ot1_11 := ot1.below b11
  go_wp2_with (go_at_call 21; refine (markInts ox0_11 hx0 (by omega) (by omega)).mono ?_)
  rintro e w_12 ⟨rfl, om12, g12⟩
  have c12 := below_mark c11 ox0_11 c3.size g12
  have s12 := g12.size
  have ow_12 := ow_11.kept g12 (apart ow (Nat.le_refl _) ox0)
  have ox1_12 := ox1_11.kept g12 (apart' ox0 (Nat.le_refl _) ox1)
  have og_12 := og_11.kept g12 (apart' ox0 s5 og)
  go_wp2_with (go_at_call 21; refine (markInts ox1_12 hx1 (by omega) (by omega)).mono ?_)
  rintro e w_13 ⟨rfl, om13, g13⟩
  have c13 := below_mark c12 ox1_12 c4.size g13
  have s13 := g13.size
  have ow_13 := ow_12.kept g13 (apart ow s4 ox1)
  have ox0_13 := om12.kept g13 (apart ox0 (Nat.le_refl _) ox1)
  have og_13 := og_12.kept g13 (apart' ox1 (Nat.le_refl _) og)
  go_wp2_with (go_at_call 18; refine (eqInts (og_13.ints hyl) (ow_13.ints hyl)).mono ?_)
  rintro e w_14 ⟨rfl, b14⟩
  have c14 := c13.trans (b14.mono c13.size)
  have s14 := b14.size
  have ow_14 := ow_13.below b14
  have og_14 := og_13.below b14
  go_wp2_with (go_at_call 21; refine (markInts og_14 hyl (by omega) (by omega)).mono ?_)
  rintro e w_15 ⟨rfl, om15, g15⟩
  have c15 := below_mark c14 og_14 c5.size g15
  have s15 := g15.size
  have ow_15 := ow_14.kept g15 (apart ow (Nat.le_trans s4 s5) og)
  go_wp2_with (go_at_call 22; refine (heldInts (om15.ints (by rw [marks_length]; exact hyl)) (marks_held 1 _) (by omega) (by omega)).mono ?_)
  rintro e w_x ⟨rfl, rfl⟩
  rw [marks_length]
  go_wp2_with (go_at_call 16; refine (toInts (h0.below c15)).mono ?_)
  rintro e w_16 ⟨vy0, rfl, oy0, b16⟩
  have c16 := c15.trans (b16.mono c15.size)
  have s16 := b16.size
  have ow_16 := ow_15.below b16
  have og_16 := om15.below b16
  go_wp2_with (go_at_call 16; refine (toInts (h1.below c16)).mono ?_)
  rintro e w_17 ⟨vy1, rfl, oy1, b17⟩
  have c17 := c16.trans (b17.mono c16.size)
  have s17 := b17.size
  have ow_17 := ow_16.below b17
  have og_17 := og_16.below b17
  have oy0_17 := oy0.below b17
  go_wp2_with (go_at_call 24; refine ((HI (oy0_17.ints hx0) (oy1.ints hx1))).mono ?_)
  rintro e w_18 ⟨vh, rfl, oh, b18⟩
  have c18 := c17.trans (b18.mono c17.size)
  have s18 := b18.size
  have ow_18 := ow_17.below b18
  have og_18 := og_17.below b18
  have oy0_18 := oy0_17.below b18
  have oy1_18 := oy1.below b18
  go_wp2_with (go_at_call 18; refine (eqInts (oh.ints hyl) (ow_18.ints hyl)).mono ?_)
  rintro e w_19 ⟨rfl, b19⟩
  have c19 := c18.trans (b19.mono c18.size)
  have s19 := b19.size
  have ow_19 := ow_18.below b19
  have og_19 := og_18.below b19
  have oh_19 := oh.below b19
  go_wp2_with (go_at_call 22; refine (heldInts (og_19.ints (by rw [marks_length]; exact hyl)) (marks_held 1 _) (by omega) (by omega)).mono ?_)
  rintro e w_x ⟨rfl, rfl⟩
  rw [marks_length]
  go_wp2_with fail
  go_ret
  exact ⟨rfl, c19⟩

end Go.Proofs.Ytckdfcfgjdgklaa

namespace Go.Proofs.Ytckdfcfgjdgklaa.fnExactCountsRun
open Go.ChangeShapes Go.WideShapes Go.ChangeAt Go.RowKit
open Go.ChangeMaps (open_string shut_string)
set_option linter.unusedVariables false

theorem own : ownKnob Try.prog.godebug = none := by kernel_rfl
theorem laidOut : laidOutB Try.prog = true := by kernel_rfl

set_option maxRecDepth 100000 in
theorem lifted (os : Os) (started : os.Started) (H : Type) (enc : TypeId × Value → H) :
    ReturnsInHanded {} Try.checked os 6 .any (Rows.fnExactCountsRunSpec.pre6 enc Try.prog Try.f6 Rows.fnExactCountsRunRow.domain false) (Rows.fnExactCountsRunSpec.post enc Try.prog Try.f6 false true false false) := by
  refine returnsInHanded_of_change (C := Try.checked) own started (by kernel_rfl) Try.func6
    (ChangeSpec.witness6 (enc := enc) (C := Try.checked) false ⟨#[], #[.slice none 0 0, .slice none 0 0], []⟩ 8 (by kernel_rfl) (by kernel_rfl) (by kernel_rfl) (by kernel_rfl)) ?_
  intro W base args ds gs before hval0 hW hcnd _
  have hval : ∀ (j : Nat) t v, Try.f6.params[j]? = some t → args[j]? = some v → Value.okWide Try.prog W .any base t v := hval0
  have hW' := hW
  obtain ⟨p, q, hA0, hV, rfl, hfz, hnd⟩ := hW
  have hA : DataW.TrodAll enc Try.prog W 0 (fun _ => true) true Try.f6.params.toList args.toList ds p := hA0
  rw [Try.params6] at hA hval
  obtain ⟨v0, vs0, d0, ds0, p0, q0, hargs, rfl, rfl, h0, r0⟩ := trodAll_cons hA
  obtain ⟨v1, vs1, d1, ds1, p1, q1, rfl, rfl, rfl, h1, r1⟩ := trodAll_cons r0
  obtain ⟨rfl, rfl, rfl⟩ := trodAll_nil r1
  obtain rfl : args = #[v0, v1] := by cases args; simp_all
  obtain ⟨rfl, rfl⟩ := trodVars_none hV
  obtain ⟨a0, len0, cap0, rfl⟩ := okWide_slice Try.underlying28 (hval 0 28 v0 rfl rfl)
  have k0 := h0
  have lt0 : ∀ x ∈ p0, x.block < W.heap.size := by obtain ⟨m, hm⟩ := k0; exact DataW.trod_lt m _ _ _ hm
  obtain ⟨z0, w0⟩ : ∃ zs, IsRowK .i64 W a0 len0 cap0 zs := by
    obtain ⟨fuel, hf⟩ := h0
    rcases open_ints Try.underlying28 Try.underlying3 (by kernel_rfl) hf with ⟨hcs, _⟩ | ⟨x, l, c, zs, hcs, _, hl, hm, hz, _, hcell, hwz⟩
    · simp [Value.cells] at hcs
      obtain ⟨rfl, rfl, rfl⟩ := hcs
      exact ⟨[], .inl ⟨rfl, rfl, rfl, rfl⟩⟩
    · simp [Value.cells] at hcs
      obtain ⟨rfl, rfl, rfl⟩ := hcs
      exact ⟨zs, .inr ⟨_, rfl, hl, hm, by simpa using hz, hcell, hwz⟩⟩
  obtain ⟨a1, len1, cap1, rfl⟩ := okWide_slice Try.underlying28 (hval 1 28 v1 rfl rfl)
  have k1 := h1
  have lt1 : ∀ x ∈ p1, x.block < W.heap.size := by obtain ⟨m, hm⟩ := k1; exact DataW.trod_lt m _ _ _ hm
  obtain ⟨z1, w1⟩ : ∃ zs, IsRowK .i64 W a1 len1 cap1 zs := by
    obtain ⟨fuel, hf⟩ := h1
    rcases open_ints Try.underlying28 Try.underlying3 (by kernel_rfl) hf with ⟨hcs, _⟩ | ⟨x, l, c, zs, hcs, _, hl, hm, hz, _, hcell, hwz⟩
    · simp [Value.cells] at hcs
      obtain ⟨rfl, rfl, rfl⟩ := hcs
      exact ⟨[], .inl ⟨rfl, rfl, rfl, rfl⟩⟩
    · simp [Value.cells] at hcs
      obtain ⟨rfl, rfl, rfl⟩ := hcs
      exact ⟨zs, .inr ⟨_, rfl, hl, hm, by simpa using hz, hcell, hwz⟩⟩
  clear hA0 hval0
  refine (walk_FnExactCountsRun a0 len0 cap0 z0 a1 len1 cap1 z1 W w0 w1).mono fun e W' ⟨he, bel⟩ => ?_
  subst he
  exact ⟨_, rfl, _, _, _, [], _, [], hW', trodAll_mk1 (shut_bool Try.underlying4 _), (trodAll_cons_mk (Below.trod laidOut (by kernel_rfl) (of_decide_eq_true (by kernel_rfl)) k0 bel lt0) (trodAll_cons_mk (Below.trod laidOut (by kernel_rfl) (of_decide_eq_true (by kernel_rfl)) k1 bel lt1) trodAll_mk0)), rfl, bel.frame _, fun h => by cases h⟩

theorem closed : joinedFacts Try.checked.prog 6 Try.f6 Rows.fnExactCountsRunSpec Rows.fnExactCountsRunRow = true := by
  unfold joinedFacts
  simp only [Bool.and_eq_true]
  repeat' (refine And.intro ?_ ?_)
  all_goals first
    | with_reducible exact may_enter
    | (rw [lifts_final]; kernel_rfl)
    | (rw [make_is]; kernel_rfl)
    | kernel_rfl

theorem over : Rows.fnExactCountsRunRow.holds Try.pinned (OpenSpec.ofChange Rows.fnExactCountsRunSpec) :=
  OpenClaim.holds_of_wide 6 Try.f6 rfl rfl rfl rfl rfl rfl rfl ⟨rfl, rfl, rfl, rfl, rfl⟩ rfl rfl rfl rfl rfl (by kernel_rfl) Try.func6 closed
    (of_decide_eq_true (by kernel_rfl)) (by unfold Func.isWrapper; first | (rw [if_pos (by decide +kernel)]; kernel_rfl) | (rw [if_neg (by decide +kernel)]; exact ⟨rfl, rfl⟩))
    (fun os started H enc _ => lifted os started H enc)

theorem proved : Rows.FnExactCountsRunSaid := over
#print axioms proved
end Go.Proofs.Ytckdfcfgjdgklaa.fnExactCountsRun
