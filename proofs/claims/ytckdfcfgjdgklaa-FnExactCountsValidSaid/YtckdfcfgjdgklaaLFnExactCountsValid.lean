/-
  For every input the law 'FnExactCountsValid' returns true, and each of its arguments reads behind the call as it read before. Conditions: none beyond those of the row.
-/
import Derived.Test.YtckdfcfgjdgklaaRows
import Derived.WalkKit
import Derived.ProofKit
import Derived.OpenShut
import Derived.ShutString
import Derived.ChangeOld
import Derived.Below
import Derived.Deep.Matrix
import Derived.Test.YtckdfcfgjdgklaaIo
import Derived.Test.YtckdfcfgjdgklaaCtrL
namespace Go.Proofs.Ytckdfcfgjdgklaa
open Go.RowKit

set_option maxHeartbeats 2000000 in
theorem walk_FnExactCountsValid (a0 : Option Addr) (len0 cap0 : Nat) (z0 : List Int) (w : World) (w0 : IsRowK .i64 w a0 len0 cap0 z0) :
    Calls Try.prog 4 #[.slice a0 len0 cap0] w fun e w' => e = .returned (.bool true) ∧ Below w.heap.size w w' := by
  rcases Nat.lt_or_ge 1048576 len0 with hbig | hsm0
  · have hb : (1048576 : Int) < (len0 : Int) := by omega
    go_enter Try.func4, Try.ntmps4
    go_wp2_with fail
    go_ret
    exact ⟨rfl, Below.refl _ _⟩
  have hb0 : (len0 : Int) ≤ 1048576 := by omega
  have h0 := ints_of_rowK w0 hsm0
  have f0 := fits_take w0
  generalize z0.take len0 = xs0 at h0 f0
  clear w0 hsm0
  have hx0 : xs0.length ≤ 1048576 := h0.len
  obtain ⟨ok, hok⟩ : ∃ ok, ok = cntB xs0 := ⟨_, rfl⟩
  have HS : ∀ {W : World} {u0 : Value}, Ints W u0 xs0 → Calls Try.prog 15 #[u0] W fun e w' => e = .returned (.bool ok) ∧ Below W.heap.size W w' := by
    intro W u0 q0; rw [hok]; exact specCounts q0
  have HI : ∀ {W : World} {u0 : Value}, Ints W u0 xs0 → Calls Try.prog 17 #[u0] W fun e w' => e = .returned (.bool ok) ∧ W = w' := by
    intro W u0 q0; rw [hok]; exact implCounts q0
  clear hok
  go_enter Try.func4, Try.ntmps4
  go_wp2_with (go_at_call 16; refine (toInts h0).mono ?_)
  rintro e w_1 ⟨va0, rfl, oa0, b1⟩
  have c1 := b1
  have s1 := b1.size
  go_wp2_with (go_at_call 15; refine ((HS (oa0.ints hx0))).mono ?_)
  rintro e w_2 ⟨rfl, b2⟩
  have c2 := c1.trans (b2.mono c1.size)
  have s2 := b2.size
  have oa0_2 := oa0.below b2
  go_wp2_with (go_at_call 16; refine (toInts (h0.below c2)).mono ?_)
  rintro e w_3 ⟨vx0, rfl, ox0, b3⟩
  have c3 := c2.trans (b3.mono c2.size)
  have s3 := b3.size
  go_wp2_with (go_at_call 17; refine ((HI (ox0.ints hx0))).mono ?_)
  rintro e w_x ⟨rfl, rfl⟩
  go_wp2_with (go_at_call 16; refine (toInts (h0.below c3)).mono ?_)
  rintro e w_4 ⟨vt0, rfl, ot0, b4⟩
  have c4 := c3.trans (b4.mono c3.size)
  have s4 := b4.size
  have ox0_4 := ox0.below b4
  go_wp2_with (go_at_call 18; refine (eqInts (ox0_4.ints hx0) (ot0.ints hx0)).mono ?_)
  rintro e w_5 ⟨rfl, b5⟩
  have c5 := c4.trans (b5.mono c4.size)
  have s5 := b5.size
  have ox0_5 := ox0_4.below b5
  have ot0_5 := ot0.below b5
  go_wp2_with fail
  go_ret
  exact ⟨rfl, c5⟩

end Go.Proofs.Ytckdfcfgjdgklaa

namespace Go.Proofs.Ytckdfcfgjdgklaa.fnExactCountsValid
open Go.ChangeShapes Go.WideShapes Go.ChangeAt Go.RowKit
open Go.ChangeMaps (open_string shut_string)
set_option linter.unusedVariables false

theorem own : ownKnob Try.prog.godebug = none := by kernel_rfl
theorem laidOut : laidOutB Try.prog = true := by kernel_rfl

set_option maxRecDepth 100000 in
theorem lifted (os : Os) (started : os.Started) (H : Type) (enc : TypeId × Value → H) :
    ReturnsInHanded {} Try.checked os 4 .any (Rows.fnExactCountsValidSpec.pre6 enc Try.prog Try.f4 Rows.fnExactCountsValidRow.domain false) (Rows.fnExactCountsValidSpec.post enc Try.prog Try.f4 false true false false) := by
  refine returnsInHanded_of_change (C := Try.checked) own started (by kernel_rfl) Try.func4
    (ChangeSpec.witness6 (enc := enc) (C := Try.checked) false ⟨#[], #[.slice none 0 0], []⟩ 8 (by kernel_rfl) (by kernel_rfl) (by kernel_rfl) (by kernel_rfl)) ?_
  intro W base args ds gs before hval0 hW hcnd _
  have hval : ∀ (j : Nat) t v, Try.f4.params[j]? = some t → args[j]? = some v → Value.okWide Try.prog W .any base t v := hval0
  have hW' := hW
  obtain ⟨p, q, hA0, hV, rfl, hfz, hnd⟩ := hW
  have hA : DataW.TrodAll enc Try.prog W 0 (fun _ => true) true Try.f4.params.toList args.toList ds p := hA0
  rw [Try.params4] at hA hval
  obtain ⟨v0, vs0, d0, ds0, p0, q0, hargs, rfl, rfl, h0, r0⟩ := trodAll_cons hA
  obtain ⟨rfl, rfl, rfl⟩ := trodAll_nil r0
  obtain rfl : args = #[v0] := by cases args; simp_all
  obtain ⟨rfl, rfl⟩ := trodVars_none hV
  obtain ⟨a0, len0, cap0, rfl⟩ := okWide_slice Try.underlying28 (hval 0 28 v0 rfl rfl)
  have k0 := h0
  have lt0 : ∀ x ∈ p0, x.block < W.heap.size := by obtain ⟨m, hm⟩ := k0; exact DataW.trod_lt m _ _ _ hm
  obtain ⟨z0, w0⟩ : ∃ zs, IsRowK .i64 W a0 len0 cap0 zs := by
    obtain ⟨fuel, hf⟩ := h0
    rcases open_ints Try.underlying28 Try.underlying3 (by kernel_rfl) hf with ⟨hcs, _⟩ | ⟨x, l, c, zs, hcs, _, hl, hm, hz, _, hcell, hwz⟩
    · simp [Value.cells] at hcs
      obtain ⟨rfl, rfl, rfl⟩ := hcs
      exact ⟨[], .inl ⟨rfl, rfl, rfl, rfl⟩⟩
    · simp [Value.cells] at hcs
      obtain ⟨rfl, rfl, rfl⟩ := hcs
      exact ⟨zs, .inr ⟨_, rfl, hl, hm, by simpa using hz, hcell, hwz⟩⟩
  clear hA0 hval0
  refine (walk_FnExactCountsValid a0 len0 cap0 z0 W w0).mono fun e W' ⟨he, bel⟩ => ?_
  subst he
  exact ⟨_, rfl, _, _, _, [], _, [], hW', trodAll_mk1 (shut_bool Try.underlying4 _), (trodAll_cons_mk (Below.trod laidOut (by kernel_rfl) (of_decide_eq_true (by kernel_rfl)) k0 bel lt0) trodAll_mk0), rfl, bel.frame _, fun h => by cases h⟩

theorem closed : joinedFacts Try.checked.prog 4 Try.f4 Rows.fnExactCountsValidSpec Rows.fnExactCountsValidRow = true := by
  unfold joinedFacts
  simp only [Bool.and_eq_true]
  repeat' (refine And.intro ?_ ?_)
  all_goals first
    | with_reducible exact may_enter
    | (rw [lifts_final]; kernel_rfl)
    | (rw [make_is]; kernel_rfl)
    | kernel_rfl

theorem over : Rows.fnExactCountsValidRow.holds Try.pinned (OpenSpec.ofChange Rows.fnExactCountsValidSpec) :=
  OpenClaim.holds_of_wide 4 Try.f4 rfl rfl rfl rfl rfl rfl rfl ⟨rfl, rfl, rfl, rfl, rfl⟩ rfl rfl rfl rfl rfl (by kernel_rfl) Try.func4 closed
    (of_decide_eq_true (by kernel_rfl)) (by unfold Func.isWrapper; first | (rw [if_pos (by decide +kernel)]; kernel_rfl) | (rw [if_neg (by decide +kernel)]; exact ⟨rfl, rfl⟩))
    (fun os started H enc _ => lifted os started H enc)

theorem proved : Rows.FnExactCountsValidSaid := over
#print axioms proved
end Go.Proofs.Ytckdfcfgjdgklaa.fnExactCountsValid
