/-
  For every input the law 'FnExactBookReadings' returns true, and each of its arguments reads behind the call as it read before. Conditions: none beyond those of the row.
-/
import Derived.Test.YtcfnklpbiodhjaaRows
import Derived.WalkKit
import Derived.ProofKit
import Derived.OpenShut
import Derived.ShutString
import Derived.ChangeOld
import Derived.Below
import Derived.Deep.Matrix
import Derived.Test.YtcfnklpbiodhjaaBookArg
import Derived.Test.YtcfnklpbiodhjaaReadI
namespace Go.Proofs.Ytcfnklpbiodhjaa
open Go.RowKit

set_option maxHeartbeats 1000000 in
theorem walk_FnExactBookReadings (a0 : Option Addr) (len0 cap0 : Nat) (a1 : Option Addr) (len1 cap1 : Nat) (z1 : List Int) (w : World) (w0 : IsRowsI w a0 len0 cap0) (w1 : IsRowK .i64 w a1 len1 cap1 z1) :
    Calls Try.prog 4 #[.slice a0 len0 cap0, .slice a1 len1 cap1] w fun e w' => e = .returned (.bool true) ∧ Below w.heap.size w w' := by
  rcases Nat.lt_or_ge 1048576 len1 with hbig | hsm1
  · have hb : (1048576 : Int) < (len1 : Int) := by omega
    go_enter Try.func4, Try.ntmps4
    go_wp2_with fail
    go_ret
    exact ⟨rfl, Below.refl _ _⟩
  have hb : (len1 : Int) ≤ 1048576 := by omega
  have k := ints_of_rowK w1 hsm1
  generalize z1.take len1 = xs at k
  clear w1 hsm1
  go_enter Try.func4, Try.ntmps4
  go_wp2_with (go_at_call 11; refine (szLists w0).mono ?_)
  rintro e w' ⟨n, rfl, hn, rfl⟩
  rcases Int.lt_or_le n 0 with hneg | hpos
  · go_wp2_with fail
    go_ret
    exact ⟨rfl, Below.refl _ _⟩
  · obtain ⟨hsm, hst⟩ := hn hpos
    obtain ⟨bk, h⟩ := lists_of_rows w0 hsm hst
    clear hn hst w0
    go_wp2_with (go_at_call 12; refine (toLists h).mono ?_)
    rintro e w1 ⟨v1, rfl, o1, b1⟩
    go_wp2_with (go_at_call 13; refine (toInts (k.below b1)).mono ?_)
    rintro e w2 ⟨v2, rfl, o2, b2⟩
    have c2 := b1.trans (b2.mono b1.size)
    go_wp2_with (go_at_call 8; refine (specReadings (o1.below b2).lists (o2.ints k.len)).mono ?_)
    rintro e w3 ⟨rfl, b3⟩
    have c3 := c2.trans (b3.mono c2.size)
    go_wp2_with (go_at_call 12; refine (toLists (h.below c3)).mono ?_)
    rintro e w4 ⟨v4, rfl, o4, b4⟩
    have c4 := c3.trans (b4.mono c3.size)
    go_wp2_with (go_at_call 13; refine (toInts (k.below c4)).mono ?_)
    rintro e w5 ⟨v5, rfl, o5, b5⟩
    have c5 := c4.trans (b5.mono c4.size)
    go_wp2_with (go_at_call 7; refine (implReadings (o4.below b5).lists (o5.ints k.len)).mono ?_)
    rintro e w6 ⟨rfl, b6⟩
    have c6 := c5.trans (b6.mono c5.size)
    go_wp2_with (go_at_call 12; refine (toLists (h.below c6)).mono ?_)
    rintro e w7 ⟨v7, rfl, o7, b7⟩
    have c7 := c6.trans (b7.mono c6.size)
    go_wp2_with (go_at_call 14; refine (eqLists (((o4.below b5).below b6).below b7).lists o7.lists).mono ?_)
    rintro e w8 ⟨rfl, b8⟩
    have c8 := c7.trans (b8.mono c7.size)
    go_wp2_with (go_at_call 13; refine (toInts (k.below c8)).mono ?_)
    rintro e w9 ⟨v9, rfl, o9, b9⟩
    have c9 := c8.trans (b9.mono c8.size)
    have o59 := ((((o5.below b6).below b7).below b8).below b9)
    go_wp2_with (go_at_call 15; refine (eqInts (o59.ints k.len) (o9.ints k.len)).mono ?_)
    rintro e w10 ⟨rfl, b10⟩
    go_wp2_with fail
    go_ret
    exact ⟨rfl, c9.trans (b10.mono c9.size)⟩

end Go.Proofs.Ytcfnklpbiodhjaa

namespace Go.Proofs.Ytcfnklpbiodhjaa.fnExactBookReadings
open Go.ChangeShapes Go.WideShapes Go.ChangeAt Go.RowKit
open Go.ChangeMaps (open_string shut_string)
set_option linter.unusedVariables false

theorem own : ownKnob Try.prog.godebug = none := by kernel_rfl
theorem laidOut : laidOutB Try.prog = true := by kernel_rfl

set_option maxRecDepth 100000 in
theorem lifted (os : Os) (started : os.Started) (H : Type) (enc : TypeId × Value → H) :
    ReturnsInHanded {} Try.checked os 4 .any (Rows.fnExactBookReadingsSpec.pre6 enc Try.prog Try.f4 Rows.fnExactBookReadingsRow.domain false) (Rows.fnExactBookReadingsSpec.post enc Try.prog Try.f4 false true false false) := by
  refine returnsInHanded_of_change (C := Try.checked) own started (by kernel_rfl) Try.func4
    (ChangeSpec.witness6 (enc := enc) (C := Try.checked) false ⟨#[], #[.slice none 0 0, .slice none 0 0], []⟩ 8 (by kernel_rfl) (by kernel_rfl) (by kernel_rfl) (by kernel_rfl)) ?_
  intro W base args ds gs before hval0 hW hcnd _
  have hval : ∀ (j : Nat) t v, Try.f4.params[j]? = some t → args[j]? = some v → Value.okWide Try.prog W .any base t v := hval0
  have hW' := hW
  obtain ⟨p, q, hA0, hV, rfl, hfz, hnd⟩ := hW
  have hA : DataW.TrodAll enc Try.prog W 0 (fun _ => true) true Try.f4.params.toList args.toList ds p := hA0
  rw [Try.params4] at hA hval
  obtain ⟨v0, vs0, d0, ds0, p0, q0, hargs, rfl, rfl, h0, r0⟩ := trodAll_cons hA
  obtain ⟨v1, vs1, d1, ds1, p1, q1, rfl, rfl, rfl, h1, r1⟩ := trodAll_cons r0
  obtain ⟨rfl, rfl, rfl⟩ := trodAll_nil r1
  obtain rfl : args = #[v0, v1] := by cases args; simp_all
  obtain ⟨rfl, rfl⟩ := trodVars_none hV
  obtain ⟨a0, len0, cap0, rfl⟩ := okWide_slice Try.underlying23 (hval 0 23 v0 rfl rfl)
  have k0 := h0
  have lt0 : ∀ x ∈ p0, x.block < W.heap.size := by obtain ⟨m, hm⟩ := k0; exact DataW.trod_lt m _ _ _ hm
  have w0 : IsRowsI W a0 len0 cap0 := by
    obtain ⟨fuel, hf⟩ := h0
    rcases Go.Deep.open_int_rows Try.underlying23 Try.underlying24 Try.underlying3 (by kernel_rfl) (by kernel_rfl) hf with ⟨hcs, _⟩ | ⟨x, l, c, A, L, C, Z, hcs, _, hl, hm, _, hr⟩
    · simp [Value.cells] at hcs
      obtain ⟨rfl, rfl, rfl⟩ := hcs
      exact .inl ⟨rfl, rfl, rfl⟩
    · simp [Value.cells] at hcs
      obtain ⟨rfl, rfl, rfl⟩ := hcs
      exact IsRowsI.mk hl hm (fun r hr' => ⟨(hr r hr').1, (hr r hr').2.1, (hr r hr').2.2.1, (hr r hr').2.2.2.1, (hr r hr').2.2.2.2.1, (hr r hr').2.2.2.2.2.1, fun a' ha c hc => ((hr r hr').2.2.2.2.2.2 a' ha).2 c hc⟩)
  obtain ⟨a1, len1, cap1, rfl⟩ := okWide_slice Try.underlying24 (hval 1 24 v1 rfl rfl)
  have k1 := h1
  have lt1 : ∀ x ∈ p1, x.block < W.heap.size := by obtain ⟨m, hm⟩ := k1; exact DataW.trod_lt m _ _ _ hm
  obtain ⟨z1, w1⟩ : ∃ zs, IsRowK .i64 W a1 len1 cap1 zs := by
    obtain ⟨fuel, hf⟩ := h1
    rcases open_ints Try.underlying24 Try.underlying3 (by kernel_rfl) hf with ⟨hcs, _⟩ | ⟨x, l, c, zs, hcs, _, hl, hm, hz, _, hcell, hwz⟩
    · simp [Value.cells] at hcs
      obtain ⟨rfl, rfl, rfl⟩ := hcs
      exact ⟨[], .inl ⟨rfl, rfl, rfl, rfl⟩⟩
    · simp [Value.cells] at hcs
      obtain ⟨rfl, rfl, rfl⟩ := hcs
      exact ⟨zs, .inr ⟨_, rfl, hl, hm, by simpa using hz, hcell, hwz⟩⟩
  clear hA0 hval0
  refine (walk_FnExactBookReadings a0 len0 cap0 a1 len1 cap1 z1 W w0 w1).mono fun e W' ⟨he, bel⟩ => ?_
  subst he
  exact ⟨_, rfl, _, _, _, [], _, [], hW', trodAll_mk1 (shut_bool Try.underlying4 _), (trodAll_cons_mk (Below.trod laidOut (by kernel_rfl) (of_decide_eq_true (by kernel_rfl)) k0 bel lt0) (trodAll_cons_mk (Below.trod laidOut (by kernel_rfl) (of_decide_eq_true (by kernel_rfl)) k1 bel lt1) trodAll_mk0)), rfl, bel.frame _, fun h => by cases h⟩

theorem over : Rows.fnExactBookReadingsRow.holds Try.pinned (OpenSpec.ofChange Rows.fnExactBookReadingsSpec) :=
  OpenClaim.holds_of_wide 4 Try.f4 rfl rfl rfl rfl rfl rfl rfl ⟨rfl, rfl, rfl, rfl, rfl⟩ rfl rfl rfl rfl rfl (by kernel_rfl) Try.func4 (by kernel_rfl)
    (of_decide_eq_true (by kernel_rfl)) (by unfold Func.isWrapper; first | (rw [if_pos (by decide +kernel)]; kernel_rfl) | (rw [if_neg (by decide +kernel)]; exact ⟨rfl, rfl⟩))
    (fun os started H enc _ => lifted os started H enc)

theorem proved : Rows.FnExactBookReadingsSaid := over
#print axioms proved
end Go.Proofs.Ytcfnklpbiodhjaa.fnExactBookReadings
