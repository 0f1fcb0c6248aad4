/-
  For every input the law 'FnCodeRank' returns true, and each of its arguments reads behind the call as it read before. Conditions: none beyond those of the row.
-/
import Derived.Test.YtmpelpmlmmfalaaRows
import Derived.WalkKit
import Derived.ProofKit
import Derived.OpenShut
import Derived.ShutString
import Derived.ChangeOld
import Derived.Below
import Derived.Deep.Matrix
import Derived.Test.YtmpelpmlmmfalaaDraws3
import Derived.Test.YtmpelpmlmmfalaaOrderP
import Derived.Test.YtmpelpmlmmfalaaNthW
import Derived.Test.YtmpelpmlmmfalaaRanks
import Derived.Test.YtmpelpmlmmfalaaSameL
namespace Go.Proofs.Ytmpelpmlmmfalaa
open Go.RowKit

set_option maxHeartbeats 2000000 in
theorem walk_FnCodeRank (a0 : Option Addr) (len0 cap0 : Nat) (z0 : List Int) (w : World) (w0 : IsRowK .u8 w a0 len0 cap0 z0) :
    Calls Try.prog 4 #[.slice a0 len0 cap0] w fun e w' => e = .returned (.bool true) ∧ Below w.heap.size w w' := by
  rcases Nat.lt_or_ge 1048576 len0 with hbig | hsm
  · have hb : (1048576 : Int) < (len0 : Int) := by omega
    go_enter Try.func4, Try.ntmps4
    go_wp2_with fail
    go_ret
    exact ⟨rfl, Below.refl _ _⟩
  have hb : (len0 : Int) ≤ 1048576 := by omega
  go_enter Try.func4, Try.ntmps4
  go_wp2_with (go_at_call 19; refine (drawRank w0 hsm).mono ?_)
  rintro e w1 ⟨v, xs, rfl, hi, hl6, b1⟩
  have hir := implRank hi
  cases hv : groupsB xs 1 5
  · have hr : rankOf xs = -1 := by simp [rankOf, hv]
    rw [hr] at hir
    have HIR := Lib.hid hir
    have HR := Lib.hid hr
    clear hir hr hv
    go_wp2_with (go_at_call 18; refine HIR.out.mono ?_)
    rintro e w2 ⟨rfl, b2⟩
    have hs := specRank (hi.below b2)
    rw [HR.out] at hs
    have HS := Lib.hid hs
    clear hs
    go_wp2_with (go_at_call 20; refine HS.out.mono ?_; rintro e w' ⟨rfl, rfl⟩)
    go_ret
    exact ⟨rfl, b1.trans (b2.mono b1.size)⟩
  · obtain ⟨q1, q2, q3, q4⟩ := nth_of_rank hv
    have hbe : beatsOf xs = sumL xs := by simp [beatsOf, hv]
    have hmb := codeMany_bounds (sumL xs)
    obtain ⟨r, hr⟩ : ∃ r, r = rankOf xs := ⟨_, rfl⟩
    obtain ⟨n, hn⟩ : ∃ n, n = sumL xs := ⟨_, rfl⟩
    rw [← hr] at hir q1 q2 q3 q4
    rw [← hn] at q1 q2 q3 hbe hmb
    obtain ⟨M, hM⟩ : ∃ M, M = codeMany n := ⟨_, rfl⟩
    have HIM := Lib.hid (fun W => impl_codeMany n W)
    rw [← hM] at HIM q3 hmb
    have HN := Lib.hid (fun W => implNth n r W)
    rw [q1, q2] at HN
    have HIR := Lib.hid hir
    have HR := Lib.hid hr
    have HBE := Lib.hid hbe
    have hq4 : decide (r < 0) = false := by simp; omega
    clear hir hr hv hbe q1 q2 hn hM
    go_wp2_with (go_at_call 18; refine HIR.out.mono ?_)
    rintro e w2 ⟨rfl, b2⟩
    have hs := specRank (hi.below b2)
    rw [← HR.out] at hs
    have HS := Lib.hid hs
    have hib := implBeats (hi.below b2)
    rw [HBE.out] at hib
    have HIB := Lib.hid hib
    clear hs hib
    go_wp2_with (first | (go_at_call 20; refine HS.out.mono ?_; rintro e w' ⟨rfl, rfl⟩) | (go_at_call 21; refine HIB.out.mono ?_))
    rintro e w3 ⟨rfl, b3⟩
    have c2 := b1.trans (b2.mono b1.size)
    have c3 := c2.trans (b3.mono c2.size)
    go_wp2_with (go_at_call 17; refine (HN.out _).mono ?_)
    rintro e w4 ⟨vn, rfl, on, b4⟩
    have c4 := c3.trans (b4.mono c3.size)
    have hsame := sameInts (on.ints (by omega)) (((hi.below b2).below b3).below b4)
    rw [show decide (xs = xs) = true by simp] at hsame
    have HSA := Lib.hid hsame
    clear hsame hi on b2 b3 c2 c3
    go_wp2_with (go_at_call 22; refine HSA.out.mono ?_)
    rintro e w5 ⟨rfl, b5⟩
    go_wp2_with (go_at_call 15; refine (HIM.out _).mono ?_; rintro e w' ⟨rfl, rfl⟩)
    go_ret
    exact ⟨rfl, c4.trans (b5.mono c4.size)⟩

end Go.Proofs.Ytmpelpmlmmfalaa

namespace Go.Proofs.Ytmpelpmlmmfalaa.fnCodeRank
open Go.ChangeShapes Go.WideShapes Go.ChangeAt Go.RowKit
open Go.ChangeMaps (open_string shut_string)
set_option linter.unusedVariables false

theorem own : ownKnob Try.prog.godebug = none := by kernel_rfl
theorem laidOut : laidOutB Try.prog = true := by kernel_rfl

set_option maxRecDepth 100000 in
theorem lifted (os : Os) (started : os.Started) (H : Type) (enc : TypeId × Value → H) :
    ReturnsInHanded {} Try.checked os 4 .any (Rows.fnCodeRankSpec.pre6 enc Try.prog Try.f4 Rows.fnCodeRankRow.domain false) (Rows.fnCodeRankSpec.post enc Try.prog Try.f4 false true false false) := by
  refine returnsInHanded_of_change (C := Try.checked) own started (by kernel_rfl) Try.func4
    (ChangeSpec.witness6 (enc := enc) (C := Try.checked) false ⟨#[], #[.slice none 0 0], []⟩ 8 (by kernel_rfl) (by kernel_rfl) (by kernel_rfl) (by kernel_rfl)) ?_
  intro W base args ds gs before hval0 hW hcnd _
  have hval : ∀ (j : Nat) t v, Try.f4.params[j]? = some t → args[j]? = some v → Value.okWide Try.prog W .any base t v := hval0
  have hW' := hW
  obtain ⟨p, q, hA0, hV, rfl, hfz, hnd⟩ := hW
  have hA : DataW.TrodAll enc Try.prog W 0 (fun _ => true) true Try.f4.params.toList args.toList ds p := hA0
  rw [Try.params4] at hA hval
  obtain ⟨v0, vs0, d0, ds0, p0, q0, hargs, rfl, rfl, h0, r0⟩ := trodAll_cons hA
  obtain ⟨rfl, rfl, rfl⟩ := trodAll_nil r0
  obtain rfl : args = #[v0] := by cases args; simp_all
  obtain ⟨rfl, rfl⟩ := trodVars_none hV
  obtain ⟨a0, len0, cap0, rfl⟩ := okWide_slice Try.underlying22 (hval 0 22 v0 rfl rfl)
  have k0 := h0
  have lt0 : ∀ x ∈ p0, x.block < W.heap.size := by obtain ⟨m, hm⟩ := k0; exact DataW.trod_lt m _ _ _ hm
  obtain ⟨z0, w0⟩ : ∃ zs, IsRowK .u8 W a0 len0 cap0 zs := by
    obtain ⟨fuel, hf⟩ := h0
    rcases open_ints Try.underlying22 Try.underlying5 (by kernel_rfl) hf with ⟨hcs, _⟩ | ⟨x, l, c, zs, hcs, _, hl, hm, hz, _, hcell, hwz⟩
    · simp [Value.cells] at hcs
      obtain ⟨rfl, rfl, rfl⟩ := hcs
      exact ⟨[], .inl ⟨rfl, rfl, rfl, rfl⟩⟩
    · simp [Value.cells] at hcs
      obtain ⟨rfl, rfl, rfl⟩ := hcs
      exact ⟨zs, .inr ⟨_, rfl, hl, hm, by simpa using hz, hcell, hwz⟩⟩
  clear hA0 hval0
  refine (walk_FnCodeRank a0 len0 cap0 z0 W w0).mono fun e W' ⟨he, bel⟩ => ?_
  subst he
  exact ⟨_, rfl, _, _, _, [], _, [], hW', trodAll_mk1 (shut_bool Try.underlying4 _), (trodAll_cons_mk (Below.trod laidOut (by kernel_rfl) (of_decide_eq_true (by kernel_rfl)) k0 bel lt0) trodAll_mk0), rfl, bel.frame _, fun h => by cases h⟩

theorem over : Rows.fnCodeRankRow.holds Try.pinned (OpenSpec.ofChange Rows.fnCodeRankSpec) :=
  OpenClaim.holds_of_wide 4 Try.f4 rfl rfl rfl rfl rfl rfl rfl ⟨rfl, rfl, rfl, rfl, rfl⟩ rfl rfl rfl rfl rfl (by kernel_rfl) Try.func4 (by kernel_rfl)
    (of_decide_eq_true (by kernel_rfl)) (by unfold Func.isWrapper; first | (rw [if_pos (by decide +kernel)]; kernel_rfl) | (rw [if_neg (by decide +kernel)]; exact ⟨rfl, rfl⟩))
    (fun os started H enc _ => lifted os started H enc)

theorem proved : Rows.FnCodeRankSaid := over
#print axioms proved
end Go.Proofs.Ytmpelpmlmmfalaa.fnCodeRank
