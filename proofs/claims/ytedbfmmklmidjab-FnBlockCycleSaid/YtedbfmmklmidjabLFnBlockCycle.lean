/-
  For every input the law 'FnBlockCycle' returns true, and each of its arguments reads behind the call as it read before. Conditions: none beyond those of the row.
-/
import Derived.Test.YtedbfmmklmidjabRows
import Derived.WalkKit
import Derived.ProofKit
import Derived.OpenShut
import Derived.ShutString
import Derived.ChangeOld
import Derived.Below
import Derived.Deep.Matrix
import Derived.Test.YtedbfmmklmidjabIo
import Derived.Test.YtedbfmmklmidjabDrawK
import Derived.Test.YtedbfmmklmidjabCycle
import Derived.Test.YtedbfmmklmidjabBlockT
namespace Go.Proofs.Ytedbfmmklmidjab
open Go.RowKit

set_option maxRecDepth 100000 in
theorem cycle_facts : ∀ m : Fin 7, bkNormal (cyc m.val) = true ∧ trainsOf (cyc m.val) = m.val ∧ (cyc m.val).size = 5 * m.val ∧ bkLegal (cyc m.val) = true := by decide +kernel

set_option maxHeartbeats 1000000 in
theorem walk_FnBlockCycle (a0 : Option Addr) (len0 cap0 : Nat) (z0 : List Int) (w : World) (w0 : IsRowK .u8 w a0 len0 cap0 z0) :
    Calls Try.prog 12 #[.slice a0 len0 cap0] w fun e w' => e = .returned (.bool true) ∧ Below w.heap.size w w' := by
  rcases Nat.lt_or_ge 1048576 len0 with hbig | hsm
  · have hb : (1048576 : Int) < (len0 : Int) := by omega
    go_enter Try.func12, Try.ntmps12
    go_wp2_with fail
    go_ret
    exact ⟨rfl, Below.refl _ _⟩
  have hb : (len0 : Int) ≤ 1048576 := by omega
  go_enter Try.func12, Try.ntmps12
  go_wp2_with (go_at_call 39; refine (drawCycle w0 hsm).mono ?_)
  rintro e w1 ⟨n, rfl, hn0, hn1, b1⟩
  clear w0 hb
  go_wp2_with (go_at_call 34; refine (implCycle n w1).mono ?_)
  rintro e w2 ⟨rfl, b2⟩
  go_wp2_with (go_at_call 40; refine (specCycle n w2).mono ?_)
  rintro e w3 ⟨rfl, rfl⟩
  have B3 := Lib.hid (chain b1 b2)
  clear b1 b2
  by_cases hc : 0 ≤ n ∧ n ≤ 6
  · obtain ⟨m, rfl⟩ : ∃ m : Nat, n = m := ⟨n.toNat, by omega⟩
    have D : cycB (m : Int) = true := decide_eq_true hc
    have E : cycS (m : Int) = cyc m := by unfold cycS; rw [if_pos hc]; rfl
    obtain ⟨f1, f2, f3, f4⟩ := cycle_facts ⟨m, by omega⟩
    simp only at f1 f2 f3 f4
    rw [D, E]
    obtain ⟨S, hS⟩ : ∃ S, S = cyc m := ⟨_, rfl⟩
    rw [← hS] at f1 f2 f3 f4 ⊢
    have IN := Lib.hid (implNormal S (by omega))
    have IT := Lib.hid (implTrains S (by omega))
    have IL := Lib.hid (implLegal S (by omega))
    rw [f1, f4] at IN
    rw [f2] at IT
    rw [f4] at IL
    have hsz : (S.size : Int) = 5 * (m : Int) := by omega
    have hm6 : (m : Int) ≤ 6 := by omega
    have hw : IntKind.i64.wrap (5 * (m : Int)) = 5 * (m : Int) := IntWalk.i64_in _ (by omega)
    have he : ((S.size : Int) == 5 * (m : Int)) = true := by rw [hsz]; simp
    clear f1 f2 f3 f4 D E hS
    go_wp2_with (go_at_call 36; refine (IN.out _).mono ?_)
    rintro e w4 ⟨rfl, b4⟩
    go_wp2_with (go_at_call 32; refine (IT.out _).mono ?_)
    rintro e w5 ⟨rfl, b5⟩
    go_wp2_with (go_at_call 41; refine (IL.out _).mono ?_)
    rintro e w6 ⟨rfl, b6⟩
    go_wp2_with fail
    go_ret
    exact ⟨rfl, chain B3.out (chain b4 (chain b5 b6))⟩
  · have D : cycB n = false := decide_eq_false hc
    rw [D]
    go_wp2_with fail
    go_ret
    exact ⟨rfl, B3.out⟩

end Go.Proofs.Ytedbfmmklmidjab

namespace Go.Proofs.Ytedbfmmklmidjab.fnBlockCycle
open Go.ChangeShapes Go.WideShapes Go.ChangeAt Go.RowKit
open Go.ChangeMaps (open_string shut_string)
set_option linter.unusedVariables false

theorem own : ownKnob Try.prog.godebug = none := by kernel_rfl
theorem laidOut : laidOutB Try.prog = true := by kernel_rfl

set_option maxRecDepth 100000 in
theorem lifted (os : Os) (started : os.Started) (H : Type) (enc : TypeId × Value → H) :
    ReturnsInHanded {} Try.checked os 12 .any (Rows.fnBlockCycleSpec.pre6 enc Try.prog Try.f12 Rows.fnBlockCycleRow.domain false) (Rows.fnBlockCycleSpec.post enc Try.prog Try.f12 false true false false) := by
  refine returnsInHanded_of_change (C := Try.checked) own started (by kernel_rfl) Try.func12
    (ChangeSpec.witness6 (enc := enc) (C := Try.checked) false ⟨#[], #[.slice none 0 0], []⟩ 8 (by kernel_rfl) (by kernel_rfl) (by kernel_rfl) (by kernel_rfl)) ?_
  intro W base args ds gs before hval0 hW hcnd _
  have hval : ∀ (j : Nat) t v, Try.f12.params[j]? = some t → args[j]? = some v → Value.okWide Try.prog W .any base t v := hval0
  have hW' := hW
  obtain ⟨p, q, hA0, hV, rfl, hfz, hnd⟩ := hW
  have hA : DataW.TrodAll enc Try.prog W 0 (fun _ => true) true Try.f12.params.toList args.toList ds p := hA0
  rw [Try.params12] at hA hval
  obtain ⟨v0, vs0, d0, ds0, p0, q0, hargs, rfl, rfl, h0, r0⟩ := trodAll_cons hA
  obtain ⟨rfl, rfl, rfl⟩ := trodAll_nil r0
  obtain rfl : args = #[v0] := by cases args; simp_all
  obtain ⟨rfl, rfl⟩ := trodVars_none hV
  obtain ⟨a0, len0, cap0, rfl⟩ := okWide_slice Try.underlying31 (hval 0 31 v0 rfl rfl)
  have k0 := h0
  have lt0 : ∀ x ∈ p0, x.block < W.heap.size := by obtain ⟨m, hm⟩ := k0; exact DataW.trod_lt m _ _ _ hm
  obtain ⟨z0, w0⟩ : ∃ zs, IsRowK .u8 W a0 len0 cap0 zs := by
    obtain ⟨fuel, hf⟩ := h0
    rcases open_ints Try.underlying31 Try.underlying5 (by kernel_rfl) hf with ⟨hcs, _⟩ | ⟨x, l, c, zs, hcs, _, hl, hm, hz, _, hcell, hwz⟩
    · simp [Value.cells] at hcs
      obtain ⟨rfl, rfl, rfl⟩ := hcs
      exact ⟨[], .inl ⟨rfl, rfl, rfl, rfl⟩⟩
    · simp [Value.cells] at hcs
      obtain ⟨rfl, rfl, rfl⟩ := hcs
      exact ⟨zs, .inr ⟨_, rfl, hl, hm, by simpa using hz, hcell, hwz⟩⟩
  clear hA0 hval0
  refine (walk_FnBlockCycle a0 len0 cap0 z0 W w0).mono fun e W' ⟨he, bel⟩ => ?_
  subst he
  exact ⟨_, rfl, _, _, _, [], _, [], hW', trodAll_mk1 (shut_bool Try.underlying4 _), (trodAll_cons_mk (Below.trod laidOut (by kernel_rfl) (of_decide_eq_true (by kernel_rfl)) k0 bel lt0) trodAll_mk0), rfl, bel.frame _, fun h => by cases h⟩

theorem closed : joinedFacts Try.checked.prog 12 Try.f12 Rows.fnBlockCycleSpec Rows.fnBlockCycleRow = true := by
  unfold joinedFacts
  simp only [Bool.and_eq_true]
  repeat' (refine And.intro ?_ ?_)
  all_goals first
    | with_reducible exact may_enter
    | (rw [lifts_final]; kernel_rfl)
    | (rw [make_is]; kernel_rfl)
    | kernel_rfl

theorem over : Rows.fnBlockCycleRow.holds Try.pinned (OpenSpec.ofChange Rows.fnBlockCycleSpec) :=
  OpenClaim.holds_of_wide 12 Try.f12 rfl rfl rfl rfl rfl rfl rfl ⟨rfl, rfl, rfl, rfl, rfl⟩ rfl rfl rfl rfl rfl (by kernel_rfl) Try.func12 closed
    (of_decide_eq_true (by kernel_rfl)) (by unfold Func.isWrapper; first | (rw [if_pos (by decide +kernel)]; kernel_rfl) | (rw [if_neg (by decide +kernel)]; exact ⟨rfl, rfl⟩))
    (fun os started H enc _ => lifted os started H enc)

theorem proved : Rows.FnBlockCycleSaid := over
#print axioms proved
end Go.Proofs.Ytedbfmmklmidjab.fnBlockCycle
