/-
  For every input the law 'FnBlockTrains' returns true, and each of its arguments reads behind the call as it read before. Conditions: none beyond those of the row.
-/
import Derived.Test.YtedbfmmklmidjabRows
import Derived.WalkKit
import Derived.ProofKit
import Derived.OpenShut
import Derived.ShutString
import Derived.ChangeOld
import Derived.Below
import Derived.Deep.Matrix
import Derived.Test.YtedbfmmklmidjabIo
import Derived.Test.YtedbfmmklmidjabDrawM
import Derived.Test.YtedbfmmklmidjabCycle
import Derived.Test.YtedbfmmklmidjabLegalP
namespace Go.Proofs.Ytedbfmmklmidjab
open Go.RowKit

theorem cyc_facts : (cyc 1).size = 5 ∧ bkRun nb (cyc 1) = some nb ∧ cntTo (cyc 1) 108 5 = 1 := by decide +kernel

set_option maxRecDepth 100000 in
set_option maxHeartbeats 2000000 in
theorem walk_FnBlockTrains (a0 : Option Addr) (len0 cap0 : Nat) (z0 : List Int) (w : World) (w0 : IsRowK .u8 w a0 len0 cap0 z0) :
    Calls Try.prog 10 #[.slice a0 len0 cap0] w fun e w' => e = .returned (.bool true) ∧ Below w.heap.size w w' := by
  rcases Nat.lt_or_ge 1048576 len0 with hbig | hsm
  · have hb : (1048576 : Int) < (len0 : Int) := by omega
    go_enter Try.func10, Try.ntmps10
    go_wp2_with fail
    go_ret
    exact ⟨rfl, Below.refl _ _⟩
  have hb : (len0 : Int) ≤ 1048576 := by omega
  go_enter Try.func10, Try.ntmps10
  go_wp2_with (go_at_call 31; refine (drawTrains w0 hsm).mono ?_)
  rintro e w1 ⟨S, rfl, hS, b1⟩
  clear w0 hb
  obtain ⟨V, hV⟩ : ∃ V, V = trainsOf S := ⟨_, rfl⟩
  have IM := Lib.hid (implTrains S (by omega))
  have SP := Lib.hid (specTrains S (by omega))
  rw [← hV] at IM SP
  have HV := Lib.hid hV
  clear hV
  go_wp2_with (go_at_call 32; refine (IM.out _).mono ?_)
  rintro e w2 ⟨rfl, b2⟩
  go_wp2_with (go_at_call 33; refine (SP.out _).mono ?_)
  rintro e w3 ⟨rfl, b3⟩
  have B3 := Lib.hid (chain b1 (chain b2 b3))
  clear b1 b2 b3
  by_cases hneg : V < 0
  · have hd : decide (V < 0) = true := decide_eq_true hneg
    go_wp2_with fail
    go_ret
    exact ⟨rfl, B3.out⟩
  have hd : decide (V < 0) = false := decide_eq_false hneg
  have hleg : bkLegal S = true := by
    cases e : bkLegal S
    · have := HV.out; unfold trainsOf at this; rw [e] at this; simp at this; omega
    · rfl
  have hV2 : V = cntTo S 108 S.size := by rw [HV.out]; unfold trainsOf; rw [hleg]; rfl
  have h4 := trains_four hleg
  rw [← hV2] at h4
  have hr := cntTo_range S 108 S.size
  rw [← hV2] at hr
  obtain ⟨c1, c2, c3⟩ := cyc_facts
  have D : cycB 1 = true := rfl
  have E : cycS 1 = cyc 1 := rfl
  have IC := implCycle 1
  rw [D, E] at IC
  obtain ⟨C, hC⟩ : ∃ C, C = cyc 1 := ⟨_, rfl⟩
  rw [← hC] at c1 c2 c3 IC
  have hsz : (C ++ S).size = 5 + S.size := by rw [ByteArray.size_append, c1]
  have hX : (C ++ S).size ≤ 30 → trainsOf (C ++ S) = V + 1 := fun h => by
    have e := bkRun_append h c2
    have q : bkLegal (C ++ S) = true := by unfold bkLegal; rw [e]; exact hleg
    unfold trainsOf
    rw [q, hsz, ← c1, if_pos rfl, cntTo_right, c1, c3, hV2]
    omega
  obtain ⟨L, hL⟩ : ∃ L, L = C ++ S := ⟨_, rfl⟩
  rw [← hL] at hX hsz
  have IT := Lib.hid (implTrains L (by omega))
  obtain ⟨X, hXe⟩ : ∃ X, X = trainsOf L := ⟨_, rfl⟩
  rw [← hXe] at IT hX
  have IC := Lib.hid IC
  have hw1 : IntKind.i64.wrap (4 * V) = 4 * V := IntWalk.i64_in _ (by omega)
  have hw2 : IntKind.i64.wrap (V + 1) = V + 1 := IntWalk.i64_in _ (by omega)
  have hadd : C.size + S.size ≤ 9223372036854775807 := by omega
  have hd4 : decide (4 * V ≤ (S.size : Int)) = true := decide_eq_true h4
  have HX := Lib.hid (And.intro hX hsz)
  have HL := Lib.hid hL
  clear hX hL hC hXe c2 c3 D E hV2 hleg hr
  go_wp2_with (go_at_call 34; refine (IC.out _).mono ?_)
  rintro e w4 ⟨rfl, b4⟩
  go_upto_region 10 with fail
  rw [← HL.out]
  go_wp2_with (go_at_call 32; refine (IT.out _).mono ?_)
  rintro e w5 ⟨rfl, b5⟩
  have B5 := Lib.hid (chain B3.out (chain b4 b5))
  clear b4 b5
  by_cases h30 : L.size ≤ 30
  · have hx := HX.out.1 h30
    have hd5 : decide ((30 : Int) < (L.size : Int)) = false := decide_eq_false (by omega)
    subst hx
    go_wp2_with fail
    go_ret
    exact ⟨rfl, B5.out⟩
  · have hd5 : decide ((30 : Int) < (L.size : Int)) = true := decide_eq_true (by omega)
    go_wp2_with fail
    go_ret
    exact ⟨rfl, B5.out⟩

end Go.Proofs.Ytedbfmmklmidjab

namespace Go.Proofs.Ytedbfmmklmidjab.fnBlockTrains
open Go.ChangeShapes Go.WideShapes Go.ChangeAt Go.RowKit
open Go.ChangeMaps (open_string shut_string)
set_option linter.unusedVariables false

theorem own : ownKnob Try.prog.godebug = none := by kernel_rfl
theorem laidOut : laidOutB Try.prog = true := by kernel_rfl

set_option maxRecDepth 100000 in
theorem lifted (os : Os) (started : os.Started) (H : Type) (enc : TypeId × Value → H) :
    ReturnsInHanded {} Try.checked os 10 .any (Rows.fnBlockTrainsSpec.pre6 enc Try.prog Try.f10 Rows.fnBlockTrainsRow.domain false) (Rows.fnBlockTrainsSpec.post enc Try.prog Try.f10 false true false false) := by
  refine returnsInHanded_of_change (C := Try.checked) own started (by kernel_rfl) Try.func10
    (ChangeSpec.witness6 (enc := enc) (C := Try.checked) false ⟨#[], #[.slice none 0 0], []⟩ 8 (by kernel_rfl) (by kernel_rfl) (by kernel_rfl) (by kernel_rfl)) ?_
  intro W base args ds gs before hval0 hW hcnd _
  have hval : ∀ (j : Nat) t v, Try.f10.params[j]? = some t → args[j]? = some v → Value.okWide Try.prog W .any base t v := hval0
  have hW' := hW
  obtain ⟨p, q, hA0, hV, rfl, hfz, hnd⟩ := hW
  have hA : DataW.TrodAll enc Try.prog W 0 (fun _ => true) true Try.f10.params.toList args.toList ds p := hA0
  rw [Try.params10] at hA hval
  obtain ⟨v0, vs0, d0, ds0, p0, q0, hargs, rfl, rfl, h0, r0⟩ := trodAll_cons hA
  obtain ⟨rfl, rfl, rfl⟩ := trodAll_nil r0
  obtain rfl : args = #[v0] := by cases args; simp_all
  obtain ⟨rfl, rfl⟩ := trodVars_none hV
  obtain ⟨a0, len0, cap0, rfl⟩ := okWide_slice Try.underlying31 (hval 0 31 v0 rfl rfl)
  have k0 := h0
  have lt0 : ∀ x ∈ p0, x.block < W.heap.size := by obtain ⟨m, hm⟩ := k0; exact DataW.trod_lt m _ _ _ hm
  obtain ⟨z0, w0⟩ : ∃ zs, IsRowK .u8 W a0 len0 cap0 zs := by
    obtain ⟨fuel, hf⟩ := h0
    rcases open_ints Try.underlying31 Try.underlying5 (by kernel_rfl) hf with ⟨hcs, _⟩ | ⟨x, l, c, zs, hcs, _, hl, hm, hz, _, hcell, hwz⟩
    · simp [Value.cells] at hcs
      obtain ⟨rfl, rfl, rfl⟩ := hcs
      exact ⟨[], .inl ⟨rfl, rfl, rfl, rfl⟩⟩
    · simp [Value.cells] at hcs
      obtain ⟨rfl, rfl, rfl⟩ := hcs
      exact ⟨zs, .inr ⟨_, rfl, hl, hm, by simpa using hz, hcell, hwz⟩⟩
  clear hA0 hval0
  refine (walk_FnBlockTrains a0 len0 cap0 z0 W w0).mono fun e W' ⟨he, bel⟩ => ?_
  subst he
  exact ⟨_, rfl, _, _, _, [], _, [], hW', trodAll_mk1 (shut_bool Try.underlying4 _), (trodAll_cons_mk (Below.trod laidOut (by kernel_rfl) (of_decide_eq_true (by kernel_rfl)) k0 bel lt0) trodAll_mk0), rfl, bel.frame _, fun h => by cases h⟩

theorem closed : joinedFacts Try.checked.prog 10 Try.f10 Rows.fnBlockTrainsSpec Rows.fnBlockTrainsRow = true := by
  unfold joinedFacts
  simp only [Bool.and_eq_true]
  repeat' (refine And.intro ?_ ?_)
  all_goals first
    | with_reducible exact may_enter
    | (rw [lifts_final]; kernel_rfl)
    | (rw [make_is]; kernel_rfl)
    | kernel_rfl

theorem over : Rows.fnBlockTrainsRow.holds Try.pinned (OpenSpec.ofChange Rows.fnBlockTrainsSpec) :=
  OpenClaim.holds_of_wide 10 Try.f10 rfl rfl rfl rfl rfl rfl rfl ⟨rfl, rfl, rfl, rfl, rfl⟩ rfl rfl rfl rfl rfl (by kernel_rfl) Try.func10 closed
    (of_decide_eq_true (by kernel_rfl)) (by unfold Func.isWrapper; first | (rw [if_pos (by decide +kernel)]; kernel_rfl) | (rw [if_neg (by decide +kernel)]; exact ⟨rfl, rfl⟩))
    (fun os started H enc _ => lifted os started H enc)

theorem proved : Rows.FnBlockTrainsSaid := over
#print axioms proved
end Go.Proofs.Ytedbfmmklmidjab.fnBlockTrains
