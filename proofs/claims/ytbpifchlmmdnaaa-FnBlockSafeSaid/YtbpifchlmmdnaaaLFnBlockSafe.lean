/-
  For every input the law 'FnBlockSafe' returns true, and each of its arguments reads behind the call as it read before. Conditions: none beyond those of the row.
-/
import Derived.Test.YtbpifchlmmdnaaaRows
import Derived.WalkKit
import Derived.ProofKit
import Derived.OpenShut
import Derived.ShutString
import Derived.ChangeOld
import Derived.Below
import Derived.Deep.Matrix
import Derived.Test.YtbpifchlmmdnaaaIo
import Derived.Test.YtbpifchlmmdnaaaDrawE
import Derived.Test.YtbpifchlmmdnaaaSafeP
import Derived.Test.YtbpifchlmmdnaaaLawC
import Derived.Deep.DeepCutAuto
import Derived.Deep.RegionWith
namespace Go.Proofs.Ytbpifchlmmdnaaa
open Go.RowKit

open Go.Sort

theorem waits_at {x : Blk} {V : ByteArray} (h : Waits x V) :
    (x = (0, false, false) → V = ⟨#[]⟩ ∨ V = ⟨#[108, 102]⟩ ∨ V = ⟨#[108, 102, 97]⟩) ∧ (x = (0, false, true) → V = ⟨#[]⟩ ∨ V = ⟨#[108, 102]⟩ ∨ V = ⟨#[108, 102, 97]⟩) ∧
    (x = (1, false, false) → V = ⟨#[]⟩ ∨ V = ⟨#[108, 102, 97]⟩) ∧ (x = (2, true, false) → V = ⟨#[101]⟩) ∧ (x = (2, false, false) → V = ⟨#[108]⟩) := by
  rcases h with ⟨rfl, h⟩ | ⟨rfl, h⟩ | ⟨rfl, h⟩ | ⟨rfl, h⟩ | ⟨rfl, h⟩ <;> refine ⟨?_, ?_, ?_, ?_, ?_⟩ <;> intro e <;> first | exact h | exact absurd e (by decide)

set_option maxHeartbeats 8000000 in
theorem walk_FnBlockSafe (a0 : Option Addr) (len0 cap0 : Nat) (z0 : List Int) (w : World) (w0 : IsRowK .u8 w a0 len0 cap0 z0) :
    Calls Try.prog 13 #[.slice a0 len0 cap0] w fun e w' => e = .returned (.bool true) ∧ Below w.heap.size w w' := by
  rcases Nat.lt_or_ge 1048576 len0 with hbig | hsm
  · have hb : (1048576 : Int) < (len0 : Int) := by omega
    go_enter Try.func13, Try.ntmps13
    go_wp2_with fail
    go_ret
    exact ⟨rfl, Below.refl _ _⟩
  have hb : (len0 : Int) ≤ 1048576 := by omega
  go_enter Try.func13, Try.ntmps13
  go_wp2_with (go_at_call 46; refine (drawLegal w0 hsm).mono ?_)
  rintro e w1 ⟨S, rfl, hS, b1⟩
  clear w0 hb
  obtain ⟨t, ht⟩ : ∃ t, t = bkLegal S := ⟨_, rfl⟩
  have IM := Lib.hid (implLegal S (by omega))
  have SP := Lib.hid (specLegal S (by omega))
  rw [← ht] at IM SP
  have HT := Lib.hid ht
  clear ht
  go_wp2_with (go_at_call 29; refine (IM.out _).mono ?_)
  rintro e w2 ⟨rfl, b2⟩
  go_wp2_with (go_at_call 28; refine (SP.out _).mono ?_)
  rintro e w3 ⟨rfl, b3⟩
  have B3 := Lib.hid (chain b1 (chain b2 b3))
  clear b1 b2 b3
  cases t
  · go_wp2_with fail
    go_ret
    exact ⟨rfl, B3.out⟩
  have hleg : ∀ k, k ≤ S.size → ∃ x, bkTo nb S k = some x := by
    intro k hk
    cases e : bkTo nb S k with
    | none =>
      have q : bkLegal S = true := HT.out.symm
      unfold bkLegal at q
      rw [bkRun_none hk e] at q
      cases q
    | some x => exact ⟨x, rfl⟩
  have LG := Lib.hid hleg
  clear hleg
  have CO := Lib.hid (countOf S (by omega))
  go_wp2_with fail
  go_loop [6, 7] (fun v i => ∃ (k : Nat) (x : Blk) (V : ByteArray), k ≤ S.size ∧ i = .int .i64 k ∧ v = .string V ∧ bkTo nb S k = some x ∧ Waits x V) (fun _ i => S.size - (intOf i).toNat)
  case atStart => exact ⟨0, nb, ⟨#[]⟩, by omega, rfl, rfl, rfl, .inl ⟨rfl, .inl rfl⟩⟩
  case round =>
    obtain ⟨k, x, V, hk, rfl, rfl, hx, hv⟩ := hrel
    have HX := Lib.hid hx
    have HV := Lib.hid (waits_at hv)
    clear hx hv
    by_cases hlt : k < S.size
    · have hki : (k : Int) < (S.size : Int) := by omega
      have hix : ∀ (w : World), (Instr.index 9 (.string S) (.int .i64 k)).run Try.prog w = .ok (.int .u8 (bt S k)) w := by
        intro w
        rw [run_index_string _ _ _ _ _ Try.underlying9, dif_pos ⟨by omega, hki⟩, ← bt_get hlt]
        rfl
      obtain ⟨y, hy⟩ := LG.out (k + 1) hlt
      have HY := Lib.hid hy
      have hst : bkStep x (bt S k) = some y := by rw [← bkTo_succ HX.out]; exact hy
      obtain ⟨c, hc⟩ : ∃ c, c = bt S k := ⟨_, rfl⟩
      rw [← hc] at hst hix
      clear hy hc HX
      rcases bkStep_cases hst with ⟨rfl, rfl, rfl⟩ | ⟨rfl, rfl, rfl⟩ | ⟨rfl, rfl, rfl⟩ | ⟨rfl, rfl, rfl⟩ | ⟨rfl, rfl, rfl⟩ | ⟨rfl, rfl, rfl⟩ | ⟨rfl, rfl, rfl⟩
      · rcases HV.out.1 rfl with rfl | rfl | rfl
        · clear hst HV
          go_wp2_with fail
          go_round
          case rel => exact ⟨k + 1, (0, false, true), ⟨#[]⟩, by omega, by go_num, rfl, HY.out, .inr (.inl ⟨rfl, .inl rfl⟩)⟩
          case measure => simp [intOf]; omega
        · clear hst HV
          go_wp2_with fail
          go_round
          case rel => exact ⟨k + 1, (0, false, true), ⟨#[108, 102]⟩, by omega, by go_num, rfl, HY.out, .inr (.inl ⟨rfl, .inr (.inl rfl)⟩)⟩
          case measure => simp [intOf]; omega
        · clear hst HV
          go_wp2_with fail
          go_round
          case rel => exact ⟨k + 1, (0, false, true), ⟨#[108, 102, 97]⟩, by omega, by go_num, rfl, HY.out, .inr (.inl ⟨rfl, .inr (.inr rfl)⟩)⟩
          case measure => simp [intOf]; omega
      · rcases HV.out.2.1 rfl with rfl | rfl | rfl
        · clear hst HV
          go_wp2_with fail
          go_round
          case rel => exact ⟨k + 1, (0, false, false), ⟨#[]⟩, by omega, by go_num, rfl, HY.out, .inl ⟨rfl, .inl rfl⟩⟩
          case measure => simp [intOf]; omega
        · clear hst HV
          go_wp2_with fail
          go_round
          case rel => exact ⟨k + 1, (0, false, false), ⟨#[108, 102]⟩, by omega, by go_num, rfl, HY.out, .inl ⟨rfl, .inr (.inl rfl)⟩⟩
          case measure => simp [intOf]; omega
        · clear hst HV
          go_wp2_with fail
          go_round
          case rel => exact ⟨k + 1, (0, false, false), ⟨#[108, 102, 97]⟩, by omega, by go_num, rfl, HY.out, .inl ⟨rfl, .inr (.inr rfl)⟩⟩
          case measure => simp [intOf]; omega
      · rcases HV.out.2.1 rfl with rfl | rfl | rfl
        · clear hst HV
          go_wp2_with fail
          go_round
          case rel => exact ⟨k + 1, (1, false, false), ⟨#[]⟩, by omega, by go_num, rfl, HY.out, .inr (.inr (.inl ⟨rfl, .inl rfl⟩))⟩
          case measure => simp [intOf]; omega
        · clear hst HV
          go_wp2_with fail
          go_round
          case rel => exact ⟨k + 1, (1, false, false), ⟨#[108, 102, 97]⟩, by omega, by go_num, rfl, HY.out, .inr (.inr (.inl ⟨rfl, .inr rfl⟩))⟩
          case measure => simp [intOf]; omega
        · clear hst HV
          go_wp2_with fail
          go_round
          case rel => exact ⟨k + 1, (1, false, false), ⟨#[108, 102, 97]⟩, by omega, by go_num, rfl, HY.out, .inr (.inr (.inl ⟨rfl, .inr rfl⟩))⟩
          case measure => simp [intOf]; omega
      · rcases HV.out.2.2.1 rfl with rfl | rfl
        · clear hst HV
          go_wp2_with fail
          go_round
          case rel => exact ⟨k + 1, (0, false, false), ⟨#[]⟩, by omega, by go_num, rfl, HY.out, .inl ⟨rfl, .inl rfl⟩⟩
          case measure => simp [intOf]; omega
        · clear hst HV
          go_wp2_with fail
          go_round
          case rel => exact ⟨k + 1, (0, false, false), ⟨#[108, 102, 97]⟩, by omega, by go_num, rfl, HY.out, .inl ⟨rfl, .inr (.inr rfl)⟩⟩
          case measure => simp [intOf]; omega
      · rcases HV.out.2.2.1 rfl with rfl | rfl
        · clear hst HV
          go_wp2_with fail
          go_round
          case rel => exact ⟨k + 1, (2, true, false), ⟨#[101]⟩, by omega, by go_num, rfl, HY.out, .inr (.inr (.inr (.inl ⟨rfl, rfl⟩)))⟩
          case measure => simp [intOf]; omega
        · clear hst HV
          go_wp2_with fail
          go_round
          case rel => exact ⟨k + 1, (2, true, false), ⟨#[101]⟩, by omega, by go_num, rfl, HY.out, .inr (.inr (.inr (.inl ⟨rfl, rfl⟩)))⟩
          case measure => simp [intOf]; omega
      · rcases HV.out.2.2.2.1 rfl with rfl
        · clear hst HV
          go_wp2_with fail
          go_round
          case rel => exact ⟨k + 1, (2, false, false), ⟨#[108]⟩, by omega, by go_num, rfl, HY.out, .inr (.inr (.inr (.inr (⟨rfl, rfl⟩))))⟩
          case measure => simp [intOf]; omega
      · rcases HV.out.2.2.2.2 rfl with rfl
        · clear hst HV
          go_wp2_with fail
          go_round
          case rel => exact ⟨k + 1, (0, false, false), ⟨#[108, 102]⟩, by omega, by go_num, rfl, HY.out, .inl ⟨rfl, .inr (.inl rfl)⟩⟩
          case measure => simp [intOf]; omega
    · obtain rfl : k = S.size := by omega
      have CT := Counted.of _ _ HX.out
      obtain ⟨e1, he⟩ : ∃ e, e = cntTo S 101 S.size := ⟨_, rfl⟩
      obtain ⟨l1, hl⟩ : ∃ e, e = cntTo S 108 S.size := ⟨_, rfl⟩
      obtain ⟨a1, ha⟩ : ∃ e, e = cntTo S 97 S.size := ⟨_, rfl⟩
      obtain ⟨o1, ho⟩ : ∃ e, e = cntTo S 111 S.size := ⟨_, rfl⟩
      have CE := Lib.hid (CO.out 101)
      have CL := Lib.hid (CO.out 108)
      have CA := Lib.hid (CO.out 97)
      have CC := Lib.hid (CO.out 111)
      have re := cntTo_range S 101 S.size
      have rl := cntTo_range S 108 S.size
      have hin := CT.inside
      have hof := CT.offered
      rw [← he] at CE re hin
      rw [← hl] at CL rl hin
      rw [← ha] at CA hof
      rw [← ho] at CC hof
      have hle : a1 ≤ o1 := by
        have : (0 : Int) ≤ if x = (0, false, true) then 1 else 0 := by split <;> decide
        omega
      have hd : e1 - l1 = 0 ∨ e1 - l1 = 1 := by
        rw [hin]
        split
        · exact .inr rfl
        · exact .inl rfl
      have HW := Lib.hid (show wrap64 (e1 - l1) = 0 ∨ wrap64 (e1 - l1) = 1 by rw [show wrap64 (e1 - l1) = e1 - l1 from (IntWalk.i64_left _).symm.trans (IntWalk.i64_in _ (by omega))]; exact hd)
      clear he hl ha ho hin hof CT HV HX re rl hd
      go_wp2_with (first
        | (go_at_call_of 47 (Value.int IntKind.u8 101); refine (CE.out _).mono ?_; rintro e w' ⟨rfl, rfl⟩)
        | (go_at_call_of 47 (Value.int IntKind.u8 108); refine (CL.out _).mono ?_; rintro e w' ⟨rfl, rfl⟩)
        | (go_at_call_of 47 (Value.int IntKind.u8 97); refine (CA.out _).mono ?_; rintro e w' ⟨rfl, rfl⟩)
        | (go_at_call_of 47 (Value.int IntKind.u8 111); refine (CC.out _).mono ?_; rintro e w' ⟨rfl, rfl⟩))
      all_goals first
        | (go_ret; exact ⟨rfl, B3.out⟩)
        | (exfalso; exact HW.out.elim (by assumption) (by assumption))

end Go.Proofs.Ytbpifchlmmdnaaa

namespace Go.Proofs.Ytbpifchlmmdnaaa.fnBlockSafe
open Go.ChangeShapes Go.WideShapes Go.ChangeAt Go.RowKit
open Go.ChangeMaps (open_string shut_string)
set_option linter.unusedVariables false

theorem own : ownKnob Try.prog.godebug = none := by kernel_rfl
theorem laidOut : laidOutB Try.prog = true := by kernel_rfl

set_option maxRecDepth 100000 in
theorem lifted (os : Os) (started : os.Started) (H : Type) (enc : TypeId × Value → H) :
    ReturnsInHanded {} Try.checked os 13 .any (Rows.fnBlockSafeSpec.pre6 enc Try.prog Try.f13 Rows.fnBlockSafeRow.domain false) (Rows.fnBlockSafeSpec.post enc Try.prog Try.f13 false true false false) := by
  refine returnsInHanded_of_change (C := Try.checked) own started (by kernel_rfl) Try.func13
    (ChangeSpec.witness6 (enc := enc) (C := Try.checked) false ⟨#[], #[.slice none 0 0], []⟩ 8 (by kernel_rfl) (by kernel_rfl) (by kernel_rfl) (by kernel_rfl)) ?_
  intro W base args ds gs before hval0 hW hcnd _
  have hval : ∀ (j : Nat) t v, Try.f13.params[j]? = some t → args[j]? = some v → Value.okWide Try.prog W .any base t v := hval0
  have hW' := hW
  obtain ⟨p, q, hA0, hV, rfl, hfz, hnd⟩ := hW
  have hA : DataW.TrodAll enc Try.prog W 0 (fun _ => true) true Try.f13.params.toList args.toList ds p := hA0
  rw [Try.params13] at hA hval
  obtain ⟨v0, vs0, d0, ds0, p0, q0, hargs, rfl, rfl, h0, r0⟩ := trodAll_cons hA
  obtain ⟨rfl, rfl, rfl⟩ := trodAll_nil r0
  obtain rfl : args = #[v0] := by cases args; simp_all
  obtain ⟨rfl, rfl⟩ := trodVars_none hV
  obtain ⟨a0, len0, cap0, rfl⟩ := okWide_slice Try.underlying48 (hval 0 48 v0 rfl rfl)
  have k0 := h0
  have lt0 : ∀ x ∈ p0, x.block < W.heap.size := by obtain ⟨m, hm⟩ := k0; exact DataW.trod_lt m _ _ _ hm
  obtain ⟨z0, w0⟩ : ∃ zs, IsRowK .u8 W a0 len0 cap0 zs := by
    obtain ⟨fuel, hf⟩ := h0
    rcases open_ints Try.underlying48 Try.underlying5 (by kernel_rfl) hf with ⟨hcs, _⟩ | ⟨x, l, c, zs, hcs, _, hl, hm, hz, _, hcell, hwz⟩
    · simp [Value.cells] at hcs
      obtain ⟨rfl, rfl, rfl⟩ := hcs
      exact ⟨[], .inl ⟨rfl, rfl, rfl, rfl⟩⟩
    · simp [Value.cells] at hcs
      obtain ⟨rfl, rfl, rfl⟩ := hcs
      exact ⟨zs, .inr ⟨_, rfl, hl, hm, by simpa using hz, hcell, hwz⟩⟩
  clear hA0 hval0
  refine (walk_FnBlockSafe a0 len0 cap0 z0 W w0).mono fun e W' ⟨he, bel⟩ => ?_
  subst he
  exact ⟨_, rfl, _, _, _, [], _, [], hW', trodAll_mk1 (shut_bool Try.underlying4 _), (trodAll_cons_mk (Below.trod laidOut (by kernel_rfl) (of_decide_eq_true (by kernel_rfl)) k0 bel lt0) trodAll_mk0), rfl, bel.frame _, fun h => by cases h⟩

theorem closed : joinedFacts Try.checked.prog 13 Try.f13 Rows.fnBlockSafeSpec Rows.fnBlockSafeRow = true := by
  unfold joinedFacts
  simp only [Bool.and_eq_true]
  repeat' (refine And.intro ?_ ?_)
  all_goals first
    | with_reducible exact may_enter
    | (rw [lifts_final]; kernel_rfl)
    | (rw [make_is]; kernel_rfl)
    | kernel_rfl

theorem over : Rows.fnBlockSafeRow.holds Try.pinned (OpenSpec.ofChange Rows.fnBlockSafeSpec) :=
  OpenClaim.holds_of_wide 13 Try.f13 rfl rfl rfl rfl rfl rfl rfl ⟨rfl, rfl, rfl, rfl, rfl⟩ rfl rfl rfl rfl rfl (by kernel_rfl) Try.func13 closed
    (of_decide_eq_true (by kernel_rfl)) (by unfold Func.isWrapper; first | (rw [if_pos (by decide +kernel)]; kernel_rfl) | (rw [if_neg (by decide +kernel)]; exact ⟨rfl, rfl⟩))
    (fun os started H enc _ => lifted os started H enc)

theorem proved : Rows.FnBlockSafeSaid := over
#print axioms proved
end Go.Proofs.Ytbpifchlmmdnaaa.fnBlockSafe
