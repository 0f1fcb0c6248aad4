/-
  For every input the law 'FnBlockNormal' returns true, and each of its arguments reads behind the call as it read before. Conditions: none beyond those of the row.
-/
import Derived.Test.YtedbfmmklmidjabRows
import Derived.WalkKit
import Derived.ProofKit
import Derived.OpenShut
import Derived.ShutString
import Derived.ChangeOld
import Derived.Below
import Derived.Deep.Matrix
import Derived.Test.YtedbfmmklmidjabIo
import Derived.Test.YtedbfmmklmidjabDrawM
import Derived.Test.YtedbfmmklmidjabLegalP
import Derived.Lib.QuietBelow
import Derived.BigQuiet
namespace Go.Proofs.Ytedbfmmklmidjab
open Go.RowKit

open Go.Sort

set_option maxHeartbeats 1000000 in
theorem normalBlk (w : World) :
    Calls Try.prog 38 #[] w fun e w' => e = .returned (bkV nb) ∧ Below w.heap.size w w' := by
  go_enter Try.func38, Try.ntmps38
  go_wp2_with fail
  exact bodyPost_ret (v := bkV nb) (by simp [results, Try.results38, go_sem, bkV, nb]) rfl ⟨rfl, below_alloc _ _⟩
theorem normalE (w : World) :
    Calls Try.prog 38 #[] w fun e w' => e = .returned (.agg #[.int .i64 nb.1, .bool nb.2.1, .bool nb.2.2]) ∧ Below w.heap.size w w' := normalBlk w

set_option maxRecDepth 100000 in
set_option maxHeartbeats 4000000 in
theorem walk_FnBlockNormal (a0 : Option Addr) (len0 cap0 : Nat) (z0 : List Int) (w : World) (w0 : IsRowK .u8 w a0 len0 cap0 z0) :
    Calls Try.prog 11 #[.slice a0 len0 cap0] w fun e w' => e = .returned (.bool true) ∧ Below w.heap.size w w' := by
  rcases Nat.lt_or_ge 1048576 len0 with hbig | hsm
  · have hb : (1048576 : Int) < (len0 : Int) := by omega
    go_enter Try.func11, Try.ntmps11
    go_wp2_with fail
    go_ret
    exact ⟨rfl, Below.refl _ _⟩
  have hb : (len0 : Int) ≤ 1048576 := by omega
  go_enter Try.func11, Try.ntmps11
  go_wp2_with (go_at_call 35; refine (drawNormal w0 hsm).mono ?_)
  rintro e w1 ⟨S, rfl, hS, b1⟩
  clear w0 hb
  obtain ⟨V, hV⟩ : ∃ V, V = bkNormal S := ⟨_, rfl⟩
  obtain ⟨t, ht⟩ : ∃ t, t = bkLegal S := ⟨_, rfl⟩
  have IM := Lib.hid (implNormal S (by omega))
  have SP := Lib.hid (specNormal S (by omega))
  rw [← hV, ← ht] at IM SP
  have HV := Lib.hid hV
  have HT := Lib.hid ht
  clear hV ht
  go_wp2_with (go_at_call 36; refine (IM.out _).mono ?_)
  rintro e w2 ⟨rfl, b2⟩
  go_wp2_with (go_at_call 37; refine (SP.out _).mono ?_)
  rintro e w3 ⟨rfl, b3⟩
  have B3 := Lib.hid (chain b1 (chain b2 b3))
  clear b1 b2 b3
  cases t
  · cases V
    · go_wp2_with fail
      go_ret
      exact ⟨rfl, B3.out⟩
    · go_wp2_with fail
      go_ret
      exact ⟨rfl, B3.out⟩
  have hleg : bkLegal S = true := HT.out.symm
  have IR := implRunE nb S (by omega)
  obtain ⟨x, hx⟩ : ∃ x, x = (bkRun nb S).getD nb := ⟨_, rfl⟩
  rw [← hx, show (bkRun nb S).isSome = true from hleg] at IR
  have hVx : V = decide (x = nb) := by rw [HV.out]; unfold bkNormal; rw [show (bkRun nb S).isSome = true from hleg, ← hx, Bool.true_and]
  have EV := eqBlk x nb
  rw [← hVx] at EV
  have IR := Lib.hid IR
  have HEV := Lib.hid EV
  obtain ⟨L, hL⟩ : ∃ L, L = S ++ S := ⟨_, rfl⟩
  have hsz : L.size = S.size + S.size := by rw [hL, ByteArray.size_append]
  have IN := Lib.hid (implNormal L (by omega))
  have HL := Lib.hid hL
  have CO := Lib.hid (countOf S (by omega))
  have hadd : S.size + S.size ≤ 9223372036854775807 := by omega
  have hw1 : IntKind.i64.wrap (2 * (S.size : Int)) = 2 * (S.size : Int) := IntWalk.i64_in _ (by omega)
  clear hx EV hVx hL
  go_wp2_with (first | (go_at_call 38; refine (normalE _).mono ?_; rintro e wB ⟨rfl, bB⟩) | (go_at_call 21; refine (IR.out _).mono ?_))
  rintro e w4 ⟨rfl, b4⟩
  have q5 := below_alloc w4 (.cells #[.int .i64 x.1, .bool x.2.1, .bool x.2.2] 25)
  have v5 := Tri3.new w4 (.int .i64 x.1) (.bool x.2.1) (.bool x.2.2) 25
  obtain ⟨W5, hW5⟩ : ∃ X, X = w4.alloc (.cells #[.int .i64 x.1, .bool x.2.1, .bool x.2.2] 25) := ⟨_, rfl⟩
  rw [← hW5] at q5 v5
  have HW5 := Lib.hid hW5.symm
  have C5 := Lib.hid (chain B3.out (chain bB (chain b4 q5)))
  clear hW5 q5 b4 bB
  go_upto_region 9 with fail
  rw [HW5.out]
  have c0 := v5.cell0
  have c1 := v5.cell1
  have c2 := v5.cell2
  have k0 := fun d os => cell_regrown c0 d os
  have k1 := fun d os => cell_regrown c1 d os
  have k2 := fun d os => cell_regrown c2 d os
  have NB := Lib.hid (fun dd os => Calls.regrown_of (normalE (grow (redrawn W5 dd) os)))
  have ev := HEV.out
  refine wp_region_quiet_below (by kernel_rfl) (by kernel_rfl) ?_
  repeat (go_big_quiet_step (exact NB.out _ _))
  refine wpQuiet_nil ?_
  intro _ hw'
  obtain ⟨⟨dq, osq⟩, hw''⟩ := hw'
  subst hw''
  have C6 := Lib.hid (chain C5.out (below_regrown W5 dq osq))
  obtain ⟨W6, hW6⟩ : ∃ W, W = grow (redrawn W5 dq) osq := ⟨_, rfl⟩
  rw [← hW6] at C6 ⊢
  clear hW6 k0 k1 k2 NB ev c0 c1 c2
  obtain ⟨Y, hY⟩ : ∃ Y, Y = bkNormal L := ⟨_, rfl⟩
  obtain ⟨Q, hQ⟩ : ∃ Q, Q = bkLegal L := ⟨_, rfl⟩
  rw [← hY, ← hQ] at IN
  have HYQ := Lib.hid (And.intro hY hQ)
  clear hY hQ
  cases V
  · go_upto_region 11 with fail
    go_wp2_with (rw [← HL.out]; go_at_call 36; refine (IN.out _).mono ?_)
    rintro e w7 ⟨rfl, b7⟩
    have C7 := Lib.hid (chain C6.out b7)
    clear b7
    go_wp2_with fail
    go_ret
    exact ⟨rfl, C7.out⟩
  · have ec : cntTo S 101 S.size = cntTo S 102 S.size := even_normal HV.out.symm
    obtain ⟨u, hu⟩ : ∃ u, u = cntTo S 101 S.size := ⟨_, rfl⟩
    have CE := Lib.hid (CO.out 101)
    have CF := Lib.hid (CO.out 102)
    rw [← ec, ← hu] at CF
    rw [← hu] at CE
    clear CO hu
    go_upto_region 11 with fail
    go_wp2_with (rw [← HL.out]; go_at_call 36; refine (IN.out _).mono ?_)
    rintro e w7 ⟨rfl, b7⟩
    have C7 := Lib.hid (chain C6.out b7)
    clear b7
    by_cases h30 : 30 < 2 * (S.size : Int)
    · have hd : decide ((30 : Int) < 2 * (S.size : Int)) = true := decide_eq_true h30
      clear ec
      go_wp2_with (go_at_call 23; refine (CE.out _).mono ?_)
      rintro e wB ⟨rfl, rfl⟩
      go_wp2_with (go_at_call 23; refine (CF.out _).mono ?_)
      rintro e wB ⟨rfl, rfl⟩
      go_wp2_with fail
      go_ret
      exact ⟨rfl, C7.out⟩
    · have hd : decide ((30 : Int) < 2 * (S.size : Int)) = false := decide_eq_false h30
      have tn := twice_normal (S := S) HV.out.symm (by rw [ByteArray.size_append]; omega)
      rw [← HL.out, ← HYQ.out.1, ← HYQ.out.2] at tn
      obtain ⟨rfl, rfl⟩ := tn
      clear ec
      go_wp2_with (go_at_call 23; refine (CE.out _).mono ?_)
      rintro e wB ⟨rfl, rfl⟩
      go_wp2_with (go_at_call 23; refine (CF.out _).mono ?_)
      rintro e wB ⟨rfl, rfl⟩
      go_wp2_with fail
      go_ret
      exact ⟨rfl, C7.out⟩

end Go.Proofs.Ytedbfmmklmidjab

namespace Go.Proofs.Ytedbfmmklmidjab.fnBlockNormal
open Go.ChangeShapes Go.WideShapes Go.ChangeAt Go.RowKit
open Go.ChangeMaps (open_string shut_string)
set_option linter.unusedVariables false

theorem own : ownKnob Try.prog.godebug = none := by kernel_rfl
theorem laidOut : laidOutB Try.prog = true := by kernel_rfl

set_option maxRecDepth 100000 in
theorem lifted (os : Os) (started : os.Started) (H : Type) (enc : TypeId × Value → H) :
    ReturnsInHanded {} Try.checked os 11 .any (Rows.fnBlockNormalSpec.pre6 enc Try.prog Try.f11 Rows.fnBlockNormalRow.domain false) (Rows.fnBlockNormalSpec.post enc Try.prog Try.f11 false true false false) := by
  refine returnsInHanded_of_change (C := Try.checked) own started (by kernel_rfl) Try.func11
    (ChangeSpec.witness6 (enc := enc) (C := Try.checked) false ⟨#[], #[.slice none 0 0], []⟩ 8 (by kernel_rfl) (by kernel_rfl) (by kernel_rfl) (by kernel_rfl)) ?_
  intro W base args ds gs before hval0 hW hcnd _
  have hval : ∀ (j : Nat) t v, Try.f11.params[j]? = some t → args[j]? = some v → Value.okWide Try.prog W .any base t v := hval0
  have hW' := hW
  obtain ⟨p, q, hA0, hV, rfl, hfz, hnd⟩ := hW
  have hA : DataW.TrodAll enc Try.prog W 0 (fun _ => true) true Try.f11.params.toList args.toList ds p := hA0
  rw [Try.params11] at hA hval
  obtain ⟨v0, vs0, d0, ds0, p0, q0, hargs, rfl, rfl, h0, r0⟩ := trodAll_cons hA
  obtain ⟨rfl, rfl, rfl⟩ := trodAll_nil r0
  obtain rfl : args = #[v0] := by cases args; simp_all
  obtain ⟨rfl, rfl⟩ := trodVars_none hV
  obtain ⟨a0, len0, cap0, rfl⟩ := okWide_slice Try.underlying31 (hval 0 31 v0 rfl rfl)
  have k0 := h0
  have lt0 : ∀ x ∈ p0, x.block < W.heap.size := by obtain ⟨m, hm⟩ := k0; exact DataW.trod_lt m _ _ _ hm
  obtain ⟨z0, w0⟩ : ∃ zs, IsRowK .u8 W a0 len0 cap0 zs := by
    obtain ⟨fuel, hf⟩ := h0
    rcases open_ints Try.underlying31 Try.underlying5 (by kernel_rfl) hf with ⟨hcs, _⟩ | ⟨x, l, c, zs, hcs, _, hl, hm, hz, _, hcell, hwz⟩
    · simp [Value.cells] at hcs
      obtain ⟨rfl, rfl, rfl⟩ := hcs
      exact ⟨[], .inl ⟨rfl, rfl, rfl, rfl⟩⟩
    · simp [Value.cells] at hcs
      obtain ⟨rfl, rfl, rfl⟩ := hcs
      exact ⟨zs, .inr ⟨_, rfl, hl, hm, by simpa using hz, hcell, hwz⟩⟩
  clear hA0 hval0
  refine (walk_FnBlockNormal a0 len0 cap0 z0 W w0).mono fun e W' ⟨he, bel⟩ => ?_
  subst he
  exact ⟨_, rfl, _, _, _, [], _, [], hW', trodAll_mk1 (shut_bool Try.underlying4 _), (trodAll_cons_mk (Below.trod laidOut (by kernel_rfl) (of_decide_eq_true (by kernel_rfl)) k0 bel lt0) trodAll_mk0), rfl, bel.frame _, fun h => by cases h⟩

theorem closed : joinedFacts Try.checked.prog 11 Try.f11 Rows.fnBlockNormalSpec Rows.fnBlockNormalRow = true := by
  unfold joinedFacts
  simp only [Bool.and_eq_true]
  repeat' (refine And.intro ?_ ?_)
  all_goals first
    | with_reducible exact may_enter
    | (rw [lifts_final]; kernel_rfl)
    | (rw [make_is]; kernel_rfl)
    | kernel_rfl

theorem over : Rows.fnBlockNormalRow.holds Try.pinned (OpenSpec.ofChange Rows.fnBlockNormalSpec) :=
  OpenClaim.holds_of_wide 11 Try.f11 rfl rfl rfl rfl rfl rfl rfl ⟨rfl, rfl, rfl, rfl, rfl⟩ rfl rfl rfl rfl rfl (by kernel_rfl) Try.func11 closed
    (of_decide_eq_true (by kernel_rfl)) (by unfold Func.isWrapper; first | (rw [if_pos (by decide +kernel)]; kernel_rfl) | (rw [if_neg (by decide +kernel)]; exact ⟨rfl, rfl⟩))
    (fun os started H enc _ => lifted os started H enc)

theorem proved : Rows.FnBlockNormalSaid := over
#print axioms proved
end Go.Proofs.Ytedbfmmklmidjab.fnBlockNormal
