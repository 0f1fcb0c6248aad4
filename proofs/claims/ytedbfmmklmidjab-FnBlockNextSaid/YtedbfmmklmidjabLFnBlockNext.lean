/-
  For every input the law 'FnBlockNext' returns true, and each of its arguments reads behind the call as it read before. Conditions: none beyond those of the row.
-/
import Derived.Test.YtedbfmmklmidjabRows
import Derived.WalkKit
import Derived.ProofKit
import Derived.OpenShut
import Derived.ShutString
import Derived.ChangeOld
import Derived.Below
import Derived.Deep.Matrix
import Derived.Test.YtedbfmmklmidjabIo
import Derived.Test.YtedbfmmklmidjabDrawK
import Derived.Deep.DeepCutAuto
import Derived.Deep.RegionWith
import Derived.BigQuiet
namespace Go.Proofs.Ytedbfmmklmidjab
open Go.RowKit

/-- What is there of the events of a possible block. -/
theorem next_facts : ∀ i : Fin 5, (nxS (bkAt i.val)).size ≤ 2 ∧ bkMany (bkAt i.val) 1 = (nxS (bkAt i.val)).size ∧ (∀ j : Fin 2, j.val < (nxS (bkAt i.val)).size → (bkOne (bkAt i.val) ((nxS (bkAt i.val)).extract j.val (j.val + 1))).isSome = true ∧ (0 < j.val → bt (nxS (bkAt i.val)) (j.val - 1) < bt (nxS (bkAt i.val)) j.val)) := by decide +kernel
theorem next_none {b : Blk} (h : bkPos b = false) : nxS b = ⟨#[]⟩ := by
  have q : ∀ k, nxTo b k = [] := by
    intro k
    induction k with
    | zero => rfl
    | succ k ih => rw [nxTo_no (bkStep_not h _), ih]
  unfold nxS
  rw [q]

set_option maxHeartbeats 1000000 in
theorem walk_FnBlockNext (a0 : Option Addr) (len0 cap0 : Nat) (z0 : List Int) (w : World) (w0 : IsRowK .u8 w a0 len0 cap0 z0) :
    Calls Try.prog 6 #[.slice a0 len0 cap0] w fun e w' => e = .returned (.bool true) ∧ Below w.heap.size w w' := by
  rcases Nat.lt_or_ge 1048576 len0 with hbig | hsm
  · have hb : (1048576 : Int) < (len0 : Int) := by omega
    go_enter Try.func6, Try.ntmps6
    go_wp2_with fail
    go_ret
    exact ⟨rfl, Below.refl _ _⟩
  have hb : (len0 : Int) ≤ 1048576 := by omega
  have DN := Lib.hid (drawNextB w0 hsm)
  clear w0
  go_enter Try.func6, Try.ntmps6
  go_wp2_with (go_at_call 25; refine DN.out.mono ?_)
  rintro e w1 ⟨b, rfl, b1⟩
  unfold bkV
  have e1 := below_alloc w1 (.cells #[.int .i64 b.1, .bool b.2.1, .bool b.2.2] 25)
  have t1 := Tri3.new w1 (.int .i64 b.1) (.bool b.2.1) (.bool b.2.2) 25
  obtain ⟨W, hW⟩ : ∃ W, W = w1.alloc (.cells #[.int .i64 b.1, .bool b.2.1, .bool b.2.2] 25) := ⟨_, rfl⟩
  rw [← hW] at e1 t1
  have HW := Lib.hid hW.symm
  have C1 := Lib.hid (chain b1 e1)
  clear hW b1 e1 DN
  go_upto_region 4 with fail
  rw [HW.out]
  have l0 := t1.cell0
  have l1 := t1.cell1
  have l2 := t1.cell2
  obtain ⟨N, hN⟩ : ∃ N, N = nxS b := ⟨_, rfl⟩
  have IN := Lib.hid (implNext b)
  have SN := Lib.hid (specNext b)
  rw [← hN] at IN SN
  have HN := Lib.hid hN
  clear hN
  go_wp2_with (go_at_call 24; refine (IN.out _).mono ?_)
  rintro e w2 ⟨rfl, b2⟩
  have t2 := t1.below b2
  clear l0 l1 l2
  have l0 := t2.cell0
  have l1 := t2.cell1
  have l2 := t2.cell2
  go_wp2_with (go_at_call 26; refine (SN.out _).mono ?_)
  rintro e w3 ⟨rfl, b3⟩
  have t3 := t2.below b3
  have C3 := Lib.hid (chain C1.out (chain b2 b3))
  clear l0 l1 l2 b2 b3 t1 t2
  cases hp : bkPos b
  · have e0 : N = ⟨#[]⟩ := by rw [HN.out]; exact next_none hp
    subst e0
    go_wp2_with fail
    go_ret
    exact ⟨rfl, C3.out⟩
  obtain ⟨hi5, hib⟩ := bkAt_ix hp
  obtain ⟨f1, f2, f3⟩ := next_facts ⟨bkIx b, hi5⟩
  simp only [hib] at f1 f2 f3
  rw [← HN.out] at f1 f2 f3
  have EQ := empty_is N
  by_cases hz : N.size = 0
  · rw [decide_eq_true hz] at EQ
    go_wp2_with fail
    go_ret
    exact ⟨rfl, C3.out⟩
  rw [decide_eq_false hz] at EQ
  have F3 := Lib.hid f3
  have IM := Lib.hid (implMany b 1)
  rw [f2] at IM
  have IS := Lib.hid (implStepE b)
  have T3 := Lib.hid t3
  have hs3 := t3.lt
  clear f2 f3 hi5 hib hp t3
  go_wp2_with fail
  go_loopw [6] (fun i wr => ∃ k : Nat, k ≤ N.size ∧ i = .int .i64 k ∧ Below w3.heap.size w3 wr) (fun i _ => N.size - (intOf i).toNat)
  case atStart => exact ⟨0, by omega, rfl, Below.refl _ _⟩
  case round =>
    obtain ⟨k, hk, rfl, hbel⟩ := hrel
    by_cases hlt : k < N.size
    · have hki : (k : Int) < (N.size : Int) := by omega
      obtain ⟨g1, g2⟩ := F3.out ⟨k, by omega⟩ hlt
      simp only at g1 g2
      obtain ⟨Q, hQ⟩ : ∃ Q, Q = N.extract k (k + 1) := ⟨_, rfl⟩
      rw [← hQ] at g1
      have hsl : ∀ w, (Instr.slice 9 (.string N) (some (.int .i64 k)) (some (.int .i64 ((k : Int) + 1))) none).run Try.prog w = .ok (.string Q) w := by
        intro w
        rw [run_slice_string _ _ _ _ _ _ _ Try.underlying9 (by omega) (by omega) (by omega), hQ]
        rfl
      have hw1 : IntKind.i64.wrap ((k : Int) + 1) = (k : Int) + 1 := IntWalk.i64_in _ (by omega)
      have hw2 : wrap64 ((k : Int) + 1) = (k : Int) + 1 := (IntWalk.i64_left _).symm.trans hw1
      have hQs : Q.size ≤ 1 := by rw [hQ, ByteArray.size_extract]; omega
      have IQ := Lib.hid (IS.out Q (by omega))
      rw [g1] at IQ
      obtain ⟨y, hy⟩ : ∃ y, y = (bkOne b Q).getD nb := ⟨_, rfl⟩
      rw [← hy] at IQ
      have t4 := T3.out.below hbel
      have l0 := t4.cell0
      have l1 := t4.cell1
      have l2 := t4.cell2
      have T4 := Lib.hid t4
      have d0 : Below wr.heap.size wr wr.drew := (Below.refl _ _).drew
      clear hy hQ t4 g1
      go_upto_region 11 with fail
      go_cut [8] (fun p wx => p = .bool true ∧ Below wr.heap.size wr wx)
      case first =>
        have l9 : w1.heap.size < wr.heap.size := T4.out.lt
        go_region_with (go_at_call 19; refine (IQ.out _).mono ?_; rintro e wA ⟨rfl, bA⟩; first | (have z : Tri3 wA wr.heap.size (.int .i64 0) (.bool false) (.bool false) 25 := (Tri3.new wr.drew (.int .i64 0) (.bool false) (.bool false) 25).below bA; have z0 := z.cell0; have z1 := z.cell1; have z2 := z.cell2; have g0 := z.frozen 0; have g1 := z.frozen 1; have g2 := z.frozen 2) | (have z := d0.trans bA))
        all_goals (go_wp2_with fail; go_meet; first
          | with_reducible exact next_endA z _ _ _ _
          | with_reducible exact next_endB bA _ _ _ _)
      case rest =>
      obtain ⟨rfl, bx⟩ := hcut
      have B4 := Lib.hid (hbel.trans (bx.mono hbel.size))
      clear bx l0 l1 l2 hbel
      have hix : ∀ (j : Nat), j < N.size → ∀ (w : World), (Instr.index 9 (.string N) (.int .i64 j)).run Try.prog w = .ok (.int .u8 (bt N j)) w := by
        intro j hj w
        rw [run_index_string _ _ _ _ _ Try.underlying9, dif_pos ⟨by omega, by omega⟩, ← bt_get hj]
        rfl
      by_cases hk0 : k = 0
      · subst hk0
        go_wp2_with fail
        go_quiet (fail)
        go_wp2_with fail
        go_roundw
        case rel => exact ⟨1, by omega, by go_num, below_drewN B4.out _⟩
        case measure => simp [intOf]; omega
      · have hk1 : (0 : Int) < (k : Int) := by omega
        have hk2 : 0 < k := by omega
        have hd1 : decide (0 < k) = true := decide_eq_true hk2
        have hx1 := hix k hlt
        have hx2 := hix (k - 1) (by omega)
        have hw3 : IntKind.i64.wrap ((k : Int) - 1) = (k : Int) - 1 := IntWalk.i64_in _ (by omega)
        have hw4 : wrap64 ((k : Int) - 1) = (k : Int) - 1 := (IntWalk.i64_left _).symm.trans hw3
        rw [show ((k - 1 : Nat) : Int) = (k : Int) - 1 by omega] at hx2
        have hg2 := g2 (by omega)
        obtain ⟨x1, e1⟩ : ∃ x, x = bt N k := ⟨_, rfl⟩
        obtain ⟨x2, e2⟩ : ∃ x, x = bt N (k - 1) := ⟨_, rfl⟩
        rw [← e1] at hx1 hg2
        rw [← e2] at hx2 hg2
        have hle : decide (x1 ≤ x2) = false := decide_eq_false (by omega)
        clear e1 e2 hix g2
        go_wp2_with fail
        go_quiet (fail)
        go_wp2_with fail
        go_roundw
        case rel => exact ⟨k + 1, by omega, by go_num, below_drewN B4.out _⟩
        case measure => simp [intOf]; omega
    · have hle : (N.size : Int) ≤ 2 := by omega
      have t4 := T3.out.below hbel
      have l0 := t4.cell0
      have l1 := t4.cell1
      have l2 := t4.cell2
      have B4 := Lib.hid (C3.out.trans (hbel.mono C3.out.size))
      clear t4 hbel
      go_wp2_with (go_at_call 15; refine (IM.out _).mono ?_)
      rintro e w5 ⟨rfl, b5⟩
      go_wp2_with fail
      go_ret
      exact ⟨rfl, chain B4.out b5⟩

end Go.Proofs.Ytedbfmmklmidjab

namespace Go.Proofs.Ytedbfmmklmidjab.fnBlockNext
open Go.ChangeShapes Go.WideShapes Go.ChangeAt Go.RowKit
open Go.ChangeMaps (open_string shut_string)
set_option linter.unusedVariables false

theorem own : ownKnob Try.prog.godebug = none := by kernel_rfl
theorem laidOut : laidOutB Try.prog = true := by kernel_rfl

set_option maxRecDepth 100000 in
theorem lifted (os : Os) (started : os.Started) (H : Type) (enc : TypeId × Value → H) :
    ReturnsInHanded {} Try.checked os 6 .any (Rows.fnBlockNextSpec.pre6 enc Try.prog Try.f6 Rows.fnBlockNextRow.domain false) (Rows.fnBlockNextSpec.post enc Try.prog Try.f6 false true false false) := by
  refine returnsInHanded_of_change (C := Try.checked) own started (by kernel_rfl) Try.func6
    (ChangeSpec.witness6 (enc := enc) (C := Try.checked) false ⟨#[], #[.slice none 0 0], []⟩ 8 (by kernel_rfl) (by kernel_rfl) (by kernel_rfl) (by kernel_rfl)) ?_
  intro W base args ds gs before hval0 hW hcnd _
  have hval : ∀ (j : Nat) t v, Try.f6.params[j]? = some t → args[j]? = some v → Value.okWide Try.prog W .any base t v := hval0
  have hW' := hW
  obtain ⟨p, q, hA0, hV, rfl, hfz, hnd⟩ := hW
  have hA : DataW.TrodAll enc Try.prog W 0 (fun _ => true) true Try.f6.params.toList args.toList ds p := hA0
  rw [Try.params6] at hA hval
  obtain ⟨v0, vs0, d0, ds0, p0, q0, hargs, rfl, rfl, h0, r0⟩ := trodAll_cons hA
  obtain ⟨rfl, rfl, rfl⟩ := trodAll_nil r0
  obtain rfl : args = #[v0] := by cases args; simp_all
  obtain ⟨rfl, rfl⟩ := trodVars_none hV
  obtain ⟨a0, len0, cap0, rfl⟩ := okWide_slice Try.underlying31 (hval 0 31 v0 rfl rfl)
  have k0 := h0
  have lt0 : ∀ x ∈ p0, x.block < W.heap.size := by obtain ⟨m, hm⟩ := k0; exact DataW.trod_lt m _ _ _ hm
  obtain ⟨z0, w0⟩ : ∃ zs, IsRowK .u8 W a0 len0 cap0 zs := by
    obtain ⟨fuel, hf⟩ := h0
    rcases open_ints Try.underlying31 Try.underlying5 (by kernel_rfl) hf with ⟨hcs, _⟩ | ⟨x, l, c, zs, hcs, _, hl, hm, hz, _, hcell, hwz⟩
    · simp [Value.cells] at hcs
      obtain ⟨rfl, rfl, rfl⟩ := hcs
      exact ⟨[], .inl ⟨rfl, rfl, rfl, rfl⟩⟩
    · simp [Value.cells] at hcs
      obtain ⟨rfl, rfl, rfl⟩ := hcs
      exact ⟨zs, .inr ⟨_, rfl, hl, hm, by simpa using hz, hcell, hwz⟩⟩
  clear hA0 hval0
  refine (walk_FnBlockNext a0 len0 cap0 z0 W w0).mono fun e W' ⟨he, bel⟩ => ?_
  subst he
  exact ⟨_, rfl, _, _, _, [], _, [], hW', trodAll_mk1 (shut_bool Try.underlying4 _), (trodAll_cons_mk (Below.trod laidOut (by kernel_rfl) (of_decide_eq_true (by kernel_rfl)) k0 bel lt0) trodAll_mk0), rfl, bel.frame _, fun h => by cases h⟩

theorem closed : joinedFacts Try.checked.prog 6 Try.f6 Rows.fnBlockNextSpec Rows.fnBlockNextRow = true := by
  unfold joinedFacts
  simp only [Bool.and_eq_true]
  repeat' (refine And.intro ?_ ?_)
  all_goals first
    | with_reducible exact may_enter
    | (rw [lifts_final]; kernel_rfl)
    | (rw [make_is]; kernel_rfl)
    | kernel_rfl

theorem over : Rows.fnBlockNextRow.holds Try.pinned (OpenSpec.ofChange Rows.fnBlockNextSpec) :=
  OpenClaim.holds_of_wide 6 Try.f6 rfl rfl rfl rfl rfl rfl rfl ⟨rfl, rfl, rfl, rfl, rfl⟩ rfl rfl rfl rfl rfl (by kernel_rfl) Try.func6 closed
    (of_decide_eq_true (by kernel_rfl)) (by unfold Func.isWrapper; first | (rw [if_pos (by decide +kernel)]; kernel_rfl) | (rw [if_neg (by decide +kernel)]; exact ⟨rfl, rfl⟩))
    (fun os started H enc _ => lifted os started H enc)

theorem proved : Rows.FnBlockNextSaid := over
#print axioms proved
end Go.Proofs.Ytedbfmmklmidjab.fnBlockNext
