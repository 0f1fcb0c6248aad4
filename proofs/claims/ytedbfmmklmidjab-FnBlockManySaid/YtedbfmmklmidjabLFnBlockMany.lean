/-
  For every input the law 'FnBlockMany' returns true, and each of its arguments reads behind the call as it read before. Conditions: none beyond those of the row.
-/
import Derived.Test.YtedbfmmklmidjabRows
import Derived.WalkKit
import Derived.ProofKit
import Derived.OpenShut
import Derived.ShutString
import Derived.ChangeOld
import Derived.Below
import Derived.Deep.Matrix
import Derived.Test.YtedbfmmklmidjabIo
import Derived.Test.YtedbfmmklmidjabDrawM
import Derived.Deep.DeepCutAuto
import Derived.Deep.RegionWith
import Derived.BigQuiet
namespace Go.Proofs.Ytedbfmmklmidjab
open Go.RowKit

/-- What there is of the events of a possible block, one by one. -/
theorem many_facts : ∀ i : Fin 5, (nxS (bkAt i.val)).size = nl i.val ∧ ∀ j : Fin 2, j.val < nl i.val → bkOne (bkAt i.val) ((nxS (bkAt i.val)).extract j.val (j.val + 1)) = some (bkAt (tg i.val j.val)) ∧ tg i.val j.val < 5 := by decide +kernel
theorem extract_one (N : ByteArray) (q : Nat) : (N.extract q (q + 1)).size ≤ 1 := by rw [ByteArray.size_extract]; omega
theorem meas_lt {a b : Nat} (h : a < b) : b - (a + 1) < b - a := by omega
theorem bw_least : ∀ k : Fin 31, ∀ i : Fin 5, 1 ≤ (bw k.val).getD i.val 0 := by decide +kernel
theorem bkMany_at {i : Nat} (hi : i < 5) {n : Nat} (hn : n ≤ 30) : bkMany (bkAt i) (n : Int) = (bw n).getD i 0 := by
  obtain ⟨h1, h2⟩ := bkIx_at hi
  unfold bkMany
  rw [if_pos ⟨h1, by omega, by omega⟩, h2, Int.toNat_natCast]
theorem bw_succ {i : Nat} (hi : i < 5) (k : Nat) : (bw (k + 1)).getD i 0 = to1 (bw k) i (nl i) := by
  show (bwStep (bw k)).getD i 0 = _
  unfold bwStep
  simp [hi]

set_option maxHeartbeats 2000000 in
theorem walk_FnBlockMany (a0 : Option Addr) (len0 cap0 : Nat) (z0 : List Int) (w : World) (w0 : IsRowK .u8 w a0 len0 cap0 z0) :
    Calls Try.prog 8 #[.slice a0 len0 cap0] w fun e w' => e = .returned (.bool true) ∧ Below w.heap.size w w' := by
  rcases Nat.lt_or_ge 1048576 len0 with hbig | hsm
  · have hb : (1048576 : Int) < (len0 : Int) := by omega
    go_enter Try.func8, Try.ntmps8
    go_wp2_with fail
    go_ret
    exact ⟨rfl, Below.refl _ _⟩
  have hb : (len0 : Int) ≤ 1048576 := by omega
  have DN := Lib.hid (drawManyB w0 hsm)
  clear w0
  go_enter Try.func8, Try.ntmps8
  go_wp2_with (go_at_call 29; refine DN.out.mono ?_)
  rintro e w1 ⟨b, n, rfl, hn0, hn1, b1⟩
  unfold bkV
  have e1 := below_alloc w1 (.cells #[.int .i64 b.1, .bool b.2.1, .bool b.2.2] 25)
  have t1 := Tri3.new w1 (.int .i64 b.1) (.bool b.2.1) (.bool b.2.2) 25
  obtain ⟨W, hW⟩ : ∃ W, W = w1.alloc (.cells #[.int .i64 b.1, .bool b.2.1, .bool b.2.2] 25) := ⟨_, rfl⟩
  rw [← hW] at e1 t1
  have HW := Lib.hid hW.symm
  have C1 := Lib.hid (chain b1 e1)
  clear hW b1 e1 DN
  go_upto_region 4 with fail
  rw [HW.out]
  have l0 := t1.cell0
  have l1 := t1.cell1
  have l2 := t1.cell2
  obtain ⟨V, hV⟩ : ∃ V, V = bkMany b n := ⟨_, rfl⟩
  have IM := Lib.hid (implMany b n)
  have SM := Lib.hid (specMany b n)
  rw [← hV] at IM SM
  have HV := Lib.hid hV
  clear hV
  go_wp2_with (go_at_call 15; refine (IM.out _).mono ?_)
  rintro e w2 ⟨rfl, b2⟩
  have t2 := t1.below b2
  clear l0 l1 l2
  have l0 := t2.cell0
  have l1 := t2.cell1
  have l2 := t2.cell2
  go_wp2_with (go_at_call 13; refine (SM.out _).mono ?_)
  rintro e w3 ⟨rfl, b3⟩
  have t3 := t2.below b3
  have C3 := Lib.hid (chain C1.out (chain b2 b3))
  clear l0 l1 l2 b2 b3 t1 t2
  by_cases hneg : V < 0
  · have hd : decide (V < 0) = true := decide_eq_true hneg
    go_wp2_with fail
    go_ret
    exact ⟨rfl, C3.out⟩
  have hd : decide (V < 0) = false := decide_eq_false hneg
  have hp : bkPos b = true ∧ 0 ≤ n ∧ n ≤ 30 := by
    by_cases h : bkPos b = true ∧ 0 ≤ n ∧ n ≤ 30
    · exact h
    · have := HV.out
      unfold bkMany at this
      rw [if_neg h] at this
      omega
  obtain ⟨hpos, hn00, hn30⟩ := hp
  obtain ⟨hi5, hib⟩ := bkAt_ix hpos
  obtain ⟨i, hi⟩ : ∃ i, i = bkIx b := ⟨_, rfl⟩
  rw [← hi] at hi5 hib
  obtain ⟨n, rfl⟩ : ∃ m : Nat, n = (m : Int) := ⟨n.toNat, by omega⟩
  have HVV : V = (bw n).getD i 0 := by rw [HV.out, ← hib]; exact bkMany_at hi5 (by omega)
  by_cases hz : n = 0
  · subst hz
    have hv1 : V = 1 := by
      rw [HVV]
      match i, hi5 with
      | 0, _ | 1, _ | 2, _ | 3, _ | 4, _ => rfl
    subst hv1
    clear HVV
    go_wp2_with fail
    go_ret
    exact ⟨rfl, C3.out⟩
  obtain ⟨k, rfl⟩ : ∃ k, n = k + 1 := ⟨n - 1, by omega⟩
  obtain ⟨f1, f2⟩ := many_facts ⟨i, hi5⟩
  simp only [hib] at f1 f2
  have hz' : (((k + 1 : Nat) : Int) == 0) = false := by simp; omega
  have hw0 : IntKind.i64.wrap (((k + 1 : Nat) : Int) - 1) = (k : Int) := by rw [IntWalk.i64_in _ (by omega)]; omega
  have hw0' : wrap64 (((k + 1 : Nat) : Int) - 1) = (k : Int) := (IntWalk.i64_left _).symm.trans hw0
  have F2 := Lib.hid f2
  have V1 := Lib.hid (show V = to1 (bw k) i (nl i) from HVV.trans (bw_succ hi5 k))
  have V2 := Lib.hid (show 1 ≤ V by rw [HVV]; exact bw_least ⟨k + 1, by omega⟩ ⟨i, hi5⟩)
  have NL := nl_le hi5
  have IN := Lib.hid (implNext b)
  obtain ⟨N, hN⟩ : ∃ N, N = nxS b := ⟨_, rfl⟩
  rw [← hN] at IN F2 f1
  have IS := Lib.hid (implStepE b)
  have T3 := Lib.hid t3
  have hs3 := t3.lt
  have l0 := t3.cell0
  have l1 := t3.cell1
  have l2 := t3.cell2
  have hk29 : k ≤ 29 := by omega
  have FN := Lib.hid f1
  clear f1 hi f2 HVV hN hpos hn00 hn30 hneg t3 hz
  generalize ((k + 1 : Nat) : Int) = K at *
  go_wp2_with (go_at_call 24; refine (IN.out _).mono ?_)
  rintro e w4 ⟨rfl, b4⟩
  have T4 := Lib.hid (T3.out.below b4)
  have C4 := Lib.hid (chain C3.out b4)
  have hs4 := T4.out.lt
  clear l0 l1 l2 b4
  go_wp2_with fail
  go_loopw [8, 9] (fun sv iv wr => ∃ q : Nat, q ≤ nl i ∧ iv = .int .i64 q ∧ sv = .int .i64 (to1 (bw k) i q) ∧ Below w4.heap.size w4 wr) (fun _ iv _ => nl i - (intOf iv).toNat)
  case atStart => exact ⟨0, by omega, rfl, rfl, Below.refl _ _⟩
  case round =>
    obtain ⟨q, hq, rfl, rfl, hbel⟩ := hrel
    by_cases hlt : q < nl i
    · have hkN : q < N.size := by rw [FN.out]; exact hlt
      have hki : (q : Int) < (N.size : Int) := by omega
      obtain ⟨g1, g2⟩ := F2.out ⟨q, by omega⟩ hlt
      simp only at g1 g2
      obtain ⟨Q, hQ⟩ : ∃ Q, Q = N.extract q (q + 1) := ⟨_, rfl⟩
      rw [← hQ] at g1
      have hsl : ∀ w, (Instr.slice 9 (.string N) (some (.int .i64 q)) (some (.int .i64 ((q : Int) + 1))) none).run Try.prog w = .ok (.string Q) w := by
        intro w
        rw [run_slice_string _ _ _ _ _ _ _ Try.underlying9 (by omega) (by omega) (by omega), hQ]
        rfl
      have hw1 : IntKind.i64.wrap ((q : Int) + 1) = (q : Int) + 1 := IntWalk.i64_in _ (by omega)
      have hw2 : wrap64 ((q : Int) + 1) = (q : Int) + 1 := (IntWalk.i64_left _).symm.trans hw1
      have hQs : Q.size ≤ 1 := by rw [hQ]; exact extract_one _ _
      have IQ := Lib.hid (IS.out Q (by omega))
      rw [g1] at IQ
      simp only [Option.getD_some, Option.isSome_some] at IQ
      obtain ⟨y, hy⟩ : ∃ y, y = bkAt (tg i q) := ⟨_, rfl⟩
      rw [← hy] at IQ
      have IMY := Lib.hid (implMany y (k : Int))
      have hmy : bkMany y (k : Int) = (bw k).getD (tg i q) 0 := by rw [hy]; exact bkMany_at g2 (by omega)
      have hsm1 := bw_small k (by omega) (tg i q) g2
      rw [hmy] at IMY
      have ht1 : to1 (bw k) i (q + 1) = to1 (bw k) i q + (bw k).getD (tg i q) 0 := rfl
      have hsm2 := to1_small (fun i hi => bw_small k (by omega) i hi) hi5 (q := q) (by omega)
      obtain ⟨s, hs⟩ : ∃ s, s = to1 (bw k) i q := ⟨_, rfl⟩
      obtain ⟨v, hv⟩ : ∃ v, v = (bw k).getD (tg i q) 0 := ⟨_, rfl⟩
      rw [← hs] at hsm2 ht1
      rw [← hv] at hsm1 IMY ht1
      rw [← hs]
      have HT1 := Lib.hid ht1
      have hw3 : IntKind.i64.wrap (s + v) = s + v := IntWalk.i64_in _ (by omega)
      have t5 := T4.out.below hbel
      have l0 := t5.cell0
      have l1 := t5.cell1
      have l2 := t5.cell2
      have T5 := Lib.hid t5
      have d0 : Below wr.heap.size wr wr.drew := (Below.refl _ _).drew
      clear hy hQ t5 g1 hs hv ht1 hmy g2
      go_upto_region 15 with fail
      go_cut [10, 11] (fun p t wx => ∃ g, p = .pointer (some ⟨g, 0, none⟩) ∧ t = .bool true ∧ Tri3 wx g (.int .i64 y.1) (.bool y.2.1) (.bool y.2.2) 25 ∧ Below wr.heap.size wr wx)
      case first =>
        have l9 : w1.heap.size < wr.heap.size := T5.out.lt
        go_region_with (go_at_call 19; refine (IQ.out _).mono ?_; rintro e wA ⟨rfl, bA⟩; first | (have z : Tri3 wA wr.heap.size (.int .i64 0) (.bool false) (.bool false) 25 := (Tri3.new wr.drew (.int .i64 0) (.bool false) (.bool false) 25).below bA; have z0 := z.cell0; have z1 := z.cell1; have z2 := z.cell2; have g0 := z.frozen 0; have g1 := z.frozen 1; have g2 := z.frozen 2) | (have z := d0.trans bA))
        all_goals (go_wp2_with fail; go_meet; first
          | with_reducible exact step_endA z _ _ _ _
          | with_reducible exact step_endB bA z _ _ _ _)
      case rest =>
      obtain ⟨g, rfl, rfl, tg6, bx⟩ := hcut
      have B6 := Lib.hid (hbel.trans (bx.mono hbel.size))
      clear bx l0 l1 l2 hbel
      have l0 := tg6.cell0
      have l1 := tg6.cell1
      have l2 := tg6.cell2
      go_wp2_with (go_at_call 15; refine (IMY.out _).mono ?_)
      rintro e w5 ⟨rfl, b5⟩
      have B7 := Lib.hid (B6.out.trans (b5.mono B6.out.size))
      clear l0 l1 l2 b5
      go_wp2_with fail
      go_roundw
      case rel => exact ⟨q + 1, hlt, by go_num, by rw [HT1.out], B7.out⟩
      case measure => simpa [intOf] using meas_lt hlt
    · obtain rfl : q = nl i := by omega
      rw [← V1.out]
      have hkN : ¬ nl i < N.size := by rw [FN.out]; exact Nat.lt_irrefl _
      have hV1 : decide (1 ≤ V) = true := decide_eq_true V2.out
      have B4 := Lib.hid (C4.out.trans (hbel.mono C4.out.size))
      go_wp2_with fail
      go_ret
      exact ⟨rfl, B4.out⟩

end Go.Proofs.Ytedbfmmklmidjab

namespace Go.Proofs.Ytedbfmmklmidjab.fnBlockMany
open Go.ChangeShapes Go.WideShapes Go.ChangeAt Go.RowKit
open Go.ChangeMaps (open_string shut_string)
set_option linter.unusedVariables false

theorem own : ownKnob Try.prog.godebug = none := by kernel_rfl
theorem laidOut : laidOutB Try.prog = true := by kernel_rfl

set_option maxRecDepth 100000 in
theorem lifted (os : Os) (started : os.Started) (H : Type) (enc : TypeId × Value → H) :
    ReturnsInHanded {} Try.checked os 8 .any (Rows.fnBlockManySpec.pre6 enc Try.prog Try.f8 Rows.fnBlockManyRow.domain false) (Rows.fnBlockManySpec.post enc Try.prog Try.f8 false true false false) := by
  refine returnsInHanded_of_change (C := Try.checked) own started (by kernel_rfl) Try.func8
    (ChangeSpec.witness6 (enc := enc) (C := Try.checked) false ⟨#[], #[.slice none 0 0], []⟩ 8 (by kernel_rfl) (by kernel_rfl) (by kernel_rfl) (by kernel_rfl)) ?_
  intro W base args ds gs before hval0 hW hcnd _
  have hval : ∀ (j : Nat) t v, Try.f8.params[j]? = some t → args[j]? = some v → Value.okWide Try.prog W .any base t v := hval0
  have hW' := hW
  obtain ⟨p, q, hA0, hV, rfl, hfz, hnd⟩ := hW
  have hA : DataW.TrodAll enc Try.prog W 0 (fun _ => true) true Try.f8.params.toList args.toList ds p := hA0
  rw [Try.params8] at hA hval
  obtain ⟨v0, vs0, d0, ds0, p0, q0, hargs, rfl, rfl, h0, r0⟩ := trodAll_cons hA
  obtain ⟨rfl, rfl, rfl⟩ := trodAll_nil r0
  obtain rfl : args = #[v0] := by cases args; simp_all
  obtain ⟨rfl, rfl⟩ := trodVars_none hV
  obtain ⟨a0, len0, cap0, rfl⟩ := okWide_slice Try.underlying31 (hval 0 31 v0 rfl rfl)
  have k0 := h0
  have lt0 : ∀ x ∈ p0, x.block < W.heap.size := by obtain ⟨m, hm⟩ := k0; exact DataW.trod_lt m _ _ _ hm
  obtain ⟨z0, w0⟩ : ∃ zs, IsRowK .u8 W a0 len0 cap0 zs := by
    obtain ⟨fuel, hf⟩ := h0
    rcases open_ints Try.underlying31 Try.underlying5 (by kernel_rfl) hf with ⟨hcs, _⟩ | ⟨x, l, c, zs, hcs, _, hl, hm, hz, _, hcell, hwz⟩
    · simp [Value.cells] at hcs
      obtain ⟨rfl, rfl, rfl⟩ := hcs
      exact ⟨[], .inl ⟨rfl, rfl, rfl, rfl⟩⟩
    · simp [Value.cells] at hcs
      obtain ⟨rfl, rfl, rfl⟩ := hcs
      exact ⟨zs, .inr ⟨_, rfl, hl, hm, by simpa using hz, hcell, hwz⟩⟩
  clear hA0 hval0
  refine (walk_FnBlockMany a0 len0 cap0 z0 W w0).mono fun e W' ⟨he, bel⟩ => ?_
  subst he
  exact ⟨_, rfl, _, _, _, [], _, [], hW', trodAll_mk1 (shut_bool Try.underlying4 _), (trodAll_cons_mk (Below.trod laidOut (by kernel_rfl) (of_decide_eq_true (by kernel_rfl)) k0 bel lt0) trodAll_mk0), rfl, bel.frame _, fun h => by cases h⟩

theorem closed : joinedFacts Try.checked.prog 8 Try.f8 Rows.fnBlockManySpec Rows.fnBlockManyRow = true := by
  unfold joinedFacts
  simp only [Bool.and_eq_true]
  repeat' (refine And.intro ?_ ?_)
  all_goals first
    | with_reducible exact may_enter
    | (rw [lifts_final]; kernel_rfl)
    | (rw [make_is]; kernel_rfl)
    | kernel_rfl

theorem over : Rows.fnBlockManyRow.holds Try.pinned (OpenSpec.ofChange Rows.fnBlockManySpec) :=
  OpenClaim.holds_of_wide 8 Try.f8 rfl rfl rfl rfl rfl rfl rfl ⟨rfl, rfl, rfl, rfl, rfl⟩ rfl rfl rfl rfl rfl (by kernel_rfl) Try.func8 closed
    (of_decide_eq_true (by kernel_rfl)) (by unfold Func.isWrapper; first | (rw [if_pos (by decide +kernel)]; kernel_rfl) | (rw [if_neg (by decide +kernel)]; exact ⟨rfl, rfl⟩))
    (fun os started H enc _ => lifted os started H enc)

theorem proved : Rows.FnBlockManySaid := over
#print axioms proved
end Go.Proofs.Ytedbfmmklmidjab.fnBlockMany
