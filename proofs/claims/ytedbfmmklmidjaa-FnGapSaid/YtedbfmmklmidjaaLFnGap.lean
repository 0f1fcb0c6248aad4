/-
  For every input the law 'FnGap' returns true, and each of its arguments reads behind the call as it read before. Conditions: none beyond those of the row.
-/
import Derived.Test.YtedbfmmklmidjaaRows
import Derived.WalkKit
import Derived.ProofKit
import Derived.OpenShut
import Derived.ShutString
import Derived.ChangeOld
import Derived.Below
import Derived.Deep.Matrix
import Derived.Test.YtedbfmmklmidjaaIo
import Derived.Test.YtedbfmmklmidjaaDrawQ
import Derived.Test.YtedbfmmklmidjaaGapP
import Derived.BigRegion
namespace Go.Proofs.Ytedbfmmklmidjaa
open Go.RowKit

set_option maxRecDepth 100000 in
set_option maxHeartbeats 8000000 in
theorem walk_FnGap (a0 : Option Addr) (len0 cap0 : Nat) (z0 : List Int) (w : World) (w0 : IsRowK .u8 w a0 len0 cap0 z0) :
    Calls Try.prog 4 #[.slice a0 len0 cap0] w fun e w' => e = .returned (.bool true) ∧ Below w.heap.size w w' := by
  rcases Nat.lt_or_ge 1048576 len0 with hbig | hsm
  · have hb : (1048576 : Int) < (len0 : Int) := by omega
    go_enter Try.func4, Try.ntmps4
    go_wp2_with fail
    go_ret
    exact ⟨rfl, Below.refl _ _⟩
  have hb : (len0 : Int) ≤ 1048576 := by omega
  have DS := Lib.hid (drawGap w0 hsm)
  clear w0
  go_enter Try.func4, Try.ntmps4
  go_wp2_with (go_at_call 25; refine DS.out.mono ?_)
  rintro e w1 ⟨n, b, c, vs, ps, k, rfl, hn1, hn4, hpl, hk0, hk1, lq, b1⟩
  have hpp := lq.paths (by omega)
  have GI := Lib.hid (implGap (n := (n : Int)) (k := k) hpp)
  have GS := Lib.hid (fun (X : World) (hX : Below w1.heap.size w1 X) => specGap (n := (n : Int)) (k := k) (hpp.below hX))
  have GB := Lib.hid (fun h : hasB (n : Int) ps k = true => (hasB_is h).1)
  obtain ⟨G, hG⟩ : ∃ G, G = gapOf (n : Int) ps k := ⟨_, rfl⟩
  rw [← hG] at GI GS
  have HG := Lib.hid hG
  have HP := Lib.hid hpp
  clear hpp lq DS hG
  go_wp2_with (go_at_call 26; refine GI.out.mono ?_)
  rintro e w2 ⟨rfl, b2⟩
  go_wp2_with (go_at_call 27; refine (GS.out _ b2).mono ?_)
  rintro e w3 ⟨rfl, b3⟩
  have c3 := b2.trans (b3.mono b2.size)
  have C3 := Lib.hid (b1.trans (c3.mono b1.size))
  have B1 := Lib.hid b1
  clear b2 b3 GI GS b1
  by_cases hneg : G < 0
  · have hd : decide (G < 0) = true := decide_eq_true hneg
    go_wp2_with fail
    go_ret
    exact ⟨rfl, C3.out⟩
  have hd : decide (G < 0) = false := decide_eq_false hneg
  have hhas : hasB (n : Int) ps k = true := by
    cases e : hasB (n : Int) ps k
    · have := HG.out; rw [gapOf_no e] at this; omega
    · rfl
  have h2 : 2 ≤ ps.length := by
    by_cases e : 2 ≤ ps.length
    · exact e
    · have := HG.out; rw [gapOf_few (by omega)] at this; omega
  obtain ⟨hpb, hk0', hkn⟩ := hasB_is hhas
  have hG2 := HG.out
  rw [gapOf_is hhas h2] at hG2
  obtain ⟨k, rfl⟩ : ∃ m : Nat, k = (m : Int) := ⟨k.toNat, by omega⟩
  rw [Int.toNat_natCast] at hG2
  have HH := Lib.hid (gap_hit hpb hkn h2)
  have HL := Lib.hid (fun (i m : Nat) => gap_least (i := i) (m := m) hpb hkn)
  rw [← hG2] at HH HL
  have PB := Lib.hid hpb
  have HAT := Lib.hid (fun (i : Nat) (hi : i < ps.length) => paths_at HP.out hi)
  have CC := Lib.hid c3
  clear hhas hpb hG2 HG GB hk0 hk1 c3
  go_wp2_with fail
  go_loopw [8, 9] (fun hv iv wr => ∃ i : Nat, i ≤ ps.length ∧ iv = .int .i64 i ∧ hv = .bool (hitTo ps k G i) ∧ Below w1.heap.size w1 wr) (fun _ iv _ => ps.length - (intOf iv).toNat)
  case atStart => exact ⟨0, by omega, rfl, rfl, CC.out⟩
  case round =>
    obtain ⟨i, hi, rfl, rfl, hbel⟩ := hrel
    by_cases hlt : i < ps.length
    · have hli : (i : Int) < (ps.length : Int) := by omega
      have hst : (hitTo ps k G i) = (hitTo ps k G i || rowHit ps k G i 0) := by rw [show rowHit ps k G i 0 = false from rfl, Bool.or_false]
      go_wp2_with fail
      go_loopw [8, 10] (fun hv mv ws => ∃ m : Nat, m ≤ ps.length ∧ mv = .int .i64 m ∧ hv = .bool (hitTo ps k G i || rowHit ps k G i m) ∧ Below w1.heap.size w1 ws) (fun _ mv _ => ps.length - (intOf mv).toNat)
      case atStart => exact ⟨0, by omega, rfl, by rw [← hst], hbel⟩
      case round =>
        obtain ⟨m, hm, rfl, rfl, hbm⟩ := hrel
        by_cases hmt : m < ps.length
        · have hlm : (m : Int) < (ps.length : Int) := by omega
          obtain ⟨_, o, e, hb1', hat⟩ := HAT.out i hlt
          simp only [Option.some.injEq, Addr.mk.injEq, and_true] at e
          obtain ⟨rfl, rfl⟩ := e
          obtain ⟨b1, o1, k1, b2, o2, k2, c1, c2, -, hb1, hb2, d1, d2⟩ := paths_cells hat PB.out hlt hkn
          obtain ⟨b3, o3, k3, b4, o4, k4, c3, c4, -, hb3, hb4, d3, d4⟩ := paths_cells hat PB.out hmt hkn
          obtain ⟨r1, r2, r3, r4, r5⟩ := sec_bounds PB.out hlt hkn
          obtain ⟨u1, u2, u3, u4, u5⟩ := sec_bounds PB.out hmt hkn
          have BB := Lib.hid hbm
          have old : ∀ (q : Addr) (v : Value), q.block < w1.heap.size → w1.cell? q = some v → wr.cell? q = some v := fun q v hq hv => (BB.out.cell hq).trans hv
          have f1 := old _ _ hb1' c1
          have f2 := old _ _ hb1' c4
          simp only [Nat.zero_add] at f1 f2
          have f3 := old _ _ hb1 d1
          have f4 := old _ _ hb4 d4
          generalize (ps.getD i noPath).1.length = l1 at f1 r1
          generalize (ps.getD m noPath).2.length = l2 at f2 u2
          obtain ⟨s, hs⟩ : ∃ s, s = (ps.getD i noPath).1.getD k 0 := ⟨_, rfl⟩
          obtain ⟨t, ht⟩ : ∃ t, t = (ps.getD m noPath).2.getD k 0 := ⟨_, rfl⟩
          rw [← hs] at f3 r3 r4
          rw [← ht] at f4 u5 u4
          have hD : dOf ps k i m = s - t := by rw [hs, ht]; rfl
          have w1' : IntKind.i64.wrap (s - t) = s - t := IntWalk.i64_in _ (by omega)
          have hkl1 : (k : Int) < (l1 : Int) := by omega
          have hkl2 : (k : Int) < (l2 : Int) := by omega
          have hsz := BB.out.size
          have hRH : rowHit ps k G i (m + 1) = (rowHit ps k G i m || isHit ps k G i m) := rfl
          have hLE := HL.out i m hlt hmt
          rw [hD] at hLE
          have hIH : isHit ps k G i m = decide (i ≠ m ∧ 0 ≤ s - t ∧ s - t = G) := by unfold isHit; rw [hD]
          have RH := Lib.hid (And.intro hRH (And.intro hLE hIH))
          obtain ⟨B, hB⟩ : ∃ B, B = (hitTo ps k G i || rowHit ps k G i m) := ⟨_, rfl⟩
          rw [← hB]
          have HBB := Lib.hid hB
          clear hat c1 c2 c3 c4 d1 d2 d3 d4 old hs ht hD hRH hLE hIH hB r5 u3 hbm
          go_wp2_with fail
          have d1 := fun d os => cell_regrown f1 d os
          have d2 := fun d os => cell_regrown f2 d os
          have d3 := fun d os => cell_regrown f3 d os
          have d4 := fun d os => cell_regrown f4 d os
          refine wp_region_quiet_below (by kernel_rfl) (by kernel_rfl) ?_
          repeat (go_big_quiet_step (fail))
          refine wpQuiet_nil ?_
          intro _ hw'
          obtain ⟨⟨dq, osq⟩, hw''⟩ := hw'
          subst hw''
          have BR := (below_regrown wr dq osq).mono hsz
          have BF := Lib.hid (BB.out.trans BR)
          clear BR d1 d2 d3 d4
          by_cases hne : i = m
          · have e1 : ((i : Int) != (m : Int)) = false := by simp [hne]
            have NX := Lib.hid (show B = (hitTo ps k G i || rowHit ps k G i (m + 1)) by rw [RH.out.1, RH.out.2.2, decide_eq_false (fun q => q.1 hne), Bool.or_false]; exact HBB.out)
            subst hne
            go_wp2_with fail
            go_roundw
            case rel => exact ⟨i + 1, by omega, by go_num, by rw [← NX.out], BF.out⟩
            case measure => simp [intOf]; omega
          · have e1 : ((i : Int) != (m : Int)) = true := by simp; omega
            by_cases h0 : 0 ≤ s - t
            · have e2 : decide (0 ≤ s - t) = true := decide_eq_true h0
              have hle := RH.out.2.1 hne h0
              have e3 : decide (s - t < G) = false := decide_eq_false (by omega)
              have NX := Lib.hid (show (B || (s - t == G)) = (hitTo ps k G i || rowHit ps k G i (m + 1)) by
                rw [RH.out.1, RH.out.2.2, ← Bool.or_assoc, ← HBB.out]
                congr 1
                rw [Bool.eq_iff_iff, beq_iff_eq, decide_eq_true_iff]
                exact ⟨fun q => ⟨hne, h0, q⟩, fun q => q.2.2⟩)
              cases B
              · rw [Bool.false_or] at NX
                go_wp2_with fail
                go_roundw
                case rel => exact ⟨m + 1, by omega, by go_num, by rw [← NX.out], BF.out⟩
                case measure => simp [intOf]; omega
              · rw [Bool.true_or] at NX
                go_wp2_with fail
                go_roundw
                case rel => exact ⟨m + 1, by omega, by go_num, by rw [← NX.out], BF.out⟩
                case measure => simp [intOf]; omega
            · have e2 : decide (0 ≤ s - t) = false := decide_eq_false h0
              have NX := Lib.hid (show B = (hitTo ps k G i || rowHit ps k G i (m + 1)) by rw [RH.out.1, RH.out.2.2, decide_eq_false (fun q => h0 q.2.1), Bool.or_false]; exact HBB.out)
              go_wp2_with fail
              go_roundw
              case rel => exact ⟨m + 1, by omega, by go_num, by rw [← NX.out], BF.out⟩
              case measure => simp [intOf]; omega
        · obtain rfl : m = ps.length := by omega
          go_wp2_with fail
          go_roundw
          case rel => exact ⟨i + 1, by omega, by go_num, rfl, hbm⟩
          case measure => simp [intOf]; omega
    · obtain rfl : i = ps.length := by omega
      rw [HH.out]
      have BE := Lib.hid (B1.out.trans (hbel.mono B1.out.size))
      go_wp2_with fail
      go_ret
      exact ⟨rfl, BE.out⟩

end Go.Proofs.Ytedbfmmklmidjaa

namespace Go.Proofs.Ytedbfmmklmidjaa.fnGap
open Go.ChangeShapes Go.WideShapes Go.ChangeAt Go.RowKit
open Go.ChangeMaps (open_string shut_string)
set_option linter.unusedVariables false

theorem own : ownKnob Try.prog.godebug = none := by kernel_rfl
theorem laidOut : laidOutB Try.prog = true := by kernel_rfl

set_option maxRecDepth 100000 in
theorem lifted (os : Os) (started : os.Started) (H : Type) (enc : TypeId × Value → H) :
    ReturnsInHanded {} Try.checked os 4 .any (Rows.fnGapSpec.pre6 enc Try.prog Try.f4 Rows.fnGapRow.domain false) (Rows.fnGapSpec.post enc Try.prog Try.f4 false true false false) := by
  refine returnsInHanded_of_change (C := Try.checked) own started (by kernel_rfl) Try.func4
    (ChangeSpec.witness6 (enc := enc) (C := Try.checked) false ⟨#[], #[.slice none 0 0], []⟩ 8 (by kernel_rfl) (by kernel_rfl) (by kernel_rfl) (by kernel_rfl)) ?_
  intro W base args ds gs before hval0 hW hcnd _
  have hval : ∀ (j : Nat) t v, Try.f4.params[j]? = some t → args[j]? = some v → Value.okWide Try.prog W .any base t v := hval0
  have hW' := hW
  obtain ⟨p, q, hA0, hV, rfl, hfz, hnd⟩ := hW
  have hA : DataW.TrodAll enc Try.prog W 0 (fun _ => true) true Try.f4.params.toList args.toList ds p := hA0
  rw [Try.params4] at hA hval
  obtain ⟨v0, vs0, d0, ds0, p0, q0, hargs, rfl, rfl, h0, r0⟩ := trodAll_cons hA
  obtain ⟨rfl, rfl, rfl⟩ := trodAll_nil r0
  obtain rfl : args = #[v0] := by cases args; simp_all
  obtain ⟨rfl, rfl⟩ := trodVars_none hV
  obtain ⟨a0, len0, cap0, rfl⟩ := okWide_slice Try.underlying35 (hval 0 35 v0 rfl rfl)
  have k0 := h0
  have lt0 : ∀ x ∈ p0, x.block < W.heap.size := by obtain ⟨m, hm⟩ := k0; exact DataW.trod_lt m _ _ _ hm
  obtain ⟨z0, w0⟩ : ∃ zs, IsRowK .u8 W a0 len0 cap0 zs := by
    obtain ⟨fuel, hf⟩ := h0
    rcases open_ints Try.underlying35 Try.underlying5 (by kernel_rfl) hf with ⟨hcs, _⟩ | ⟨x, l, c, zs, hcs, _, hl, hm, hz, _, hcell, hwz⟩
    · simp [Value.cells] at hcs
      obtain ⟨rfl, rfl, rfl⟩ := hcs
      exact ⟨[], .inl ⟨rfl, rfl, rfl, rfl⟩⟩
    · simp [Value.cells] at hcs
      obtain ⟨rfl, rfl, rfl⟩ := hcs
      exact ⟨zs, .inr ⟨_, rfl, hl, hm, by simpa using hz, hcell, hwz⟩⟩
  clear hA0 hval0
  refine (walk_FnGap a0 len0 cap0 z0 W w0).mono fun e W' ⟨he, bel⟩ => ?_
  subst he
  exact ⟨_, rfl, _, _, _, [], _, [], hW', trodAll_mk1 (shut_bool Try.underlying4 _), (trodAll_cons_mk (Below.trod laidOut (by kernel_rfl) (of_decide_eq_true (by kernel_rfl)) k0 bel lt0) trodAll_mk0), rfl, bel.frame _, fun h => by cases h⟩

theorem closed : joinedFacts Try.checked.prog 4 Try.f4 Rows.fnGapSpec Rows.fnGapRow = true := by
  unfold joinedFacts
  simp only [Bool.and_eq_true]
  repeat' (refine And.intro ?_ ?_)
  all_goals first
    | with_reducible exact may_enter
    | (rw [lifts_final]; kernel_rfl)
    | (rw [make_is]; kernel_rfl)
    | kernel_rfl

theorem over : Rows.fnGapRow.holds Try.pinned (OpenSpec.ofChange Rows.fnGapSpec) :=
  OpenClaim.holds_of_wide 4 Try.f4 rfl rfl rfl rfl rfl rfl rfl ⟨rfl, rfl, rfl, rfl, rfl⟩ rfl rfl rfl rfl rfl (by kernel_rfl) Try.func4 closed
    (of_decide_eq_true (by kernel_rfl)) (by unfold Func.isWrapper; first | (rw [if_pos (by decide +kernel)]; kernel_rfl) | (rw [if_neg (by decide +kernel)]; exact ⟨rfl, rfl⟩))
    (fun os started H enc _ => lifted os started H enc)

theorem proved : Rows.FnGapSaid := over
#print axioms proved
end Go.Proofs.Ytedbfmmklmidjaa.fnGap
