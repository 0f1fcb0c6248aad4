/-
  For every input the law 'FnTokenRun' returns true, and each of its arguments reads behind the call as it read before. Conditions: none beyond those of the row.
-/
import Derived.Test.YthjodagbgmpbhaaRows
import Derived.WalkKit
import Derived.ProofKit
import Derived.OpenShut
import Derived.ShutString
import Derived.ChangeOld
import Derived.Below
import Derived.Deep.Matrix
import Derived.Test.YthjodagbgmpbhaaIo
import Derived.Test.YthjodagbgmpbhaaDrawTr
import Derived.Test.YthjodagbgmpbhaaTokE
import Derived.Test.YthjodagbgmpbhaaStrP
import Derived.Lib.QuietBelow
import Derived.BigQuiet
import Derived.Deep.DeepCutAuto
import Derived.Deep.RegionWith
namespace Go.Proofs.Ythjodagbgmpbhaa
open Go.RowKit

open Go.Sort

set_option maxRecDepth 100000 in
set_option maxHeartbeats 8000000 in
theorem walk_FnTokenRun (a0 : Option Addr) (len0 cap0 : Nat) (z0 : List Int) (a1 : Option Addr) (len1 cap1 : Nat) (z1 : List Int) (w : World) (w0 : IsRowK .u8 w a0 len0 cap0 z0) (w1 : IsRowK .u8 w a1 len1 cap1 z1) :
    Calls Try.prog 4 #[.slice a0 len0 cap0, .slice a1 len1 cap1] w fun e w' => e = .returned (.bool true) ∧ Below w.heap.size w w' := by
  have _ := w1
  rcases Nat.lt_or_ge 1048576 len0 with hbig | hsm
  · have hb : (1048576 : Int) < (len0 : Int) := by omega
    go_enter Try.func4, Try.ntmps4
    go_wp2_with fail
    go_ret
    exact ⟨rfl, Below.refl _ _⟩
  have hb : (len0 : Int) ≤ 1048576 := by omega
  rcases Nat.lt_or_ge 1048576 len1 with hbig1 | hsm1
  · have hb1 : (1048576 : Int) < (len1 : Int) := by omega
    go_enter Try.func4, Try.ntmps4
    go_wp2_with fail
    go_ret
    exact ⟨rfl, Below.refl _ _⟩
  have hb1 : (len1 : Int) ≤ 1048576 := by omega
  have DN := Lib.hid (drawTokenRun w0 hsm)
  clear w0
  go_enter Try.func4, Try.ntmps4
  go_wp2_with (go_at_call 11; refine DN.out.mono ?_)
  rintro e w1 ⟨b, S, rfl, hF, hS, b1⟩
  have e1 := below_alloc w1 (.cells #[.int .i64 b.1, .int .i64 b.2.1, .int .i64 b.2.2] 24)
  have t1 := Tri3.new w1 (.int .i64 b.1) (.int .i64 b.2.1) (.int .i64 b.2.2) 24
  obtain ⟨W, hW⟩ : ∃ W, W = w1.alloc (.cells #[.int .i64 b.1, .int .i64 b.2.1, .int .i64 b.2.2] 24) := ⟨_, rfl⟩
  rw [← hW] at e1 t1
  have HW := Lib.hid hW.symm
  have C1 := Lib.hid (chain b1 e1)
  clear hW b1 e1 DN
  go_upto_region 4 with fail
  rw [HW.out]
  have l0 := t1.cell0
  have l1 := t1.cell1
  have l2 := t1.cell2
  have IR := implTokenRunE b S hF (by omega)
  have SR := specTokenRunE b S (by omega)
  obtain ⟨o, ho⟩ : ∃ o, o = tkRun b S := ⟨_, rfl⟩
  obtain ⟨y, hy⟩ : ∃ y, y = (tkRun b S).getD nt := ⟨_, rfl⟩
  rw [← hy, ← ho] at IR SR
  obtain ⟨t, ht⟩ : ∃ t, t = o.isSome := ⟨_, rfl⟩
  rw [← ht] at IR SR
  have IR := Lib.hid IR
  have SR := Lib.hid SR
  have HO := Lib.hid (And.intro ho (And.intro hy ht))
  clear ho hy ht
  go_wp2_with (go_at_call 12; refine (IR.out _).mono ?_)
  rintro e w2 ⟨rfl, b2⟩
  have q2 := below_alloc w2 (.cells #[.int .i64 y.1, .int .i64 y.2.1, .int .i64 y.2.2] 24)
  have u2 := Tri3.new w2 (.int .i64 y.1) (.int .i64 y.2.1) (.int .i64 y.2.2) 24
  have t2 := (t1.below b2).below q2
  obtain ⟨W2, hW2⟩ : ∃ X, X = w2.alloc (.cells #[.int .i64 y.1, .int .i64 y.2.1, .int .i64 y.2.2] 24) := ⟨_, rfl⟩
  rw [← hW2] at q2 u2 t2
  have HW2 := Lib.hid hW2.symm
  have C2 := Lib.hid (chain C1.out (chain b2 q2))
  clear hW2 q2 b2 l0 l1 l2 t1
  go_upto_region 5 with fail
  rw [HW2.out]
  have l0 := t2.cell0
  have l1 := t2.cell1
  have l2 := t2.cell2
  go_wp2_with (go_at_call 13; refine (SR.out _).mono ?_)
  rintro e w3 ⟨rfl, b3⟩
  have q3 := below_alloc w3 (.cells #[.int .i64 y.1, .int .i64 y.2.1, .int .i64 y.2.2] 24)
  have v3 := Tri3.new w3 (.int .i64 y.1) (.int .i64 y.2.1) (.int .i64 y.2.2) 24
  have t3 := (t2.below b3).below q3
  have u3 := (u2.below b3).below q3
  obtain ⟨W3, hW3⟩ : ∃ X, X = w3.alloc (.cells #[.int .i64 y.1, .int .i64 y.2.1, .int .i64 y.2.2] 24) := ⟨_, rfl⟩
  rw [← hW3] at q3 v3 u3 t3
  have HW3 := Lib.hid hW3.symm
  have C3 := Lib.hid (chain C2.out (chain b3 q3))
  clear hW3 q3 b3 l0 l1 l2 t2 u2
  go_upto_region 6 with fail
  rw [HW3.out]
  have m0 := u3.cell0
  have m1 := u3.cell1
  have m2 := u3.cell2
  have n0 := v3.cell0
  have n1 := v3.cell1
  have n2 := v3.cell2
  have ne := neTok3 y.1 y.2.1 y.2.2
  have eq := eqTok3 y.1 y.2.1 y.2.2
  cases t
  · go_wp2_with fail
    go_ret
    exact ⟨rfl, C3.out⟩
  have hrun : tkRun b S = some y := by
    obtain ⟨h1, h2, h3⟩ := HO.out
    rw [h1] at h3
    obtain ⟨z, hz⟩ := Option.isSome_iff_exists.1 h3.symm
    rw [hz, Option.getD_some] at h2
    rw [hz, h2]
  obtain ⟨m, hm⟩ : ∃ m : Nat, m = len1 % (S.size + 1) := ⟨_, rfl⟩
  have hmS : m ≤ S.size := by have := Nat.mod_lt len1 (show 0 < S.size + 1 by omega); omega
  have hw1 : IntKind.i64.wrap ((S.size : Int) + 1) = (S.size : Int) + 1 := IntWalk.i64_in _ (by omega)
  have hw1' : wrap64 ((S.size : Int) + 1) = (S.size : Int) + 1 := (IntWalk.i64_left _).symm.trans hw1
  have hrem : ((len1 : Int).tmod ((S.size : Int) + 1)) = (m : Int) := by rw [hm]; rfl
  obtain ⟨hbo, -, -⟩ := tkRun_facts hrun
  obtain ⟨x, hxo, r1, r2⟩ := tk_parts hrun hmS
  obtain ⟨sum1, sum2⟩ := tk_run_sums hrun
  have hyo := tkTo_ok hbo (tkRun_facts hrun).2.2
  have IA := implTokenRunE b (S.extract 0 m) hF (by rw [ByteArray.size_extract]; omega)
  rw [r1] at IA
  have IB := implTokenRunE x (S.extract m S.size) (tkFits_ok hxo) (by rw [ByteArray.size_extract]; omega)
  rw [r2] at IB
  simp only [Option.getD_some, Option.isSome_some] at IA IB
  have TB := tokensOf b hbo
  have TY := tokensOf y hyo
  rw [sum1] at TY
  obtain ⟨n, hn⟩ : ∃ n, n = tkSum b := ⟨_, rfl⟩
  rw [← hn] at TB TY
  have C97 := countOf S (by omega) 97
  have C98 := countOf S (by omega) 98
  have C112 := countOf S (by omega) 112
  have C113 := countOf S (by omega) 113
  have q97 := cntTo_range S 97 S.size
  have q98 := cntTo_range S 98 S.size
  have q112 := cntTo_range S 112 S.size
  have q113 := cntTo_range S 113 S.size
  obtain ⟨y1, hn1⟩ : ∃ c, c = cntTo S 97 S.size := ⟨_, rfl⟩
  obtain ⟨y2, hn2⟩ : ∃ c, c = cntTo S 98 S.size := ⟨_, rfl⟩
  obtain ⟨y3, hn3⟩ : ∃ c, c = cntTo S 112 S.size := ⟨_, rfl⟩
  obtain ⟨y4, hn4⟩ : ∃ c, c = cntTo S 113 S.size := ⟨_, rfl⟩
  rw [← hn1, ← hn2, ← hn3, ← hn4] at sum2
  rw [← hn1] at C97 q97
  rw [← hn2] at C98 q98
  rw [← hn3] at C112 q112
  rw [← hn4] at C113 q113
  replace C97 := Lib.hid C97
  replace C98 := Lib.hid C98
  replace C112 := Lib.hid C112
  replace C113 := Lib.hid C113
  have HX := Lib.hid (And.intro sum2 (And.intro q97 (And.intro q98 (And.intro q112 q113))))
  have HO3 := Lib.hid (And.intro (tkOk_three hbo) (tkOk_three hyo))
  replace TB := Lib.hid TB
  replace TY := Lib.hid TY
  replace IA := Lib.hid IA
  replace IB := Lib.hid IB
  have hsl1 := part_to (S := S) (k := m) hmS
  have hsl2 := part_from (S := S) (k := m) hmS
  have T3 := Lib.hid t3
  have U3 := Lib.hid u3
  clear r1 r2 hbo hyo hxo sum1 sum2 q97 q98 q112 q113 hn1 hn2 hn3 hn4 hn hrun hm t3 u3 v3
  go_upto_region 9 with fail
  clear m0 m1 m2 n0 n1 n2 ne
  have d0 : Below W3.heap.size W3 W3.drew := (Below.refl _ _).drew
  have l0 := T3.out.cell0
  have l1 := T3.out.cell1
  have l2 := T3.out.cell2
  go_cut [12, 13] (fun p t wx => ∃ g, p = .pointer (some ⟨g, 0, none⟩) ∧ t = .bool true ∧ Tri3 wx g (.int .i64 x.1) (.int .i64 x.2.1) (.int .i64 x.2.2) 24 ∧ Below W3.heap.size W3 wx)
  case first =>
    have l9 : w1.heap.size < W3.heap.size := T3.out.lt
    go_region_with (go_at_call 12; refine (IA.out _).mono ?_; rintro e wA ⟨rfl, bA⟩; first | (have z : Tri3 wA W3.heap.size (.int .i64 0) (.int .i64 0) (.int .i64 0) 24 := (Tri3.new W3.drew (.int .i64 0) (.int .i64 0) (.int .i64 0) 24).below bA; have z0 := z.cell0; have z1 := z.cell1; have z2 := z.cell2; have g0 := z.frozen 0; have g1 := z.frozen 1; have g2 := z.frozen 2) | (have z := d0.trans bA))
    all_goals (go_wp2_with fail; go_meet; first
      | with_reducible exact step_endA z _ _ _ _
      | with_reducible exact step_endB bA z _ _ _ _)
  case rest =>
  obtain ⟨g, rfl, rfl, tg6, bx⟩ := hcut
  have T4 := Lib.hid (T3.out.below bx)
  have U4 := Lib.hid (U3.out.below bx)
  have C4 := Lib.hid (chain C3.out bx)
  clear bx l0 l1 l2 d0
  have d0 : Below wc.heap.size wc wc.drew := (Below.refl _ _).drew
  have l0 := tg6.cell0
  have l1 := tg6.cell1
  have l2 := tg6.cell2
  have l9 : g < wc.heap.size := tg6.lt
  go_upto_region 10 with fail
  go_cut [14, 15] (fun p t wx => ∃ g, p = .pointer (some ⟨g, 0, none⟩) ∧ t = .bool true ∧ Tri3 wx g (.int .i64 y.1) (.int .i64 y.2.1) (.int .i64 y.2.2) 24 ∧ Below wc.heap.size wc wx)
  case first =>
    go_region_with (go_at_call 12; refine (IB.out _).mono ?_; rintro e wA ⟨rfl, bA⟩; first | (have z : Tri3 wA wc.heap.size (.int .i64 0) (.int .i64 0) (.int .i64 0) 24 := (Tri3.new wc.drew (.int .i64 0) (.int .i64 0) (.int .i64 0) 24).below bA; have z0 := z.cell0; have z1 := z.cell1; have z2 := z.cell2; have g0 := z.frozen 0; have g1 := z.frozen 1; have g2 := z.frozen 2) | (have z := d0.trans bA))
    all_goals (go_wp2_with fail; go_meet; first
      | with_reducible exact step_endA z _ _ _ _
      | with_reducible exact step_endB bA z _ _ _ _)
  case rest =>
  obtain ⟨g5, rfl, rfl, tg7, bx⟩ := hcut
  have T5 := Lib.hid (T4.out.below bx)
  have U5 := Lib.hid (U4.out.below bx)
  have C5 := Lib.hid (chain C4.out bx)
  clear bx l0 l1 l2 l9 d0 hsl1 hsl2
  clear HO U3 U4 T3 T4 IA IB IR SR hw1 hw1' hrem
  go_upto_region 13 with (first
    | (go_at_call_of 14 (Value.int .u8 97); refine (C97.out _).mono ?_; rintro e w' ⟨rfl, rfl⟩)
    | (go_at_call_of 14 (Value.int .u8 98); refine (C98.out _).mono ?_; rintro e w' ⟨rfl, rfl⟩)
    | (go_at_call_of 14 (Value.int .u8 112); refine (C112.out _).mono ?_; rintro e w' ⟨rfl, rfl⟩)
    | (go_at_call_of 14 (Value.int .u8 113); refine (C113.out _).mono ?_; rintro e w' ⟨rfl, rfl⟩))
  obtain ⟨sum2, q97, q98, q112, q113⟩ := HX.out
  obtain ⟨ob, oy⟩ := HO3.out
  have wa : wrap64 (y1 + y2) = y1 + y2 := by unfold wrap64; omega
  have wb : wrap64 (y3 + y4) = y3 + y4 := by unfold wrap64; omega
  rw [wa, wb]
  obtain ⟨u, hu⟩ : ∃ u, u = y1 + y2 := ⟨_, rfl⟩
  obtain ⟨v, hv⟩ : ∃ v, v = y3 + y4 := ⟨_, rfl⟩
  rw [← hu, ← hv] at sum2 ⊢
  have u0 : 0 ≤ u := by omega
  have u1 : u ≤ 66 := by omega
  have v0 : 0 ≤ v := by omega
  have v1 : v ≤ 66 := by omega
  have T6 := T5.out
  have U6 := U5.out
  obtain ⟨o1, ho1⟩ : ∃ o, o = y.2.2 := ⟨_, rfl⟩
  obtain ⟨o2, ho2⟩ : ∃ o, o = b.2.2 := ⟨_, rfl⟩
  rw [← ho1] at U6 tg7 TY eq sum2 oy
  rw [← ho2] at T6 TB sum2 ob
  have T6 := Lib.hid T6
  have U6 := Lib.hid U6
  have V6 := Lib.hid tg7
  clear wa wb q97 q98 q112 q113 hu hv C97 C98 C112 C113 HX HO3 T5 U5 tg7 ho1 ho2
  have k0 := fun d os => cell_regrown T6.out.cell0 d os
  have k1 := fun d os => cell_regrown T6.out.cell1 d os
  have k2 := fun d os => cell_regrown T6.out.cell2 d os
  have k3 := fun d os => cell_regrown U6.out.cell0 d os
  have k4 := fun d os => cell_regrown U6.out.cell1 d os
  have k5 := fun d os => cell_regrown U6.out.cell2 d os
  have k6 := fun d os => cell_regrown V6.out.cell0 d os
  have k7 := fun d os => cell_regrown V6.out.cell1 d os
  have k8 := fun d os => cell_regrown V6.out.cell2 d os
  have BB := Lib.hid (fun dd os => Calls.regrown_of (TB.out (grow (redrawn wc dd) os)))
  have YY := Lib.hid (fun dd os => Calls.regrown_of (TY.out (grow (redrawn wc dd) os)))
  refine wp_region_quiet_below (by kernel_rfl) (by kernel_rfl) ?_
  repeat (go_big_quiet_step (first | with_reducible exact YY.out _ _ | with_reducible exact BB.out _ _))
  have fin : (min 1 o1 - min 1 o2 == (if o1 < 1 then o1 else 1) - if o2 < 1 then o2 else 1) = true := by
    rcases ob with rfl | rfl | rfl <;> rcases oy with rfl | rfl | rfl <;> decide
  rw [fin]
  refine wpQuiet_nil ?_
  intro _ hw'
  obtain ⟨⟨dq, osq⟩, hw''⟩ := hw'
  subst hw''
  go_wp2_with fail
  all_goals
    go_ret
    exact ⟨rfl, chain C5.out (below_regrown _ _ _)⟩

end Go.Proofs.Ythjodagbgmpbhaa

namespace Go.Proofs.Ythjodagbgmpbhaa.fnTokenRun
open Go.ChangeShapes Go.WideShapes Go.ChangeAt Go.RowKit
open Go.ChangeMaps (open_string shut_string)
set_option linter.unusedVariables false

theorem own : ownKnob Try.prog.godebug = none := by kernel_rfl
theorem laidOut : laidOutB Try.prog = true := by kernel_rfl

set_option maxRecDepth 100000 in
theorem lifted (os : Os) (started : os.Started) (H : Type) (enc : TypeId × Value → H) :
    ReturnsInHanded {} Try.checked os 4 .any (Rows.fnTokenRunSpec.pre6 enc Try.prog Try.f4 Rows.fnTokenRunRow.domain false) (Rows.fnTokenRunSpec.post enc Try.prog Try.f4 false true false false) := by
  refine returnsInHanded_of_change (C := Try.checked) own started (by kernel_rfl) Try.func4
    (ChangeSpec.witness6 (enc := enc) (C := Try.checked) false ⟨#[], #[.slice none 0 0, .slice none 0 0], []⟩ 8 (by kernel_rfl) (by kernel_rfl) (by kernel_rfl) (by kernel_rfl)) ?_
  intro W base args ds gs before hval0 hW hcnd _
  have hval : ∀ (j : Nat) t v, Try.f4.params[j]? = some t → args[j]? = some v → Value.okWide Try.prog W .any base t v := hval0
  have hW' := hW
  obtain ⟨p, q, hA0, hV, rfl, hfz, hnd⟩ := hW
  have hA : DataW.TrodAll enc Try.prog W 0 (fun _ => true) true Try.f4.params.toList args.toList ds p := hA0
  rw [Try.params4] at hA hval
  obtain ⟨v0, vs0, d0, ds0, p0, q0, hargs, rfl, rfl, h0, r0⟩ := trodAll_cons hA
  obtain ⟨v1, vs1, d1, ds1, p1, q1, rfl, rfl, rfl, h1, r1⟩ := trodAll_cons r0
  obtain ⟨rfl, rfl, rfl⟩ := trodAll_nil r1
  obtain rfl : args = #[v0, v1] := by cases args; simp_all
  obtain ⟨rfl, rfl⟩ := trodVars_none hV
  obtain ⟨a0, len0, cap0, rfl⟩ := okWide_slice Try.underlying22 (hval 0 22 v0 rfl rfl)
  have k0 := h0
  have lt0 : ∀ x ∈ p0, x.block < W.heap.size := by obtain ⟨m, hm⟩ := k0; exact DataW.trod_lt m _ _ _ hm
  obtain ⟨z0, w0⟩ : ∃ zs, IsRowK .u8 W a0 len0 cap0 zs := by
    obtain ⟨fuel, hf⟩ := h0
    rcases open_ints Try.underlying22 Try.underlying5 (by kernel_rfl) hf with ⟨hcs, _⟩ | ⟨x, l, c, zs, hcs, _, hl, hm, hz, _, hcell, hwz⟩
    · simp [Value.cells] at hcs
      obtain ⟨rfl, rfl, rfl⟩ := hcs
      exact ⟨[], .inl ⟨rfl, rfl, rfl, rfl⟩⟩
    · simp [Value.cells] at hcs
      obtain ⟨rfl, rfl, rfl⟩ := hcs
      exact ⟨zs, .inr ⟨_, rfl, hl, hm, by simpa using hz, hcell, hwz⟩⟩
  obtain ⟨a1, len1, cap1, rfl⟩ := okWide_slice Try.underlying22 (hval 1 22 v1 rfl rfl)
  have k1 := h1
  have lt1 : ∀ x ∈ p1, x.block < W.heap.size := by obtain ⟨m, hm⟩ := k1; exact DataW.trod_lt m _ _ _ hm
  obtain ⟨z1, w1⟩ : ∃ zs, IsRowK .u8 W a1 len1 cap1 zs := by
    obtain ⟨fuel, hf⟩ := h1
    rcases open_ints Try.underlying22 Try.underlying5 (by kernel_rfl) hf with ⟨hcs, _⟩ | ⟨x, l, c, zs, hcs, _, hl, hm, hz, _, hcell, hwz⟩
    · simp [Value.cells] at hcs
      obtain ⟨rfl, rfl, rfl⟩ := hcs
      exact ⟨[], .inl ⟨rfl, rfl, rfl, rfl⟩⟩
    · simp [Value.cells] at hcs
      obtain ⟨rfl, rfl, rfl⟩ := hcs
      exact ⟨zs, .inr ⟨_, rfl, hl, hm, by simpa using hz, hcell, hwz⟩⟩
  clear hA0 hval0
  refine (walk_FnTokenRun a0 len0 cap0 z0 a1 len1 cap1 z1 W w0 w1).mono fun e W' ⟨he, bel⟩ => ?_
  subst he
  exact ⟨_, rfl, _, _, _, [], _, [], hW', trodAll_mk1 (shut_bool Try.underlying4 _), (trodAll_cons_mk (Below.trod laidOut (by kernel_rfl) (of_decide_eq_true (by kernel_rfl)) k0 bel lt0) (trodAll_cons_mk (Below.trod laidOut (by kernel_rfl) (of_decide_eq_true (by kernel_rfl)) k1 bel lt1) trodAll_mk0)), rfl, bel.frame _, fun h => by cases h⟩

theorem closed : joinedFacts Try.checked.prog 4 Try.f4 Rows.fnTokenRunSpec Rows.fnTokenRunRow = true := by
  unfold joinedFacts
  simp only [Bool.and_eq_true]
  repeat' (refine And.intro ?_ ?_)
  all_goals first
    | with_reducible exact may_enter
    | (rw [lifts_final]; kernel_rfl)
    | (rw [make_is]; kernel_rfl)
    | kernel_rfl

theorem over : Rows.fnTokenRunRow.holds Try.pinned (OpenSpec.ofChange Rows.fnTokenRunSpec) :=
  OpenClaim.holds_of_wide 4 Try.f4 rfl rfl rfl rfl rfl rfl rfl ⟨rfl, rfl, rfl, rfl, rfl⟩ rfl rfl rfl rfl rfl (by kernel_rfl) Try.func4 closed
    (of_decide_eq_true (by kernel_rfl)) (by unfold Func.isWrapper; first | (rw [if_pos (by decide +kernel)]; kernel_rfl) | (rw [if_neg (by decide +kernel)]; exact ⟨rfl, rfl⟩))
    (fun os started H enc _ => lifted os started H enc)

theorem proved : Rows.FnTokenRunSaid := over
#print axioms proved
end Go.Proofs.Ythjodagbgmpbhaa.fnTokenRun
