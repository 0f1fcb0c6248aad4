/-
  For every input the law 'FnTokenStep' returns true, and each of its arguments reads behind the call as it read before. Conditions: none beyond those of the row.
-/
import Derived.Test.YthjodagbgmpbhaaRows
import Derived.WalkKit
import Derived.ProofKit
import Derived.OpenShut
import Derived.ShutString
import Derived.ChangeOld
import Derived.Below
import Derived.Deep.Matrix
import Derived.Test.YthjodagbgmpbhaaIo
import Derived.Test.YthjodagbgmpbhaaTokC
import Derived.Test.YthjodagbgmpbhaaDrawTk
import Derived.Test.YthjodagbgmpbhaaTokQ
import Derived.Lib.QuietBelow
import Derived.BigQuiet
import Derived.Deep.DeepCutAuto
import Derived.Deep.RegionWith
namespace Go.Proofs.Ythjodagbgmpbhaa
open Go.RowKit

open Go.Sort

theorem eqTok (x : Tk) (w : World) : (binOp .eql 24 (.agg #[.int .i64 x.1, .int .i64 x.2.1, .int .i64 x.2.2]) (.agg #[.int .i64 x.1, .int .i64 x.2.1, .int .i64 x.2.2])).run Try.prog w = .ok (.bool true) w := by
  simp [go_sem, Try.underlying24, Try.underlying3]
theorem neTok (x : Tk) (w : World) : (binOp .neq 24 (.agg #[.int .i64 x.1, .int .i64 x.2.1, .int .i64 x.2.2]) (.agg #[.int .i64 x.1, .int .i64 x.2.1, .int .i64 x.2.2])).run Try.prog w = .ok (.bool false) w := by
  simp [go_sem, Try.underlying24, Try.underlying3]
/-- All tokens of a state. -/
def tkSum (t : Tk) : Int := t.1 + t.2.1 + (if 0 < t.2.2 then 1 else 0)
set_option maxHeartbeats 1000000 in
theorem tokensOf (b : Tk) (hb : tkOk b = true) (w : World) :
    Calls Try.prog 10 #[.agg #[.int .i64 b.1, .int .i64 b.2.1, .int .i64 b.2.2]] w fun e w' => e = .returned (.int .i64 (tkSum b)) ∧ Below w.heap.size w w' := by
  obtain ⟨a, c, o⟩ := b
  have q := tkOk_of hb
  simp only at q
  obtain ⟨⟨q1, q2⟩, ⟨q3, q4⟩, q5, -⟩ := q
  by_cases h : 0 < o
  · have E := Lib.hid (show tkSum (a, c, o) = a + c + 1 by unfold tkSum; rw [if_pos h])
    go_enter Try.func10, Try.ntmps10
    go_wp2_with fail
    go_ret
    exact ⟨ret_int E.out.symm, below_alloc _ _⟩
  · have E := Lib.hid (show tkSum (a, c, o) = a + c by unfold tkSum; rw [if_neg h]; exact Int.add_zero _)
    go_enter Try.func10, Try.ntmps10
    go_wp2_with fail
    go_ret
    exact ⟨ret_int E.out.symm, below_alloc _ _⟩
theorem one_byte {S : ByteArray} (h : S.size = 1) {x : UInt8} (e : bt S 0 = (x.toNat : Int)) : S = ⟨#[x]⟩ := by
  obtain ⟨b, hb, eb⟩ := bt_at (S := S) (k := 0) (by omega)
  have hx : b = x := UInt8.toNat_inj.1 (by omega)
  subst hx
  apply ByteArray.ext
  apply Array.toList_inj.1
  have hl : S.data.toList.length = 1 := by rw [← size_list]; exact h
  match hm : S.data.toList, hl with
  | [c], _ =>
    rw [hm] at hb
    simp only [List.getElem?_cons_zero, Option.some.injEq] at hb
    rw [hb]

set_option maxRecDepth 100000 in
set_option maxHeartbeats 8000000 in
theorem walk_FnTokenStep (a0 : Option Addr) (len0 cap0 : Nat) (z0 : List Int) (w : World) (w0 : IsRowK .u8 w a0 len0 cap0 z0) :
    Calls Try.prog 3 #[.slice a0 len0 cap0] w fun e w' => e = .returned (.bool true) ∧ Below w.heap.size w w' := by
  rcases Nat.lt_or_ge 1048576 len0 with hbig | hsm
  · have hb : (1048576 : Int) < (len0 : Int) := by omega
    go_enter Try.func3, Try.ntmps3
    go_wp2_with fail
    go_ret
    exact ⟨rfl, Below.refl _ _⟩
  have hb : (len0 : Int) ≤ 1048576 := by omega
  have DN := Lib.hid (drawTokenStep w0 hsm)
  clear w0
  go_enter Try.func3, Try.ntmps3
  go_wp2_with (go_at_call 6; refine DN.out.mono ?_)
  rintro e w1 ⟨b, S, rfl, hF, hS, b1⟩
  have e1 := below_alloc w1 (.cells #[.int .i64 b.1, .int .i64 b.2.1, .int .i64 b.2.2] 24)
  have t1 := Tri3.new w1 (.int .i64 b.1) (.int .i64 b.2.1) (.int .i64 b.2.2) 24
  obtain ⟨W, hW⟩ : ∃ W, W = w1.alloc (.cells #[.int .i64 b.1, .int .i64 b.2.1, .int .i64 b.2.2] 24) := ⟨_, rfl⟩
  rw [← hW] at e1 t1
  have HW := Lib.hid hW.symm
  have C1 := Lib.hid (chain b1 e1)
  clear hW b1 e1 DN
  go_upto_region 4 with fail
  rw [HW.out]
  have l0 := t1.cell0
  have l1 := t1.cell1
  have l2 := t1.cell2
  have IR := implTokenStepE b S hF
  have SR := specTokenStepE b S
  obtain ⟨o, ho⟩ : ∃ o, o = tkOne b S := ⟨_, rfl⟩
  obtain ⟨y, hy⟩ : ∃ y, y = (tkOne b S).getD nt := ⟨_, rfl⟩
  rw [← hy, ← ho] at IR SR
  obtain ⟨t, ht⟩ : ∃ t, t = o.isSome := ⟨_, rfl⟩
  rw [← ht] at IR SR
  have IR := Lib.hid IR
  have SR := Lib.hid SR
  have HO := Lib.hid (And.intro ho (And.intro hy ht))
  clear ho hy ht
  go_wp2_with (go_at_call 7; refine (IR.out _).mono ?_)
  rintro e w2 ⟨rfl, b2⟩
  have q2 := below_alloc w2 (.cells #[.int .i64 y.1, .int .i64 y.2.1, .int .i64 y.2.2] 24)
  have u2 := Tri3.new w2 (.int .i64 y.1) (.int .i64 y.2.1) (.int .i64 y.2.2) 24
  have t2 := (t1.below b2).below q2
  obtain ⟨W2, hW2⟩ : ∃ X, X = w2.alloc (.cells #[.int .i64 y.1, .int .i64 y.2.1, .int .i64 y.2.2] 24) := ⟨_, rfl⟩
  rw [← hW2] at q2 u2 t2
  have HW2 := Lib.hid hW2.symm
  have C2 := Lib.hid (chain C1.out (chain b2 q2))
  clear hW2 q2 b2 l0 l1 l2 t1
  go_upto_region 5 with fail
  rw [HW2.out]
  have l0 := t2.cell0
  have l1 := t2.cell1
  have l2 := t2.cell2
  go_wp2_with (go_at_call 8; refine (SR.out _).mono ?_)
  rintro e w3 ⟨rfl, b3⟩
  have q3 := below_alloc w3 (.cells #[.int .i64 y.1, .int .i64 y.2.1, .int .i64 y.2.2] 24)
  have v3 := Tri3.new w3 (.int .i64 y.1) (.int .i64 y.2.1) (.int .i64 y.2.2) 24
  have t3 := (t2.below b3).below q3
  have u3 := (u2.below b3).below q3
  obtain ⟨W3, hW3⟩ : ∃ X, X = w3.alloc (.cells #[.int .i64 y.1, .int .i64 y.2.1, .int .i64 y.2.2] 24) := ⟨_, rfl⟩
  rw [← hW3] at q3 v3 u3 t3
  have HW3 := Lib.hid hW3.symm
  have C3 := Lib.hid (chain C2.out (chain b3 q3))
  clear hW3 q3 b3 l0 l1 l2 t2 u2
  go_upto_region 6 with fail
  rw [HW3.out]
  have m0 := u3.cell0
  have m1 := u3.cell1
  have m2 := u3.cell2
  have n0 := v3.cell0
  have n1 := v3.cell1
  have n2 := v3.cell2
  have ne := neTok y
  have eq := eqTok y
  cases t
  · go_wp2_with fail
    go_ret
    exact ⟨rfl, C3.out⟩
  have hone : tkOne b S = some y := by
    obtain ⟨h1, h2, h3⟩ := HO.out
    rw [h1] at h3
    obtain ⟨z, hz⟩ := Option.isSome_iff_exists.1 h3.symm
    rw [hz, Option.getD_some] at h2
    rw [hz, h2]
  have hs1 : S.size = 1 := by
    by_cases e : S.size = 1
    · exact e
    · rw [tkOne_no e] at hone; cases hone
  have hbo : tkOk b = true := by
    cases e : tkOk b
    · rw [tkOne_not e] at hone; cases hone
    · rfl
  rw [tkOne_is hbo hs1] at hone
  have hyo := tkStep_ok hbo hone
  have TV := Lib.hid (implTokenValid y (tkFits_ok hyo))
  unfold tkV at TV
  rw [hyo] at TV
  have TB := Lib.hid (tokensOf b hbo)
  have TY := Lib.hid (tokensOf y hyo)
  have BK := Lib.hid (implTokenStepE y ⟨#[113]⟩ (tkFits_ok hyo))
  rw [tkOne_is hyo rfl] at BK
  have hq113 : bt ⟨#[113]⟩ 0 = 113 := rfl
  rw [hq113] at BK
  have key : tkSum y = tkSum b ∧ ((b.2.2 = 0 ∧ 0 < y.2.2 ∧ tkStep y 113 = some b) ∨ (0 < b.2.2 ∧ y.2.2 = 0 ∧ (S = ⟨#[112]⟩ ∨ S = ⟨#[113]⟩))) := by
    have q := tkOk_of hbo
    obtain ⟨a, c, o⟩ := b
    rcases tkStep_cases hone with ⟨e1, e2, e3, rfl⟩ | ⟨e1, e2, e3, rfl⟩ | ⟨e1, rfl⟩ | ⟨e1, rfl⟩
    · simp only at e2 e3
      subst e2
      exact ⟨by simp [tkSum]; omega, .inl ⟨rfl, by simp, by simp [tkStep]⟩⟩
    · simp only at e2 e3
      subst e2
      exact ⟨by simp [tkSum]; omega, .inl ⟨rfl, by simp, by simp [tkStep]⟩⟩
    · simp only at e1 q
      have ho : 0 < o := by omega
      refine ⟨by simp [tkSum, ho]; omega, .inr ⟨ho, rfl, ?_⟩⟩
      rcases e1 with ⟨e1, -⟩ | ⟨e1, -⟩
      · exact .inl (one_byte hs1 (x := 112) e1)
      · exact .inr (one_byte hs1 (x := 113) e1)
    · simp only at e1 q
      have ho : 0 < o := by omega
      refine ⟨by simp [tkSum, ho]; omega, .inr ⟨ho, rfl, ?_⟩⟩
      rcases e1 with ⟨e1, -⟩ | ⟨e1, -⟩
      · exact .inl (one_byte hs1 (x := 112) e1)
      · exact .inr (one_byte hs1 (x := 113) e1)
  obtain ⟨k1, k2⟩ := key
  obtain ⟨n, hn⟩ : ∃ n, n = tkSum b := ⟨_, rfl⟩
  rw [k1, ← hn] at TY
  rw [← hn] at TB
  have T3 := Lib.hid t3
  have U3 := Lib.hid u3
  have K2 := Lib.hid k2
  clear k1 k2 hn hone hyo hbo t3 u3 v3 HO
  go_upto_region 8 with fail
  clear m0 m1 m2 n0 n1 n2
  have k0 := fun d os => cell_regrown T3.out.cell0 d os
  have k1 := fun d os => cell_regrown T3.out.cell1 d os
  have k2 := fun d os => cell_regrown T3.out.cell2 d os
  have k3 := fun d os => cell_regrown U3.out.cell0 d os
  have k4 := fun d os => cell_regrown U3.out.cell1 d os
  have k5 := fun d os => cell_regrown U3.out.cell2 d os
  have VV := Lib.hid (fun dd os => Calls.regrown_of (TV.out (grow (redrawn W3 dd) os)))
  have BB := Lib.hid (fun dd os => Calls.regrown_of (TB.out (grow (redrawn W3 dd) os)))
  have YY := Lib.hid (fun dd os => Calls.regrown_of (TY.out (grow (redrawn W3 dd) os)))
  have dob : decide (0 < b.2.2) = !decide (0 < y.2.2) := by
    rcases K2.out with ⟨h1, h2, -⟩ | ⟨h1, h2, -⟩
    · rw [h1, decide_eq_true h2]; rfl
    · rw [h2, decide_eq_true h1]; rfl
  obtain ⟨p, hp⟩ : ∃ p, p = decide (0 < y.2.2) := ⟨_, rfl⟩
  rw [← hp] at dob
  have hp' := hp.symm
  clear hp
  refine wp_region_quiet_below (by kernel_rfl) (by kernel_rfl) ?_
  repeat (go_big_quiet_step (first | with_reducible exact VV.out _ _ | with_reducible exact YY.out _ _ | with_reducible exact BB.out _ _))
  refine wpQuiet_nil ?_
  intro _ hw'
  obtain ⟨⟨dq, osq⟩, hw''⟩ := hw'
  subst hw''
  have C4 := Lib.hid (chain C3.out (below_regrown W3 dq osq))
  have T4 := Lib.hid (T3.out.below (below_regrown W3 dq osq))
  have U4 := Lib.hid (U3.out.below (below_regrown W3 dq osq))
  obtain ⟨W4, hW4⟩ : ∃ X, X = grow (redrawn W3 dq) osq := ⟨_, rfl⟩
  rw [← hW4] at C4 T4 U4 ⊢
  clear hW4 k0 k1 k2 k3 k4 k5 dob hp'
  have l0 := T4.out.cell0
  have l1 := T4.out.cell1
  have l2 := T4.out.cell2
  rcases K2.out with ⟨h1, -, h3⟩ | ⟨h1, -, h3⟩
  · rw [h3] at BK
    simp only [Option.getD_some, Option.isSome_some] at BK
    have BK := Lib.hid BK.out
    have hn0 : ¬ 0 < b.2.2 := by omega
    have j0 := U4.out.cell0
    have j1 := U4.out.cell1
    have j2 := U4.out.cell2
    clear h1 h3
    go_wp2_with (go_at_call 7; refine (BK.out _).mono ?_)
    rintro e w5 rfl b5
    have q5 := below_alloc w5 (.cells #[.int .i64 b.1, .int .i64 b.2.1, .int .i64 b.2.2] 24)
    have v5 := Tri3.new w5 (.int .i64 b.1) (.int .i64 b.2.1) (.int .i64 b.2.2) 24
    have t5 := (T4.out.below b5).below q5
    obtain ⟨W5, hW5⟩ : ∃ X, X = w5.alloc (.cells #[.int .i64 b.1, .int .i64 b.2.1, .int .i64 b.2.2] 24) := ⟨_, rfl⟩
    rw [← hW5] at q5 v5 t5
    have HW5 := Lib.hid hW5.symm
    have C5 := Lib.hid (chain C4.out (chain b5 q5))
    clear hW5 q5 b5 l0 l1 l2 j0 j1 j2
    go_upto_region 13 with fail
    rw [HW5.out]
    have l0 := t5.cell0
    have l1 := t5.cell1
    have l2 := t5.cell2
    have j0 := v5.cell0
    have j1 := v5.cell1
    have j2 := v5.cell2
    have eb := eqTok b
    go_wp2_with fail
    go_ret
    exact ⟨rfl, C5.out⟩
  · rcases h3 with rfl | rfl
    · go_wp2_with fail
      go_ret
      exact ⟨rfl, C4.out⟩
    · go_wp2_with fail
      go_ret
      exact ⟨rfl, C4.out⟩

end Go.Proofs.Ythjodagbgmpbhaa

namespace Go.Proofs.Ythjodagbgmpbhaa.fnTokenStep
open Go.ChangeShapes Go.WideShapes Go.ChangeAt Go.RowKit
open Go.ChangeMaps (open_string shut_string)
set_option linter.unusedVariables false

theorem own : ownKnob Try.prog.godebug = none := by kernel_rfl
theorem laidOut : laidOutB Try.prog = true := by kernel_rfl

set_option maxRecDepth 100000 in
theorem lifted (os : Os) (started : os.Started) (H : Type) (enc : TypeId × Value → H) :
    ReturnsInHanded {} Try.checked os 3 .any (Rows.fnTokenStepSpec.pre6 enc Try.prog Try.f3 Rows.fnTokenStepRow.domain false) (Rows.fnTokenStepSpec.post enc Try.prog Try.f3 false true false false) := by
  refine returnsInHanded_of_change (C := Try.checked) own started (by kernel_rfl) Try.func3
    (ChangeSpec.witness6 (enc := enc) (C := Try.checked) false ⟨#[], #[.slice none 0 0], []⟩ 8 (by kernel_rfl) (by kernel_rfl) (by kernel_rfl) (by kernel_rfl)) ?_
  intro W base args ds gs before hval0 hW hcnd _
  have hval : ∀ (j : Nat) t v, Try.f3.params[j]? = some t → args[j]? = some v → Value.okWide Try.prog W .any base t v := hval0
  have hW' := hW
  obtain ⟨p, q, hA0, hV, rfl, hfz, hnd⟩ := hW
  have hA : DataW.TrodAll enc Try.prog W 0 (fun _ => true) true Try.f3.params.toList args.toList ds p := hA0
  rw [Try.params3] at hA hval
  obtain ⟨v0, vs0, d0, ds0, p0, q0, hargs, rfl, rfl, h0, r0⟩ := trodAll_cons hA
  obtain ⟨rfl, rfl, rfl⟩ := trodAll_nil r0
  obtain rfl : args = #[v0] := by cases args; simp_all
  obtain ⟨rfl, rfl⟩ := trodVars_none hV
  obtain ⟨a0, len0, cap0, rfl⟩ := okWide_slice Try.underlying22 (hval 0 22 v0 rfl rfl)
  have k0 := h0
  have lt0 : ∀ x ∈ p0, x.block < W.heap.size := by obtain ⟨m, hm⟩ := k0; exact DataW.trod_lt m _ _ _ hm
  obtain ⟨z0, w0⟩ : ∃ zs, IsRowK .u8 W a0 len0 cap0 zs := by
    obtain ⟨fuel, hf⟩ := h0
    rcases open_ints Try.underlying22 Try.underlying5 (by kernel_rfl) hf with ⟨hcs, _⟩ | ⟨x, l, c, zs, hcs, _, hl, hm, hz, _, hcell, hwz⟩
    · simp [Value.cells] at hcs
      obtain ⟨rfl, rfl, rfl⟩ := hcs
      exact ⟨[], .inl ⟨rfl, rfl, rfl, rfl⟩⟩
    · simp [Value.cells] at hcs
      obtain ⟨rfl, rfl, rfl⟩ := hcs
      exact ⟨zs, .inr ⟨_, rfl, hl, hm, by simpa using hz, hcell, hwz⟩⟩
  clear hA0 hval0
  refine (walk_FnTokenStep a0 len0 cap0 z0 W w0).mono fun e W' ⟨he, bel⟩ => ?_
  subst he
  exact ⟨_, rfl, _, _, _, [], _, [], hW', trodAll_mk1 (shut_bool Try.underlying4 _), (trodAll_cons_mk (Below.trod laidOut (by kernel_rfl) (of_decide_eq_true (by kernel_rfl)) k0 bel lt0) trodAll_mk0), rfl, bel.frame _, fun h => by cases h⟩

theorem closed : joinedFacts Try.checked.prog 3 Try.f3 Rows.fnTokenStepSpec Rows.fnTokenStepRow = true := by
  unfold joinedFacts
  simp only [Bool.and_eq_true]
  repeat' (refine And.intro ?_ ?_)
  all_goals first
    | with_reducible exact may_enter
    | (rw [lifts_final]; kernel_rfl)
    | (rw [make_is]; kernel_rfl)
    | kernel_rfl

theorem over : Rows.fnTokenStepRow.holds Try.pinned (OpenSpec.ofChange Rows.fnTokenStepSpec) :=
  OpenClaim.holds_of_wide 3 Try.f3 rfl rfl rfl rfl rfl rfl rfl ⟨rfl, rfl, rfl, rfl, rfl⟩ rfl rfl rfl rfl rfl (by kernel_rfl) Try.func3 closed
    (of_decide_eq_true (by kernel_rfl)) (by unfold Func.isWrapper; first | (rw [if_pos (by decide +kernel)]; kernel_rfl) | (rw [if_neg (by decide +kernel)]; exact ⟨rfl, rfl⟩))
    (fun os started H enc _ => lifted os started H enc)

theorem proved : Rows.FnTokenStepSaid := over
#print axioms proved
end Go.Proofs.Ythjodagbgmpbhaa.fnTokenStep
