/-
  For every input the law 'FnBlockRun' returns true, and each of its arguments reads behind the call as it read before. Conditions: none beyond those of the row.
-/
import Derived.Test.YtedbfmmklmidjabRows
import Derived.WalkKit
import Derived.ProofKit
import Derived.OpenShut
import Derived.ShutString
import Derived.ChangeOld
import Derived.Below
import Derived.Deep.Matrix
import Derived.Test.YtedbfmmklmidjabIo
import Derived.Test.YtedbfmmklmidjabDrawO
import Derived.Test.YtedbfmmklmidjabLegalW
import Derived.Deep.DeepCutAuto
import Derived.Deep.RegionWith
namespace Go.Proofs.Ytedbfmmklmidjab
open Go.RowKit

theorem neBlk (x y : Blk) (w : World) : (binOp .neq 25 (.agg #[.int .i64 x.1, .bool x.2.1, .bool x.2.2]) (.agg #[.int .i64 y.1, .bool y.2.1, .bool y.2.2])).run Try.prog w = .ok (.bool (!decide (x = y))) w := by
  obtain ⟨n, i, o⟩ := x
  obtain ⟨n', i', o'⟩ := y
  by_cases e : n = n'
  · subst e
    cases i <;> cases i' <;> cases o <;> cases o' <;> simp [go_sem, Try.underlying25, Try.underlying3, Try.underlying4]
  · simp [go_sem, Try.underlying25, Try.underlying3, Try.underlying4, e]

set_option maxRecDepth 100000 in
set_option maxHeartbeats 8000000 in
theorem walk_FnBlockRun (a0 : Option Addr) (len0 cap0 : Nat) (z0 : List Int) (a1 : Option Addr) (len1 cap1 : Nat) (z1 : List Int) (w : World) (w0 : IsRowK .u8 w a0 len0 cap0 z0) (w1 : IsRowK .u8 w a1 len1 cap1 z1) :
    Calls Try.prog 7 #[.slice a0 len0 cap0, .slice a1 len1 cap1] w fun e w' => e = .returned (.bool true) ∧ Below w.heap.size w w' := by
  have _ := w1
  rcases Nat.lt_or_ge 1048576 len0 with hbig | hsm
  · have hb : (1048576 : Int) < (len0 : Int) := by omega
    go_enter Try.func7, Try.ntmps7
    go_wp2_with fail
    go_ret
    exact ⟨rfl, Below.refl _ _⟩
  have hb : (len0 : Int) ≤ 1048576 := by omega
  rcases Nat.lt_or_ge 1048576 len1 with hbig1 | hsm1
  · have hb1 : (1048576 : Int) < (len1 : Int) := by omega
    go_enter Try.func7, Try.ntmps7
    go_wp2_with fail
    go_ret
    exact ⟨rfl, Below.refl _ _⟩
  have hb1 : (len1 : Int) ≤ 1048576 := by omega
  have DN := Lib.hid (drawRunB w0 hsm)
  clear w0
  go_enter Try.func7, Try.ntmps7
  go_wp2_with (go_at_call 27; refine DN.out.mono ?_)
  rintro e w1 ⟨b, S, rfl, hS, b1⟩
  unfold bkV
  have e1 := below_alloc w1 (.cells #[.int .i64 b.1, .bool b.2.1, .bool b.2.2] 25)
  have t1 := Tri3.new w1 (.int .i64 b.1) (.bool b.2.1) (.bool b.2.2) 25
  obtain ⟨W, hW⟩ : ∃ W, W = w1.alloc (.cells #[.int .i64 b.1, .bool b.2.1, .bool b.2.2] 25) := ⟨_, rfl⟩
  rw [← hW] at e1 t1
  have HW := Lib.hid hW.symm
  have C1 := Lib.hid (chain b1 e1)
  clear hW b1 e1 DN
  go_upto_region 4 with fail
  rw [HW.out]
  have l0 := t1.cell0
  have l1 := t1.cell1
  have l2 := t1.cell2
  have IR := implRunE b S (by omega)
  have SR := specRunE b S (by omega)
  obtain ⟨o, ho⟩ : ∃ o, o = bkRun b S := ⟨_, rfl⟩
  obtain ⟨y, hy⟩ : ∃ y, y = (bkRun b S).getD nb := ⟨_, rfl⟩
  rw [← hy, ← ho] at IR SR
  obtain ⟨t, ht⟩ : ∃ t, t = o.isSome := ⟨_, rfl⟩
  rw [← ht] at IR SR
  have IR := Lib.hid IR
  have SR := Lib.hid SR
  have HO := Lib.hid (And.intro ho (And.intro hy ht))
  clear ho hy ht
  go_wp2_with (go_at_call 21; refine (IR.out _).mono ?_)
  rintro e w2 ⟨rfl, b2⟩
  have q2 := below_alloc w2 (.cells #[.int .i64 y.1, .bool y.2.1, .bool y.2.2] 25)
  have u2 := Tri3.new w2 (.int .i64 y.1) (.bool y.2.1) (.bool y.2.2) 25
  have t2 := (t1.below b2).below q2
  obtain ⟨W2, hW2⟩ : ∃ X, X = w2.alloc (.cells #[.int .i64 y.1, .bool y.2.1, .bool y.2.2] 25) := ⟨_, rfl⟩
  rw [← hW2] at q2 u2 t2
  have HW2 := Lib.hid hW2.symm
  have C2 := Lib.hid (chain C1.out (chain b2 q2))
  clear hW2 q2 b2 l0 l1 l2 t1
  go_upto_region 5 with fail
  rw [HW2.out]
  have l0 := t2.cell0
  have l1 := t2.cell1
  have l2 := t2.cell2
  go_wp2_with (go_at_call 28; refine (SR.out _).mono ?_)
  rintro e w3 ⟨rfl, b3⟩
  have q3 := below_alloc w3 (.cells #[.int .i64 y.1, .bool y.2.1, .bool y.2.2] 25)
  have v3 := Tri3.new w3 (.int .i64 y.1) (.bool y.2.1) (.bool y.2.2) 25
  have t3 := (t2.below b3).below q3
  have u3 := (u2.below b3).below q3
  obtain ⟨W3, hW3⟩ : ∃ X, X = w3.alloc (.cells #[.int .i64 y.1, .bool y.2.1, .bool y.2.2] 25) := ⟨_, rfl⟩
  rw [← hW3] at q3 v3 u3 t3
  have HW3 := Lib.hid hW3.symm
  have C3 := Lib.hid (chain C2.out (chain b3 q3))
  clear hW3 q3 b3 l0 l1 l2 t2 u2
  go_upto_region 6 with fail
  rw [HW3.out]
  have m0 := u3.cell0
  have m1 := u3.cell1
  have m2 := u3.cell2
  have n0 := v3.cell0
  have n1 := v3.cell1
  have n2 := v3.cell2
  have ne := neBlk y y
  rw [decide_eq_true rfl] at ne
  have eq := eqBlk y y
  rw [decide_eq_true rfl] at eq
  cases t
  · go_wp2_with fail
    go_ret
    exact ⟨rfl, C3.out⟩
  have hrun : bkRun b S = some y := by
    obtain ⟨h1, h2, h3⟩ := HO.out
    rw [h1] at h3
    obtain ⟨z, hz⟩ := Option.isSome_iff_exists.1 h3.symm
    rw [hz, Option.getD_some] at h2
    rw [hz, h2]
  obtain ⟨m, hm⟩ : ∃ m : Nat, m = len1 % (S.size + 1) := ⟨_, rfl⟩
  have hmS : m ≤ S.size := by have := Nat.mod_lt len1 (show 0 < S.size + 1 by omega); omega
  have hw1 : IntKind.i64.wrap ((S.size : Int) + 1) = (S.size : Int) + 1 := IntWalk.i64_in _ (by omega)
  have hw1' : wrap64 ((S.size : Int) + 1) = (S.size : Int) + 1 := (IntWalk.i64_left _).symm.trans hw1
  have hrem : ((len1 : Int).tmod ((S.size : Int) + 1)) = (m : Int) := by rw [hm]; rfl
  obtain ⟨x, r1, r2⟩ := run_parts hrun hmS
  obtain ⟨p1, p2, p3, p4⟩ := way_short hrun
  have IA := implRunE b (S.extract 0 m) (by rw [ByteArray.size_extract]; omega)
  rw [r1] at IA
  have IB := implRunE x (S.extract m S.size) (by rw [ByteArray.size_extract]; omega)
  rw [r2] at IB
  simp only [Option.getD_some, Option.isSome_some] at IA IB
  have IW := implWay b y
  have hbo : bkBoth b y = true := by unfold bkBoth; rw [p1, p2]; rfl
  rw [hbo] at IW
  obtain ⟨R, hR⟩ : ∃ R, R = bkWay b y := ⟨_, rfl⟩
  rw [← hR] at IW p3
  have IA := Lib.hid IA
  have IB := Lib.hid IB
  have IW := Lib.hid IW
  have hsl1 := part_to (S := S) (k := m) hmS
  have hsl2 := part_from (S := S) (k := m) hmS
  have hlen : decide ((R.size : Int) ≤ (S.size : Int)) = true := decide_eq_true (by omega)
  have T3 := Lib.hid t3
  have U3 := Lib.hid u3
  clear r1 r2 p1 p2 p4 hbo hR hrun hm t3 u3 v3
  go_upto_region 9 with fail
  clear m0 m1 m2 n0 n1 n2 ne
  have d0 : Below W3.heap.size W3 W3.drew := (Below.refl _ _).drew
  have l0 := T3.out.cell0
  have l1 := T3.out.cell1
  have l2 := T3.out.cell2
  go_cut [12, 13] (fun p t wx => ∃ g, p = .pointer (some ⟨g, 0, none⟩) ∧ t = .bool true ∧ Tri3 wx g (.int .i64 x.1) (.bool x.2.1) (.bool x.2.2) 25 ∧ Below W3.heap.size W3 wx)
  case first =>
    have l9 : w1.heap.size < W3.heap.size := T3.out.lt
    go_region_with (go_at_call 21; refine (IA.out _).mono ?_; rintro e wA ⟨rfl, bA⟩; first | (have z : Tri3 wA W3.heap.size (.int .i64 0) (.bool false) (.bool false) 25 := (Tri3.new W3.drew (.int .i64 0) (.bool false) (.bool false) 25).below bA; have z0 := z.cell0; have z1 := z.cell1; have z2 := z.cell2; have g0 := z.frozen 0; have g1 := z.frozen 1; have g2 := z.frozen 2) | (have z := d0.trans bA))
    all_goals (go_wp2_with fail; go_meet; first
      | with_reducible exact step_endA z _ _ _ _
      | with_reducible exact step_endB bA z _ _ _ _)
  case rest =>
  obtain ⟨g, rfl, rfl, tg6, bx⟩ := hcut
  have T4 := Lib.hid (T3.out.below bx)
  have U4 := Lib.hid (U3.out.below bx)
  have C4 := Lib.hid (chain C3.out bx)
  clear bx l0 l1 l2 d0
  have d0 : Below wc.heap.size wc wc.drew := (Below.refl _ _).drew
  have l0 := tg6.cell0
  have l1 := tg6.cell1
  have l2 := tg6.cell2
  have l9 : g < wc.heap.size := tg6.lt
  go_upto_region 10 with fail
  go_cut [14, 15] (fun p t wx => ∃ g, p = .pointer (some ⟨g, 0, none⟩) ∧ t = .bool true ∧ Tri3 wx g (.int .i64 y.1) (.bool y.2.1) (.bool y.2.2) 25 ∧ Below wc.heap.size wc wx)
  case first =>
    go_region_with (go_at_call 21; refine (IB.out _).mono ?_; rintro e wA ⟨rfl, bA⟩; first | (have z : Tri3 wA wc.heap.size (.int .i64 0) (.bool false) (.bool false) 25 := (Tri3.new wc.drew (.int .i64 0) (.bool false) (.bool false) 25).below bA; have z0 := z.cell0; have z1 := z.cell1; have z2 := z.cell2; have g0 := z.frozen 0; have g1 := z.frozen 1; have g2 := z.frozen 2) | (have z := d0.trans bA))
    all_goals (go_wp2_with fail; go_meet; first
      | with_reducible exact step_endA z _ _ _ _
      | with_reducible exact step_endB bA z _ _ _ _)
  case rest =>
  obtain ⟨g5, rfl, rfl, tg7, bx⟩ := hcut
  have T5 := Lib.hid (T4.out.below bx)
  have U5 := Lib.hid (U4.out.below bx)
  have C5 := Lib.hid (chain C4.out bx)
  clear bx l0 l1 l2 l9 d0 hsl1 hsl2
  go_upto_region 11 with fail
  have l0 := T5.out.cell0
  have l1 := T5.out.cell1
  have l2 := T5.out.cell2
  have m0 := U5.out.cell0
  have m1 := U5.out.cell1
  have m2 := U5.out.cell2
  go_wp2_with (go_at_call 17; refine (IW.out _).mono ?_)
  rintro e w8 ⟨rfl, b8⟩
  have n0 := (tg7.below b8).cell0
  have n1 := (tg7.below b8).cell1
  have n2 := (tg7.below b8).cell2
  have i0 := (U5.out.below b8).cell0
  have i1 := (U5.out.below b8).cell1
  have i2 := (U5.out.below b8).cell2
  have C6 := Lib.hid (chain C5.out b8)
  clear b8 l0 l1 l2 m0 m1 m2
  go_wp2_with fail
  go_ret
  exact ⟨rfl, C6.out⟩

end Go.Proofs.Ytedbfmmklmidjab

namespace Go.Proofs.Ytedbfmmklmidjab.fnBlockRun
open Go.ChangeShapes Go.WideShapes Go.ChangeAt Go.RowKit
open Go.ChangeMaps (open_string shut_string)
set_option linter.unusedVariables false

theorem own : ownKnob Try.prog.godebug = none := by kernel_rfl
theorem laidOut : laidOutB Try.prog = true := by kernel_rfl

set_option maxRecDepth 100000 in
theorem lifted (os : Os) (started : os.Started) (H : Type) (enc : TypeId × Value → H) :
    ReturnsInHanded {} Try.checked os 7 .any (Rows.fnBlockRunSpec.pre6 enc Try.prog Try.f7 Rows.fnBlockRunRow.domain false) (Rows.fnBlockRunSpec.post enc Try.prog Try.f7 false true false false) := by
  refine returnsInHanded_of_change (C := Try.checked) own started (by kernel_rfl) Try.func7
    (ChangeSpec.witness6 (enc := enc) (C := Try.checked) false ⟨#[], #[.slice none 0 0, .slice none 0 0], []⟩ 8 (by kernel_rfl) (by kernel_rfl) (by kernel_rfl) (by kernel_rfl)) ?_
  intro W base args ds gs before hval0 hW hcnd _
  have hval : ∀ (j : Nat) t v, Try.f7.params[j]? = some t → args[j]? = some v → Value.okWide Try.prog W .any base t v := hval0
  have hW' := hW
  obtain ⟨p, q, hA0, hV, rfl, hfz, hnd⟩ := hW
  have hA : DataW.TrodAll enc Try.prog W 0 (fun _ => true) true Try.f7.params.toList args.toList ds p := hA0
  rw [Try.params7] at hA hval
  obtain ⟨v0, vs0, d0, ds0, p0, q0, hargs, rfl, rfl, h0, r0⟩ := trodAll_cons hA
  obtain ⟨v1, vs1, d1, ds1, p1, q1, rfl, rfl, rfl, h1, r1⟩ := trodAll_cons r0
  obtain ⟨rfl, rfl, rfl⟩ := trodAll_nil r1
  obtain rfl : args = #[v0, v1] := by cases args; simp_all
  obtain ⟨rfl, rfl⟩ := trodVars_none hV
  obtain ⟨a0, len0, cap0, rfl⟩ := okWide_slice Try.underlying31 (hval 0 31 v0 rfl rfl)
  have k0 := h0
  have lt0 : ∀ x ∈ p0, x.block < W.heap.size := by obtain ⟨m, hm⟩ := k0; exact DataW.trod_lt m _ _ _ hm
  obtain ⟨z0, w0⟩ : ∃ zs, IsRowK .u8 W a0 len0 cap0 zs := by
    obtain ⟨fuel, hf⟩ := h0
    rcases open_ints Try.underlying31 Try.underlying5 (by kernel_rfl) hf with ⟨hcs, _⟩ | ⟨x, l, c, zs, hcs, _, hl, hm, hz, _, hcell, hwz⟩
    · simp [Value.cells] at hcs
      obtain ⟨rfl, rfl, rfl⟩ := hcs
      exact ⟨[], .inl ⟨rfl, rfl, rfl, rfl⟩⟩
    · simp [Value.cells] at hcs
      obtain ⟨rfl, rfl, rfl⟩ := hcs
      exact ⟨zs, .inr ⟨_, rfl, hl, hm, by simpa using hz, hcell, hwz⟩⟩
  obtain ⟨a1, len1, cap1, rfl⟩ := okWide_slice Try.underlying31 (hval 1 31 v1 rfl rfl)
  have k1 := h1
  have lt1 : ∀ x ∈ p1, x.block < W.heap.size := by obtain ⟨m, hm⟩ := k1; exact DataW.trod_lt m _ _ _ hm
  obtain ⟨z1, w1⟩ : ∃ zs, IsRowK .u8 W a1 len1 cap1 zs := by
    obtain ⟨fuel, hf⟩ := h1
    rcases open_ints Try.underlying31 Try.underlying5 (by kernel_rfl) hf with ⟨hcs, _⟩ | ⟨x, l, c, zs, hcs, _, hl, hm, hz, _, hcell, hwz⟩
    · simp [Value.cells] at hcs
      obtain ⟨rfl, rfl, rfl⟩ := hcs
      exact ⟨[], .inl ⟨rfl, rfl, rfl, rfl⟩⟩
    · simp [Value.cells] at hcs
      obtain ⟨rfl, rfl, rfl⟩ := hcs
      exact ⟨zs, .inr ⟨_, rfl, hl, hm, by simpa using hz, hcell, hwz⟩⟩
  clear hA0 hval0
  refine (walk_FnBlockRun a0 len0 cap0 z0 a1 len1 cap1 z1 W w0 w1).mono fun e W' ⟨he, bel⟩ => ?_
  subst he
  exact ⟨_, rfl, _, _, _, [], _, [], hW', trodAll_mk1 (shut_bool Try.underlying4 _), (trodAll_cons_mk (Below.trod laidOut (by kernel_rfl) (of_decide_eq_true (by kernel_rfl)) k0 bel lt0) (trodAll_cons_mk (Below.trod laidOut (by kernel_rfl) (of_decide_eq_true (by kernel_rfl)) k1 bel lt1) trodAll_mk0)), rfl, bel.frame _, fun h => by cases h⟩

theorem closed : joinedFacts Try.checked.prog 7 Try.f7 Rows.fnBlockRunSpec Rows.fnBlockRunRow = true := by
  unfold joinedFacts
  simp only [Bool.and_eq_true]
  repeat' (refine And.intro ?_ ?_)
  all_goals first
    | with_reducible exact may_enter
    | (rw [lifts_final]; kernel_rfl)
    | (rw [make_is]; kernel_rfl)
    | kernel_rfl

theorem over : Rows.fnBlockRunRow.holds Try.pinned (OpenSpec.ofChange Rows.fnBlockRunSpec) :=
  OpenClaim.holds_of_wide 7 Try.f7 rfl rfl rfl rfl rfl rfl rfl ⟨rfl, rfl, rfl, rfl, rfl⟩ rfl rfl rfl rfl rfl (by kernel_rfl) Try.func7 closed
    (of_decide_eq_true (by kernel_rfl)) (by unfold Func.isWrapper; first | (rw [if_pos (by decide +kernel)]; kernel_rfl) | (rw [if_neg (by decide +kernel)]; exact ⟨rfl, rfl⟩))
    (fun os started H enc _ => lifted os started H enc)

theorem proved : Rows.FnBlockRunSaid := over
#print axioms proved
end Go.Proofs.Ytedbfmmklmidjab.fnBlockRun
