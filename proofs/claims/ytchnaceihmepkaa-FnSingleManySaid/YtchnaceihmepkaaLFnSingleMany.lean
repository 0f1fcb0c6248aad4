/-
  For every input the law 'FnSingleMany' returns true, and each of its arguments reads behind the call as it read before. Conditions: none beyond those of the row.
-/
import Derived.Test.YtchnaceihmepkaaRows
import Derived.WalkKit
import Derived.ProofKit
import Derived.OpenShut
import Derived.ShutString
import Derived.ChangeOld
import Derived.Below
import Derived.Deep.Matrix
import Derived.Test.YtchnaceihmepkaaIo
import Derived.Test.YtchnaceihmepkaaDrGs
import Derived.Deep.RegionHeld3
namespace Go.Proofs.Ytchnaceihmepkaa
open Go.RowKit

theorem qB_tail {xs : List Int} (h : qB xs = true) : qB (xs.drop 1) = true := by
  obtain ⟨h1, h2⟩ := qB_of h
  have hl : (xs.drop 1).length = xs.length - 1 := List.length_drop
  have hg : ∀ i, (xs.drop 1).getD i 0 = xs.getD (1 + i) 0 := fun i => by simp [List.getD_eq_getElem?_getD, Nat.add_comm]
  refine qB_yes (by omega) fun i hi => ?_
  rw [hl] at hi
  rw [hg]
  have q := h2 (1 + i) (by omega)
  refine ⟨?_, q.2⟩
  cases i with
  | zero => rw [prevT_zero]; exact h2.nonneg 1 (by omega)
  | succ i =>
    rw [prevT_succ, hg]
    have e : 1 + (i + 1) = (1 + i) + 1 := by omega
    rw [e, prevT_succ] at q
    exact q.1
theorem many_tails {s : Sg} (h : sgB s = true) (ha : 0 < s.A.length) (hb : 0 < s.B.length) :
    manyV s = manyV ⟨s.A.drop 1, s.B, s.run, s.head⟩ + manyV ⟨s.A, s.B.drop 1, s.run, s.head⟩ ∧ 0 ≤ manyV ⟨s.A.drop 1, s.B, s.run, s.head⟩ ∧ manyV ⟨s.A.drop 1, s.B, s.run, s.head⟩ ≤ 4096 ∧ 0 ≤ manyV ⟨s.A, s.B.drop 1, s.run, s.head⟩ ∧ manyV ⟨s.A, s.B.drop 1, s.run, s.head⟩ ≤ 4096 := by
  have o := sgB_of h
  have s1 : sgB ⟨s.A.drop 1, s.B, s.run, s.head⟩ = true := sgB_yes ⟨qB_tail o.a, o.b, o.run1, o.run2, o.head1, o.head2⟩
  have s2 : sgB ⟨s.A, s.B.drop 1, s.run, s.head⟩ = true := sgB_yes ⟨o.a, qB_tail o.b, o.run1, o.run2, o.head1, o.head2⟩
  rw [manyV_yes h, manyV_yes s1, manyV_yes s2]
  simp only [List.length_drop]
  obtain ⟨u, hu⟩ : ∃ u, s.A.length = u + 1 := ⟨s.A.length - 1, by omega⟩
  obtain ⟨d, hd⟩ : ∃ u, s.B.length = u + 1 := ⟨s.B.length - 1, by omega⟩
  have la := o.lenA
  have lb := o.lenB
  rw [hu, hd, mny_succ, Nat.add_sub_cancel, Nat.add_sub_cancel]
  have m1 := mny_le (u := u) (d := d + 1) (by omega)
  have m2 := mny_le (u := u + 1) (d := d) (by omega)
  omega

set_option maxRecDepth 100000 in
set_option maxHeartbeats 8000000 in
theorem walk_FnSingleMany (a0 : Option Addr) (len0 cap0 : Nat) (z0 : List Int) (w : World) (w0 : IsRowK .u8 w a0 len0 cap0 z0) :
    Calls Try.prog 8 #[.slice a0 len0 cap0] w fun e w' => e = .returned (.bool true) ∧ Below w.heap.size w w' := by
  rcases Nat.lt_or_ge 1048576 len0 with hbig | hsm
  · have hb : (1048576 : Int) < (len0 : Int) := by omega
    go_enter Try.func8, Try.ntmps8
    go_wp2_with fail
    go_ret
    exact ⟨rfl, Below.refl _ _⟩
  have hb : (len0 : Int) ≤ 1048576 := by omega
  have DN := Lib.hid (drawSMany w0 hsm)
  clear w0
  go_enter Try.func8, Try.ntmps8
  go_upto_region 4 with (go_at_call 33; refine DN.out.mono ?_; rintro e wA ⟨v, s, rfl, os, ss, bA⟩; obtain ⟨a1, n1, c1, a2, n2, c2, rfl⟩ := os.form)
  have qB0 := Quad.new wA (.slice a1 n1 c1) (.slice a2 n2 c2) (.int .i64 s.run) (.int .i64 s.head) 25
  have bB := below_alloc wA (.cells #[.slice a1 n1 c1, .slice a2 n2 c2, .int .i64 s.run, .int .i64 s.head] 25)
  have sv := (os.sgV (by have := ss.la; omega) (by have := ss.lb; omega)).below bB
  obtain ⟨wB, hwB⟩ : ∃ X, X = wA.alloc (.cells #[.slice a1 n1 c1, .slice a2 n2 c2, .int .i64 s.run, .int .i64 s.head] 25) := ⟨_, rfl⟩
  rw [← hwB] at qB0 bB sv ⊢
  have BB := Lib.hid (bA.trans (bB.mono bA.size))
  have SV := Lib.hid sv
  have QB := Lib.hid qB0
  have IM := Lib.hid (fun (X : World) (b : Below wB.heap.size wB X) => implMany (sv.below b))
  have SM := Lib.hid (fun (X : World) (b : Below wB.heap.size wB X) => specMany (sv.below b))
  have mr : -1 ≤ manyV s ∧ manyV s ≤ 4096 := by
    cases hs : sgB s
    · rw [manyV_no hs]; omega
    · rw [manyV_yes hs]
      have := mny_le (u := s.A.length) (d := s.B.length) (by have := (sgB_of hs).lenA; have := (sgB_of hs).lenB; omega)
      omega
  have L1 := Lib.hid (show n1 = s.A.length by obtain ⟨x, y, e, i1, i2⟩ := sv; simp only [Value.agg.injEq, Array.mk.injEq, List.cons.injEq, and_true] at e; obtain ⟨rfl, rfl⟩ := e; exact slice_len i1)
  have L2 := Lib.hid (show n2 = s.B.length by obtain ⟨x, y, e, i1, i2⟩ := sv; simp only [Value.agg.injEq, Array.mk.injEq, List.cons.injEq, and_true] at e; obtain ⟨rfl, rfl⟩ := e; exact slice_len i2)
  have SS := Lib.hid ss
  obtain ⟨m, hm⟩ : ∃ m, m = manyV s := ⟨_, rfl⟩
  have HM := Lib.hid hm
  rw [← hm] at IM SM mr
  clear hm hwB qB0 bB sv os ss bA
  obtain ⟨run, hrun⟩ : ∃ x, x = s.run := ⟨_, rfl⟩
  obtain ⟨hd, hhd⟩ : ∃ x, x = s.head := ⟨_, rfl⟩
  rw [← hrun, ← hhd] at QB IM SM SV
  have HR := Lib.hid (And.intro hrun hhd)
  clear hrun hhd
  have k0 := QB.out.cell0
  have k1 := QB.out.cell1
  have k2 := QB.out.cell2
  have k3 := QB.out.cell3
  go_upto_region 5 with (go_at_call 28; refine (IM.out _ (below_self _)).mono ?_; rintro e wC ⟨rfl, bC⟩)
  have l0 := (QB.out.below bC).cell0
  have l1 := (QB.out.below bC).cell1
  have l2 := (QB.out.below bC).cell2
  have l3 := (QB.out.below bC).cell3
  have BC := Lib.hid bC
  clear k0 k1 k2 k3 bC
  go_upto_region 6 with (go_at_call 34; refine (SM.out _ BC.out).mono ?_; rintro e wD ⟨rfl, bD⟩)
  have BD := Lib.hid (BC.out.trans (bD.mono BC.out.size))
  clear l0 l1 l2 l3 bD
  rcases Int.lt_or_le m 0 with hneg | hpos
  · have t0 : decide (m < 0) = true := decide_eq_true hneg
    have t1 : (m != m) = false := by simp
    have t2 : (m == m) = true := by simp
    clear hneg
    go_wp2_with fail
    go_ret
    exact ⟨rfl, BB.out.trans (BD.out.mono BB.out.size)⟩
  have t0 : decide (m < 0) = false := by simpa using hpos
  have t1 : (m != m) = false := by simp
  have HSG := Lib.hid (show sgB s = true by
    cases hs : sgB s
    · rw [HM.out, manyV_no hs] at hpos; omega
    · rfl)
  have l0 := (QB.out.below BD.out).cell0
  have l1 := (QB.out.below BD.out).cell1
  have l2 := (QB.out.below BD.out).cell2
  have l3 := (QB.out.below BD.out).cell3
  rcases Nat.eq_zero_or_pos n1 with h1 | h1
  · have e1 : ((n1 : Int) == 0) = true := by rw [h1]; rfl
    have EM := Lib.hid (show (m == 1) = true by rw [HM.out, manyV_yes HSG.out, ← L1.out, h1, mny_0d]; rfl)
    have EM' := EM.out
    clear h1
    go_wp2_with fail
    go_ret
    exact ⟨rfl, BB.out.trans (BD.out.mono BB.out.size)⟩
  have e1 : ((n1 : Int) == 0) = false := by simp; omega
  rcases Nat.eq_zero_or_pos n2 with h2 | h2
  · have e2 : ((n2 : Int) == 0) = true := by rw [h2]; rfl
    have EM := Lib.hid (show (m == 1) = true by rw [HM.out, manyV_yes HSG.out, ← L2.out, h2, mny_u0]; rfl)
    have EM' := EM.out
    clear h2 h1
    go_wp2_with fail
    go_ret
    exact ⟨rfl, BB.out.trans (BD.out.mono BB.out.size)⟩
  have e2 : ((n2 : Int) == 0) = false := by simp; omega
  have MT := many_tails HSG.out (by rw [← L1.out]; exact h1) (by rw [← L2.out]; exact h2)
  go_upto_region 10 with fail
  obtain rfl := L1.out
  obtain rfl := L2.out
  obtain ⟨i1, i2⟩ : Ints wB (.slice a1 s.A.length c1) s.A ∧ Ints wB (.slice a2 s.B.length c2) s.B := by
    obtain ⟨x, y, e, i1, i2⟩ := SV.out
    simp only [Value.agg.injEq, Array.mk.injEq, List.cons.injEq, and_true] at e
    obtain ⟨rfl, rfl, -⟩ := e
    exact ⟨i1, i2⟩
  have hcap1 : s.A.length ≤ c1 := by obtain ⟨_, _, e, h, _⟩ := i1; simp only [Value.slice.injEq, true_and] at e; obtain ⟨-, rfl⟩ := e; exact h.2
  have hcap2 : s.B.length ≤ c2 := by obtain ⟨_, _, e, h, _⟩ := i2; simp only [Value.slice.injEq, true_and] at e; obtain ⟨-, rfl⟩ := e; exact h.2
  obtain ⟨ua, sa0, ia⟩ := part_tail (a := a1) (c := c1) (xs := s.A) (m := 1) (by omega) hcap1
  obtain ⟨ub, sb0, ib⟩ := part_tail (a := a2) (c := c2) (xs := s.B) (m := 1) (by omega) hcap2
  have sa : ∀ w : World, (Instr.slice 23 (.slice a1 s.A.length c1) (some (.int .i64 1)) none none).run Try.prog w = .ok ua w := sa0
  have sb : ∀ w : World, (Instr.slice 23 (.slice a2 s.B.length c2) (some (.int .i64 1)) none none).run Try.prog w = .ok ub w := sb0
  clear sa0 sb0
  obtain ⟨xa, xn, xc, rfl⟩ : ∃ a n c, ua = .slice a n c := by obtain ⟨a, c, e, _⟩ := ia _ i1; exact ⟨a, _, c, e⟩
  obtain ⟨ya, yn, yc, rfl⟩ : ∃ a n c, ub = .slice a n c := by obtain ⟨a, c, e, _⟩ := ib _ i2; exact ⟨a, _, c, e⟩
  have s1 : SgV wB (.agg #[.slice xa xn xc, .slice a2 s.B.length c2, .int .i64 run, .int .i64 hd]) ⟨s.A.drop 1, s.B, run, hd⟩ := ⟨_, _, rfl, ia _ i1, i2⟩
  have s2 : SgV wB (.agg #[.slice a1 s.A.length c1, .slice ya yn yc, .int .i64 run, .int .i64 hd]) ⟨s.A, s.B.drop 1, run, hd⟩ := ⟨_, _, rfl, i1, ib _ i2⟩
  have M1 := Lib.hid (fun (X : World) (b : Below wB.heap.size wB X) => implMany (s1.below b))
  have M2 := Lib.hid (fun (X : World) (b : Below wB.heap.size wB X) => implMany (s2.below b))
  rw [← HR.out.1, ← HR.out.2, ← HM.out] at MT
  obtain ⟨x, hx⟩ : ∃ x, x = manyV ⟨s.A.drop 1, s.B, run, hd⟩ := ⟨_, rfl⟩
  obtain ⟨y, hy⟩ : ∃ x, x = manyV ⟨s.A, s.B.drop 1, run, hd⟩ := ⟨_, rfl⟩
  rw [← hx] at M1 MT
  rw [← hy] at M2 MT
  obtain ⟨mt, x0, x1, y0, y1⟩ := MT
  have EQ := Lib.hid (show (m == x + y) = true by rw [mt]; simp)
  have QD := Lib.hid (QB.out.below BD.out)
  clear l0 l1 l2 l3 s1 s2 ia ib i1 i2 hx hy mt hcap1 hcap2 mr hpos t0 t1
  generalize s.A.length = n1 at *
  generalize s.B.length = n2 at *
  have hn1 : (1 : Int) ≤ (n1 : Int) := by omega
  have hn2 : (1 : Int) ≤ (n2 : Int) := by omega
  go_cut [6] (fun p wx => p = .pointer (some ⟨wD.heap.size, 0, none⟩) ∧ Hid (Quad wx wD.heap.size (.slice xa xn xc) (.slice a2 n2 c2) (.int .i64 run) (.int .i64 hd) 25) ∧ Hid (Below wD.heap.size wD wx))
  case first =>
    have d0 : Below wD.heap.size wD wD.drew := (Below.refl _ _).drew
    have CL := Lib.hid (fun (X : World) (b : Below wD.heap.size wD X) => show X.cell? ⟨wA.heap.size, 0, none⟩ = some (.slice a1 n1 c1) ∧ X.cell? ⟨wA.heap.size, 1, none⟩ = some (.slice a2 n2 c2) ∧ X.cell? ⟨wA.heap.size, 2, none⟩ = some (.int .i64 run) ∧ X.cell? ⟨wA.heap.size, 3, none⟩ = some (.int .i64 hd) from
      ⟨(QD.out.below b).cell0, (QD.out.below b).cell1, (QD.out.below b).cell2, (QD.out.below b).cell3⟩)
    go_region_held3 (fun X => X.cell? ⟨wA.heap.size, 0, none⟩ = some (.slice a1 n1 c1) ∧ X.cell? ⟨wA.heap.size, 1, none⟩ = some (.slice a2 n2 c2) ∧ X.cell? ⟨wA.heap.size, 2, none⟩ = some (.int .i64 run) ∧ X.cell? ⟨wA.heap.size, 3, none⟩ = some (.int .i64 hd))
      (first
        | exact CL.out _ d0
        | exact CL.out _ (d0.alloc d0.size _)
        | exact CL.out _ (stored4 (d0.alloc d0.size _) (Nat.le_refl _) _ _ _ _)
        | go_keep)
      (fail)
    all_goals (go_wp2_with fail; go_meet; exact ⟨rfl, Lib.hid (Quad.new _ _ _ _ _ _), Lib.hid ((below_alloc _ _).drew)⟩)
  case rest =>
  obtain ⟨rfl, Q6, bE⟩ := hcut
  rename World => wE
  have QE := Lib.hid (QD.out.below bE.out)
  go_upto_region 11 with fail
  go_cut [7] (fun p wx => p = .pointer (some ⟨wE.heap.size, 0, none⟩) ∧ Hid (Quad wx wE.heap.size (.slice a1 n1 c1) (.slice ya yn yc) (.int .i64 run) (.int .i64 hd) 25) ∧ Hid (Below wE.heap.size wE wx))
  case first =>
    have d0 : Below wE.heap.size wE wE.drew := (Below.refl _ _).drew
    have CL := Lib.hid (fun (X : World) (b : Below wE.heap.size wE X) => show X.cell? ⟨wA.heap.size, 0, none⟩ = some (.slice a1 n1 c1) ∧ X.cell? ⟨wA.heap.size, 1, none⟩ = some (.slice a2 n2 c2) ∧ X.cell? ⟨wA.heap.size, 2, none⟩ = some (.int .i64 run) ∧ X.cell? ⟨wA.heap.size, 3, none⟩ = some (.int .i64 hd) from
      ⟨(QE.out.below b).cell0, (QE.out.below b).cell1, (QE.out.below b).cell2, (QE.out.below b).cell3⟩)
    go_region_held3 (fun X => X.cell? ⟨wA.heap.size, 0, none⟩ = some (.slice a1 n1 c1) ∧ X.cell? ⟨wA.heap.size, 1, none⟩ = some (.slice a2 n2 c2) ∧ X.cell? ⟨wA.heap.size, 2, none⟩ = some (.int .i64 run) ∧ X.cell? ⟨wA.heap.size, 3, none⟩ = some (.int .i64 hd))
      (first
        | exact CL.out _ d0
        | exact CL.out _ (d0.alloc d0.size _)
        | exact CL.out _ (stored4 (d0.alloc d0.size _) (Nat.le_refl _) _ _ _ _)
        | go_keep)
      (fail)
    all_goals (go_wp2_with fail; go_meet; exact ⟨rfl, Lib.hid (Quad.new _ _ _ _ _ _), Lib.hid ((below_alloc _ _).drew)⟩)
  case rest =>
  obtain ⟨rfl, Q7, bF⟩ := hcut
  rename World => wF
  have P6 := Q6.out.below bF.out
  have c0 := P6.cell0
  have c1' := P6.cell1
  have c2' := P6.cell2
  have c3 := P6.cell3
  have d0 := Q7.out.cell0
  have d1 := Q7.out.cell1
  have d2 := Q7.out.cell2
  have d3 := Q7.out.cell3
  have F0 := fun d os => cell_regrown c0 d os
  have F1 := fun d os => cell_regrown c1' d os
  have F2 := fun d os => cell_regrown c2' d os
  have F3 := fun d os => cell_regrown c3 d os
  have G0 := fun d os => cell_regrown d0 d os
  have G1 := fun d os => cell_regrown d1 d os
  have G2 := fun d os => cell_regrown d2 d os
  have G3 := fun d os => cell_regrown d3 d os
  have BF := Lib.hid ((BD.out.trans (bE.out.mono BD.out.size)).trans (bF.out.mono (Nat.le_trans BD.out.size bE.out.size)))
  have R1 := Lib.hid (fun (d : Nat) (os : Array Obj) => Calls.regrown_of (M1.out _ (BF.out.trans ((below_regrown wF d os).mono BF.out.size))))
  have R2 := Lib.hid (fun (d : Nat) (os : Array Obj) => Calls.regrown_of (M2.out _ (BF.out.trans ((below_regrown wF d os).mono BF.out.size))))
  have hw : IntKind.i64.wrap (x + y) = x + y := IntWalk.i64_in _ (by omega)
  have EQ' := EQ.out
  clear P6 c0 c1' c2' c3 d0 d1 d2 d3 Q6 Q7 bE bF
  go_wp2_with fail
  refine wp_region_quiet_below (by kernel_rfl) (by kernel_rfl) ?_
  repeat (go_big_quiet_step (first | (with_reducible exact R1.out _ _) | (with_reducible exact R2.out _ _)))
  refine wpQuiet_nil ?_
  intro _ hw'
  obtain ⟨⟨dq, osq⟩, hw''⟩ := hw'
  subst hw''
  have BR := below_regrown wF dq osq
  clear hw F0 F1 F2 F3 G0 G1 G2 G3
  go_wp2_with fail
  go_ret
  exact ⟨rfl, BB.out.trans ((BF.out.trans (BR.mono BF.out.size)).mono BB.out.size)⟩

end Go.Proofs.Ytchnaceihmepkaa

namespace Go.Proofs.Ytchnaceihmepkaa.fnSingleMany
open Go.ChangeShapes Go.WideShapes Go.ChangeAt Go.RowKit
open Go.ChangeMaps (open_string shut_string)
set_option linter.unusedVariables false

theorem own : ownKnob Try.prog.godebug = none := by kernel_rfl
theorem laidOut : laidOutB Try.prog = true := by kernel_rfl

set_option maxRecDepth 100000 in
theorem lifted (os : Os) (started : os.Started) (H : Type) (enc : TypeId × Value → H) :
    ReturnsInHanded {} Try.checked os 8 .any (Rows.fnSingleManySpec.pre6 enc Try.prog Try.f8 Rows.fnSingleManyRow.domain false) (Rows.fnSingleManySpec.post enc Try.prog Try.f8 false true false false) := by
  refine returnsInHanded_of_change (C := Try.checked) own started (by kernel_rfl) Try.func8
    (ChangeSpec.witness6 (enc := enc) (C := Try.checked) false ⟨#[], #[.slice none 0 0], []⟩ 8 (by kernel_rfl) (by kernel_rfl) (by kernel_rfl) (by kernel_rfl)) ?_
  intro W base args ds gs before hval0 hW hcnd _
  have hval : ∀ (j : Nat) t v, Try.f8.params[j]? = some t → args[j]? = some v → Value.okWide Try.prog W .any base t v := hval0
  have hW' := hW
  obtain ⟨p, q, hA0, hV, rfl, hfz, hnd⟩ := hW
  have hA : DataW.TrodAll enc Try.prog W 0 (fun _ => true) true Try.f8.params.toList args.toList ds p := hA0
  rw [Try.params8] at hA hval
  obtain ⟨v0, vs0, d0, ds0, p0, q0, hargs, rfl, rfl, h0, r0⟩ := trodAll_cons hA
  obtain ⟨rfl, rfl, rfl⟩ := trodAll_nil r0
  obtain rfl : args = #[v0] := by cases args; simp_all
  obtain ⟨rfl, rfl⟩ := trodVars_none hV
  obtain ⟨a0, len0, cap0, rfl⟩ := okWide_slice Try.underlying22 (hval 0 22 v0 rfl rfl)
  have k0 := h0
  have lt0 : ∀ x ∈ p0, x.block < W.heap.size := by obtain ⟨m, hm⟩ := k0; exact DataW.trod_lt m _ _ _ hm
  obtain ⟨z0, w0⟩ : ∃ zs, IsRowK .u8 W a0 len0 cap0 zs := by
    obtain ⟨fuel, hf⟩ := h0
    rcases open_ints Try.underlying22 Try.underlying5 (by kernel_rfl) hf with ⟨hcs, _⟩ | ⟨x, l, c, zs, hcs, _, hl, hm, hz, _, hcell, hwz⟩
    · simp [Value.cells] at hcs
      obtain ⟨rfl, rfl, rfl⟩ := hcs
      exact ⟨[], .inl ⟨rfl, rfl, rfl, rfl⟩⟩
    · simp [Value.cells] at hcs
      obtain ⟨rfl, rfl, rfl⟩ := hcs
      exact ⟨zs, .inr ⟨_, rfl, hl, hm, by simpa using hz, hcell, hwz⟩⟩
  clear hA0 hval0
  refine (walk_FnSingleMany a0 len0 cap0 z0 W w0).mono fun e W' ⟨he, bel⟩ => ?_
  subst he
  exact ⟨_, rfl, _, _, _, [], _, [], hW', trodAll_mk1 (shut_bool Try.underlying4 _), (trodAll_cons_mk (Below.trod laidOut (by kernel_rfl) (of_decide_eq_true (by kernel_rfl)) k0 bel lt0) trodAll_mk0), rfl, bel.frame _, fun h => by cases h⟩

theorem closed : joinedFacts Try.checked.prog 8 Try.f8 Rows.fnSingleManySpec Rows.fnSingleManyRow = true := by
  unfold joinedFacts
  simp only [Bool.and_eq_true]
  repeat' (refine And.intro ?_ ?_)
  all_goals first
    | with_reducible exact may_enter
    | (rw [lifts_final]; kernel_rfl)
    | (rw [make_is]; kernel_rfl)
    | kernel_rfl

theorem over : Rows.fnSingleManyRow.holds Try.pinned (OpenSpec.ofChange Rows.fnSingleManySpec) :=
  OpenClaim.holds_of_wide 8 Try.f8 rfl rfl rfl rfl rfl rfl rfl ⟨rfl, rfl, rfl, rfl, rfl⟩ rfl rfl rfl rfl rfl (by kernel_rfl) Try.func8 closed
    (of_decide_eq_true (by kernel_rfl)) (by unfold Func.isWrapper; first | (rw [if_pos (by decide +kernel)]; kernel_rfl) | (rw [if_neg (by decide +kernel)]; exact ⟨rfl, rfl⟩))
    (fun os started H enc _ => lifted os started H enc)

theorem proved : Rows.FnSingleManySaid := over
#print axioms proved
end Go.Proofs.Ytchnaceihmepkaa.fnSingleMany
