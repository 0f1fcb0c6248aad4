/-
  For every input the law 'FnPathLate' returns true, and each of its arguments reads behind the call as it read before. Conditions: none beyond those of the row.
-/
import Derived.Test.YtoebgdcgcdigaaaRows
import Derived.WalkKit
import Derived.ProofKit
import Derived.OpenShut
import Derived.ShutString
import Derived.ChangeOld
import Derived.Below
import Derived.Deep.Matrix
import Derived.Test.YtoebgdcgcdigaaaIo
import Derived.Test.YtoebgdcgcdigaaaDrawT
import Derived.Test.YtoebgdcgcdigaaaLateQ
import Derived.Test.YtoebgdcgcdigaaaLateS
import Derived.Test.YtoebgdcgcdigaaaLate
import Derived.Test.YtoebgdcgcdigaaaStands
import Derived.Lib.QuietBelow
import Derived.BigRegion
import Derived.BigQuiet
namespace Go.Proofs.Ytoebgdcgcdigaaa
open Go.RowKit

open Go.Sort

set_option maxRecDepth 100000 in
set_option maxHeartbeats 8000000 in
theorem walk_FnPathLate (a0 : Option Addr) (len0 cap0 : Nat) (z0 : List Int) (w : World) (w0 : IsRowK .u8 w a0 len0 cap0 z0) :
    Calls Try.prog 10 #[.slice a0 len0 cap0] w fun e w' => e = .returned (.bool true) ∧ Below w.heap.size w w' := by
  rcases Nat.lt_or_ge 1048576 len0 with hbig | hsm
  · have hb : (1048576 : Int) < (len0 : Int) := by omega
    go_enter Try.func10, Try.ntmps10
    go_wp2_with fail
    go_ret
    exact ⟨rfl, Below.refl _ _⟩
  have hb : (len0 : Int) ≤ 1048576 := by omega
  have DS := Lib.hid (drawLate w0 hsm)
  clear w0
  go_enter Try.func10, Try.ntmps10
  go_wp2_with (go_at_call 44; refine DS.out.mono ?_)
  rintro e w1 ⟨n, v, p, d, rfl, hn1, hn4, hdd, pv, b1⟩
  obtain ⟨a1, m1, c1, a2, m2, c2, rfl⟩ := pv.form
  have e1 := below_alloc w1 (.cells #[.slice a1 m1 c1, .slice a2 m2 c2] 44)
  have p1 := Pair.new w1 (.slice a1 m1 c1) (.slice a2 m2 c2) 44
  obtain ⟨W, hW⟩ : ∃ X, X = w1.alloc (.cells #[.slice a1 m1 c1, .slice a2 m2 c2] 44) := ⟨_, rfl⟩
  rw [← hW] at e1 p1
  have HW := Lib.hid hW.symm
  have PV := Lib.hid (pv.below e1)
  have PP := Lib.hid p1
  have C0 := Lib.hid (b1.trans (e1.mono b1.size))
  have fl := lateV_len (n : Int) p d
  clear hW p1 e1 pv b1 DS
  have k0 := PP.out.cell0
  have k1 := PP.out.cell1
  go_upto_region 4 with fail
  rw [HW.out]
  go_wp2_with (go_at_call 45; refine (implLate (n := n) (d := d) PV.out).mono ?_)
  rintro e w2 ⟨v2, rfl, o2, b2⟩
  obtain ⟨a3, m3, c3, a4, m4, c4, rfl⟩ := o2.form
  have q2 := below_alloc w2 (.cells #[.slice a3 m3 c3, .slice a4 m4 c4] 44)
  have p2 := Pair.new w2 (.slice a3 m3 c3) (.slice a4 m4 c4) 44
  obtain ⟨w3, h3⟩ : ∃ X, X = w2.alloc (.cells #[.slice a3 m3 c3, .slice a4 m4 c4] 44) := ⟨_, rfl⟩
  rw [← h3] at q2 p2
  have H3 := Lib.hid h3.symm
  have C3 := Lib.hid (b2.trans (q2.mono b2.size))
  have V2 := Lib.hid ((o2.pathV (by omega) (by omega)).below q2)
  have P2 := Lib.hid p2
  clear h3 q2 p2 o2 b2 k0 k1
  have k0 := (PP.out.below C3.out).cell0
  have k1 := (PP.out.below C3.out).cell1
  go_upto_region 5 with fail
  rw [H3.out]
  go_wp2_with (go_at_call 46; refine (specLate (n := n) (d := d) (PV.out.below C3.out) hdd).mono ?_)
  rintro e w4 ⟨v4, rfl, o4, b4⟩
  obtain ⟨a5, m5, c5, a6, m6, c6, rfl⟩ := o4.form
  have q4 := below_alloc w4 (.cells #[.slice a5 m5 c5, .slice a6 m6 c6] 44)
  have p4 := Pair.new w4 (.slice a5 m5 c5) (.slice a6 m6 c6) 44
  obtain ⟨w5, h5⟩ : ∃ X, X = w4.alloc (.cells #[.slice a5 m5 c5, .slice a6 m6 c6] 44) := ⟨_, rfl⟩
  rw [← h5] at q4 p4
  have H5 := Lib.hid h5.symm
  have b5 := b4.trans (q4.mono b4.size)
  have C5 := Lib.hid (C3.out.trans (b5.mono C3.out.size))
  have V2 := Lib.hid (V2.out.below b5)
  have P2 := Lib.hid (P2.out.below b5)
  have P4 := Lib.hid p4
  have SP := fun (X : World) (hX : Below w5.heap.size w5 X) => samePath (V2.out.below hX) (((o4.pathV (by omega) (by omega)).below q4).below hX)
  rw [decide_eq_true rfl] at SP
  have SP := Lib.hid SP
  clear h5 q4 p4 o4 b4 b5 k0 k1
  go_upto_region 6 with fail
  rw [H5.out]
  have k1 := P2.out.cell0
  have k2 := P2.out.cell1
  have k3 := P4.out.cell0
  have k4 := P4.out.cell1
  obtain ⟨t, ht⟩ : ∃ t, t = lateW (n : Int) p d := ⟨_, rfl⟩
  have HT := Lib.hid ht
  rw [← ht]
  clear ht
  go_wp2_with (go_at_call 39; refine (SP.out _ (Below.refl _ _)).mono ?_)
  rintro e w6 ⟨rfl, b6⟩
  have C6 := Lib.hid (C5.out.trans (b6.mono C5.out.size))
  have B6 := Lib.hid b6
  clear b6 k1 k2 k3 k4
  have k1 := (P2.out.below B6.out).cell0
  have k2 := (P2.out.below B6.out).cell1
  have k3 := (P4.out.below B6.out).cell0
  have k4 := (P4.out.below B6.out).cell1
  cases t
  · go_wp2_with (go_at_call 39; refine (SP.out _ B6.out).mono ?_)
    rintro e w7 ⟨rfl, b7⟩
    have CE := Lib.hid (C0.out.trans ((C6.out.trans (b7.mono C6.out.size)).mono C0.out.size))
    clear b7
    go_wp2_with fail
    go_ret
    exact ⟨rfl, CE.out⟩
  have hl := lateW_is hdd HT.out.symm
  have hbk := late_back hdd HT.out.symm
  have hst := late_stands hdd HT.out.symm
  obtain ⟨Q, hQ⟩ : ∃ Q, Q = lateV (n : Int) p d := ⟨_, rfl⟩
  have V6 := Lib.hid (V2.out.below B6.out)
  have P6 := Lib.hid (P2.out.below B6.out)
  rw [← hQ] at hl hbk hst V6
  obtain ⟨hpb, hqb, hdr, hl1, hl2, hlg⟩ := hl
  have hq1 : Q.1.length = n := by have := (pathB_is hqb).2.1; omega
  have hq2 : Q.2.length = n := by have := (pathB_is hqb).2.2.1; omega
  have hp1 : p.1.length = n := by have := (pathB_is hpb).2.1; omega
  have hp2 : p.2.length = n := by have := (pathB_is hpb).2.2.1; omega
  rw [show (0 : Int) - d = -d by omega] at hbk
  have hL := implLate (n := n) (d := -d) V6.out
  rw [hbk.1, hbk.2] at hL
  have ST1 := fun (X : World) (hX : Below w6.heap.size w6 X) => implStands (n := n) (V6.out.below hX)
  rw [hst] at ST1
  have ST1 := Lib.hid ST1
  have hbp := (pathB_is hpb).2.2.2
  have g0 := hlg 0 (by omega)
  have g1 := hlg (n - 1) (by omega)
  have bd0 := hbp.bounds (j := 0) (by omega)
  have bd1 := hbp.bounds (j := n - 1) (by omega)
  obtain ⟨y0, x0, z0, y1, x1, z1, ev, hy0, hy1, hcy, hcz⟩ := V6.out.cells hqb
  simp only [Value.agg.injEq, Array.mk.injEq, List.cons.injEq, Value.slice.injEq, and_true] at ev
  obtain ⟨⟨rfl, rfl, rfl⟩, rfl, rfl, rfl⟩ := ev
  have ecy := hcy 0 (by omega)
  have ecz := hcz (n - 1) (by omega)
  rw [g0.1] at ecy
  rw [g1.2] at ecz
  obtain ⟨y2, x2, z2, y3, x3, z3, ev, hy2, hy3, hcp, hcq⟩ := PV.out.cells hpb
  simp only [Value.agg.injEq, Array.mk.injEq, List.cons.injEq, Value.slice.injEq, and_true] at ev
  obtain ⟨⟨rfl, rfl, rfl⟩, rfl, rfl, rfl⟩ := ev
  have ecp := hcp 0 (by omega)
  have ecq := hcq (n - 1) (by omega)
  rw [hq1, hq2] at hL P6 ST1 V6
  rw [hp1, hp2] at PP PV
  rw [hq1, hq2]
  have CW := Lib.hid (C5.out.trans (B6.out.mono C5.out.size))
  obtain ⟨s, hs⟩ : ∃ s, s = p.1.getD 0 0 := ⟨_, rfl⟩
  obtain ⟨u, hu⟩ : ∃ u, u = p.2.getD (n - 1) 0 := ⟨_, rfl⟩
  rw [← hs] at ecp ecy bd0
  rw [← hu] at ecq ecz bd1
  have hw0 : wrap64 (-d) = -d := IntWalk.wrap64_in _ (by omega)
  have hw1 : IntKind.i64.wrap ((n : Int) - 1) = ((n - 1 : Nat) : Int) := by rw [IntWalk.i64_in _ (by omega)]; omega
  have hw2 : IntKind.i64.wrap (u + d - (s + d)) = u - s := by rw [IntWalk.i64_in _ (by omega)]; omega
  have hw3 : IntKind.i64.wrap (u - s) = u - s := IntWalk.i64_in _ (by omega)
  have n1 : ((n - 1 : Nat) : Int) < (n : Int) := by omega
  have n2 : n - 1 < n := by omega
  have n3 : (0 : Int) < (n : Int) := by omega
  have n4 : 0 < n := by omega
  have hL := Lib.hid hL
  have PLN := Lib.hid (And.intro hp1 hp2)
  clear hs hu hcy hcz hcp hcq hlg hbk hst hQ hpb hqb hbp g0 g1 hl1 hl2 hq1 hq2 hp1 hp2 k1 k2 k3 k4 fl bd0 bd1 hdr
  have k1 := P6.out.cell0
  have k2 := P6.out.cell1
  go_wp2_with (go_at_call 45; refine hL.out.mono ?_)
  rintro e w7 ⟨v7, rfl, o7, b7⟩
  obtain ⟨a7, m7, c7, a8, m8, c8, rfl⟩ := o7.form
  have q7 := below_alloc w7 (.cells #[.slice a7 m7 c7, .slice a8 m8 c8] 44)
  have p7 := Pair.new w7 (.slice a7 m7 c7) (.slice a8 m8 c8) 44
  obtain ⟨w9, h9⟩ : ∃ X, X = w7.alloc (.cells #[.slice a7 m7 c7, .slice a8 m8 c8] 44) := ⟨_, rfl⟩
  rw [← h9] at q7 p7
  have H9 := Lib.hid h9.symm
  have B9 := Lib.hid (b7.trans (q7.mono b7.size))
  have V7 := (o7.pathV (by rw [PLN.out.1]; omega) (by rw [PLN.out.2]; omega)).below q7
  have C9 := CW.out.trans (B9.out.mono CW.out.size)
  have SX := fun (d : Nat) (os : Array Obj) => Calls.regrown_of (samePath (V7.below (below_regrown w9 d os)) ((PV.out.below C9).below (below_regrown w9 d os)))
  rw [decide_eq_true rfl] at SX
  have SX := Lib.hid SX
  have ST1q := Lib.hid (fun (d : Nat) (os : Array Obj) => Calls.regrown_of (ST1.out (grow (redrawn w9 d) os) (B9.out.trans ((below_regrown w9 d os).mono B9.out.size))))
  have ST2q := Lib.hid (fun (d : Nat) (os : Array Obj) => Calls.regrown_of (implStands (n := n) ((PV.out.below C9).below (below_regrown w9 d os))))
  generalize stands (n : Int) p = st at ST1q ST2q
  have z1 := fun d os => cell_regrown p7.cell0 d os
  have z2 := fun d os => cell_regrown p7.cell1 d os
  have z3 := fun d os => cell_regrown (P6.out.below B9.out).cell0 d os
  have z4 := fun d os => cell_regrown (P6.out.below B9.out).cell1 d os
  have z5 := fun d os => cell_regrown (PP.out.below C9).cell0 d os
  have z6 := fun d os => cell_regrown (PP.out.below C9).cell1 d os
  have ecp' : w9.cell? ⟨y2, x2, none⟩ = some (.int .i64 s) := (C9.cell (p := ⟨y2, x2 + 0, none⟩) hy2).trans ecp
  have ecy' : w9.cell? ⟨y0, x0, none⟩ = some (.int .i64 (s + d)) := (B9.out.cell (p := ⟨y0, x0 + 0, none⟩) hy0).trans ecy
  have z7 := fun d os => cell_regrown ecp' d os
  have z8 := fun d os => cell_regrown ecy' d os
  have z9 := fun d os => cell_regrown ((C9.cell (p := ⟨y3, x3 + (n - 1), none⟩) hy3).trans ecq) d os
  have z10 := fun d os => cell_regrown ((B9.out.cell (p := ⟨y1, x1 + (n - 1), none⟩) hy1).trans ecz) d os
  have hee : (u - s == u - s) = true := by simp
  have hst : (st == st) = true := by simp
  have CF := Lib.hid (C0.out.trans (C9.mono C0.out.size))
  clear h9 q7 p7 o7 b7 V7 k1 k2 ecp ecq ecy ecz ecp' ecy' C9 ST1
  go_upto_region 9 with fail
  rw [H9.out]
  go_wp2_with fail
  refine wp_region_quiet_below (by kernel_rfl) (by kernel_rfl) ?_
  repeat (go_big_quiet_step (first | (with_reducible exact SX.out _ _) | (with_reducible exact ST1q.out _ _) | (with_reducible exact ST2q.out _ _)))
  refine wpQuiet_nil ?_
  intro _ hw'
  obtain ⟨⟨dq, osq⟩, hw''⟩ := hw'
  subst hw''
  have BF := Lib.hid (CF.out.trans ((below_regrown w9 dq osq).mono CF.out.size))
  clear z1 z2 z3 z4 z5 z6 z7 z8 z9 z10
  go_wp2_with fail
  go_ret
  exact ⟨rfl, BF.out⟩

end Go.Proofs.Ytoebgdcgcdigaaa

namespace Go.Proofs.Ytoebgdcgcdigaaa.fnPathLate
open Go.ChangeShapes Go.WideShapes Go.ChangeAt Go.RowKit
open Go.ChangeMaps (open_string shut_string)
set_option linter.unusedVariables false

theorem own : ownKnob Try.prog.godebug = none := by kernel_rfl
theorem laidOut : laidOutB Try.prog = true := by kernel_rfl

set_option maxRecDepth 100000 in
theorem lifted (os : Os) (started : os.Started) (H : Type) (enc : TypeId × Value → H) :
    ReturnsInHanded {} Try.checked os 10 .any (Rows.fnPathLateSpec.pre6 enc Try.prog Try.f10 Rows.fnPathLateRow.domain false) (Rows.fnPathLateSpec.post enc Try.prog Try.f10 false true false false) := by
  refine returnsInHanded_of_change (C := Try.checked) own started (by kernel_rfl) Try.func10
    (ChangeSpec.witness6 (enc := enc) (C := Try.checked) false ⟨#[], #[.slice none 0 0], []⟩ 8 (by kernel_rfl) (by kernel_rfl) (by kernel_rfl) (by kernel_rfl)) ?_
  intro W base args ds gs before hval0 hW hcnd _
  have hval : ∀ (j : Nat) t v, Try.f10.params[j]? = some t → args[j]? = some v → Value.okWide Try.prog W .any base t v := hval0
  have hW' := hW
  obtain ⟨p, q, hA0, hV, rfl, hfz, hnd⟩ := hW
  have hA : DataW.TrodAll enc Try.prog W 0 (fun _ => true) true Try.f10.params.toList args.toList ds p := hA0
  rw [Try.params10] at hA hval
  obtain ⟨v0, vs0, d0, ds0, p0, q0, hargs, rfl, rfl, h0, r0⟩ := trodAll_cons hA
  obtain ⟨rfl, rfl, rfl⟩ := trodAll_nil r0
  obtain rfl : args = #[v0] := by cases args; simp_all
  obtain ⟨rfl, rfl⟩ := trodVars_none hV
  obtain ⟨a0, len0, cap0, rfl⟩ := okWide_slice Try.underlying22 (hval 0 22 v0 rfl rfl)
  have k0 := h0
  have lt0 : ∀ x ∈ p0, x.block < W.heap.size := by obtain ⟨m, hm⟩ := k0; exact DataW.trod_lt m _ _ _ hm
  obtain ⟨z0, w0⟩ : ∃ zs, IsRowK .u8 W a0 len0 cap0 zs := by
    obtain ⟨fuel, hf⟩ := h0
    rcases open_ints Try.underlying22 Try.underlying5 (by kernel_rfl) hf with ⟨hcs, _⟩ | ⟨x, l, c, zs, hcs, _, hl, hm, hz, _, hcell, hwz⟩
    · simp [Value.cells] at hcs
      obtain ⟨rfl, rfl, rfl⟩ := hcs
      exact ⟨[], .inl ⟨rfl, rfl, rfl, rfl⟩⟩
    · simp [Value.cells] at hcs
      obtain ⟨rfl, rfl, rfl⟩ := hcs
      exact ⟨zs, .inr ⟨_, rfl, hl, hm, by simpa using hz, hcell, hwz⟩⟩
  clear hA0 hval0
  refine (walk_FnPathLate a0 len0 cap0 z0 W w0).mono fun e W' ⟨he, bel⟩ => ?_
  subst he
  exact ⟨_, rfl, _, _, _, [], _, [], hW', trodAll_mk1 (shut_bool Try.underlying4 _), (trodAll_cons_mk (Below.trod laidOut (by kernel_rfl) (of_decide_eq_true (by kernel_rfl)) k0 bel lt0) trodAll_mk0), rfl, bel.frame _, fun h => by cases h⟩

theorem closed : joinedFacts Try.checked.prog 10 Try.f10 Rows.fnPathLateSpec Rows.fnPathLateRow = true := by
  unfold joinedFacts
  simp only [Bool.and_eq_true]
  repeat' (refine And.intro ?_ ?_)
  all_goals first
    | with_reducible exact may_enter
    | (rw [lifts_final]; kernel_rfl)
    | (rw [make_is]; kernel_rfl)
    | kernel_rfl

theorem over : Rows.fnPathLateRow.holds Try.pinned (OpenSpec.ofChange Rows.fnPathLateSpec) :=
  OpenClaim.holds_of_wide 10 Try.f10 rfl rfl rfl rfl rfl rfl rfl ⟨rfl, rfl, rfl, rfl, rfl⟩ rfl rfl rfl rfl rfl (by kernel_rfl) Try.func10 closed
    (of_decide_eq_true (by kernel_rfl)) (by unfold Func.isWrapper; first | (rw [if_pos (by decide +kernel)]; kernel_rfl) | (rw [if_neg (by decide +kernel)]; exact ⟨rfl, rfl⟩))
    (fun os started H enc _ => lifted os started H enc)

theorem proved : Rows.FnPathLateSaid := over
#print axioms proved
end Go.Proofs.Ytoebgdcgcdigaaa.fnPathLate
