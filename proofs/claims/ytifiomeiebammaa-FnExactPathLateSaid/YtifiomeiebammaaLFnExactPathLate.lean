/-
  For every input the law 'FnExactPathLate' returns true, and each of its arguments reads behind the call as it read before. Conditions: none beyond those of the row.
-/
import Derived.Test.YtifiomeiebammaaRows
import Derived.WalkKit
import Derived.ProofKit
import Derived.OpenShut
import Derived.ShutString
import Derived.ChangeOld
import Derived.Below
import Derived.Deep.Matrix
import Derived.Test.YtifiomeiebammaaLawK
import Derived.Test.YtifiomeiebammaaLateS
import Derived.Deep.DeepCutAuto
import Derived.Deep.RegionWith
namespace Go.Proofs.Ytifiomeiebammaa
open Go.RowKit

set_option maxRecDepth 100000 in
set_option maxHeartbeats 4000000 in
theorem walk_FnExactPathLate (a0 : Int) (v1 : Value) (a2 : Int) (w : World) (w0 : (Lit.int .i64 a0).wf = true) (w1 : IsPathK w v1) (w2 : (Lit.int .i64 a2).wf = true) :
    Calls Try.prog 5 #[.int .i64 a0, v1, .int .i64 a2] w fun e w' => e = .returned (.bool true) ∧ Below w.heap.size w w' := by
  have _ := w0
  have bd := bounds_i64 w2
  obtain ⟨u1, u2, rfl⟩ := w1.agg
  have q := below_alloc w (.cells #[u1, u2] 34)
  have pb := Pair.new w u1 u2 34
  have hk := w1.below q
  obtain ⟨W, hW⟩ : ∃ W, W = w.alloc (.cells #[u1, u2] 34) := ⟨_, rfl⟩
  rw [← hW] at q pb hk
  have HW := Lib.hid hW.symm
  have P := Lib.hid pb
  have K0 := pb.cell0
  have K1 := pb.cell1
  clear hW pb w1 w0 w2
  go_enter Try.func5, Try.ntmps5
  go_wp2_with fail
  rw [HW.out]
  refine (szPathK hk (by omega) (by omega)).mono ?_
  rintro e wa ⟨n, rfl, hn1, hn, ba⟩
  rcases Int.lt_or_le n 0 with hneg | hpos
  · have hd : decide (n < 0) = true := decide_eq_true hneg
    clear hn hk
    go_wp2_with fail
    go_ret
    exact ⟨rfl, chain q ba⟩
  have hd : decide (n < 0) = false := by simpa using hpos
  obtain ⟨p, h⟩ := hn hpos
  clear hn hk K0 K1
  have hpl := h.len
  have ka := (P.out.below ba).cell0
  have kb := (P.out.below ba).cell1
  have hrl := lateV_len a0 p a2
  obtain ⟨r, hr⟩ : ∃ r, r = lateV a0 p a2 := ⟨_, rfl⟩
  obtain ⟨ok, hok⟩ : ∃ ok, ok = lateW a0 p a2 := ⟨_, rfl⟩
  have HS : ∀ (W : World) (v : Value), PathV W v p → Calls Try.prog 26 #[.int .i64 a0, v, .int .i64 a2] W (MadePathB W r ok) := by
    intro W v q; rw [hr, hok]; exact specLate q bd
  have HI : ∀ (W : World) (v : Value), PathV W v p → Calls Try.prog 27 #[.int .i64 a0, v, .int .i64 a2] W (MadePathB W r ok) := by
    intro W v q; rw [hr, hok]; exact implLate q
  rw [← hr] at hrl
  have l1 : r.1.length ≤ 1048576 := by omega
  have l2 : r.2.length ≤ 1048576 := by omega
  have hl1 : (r.1.length : Int) ≤ 1048576 := by omega
  have hl2 : (r.2.length : Int) ≤ 1048576 := by omega
  have hp1 : (p.1.length : Int) ≤ 1048576 := by omega
  have hp2 : (p.2.length : Int) ≤ 1048576 := by omega
  have HS' := Lib.hid HS
  have HI' := Lib.hid HI
  clear hr hok hrl HS HI bd
  have HH0 := Lib.hid h
  go_wp2_with (go_at_call 23; refine (toPath (HH0.out.below ba)).mono ?_)
  rintro e wt ⟨vt, rfl, o1, b1⟩
  have c1 := chain ba b1
  go_wp2_with (go_at_call 26; refine (HS'.out _ _ (o1.pathV hpl.1 hpl.2)).mono ?_)
  rintro e wb ⟨vw, rfl, ow, b2⟩
  have c2 := chain c1 b2
  obtain ⟨a2', n2, d2, e2, m2, f2, rfl⟩ := ow.form
  have q2 := below_alloc wb (.cells #[.slice a2' n2 d2, .slice e2 m2 f2] 25)
  have pw := Pair.new wb (.slice a2' n2 d2) (.slice e2 m2 f2) 25
  have s2 : (wb.alloc (.cells #[.slice a2' n2 d2, .slice e2 m2 f2] 25)).heap.size = wb.heap.size + 1 := Go.Deep.nblk_alloc _ _
  obtain ⟨w8, hw8⟩ : ∃ X, X = wb.alloc (.cells #[.slice a2' n2 d2, .slice e2 m2 f2] 25) := ⟨_, rfl⟩
  rw [← hw8] at q2 pw s2
  have HW8 := Lib.hid hw8.symm
  have IW := Lib.hid ow.isIn
  have OW := Lib.hid (ow.below q2)
  have PW := Lib.hid pw
  have c3 := chain c2 q2
  have S2 := Lib.hid s2
  have k0 := (P.out.below c3).cell0
  have k1 := (P.out.below c3).cell1
  clear hw8 pw ow q2 b1 b2 o1 s2 ka kb
  go_upto_region 6 with fail
  rw [HW8.out]
  go_wp2_with (go_at_call 23; refine (toPath (HH0.out.below c3)).mono ?_)
  rintro e wd ⟨vx, rfl, ox, b4⟩
  have oxv := ox.pathV hpl.1 hpl.2
  obtain ⟨a3, n3, d3, e3, m3, f3, rfl⟩ := oxv.form
  have q3 := below_alloc wd (.cells #[.slice a3 n3 d3, .slice e3 m3 f3] 25)
  have px := Pair.new wd (.slice a3 n3 d3) (.slice e3 m3 f3) 25
  have s3 : (wd.alloc (.cells #[.slice a3 n3 d3, .slice e3 m3 f3] 25)).heap.size = wd.heap.size + 1 := Go.Deep.nblk_alloc _ _
  obtain ⟨w10, hw10⟩ : ∃ X, X = wd.alloc (.cells #[.slice a3 n3 d3, .slice e3 m3 f3] 25) := ⟨_, rfl⟩
  rw [← hw10] at q3 px s3
  have HW10 := Lib.hid hw10.symm
  have IX := Lib.hid ox.isIn
  have OX := Lib.hid (ox.below q3)
  have PX := Lib.hid px
  have OW := Lib.hid ((OW.out.below b4).below q3)
  have PW := Lib.hid ((PW.out.below b4).below q3)
  have c4 := chain (chain c3 b4) q3
  have Z4 := Lib.hid b4.size
  have S3 := Lib.hid s3
  clear hw10 px ox oxv q3 b4 s3 k0 k1
  have k2 := PX.out.cell0
  have k3 := PX.out.cell1
  go_upto_region 7 with fail
  rw [HW10.out]
  go_wp2_with (go_at_call 27; refine (HI'.out _ _ (OX.out.pathV hpl.1 hpl.2)).mono ?_)
  rintro e we ⟨vg, rfl, og, b5⟩
  obtain ⟨a5, n5, d5, e5, m5, f5, rfl⟩ := og.form
  have q5 := below_alloc we (.cells #[.slice a5 n5 d5, .slice e5 m5 f5] 25)
  have pg := Pair.new we (.slice a5 n5 d5) (.slice e5 m5 f5) 25
  obtain ⟨w11, hw11⟩ : ∃ X, X = we.alloc (.cells #[.slice a5 n5 d5, .slice e5 m5 f5] 25) := ⟨_, rfl⟩
  rw [← hw11] at q5 pg
  have HW11 := Lib.hid hw11.symm
  have IG := Lib.hid og.isIn
  have OG := Lib.hid (og.below q5)
  have PG := Lib.hid pg
  have OW := Lib.hid ((OW.out.below b5).below q5)
  have PW := Lib.hid ((PW.out.below b5).below q5)
  have OX := Lib.hid ((OX.out.below b5).below q5)
  have PX := Lib.hid ((PX.out.below b5).below q5)
  have c6 := chain (chain c4 b5) q5
  have Z5 := Lib.hid b5.size
  clear hw11 pg og q5 b5 k2 k3
  go_upto_region 8 with fail
  rw [HW11.out]
  have k0 := PW.out.cell0
  have k1 := PW.out.cell1
  have k2 := PG.out.cell0
  have k3 := PG.out.cell1
  go_wp2_with (go_at_call 25; refine (eqPaths2 (OG.out.pathV l1 l2) (OW.out.pathV l1 l2)).mono ?_)
  rintro e wg ⟨rfl, b6⟩
  have OW := Lib.hid (OW.out.below b6)
  have PW := Lib.hid (PW.out.below b6)
  have OG := Lib.hid (OG.out.below b6)
  have PG := Lib.hid (PG.out.below b6)
  have OX := Lib.hid (OX.out.below b6)
  have PX := Lib.hid (PX.out.below b6)
  have c7 := chain c6 b6
  clear k0 k1 k2 k3 b6
  have k0 := (P.out.below c7).cell0
  have k1 := (P.out.below c7).cell1
  have k2 := PX.out.cell0
  have k3 := PX.out.cell1
  go_upto_region 10 with fail
  go_cut [53] (fun s wx => s = .bool false ∧ Below wg.heap.size wg wx)
  case first =>
    have TP := Lib.hid (fun (W' : World) (b : Below wg.heap.size wg W') => toPath (HH0.out.below (chain c7 b)))
    have PP := Lib.hid (fun (W' : World) (b : Below wg.heap.size wg W') => And.intro (PX.out.below b).cell0 (PX.out.below b).cell1)
    have d4 : Below wg.heap.size wg wg.drew := (Below.refl _ _).drew
    have EQ := Lib.hid (fun (W' : World) (v : Value) (b : Below wg.heap.size wg W') (j : PathV W' v p) => eqPaths2 ((OX.out.pathV hpl.1 hpl.2).below b) j)
    go_region_with (first
      | (go_at_call 23; refine (TP.out _ d4).mono ?_; rintro e w5 ⟨v5, rfl, o5, b5⟩; have c5 := d4.trans (b5.mono d4.size); have j5 := o5.pathV hpl.1 hpl.2; have m1 := (PP.out _ c5).1; have m2 := (PP.out _ c5).2; clear o5 b5)
      | (go_at_call 25; refine (EQ.out _ _ c5 j5).mono ?_; rintro e w6 ⟨rfl, b6⟩))
    all_goals (go_wp2_with fail; go_meet; exact ⟨rfl, c5.trans (b6.mono c5.size)⟩)
  case rest =>
  obtain ⟨rfl, b7⟩ := hcut
  revert b7
  generalize wc = wi
  intro b7
  clear k0 k1 k2 k3
  have OW := Lib.hid (OW.out.below b7)
  have PW := Lib.hid (PW.out.below b7)
  have OG := Lib.hid (OG.out.below b7)
  have PG := Lib.hid (PG.out.below b7)
  have OX := Lib.hid (OX.out.below b7)
  have PX := Lib.hid (PX.out.below b7)
  have c9 := chain c7 b7
  clear b7
  have k2 := PX.out.cell0
  have k3 := PX.out.cell1
  go_wp2_with (go_at_call 28; refine (markPath OX.out IX.out hpl.1 hpl.2 (by omega) (by omega)).mono ?_)
  rintro e wj ⟨rfl, -, m9⟩
  have c10 := m9.below c9 c3.size
  have OW := Lib.hid (OW.out.keptIn m9 IW.out (.inl (by have := S2.out; omega)))
  have PW := Lib.hid (PW.out.keptIn m9 (.inl (by have := S2.out; omega)))
  have OG := Lib.hid (OG.out.keptIn m9 IG.out (.inr (by have := S3.out; omega)))
  have PG := Lib.hid (PG.out.keptIn m9 (.inr (by have := S3.out; have := Z5.out; omega)))
  clear m9 OX PX k2 k3
  have k0 := PW.out.cell0
  have k1 := PW.out.cell1
  have k2 := PG.out.cell0
  have k3 := PG.out.cell1
  have hneg : decide ((1 : Int) + p.1.length + p.2.length < 0) = false := by simp; omega
  go_wp2_with (go_at_call 25; refine (eqPaths2 (OG.out.pathV l1 l2) (OW.out.pathV l1 l2)).mono ?_)
  rintro e wk ⟨rfl, b10⟩
  have OW := Lib.hid (OW.out.below b10)
  have PW := Lib.hid (PW.out.below b10)
  have OG := Lib.hid (OG.out.below b10)
  have PG := Lib.hid (PG.out.below b10)
  have c11 := chain c10 b10
  clear k0 k1 k2 k3 b10 hneg
  have k2 := PG.out.cell0
  have k3 := PG.out.cell1
  go_wp2_with (go_at_call 28; refine (markPath OG.out IG.out l1 l2 (by omega) (by omega)).mono ?_)
  rintro e wl ⟨rfl, og, m11⟩
  have c12 := m11.below c11 (by have := c3.size; have := Z4.out; have := S3.out; omega)
  have OW := Lib.hid (OW.out.keptIn m11 IW.out (.inl (by have := S2.out; have := Z4.out; have := S3.out; omega)))
  have PW := Lib.hid (PW.out.keptIn m11 (.inl (by have := S2.out; have := Z4.out; have := S3.out; omega)))
  have PG := Lib.hid (PG.out.keptIn m11 (.inr (Nat.le_refl _)))
  have OG := Lib.hid og
  clear og m11 k2 k3
  have k2 := PG.out.cell0
  have k3 := PG.out.cell1
  have HM1 : ∀ i, i < (marks 1 r.1.length).length → (marks 1 r.1.length).getD i 0 = 1 + i := marks_held 1 _
  have HM2 : ∀ i, i < (marks (1 + (r.1.length : Int)) r.2.length).length → (marks (1 + (r.1.length : Int)) r.2.length).getD i 0 = 1 + (marks 1 r.1.length).length + i := fun i hi => by rw [marks_held _ _ i hi, marks_length]
  have HH := Lib.hid (fun (X : World) (v : Value) (j : PathV X v (marks 1 r.1.length, marks (1 + (r.1.length : Int)) r.2.length)) => heldPath j HM1 HM2 (by omega) (by omega))
  simp only [marks_length] at HH
  clear HM1 HM2
  go_wp2_with (go_at_call 29; refine (HH.out _ _ (marks_path OG.out l1 l2)).mono ?_)
  rintro e wm ⟨rfl, b12⟩
  have OW := Lib.hid (OW.out.below b12)
  have PW := Lib.hid (PW.out.below b12)
  have OG := Lib.hid (OG.out.below b12)
  have PG := Lib.hid (PG.out.below b12)
  have c13 := chain c12 b12
  have hneg : decide ((1 : Int) + r.1.length + r.2.length < 0) = false := by simp; omega
  clear k2 k3 b12
  have k0 := (P.out.below c13).cell0
  have k1 := (P.out.below c13).cell1
  go_wp2_with (go_at_call 23; refine (toPath (HH0.out.below c13)).mono ?_)
  rintro e wn ⟨vz, rfl, oz, b13⟩
  have c14 := chain c13 b13
  clear k0 k1
  go_wp2_with (go_at_call 27; refine (HI'.out _ _ (oz.pathV hpl.1 hpl.2)).mono ?_)
  rintro e wo ⟨vh, rfl, oh, b14⟩
  obtain ⟨a7, n7, d7, e7, m7, f7, rfl⟩ := oh.form
  have q7 := below_alloc wo (.cells #[.slice a7 n7 d7, .slice e7 m7 f7] 25)
  have ph := Pair.new wo (.slice a7 n7 d7) (.slice e7 m7 f7) 25
  obtain ⟨wp, hwp⟩ : ∃ X, X = wo.alloc (.cells #[.slice a7 n7 d7, .slice e7 m7 f7] 25) := ⟨_, rfl⟩
  rw [← hwp] at q7 ph
  have HWP := Lib.hid hwp.symm
  have OH := Lib.hid (oh.below q7)
  have PH := Lib.hid ph
  have OW := Lib.hid (((OW.out.below b13).below b14).below q7)
  have PW := Lib.hid (((PW.out.below b13).below b14).below q7)
  have OG := Lib.hid (((OG.out.below b13).below b14).below q7)
  have PG := Lib.hid (((PG.out.below b13).below b14).below q7)
  have c15 := chain (chain c14 b14) q7
  clear hwp ph oh q7 b13 b14 oz
  go_upto_region 25 with fail
  rw [HWP.out]
  have k0 := PW.out.cell0
  have k1 := PW.out.cell1
  have k2 := PH.out.cell0
  have k3 := PH.out.cell1
  go_wp2_with (go_at_call 25; refine (eqPaths2 (OH.out.pathV l1 l2) (OW.out.pathV l1 l2)).mono ?_)
  rintro e wq ⟨rfl, b15⟩
  have OG := Lib.hid (OG.out.below b15)
  have PG := Lib.hid (PG.out.below b15)
  have c16 := chain c15 b15
  clear k0 k1 k2 k3 b15
  have k2 := PG.out.cell0
  have k3 := PG.out.cell1
  go_wp2_with (go_at_call 29; refine (HH.out _ _ (marks_path OG.out l1 l2)).mono ?_)
  rintro e wr ⟨rfl, b16⟩
  go_wp2_with fail
  go_ret
  exact ⟨rfl, chain q (chain c16 b16)⟩

end Go.Proofs.Ytifiomeiebammaa

namespace Go.Proofs.Ytifiomeiebammaa.fnExactPathLate
open Go.ChangeShapes Go.WideShapes Go.ChangeAt Go.RowKit
open Go.ChangeMaps (open_string shut_string)
set_option linter.unusedVariables false

theorem own : ownKnob Try.prog.godebug = none := by kernel_rfl
theorem laidOut : laidOutB Try.prog = true := by kernel_rfl

set_option maxRecDepth 100000 in
theorem lifted (os : Os) (started : os.Started) (H : Type) (enc : TypeId × Value → H) :
    ReturnsInHanded {} Try.checked os 5 .any (Rows.fnExactPathLateSpec.pre6 enc Try.prog Try.f5 Rows.fnExactPathLateRow.domain false) (Rows.fnExactPathLateSpec.post enc Try.prog Try.f5 false true false false) := by
  refine returnsInHanded_of_change (C := Try.checked) own started (by kernel_rfl) Try.func5
    (ChangeSpec.witness6 (enc := enc) (C := Try.checked) false ⟨#[], #[.int .i64 0, .agg #[.slice none 0 0, .slice none 0 0], .int .i64 0], []⟩ 8 (by kernel_rfl) (by kernel_rfl) (by kernel_rfl) (by kernel_rfl)) ?_
  intro W base args ds gs before hval0 hW hcnd _
  have hval : ∀ (j : Nat) t v, Try.f5.params[j]? = some t → args[j]? = some v → Value.okWide Try.prog W .any base t v := hval0
  have hW' := hW
  obtain ⟨p, q, hA0, hV, rfl, hfz, hnd⟩ := hW
  have hA : DataW.TrodAll enc Try.prog W 0 (fun _ => true) true Try.f5.params.toList args.toList ds p := hA0
  rw [Try.params5] at hA hval
  obtain ⟨v0, vs0, d0, ds0, p0, q0, hargs, rfl, rfl, h0, r0⟩ := trodAll_cons hA
  obtain ⟨v1, vs1, d1, ds1, p1, q1, rfl, rfl, rfl, h1, r1⟩ := trodAll_cons r0
  obtain ⟨v2, vs2, d2, ds2, p2, q2, rfl, rfl, rfl, h2, r2⟩ := trodAll_cons r1
  obtain ⟨rfl, rfl, rfl⟩ := trodAll_nil r2
  obtain rfl : args = #[v0, v1, v2] := by cases args; simp_all
  obtain ⟨rfl, rfl⟩ := trodVars_none hV
  obtain ⟨a0, rfl, rfl, rfl, w0⟩ := open_int Try.underlying3 (hval 0 3 v0 rfl rfl) h0
  have w1 := open_path (hval 1 34 v1 rfl rfl) h1
  have k1 := h1
  have lt1 : ∀ x ∈ p1, x.block < W.heap.size := by obtain ⟨m, hm⟩ := k1; exact DataW.trod_lt m _ _ _ hm
  obtain ⟨a2, rfl, rfl, rfl, w2⟩ := open_int Try.underlying3 (hval 2 3 v2 rfl rfl) h2
  clear hA0 hval0
  refine (walk_FnExactPathLate a0 v1 a2 W w0 w1 w2).mono fun e W' ⟨he, bel⟩ => ?_
  subst he
  exact ⟨_, rfl, _, _, _, [], _, [], hW', trodAll_mk1 (shut_bool Try.underlying4 _), (trodAll_cons_mk (shut_int Try.underlying3 w0) (trodAll_cons_mk (Below.trod laidOut (by kernel_rfl) (of_decide_eq_true (by kernel_rfl)) k1 bel lt1) (trodAll_cons_mk (shut_int Try.underlying3 w2) trodAll_mk0))), rfl, bel.frame _, fun h => by cases h⟩

theorem over : Rows.fnExactPathLateRow.holds Try.pinned (OpenSpec.ofChange Rows.fnExactPathLateSpec) :=
  OpenClaim.holds_of_wide 5 Try.f5 rfl rfl rfl rfl rfl rfl rfl ⟨rfl, rfl, rfl, rfl, rfl⟩ rfl rfl rfl rfl rfl (by kernel_rfl) Try.func5 (by kernel_rfl)
    (of_decide_eq_true (by kernel_rfl)) (by unfold Func.isWrapper; first | (rw [if_pos (by decide +kernel)]; kernel_rfl) | (rw [if_neg (by decide +kernel)]; exact ⟨rfl, rfl⟩))
    (fun os started H enc _ => lifted os started H enc)

theorem proved : Rows.FnExactPathLateSaid := over
#print axioms proved
end Go.Proofs.Ytifiomeiebammaa.fnExactPathLate
