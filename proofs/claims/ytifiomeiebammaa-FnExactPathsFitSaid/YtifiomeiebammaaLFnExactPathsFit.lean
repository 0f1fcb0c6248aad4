/-
  For every input the law 'FnExactPathsFit' returns true, and each of its arguments reads behind the call as it read before. Conditions: none beyond those of the row.
-/
import Derived.Test.YtifiomeiebammaaRows
import Derived.WalkKit
import Derived.ProofKit
import Derived.OpenShut
import Derived.ShutString
import Derived.ChangeOld
import Derived.Below
import Derived.Deep.Matrix
import Derived.Test.YtifiomeiebammaaFit
import Derived.Test.YtifiomeiebammaaFitS
import Derived.Test.YtifiomeiebammaaPathsM
namespace Go.Proofs.Ytifiomeiebammaa
open Go.RowKit

set_option maxRecDepth 100000 in
set_option maxHeartbeats 4000000 in
theorem walk_FnExactPathsFit (a0 : Int) (v1 : Value) (a2 : Int) (a3 : Option Addr) (len3 cap3 : Nat) (z3 : List Int) (w : World) (w0 : (Lit.int .i64 a0).wf = true) (w1 : IsPathsK w v1) (w2 : (Lit.int .i64 a2).wf = true) (w3 : IsRowK .i64 w a3 len3 cap3 z3) :
    Calls Try.prog 13 #[.int .i64 a0, v1, .int .i64 a2, .slice a3 len3 cap3] w fun e w' => e = .returned (.bool true) ∧ Below w.heap.size w w' := by
  have _ := w0
  have _ := w2
  rcases Nat.lt_or_ge 1048576 len3 with hbig | hsm
  · have _ := w1
    have hb : (1048576 : Int) < (len3 : Int) := by omega
    go_enter Try.func13, Try.ntmps13
    go_wp2_with fail
    go_ret
    exact ⟨rfl, Below.refl _ _⟩
  have hb : (len3 : Int) ≤ 1048576 := by omega
  have k := ints_of_rowK w3 hsm
  generalize z3.take len3 = xs at k
  clear w0 w2 w3 hsm
  go_enter Try.func13, Try.ntmps13
  go_wp2_with (go_at_call 35; refine (szPathsK w1).mono ?_)
  rintro e wa ⟨n, rfl, hn1, hn, ba⟩
  rcases Int.lt_or_le n 0 with hneg | hpos
  · have hd : decide (n < 0) = true := decide_eq_true hneg
    clear hn w1
    go_wp2_with fail
    go_ret
    exact ⟨rfl, ba⟩
  have hd : decide (n < 0) = false := by simpa using hpos
  obtain ⟨ps, h⟩ := hn hpos
  clear hn w1
  have hpn := h.len
  have hrl := fitV_len a0 ps a2 xs
  obtain ⟨r, hr⟩ : ∃ r, r = fitV a0 ps a2 xs := ⟨_, rfl⟩
  obtain ⟨ok, hok⟩ : ∃ ok, ok = fitB a0 ps a2 xs := ⟨_, rfl⟩
  have HS : ∀ (W : World) (u v : Value), Paths W u ps → Ints W v xs → Calls Try.prog 48 #[.int .i64 a0, u, .int .i64 a2, v] W (MadePathB W r ok) := by
    intro W u v q q'; rw [hr, hok]; exact specFit q q'
  have HI : ∀ (W : World) (u v : Value), Paths W u ps → Ints W v xs → Calls Try.prog 49 #[.int .i64 a0, u, .int .i64 a2, v] W (MadePathB W r ok) := by
    intro W u v q q'; rw [hr, hok]; exact implFit q q'
  rw [← hr] at hrl
  have l1 : r.1.length ≤ 1048576 := by omega
  have l2 : r.2.length ≤ 1048576 := by omega
  have hl1 : (r.1.length : Int) ≤ 1048576 := by omega
  have hl2 : (r.2.length : Int) ≤ 1048576 := by omega
  have hxl : (xs.length : Int) ≤ 1048576 := by have := k.len; omega
  have hpl : (ps.length : Int) ≤ 1048576 := by omega
  have HS' := Lib.hid HS
  have HI' := Lib.hid HI
  have KK := Lib.hid k
  have HH0 := Lib.hid h
  have hkl := k.len
  clear hr hok hrl HS HI k h hb
  go_wp2_with (go_at_call 37; refine (toPaths (HH0.out.below ba)).mono ?_)
  rintro e wt ⟨vt, rfl, o1, b1⟩
  have c1 := chain ba b1
  go_wp2_with (go_at_call 47; refine (toInts (KK.out.below c1)).mono ?_)
  rintro e wu ⟨vu, rfl, o2, b2⟩
  have c2 := chain c1 b2
  go_wp2_with (go_at_call 48; refine (HS'.out _ _ _ (o1.below b2).paths (o2.ints hkl)).mono ?_)
  rintro e wb ⟨vw, rfl, ow, b3⟩
  have c3' := chain c2 b3
  obtain ⟨a2', n2, d2, e2, m2, f2, rfl⟩ := ow.form
  have q2 := below_alloc wb (.cells #[.slice a2' n2 d2, .slice e2 m2 f2] 25)
  have pw := Pair.new wb (.slice a2' n2 d2) (.slice e2 m2 f2) 25
  have s2 : (wb.alloc (.cells #[.slice a2' n2 d2, .slice e2 m2 f2] 25)).heap.size = wb.heap.size + 1 := Go.Deep.nblk_alloc _ _
  obtain ⟨w8, hw8⟩ : ∃ X, X = wb.alloc (.cells #[.slice a2' n2 d2, .slice e2 m2 f2] 25) := ⟨_, rfl⟩
  rw [← hw8] at q2 pw s2
  have HW8 := Lib.hid hw8.symm
  have IW := Lib.hid ow.isIn
  have OW := Lib.hid (ow.below q2)
  have PW := Lib.hid pw
  have c3 := chain c3' q2
  have S2 := Lib.hid s2
  clear hw8 pw ow q2 b1 b2 b3 o1 o2 s2
  go_upto_region 8 with fail
  rw [HW8.out]
  go_wp2_with (go_at_call 37; refine (toPaths (HH0.out.below c3)).mono ?_)
  rintro e wd ⟨vx, rfl, ox, b4⟩
  have OX := Lib.hid ox
  have OW := Lib.hid (OW.out.below b4)
  have PW := Lib.hid (PW.out.below b4)
  have c4 := chain c3 b4
  have Z4 := Lib.hid b4.size
  obtain ⟨gx, hvx⟩ : ∃ g, vx = .slice (some ⟨g, 0, none⟩) ps.length ps.length := by obtain ⟨g, e, _⟩ := ox; exact ⟨g, e⟩
  subst hvx
  clear ox b4
  go_wp2_with (go_at_call 47; refine (toInts (KK.out.below c4)).mono ?_)
  rintro e w10 ⟨vy, rfl, oy, b5⟩
  have UY := Lib.hid oy.under
  have OW := Lib.hid (OW.out.below b5)
  have PW := Lib.hid (PW.out.below b5)
  have c5 := chain c4 b5
  have d5 := b5
  have Z5' := Lib.hid b5.size
  clear b5
  go_wp2_with (go_at_call 49; refine (HI'.out _ _ _ (OX.out.below d5).paths (oy.ints hkl)).mono ?_)
  rintro e we ⟨vg, rfl, og, b6⟩
  obtain ⟨a5, n5, d5', e5, m5, f5, rfl⟩ := og.form
  have q5 := below_alloc we (.cells #[.slice a5 n5 d5', .slice e5 m5 f5] 25)
  have pg := Pair.new we (.slice a5 n5 d5') (.slice e5 m5 f5) 25
  obtain ⟨w11, hw11⟩ : ∃ X, X = we.alloc (.cells #[.slice a5 n5 d5', .slice e5 m5 f5] 25) := ⟨_, rfl⟩
  rw [← hw11] at q5 pg
  have HW11 := Lib.hid hw11.symm
  have IG := Lib.hid og.isIn
  have OG := Lib.hid (og.below q5)
  have PG := Lib.hid pg
  have OW := Lib.hid ((OW.out.below b6).below q5)
  have PW := Lib.hid ((PW.out.below b6).below q5)
  have OY := Lib.hid ((oy.below b6).below q5)
  have c6 := chain (chain c5 b6) q5
  have d6 := chain (chain d5 b6) q5
  have Z5 := Lib.hid b6.size
  clear hw11 pg og q5 b6 oy d5
  go_upto_region 11 with fail
  rw [HW11.out]
  have k0 := PW.out.cell0
  have k1 := PW.out.cell1
  have k2 := PG.out.cell0
  have k3 := PG.out.cell1
  go_wp2_with (go_at_call 25; refine (eqPaths2 (OG.out.pathV l1 l2) (OW.out.pathV l1 l2)).mono ?_)
  rintro e wg ⟨rfl, b7⟩
  have OW := Lib.hid (OW.out.below b7)
  have PW := Lib.hid (PW.out.below b7)
  have OG := Lib.hid (OG.out.below b7)
  have PG := Lib.hid (PG.out.below b7)
  have OY := Lib.hid (OY.out.below b7)
  have c7 := chain c6 b7
  have d7 := chain d6 b7
  clear k0 k1 k2 k3 b7
  go_wp2_with (go_at_call 37; refine (toPaths (HH0.out.below c7)).mono ?_)
  rintro e wh ⟨vp, rfl, op, b8⟩
  have c8 := chain c7 b8
  have d8 := chain d7 b8
  go_wp2_with (go_at_call 39; refine (eqPathsS (OX.out.below d8).paths op.paths).mono ?_)
  rintro e wi ⟨rfl, b9⟩
  have c9 := chain c8 b9
  have d9 := chain d8 b9
  have OW := Lib.hid ((OW.out.below b8).below b9)
  have PW := Lib.hid ((PW.out.below b8).below b9)
  have OG := Lib.hid ((OG.out.below b8).below b9)
  have PG := Lib.hid ((PG.out.below b8).below b9)
  have OY := Lib.hid ((OY.out.below b8).below b9)
  clear b8 b9 op
  go_wp2_with (go_at_call 47; refine (toInts (KK.out.below c9)).mono ?_)
  rintro e wj ⟨vq, rfl, oq, b10⟩
  have OY := Lib.hid (OY.out.below b10)
  have c10 := chain c9 b10
  have d10 := chain d9 b10
  go_wp2_with (go_at_call 32; refine (eqInts (OY.out.ints hkl) (oq.ints hkl)).mono ?_)
  rintro e wk ⟨rfl, b11⟩
  have OW := Lib.hid ((OW.out.below b10).below b11)
  have PW := Lib.hid ((PW.out.below b10).below b11)
  have OG := Lib.hid ((OG.out.below b10).below b11)
  have PG := Lib.hid ((PG.out.below b10).below b11)
  have OY := Lib.hid (OY.out.below b11)
  have c11 := chain c10 b11
  have d11 := chain d10 b11
  clear oq b10 b11
  go_wp2_with (go_at_call 50; refine (markPaths OX.out d11 (by omega) (by omega)).mono ?_)
  rintro e wl ⟨n9, rfl, hn9, hn9', m9⟩
  have c12 := m9.below c11 c3.size
  have OW := Lib.hid (OW.out.keptIn m9 IW.out (.inl (by have := S2.out; omega)))
  have PW := Lib.hid (PW.out.keptIn m9 (.inl (by have := S2.out; omega)))
  have OG := Lib.hid (OG.out.keptIn m9 IG.out (.inr Z5'.out))
  have PG := Lib.hid (PG.out.keptIn m9 (.inr (Nat.le_trans Z5'.out Z5.out)))
  have OY := Lib.hid (OY.out.keptIn m9 (fun b e => .inr (UY.out b e).1))
  clear m9 d11
  go_wp2_with (go_at_call 33; refine (markInts OY.out hkl (by omega) (by omega)).mono ?_)
  rintro e wm ⟨rfl, -, g13⟩
  have m13 : GrownIn wl wm wd.heap.size w10.heap.size := GrownIn.of_grown g13 (fun b e => UY.out b e)
  have c13 := m13.below c12 c4.size
  have OW := Lib.hid (OW.out.keptIn m13 IW.out (.inl (by have := S2.out; have := Z4.out; omega)))
  have PW := Lib.hid (PW.out.keptIn m13 (.inl (by have := S2.out; have := Z4.out; omega)))
  have OG := Lib.hid (OG.out.keptIn m13 IG.out (.inr (Nat.le_refl _)))
  have PG := Lib.hid (PG.out.keptIn m13 (.inr Z5.out))
  clear m13 g13 OY
  have k0 := PW.out.cell0
  have k1 := PW.out.cell1
  have k2 := PG.out.cell0
  have k3 := PG.out.cell1
  have hneg : decide (n9 + xs.length < 0) = false := by simp; omega
  go_wp2_with (go_at_call 25; refine (eqPaths2 (OG.out.pathV l1 l2) (OW.out.pathV l1 l2)).mono ?_)
  rintro e wn ⟨rfl, b14⟩
  have OW := Lib.hid (OW.out.below b14)
  have PW := Lib.hid (PW.out.below b14)
  have OG := Lib.hid (OG.out.below b14)
  have PG := Lib.hid (PG.out.below b14)
  have c14 := chain c13 b14
  clear k0 k1 k2 k3 b14 hneg
  have k2 := PG.out.cell0
  have k3 := PG.out.cell1
  go_wp2_with (go_at_call 28; refine (markPath OG.out IG.out l1 l2 (by omega) (by omega)).mono ?_)
  rintro e wo ⟨rfl, og, m15⟩
  have c15 := m15.below c14 (Nat.le_trans c4.size Z5'.out)
  have OW := Lib.hid (OW.out.keptIn m15 IW.out (.inl (by have := S2.out; have := Z4.out; have := Z5'.out; omega)))
  have PW := Lib.hid (PW.out.keptIn m15 (.inl (by have := S2.out; have := Z4.out; have := Z5'.out; omega)))
  have PG := Lib.hid (PG.out.keptIn m15 (.inr (Nat.le_refl _)))
  have OG := Lib.hid og
  clear og m15 k2 k3
  have k2 := PG.out.cell0
  have k3 := PG.out.cell1
  have HM1 : ∀ i, i < (marks 1 r.1.length).length → (marks 1 r.1.length).getD i 0 = 1 + i := marks_held 1 _
  have HM2 : ∀ i, i < (marks (1 + (r.1.length : Int)) r.2.length).length → (marks (1 + (r.1.length : Int)) r.2.length).getD i 0 = 1 + (marks 1 r.1.length).length + i := fun i hi => by rw [marks_held _ _ i hi, marks_length]
  have HH := Lib.hid (fun (X : World) (v : Value) (j : PathV X v (marks 1 r.1.length, marks (1 + (r.1.length : Int)) r.2.length)) => heldPath j HM1 HM2 (by omega) (by omega))
  simp only [marks_length] at HH
  clear HM1 HM2
  go_wp2_with (go_at_call 29; refine (HH.out _ _ (marks_path OG.out l1 l2)).mono ?_)
  rintro e wp ⟨rfl, b16⟩
  have OW := Lib.hid (OW.out.below b16)
  have PW := Lib.hid (PW.out.below b16)
  have OG := Lib.hid (OG.out.below b16)
  have PG := Lib.hid (PG.out.below b16)
  have c16 := chain c15 b16
  have hneg : decide ((1 : Int) + r.1.length + r.2.length < 0) = false := by simp; omega
  clear k2 k3 b16
  go_wp2_with (go_at_call 37; refine (toPaths (HH0.out.below c16)).mono ?_)
  rintro e wq ⟨vz, rfl, oz, b17⟩
  have c17 := chain c16 b17
  go_wp2_with (go_at_call 47; refine (toInts (KK.out.below c17)).mono ?_)
  rintro e wr ⟨vr, rfl, or', b18⟩
  have c18 := chain c17 b18
  go_wp2_with (go_at_call 49; refine (HI'.out _ _ _ (oz.below b18).paths (or'.ints hkl)).mono ?_)
  rintro e ws ⟨vh, rfl, oh, b19⟩
  obtain ⟨a7, n7, d7', e7, m7, f7, rfl⟩ := oh.form
  have q7 := below_alloc ws (.cells #[.slice a7 n7 d7', .slice e7 m7 f7] 25)
  have ph := Pair.new ws (.slice a7 n7 d7') (.slice e7 m7 f7) 25
  obtain ⟨wv, hwv⟩ : ∃ X, X = ws.alloc (.cells #[.slice a7 n7 d7', .slice e7 m7 f7] 25) := ⟨_, rfl⟩
  rw [← hwv] at q7 ph
  have HWV := Lib.hid hwv.symm
  have OH := Lib.hid (oh.below q7)
  have PH := Lib.hid ph
  have OW := Lib.hid ((((OW.out.below b17).below b18).below b19).below q7)
  have PW := Lib.hid ((((PW.out.below b17).below b18).below b19).below q7)
  have OG := Lib.hid ((((OG.out.below b17).below b18).below b19).below q7)
  have PG := Lib.hid ((((PG.out.below b17).below b18).below b19).below q7)
  have c20 := chain (chain c18 b19) q7
  clear hwv ph oh q7 b17 b18 b19 oz or'
  go_upto_region 31 with fail
  rw [HWV.out]
  have k0 := PW.out.cell0
  have k1 := PW.out.cell1
  have k2 := PH.out.cell0
  have k3 := PH.out.cell1
  go_wp2_with (go_at_call 25; refine (eqPaths2 (OH.out.pathV l1 l2) (OW.out.pathV l1 l2)).mono ?_)
  rintro e wx ⟨rfl, b21⟩
  have OG := Lib.hid (OG.out.below b21)
  have PG := Lib.hid (PG.out.below b21)
  have c21 := chain c20 b21
  clear k0 k1 k2 k3 b21
  have k2 := PG.out.cell0
  have k3 := PG.out.cell1
  go_wp2_with (go_at_call 29; refine (HH.out _ _ (marks_path OG.out l1 l2)).mono ?_)
  rintro e wy ⟨rfl, b22⟩
  go_wp2_with fail
  go_ret
  exact ⟨rfl, chain c21 b22⟩

end Go.Proofs.Ytifiomeiebammaa

namespace Go.Proofs.Ytifiomeiebammaa.fnExactPathsFit
open Go.ChangeShapes Go.WideShapes Go.ChangeAt Go.RowKit
open Go.ChangeMaps (open_string shut_string)
set_option linter.unusedVariables false

theorem own : ownKnob Try.prog.godebug = none := by kernel_rfl
theorem laidOut : laidOutB Try.prog = true := by kernel_rfl

set_option maxRecDepth 100000 in
theorem lifted (os : Os) (started : os.Started) (H : Type) (enc : TypeId × Value → H) :
    ReturnsInHanded {} Try.checked os 13 .any (Rows.fnExactPathsFitSpec.pre6 enc Try.prog Try.f13 Rows.fnExactPathsFitRow.domain false) (Rows.fnExactPathsFitSpec.post enc Try.prog Try.f13 false true false false) := by
  refine returnsInHanded_of_change (C := Try.checked) own started (by kernel_rfl) Try.func13
    (ChangeSpec.witness6 (enc := enc) (C := Try.checked) false ⟨#[], #[.int .i64 0, .slice none 0 0, .int .i64 0, .slice none 0 0], []⟩ 8 (by kernel_rfl) (by kernel_rfl) (by kernel_rfl) (by kernel_rfl)) ?_
  intro W base args ds gs before hval0 hW hcnd _
  have hval : ∀ (j : Nat) t v, Try.f13.params[j]? = some t → args[j]? = some v → Value.okWide Try.prog W .any base t v := hval0
  have hW' := hW
  obtain ⟨p, q, hA0, hV, rfl, hfz, hnd⟩ := hW
  have hA : DataW.TrodAll enc Try.prog W 0 (fun _ => true) true Try.f13.params.toList args.toList ds p := hA0
  rw [Try.params13] at hA hval
  obtain ⟨v0, vs0, d0, ds0, p0, q0, hargs, rfl, rfl, h0, r0⟩ := trodAll_cons hA
  obtain ⟨v1, vs1, d1, ds1, p1, q1, rfl, rfl, rfl, h1, r1⟩ := trodAll_cons r0
  obtain ⟨v2, vs2, d2, ds2, p2, q2, rfl, rfl, rfl, h2, r2⟩ := trodAll_cons r1
  obtain ⟨v3, vs3, d3, ds3, p3, q3, rfl, rfl, rfl, h3, r3⟩ := trodAll_cons r2
  obtain ⟨rfl, rfl, rfl⟩ := trodAll_nil r3
  obtain rfl : args = #[v0, v1, v2, v3] := by cases args; simp_all
  obtain ⟨rfl, rfl⟩ := trodVars_none hV
  obtain ⟨a0, rfl, rfl, rfl, w0⟩ := open_int Try.underlying3 (hval 0 3 v0 rfl rfl) h0
  have w1 := open_paths (hval 1 46 v1 rfl rfl) h1
  have k1 := h1
  have lt1 : ∀ x ∈ p1, x.block < W.heap.size := by obtain ⟨m, hm⟩ := k1; exact DataW.trod_lt m _ _ _ hm
  obtain ⟨a2, rfl, rfl, rfl, w2⟩ := open_int Try.underlying3 (hval 2 3 v2 rfl rfl) h2
  obtain ⟨a3, len3, cap3, rfl⟩ := okWide_slice Try.underlying23 (hval 3 23 v3 rfl rfl)
  have k3 := h3
  have lt3 : ∀ x ∈ p3, x.block < W.heap.size := by obtain ⟨m, hm⟩ := k3; exact DataW.trod_lt m _ _ _ hm
  obtain ⟨z3, w3⟩ : ∃ zs, IsRowK .i64 W a3 len3 cap3 zs := by
    obtain ⟨fuel, hf⟩ := h3
    rcases open_ints Try.underlying23 Try.underlying3 (by kernel_rfl) hf with ⟨hcs, _⟩ | ⟨x, l, c, zs, hcs, _, hl, hm, hz, _, hcell, hwz⟩
    · simp [Value.cells] at hcs
      obtain ⟨rfl, rfl, rfl⟩ := hcs
      exact ⟨[], .inl ⟨rfl, rfl, rfl, rfl⟩⟩
    · simp [Value.cells] at hcs
      obtain ⟨rfl, rfl, rfl⟩ := hcs
      exact ⟨zs, .inr ⟨_, rfl, hl, hm, by simpa using hz, hcell, hwz⟩⟩
  clear hA0 hval0
  refine (walk_FnExactPathsFit a0 v1 a2 a3 len3 cap3 z3 W w0 w1 w2 w3).mono fun e W' ⟨he, bel⟩ => ?_
  subst he
  exact ⟨_, rfl, _, _, _, [], _, [], hW', trodAll_mk1 (shut_bool Try.underlying4 _), (trodAll_cons_mk (shut_int Try.underlying3 w0) (trodAll_cons_mk (Below.trod laidOut (by kernel_rfl) (of_decide_eq_true (by kernel_rfl)) k1 bel lt1) (trodAll_cons_mk (shut_int Try.underlying3 w2) (trodAll_cons_mk (Below.trod laidOut (by kernel_rfl) (of_decide_eq_true (by kernel_rfl)) k3 bel lt3) trodAll_mk0)))), rfl, bel.frame _, fun h => by cases h⟩

theorem over : Rows.fnExactPathsFitRow.holds Try.pinned (OpenSpec.ofChange Rows.fnExactPathsFitSpec) :=
  OpenClaim.holds_of_wide 13 Try.f13 rfl rfl rfl rfl rfl rfl rfl ⟨rfl, rfl, rfl, rfl, rfl⟩ rfl rfl rfl rfl rfl (by kernel_rfl) Try.func13 (by kernel_rfl)
    (of_decide_eq_true (by kernel_rfl)) (by unfold Func.isWrapper; first | (rw [if_pos (by decide +kernel)]; kernel_rfl) | (rw [if_neg (by decide +kernel)]; exact ⟨rfl, rfl⟩))
    (fun os started H enc _ => lifted os started H enc)

theorem proved : Rows.FnExactPathsFitSaid := over
#print axioms proved
end Go.Proofs.Ytifiomeiebammaa.fnExactPathsFit
