/-
  For every input the law 'FnExactPathRun' returns true, and each of its arguments reads behind the call as it read before. Conditions: none beyond those of the row.
-/
import Derived.Test.YtifiomeiebammaaRows
import Derived.WalkKit
import Derived.ProofKit
import Derived.OpenShut
import Derived.ShutString
import Derived.ChangeOld
import Derived.Below
import Derived.Deep.Matrix
import Derived.Test.YtifiomeiebammaaLawK
import Derived.Test.YtifiomeiebammaaRun
namespace Go.Proofs.Ytifiomeiebammaa
open Go.RowKit

set_option maxRecDepth 100000 in
set_option maxHeartbeats 4000000 in
theorem walk_FnExactPathRun (a0 : Int) (a1 : Option Addr) (len1 cap1 : Nat) (z1 : List Int) (w : World) (w0 : (Lit.int .i64 a0).wf = true) (w1 : IsRowK .i64 w a1 len1 cap1 z1) :
    Calls Try.prog 12 #[.int .i64 a0, .slice a1 len1 cap1] w fun e w' => e = .returned (.bool true) ∧ Below w.heap.size w w' := by
  have bd := bounds_i64 w0
  rcases Nat.lt_or_ge 1048576 len1 with hbig | hsm
  · have hb : (1048576 : Int) < (len1 : Int) := by omega
    go_enter Try.func12, Try.ntmps12
    go_wp2_with fail
    go_ret
    exact ⟨rfl, Below.refl _ _⟩
  have hb : (len1 : Int) ≤ 1048576 := by omega
  have k := ints_of_rowK w1 hsm
  generalize z1.take len1 = xs at k
  clear w1 hsm
  have hpl := runOf_len a0 xs
  obtain ⟨p, hp⟩ : ∃ p, p = runOf a0 xs := ⟨_, rfl⟩
  obtain ⟨ok, hok⟩ : ∃ ok, ok = runB a0 xs := ⟨_, rfl⟩
  have HS : ∀ (W : World) (v : Value), Ints W v xs → Calls Try.prog 46 #[.int .i64 a0, v] W (MadePathB W p ok) := by
    intro W v q; rw [hp, hok]; exact specRun q
  have HI : ∀ (W : World) (v : Value), Ints W v xs → Calls Try.prog 18 #[.int .i64 a0, v] W (MadePathB W p ok) := by
    intro W v q; rw [hp, hok]; exact implRun q bd
  rw [← hp] at hpl
  have l1 : p.1.length ≤ 1048576 := by omega
  have l2 : p.2.length ≤ 1048576 := by omega
  have hl1 : (p.1.length : Int) ≤ 1048576 := by omega
  have hl2 : (p.2.length : Int) ≤ 1048576 := by omega
  have hxl : (xs.length : Int) ≤ 1048576 := by have := k.len; omega
  have HS' := Lib.hid HS
  have HI' := Lib.hid HI
  clear hp hok hpl HS HI
  go_enter Try.func12, Try.ntmps12
  go_wp2_with (go_at_call 47; refine (toInts k).mono ?_)
  rintro e wa ⟨v1, rfl, o1, b1⟩
  go_wp2_with (go_at_call 46; refine (HS'.out _ _ (o1.ints k.len)).mono ?_)
  rintro e wb ⟨vw, rfl, ow, b2⟩
  have c2 := chain b1 b2
  obtain ⟨a2, n2, d2, e2, m2, f2, rfl⟩ := ow.form
  have q2 := below_alloc wb (.cells #[.slice a2 n2 d2, .slice e2 m2 f2] 25)
  have pw := Pair.new wb (.slice a2 n2 d2) (.slice e2 m2 f2) 25
  have s2 : (wb.alloc (.cells #[.slice a2 n2 d2, .slice e2 m2 f2] 25)).heap.size = wb.heap.size + 1 := Go.Deep.nblk_alloc _ _
  obtain ⟨wc, hwc⟩ : ∃ X, X = wb.alloc (.cells #[.slice a2 n2 d2, .slice e2 m2 f2] 25) := ⟨_, rfl⟩
  rw [← hwc] at q2 pw s2
  have HWC := Lib.hid hwc.symm
  have IW := Lib.hid ow.isIn
  have OW := Lib.hid (ow.below q2)
  have PW := Lib.hid pw
  have c3 := chain c2 q2
  have S2 := Lib.hid s2
  clear hwc pw ow q2 b1 b2 o1 s2
  go_upto_region 4 with fail
  rw [HWC.out]
  go_wp2_with (go_at_call 47; refine (toInts (k.below c3)).mono ?_)
  rintro e wd ⟨vx, rfl, ox, b4⟩
  have UX := Lib.hid ox.under
  have OW := Lib.hid (OW.out.below b4)
  have PW := Lib.hid (PW.out.below b4)
  have c4 := chain c3 b4
  have Z4 := Lib.hid b4.size
  go_wp2_with (go_at_call 18; refine (HI'.out _ _ (ox.ints k.len)).mono ?_)
  rintro e we ⟨vg, rfl, og, b5⟩
  obtain ⟨a5, n5, d5, e5, m5, f5, rfl⟩ := og.form
  have q5 := below_alloc we (.cells #[.slice a5 n5 d5, .slice e5 m5 f5] 25)
  have pg := Pair.new we (.slice a5 n5 d5) (.slice e5 m5 f5) 25
  obtain ⟨wf, hwf⟩ : ∃ X, X = we.alloc (.cells #[.slice a5 n5 d5, .slice e5 m5 f5] 25) := ⟨_, rfl⟩
  rw [← hwf] at q5 pg
  have HWF := Lib.hid hwf.symm
  have IG := Lib.hid og.isIn
  have OG := Lib.hid (og.below q5)
  have PG := Lib.hid pg
  have OW := Lib.hid ((OW.out.below b5).below q5)
  have PW := Lib.hid ((PW.out.below b5).below q5)
  have OX := Lib.hid ((ox.below b5).below q5)
  have c6 := chain (chain c4 b5) q5
  have Z5 := Lib.hid b5.size
  clear hwf pg og q5 b4 b5 ox
  go_upto_region 6 with fail
  rw [HWF.out]
  have k0 := PW.out.cell0
  have k1 := PW.out.cell1
  have k2 := PG.out.cell0
  have k3 := PG.out.cell1
  go_wp2_with (go_at_call 25; refine (eqPaths2 (OG.out.pathV l1 l2) (OW.out.pathV l1 l2)).mono ?_)
  rintro e wg ⟨rfl, b6⟩
  have OW := Lib.hid (OW.out.below b6)
  have PW := Lib.hid (PW.out.below b6)
  have OG := Lib.hid (OG.out.below b6)
  have PG := Lib.hid (PG.out.below b6)
  have OX := Lib.hid (OX.out.below b6)
  have c7 := chain c6 b6
  clear k0 k1 k2 k3 b6
  go_wp2_with (go_at_call 47; refine (toInts (k.below c7)).mono ?_)
  rintro e wh ⟨vy, rfl, oy, b7⟩
  have OX := Lib.hid (OX.out.below b7)
  have c8 := chain c7 b7
  go_wp2_with (go_at_call 32; refine (eqInts (OX.out.ints k.len) (oy.ints k.len)).mono ?_)
  rintro e wi ⟨rfl, b8⟩
  have OW := Lib.hid ((OW.out.below b7).below b8)
  have PW := Lib.hid ((PW.out.below b7).below b8)
  have OG := Lib.hid ((OG.out.below b7).below b8)
  have PG := Lib.hid ((PG.out.below b7).below b8)
  have OX := Lib.hid (OX.out.below b8)
  have c9 := chain c8 b8
  clear oy b7 b8
  go_wp2_with (go_at_call 33; refine (markInts OX.out k.len (by omega) (by omega)).mono ?_)
  rintro e wj ⟨rfl, -, g9⟩
  have m9 : GrownIn wi wj wc.heap.size wd.heap.size := GrownIn.of_grown g9 (fun b e => UX.out b e)
  have c10 := m9.below c9 c3.size
  have OW := Lib.hid (OW.out.keptIn m9 IW.out (.inl (by have := S2.out; omega)))
  have PW := Lib.hid (PW.out.keptIn m9 (.inl (by have := S2.out; omega)))
  have OG := Lib.hid (OG.out.keptIn m9 IG.out (.inr (Nat.le_refl _)))
  have PG := Lib.hid (PG.out.keptIn m9 (.inr Z5.out))
  clear g9 m9 OX
  have k0 := PW.out.cell0
  have k1 := PW.out.cell1
  have k2 := PG.out.cell0
  have k3 := PG.out.cell1
  have hneg : decide ((1 : Int) + xs.length < 0) = false := by simp; omega
  go_wp2_with (go_at_call 25; refine (eqPaths2 (OG.out.pathV l1 l2) (OW.out.pathV l1 l2)).mono ?_)
  rintro e wk ⟨rfl, b10⟩
  have OW := Lib.hid (OW.out.below b10)
  have PW := Lib.hid (PW.out.below b10)
  have OG := Lib.hid (OG.out.below b10)
  have PG := Lib.hid (PG.out.below b10)
  have c11 := chain c10 b10
  clear k0 k1 k2 k3 b10 hneg
  have k2 := PG.out.cell0
  have k3 := PG.out.cell1
  go_wp2_with (go_at_call 28; refine (markPath OG.out IG.out l1 l2 (by omega) (by omega)).mono ?_)
  rintro e wl ⟨rfl, og, m11⟩
  have c12 := m11.below c11 (Nat.le_trans c3.size Z4.out)
  have OW := Lib.hid (OW.out.keptIn m11 IW.out (.inl (by have := S2.out; have := Z4.out; omega)))
  have PW := Lib.hid (PW.out.keptIn m11 (.inl (by have := S2.out; have := Z4.out; omega)))
  have PG := Lib.hid (PG.out.keptIn m11 (.inr (Nat.le_refl _)))
  have OG := Lib.hid og
  clear og m11 k2 k3
  have k2 := PG.out.cell0
  have k3 := PG.out.cell1
  have HM1 : ∀ i, i < (marks 1 p.1.length).length → (marks 1 p.1.length).getD i 0 = 1 + i := marks_held 1 _
  have HM2 : ∀ i, i < (marks (1 + (p.1.length : Int)) p.2.length).length → (marks (1 + (p.1.length : Int)) p.2.length).getD i 0 = 1 + (marks 1 p.1.length).length + i := fun i hi => by rw [marks_held _ _ i hi, marks_length]
  have HH := Lib.hid (fun (X : World) (v : Value) (j : PathV X v (marks 1 p.1.length, marks (1 + (p.1.length : Int)) p.2.length)) => heldPath j HM1 HM2 (by omega) (by omega))
  simp only [marks_length] at HH
  clear HM1 HM2
  go_wp2_with (go_at_call 29; refine (HH.out _ _ (marks_path OG.out l1 l2)).mono ?_)
  rintro e wm ⟨rfl, b12⟩
  have OW := Lib.hid (OW.out.below b12)
  have PW := Lib.hid (PW.out.below b12)
  have OG := Lib.hid (OG.out.below b12)
  have PG := Lib.hid (PG.out.below b12)
  have c13 := chain c12 b12
  have hneg : decide ((1 : Int) + p.1.length + p.2.length < 0) = false := by simp; omega
  clear k2 k3 b12
  go_wp2_with (go_at_call 47; refine (toInts (k.below c13)).mono ?_)
  rintro e wn ⟨vz, rfl, oz, b13⟩
  have c14 := chain c13 b13
  go_wp2_with (go_at_call 18; refine (HI'.out _ _ (oz.ints k.len)).mono ?_)
  rintro e wo ⟨vh, rfl, oh, b14⟩
  obtain ⟨a7, n7, d7, e7, m7, f7, rfl⟩ := oh.form
  have q7 := below_alloc wo (.cells #[.slice a7 n7 d7, .slice e7 m7 f7] 25)
  have ph := Pair.new wo (.slice a7 n7 d7) (.slice e7 m7 f7) 25
  obtain ⟨wp, hwp⟩ : ∃ X, X = wo.alloc (.cells #[.slice a7 n7 d7, .slice e7 m7 f7] 25) := ⟨_, rfl⟩
  rw [← hwp] at q7 ph
  have HWP := Lib.hid hwp.symm
  have OH := Lib.hid (oh.below q7)
  have PH := Lib.hid ph
  have OW := Lib.hid (((OW.out.below b13).below b14).below q7)
  have PW := Lib.hid (((PW.out.below b13).below b14).below q7)
  have OG := Lib.hid (((OG.out.below b13).below b14).below q7)
  have PG := Lib.hid (((PG.out.below b13).below b14).below q7)
  have c15 := chain (chain c14 b14) q7
  clear hwp ph oh q7 b13 b14 oz
  go_upto_region 23 with fail
  rw [HWP.out]
  have k0 := PW.out.cell0
  have k1 := PW.out.cell1
  have k2 := PH.out.cell0
  have k3 := PH.out.cell1
  go_wp2_with (go_at_call 25; refine (eqPaths2 (OH.out.pathV l1 l2) (OW.out.pathV l1 l2)).mono ?_)
  rintro e wq ⟨rfl, b15⟩
  have OG := Lib.hid (OG.out.below b15)
  have PG := Lib.hid (PG.out.below b15)
  have c16 := chain c15 b15
  clear k0 k1 k2 k3 b15
  have k2 := PG.out.cell0
  have k3 := PG.out.cell1
  go_wp2_with (go_at_call 29; refine (HH.out _ _ (marks_path OG.out l1 l2)).mono ?_)
  rintro e wr ⟨rfl, b16⟩
  go_wp2_with fail
  go_ret
  exact ⟨rfl, chain c16 b16⟩

end Go.Proofs.Ytifiomeiebammaa

namespace Go.Proofs.Ytifiomeiebammaa.fnExactPathRun
open Go.ChangeShapes Go.WideShapes Go.ChangeAt Go.RowKit
open Go.ChangeMaps (open_string shut_string)
set_option linter.unusedVariables false

theorem own : ownKnob Try.prog.godebug = none := by kernel_rfl
theorem laidOut : laidOutB Try.prog = true := by kernel_rfl

set_option maxRecDepth 100000 in
theorem lifted (os : Os) (started : os.Started) (H : Type) (enc : TypeId × Value → H) :
    ReturnsInHanded {} Try.checked os 12 .any (Rows.fnExactPathRunSpec.pre6 enc Try.prog Try.f12 Rows.fnExactPathRunRow.domain false) (Rows.fnExactPathRunSpec.post enc Try.prog Try.f12 false true false false) := by
  refine returnsInHanded_of_change (C := Try.checked) own started (by kernel_rfl) Try.func12
    (ChangeSpec.witness6 (enc := enc) (C := Try.checked) false ⟨#[], #[.int .i64 0, .slice none 0 0], []⟩ 8 (by kernel_rfl) (by kernel_rfl) (by kernel_rfl) (by kernel_rfl)) ?_
  intro W base args ds gs before hval0 hW hcnd _
  have hval : ∀ (j : Nat) t v, Try.f12.params[j]? = some t → args[j]? = some v → Value.okWide Try.prog W .any base t v := hval0
  have hW' := hW
  obtain ⟨p, q, hA0, hV, rfl, hfz, hnd⟩ := hW
  have hA : DataW.TrodAll enc Try.prog W 0 (fun _ => true) true Try.f12.params.toList args.toList ds p := hA0
  rw [Try.params12] at hA hval
  obtain ⟨v0, vs0, d0, ds0, p0, q0, hargs, rfl, rfl, h0, r0⟩ := trodAll_cons hA
  obtain ⟨v1, vs1, d1, ds1, p1, q1, rfl, rfl, rfl, h1, r1⟩ := trodAll_cons r0
  obtain ⟨rfl, rfl, rfl⟩ := trodAll_nil r1
  obtain rfl : args = #[v0, v1] := by cases args; simp_all
  obtain ⟨rfl, rfl⟩ := trodVars_none hV
  obtain ⟨a0, rfl, rfl, rfl, w0⟩ := open_int Try.underlying3 (hval 0 3 v0 rfl rfl) h0
  obtain ⟨a1, len1, cap1, rfl⟩ := okWide_slice Try.underlying23 (hval 1 23 v1 rfl rfl)
  have k1 := h1
  have lt1 : ∀ x ∈ p1, x.block < W.heap.size := by obtain ⟨m, hm⟩ := k1; exact DataW.trod_lt m _ _ _ hm
  obtain ⟨z1, w1⟩ : ∃ zs, IsRowK .i64 W a1 len1 cap1 zs := by
    obtain ⟨fuel, hf⟩ := h1
    rcases open_ints Try.underlying23 Try.underlying3 (by kernel_rfl) hf with ⟨hcs, _⟩ | ⟨x, l, c, zs, hcs, _, hl, hm, hz, _, hcell, hwz⟩
    · simp [Value.cells] at hcs
      obtain ⟨rfl, rfl, rfl⟩ := hcs
      exact ⟨[], .inl ⟨rfl, rfl, rfl, rfl⟩⟩
    · simp [Value.cells] at hcs
      obtain ⟨rfl, rfl, rfl⟩ := hcs
      exact ⟨zs, .inr ⟨_, rfl, hl, hm, by simpa using hz, hcell, hwz⟩⟩
  clear hA0 hval0
  refine (walk_FnExactPathRun a0 a1 len1 cap1 z1 W w0 w1).mono fun e W' ⟨he, bel⟩ => ?_
  subst he
  exact ⟨_, rfl, _, _, _, [], _, [], hW', trodAll_mk1 (shut_bool Try.underlying4 _), (trodAll_cons_mk (shut_int Try.underlying3 w0) (trodAll_cons_mk (Below.trod laidOut (by kernel_rfl) (of_decide_eq_true (by kernel_rfl)) k1 bel lt1) trodAll_mk0)), rfl, bel.frame _, fun h => by cases h⟩

theorem over : Rows.fnExactPathRunRow.holds Try.pinned (OpenSpec.ofChange Rows.fnExactPathRunSpec) :=
  OpenClaim.holds_of_wide 12 Try.f12 rfl rfl rfl rfl rfl rfl rfl ⟨rfl, rfl, rfl, rfl, rfl⟩ rfl rfl rfl rfl rfl (by kernel_rfl) Try.func12 (by kernel_rfl)
    (of_decide_eq_true (by kernel_rfl)) (by unfold Func.isWrapper; first | (rw [if_pos (by decide +kernel)]; kernel_rfl) | (rw [if_neg (by decide +kernel)]; exact ⟨rfl, rfl⟩))
    (fun os started H enc _ => lifted os started H enc)

theorem proved : Rows.FnExactPathRunSaid := over
#print axioms proved
end Go.Proofs.Ytifiomeiebammaa.fnExactPathRun
