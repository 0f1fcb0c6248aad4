/-
  For every input the law 'FnExactPathsAdd' returns true, and each of its arguments reads behind the call as it read before. Conditions: none beyond those of the row.
-/
import Derived.Test.YtedbfmmklmidjaaRows
import Derived.WalkKit
import Derived.ProofKit
import Derived.OpenShut
import Derived.ShutString
import Derived.ChangeOld
import Derived.Below
import Derived.Deep.Matrix
import Derived.Test.YtedbfmmklmidjaaIo
import Derived.Test.YtedbfmmklmidjaaAdd
import Derived.Test.YtedbfmmklmidjaaAddS
import Derived.Test.YtedbfmmklmidjaaMarkG
namespace Go.Proofs.Ytedbfmmklmidjaa
open Go.RowKit

theorem addV_small (n : Int) (ps : List (List Int × List Int)) (s : Int) (rs : List Int) : (addV n ps s rs).length ≤ 8 ∧ ∀ i, i < (addV n ps s rs).length → ((addV n ps s rs).getD i noPath).1.length ≤ 1000 ∧ ((addV n ps s rs).getD i noPath).2.length ≤ 1000 := by
  cases hb : addB n ps s rs
  · rw [addV_no hb]
    exact ⟨by simp, fun i hi => by simp at hi⟩
  · have hb' := hb
    unfold addB at hb
    simp only [Bool.and_eq_true, decide_eq_true_eq] at hb
    rw [addV_yes hb']
    have hp : pathsB n (ps ++ [fitPath n ps s rs rs.length]) = true := by rw [add_paths hb.1]; exact decide_eq_true hb.2
    refine ⟨by simp; omega, fun i hi => ?_⟩
    obtain ⟨⟨q1, q2⟩, q3, q4, _⟩ := pathB_is (pathsB_at hp hi)
    omega

set_option maxRecDepth 100000 in
set_option maxHeartbeats 4000000 in
theorem walk_FnExactPathsAdd (a0 : Int) (v1 : Value) (a2 : Int) (a3 : Option Addr) (len3 cap3 : Nat) (z3 : List Int) (w : World) (w0 : (Lit.int .i64 a0).wf = true) (w1 : IsPathsK w v1) (w2 : (Lit.int .i64 a2).wf = true) (w3 : IsRowK .i64 w a3 len3 cap3 z3) :
    Calls Try.prog 3 #[.int .i64 a0, v1, .int .i64 a2, .slice a3 len3 cap3] w fun e w' => e = .returned (.bool true) ∧ Below w.heap.size w w' := by
  have _ := w0
  have _ := w2
  rcases Nat.lt_or_ge 1048576 len3 with hbig | hsm
  · have _ := w1
    have hb : (1048576 : Int) < (len3 : Int) := by omega
    go_enter Try.func3, Try.ntmps3
    go_wp2_with fail
    go_ret
    exact ⟨rfl, Below.refl _ _⟩
  have hb : (len3 : Int) ≤ 1048576 := by omega
  have k := ints_of_rowK w3 hsm
  generalize z3.take len3 = xs at k
  clear w0 w2 w3 hsm
  go_enter Try.func3, Try.ntmps3
  go_wp2_with (go_at_call 15; refine (szPathsK w1).mono ?_)
  rintro e wa ⟨n, rfl, hn1, hn, ba⟩
  rcases Int.lt_or_le n 0 with hneg | hpos
  · have hd : decide (n < 0) = true := decide_eq_true hneg
    clear hn w1
    go_wp2_with fail
    go_ret
    exact ⟨rfl, ba⟩
  have hd : decide (n < 0) = false := by simpa using hpos
  obtain ⟨ps, h⟩ := hn hpos
  clear hn w1
  have hpn := h.len
  obtain ⟨hrl, hrs⟩ := addV_small a0 ps a2 xs
  obtain ⟨r, hr⟩ : ∃ r, r = addV a0 ps a2 xs := ⟨_, rfl⟩
  obtain ⟨ok, hok⟩ : ∃ ok, ok = addB a0 ps a2 xs := ⟨_, rfl⟩
  have HS : ∀ (W : World) (u v : Value), Paths W u ps → Ints W v xs → Calls Try.prog 16 #[.int .i64 a0, u, .int .i64 a2, v] W (MadeAdd W r ok) := by
    intro W u v q q'; rw [hr, hok]; exact specAdd q q'
  have HI : ∀ (W : World) (u v : Value), Paths W u ps → Ints W v xs → Calls Try.prog 19 #[.int .i64 a0, u, .int .i64 a2, v] W (MadeAdd W r ok) := by
    intro W u v q q'; rw [hr, hok]; exact implAdd q q'
  rw [← hr] at hrl hrs
  have hof := offs_small hrs r.length (Nat.le_refl _)
  obtain ⟨of, hofe⟩ : ∃ x : Int, x = 1 + offs r r.length := ⟨_, rfl⟩
  have hof0 : 0 ≤ of := by omega
  have hof1 : of ≤ 100000 := by omega
  have hxl : (xs.length : Int) ≤ 1048576 := by have := k.len; omega
  have hpl : (ps.length : Int) ≤ 1048576 := by omega
  have HS' := Lib.hid HS
  have HI' := Lib.hid HI
  have KK := Lib.hid k
  have HH0 := Lib.hid h
  have HRS := Lib.hid hrs
  have HOF := Lib.hid hofe
  have hkl := k.len
  clear hr hok HS HI k h hb hrs hof hofe
  go_wp2_with (go_at_call 17; refine (toPaths (HH0.out.below ba)).mono ?_)
  rintro e wt ⟨vt, rfl, o1, b1⟩
  have c1 := chain ba b1
  go_wp2_with (go_at_call 18; refine (toInts (KK.out.below c1)).mono ?_)
  rintro e wu ⟨vu, rfl, o2, b2⟩
  have c2 := chain c1 b2
  go_wp2_with (go_at_call 16; refine (HS'.out _ _ _ (o1.below b2).paths (o2.ints hkl)).mono ?_)
  rintro e w8 ⟨vw, rfl, ow, b3⟩
  have c3 := chain c2 b3
  obtain ⟨vsw, ow⟩ := ow.toV
  have OW := Lib.hid ow
  clear ow b1 b2 b3 o1 o2
  go_wp2_with (go_at_call 17; refine (toPaths (HH0.out.below c3)).mono ?_)
  rintro e wd ⟨vx, rfl, ox, b4⟩
  have OX := Lib.hid ox
  have OW := Lib.hid (OW.out.below b4)
  have c4 := chain c3 b4
  have Z4 := Lib.hid b4.size
  clear ox b4
  go_wp2_with (go_at_call 18; refine (toInts (KK.out.below c4)).mono ?_)
  rintro e w10 ⟨vy, rfl, oy, b5⟩
  have UY := Lib.hid oy.under
  have OW := Lib.hid (OW.out.below b5)
  have c5 := chain c4 b5
  have d5 := b5
  have Z5' := Lib.hid b5.size
  clear b5
  go_wp2_with (go_at_call 19; refine (HI'.out _ _ _ (OX.out.below d5).paths (oy.ints hkl)).mono ?_)
  rintro e w11 ⟨vg, rfl, og, b6⟩
  obtain ⟨vsg, og⟩ := og.toV
  have OG := Lib.hid og
  have OW := Lib.hid (OW.out.below b6)
  have OY := Lib.hid (oy.below b6)
  have c6 := chain c5 b6
  have d6 := chain d5 b6
  have Z5 := Lib.hid b6.size
  clear og b6 oy d5
  have PP := Lib.hid (fun (w : World) (base top : Nat) (v : Value) (vs : List Value) (g : GrowV w base top v vs r) => g.toP.paths (by omega) (fun i hi => by have := HRS.out i hi; omega))
  go_wp2_with (go_at_call 20; refine (eqPathsS (PP.out _ _ _ _ _ OG.out) (PP.out _ _ _ _ _ OW.out)).mono ?_)
  rintro e wg ⟨rfl, b7⟩
  have OW := Lib.hid (OW.out.below b7)
  have OG := Lib.hid (OG.out.below b7)
  have OY := Lib.hid (OY.out.below b7)
  have c7 := chain c6 b7
  have d7 := chain d6 b7
  clear b7
  go_wp2_with (go_at_call 17; refine (toPaths (HH0.out.below c7)).mono ?_)
  rintro e wh ⟨vp, rfl, op, b8⟩
  have c8 := chain c7 b8
  have d8 := chain d7 b8
  go_wp2_with (go_at_call 20; refine (eqPathsS (OX.out.below d8).paths op.paths).mono ?_)
  rintro e wi ⟨rfl, b9⟩
  have c9 := chain c8 b9
  have d9 := chain d8 b9
  have OW := Lib.hid ((OW.out.below b8).below b9)
  have OG := Lib.hid ((OG.out.below b8).below b9)
  have OY := Lib.hid ((OY.out.below b8).below b9)
  clear b8 b9 op
  go_wp2_with (go_at_call 18; refine (toInts (KK.out.below c9)).mono ?_)
  rintro e wj ⟨vq, rfl, oq, b10⟩
  have OY := Lib.hid (OY.out.below b10)
  have c10 := chain c9 b10
  have d10 := chain d9 b10
  go_wp2_with (go_at_call 21; refine (eqInts (OY.out.ints hkl) (oq.ints hkl)).mono ?_)
  rintro e wk ⟨rfl, b11⟩
  have OW := Lib.hid ((OW.out.below b10).below b11)
  have OG := Lib.hid ((OG.out.below b10).below b11)
  have OY := Lib.hid (OY.out.below b11)
  have c11 := chain c10 b11
  have d11 := chain d10 b11
  clear oq b10 b11
  go_wp2_with (go_at_call 22; refine (markPaths OX.out d11 (by omega) (by omega)).mono ?_)
  rintro e wl ⟨n9, rfl, hn9, hn9', m9⟩
  have c12 := m9.below c11 c3.size
  have OW := Lib.hid (OW.out.keptIn m9 (.inl (Nat.le_refl _)))
  have OG := Lib.hid (OG.out.keptIn m9 (.inr Z5'.out))
  have OY := Lib.hid (OY.out.keptIn m9 (fun b e => .inr (UY.out b e).1))
  clear m9 d11
  go_wp2_with (go_at_call 23; refine (markInts OY.out hkl (by omega) (by omega)).mono ?_)
  rintro e wm ⟨rfl, -, g13⟩
  have m13 : GrownIn wl wm wd.heap.size w10.heap.size := GrownIn.of_grown g13 (fun b e => UY.out b e)
  have c13 := m13.below c12 c4.size
  have OW := Lib.hid (OW.out.keptIn m13 (.inl Z4.out))
  have OG := Lib.hid (OG.out.keptIn m13 (.inr (Nat.le_refl _)))
  clear m13 g13 OY
  have hneg : decide (n9 + xs.length < 0) = false := by simp; omega
  go_wp2_with (go_at_call 20; refine (eqPathsS (PP.out _ _ _ _ _ OG.out) (PP.out _ _ _ _ _ OW.out)).mono ?_)
  rintro e wn ⟨rfl, b14⟩
  have OW := Lib.hid (OW.out.below b14)
  have OG := Lib.hid (OG.out.below b14)
  have c14 := chain c13 b14
  clear b14 hneg
  have MG := Lib.hid (markGrow (k := 1) OG.out (by omega) HRS.out (by omega) (by omega))
  rw [← HOF.out] at MG
  go_wp2_with (go_at_call 22; refine MG.out.mono ?_)
  rintro e wo ⟨rfl, og, m15⟩
  have c15 := m15.below c14 (Nat.le_trans c4.size Z5'.out)
  have OW := Lib.hid (OW.out.keptIn m15 (.inl (Nat.le_trans Z4.out Z5'.out)))
  have OG := Lib.hid og
  clear og m15 MG
  have HP := Lib.hid (fun (w : World) (base top : Nat) (v : Value) (vs : List Value) (g : GrowV w base top v vs (mkd 1 r)) => heldPaths (k := 1) (g.toP.paths (by rw [mkd_length]; omega) (fun i hi => by have := mkd_lens (k := 1) HRS.out i hi; omega)) (by rw [mkd_length]; omega) (mkd_lens HRS.out) (mkd_marks 1 r) (by omega) (by omega))
  rw [show (1 : Int) + offs (mkd 1 r) (mkd 1 r).length = of by rw [HOF.out, mkd_length, mkd_offs 1 r r.length (Nat.le_refl _)]] at HP
  go_wp2_with (go_at_call 24; refine (HP.out _ _ _ _ _ OG.out).mono ?_; rintro e w' ⟨rfl, rfl⟩)
  have hneg : decide (of < 0) = false := by simp; omega
  go_wp2_with (go_at_call 17; refine (toPaths (HH0.out.below c15)).mono ?_)
  rintro e wq ⟨vz, rfl, oz, b17⟩
  have c17 := chain c15 b17
  go_wp2_with (go_at_call 18; refine (toInts (KK.out.below c17)).mono ?_)
  rintro e wr ⟨vr, rfl, or', b18⟩
  have c18 := chain c17 b18
  go_wp2_with (go_at_call 19; refine (HI'.out _ _ _ (oz.below b18).paths (or'.ints hkl)).mono ?_)
  rintro e ws ⟨vh, rfl, oh, b19⟩
  obtain ⟨vsh, oh⟩ := oh.toV
  have OH := Lib.hid oh
  have OW := Lib.hid (((OW.out.below b17).below b18).below b19)
  have OG := Lib.hid (((OG.out.below b17).below b18).below b19)
  have c20 := chain c18 b19
  clear oh b17 b18 b19 oz or'
  go_wp2_with (go_at_call 20; refine (eqPathsS (PP.out _ _ _ _ _ OH.out) (PP.out _ _ _ _ _ OW.out)).mono ?_)
  rintro e wx ⟨rfl, b21⟩
  have OG := Lib.hid (OG.out.below b21)
  have c21 := chain c20 b21
  clear b21
  go_wp2_with (go_at_call 24; refine (HP.out _ _ _ _ _ OG.out).mono ?_; rintro e w' ⟨rfl, rfl⟩)
  go_wp2_with fail
  go_ret
  exact ⟨rfl, c21⟩

end Go.Proofs.Ytedbfmmklmidjaa

namespace Go.Proofs.Ytedbfmmklmidjaa.fnExactPathsAdd
open Go.ChangeShapes Go.WideShapes Go.ChangeAt Go.RowKit
open Go.ChangeMaps (open_string shut_string)
set_option linter.unusedVariables false

theorem own : ownKnob Try.prog.godebug = none := by kernel_rfl
theorem laidOut : laidOutB Try.prog = true := by kernel_rfl

set_option maxRecDepth 100000 in
theorem lifted (os : Os) (started : os.Started) (H : Type) (enc : TypeId × Value → H) :
    ReturnsInHanded {} Try.checked os 3 .any (Rows.fnExactPathsAddSpec.pre6 enc Try.prog Try.f3 Rows.fnExactPathsAddRow.domain false) (Rows.fnExactPathsAddSpec.post enc Try.prog Try.f3 false true false false) := by
  refine returnsInHanded_of_change (C := Try.checked) own started (by kernel_rfl) Try.func3
    (ChangeSpec.witness6 (enc := enc) (C := Try.checked) false ⟨#[], #[.int .i64 0, .slice none 0 0, .int .i64 0, .slice none 0 0], []⟩ 8 (by kernel_rfl) (by kernel_rfl) (by kernel_rfl) (by kernel_rfl)) ?_
  intro W base args ds gs before hval0 hW hcnd _
  have hval : ∀ (j : Nat) t v, Try.f3.params[j]? = some t → args[j]? = some v → Value.okWide Try.prog W .any base t v := hval0
  have hW' := hW
  obtain ⟨p, q, hA0, hV, rfl, hfz, hnd⟩ := hW
  have hA : DataW.TrodAll enc Try.prog W 0 (fun _ => true) true Try.f3.params.toList args.toList ds p := hA0
  rw [Try.params3] at hA hval
  obtain ⟨v0, vs0, d0, ds0, p0, q0, hargs, rfl, rfl, h0, r0⟩ := trodAll_cons hA
  obtain ⟨v1, vs1, d1, ds1, p1, q1, rfl, rfl, rfl, h1, r1⟩ := trodAll_cons r0
  obtain ⟨v2, vs2, d2, ds2, p2, q2, rfl, rfl, rfl, h2, r2⟩ := trodAll_cons r1
  obtain ⟨v3, vs3, d3, ds3, p3, q3, rfl, rfl, rfl, h3, r3⟩ := trodAll_cons r2
  obtain ⟨rfl, rfl, rfl⟩ := trodAll_nil r3
  obtain rfl : args = #[v0, v1, v2, v3] := by cases args; simp_all
  obtain ⟨rfl, rfl⟩ := trodVars_none hV
  obtain ⟨a0, rfl, rfl, rfl, w0⟩ := open_int Try.underlying3 (hval 0 3 v0 rfl rfl) h0
  have w1 := open_paths (hval 1 22 v1 rfl rfl) h1
  have k1 := h1
  have lt1 : ∀ x ∈ p1, x.block < W.heap.size := by obtain ⟨m, hm⟩ := k1; exact DataW.trod_lt m _ _ _ hm
  obtain ⟨a2, rfl, rfl, rfl, w2⟩ := open_int Try.underlying3 (hval 2 3 v2 rfl rfl) h2
  obtain ⟨a3, len3, cap3, rfl⟩ := okWide_slice Try.underlying23 (hval 3 23 v3 rfl rfl)
  have k3 := h3
  have lt3 : ∀ x ∈ p3, x.block < W.heap.size := by obtain ⟨m, hm⟩ := k3; exact DataW.trod_lt m _ _ _ hm
  obtain ⟨z3, w3⟩ : ∃ zs, IsRowK .i64 W a3 len3 cap3 zs := by
    obtain ⟨fuel, hf⟩ := h3
    rcases open_ints Try.underlying23 Try.underlying3 (by kernel_rfl) hf with ⟨hcs, _⟩ | ⟨x, l, c, zs, hcs, _, hl, hm, hz, _, hcell, hwz⟩
    · simp [Value.cells] at hcs
      obtain ⟨rfl, rfl, rfl⟩ := hcs
      exact ⟨[], .inl ⟨rfl, rfl, rfl, rfl⟩⟩
    · simp [Value.cells] at hcs
      obtain ⟨rfl, rfl, rfl⟩ := hcs
      exact ⟨zs, .inr ⟨_, rfl, hl, hm, by simpa using hz, hcell, hwz⟩⟩
  clear hA0 hval0
  refine (walk_FnExactPathsAdd a0 v1 a2 a3 len3 cap3 z3 W w0 w1 w2 w3).mono fun e W' ⟨he, bel⟩ => ?_
  subst he
  exact ⟨_, rfl, _, _, _, [], _, [], hW', trodAll_mk1 (shut_bool Try.underlying4 _), (trodAll_cons_mk (shut_int Try.underlying3 w0) (trodAll_cons_mk (Below.trod laidOut (by kernel_rfl) (of_decide_eq_true (by kernel_rfl)) k1 bel lt1) (trodAll_cons_mk (shut_int Try.underlying3 w2) (trodAll_cons_mk (Below.trod laidOut (by kernel_rfl) (of_decide_eq_true (by kernel_rfl)) k3 bel lt3) trodAll_mk0)))), rfl, bel.frame _, fun h => by cases h⟩

theorem closed : joinedFacts Try.checked.prog 3 Try.f3 Rows.fnExactPathsAddSpec Rows.fnExactPathsAddRow = true := by
  unfold joinedFacts
  simp only [Bool.and_eq_true]
  repeat' (refine And.intro ?_ ?_)
  all_goals first
    | with_reducible exact may_enter
    | (rw [lifts_final]; kernel_rfl)
    | (rw [make_is]; kernel_rfl)
    | kernel_rfl

theorem over : Rows.fnExactPathsAddRow.holds Try.pinned (OpenSpec.ofChange Rows.fnExactPathsAddSpec) :=
  OpenClaim.holds_of_wide 3 Try.f3 rfl rfl rfl rfl rfl rfl rfl ⟨rfl, rfl, rfl, rfl, rfl⟩ rfl rfl rfl rfl rfl (by kernel_rfl) Try.func3 closed
    (of_decide_eq_true (by kernel_rfl)) (by unfold Func.isWrapper; first | (rw [if_pos (by decide +kernel)]; kernel_rfl) | (rw [if_neg (by decide +kernel)]; exact ⟨rfl, rfl⟩))
    (fun os started H enc _ => lifted os started H enc)

theorem proved : Rows.FnExactPathsAddSaid := over
#print axioms proved
end Go.Proofs.Ytedbfmmklmidjaa.fnExactPathsAdd
