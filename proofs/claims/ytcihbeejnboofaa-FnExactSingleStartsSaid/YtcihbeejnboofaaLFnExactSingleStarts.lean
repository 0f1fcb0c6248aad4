/-
  For every input the law 'FnExactSingleStarts' returns true, and each of its arguments reads behind the call as it read before. Conditions: none beyond those of the row.
-/
import Derived.Test.YtcihbeejnboofaaRows
import Derived.WalkKit
import Derived.ProofKit
import Derived.OpenShut
import Derived.ShutString
import Derived.ChangeOld
import Derived.Below
import Derived.Deep.Matrix
import Derived.Test.YtcihbeejnboofaaIo
import Derived.Test.YtcihbeejnboofaaSgF
import Derived.Deep.DeepCutAuto
import Derived.Deep.RegionWith
namespace Go.Proofs.Ytcihbeejnboofaa
open Go.RowKit

theorem stV_len (s : Sg) (S : ByteArray) : (stV s S).length ≤ 12 := by
  unfold stV; split
  · rename_i h; rw [stL_len]; exact sgO_size h
  · simp

set_option maxRecDepth 100000 in
set_option maxHeartbeats 4000000 in
theorem walk_FnExactSingleStarts (v0 : Value) (a1 : ByteArray) (w : World) (w0 : IsSingK w v0) (w1 : a1.size ≤ maxLen) :
    Calls Try.prog 4 #[v0, .string a1] w fun e w' => e = .returned (.bool true) ∧ Below w.heap.size w w' := by
  have _ := w0
  have _ := w1
  obtain ⟨u1, u2, r0, h0, rfl⟩ := w0.agg
  have q := below_alloc w (.cells #[u1, u2, .int .i64 r0, .int .i64 h0] 24)
  have pb := Quad.new w u1 u2 (.int .i64 r0) (.int .i64 h0) 24
  have hk := w0.below q
  obtain ⟨W, hW⟩ : ∃ W, W = w.alloc (.cells #[u1, u2, .int .i64 r0, .int .i64 h0] 24) := ⟨_, rfl⟩
  rw [← hW] at q pb hk
  have HW := Lib.hid hW.symm
  have P := Lib.hid pb
  rcases Nat.lt_or_ge 1048576 a1.size with hbig | hsm
  · have hb : (1048576 : Int) < (a1.size : Int) := by omega
    clear hW pb w0 hk
    go_enter Try.func4, Try.ntmps4
    go_wp2_with fail
    rw [HW.out]
    go_ret
    exact ⟨rfl, q⟩
  have hb : (a1.size : Int) ≤ 1048576 := by omega
  have K0 := pb.cell0
  have K1 := pb.cell1
  have K2 := pb.cell2
  have K3 := pb.cell3
  clear hW pb w0
  go_enter Try.func4, Try.ntmps4
  go_wp2_with fail
  rw [HW.out]
  refine (szSingK hk (by omega) (by omega)).mono ?_
  rintro e wa ⟨n, rfl, hn1, hn, ba⟩
  rcases Int.lt_or_le n 0 with hneg | hpos
  · have hd : decide (n < 0) = true := decide_eq_true hneg
    clear hn hk
    go_wp2_with fail
    go_ret
    exact ⟨rfl, chain q ba⟩
  have hd : decide (n < 0) = false := by simpa using hpos
  obtain ⟨s, h, f1, f2⟩ := hn hpos
  clear hn hk hn1 hpos K0 K1 K2 K3
  have hl := h.len
  have H := Lib.hid (fun (X : World) (b : Below W.heap.size W X) => toSingle (h.below b))
  have hyl := stV_len s a1
  obtain ⟨ys, hys⟩ : ∃ x, x = stV s a1 := ⟨_, rfl⟩
  obtain ⟨ok, hok⟩ : ∃ x, x = sgO s a1 := ⟨_, rfl⟩
  have SP : ∀ (X : World) (v : Value), SgV X v s → Calls Try.prog 20 #[v, .string a1] X (MadeIntsB X ys ok) := by
    intro X v j; rw [hys, hok]; exact specStarts j hsm
  have IM : ∀ (X : World) (v : Value), SgV X v s → Calls Try.prog 21 #[v, .string a1] X (MadeIntsB X ys ok) := by
    intro X v j; rw [hys, hok]; exact implStarts j hsm
  rw [← hys] at hyl
  have hyl : ys.length ≤ 1048576 := by omega
  have hyl' : (ys.length : Int) ≤ 1048576 := by omega
  have SP := Lib.hid SP
  have IM := Lib.hid IM
  clear hys hok f1 f2 h
  have ka := (P.out.below ba).cell0
  have kb := (P.out.below ba).cell1
  have kc := (P.out.below ba).cell2
  have kd := (P.out.below ba).cell3
  go_wp2_with (go_at_call 17; refine (H.out _ ba).mono ?_)
  rintro e w1 ⟨v1', rfl, o1, b1⟩
  have c1 := chain ba b1
  go_wp2_with (go_at_call 20; refine (SP.out _ _ (o1.sgV hl.1 hl.2)).mono ?_)
  rintro e w2 ⟨vw, rfl, ow, b2⟩
  have c2 := chain c1 b2
  have OW := Lib.hid ow
  have la := (P.out.below c2).cell0
  have lb := (P.out.below c2).cell1
  have lc := (P.out.below c2).cell2
  have ld := (P.out.below c2).cell3
  clear ka kb kc kd
  go_wp2_with (go_at_call 17; refine (H.out _ c2).mono ?_)
  rintro e w3 ⟨v3, rfl, o3, b3⟩
  have o3v := o3.sgV hl.1 hl.2
  obtain ⟨xa, xn, xc, ya, yn, yc, rfl⟩ := o3.form
  have c3 := chain c2 b3
  have e3 := below_alloc w3 (.cells #[.slice xa xn xc, .slice ya yn yc, .int .i64 s.run, .int .i64 s.head] 27)
  have p3 := Quad.new w3 (.slice xa xn xc) (.slice ya yn yc) (.int .i64 s.run) (.int .i64 s.head) 27
  have ov := o3v.below e3
  have IX := Lib.hid o3.isIn
  have OX := Lib.hid (o3.below e3)
  have OW := Lib.hid ((OW.out.below b3).below e3)
  have Z3 := Lib.hid b3.size
  have S3 := Lib.hid (show (w3.alloc (.cells #[.slice xa xn xc, .slice ya yn yc, .int .i64 s.run, .int .i64 s.head] 27)).heap.size = w3.heap.size + 1 from Go.Deep.nblk_alloc _ _)
  have c3' := chain c3 e3
  obtain ⟨r1, hr1⟩ : ∃ r, r = s.run := ⟨_, rfl⟩
  obtain ⟨h1, hh1⟩ : ∃ r, r = s.head := ⟨_, rfl⟩
  rw [← hr1, ← hh1] at p3 ov c3' OX OW S3 IX ⊢
  have RH := Lib.hid (And.intro hr1 hh1)
  have HL := Lib.hid hl
  clear hr1 hh1 hl
  go_wp2_with fail
  generalize hg : w3.alloc (.cells #[.slice xa xn xc, .slice ya yn yc, .int .i64 r1, .int .i64 h1] 27) = w3' at p3 ov c3' OX OW S3
  have P3 := Lib.hid p3
  clear hg p3 e3 o3v o3 b3 b2 b1 o1 la lb lc ld
  refine (IM.out _ _ ov).mono ?_
  rintro e w4 ⟨vg, rfl, og, b4⟩
  have c4 := chain c3' b4
  have ov4 := ov.below b4
  have P4 := Lib.hid (P3.out.below b4)
  have OX := Lib.hid (OX.out.below b4)
  have OW := Lib.hid (OW.out.below b4)
  have Z4 := Lib.hid b4.size
  have OG := Lib.hid og
  have EQ1 := Lib.hid (eqInts (OG.out.ints hyl) (OW.out.ints hyl))
  have OV4 := Lib.hid ov4
  have LW := Lib.hid (World.ownsRow.lt ow)
  have LG := Lib.hid (World.ownsRow.lt og)
  clear og ow ov ov4 b4
  go_upto_region 12 with (go_at_call 22; refine EQ1.out.mono ?_; rintro e w5 ⟨rfl, b5⟩)
  have c5 := chain c4 b5
  have OX := Lib.hid (OX.out.below b5)
  have OW := Lib.hid (OW.out.below b5)
  have OG := Lib.hid (OG.out.below b5)
  have OV5 := Lib.hid (OV4.out.below b5)
  have P5 := Lib.hid (P4.out.below b5)
  have Z5 := Lib.hid b5.size
  clear b5
  go_cut [52] (fun s wx => s = .bool false ∧ Below w5.heap.size w5 wx)
  case first =>
    have PP := Lib.hid (fun (W' : World) (b : Below w5.heap.size w5 W') => P5.out.below b)
    have QQ := Lib.hid (fun (W' : World) (b : Below w5.heap.size w5 W') => (P.out.below c5).below b)
    have d4 : Below w5.heap.size w5 w5.drew := (Below.refl _ _).drew
    have EQ := Lib.hid (fun (W' : World) (v : Value) (b : Below w5.heap.size w5 W') (j : SgV W' v s) => eqSingles2 (OV5.out.below b) j)
    have TP := Lib.hid (fun (W' : World) (b : Below w5.heap.size w5 W') => H.out _ (chain c5 b))
    have ke := (QQ.out _ (Below.refl _ _)).cell0
    have kf := (QQ.out _ (Below.refl _ _)).cell1
    have kg := (QQ.out _ (Below.refl _ _)).cell2
    have kh := (QQ.out _ (Below.refl _ _)).cell3
    have le := (PP.out _ (Below.refl _ _)).cell0
    have lf := (PP.out _ (Below.refl _ _)).cell1
    have lg := (PP.out _ (Below.refl _ _)).cell2
    have lh := (PP.out _ (Below.refl _ _)).cell3
    go_region_with (first
      | (go_at_call 17; refine (TP.out _ d4).mono ?_; rintro e w6 ⟨v5, rfl, o5, b6⟩; have c6 := d4.trans (b6.mono d4.size); have j5 := o5.sgV HL.out.1 HL.out.2; have m1 := (PP.out _ c6).cell0; have m2 := (PP.out _ c6).cell1; have m3 := (PP.out _ c6).cell2; have m4 := (PP.out _ c6).cell3; clear o5 b6)
      | (go_at_call 19; refine (EQ.out _ _ c6 j5).mono ?_; rintro e w7 ⟨rfl, b7⟩))
    all_goals (go_wp2_with fail; go_meet; exact ⟨rfl, c6.trans (b7.mono c6.size)⟩)
  case rest =>
  obtain ⟨rfl, b8⟩ := hcut
  rename_i w8
  have c8 := chain c5 b8
  have OX := Lib.hid (OX.out.below b8)
  have OW := Lib.hid (OW.out.below b8)
  have OG := Lib.hid (OG.out.below b8)
  have P8 := Lib.hid (P5.out.below b8)
  have Z8 := Lib.hid b8.size
  have le := P8.out.cell0
  have lf := P8.out.cell1
  have lg := P8.out.cell2
  have lh := P8.out.cell3
  clear b8
  have MK := Lib.hid (markSingle OX.out IX.out HL.out.1 HL.out.2 (by omega : (0 : Int) ≤ 1) (by omega))
  go_upto_region 16 with (go_at_call 23; refine MK.out.mono ?_; rintro e w9 ⟨rfl, om9, g9⟩)
  have c9 := g9.below c8 c2.size
  have OW := Lib.hid (OW.out.keptIn g9 (fun b e => .inl (LW.out b e).2))
  have OG := Lib.hid (OG.out.keptIn g9 (fun b e => .inr (by have := (LG.out b e).1; have := S3.out; omega)))
  have P9 : Quad w9 w.heap.size u1 u2 (.int .i64 r0) (.int .i64 h0) 24 := (P.out.below c8).of (g9.block _ (P.out.below c8).lt (.inl (by have := P.out.lt; have := c2.size; omega)))
  have PQ := Lib.hid P9
  have Z9 := Lib.hid g9.size
  have EQ2 := Lib.hid (eqInts (OG.out.ints hyl) (OW.out.ints hyl))
  have hx1 := HL.out.1
  have hx2 := HL.out.2
  have hk1 : decide (1 + (s.A.length : Int) + (s.B.length : Int) < 0) = false := by simp; omega
  clear om9 g9 le lf lg lh P9 hx1 hx2
  go_upto_region 18 with (go_at_call 22; refine EQ2.out.mono ?_; rintro e w10 ⟨rfl, b10⟩)
  have c10 := chain c9 b10
  have OW := Lib.hid (OW.out.below b10)
  have OG := Lib.hid (OG.out.below b10)
  have PQ := Lib.hid (PQ.out.below b10)
  have Z10 := Lib.hid b10.size
  clear b10 hk1
  go_upto_region 20 with (go_at_call 24; refine (markInts OG.out hyl (by omega) (by omega)).mono ?_; rintro e w11 ⟨rfl, om11, g11⟩)
  have hbase : W.heap.size ≤ w3'.heap.size := (c3').size
  have c11 := below_mark c10 OG.out hbase g11
  have OW := Lib.hid (OW.out.kept g11 (by
    cases e1 : vw.ownBlock with
    | none => exact .inl rfl
    | some k => exact .inr (fun e => by have h1 := (LW.out k e1).2; have h2 := (LG.out k e.symm).1; have := S3.out; have := Z3.out; omega)))
  have PQ := Lib.hid (PQ.out.of (g11.block _ PQ.out.lt (fun e => by have h2 := (LG.out _ e.symm).1; have h3 := P.out.lt; omega)))
  have OM := Lib.hid om11
  clear om11 g11
  have HH1 := Lib.hid (heldInts (OM.out.ints (by rw [marks_length]; exact hyl)) (marks_held 1 _) (by omega) (by omega))
  have pq0 := PQ.out.cell0
  have pq1 := PQ.out.cell1
  have pq2 := PQ.out.cell2
  have pq3 := PQ.out.cell3
  go_upto_region 22 with (go_at_call 25; refine HH1.out.mono ?_; rintro e w_x ⟨rfl, rfl⟩; rw [marks_length])
  go_wp2_with (go_at_call 17; refine (H.out _ c11).mono ?_)
  rintro e w12 ⟨vy, rfl, oy, b12⟩
  have c12 := chain c11 b12
  have OW := Lib.hid (OW.out.below b12)
  have OM := Lib.hid (OM.out.below b12)
  have OY := Lib.hid (oy.sgV HL.out.1 HL.out.2)
  clear oy b12 pq0 pq1 pq2 pq3
  go_wp2_with (go_at_call 21; refine (IM.out _ _ OY.out).mono ?_)
  rintro e w13 ⟨vh, rfl, oh, b13⟩
  have c13 := chain c12 b13
  have EQ3 := Lib.hid (eqInts (oh.ints hyl) ((OW.out.below b13).ints hyl))
  have OM := Lib.hid (OM.out.below b13)
  clear oh b13
  go_wp2_with (go_at_call 22; refine EQ3.out.mono ?_)
  rintro e w14 ⟨rfl, b14⟩
  have c14 := chain c13 b14
  have HH2 := Lib.hid (heldInts ((OM.out.below b14).ints (by rw [marks_length]; exact hyl)) (marks_held 1 _) (by omega) (by omega))
  clear b14
  go_wp2_with (go_at_call 25; refine HH2.out.mono ?_)
  rintro e w_x ⟨rfl, rfl⟩
  rw [marks_length]
  go_wp2_with fail
  go_ret
  exact ⟨rfl, chain q c14⟩

end Go.Proofs.Ytcihbeejnboofaa

namespace Go.Proofs.Ytcihbeejnboofaa.fnExactSingleStarts
open Go.ChangeShapes Go.WideShapes Go.ChangeAt Go.RowKit
open Go.ChangeMaps (open_string shut_string)
set_option linter.unusedVariables false

theorem own : ownKnob Try.prog.godebug = none := by kernel_rfl
theorem laidOut : laidOutB Try.prog = true := by kernel_rfl

set_option maxRecDepth 100000 in
theorem lifted (os : Os) (started : os.Started) (H : Type) (enc : TypeId × Value → H) :
    ReturnsInHanded {} Try.checked os 4 .any (Rows.fnExactSingleStartsSpec.pre6 enc Try.prog Try.f4 Rows.fnExactSingleStartsRow.domain false) (Rows.fnExactSingleStartsSpec.post enc Try.prog Try.f4 false true false false) := by
  refine returnsInHanded_of_change (C := Try.checked) own started (by kernel_rfl) Try.func4
    (ChangeSpec.witness6 (enc := enc) (C := Try.checked) false ⟨#[], #[.agg #[.slice none 0 0, .slice none 0 0, .int .i64 0, .int .i64 0], .string ⟨#[]⟩], []⟩ 8 (by kernel_rfl) (by kernel_rfl) (by kernel_rfl) (by kernel_rfl)) ?_
  intro W base args ds gs before hval0 hW hcnd _
  have hval : ∀ (j : Nat) t v, Try.f4.params[j]? = some t → args[j]? = some v → Value.okWide Try.prog W .any base t v := hval0
  have hW' := hW
  obtain ⟨p, q, hA0, hV, rfl, hfz, hnd⟩ := hW
  have hA : DataW.TrodAll enc Try.prog W 0 (fun _ => true) true Try.f4.params.toList args.toList ds p := hA0
  rw [Try.params4] at hA hval
  obtain ⟨v0, vs0, d0, ds0, p0, q0, hargs, rfl, rfl, h0, r0⟩ := trodAll_cons hA
  obtain ⟨v1, vs1, d1, ds1, p1, q1, rfl, rfl, rfl, h1, r1⟩ := trodAll_cons r0
  obtain ⟨rfl, rfl, rfl⟩ := trodAll_nil r1
  obtain rfl : args = #[v0, v1] := by cases args; simp_all
  obtain ⟨rfl, rfl⟩ := trodVars_none hV
  have w0 := open_single (hval 0 24 v0 rfl rfl) h0
  have k0 := h0
  have lt0 : ∀ x ∈ p0, x.block < W.heap.size := by obtain ⟨m, hm⟩ := k0; exact DataW.trod_lt m _ _ _ hm
  obtain ⟨a1, rfl, rfl, rfl, w1⟩ := open_string Try.underlying9 (hval 1 9 v1 rfl rfl) h1
  clear hA0 hval0
  refine (walk_FnExactSingleStarts v0 a1 W w0 w1).mono fun e W' ⟨he, bel⟩ => ?_
  subst he
  exact ⟨_, rfl, _, _, _, [], _, [], hW', trodAll_mk1 (shut_bool Try.underlying4 _), (trodAll_cons_mk (Below.trod laidOut (by kernel_rfl) (of_decide_eq_true (by kernel_rfl)) k0 bel lt0) (trodAll_cons_mk (shut_string Try.underlying9 w1) trodAll_mk0)), rfl, bel.frame _, fun h => by cases h⟩

theorem closed : joinedFacts Try.checked.prog 4 Try.f4 Rows.fnExactSingleStartsSpec Rows.fnExactSingleStartsRow = true := by
  unfold joinedFacts
  simp only [Bool.and_eq_true]
  repeat' (refine And.intro ?_ ?_)
  all_goals first
    | with_reducible exact may_enter
    | (rw [lifts_final]; kernel_rfl)
    | (rw [make_is]; kernel_rfl)
    | kernel_rfl

theorem over : Rows.fnExactSingleStartsRow.holds Try.pinned (OpenSpec.ofChange Rows.fnExactSingleStartsSpec) :=
  OpenClaim.holds_of_wide 4 Try.f4 rfl rfl rfl rfl rfl rfl rfl ⟨rfl, rfl, rfl, rfl, rfl⟩ rfl rfl rfl rfl rfl (by kernel_rfl) Try.func4 closed
    (of_decide_eq_true (by kernel_rfl)) (by unfold Func.isWrapper; first | (rw [if_pos (by decide +kernel)]; kernel_rfl) | (rw [if_neg (by decide +kernel)]; exact ⟨rfl, rfl⟩))
    (fun os started H enc _ => lifted os started H enc)

theorem proved : Rows.FnExactSingleStartsSaid := over
#print axioms proved
end Go.Proofs.Ytcihbeejnboofaa.fnExactSingleStarts
