/-
  For every input the law 'FnPathClash' returns true, and each of its arguments reads behind the call as it read before. Conditions: none beyond those of the row.
-/
import Derived.Test.YtoebgdcgcdigaaaRows
import Derived.WalkKit
import Derived.ProofKit
import Derived.OpenShut
import Derived.ShutString
import Derived.ChangeOld
import Derived.Below
import Derived.Deep.Matrix
import Derived.Test.YtoebgdcgcdigaaaIo
import Derived.Test.YtoebgdcgcdigaaaDrawX
import Derived.Test.YtoebgdcgcdigaaaLateQ
import Derived.Test.YtoebgdcgcdigaaaLateS
import Derived.Test.YtoebgdcgcdigaaaLate
import Derived.Test.YtoebgdcgcdigaaaClashS
import Derived.Test.YtoebgdcgcdigaaaPathsI
namespace Go.Proofs.Ytoebgdcgcdigaaa
open Go.RowKit

open Go.Sort

/-- A list that is made of two paths. -/
theorem two_paths {w : World} {u1 u2 v1 v2 : Value} {p q : List Int × List Int} (hp : PathV w (.agg #[u1, u2]) p) (hq : PathV w (.agg #[v1, v2]) q) (t : TypeId) :
    Paths (w.alloc (.cells #[u1, u2, v1, v2] t)) (.slice (some ⟨w.heap.size, 0, none⟩) 2 2) [p, q] := by
  have e := below_alloc w (.cells #[u1, u2, v1, v2] t)
  have hn : (w.alloc (.cells #[u1, u2, v1, v2] t)).heap[w.heap.size]? = some (.cells #[u1, u2, v1, v2] t (0, 0)) := Go.Deep.blk_alloc_new _ _
  have hlt := (Array.getElem?_eq_some_iff.1 hn).1
  obtain ⟨_, _, e1, i1, i2⟩ := hp
  obtain ⟨_, _, e2, j1, j2⟩ := hq
  simp only [Value.agg.injEq, Array.mk.injEq, List.cons.injEq, and_true] at e1 e2
  obtain ⟨rfl, rfl⟩ := e1
  obtain ⟨rfl, rfl⟩ := e2
  refine ⟨_, 2, rfl, ⟨by simp, by simp⟩, .inr ⟨w.heap.size, 0, rfl, hlt, fun i hi => ?_⟩⟩
  simp only [List.length_cons, List.length_nil] at hi
  rcases (by omega : i = 0 ∨ i = 1) with rfl | rfl
  · exact ⟨u1, u2, by simp only [World.cell?, hn]; rfl, by simp only [World.cell?, hn]; rfl, hlt, i1.below e, i2.below e⟩
  · exact ⟨v1, v2, by simp only [World.cell?, hn]; rfl, by simp only [World.cell?, hn]; rfl, hlt, j1.below e, j2.below e⟩

set_option maxRecDepth 100000 in
set_option maxHeartbeats 8000000 in
theorem walk_FnPathClash (a0 : Option Addr) (len0 cap0 : Nat) (z0 : List Int) (w : World) (w0 : IsRowK .u8 w a0 len0 cap0 z0) :
    Calls Try.prog 11 #[.slice a0 len0 cap0] w fun e w' => e = .returned (.bool true) ∧ Below w.heap.size w w' := by
  rcases Nat.lt_or_ge 1048576 len0 with hbig | hsm
  · have hb : (1048576 : Int) < (len0 : Int) := by omega
    go_enter Try.func11, Try.ntmps11
    go_wp2_with fail
    go_ret
    exact ⟨rfl, Below.refl _ _⟩
  have hb : (len0 : Int) ≤ 1048576 := by omega
  have DS := Lib.hid (drawClash w0 hsm)
  clear w0
  go_enter Try.func11, Try.ntmps11
  go_wp2_with (go_at_call 47; refine DS.out.mono ?_)
  rintro e w1 ⟨n, v, v', p, q, rfl, hn1, hn4, pv, qv, b1⟩
  obtain ⟨a1, m1, c1, a2, m2, c2, rfl⟩ := pv.form
  obtain ⟨a3, m3, c3, a4, m4, c4, rfl⟩ := qv.form
  obtain ⟨W, hW, pa, pb, hE⟩ := two_boxes2 w1 (.slice a1 m1 c1) (.slice a2 m2 c2) (.slice a3 m3 c3) (.slice a4 m4 c4) 44
  have HW := Lib.hid hW
  have PA := Lib.hid pa
  have PB := Lib.hid pb
  have PV := Lib.hid (pv.below hE)
  have QV := Lib.hid (qv.below hE)
  have C0 := Lib.hid (b1.trans (hE.mono b1.size))
  have hl5 := clashOf_length (n : Int) p q
  obtain ⟨L, hL⟩ : ∃ L, L = clashOf (n : Int) p q := ⟨_, rfl⟩
  rw [← hL] at hl5
  have HL := Lib.hid hL
  have GC := fun (X : World) (hX : Below W.heap.size W X) => implClash (n := (n : Int)) (PV.out.below hX) (QV.out.below hX)
  have GS := fun (X : World) (hX : Below W.heap.size W X) => specClash (n := (n : Int)) (PV.out.below hX) (QV.out.below hX)
  have GR := fun (X : World) (hX : Below W.heap.size W X) => implClash (n := (n : Int)) (QV.out.below hX) (PV.out.below hX)
  have GE := fun (X : World) (hX : Below W.heap.size W X) => implClash (n := (n : Int)) (PV.out.below hX) (PV.out.below hX)
  rw [← hL] at GC GS
  rw [← clashOf_sym, ← hL] at GR
  have GC := Lib.hid GC
  have GS := Lib.hid GS
  have GR := Lib.hid GR
  have GE := Lib.hid GE
  clear hW pa pb hE pv qv b1 DS hL
  have k0 := PA.out.cell0
  have k1 := PA.out.cell1
  have k2 := PB.out.cell0
  have k3 := PB.out.cell1
  go_upto_region 4 with fail
  rw [HW.out]
  go_wp2_with (go_at_call 48; refine (GC.out _ (Below.refl _ _)).mono ?_)
  rintro e w2 ⟨v2, rfl, o2, b2⟩
  obtain ⟨x2, y2, rfl⟩ := own_slice2 o2
  have I2 := Lib.hid (o2.ints (by omega))
  have D2 := Lib.hid b2
  clear o2 b2 k0 k1 k2 k3
  have k0 := (PA.out.below D2.out).cell0
  have k1 := (PA.out.below D2.out).cell1
  have k2 := (PB.out.below D2.out).cell0
  have k3 := (PB.out.below D2.out).cell1
  go_wp2_with (go_at_call 49; refine (GS.out _ D2.out).mono ?_)
  rintro e w3 ⟨v3, rfl, o3, b3⟩
  obtain ⟨x3, y3, rfl⟩ := own_slice2 o3
  have I3 := Lib.hid (o3.ints (by omega))
  have I2 := Lib.hid (I2.out.below b3)
  have D3 := Lib.hid (D2.out.trans (b3.mono D2.out.size))
  have SI := fun (X : World) (hX : Below w3.heap.size w3 X) => sameInts (I2.out.below hX) (I3.out.below hX)
  rw [decide_eq_true rfl] at SI
  have SI := Lib.hid SI
  clear o3 b3 k0 k1 k2 k3
  go_wp2_with (go_at_call 21; refine (SI.out _ (Below.refl _ _)).mono ?_)
  rintro e w4 ⟨rfl, b4⟩
  have B4 := Lib.hid b4
  have D4 := Lib.hid (D3.out.trans (b4.mono D3.out.size))
  clear b4
  by_cases h0 : L = []
  · subst h0
    go_wp2_with (go_at_call 21; refine (SI.out _ B4.out).mono ?_)
    rintro e w5 ⟨rfl, b5⟩
    have CE := Lib.hid (C0.out.trans ((D4.out.trans (b5.mono D4.out.size)).mono C0.out.size))
    clear b5
    go_wp2_with fail
    go_ret
    exact ⟨rfl, CE.out⟩
  have hlen : ((L.length : Int) == 0) = false := by
    have : L.length ≠ 0 := fun e => h0 (List.eq_nil_of_length_eq_zero e)
    simpa using h0
  have hcb : clashB (n : Int) p q = true := by
    cases e : clashB (n : Int) p q
    · exact absurd (HL.out.trans (clashOf_no e)) h0
    · rfl
  obtain ⟨hpb, hqb⟩ := clashB_is hcb
  have hself := clash_self hpb
  have hpair := clash_pair (n := (n : Int)) (p := p) (q := q) (by rw [← HL.out]; exact h0)
  have fl1 := lateV_len (n : Int) p 7
  have fl2 := lateV_len (n : Int) q 7
  have CLT := Lib.hid (fun h1 h2 => (clashOf_late (n := (n : Int)) (p := p) (q := q) h1 h2).trans HL.out.symm)
  have I4 := Lib.hid (I2.out.below B4.out)
  have GE4 := GE.out
  obtain ⟨E, hE⟩ : ∃ E, E = clashOf (n : Int) p p := ⟨_, rfl⟩
  rw [← hE] at GE4 hself
  have GE4 := Lib.hid GE4
  have LP := implLate (n := (n : Int)) (d := 7) (PV.out.below D4.out)
  have LQ := fun (X : World) (hX : Below W.heap.size W X) => implLate (n := (n : Int)) (d := 7) (QV.out.below hX)
  obtain ⟨t8, ht8⟩ : ∃ t, t = lateW (n : Int) p 7 := ⟨_, rfl⟩
  obtain ⟨t9, ht9⟩ : ∃ t, t = lateW (n : Int) q 7 := ⟨_, rfl⟩
  obtain ⟨P', hP'⟩ : ∃ x, x = lateV (n : Int) p 7 := ⟨_, rfl⟩
  obtain ⟨Q', hQ'⟩ : ∃ x, x = lateV (n : Int) q 7 := ⟨_, rfl⟩
  rw [← ht8, ← hP'] at LP
  rw [← ht9, ← hQ'] at LQ
  rw [← hP'] at fl1
  rw [← hQ'] at fl2
  rw [← ht8, ← ht9, ← hP', ← hQ'] at CLT
  have LP := Lib.hid LP
  have LQ := Lib.hid LQ
  have HPR := Lib.hid hpair
  have hself2 : ((E.length : Int) == (n : Int)) = true := by rw [hself]; simp
  have hE5 : E.length ≤ 1048576 := by omega
  clear ht8 ht9 hP' hQ' hE GE hcb hpb hqb h0 hpair hself
  have k0 := (PA.out.below D4.out).cell0
  have k1 := (PA.out.below D4.out).cell1
  go_wp2_with (go_at_call 45; refine LP.out.mono ?_)
  rintro e w5 ⟨v5, rfl, o5, b5⟩
  obtain ⟨a5, m5, c5, a6, m6, c6, rfl⟩ := o5.form
  have q5 := below_alloc w5 (.cells #[.slice a5 m5 c5, .slice a6 m6 c6] 44)
  have p5 := Pair.new w5 (.slice a5 m5 c5) (.slice a6 m6 c6) 44
  obtain ⟨w6, h6⟩ : ∃ X, X = w5.alloc (.cells #[.slice a5 m5 c5, .slice a6 m6 c6] 44) := ⟨_, rfl⟩
  rw [← h6] at q5 p5
  have H6 := Lib.hid h6.symm
  have B6 := Lib.hid (b5.trans (q5.mono b5.size))
  have D6 := Lib.hid (D4.out.trans (B6.out.mono D4.out.size))
  have V5 := Lib.hid ((o5.pathV (by omega) (by omega)).below q5)
  have P5 := Lib.hid p5
  have I4 := Lib.hid (I4.out.below B6.out)
  clear h6 q5 p5 o5 b5 k0 k1 LP
  have k2 := (PB.out.below D6.out).cell0
  have k3 := (PB.out.below D6.out).cell1
  go_upto_region 9 with fail
  rw [H6.out]
  go_wp2_with (go_at_call 45; refine (LQ.out _ D6.out).mono ?_)
  rintro e w7 ⟨v7, rfl, o7, b7⟩
  obtain ⟨a7, m7, c7, a8, m8, c8, rfl⟩ := o7.form
  have q7 := below_alloc w7 (.cells #[.slice a7 m7 c7, .slice a8 m8 c8] 44)
  have p7 := Pair.new w7 (.slice a7 m7 c7) (.slice a8 m8 c8) 44
  obtain ⟨w8, h8⟩ : ∃ X, X = w7.alloc (.cells #[.slice a7 m7 c7, .slice a8 m8 c8] 44) := ⟨_, rfl⟩
  rw [← h8] at q7 p7
  have H8 := Lib.hid h8.symm
  have B8 := Lib.hid (b7.trans (q7.mono b7.size))
  have D8 := Lib.hid (D6.out.trans (B8.out.mono D6.out.size))
  have V7 := Lib.hid ((o7.pathV (by omega) (by omega)).below q7)
  have P7 := Lib.hid p7
  have V5 := Lib.hid (V5.out.below B8.out)
  have P5 := Lib.hid (P5.out.below B8.out)
  have I4 := Lib.hid (I4.out.below B8.out)
  clear h8 q7 p7 o7 b7 k2 k3 LQ
  have k0 := (PA.out.below D8.out).cell0
  have k1 := (PA.out.below D8.out).cell1
  go_upto_region 10 with fail
  rw [H8.out]
  go_wp2_with (go_at_call 48; refine (GE4.out _ D8.out).mono ?_)
  rintro e w9 ⟨v9, rfl, o9, b9⟩
  obtain ⟨x9, y9, rfl⟩ := own_slice2 o9
  have B9 := Lib.hid b9
  have D9 := Lib.hid (D8.out.trans (b9.mono D8.out.size))
  have V7 := Lib.hid (V7.out.below b9)
  have P7 := Lib.hid (P7.out.below b9)
  have V5 := Lib.hid (V5.out.below b9)
  have P5 := Lib.hid (P5.out.below b9)
  have I4 := Lib.hid (I4.out.below b9)
  clear o9 b9 k0 k1
  have k0 := (PA.out.below D9.out).cell0
  have k1 := (PA.out.below D9.out).cell1
  have k2 := (PB.out.below D9.out).cell0
  have k3 := (PB.out.below D9.out).cell1
  go_wp2_with (go_at_call 48; refine (GR.out _ D9.out).mono ?_)
  rintro e w10 ⟨v10, rfl, o10, b10⟩
  obtain ⟨x10, y10, rfl⟩ := own_slice2 o10
  have I10 := o10.ints (by omega)
  have S10 := sameInts I10 (I4.out.below b10)
  rw [decide_eq_true rfl] at S10
  have S10 := Lib.hid S10
  have D10 := Lib.hid (D9.out.trans (b10.mono D9.out.size))
  have B10 := Lib.hid b10
  clear o10 b10 I10 k0 k1 k2 k3
  go_wp2_with (go_at_call 21; refine S10.out.mono ?_)
  rintro e w11 ⟨rfl, b11⟩
  have D11 := Lib.hid (D10.out.trans (b11.mono D10.out.size))
  have B11 := Lib.hid (B10.out.trans (b11.mono B10.out.size))
  clear b11
  by_cases hboth : t8 = true ∧ t9 = true
  · obtain ⟨rfl, rfl⟩ := hboth
    have k4 := (P5.out.below B11.out).cell0
    have k5 := (P5.out.below B11.out).cell1
    have k6 := (P7.out.below B11.out).cell0
    have k7 := (P7.out.below B11.out).cell1
    have GX := implClash (n := (n : Int)) (V5.out.below B11.out) (V7.out.below B11.out)
    rw [CLT.out rfl rfl] at GX
    have GX := Lib.hid GX
    go_wp2_with (go_at_call 48; refine GX.out.mono ?_)
    rintro e w12 ⟨v12, rfl, o12, b12⟩
    obtain ⟨x12, y12, rfl⟩ := own_slice2 o12
    have S12 := sameInts (o12.ints (by omega)) ((I4.out.below B11.out).below b12)
    rw [decide_eq_true rfl] at S12
    have S12 := Lib.hid S12
    have D12 := Lib.hid (D11.out.trans (b12.mono D11.out.size))
    clear o12 b12 k4 k5 k6 k7
    go_wp2_with (go_at_call 21; refine S12.out.mono ?_)
    rintro e w13 ⟨rfl, b13⟩
    have D13 := Lib.hid (D12.out.trans (b13.mono D12.out.size))
    have k0 := (PA.out.below D13.out).cell0
    have k1 := (PA.out.below D13.out).cell1
    have k2 := (PB.out.below D13.out).cell0
    have k3 := (PB.out.below D13.out).cell1
    have bl := below_alloc w13 (.cells #[.slice a1 m1 c1, .slice a2 m2 c2, .slice a3 m3 c3, .slice a4 m4 c4] 44)
    have PP := implPaths (n := (n : Int)) (two_paths (PV.out.below D13.out) (QV.out.below D13.out) 44)
    rw [HPR.out] at PP
    have PP := Lib.hid PP
    have CF := Lib.hid (C0.out.trans ((D13.out.trans (bl.mono D13.out.size)).mono C0.out.size))
    clear b13 bl
    go_wp2_with (go_at_call 50; refine PP.out.mono ?_; rintro e w14 ⟨rfl, b14⟩)
    go_ret
    exact ⟨rfl, CF.out.trans (b14.mono CF.out.size)⟩
  · have hcase : t8 = false ∨ (t8 = true ∧ t9 = false) := by
      cases t8
      · exact .inl rfl
      · cases t9
        · exact .inr ⟨rfl, rfl⟩
        · exact absurd ⟨rfl, rfl⟩ hboth
    have k0 := (PA.out.below D11.out).cell0
    have k1 := (PA.out.below D11.out).cell1
    have k2 := (PB.out.below D11.out).cell0
    have k3 := (PB.out.below D11.out).cell1
    have bl := below_alloc w11 (.cells #[.slice a1 m1 c1, .slice a2 m2 c2, .slice a3 m3 c3, .slice a4 m4 c4] 44)
    have PP := implPaths (n := (n : Int)) (two_paths (PV.out.below D11.out) (QV.out.below D11.out) 44)
    rw [HPR.out] at PP
    have PP := Lib.hid PP
    have CF := Lib.hid (C0.out.trans ((D11.out.trans (bl.mono D11.out.size)).mono C0.out.size))
    clear hboth bl
    rcases hcase with rfl | ⟨rfl, rfl⟩
    all_goals
      go_wp2_with (go_at_call 50; refine PP.out.mono ?_; rintro e w14 ⟨rfl, b14⟩)
      go_ret
      exact ⟨rfl, CF.out.trans (b14.mono CF.out.size)⟩

end Go.Proofs.Ytoebgdcgcdigaaa

namespace Go.Proofs.Ytoebgdcgcdigaaa.fnPathClash
open Go.ChangeShapes Go.WideShapes Go.ChangeAt Go.RowKit
open Go.ChangeMaps (open_string shut_string)
set_option linter.unusedVariables false

theorem own : ownKnob Try.prog.godebug = none := by kernel_rfl
theorem laidOut : laidOutB Try.prog = true := by kernel_rfl

set_option maxRecDepth 100000 in
theorem lifted (os : Os) (started : os.Started) (H : Type) (enc : TypeId × Value → H) :
    ReturnsInHanded {} Try.checked os 11 .any (Rows.fnPathClashSpec.pre6 enc Try.prog Try.f11 Rows.fnPathClashRow.domain false) (Rows.fnPathClashSpec.post enc Try.prog Try.f11 false true false false) := by
  refine returnsInHanded_of_change (C := Try.checked) own started (by kernel_rfl) Try.func11
    (ChangeSpec.witness6 (enc := enc) (C := Try.checked) false ⟨#[], #[.slice none 0 0], []⟩ 8 (by kernel_rfl) (by kernel_rfl) (by kernel_rfl) (by kernel_rfl)) ?_
  intro W base args ds gs before hval0 hW hcnd _
  have hval : ∀ (j : Nat) t v, Try.f11.params[j]? = some t → args[j]? = some v → Value.okWide Try.prog W .any base t v := hval0
  have hW' := hW
  obtain ⟨p, q, hA0, hV, rfl, hfz, hnd⟩ := hW
  have hA : DataW.TrodAll enc Try.prog W 0 (fun _ => true) true Try.f11.params.toList args.toList ds p := hA0
  rw [Try.params11] at hA hval
  obtain ⟨v0, vs0, d0, ds0, p0, q0, hargs, rfl, rfl, h0, r0⟩ := trodAll_cons hA
  obtain ⟨rfl, rfl, rfl⟩ := trodAll_nil r0
  obtain rfl : args = #[v0] := by cases args; simp_all
  obtain ⟨rfl, rfl⟩ := trodVars_none hV
  obtain ⟨a0, len0, cap0, rfl⟩ := okWide_slice Try.underlying22 (hval 0 22 v0 rfl rfl)
  have k0 := h0
  have lt0 : ∀ x ∈ p0, x.block < W.heap.size := by obtain ⟨m, hm⟩ := k0; exact DataW.trod_lt m _ _ _ hm
  obtain ⟨z0, w0⟩ : ∃ zs, IsRowK .u8 W a0 len0 cap0 zs := by
    obtain ⟨fuel, hf⟩ := h0
    rcases open_ints Try.underlying22 Try.underlying5 (by kernel_rfl) hf with ⟨hcs, _⟩ | ⟨x, l, c, zs, hcs, _, hl, hm, hz, _, hcell, hwz⟩
    · simp [Value.cells] at hcs
      obtain ⟨rfl, rfl, rfl⟩ := hcs
      exact ⟨[], .inl ⟨rfl, rfl, rfl, rfl⟩⟩
    · simp [Value.cells] at hcs
      obtain ⟨rfl, rfl, rfl⟩ := hcs
      exact ⟨zs, .inr ⟨_, rfl, hl, hm, by simpa using hz, hcell, hwz⟩⟩
  clear hA0 hval0
  refine (walk_FnPathClash a0 len0 cap0 z0 W w0).mono fun e W' ⟨he, bel⟩ => ?_
  subst he
  exact ⟨_, rfl, _, _, _, [], _, [], hW', trodAll_mk1 (shut_bool Try.underlying4 _), (trodAll_cons_mk (Below.trod laidOut (by kernel_rfl) (of_decide_eq_true (by kernel_rfl)) k0 bel lt0) trodAll_mk0), rfl, bel.frame _, fun h => by cases h⟩

theorem closed : joinedFacts Try.checked.prog 11 Try.f11 Rows.fnPathClashSpec Rows.fnPathClashRow = true := by
  unfold joinedFacts
  simp only [Bool.and_eq_true]
  repeat' (refine And.intro ?_ ?_)
  all_goals first
    | with_reducible exact may_enter
    | (rw [lifts_final]; kernel_rfl)
    | (rw [make_is]; kernel_rfl)
    | kernel_rfl

theorem over : Rows.fnPathClashRow.holds Try.pinned (OpenSpec.ofChange Rows.fnPathClashSpec) :=
  OpenClaim.holds_of_wide 11 Try.f11 rfl rfl rfl rfl rfl rfl rfl ⟨rfl, rfl, rfl, rfl, rfl⟩ rfl rfl rfl rfl rfl (by kernel_rfl) Try.func11 closed
    (of_decide_eq_true (by kernel_rfl)) (by unfold Func.isWrapper; first | (rw [if_pos (by decide +kernel)]; kernel_rfl) | (rw [if_neg (by decide +kernel)]; exact ⟨rfl, rfl⟩))
    (fun os started H enc _ => lifted os started H enc)

theorem proved : Rows.FnPathClashSaid := over
#print axioms proved
end Go.Proofs.Ytoebgdcgcdigaaa.fnPathClash
